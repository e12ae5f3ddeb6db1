/-
  The choice of one of some functions; plain data only.
  How the program's reader reads a text from the left; plain data only. What a call of the reader keeps.
  Terms as data: their texts, and how a reader reads them from the left; plain data only.
  Where a term ends: as data (what the model's reader says of a text); plain data only.
  What is told of a term: its size, its depth, its head, its parts; plain data only.
-/
import Derived.Test.YtgkfddhhkjblgaaGreatDoorB11
import Derived.Test.YtgkfddhhkjblgaaGreatDoorB3
namespace Go.Proofs.YtgkfddhhkjblgaaGreatDoor
open Go.RowKit

/-- The words for how a choice went. -/
def wOne : ByteArray := ⟨#[111, 110, 101]⟩
def wMany : ByteArray := ⟨#[109, 97, 110, 121]⟩
def wNone : ByteArray := ⟨#[110, 111, 110, 101]⟩

/-- Is one of a list before all others of it? -/
def chiefB (lt : Int → Int → Bool) (L : List Int) (i : Int) : Bool := L.all fun k => decide (k = i) || lt i k
theorem chiefB_yes {lt : Int → Int → Bool} {L : List Int} {i : Int} (h : ∀ m, ∀ (hm : m < L.length), L[m] ≠ i → lt i L[m] = true) : chiefB lt L i = true := by
  unfold chiefB
  refine all_true_of (p := fun k => decide (k = i) || lt i k) fun m hm => ?_
  by_cases e : L[m] = i
  · simp [e]
  · simp [h m hm e]
theorem chiefB_no {lt : Int → Int → Bool} {L : List Int} {i : Int} {m : Nat} (hm : m < L.length) (h1 : L[m] ≠ i) (h2 : lt i L[m] = false) : chiefB lt L i = false := by
  unfold chiefB
  exact all_false_of (p := fun k => decide (k = i) || lt i k) m hm (by simp [h1, h2])
theorem chiefB_of {lt : Int → Int → Bool} {L : List Int} {i : Int} (h : chiefB lt L i = true) {k : Int} (hk : k ∈ L) (hne : k ≠ i) : lt i k = true := by
  unfold chiefB at h
  have := List.all_eq_true.1 h k hk
  simpa [hne] using this

/-- What is chosen: the first that is before all others, or -1. -/
def pickI (lt : Int → Int → Bool) (L : List Int) : Int := match L.find? (chiefB lt L) with
  | some i => i
  | none => -1
def pickW (lt : Int → Int → Bool) (L : List Int) : ByteArray := match L.find? (chiefB lt L) with
  | some _ => wOne
  | none => if L = [] then wNone else wMany
theorem pick_nil (lt : Int → Int → Bool) : pickI lt [] = -1 ∧ pickW lt [] = wNone := ⟨rfl, rfl⟩
theorem find_none_take {L : List Int} {p : Int → Bool} (h : ∀ m, ∀ (hm : m < L.length), p L[m] = false) : L.find? p = none := by
  rw [List.find?_eq_none]
  intro x hx
  obtain ⟨m, hm, rfl⟩ := List.getElem_of_mem hx
  simp [h m hm]
theorem find_at {p : Int → Bool} : ∀ (L : List Int) (j : Nat) (hj : j < L.length), (∀ m, m < j → ∀ (hm : m < L.length), p L[m] = false) → p L[j] = true → L.find? p = some L[j]
  | [], j, hj, _, _ => absurd hj (by simp)
  | x :: l, 0, _, _, h => by simp [show p x = true from h]
  | x :: l, j + 1, hj, hm, h => by
    have h0 : p x = false := hm 0 (by omega) (by simp)
    rw [List.find?_cons, h0]
    exact find_at l j (by simpa using hj) (fun m h1 h2 => hm (m + 1) (by omega) (by simpa using h2)) h
theorem pick_at {lt : Int → Int → Bool} {L : List Int} {j : Nat} (hj : j < L.length) (hno : ∀ m, m < j → ∀ (hm : m < L.length), chiefB lt L L[m] = false) (h : chiefB lt L L[j] = true) : pickI lt L = L[j] ∧ pickW lt L = wOne := by
  unfold pickI pickW
  rw [find_at L j hj hno h]
  exact ⟨rfl, rfl⟩
theorem pick_many {lt : Int → Int → Bool} {L : List Int} (h0 : L ≠ []) (hno : ∀ m, ∀ (hm : m < L.length), chiefB lt L L[m] = false) : pickI lt L = -1 ∧ pickW lt L = wMany := by
  unfold pickI pickW
  rw [find_none_take hno, if_neg h0]
  exact ⟨rfl, rfl⟩
theorem pickI_mem (lt : Int → Int → Bool) (L : List Int) : pickI lt L = -1 ∨ pickI lt L ∈ L := by
  unfold pickI
  cases h : L.find? (chiefB lt L) with
  | none => exact .inl rfl
  | some i => exact .inr (List.mem_of_find?_eq_some h)
theorem pickW_size (lt : Int → Int → Bool) (L : List Int) : (pickW lt L).size ≤ 4 := by
  unfold pickW
  split
  · decide
  · split <;> decide
theorem pick_congr {f g : Int → Int → Bool} {L : List Int} (h : ∀ i ∈ L, ∀ k ∈ L, k ≠ i → f i k = g i k) : pickI f L = pickI g L ∧ pickW f L = pickW g L := by
  have e : ∀ i ∈ L, chiefB f L i = chiefB g L i := fun i hi => by
    unfold chiefB
    rw [Bool.eq_iff_iff, List.all_eq_true, List.all_eq_true]
    refine forall_congr' fun k => forall_congr' fun hk => ?_
    by_cases e : k = i
    · simp [e]
    · rw [h i hi k hk e]
  have e2 : L.find? (chiefB f L) = L.find? (chiefB g L) := by
    have : ∀ l : List Int, (∀ i ∈ l, chiefB f L i = chiefB g L i) → l.find? (chiefB f L) = l.find? (chiefB g L) := by
      intro l
      induction l with
      | nil => intro _; rfl
      | cons x l ih =>
        intro hx
        rw [List.find?_cons, List.find?_cons, hx x (by simp), ih fun i hi => hx i (by simp [hi])]
    exact this L e
  unfold pickI pickW
  rw [e2]
  exact ⟨rfl, rfl⟩

/-- One function is below another one. -/
noncomputable def ltB (y : Sy) (i k : Int) : Bool := fitsToB y.ty (argsOf y i) (argsOf y k)
/-- One function costs less than another one. -/
noncomputable def ltC (y : Sy) (ks : List Int) (i k : Int) : Bool := decide (costOf y ks i < costOf y ks k)

/-- The costs of a list, looked through once: the first with the least cost, this cost, and how many have it. -/
structure Best where
  best : Int
  cost : Int
  times : Nat
def bestStep (c : Int → Int) (b : Best) (i : Int) : Best :=
  if b.times = 0 ∨ c i < b.cost then ⟨i, c i, 1⟩ else if c i = b.cost then ⟨b.best, b.cost, b.times + 1⟩ else b
def bestOf (c : Int → Int) (l : List Int) : Best := l.foldl (bestStep c) ⟨-1, 0, 0⟩
theorem bestOf_nil (c : Int → Int) : bestOf c [] = ⟨-1, 0, 0⟩ := rfl
theorem bestOf_snoc (c : Int → Int) (l : List Int) (i : Int) : bestOf c (l ++ [i]) = bestStep c (bestOf c l) i := by simp [bestOf, List.foldl_append]
/-- What is known of it. -/
structure BestIs (c : Int → Int) (l : List Int) (b : Best) : Prop where
  nil : b.times = 0 ↔ l = []
  none : l = [] → b.best = -1
  mem : l ≠ [] → b.best ∈ l ∧ c b.best = b.cost
  low : ∀ k ∈ l, b.cost ≤ c k
  count : b.times = (l.filter fun k => decide (c k = b.cost)).length ∨ l = []
theorem bestIs (c : Int → Int) : ∀ n, ∀ l : List Int, l.length = n → BestIs c l (bestOf c l)
  | 0, l, h => by
    obtain rfl : l = [] := by simpa using h
    exact ⟨by simp [bestOf], fun _ => rfl, fun h => absurd rfl h, fun k hk => absurd hk (by simp), .inr rfl⟩
  | n + 1, l, h => by
    have hl : l ≠ [] := fun e => by simp [e] at h
    obtain ⟨l', i, rfl⟩ : ∃ l' i, l = l' ++ [i] := ⟨l.dropLast, l.getLast hl, (List.dropLast_concat_getLast hl).symm⟩
    have ih := bestIs c n l' (by simpa using h)
    rw [bestOf_snoc]
    generalize bestOf c l' = b at ih
    unfold bestStep
    by_cases h0 : b.times = 0 ∨ c i < b.cost
    · rw [if_pos h0]
      have hlow : ∀ k ∈ l', c i < c k := fun k hk => by
        rcases h0 with h0 | h0
        · rw [ih.nil.1 h0] at hk
          exact absurd hk (by simp)
        · have := ih.low k hk
          omega
      refine ⟨by simp, fun e => absurd e (by simp), fun _ => ⟨by simp, rfl⟩, fun k hk => ?_, .inl ?_⟩
      · rcases List.mem_append.1 hk with hk | hk
        · exact Int.le_of_lt (hlow k hk)
        · simp at hk; rw [hk]; exact Int.le_refl _
      · have e : l'.filter (fun k => decide (c k = c i)) = [] := by
          rw [List.filter_eq_nil_iff]
          intro k hk
          have := hlow k hk
          simp
          omega
        simp [List.filter_append, e]
    · rw [if_neg h0]
      have h1 : b.times ≠ 0 := fun e => h0 (.inl e)
      have h2 : ¬ c i < b.cost := fun e => h0 (.inr e)
      have hl' : l' ≠ [] := fun e => h1 (ih.nil.2 e)
      have hcount : b.times = (l'.filter fun k => decide (c k = b.cost)).length := ih.count.resolve_right hl'
      by_cases h3 : c i = b.cost
      · rw [if_pos h3]
        refine ⟨by simp, fun e => absurd e (by simp), fun _ => ⟨by simp [(ih.mem hl').1], (ih.mem hl').2⟩, fun k hk => ?_, .inl ?_⟩
        · rcases List.mem_append.1 hk with hk | hk
          · exact ih.low k hk
          · simp at hk; rw [hk]; show b.cost ≤ c i; omega
        · simp [List.filter_append, h3, hcount]
      · rw [if_neg h3]
        refine ⟨by simp [h1], fun e => absurd e (by simp), fun _ => ⟨by simp [(ih.mem hl').1], (ih.mem hl').2⟩, fun k hk => ?_, .inl ?_⟩
        · rcases List.mem_append.1 hk with hk | hk
          · exact ih.low k hk
          · simp at hk; rw [hk]; omega
        · simp [List.filter_append, h3, hcount]

/-- The unique one with the least cost is the one that costs less than all others. -/
theorem best_pick {c : Int → Int} {L : List Int} (hnd : L.Nodup) : ((bestOf c L).times = 0 → L = []) ∧ ((bestOf c L).times = 1 → pickI (fun i k => decide (c i < c k)) L = (bestOf c L).best ∧ pickW (fun i k => decide (c i < c k)) L = wOne) ∧
    (2 ≤ (bestOf c L).times → pickI (fun i k => decide (c i < c k)) L = -1 ∧ pickW (fun i k => decide (c i < c k)) L = wMany) := by
  have h := bestIs c L.length L rfl
  generalize bestOf c L = b at h
  refine ⟨h.nil.1, fun h1 => ?_, fun h2 => ?_⟩
  · have hne : L ≠ [] := fun e => by have := h.nil.2 e; omega
    obtain ⟨hm, hc⟩ := h.mem hne
    have hcount := h.count.resolve_right hne
    rw [h1] at hcount
    have huniq : ∀ k ∈ L, k ≠ b.best → c b.best < c k := fun k hk hkb => by
      have hlow := h.low k hk
      by_cases e : c k = b.cost
      · have m1 : k ∈ L.filter fun k => decide (c k = b.cost) := List.mem_filter.2 ⟨hk, by simp [e]⟩
        have m2 : b.best ∈ L.filter fun k => decide (c k = b.cost) := List.mem_filter.2 ⟨hm, by simp [hc]⟩
        obtain ⟨x, hx⟩ := List.length_eq_one_iff.1 hcount.symm
        rw [hx] at m1 m2
        simp at m1 m2
        exact absurd (m1.trans m2.symm) hkb
      · omega
    obtain ⟨j, hj, ej⟩ := List.getElem_of_mem hm
    have := pick_at (lt := fun i k => decide (c i < c k)) hj (fun m hmj hml => ?_) (chiefB_yes fun m hml hne2 => ?_)
    · rw [ej] at this
      exact this
    · have hne3 : L[m] ≠ L[j] := fun e => by
        have := (List.getElem_inj (h₀ := hml) (h₁ := hj) hnd).1 e
        omega
      refine chiefB_no hj (Ne.symm hne3) ?_
      have := huniq L[m] (List.getElem_mem hml) (by rw [← ej]; exact hne3)
      rw [ej]
      simp
      omega
    · have := huniq L[m] (List.getElem_mem hml) (by rw [← ej]; exact hne2)
      rw [ej]
      simpa using this
  · have hne : L ≠ [] := fun e => by have := h.nil.2 e; omega
    have hcount := h.count.resolve_right hne
    refine pick_many hne fun m hm => ?_
    -- another one has the least cost
    by_cases e : ∃ k ∈ L, k ≠ L[m] ∧ c k = b.cost
    · obtain ⟨k, hk, hkm, hkc⟩ := e
      obtain ⟨q, hq, eq⟩ := List.getElem_of_mem hk
      refine chiefB_no hq (by rw [eq]; exact hkm) ?_
      have := h.low L[m] (List.getElem_mem hm)
      rw [eq]
      simp
      omega
    · exfalso
      have hall : ∀ k ∈ L.filter (fun k => decide (c k = b.cost)), k = L[m] := fun k hk => by
        obtain ⟨h3, h4⟩ := List.mem_filter.1 hk
        apply Classical.byContradiction
        intro h5
        exact e ⟨k, h3, h5, of_decide_eq_true h4⟩
      have hnd2 : (L.filter fun k => decide (c k = b.cost)).Nodup := hnd.filter _
      have hle : (L.filter fun k => decide (c k = b.cost)).length ≤ 1 := by
        generalize L.filter (fun k => decide (c k = b.cost)) = F at hall hnd2
        match F, hall, hnd2 with
        | [], _, _ => simp
        | [_], _, _ => simp
        | x :: z :: F, hall, hnd2 =>
          have e1 := hall x (by simp)
          have e2 := hall z (by simp)
          rw [e1, e2] at hnd2
          simp at hnd2
      omega
theorem applicV_nodup (y : Sy) (nm : ByteArray) (ks : List Int) : (applicV y nm ks).Nodup := (applicV_asc y nm ks).imp fun h => by omega

/-- A way leads from each type to itself, so a function's arguments fit themselves. -/
theorem canB_self {t : Ty} {a : Int} : canB t a a = true := by
  unfold canB waysOf
  simp [waysF]
theorem fits_self {y : Sy} (z : Int) : fitsToB y.ty (argsOf y z) (argsOf y z) = true := fitsToB_yes ⟨rfl, fun _ _ => canB_self⟩
end Go.Proofs.YtgkfddhhkjblgaaGreatDoor

namespace Go.Proofs.YtgkfddhhkjblgaaGreatDoor
open Go.RowKit

def isD (c : UInt8) : Bool := decide (48 ≤ c.toNat) && decide (c.toNat ≤ 57)
def valD (c : UInt8) : Int := (c.toNat : Int) - 48
def rdDigit : List UInt8 → Option (Int × List UInt8)
  | [] => none
  | c :: l => if isD c = true then some (valD c, l) else none
def rdTake (s : UInt8) : List UInt8 → Option (List UInt8)
  | [] => none
  | c :: l => if c = s then some l else none
def hasB (s : UInt8) : List UInt8 → Bool
  | [] => false
  | c :: _ => decide (c = s)
/-- Further numbers, each behind one space. -/
def rdMore : List UInt8 → Option (List Int × List UInt8)
  | [] => some ([], [])
  | [c] => if c = 32 then none else some ([], [c])
  | c :: d :: r => if c = 32 then (if isD d = true then (rdMore r).map fun p => (valD d :: p.1, p.2) else none) else some ([], c :: d :: r)
def rdNums (l : List UInt8) : Option (List Int × List UInt8) := (rdDigit l).bind fun p => (rdMore p.2).map fun q => (p.1 :: q.1, q.2)
def rdCo (l : List UInt8) : Option (Co × List UInt8) :=
  (rdDigit l).bind fun a => (rdTake 62 a.2).bind fun r1 => (rdDigit r1).bind fun b => (rdTake 58 b.2).bind fun r2 => (rdNums r2).map fun m => (⟨a.1, b.1, m.1⟩, m.2)
theorem rdMore_space {l : List UInt8} (h : hasB 32 l = true) : rdMore l = (rdTake 32 l).bind fun r => (rdDigit r).bind fun p => (rdMore p.2).map fun q => (p.1 :: q.1, q.2) := by
  match l, h with
  | [c], h =>
    have hc : c = 32 := by simpa [hasB] using h
    subst hc
    rfl
  | c :: d :: r, h =>
    have hc : c = 32 := by simpa [hasB] using h
    subst hc
    by_cases hd : isD d = true
    · simp [rdMore, rdTake, rdDigit, hd]
    · simp [rdMore, rdTake, rdDigit, hd]
theorem rdMore_end {l : List UInt8} (h : hasB 32 l = false) : rdMore l = some ([], l) := by
  match l, h with
  | [], _ => rfl
  | [c], h =>
    have hc : ¬ c = 32 := by simpa [hasB] using h
    simp [rdMore, hc]
  | c :: d :: r, h =>
    have hc : ¬ c = 32 := by simpa [hasB] using h
    simp [rdMore, hc]
theorem rdDigit_len {l r : List UInt8} {z : Int} (h : rdDigit l = some (z, r)) : r.length + 1 = l.length := by
  match l, h with
  | c :: l, h =>
    simp only [rdDigit] at h
    split at h
    · simp only [Option.some.injEq, Prod.mk.injEq] at h
      rw [← h.2]
      rfl
    · cases h
theorem rdTake_len {s : UInt8} {l r : List UInt8} (h : rdTake s l = some r) : r.length + 1 = l.length := by
  match l, h with
  | c :: l, h =>
    simp only [rdTake] at h
    split at h
    · simp only [Option.some.injEq] at h
      rw [← h]
      rfl
    · cases h
theorem rdDigit_dig {l r : List UInt8} {z : Int} (h : rdDigit l = some (z, r)) : Dig z := by
  match l, h with
  | c :: l, h =>
    simp only [rdDigit] at h
    split at h
    · rename_i hc
      simp only [Option.some.injEq, Prod.mk.injEq] at h
      simp only [isD, Bool.and_eq_true, decide_eq_true_eq] at hc
      rw [← h.1]
      unfold Dig valD
      omega
    · cases h

/-- What a call of the reader in block b keeps: every block that stood, but b. -/
structure Keep (b : Nat) (w w' : World) : Prop where
  grown : w.grownBy w' (some b)
theorem Keep.refl (b : Nat) (w : World) : Keep b w w := ⟨⟨rfl, rfl, rfl, Nat.le_refl _, fun _ _ _ => rfl⟩⟩
theorem Keep.size {b : Nat} {w w' : World} (h : Keep b w w') : w.heap.size ≤ w'.heap.size := h.grown.size
theorem Keep.block {b : Nat} {w w' : World} (h : Keep b w w') {k : Nat} (hk : k < w.heap.size) (hb : k ≠ b) : w'.heap[k]? = w.heap[k]? := h.grown.block k hk fun e => hb (Option.some.inj e)
theorem Keep.trans {b : Nat} {w w' w'' : World} (h : Keep b w w') (k : Keep b w' w'') : Keep b w w'' :=
  ⟨⟨k.grown.os.trans h.grown.os, k.grown.tape.trans h.grown.tape, k.grown.output.trans h.grown.output, Nat.le_trans h.size k.size, fun j hj hb => (k.grown.block j (Nat.lt_of_lt_of_le hj h.size) hb).trans (h.grown.block j hj hb)⟩⟩
theorem Keep.of_below {b : Nat} {w w' w'' : World} (h : Keep b w w') (k : Below w'.heap.size w' w'') : Keep b w w'' :=
  h.trans ⟨⟨k.os, k.tape, k.output, k.size, fun j hj _ => k.block j hj⟩⟩
theorem Keep.setb {b : Nat} {w w' : World} (h : Keep b w w') (v : Value) : Keep b w (w'.setCell ⟨b, 0, none⟩ v) :=
  h.trans ⟨⟨rfl, rfl, rfl, by simp [World.setCell], fun j _ hb => Below.heap_setCell _ _ _ _ (fun e => hb (by simp [e]))⟩⟩
theorem Keep.below {b B : Nat} {w w' : World} (h : Keep b w w') (hb : B ≤ b) (hB : B ≤ w.heap.size) : Below B w w' :=
  ⟨h.grown.os, h.grown.tape, h.grown.output, h.size, fun k hk => h.block (by omega) (by omega)⟩
end Go.Proofs.YtgkfddhhkjblgaaGreatDoor

namespace Go.Proofs.YtgkfddhhkjblgaaGreatDoor
open Go.RowKit

inductive Tm where
  | lit (k v : Int) : Tm
  | c0 (n : UInt8) : Tm
  | c1 (n : UInt8) (a : Tm) : Tm
  | c2 (n : UInt8) (a b : Tm) : Tm

/-- The name of a function. -/
def isN (c : UInt8) : Bool := decide (102 ≤ c.toNat) && decide (c.toNat ≤ 107)
theorem isN_of {c : UInt8} (h : isN c = true) : 102 ≤ c.toNat ∧ c.toNat ≤ 107 := by simpa [isN] using h
theorem isD_of {c : UInt8} (h : isD c = true) : 48 ≤ c.toNat ∧ c.toNat ≤ 57 := by simpa [isD] using h
def mkCall (n : UInt8) : List Tm → Tm
  | [] => .c0 n
  | [a] => .c1 n a
  | a :: b :: _ => .c2 n a b
def rdLit (l : List UInt8) : Option (Tm × List UInt8) :=
  (rdDigit l).bind fun a => (rdTake 58 a.2).bind fun r => (rdDigit r).map fun b => (.lit a.1 b.1, b.2)
def rdArgs (rd : List UInt8 → Option (Tm × List UInt8)) (l : List UInt8) : Option (List Tm × List UInt8) :=
  if hasB 41 l = true then some ([], l)
  else (rd l).bind fun p => if hasB 44 p.2 = true then (rdTake 44 p.2).bind fun r => (rd r).map fun q => ([p.1, q.1], q.2) else some ([p.1], p.2)
def rdCall (rd : List UInt8 → Option (Tm × List UInt8)) (c : UInt8) (l : List UInt8) : Option (Tm × List UInt8) :=
  (rdTake 40 l).bind fun r => (rdArgs rd r).bind fun p => (rdTake 41 p.2).map fun r2 => (mkCall c p.1, r2)
def rdTm : Nat → List UInt8 → Option (Tm × List UInt8)
  | 0, _ => none
  | _ + 1, [] => none
  | f + 1, c :: l => if isN c = true then rdCall (rdTm f) c l else rdLit (c :: l)

def tmT : Tm → List UInt8
  | .lit k v => dg k ++ [58] ++ dg v
  | .c0 n => [n, 40, 41]
  | .c1 n a => [n, 40] ++ tmT a ++ [41]
  | .c2 n a b => [n, 40] ++ tmT a ++ [44] ++ tmT b ++ [41]
def TmOk : Tm → Prop
  | .lit k v => Dig k ∧ Dig v
  | .c0 n => isN n = true
  | .c1 n a => isN n = true ∧ TmOk a
  | .c2 n a b => isN n = true ∧ TmOk a ∧ TmOk b
def partsT : Tm → List Tm
  | .lit _ _ => []
  | .c0 _ => []
  | .c1 _ a => [a]
  | .c2 _ a b => [a, b]

theorem rdTm_nil (f : Nat) : rdTm f [] = none := by cases f <;> rfl
theorem rdTm_name (f : Nat) {c : UInt8} (l : List UInt8) (h : isN c = true) : rdTm (f + 1) (c :: l) = rdCall (rdTm f) c l := by rw [rdTm, if_pos h]
theorem rdTm_lit (f : Nat) {c : UInt8} (l : List UInt8) (h : isN c = false) : rdTm (f + 1) (c :: l) = rdLit (c :: l) := by rw [rdTm, if_neg (by simp [h])]

theorem dg_val {c : UInt8} (h : isD c = true) : dg (valD c) = [c] := by
  have h := isD_of h
  unfold dg valD
  have e : 48 + ((c.toNat : Int) - 48).toNat = c.toNat := by omega
  rw [e]
  simp
theorem rdDigit_eq {l r : List UInt8} {z : Int} (h : rdDigit l = some (z, r)) : Dig z ∧ l = dg z ++ r := by
  refine ⟨rdDigit_dig h, ?_⟩
  match l, h with
  | c :: l, h =>
    simp only [rdDigit] at h
    split at h
    · rename_i hc
      simp only [Option.some.injEq, Prod.mk.injEq] at h
      rw [← h.1, dg_val hc, ← h.2]
      rfl
    · cases h
theorem rdTake_eq {s : UInt8} {l r : List UInt8} (h : rdTake s l = some r) : l = s :: r := by
  match l, h with
  | c :: l, h =>
    simp only [rdTake] at h
    split at h
    · rename_i hc
      simp only [Option.some.injEq] at h
      rw [hc, h]
    · cases h
theorem rdTake_cons (s : UInt8) (l : List UInt8) : rdTake s (s :: l) = some l := by simp [rdTake]
theorem isD_dg {z : Int} (h : Dig z) : isD (UInt8.ofNat (48 + z.toNat)) = true ∧ valD (UInt8.ofNat (48 + z.toNat)) = z := by
  unfold Dig at h
  have e : (UInt8.ofNat (48 + z.toNat)).toNat = 48 + z.toNat := by
    rw [UInt8.toNat_ofNat']
    omega
  unfold isD valD
  rw [e]
  simp only [Bool.and_eq_true, decide_eq_true_eq]
  omega
theorem rdDigit_dg {z : Int} (h : Dig z) (r : List UInt8) : rdDigit (dg z ++ r) = some (z, r) := by
  have hd := isD_dg h
  show rdDigit (UInt8.ofNat (48 + z.toNat) :: r) = _
  rw [rdDigit, if_pos hd.1, hd.2]

/-- What is read is the text of what it is read as. -/
theorem rdTm_eq : ∀ (f : Nat) {l r : List UInt8} {t : Tm}, rdTm f l = some (t, r) → TmOk t ∧ l = tmT t ++ r
  | 0, l, r, t, h => by cases h
  | f + 1, [], r, t, h => by cases h
  | f + 1, c :: l, r, t, h => by
    cases hc : isN c with
    | false =>
      rw [rdTm_lit f l hc] at h
      unfold rdLit at h
      simp only [Option.bind_eq_some_iff, Option.map_eq_some_iff] at h
      obtain ⟨⟨k, l1⟩, h1, l2, h2, ⟨v, l3⟩, h3, h4⟩ := h
      obtain ⟨d1, e1⟩ := rdDigit_eq h1
      have e2 := rdTake_eq h2
      obtain ⟨d3, e3⟩ := rdDigit_eq h3
      injection h4 with h4 h5
      subst h4; subst h5
      dsimp only at e2 e3
      subst e3; subst e2
      exact ⟨⟨d1, d3⟩, by rw [e1]; simp [tmT]⟩
    | true =>
      rw [rdTm_name f l hc] at h
      unfold rdCall at h
      simp only [Option.bind_eq_some_iff, Option.map_eq_some_iff] at h
      obtain ⟨l1, h1, ⟨ts, l2⟩, h2, l3, h3, h4⟩ := h
      have e1 := rdTake_eq h1
      have e3 := rdTake_eq h3
      injection h4 with h4 h5
      subst h4; subst h5
      dsimp only at e3 h2 ⊢
      unfold rdArgs at h2
      split at h2
      · injection h2 with h2
        injection h2 with h2 h5
        subst h2; subst h5
        exact ⟨hc, by rw [e1, e3]; rfl⟩
      · simp only [Option.bind_eq_some_iff] at h2
        obtain ⟨⟨a, la⟩, h6, h7⟩ := h2
        obtain ⟨o6, e6⟩ := rdTm_eq f h6
        dsimp only at h7
        split at h7
        · simp only [Option.bind_eq_some_iff, Option.map_eq_some_iff] at h7
          obtain ⟨lb, h8, ⟨b, lc⟩, h9, h10⟩ := h7
          have e8 := rdTake_eq h8
          obtain ⟨o9, e9⟩ := rdTm_eq f h9
          injection h10 with h10 h11
          subst h10; subst h11
          dsimp only at e3
          exact ⟨⟨hc, o6, o9⟩, by rw [e1, e6, e8, e9, e3]; simp [mkCall, tmT]⟩
        · injection h7 with h7
          injection h7 with h7 h8
          subst h7; subst h8
          exact ⟨⟨hc, o6⟩, by rw [e1, e6, e3]; simp [mkCall, tmT]⟩

theorem tmT_first {t : Tm} (h : TmOk t) (r : List UInt8) : ∃ c l, tmT t ++ r = c :: l ∧ 2 ≤ l.length ∧ (isN c = true ∨ isD c = true) := by
  cases t with
  | lit k v => exact ⟨_, _, rfl, by simp [dg], .inr (isD_dg h.1).1⟩
  | c0 n => exact ⟨n, _, rfl, by simp, .inl h⟩
  | c1 n a => exact ⟨n, _, rfl, by simp; omega, .inl h.1⟩
  | c2 n a b => exact ⟨n, _, rfl, by simp; omega, .inl h.1⟩
theorem isN_not {c : UInt8} (h : isD c = true) : isN c = false := by
  have := isD_of h
  unfold isN
  simp only [Bool.and_eq_false_iff, decide_eq_false_iff_not]
  omega
theorem hasB_41 {t : Tm} (h : TmOk t) (r : List UInt8) : hasB 41 (tmT t ++ r) = false := by
  obtain ⟨c, l, e, _, hc⟩ := tmT_first h r
  rw [e]
  show decide (c = 41) = false
  rw [decide_eq_false_iff_not]
  rintro rfl
  rcases hc with hc | hc <;> exact absurd hc (by decide)
theorem tmT_len {t : Tm} (h : TmOk t) : 3 ≤ (tmT t).length := by
  obtain ⟨c, l, e, hl, _⟩ := tmT_first h []
  rw [List.append_nil] at e
  rw [e]
  simp only [List.length_cons]
  omega
/-- The text of a term is read as the term. -/
theorem rdTm_tmT : ∀ (f : Nat) {t : Tm} (r : List UInt8), TmOk t → (tmT t).length ≤ f → rdTm f (tmT t ++ r) = some (t, r)
  | 0, t, r, h, hl => by have := tmT_len h; omega
  | f + 1, .lit k v, r, h, hl => by
    have hd := isD_dg h.1
    have e : tmT (.lit k v) ++ r = UInt8.ofNat (48 + k.toNat) :: ([58] ++ dg v ++ r) := by simp [tmT, dg]
    rw [e, rdTm_lit f _ (isN_not hd.1)]
    have e2 : UInt8.ofNat (48 + k.toNat) :: ([58] ++ dg v ++ r) = dg k ++ ([58] ++ dg v ++ r) := rfl
    unfold rdLit
    rw [e2, rdDigit_dg h.1]
    have e3 : [58] ++ dg v ++ r = (58 : UInt8) :: (dg v ++ r) := by simp
    simp only [Option.bind_some]
    rw [e3, rdTake_cons]
    simp only [Option.bind_some]
    rw [rdDigit_dg h.2]
    rfl
  | f + 1, .c0 n, r, h, hl => by
    have e : tmT (.c0 n) ++ r = n :: 40 :: 41 :: r := rfl
    rw [e, rdTm_name f _ h]
    unfold rdCall
    rw [rdTake_cons]
    simp only [Option.bind_some]
    rw [rdArgs, if_pos (by simp [hasB])]
    simp only [Option.bind_some]
    rw [rdTake_cons]
    rfl
  | f + 1, .c1 n a, r, h, hl => by
    have e : tmT (.c1 n a) ++ r = n :: 40 :: (tmT a ++ (41 :: r)) := by simp [tmT]
    have hl2 : (tmT a).length ≤ f := by
      simp only [tmT, List.length_append, List.length_cons, List.length_nil] at hl
      omega
    rw [e, rdTm_name f _ h.1]
    unfold rdCall
    rw [rdTake_cons]
    simp only [Option.bind_some]
    rw [rdArgs, if_neg (by rw [hasB_41 h.2]; simp), rdTm_tmT f _ h.2 hl2]
    simp only [Option.bind_some]
    rw [if_neg (by simp [hasB])]
    simp only [Option.bind_some]
    rw [rdTake_cons]
    rfl
  | f + 1, .c2 n a b, r, h, hl => by
    have e : tmT (.c2 n a b) ++ r = n :: 40 :: (tmT a ++ (44 :: (tmT b ++ (41 :: r)))) := by simp [tmT]
    have hl2 : (tmT a).length ≤ f ∧ (tmT b).length ≤ f := by
      simp only [tmT, List.length_append, List.length_cons, List.length_nil] at hl
      omega
    rw [e, rdTm_name f _ h.1]
    unfold rdCall
    rw [rdTake_cons]
    simp only [Option.bind_some]
    rw [rdArgs, if_neg (by rw [hasB_41 h.2.1]; simp), rdTm_tmT f _ h.2.1 hl2.1]
    simp only [Option.bind_some]
    rw [if_pos (by simp [hasB]), rdTake_cons]
    simp only [Option.bind_some]
    rw [rdTm_tmT f _ h.2.2 hl2.2]
    simp only [Option.map_some, Option.bind_some]
    rw [rdTake_cons]
    rfl
theorem rdTm_len {f : Nat} {l r : List UInt8} {t : Tm} (h : rdTm f l = some (t, r)) : r.length + 3 ≤ l.length := by
  obtain ⟨ho, e⟩ := rdTm_eq f h
  have := tmT_len ho
  rw [e, List.length_append]
  omega
/-- With enough fuel it does not matter how much. -/
theorem rdTm_fuel {f g : Nat} {l : List UInt8} (hf : l.length ≤ f) (hg : l.length ≤ g) : rdTm f l = rdTm g l := by
  have key : ∀ {f g : Nat} {p : Tm × List UInt8}, l.length ≤ g → rdTm f l = some p → rdTm g l = some p := by
    intro f g p hg h
    obtain ⟨t, r⟩ := p
    obtain ⟨ho, e⟩ := rdTm_eq f h
    have hl : (tmT t).length ≤ g := by rw [e, List.length_append] at hg; omega
    rw [e]
    exact rdTm_tmT g r ho hl
  cases h : rdTm f l with
  | some p => exact (key hg h).symm
  | none =>
    cases h2 : rdTm g l with
    | none => rfl
    | some p => rw [key hf h2] at h; cases h

/-- What a text is read as, if it is a term. -/
def parseT (l : List UInt8) : Option Tm :=
  if l.length ≤ 60 then (match rdTm l.length l with
    | some (t, []) => some t
    | _ => none) else none
theorem parseT_tmT {l : List UInt8} {t : Tm} : parseT l = some t ↔ TmOk t ∧ l = tmT t ∧ l.length ≤ 60 := by
  unfold parseT
  constructor
  · intro h
    split at h
    · rename_i hl
      split at h
      · rename_i t' he
        injection h with h
        subst h
        obtain ⟨ho, e⟩ := rdTm_eq _ he
        rw [List.append_nil] at e
        exact ⟨ho, e, hl⟩
      · cases h
    · cases h
  · rintro ⟨ho, rfl, hl⟩
    rw [if_pos hl]
    have := rdTm_tmT (tmT t).length [] ho (Nat.le_refl _)
    rw [List.append_nil] at this
    rw [this]
end Go.Proofs.YtgkfddhhkjblgaaGreatDoor

namespace Go.Proofs.YtgkfddhhkjblgaaGreatDoor
open Go.RowKit

/-- What is left behind at most k further arguments and the bracket. -/
def endArgs (rd : List UInt8 → Option (Tm × List UInt8)) : Nat → List UInt8 → Option (List UInt8)
  | 0, _ => none
  | k + 1, l => match rd l with
    | none => none
    | some (_, []) => none
    | some (_, c :: r) => if c = 41 then some r else if c = 44 then endArgs rd k r else none
/-- What is left behind the term that a text begins with. -/
def endT (f : Nat) (l : List UInt8) : Option (List UInt8) := (rdTm f l).map fun p => p.2
theorem endT_short {f : Nat} {l : List UInt8} (h : l.length < 3) : endT f l = none := by
  unfold endT
  cases e : rdTm f l with
  | none => rfl
  | some p => obtain ⟨t, r⟩ := p; have := rdTm_len e; omega
theorem endT_lit {f : Nat} (a c : UInt8) (r : List UInt8) : endT (f + 1) (a :: 58 :: c :: r) = if (isD a && isD c) = true then some r else none := by
  unfold endT
  cases ha : isN a with
  | true =>
    have hd : isD a = false := by
      cases hd : isD a with
      | false => rfl
      | true => rw [isN_not hd] at ha; cases ha
    rw [rdTm_name f _ ha, hd]
    simp [rdCall, rdTake]
  | false =>
    rw [rdTm_lit f _ ha]
    cases hd : isD a with
    | false => simp [rdLit, rdDigit, hd]
    | true =>
      cases hc : isD c with
      | false => simp [rdLit, rdDigit, rdTake, hd, hc]
      | true => simp [rdLit, rdDigit, rdTake, hd, hc]
theorem endT_other {f : Nat} (a b : UInt8) (r : List UInt8) (hb : b ≠ 58) (h : (isN a && decide (b = 40)) = false) : endT f (a :: b :: r) = none := by
  unfold endT
  cases f with
  | zero => rfl
  | succ f =>
    cases ha : isN a with
    | true =>
      have hb : ¬ b = 40 := by simpa [ha] using h
      rw [rdTm_name f _ ha]
      simp [rdCall, rdTake, hb]
    | false =>
      rw [rdTm_lit f _ ha]
      cases hd : isD a with
      | false => simp [rdLit, rdDigit, hd]
      | true => simp [rdLit, rdDigit, rdTake, hd, hb]
theorem endT_call {f : Nat} (a d : UInt8) (r : List UInt8) (ha : isN a = true) : endT (f + 1) (a :: 40 :: d :: r) = if d = 41 then some r else endArgs (rdTm f) 2 (d :: r) := by
  unfold endT
  rw [rdTm_name f _ ha, rdCall, rdTake_cons]
  simp only [Option.bind_some]
  by_cases hd : d = 41
  · subst hd
    rw [rdArgs, if_pos (by simp [hasB]), if_pos rfl]
    simp [rdTake]
  · rw [rdArgs, if_neg (by simp [hasB, hd]), if_neg hd, endArgs]
    cases h1 : rdTm f (d :: r) with
    | none => rfl
    | some p =>
      obtain ⟨t, r1⟩ := p
      simp only [Option.bind_some]
      cases r1 with
      | nil => simp [hasB, rdTake]
      | cons c r1 =>
        by_cases h44 : c = 44
        · subst h44
          simp only [hasB, decide_true, if_true, rdTake_cons, Option.bind_some]
          rw [if_neg (by decide), endArgs]
          cases h2 : rdTm f r1 with
          | none => rfl
          | some q =>
            obtain ⟨t2, r2⟩ := q
            simp only [Option.map_some, Option.bind_some]
            cases r2 with
            | nil => rfl
            | cons c2 r2 =>
              by_cases h41 : c2 = 41
              · subst h41; simp [rdTake]
              · simp [rdTake, h41, endArgs]
        · rw [if_neg (by simp [hasB, h44])]
          by_cases h41 : c = 41
          · subst h41; simp [rdTake]
          · simp [rdTake, h41, h44]
/-- The index behind the term that begins at an index, or -1. -/
def endZ (L : List UInt8) (o : Option (List UInt8)) : Int := match o with
  | none => -1
  | some r => (L.length : Int) - (r.length : Int)
theorem endT_suffix {f : Nat} {l r : List UInt8} (h : endT f l = some r) : r.length + 3 ≤ l.length ∧ l.drop (l.length - r.length) = r := by
  unfold endT at h
  simp only [Option.map_eq_some_iff] at h
  obtain ⟨⟨t, r'⟩, h, rfl⟩ := h
  refine ⟨rdTm_len h, ?_⟩
  obtain ⟨_, e⟩ := rdTm_eq f h
  rw [e]
  simp
theorem parseT_some {l : List UInt8} : (parseT l).isSome = (decide (l.length ≤ 60) && decide (endT l.length l = some [])) := by
  unfold parseT endT
  by_cases hl : l.length ≤ 60
  · rw [if_pos hl]
    cases h : rdTm l.length l with
    | none => simp
    | some p =>
      obtain ⟨t, r⟩ := p
      cases r with
      | nil => simp [hl]
      | cons c r => simp
  · simp [hl]
end Go.Proofs.YtgkfddhhkjblgaaGreatDoor

namespace Go.Proofs.YtgkfddhhkjblgaaGreatDoor
open Go.RowKit

def sizeT : Tm → Nat
  | .lit _ _ => 1
  | .c0 _ => 1
  | .c1 _ a => 1 + sizeT a
  | .c2 _ a b => 1 + sizeT a + sizeT b
def depthT : Tm → Nat
  | .lit _ _ => 0
  | .c0 _ => 1
  | .c1 _ a => depthT a + 1
  | .c2 _ a b => max (depthT a) (depthT b) + 1
def isCallT : Tm → Bool
  | .lit _ _ => false
  | _ => true
def headT : Tm → List UInt8
  | .lit _ _ => []
  | .c0 n => [n]
  | .c1 n _ => [n]
  | .c2 n _ _ => [n]
def litT : Tm → Int × Int × Bool
  | .lit k v => (k, v, true)
  | _ => (0, 0, false)
theorem sizeT_le : ∀ (t : Tm), sizeT t ≤ (tmT t).length
  | .lit k v => by simp [sizeT, tmT]; omega
  | .c0 n => by simp [sizeT, tmT]
  | .c1 n a => by have := sizeT_le a; simp [sizeT, tmT]; omega
  | .c2 n a b => by have := sizeT_le a; have := sizeT_le b; simp [sizeT, tmT]; omega
theorem depthT_le : ∀ (t : Tm), depthT t ≤ (tmT t).length
  | .lit k v => by simp [depthT, tmT]
  | .c0 n => by simp [depthT, tmT]
  | .c1 n a => by have := depthT_le a; simp [depthT, tmT]; omega
  | .c2 n a b => by have := depthT_le a; have := depthT_le b; simp [depthT, tmT]; omega
/-- The parts of a call are shorter than it. -/
theorem partsT_len {t p : Tm} (h : p ∈ partsT t) : (tmT p).length + 3 ≤ (tmT t).length := by
  cases t with
  | lit k v => simp [partsT] at h
  | c0 n => simp [partsT] at h
  | c1 n a => simp [partsT] at h; subst h; simp [tmT]
  | c2 n a b => simp [partsT] at h; rcases h with rfl | rfl <;> · simp [tmT]; try omega
theorem partsT_ok {t p : Tm} (ht : TmOk t) (h : p ∈ partsT t) : TmOk p := by
  cases t with
  | lit k v => simp [partsT] at h
  | c0 n => simp [partsT] at h
  | c1 n a => simp [partsT] at h; subst h; exact ht.2
  | c2 n a b =>
    simp [partsT] at h
    rcases h with rfl | rfl
    · exact ht.2.1
    · exact ht.2.2
theorem partsT_two (t : Tm) : (partsT t).length ≤ 2 := by cases t <;> simp [partsT]
theorem partsT_mk (n : UInt8) {ts : List Tm} (h : ts.length ≤ 2) : partsT (mkCall n ts) = ts := by
  match ts, h with
  | [], _ => rfl
  | [a], _ => rfl
  | [a, b], _ => rfl
theorem size_sum (t : Tm) : sizeT t = 1 + ((partsT t).map sizeT).sum := by
  cases t <;> simp [sizeT, partsT]
  omega
theorem sum_take {l : List Nat} {k : Nat} (hk : k < l.length) : (l.take (k + 1)).sum = (l.take k).sum + l[k] := by
  rw [List.take_succ_eq_append_getElem hk, List.sum_append]
  rfl
theorem maxTo_take (l : List Nat) {k : Nat} (hk : k < l.length) : (l.take (k + 1)).foldl max 0 = max ((l.take k).foldl max 0) l[k] := by
  rw [List.take_succ_eq_append_getElem hk, List.foldl_append]
  rfl
theorem depth_max (t : Tm) (h : isCallT t = true) : depthT t = ((partsT t).map depthT).foldl max 0 + 1 := by
  cases t with
  | lit k v => cases h
  | c0 n => rfl
  | c1 n a => simp [depthT, partsT]
  | c2 n a b => simp [depthT, partsT]
/-- The second sign tells calls from literals. -/
theorem tmT_second {t : Tm} (h : TmOk t) : ∃ a c l, tmT t = a :: (if isCallT t = true then 40 else 58) :: c :: l ∧ (isCallT t = true → headT t = [a] ∧ isN a = true) := by
  cases t with
  | lit k v => exact ⟨_, _, _, rfl, fun h => by cases h⟩
  | c0 n => exact ⟨n, 41, [], rfl, fun _ => ⟨rfl, h⟩⟩
  | c1 n a =>
    obtain ⟨c, l, e, _, _⟩ := tmT_first h.2 [41]
    exact ⟨n, c, l, by show n :: 40 :: (tmT a ++ [41]) = _; rw [e]; rfl, fun _ => ⟨rfl, h.1⟩⟩
  | c2 n a b =>
    obtain ⟨c, l, e, _, _⟩ := tmT_first h.2.1 ([44] ++ tmT b ++ [41])
    exact ⟨n, c, l, by show n :: 40 :: (tmT a ++ [44] ++ tmT b ++ [41]) = _; rw [List.append_assoc, List.append_assoc, ← List.append_assoc [44], e]; rfl, fun _ => ⟨rfl, h.1⟩⟩
theorem headT_call {t : Tm} (h : isCallT t = false) : headT t = [] ∧ partsT t = [] := by
  cases t with
  | lit k v => exact ⟨rfl, rfl⟩
  | c0 n => cases h
  | c1 n a => cases h
  | c2 n a b => cases h
end Go.Proofs.YtgkfddhhkjblgaaGreatDoor

