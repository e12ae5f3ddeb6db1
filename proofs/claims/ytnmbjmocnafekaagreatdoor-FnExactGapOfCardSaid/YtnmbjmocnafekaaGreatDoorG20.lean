/-
  The choice of one of some functions; plain data only.
  The contracts of the model's l5Kinds, l5Applicable and ApplicableOf.
  Which calls are regular: data.
  The contract of leads.
  The contract of CanCoerce, the model's face.
  The contract of the program's CanCoerce.
-/
import Derived.Test.YtnmbjmocnafekaaGreatDoorG19
import Derived.Test.YtnmbjmocnafekaaGreatDoorG18
namespace Go.Proofs.YtnmbjmocnafekaaGreatDoor
open Go.RowKit

/-- The words for how a choice went. -/
def wOne : ByteArray := ⟨#[111, 110, 101]⟩
def wMany : ByteArray := ⟨#[109, 97, 110, 121]⟩
def wNone : ByteArray := ⟨#[110, 111, 110, 101]⟩

/-- Is one of a list before all others of it? -/
def chiefB (lt : Int → Int → Bool) (L : List Int) (i : Int) : Bool := L.all fun k => decide (k = i) || lt i k
theorem chiefB_yes {lt : Int → Int → Bool} {L : List Int} {i : Int} (h : ∀ m, ∀ (hm : m < L.length), L[m] ≠ i → lt i L[m] = true) : chiefB lt L i = true := by
  unfold chiefB
  refine all_true_of (p := fun k => decide (k = i) || lt i k) fun m hm => ?_
  by_cases e : L[m] = i
  · simp [e]
  · simp [h m hm e]
theorem chiefB_no {lt : Int → Int → Bool} {L : List Int} {i : Int} {m : Nat} (hm : m < L.length) (h1 : L[m] ≠ i) (h2 : lt i L[m] = false) : chiefB lt L i = false := by
  unfold chiefB
  exact all_false_of (p := fun k => decide (k = i) || lt i k) m hm (by simp [h1, h2])
theorem chiefB_of {lt : Int → Int → Bool} {L : List Int} {i : Int} (h : chiefB lt L i = true) {k : Int} (hk : k ∈ L) (hne : k ≠ i) : lt i k = true := by
  unfold chiefB at h
  have := List.all_eq_true.1 h k hk
  simpa [hne] using this

/-- What is chosen: the first that is before all others, or -1. -/
def pickI (lt : Int → Int → Bool) (L : List Int) : Int := match L.find? (chiefB lt L) with
  | some i => i
  | none => -1
def pickW (lt : Int → Int → Bool) (L : List Int) : ByteArray := match L.find? (chiefB lt L) with
  | some _ => wOne
  | none => if L = [] then wNone else wMany
theorem pick_nil (lt : Int → Int → Bool) : pickI lt [] = -1 ∧ pickW lt [] = wNone := ⟨rfl, rfl⟩
theorem find_none_take {L : List Int} {p : Int → Bool} (h : ∀ m, ∀ (hm : m < L.length), p L[m] = false) : L.find? p = none := by
  rw [List.find?_eq_none]
  intro x hx
  obtain ⟨m, hm, rfl⟩ := List.getElem_of_mem hx
  simp [h m hm]
theorem find_at {p : Int → Bool} : ∀ (L : List Int) (j : Nat) (hj : j < L.length), (∀ m, m < j → ∀ (hm : m < L.length), p L[m] = false) → p L[j] = true → L.find? p = some L[j]
  | [], j, hj, _, _ => absurd hj (by simp)
  | x :: l, 0, _, _, h => by simp [show p x = true from h]
  | x :: l, j + 1, hj, hm, h => by
    have h0 : p x = false := hm 0 (by omega) (by simp)
    rw [List.find?_cons, h0]
    exact find_at l j (by simpa using hj) (fun m h1 h2 => hm (m + 1) (by omega) (by simpa using h2)) h
theorem pick_at {lt : Int → Int → Bool} {L : List Int} {j : Nat} (hj : j < L.length) (hno : ∀ m, m < j → ∀ (hm : m < L.length), chiefB lt L L[m] = false) (h : chiefB lt L L[j] = true) : pickI lt L = L[j] ∧ pickW lt L = wOne := by
  unfold pickI pickW
  rw [find_at L j hj hno h]
  exact ⟨rfl, rfl⟩
theorem pick_many {lt : Int → Int → Bool} {L : List Int} (h0 : L ≠ []) (hno : ∀ m, ∀ (hm : m < L.length), chiefB lt L L[m] = false) : pickI lt L = -1 ∧ pickW lt L = wMany := by
  unfold pickI pickW
  rw [find_none_take hno, if_neg h0]
  exact ⟨rfl, rfl⟩
theorem pickI_mem (lt : Int → Int → Bool) (L : List Int) : pickI lt L = -1 ∨ pickI lt L ∈ L := by
  unfold pickI
  cases h : L.find? (chiefB lt L) with
  | none => exact .inl rfl
  | some i => exact .inr (List.mem_of_find?_eq_some h)
theorem pickW_size (lt : Int → Int → Bool) (L : List Int) : (pickW lt L).size ≤ 4 := by
  unfold pickW
  split
  · decide
  · split <;> decide
theorem pick_congr {f g : Int → Int → Bool} {L : List Int} (h : ∀ i ∈ L, ∀ k ∈ L, k ≠ i → f i k = g i k) : pickI f L = pickI g L ∧ pickW f L = pickW g L := by
  have e : ∀ i ∈ L, chiefB f L i = chiefB g L i := fun i hi => by
    unfold chiefB
    rw [Bool.eq_iff_iff, List.all_eq_true, List.all_eq_true]
    refine forall_congr' fun k => forall_congr' fun hk => ?_
    by_cases e : k = i
    · simp [e]
    · rw [h i hi k hk e]
  have e2 : L.find? (chiefB f L) = L.find? (chiefB g L) := by
    have : ∀ l : List Int, (∀ i ∈ l, chiefB f L i = chiefB g L i) → l.find? (chiefB f L) = l.find? (chiefB g L) := by
      intro l
      induction l with
      | nil => intro _; rfl
      | cons x l ih =>
        intro hx
        rw [List.find?_cons, List.find?_cons, hx x (by simp), ih fun i hi => hx i (by simp [hi])]
    exact this L e
  unfold pickI pickW
  rw [e2]
  exact ⟨rfl, rfl⟩

/-- One function is below another one. -/
noncomputable def ltB (y : Sy) (i k : Int) : Bool := fitsToB y.ty (argsOf y i) (argsOf y k)
/-- One function costs less than another one. -/
noncomputable def ltC (y : Sy) (ks : List Int) (i k : Int) : Bool := decide (costOf y ks i < costOf y ks k)

/-- The costs of a list, looked through once: the first with the least cost, this cost, and how many have it. -/
structure Best where
  best : Int
  cost : Int
  times : Nat
def bestStep (c : Int → Int) (b : Best) (i : Int) : Best :=
  if b.times = 0 ∨ c i < b.cost then ⟨i, c i, 1⟩ else if c i = b.cost then ⟨b.best, b.cost, b.times + 1⟩ else b
def bestOf (c : Int → Int) (l : List Int) : Best := l.foldl (bestStep c) ⟨-1, 0, 0⟩
theorem bestOf_nil (c : Int → Int) : bestOf c [] = ⟨-1, 0, 0⟩ := rfl
theorem bestOf_snoc (c : Int → Int) (l : List Int) (i : Int) : bestOf c (l ++ [i]) = bestStep c (bestOf c l) i := by simp [bestOf, List.foldl_append]
/-- What is known of it. -/
structure BestIs (c : Int → Int) (l : List Int) (b : Best) : Prop where
  nil : b.times = 0 ↔ l = []
  none : l = [] → b.best = -1
  mem : l ≠ [] → b.best ∈ l ∧ c b.best = b.cost
  low : ∀ k ∈ l, b.cost ≤ c k
  count : b.times = (l.filter fun k => decide (c k = b.cost)).length ∨ l = []
theorem bestIs (c : Int → Int) : ∀ n, ∀ l : List Int, l.length = n → BestIs c l (bestOf c l)
  | 0, l, h => by
    obtain rfl : l = [] := by simpa using h
    exact ⟨by simp [bestOf], fun _ => rfl, fun h => absurd rfl h, fun k hk => absurd hk (by simp), .inr rfl⟩
  | n + 1, l, h => by
    have hl : l ≠ [] := fun e => by simp [e] at h
    obtain ⟨l', i, rfl⟩ : ∃ l' i, l = l' ++ [i] := ⟨l.dropLast, l.getLast hl, (List.dropLast_concat_getLast hl).symm⟩
    have ih := bestIs c n l' (by simpa using h)
    rw [bestOf_snoc]
    generalize bestOf c l' = b at ih
    unfold bestStep
    by_cases h0 : b.times = 0 ∨ c i < b.cost
    · rw [if_pos h0]
      have hlow : ∀ k ∈ l', c i < c k := fun k hk => by
        rcases h0 with h0 | h0
        · rw [ih.nil.1 h0] at hk
          exact absurd hk (by simp)
        · have := ih.low k hk
          omega
      refine ⟨by simp, fun e => absurd e (by simp), fun _ => ⟨by simp, rfl⟩, fun k hk => ?_, .inl ?_⟩
      · rcases List.mem_append.1 hk with hk | hk
        · exact Int.le_of_lt (hlow k hk)
        · simp at hk; rw [hk]; exact Int.le_refl _
      · have e : l'.filter (fun k => decide (c k = c i)) = [] := by
          rw [List.filter_eq_nil_iff]
          intro k hk
          have := hlow k hk
          simp
          omega
        simp [List.filter_append, e]
    · rw [if_neg h0]
      have h1 : b.times ≠ 0 := fun e => h0 (.inl e)
      have h2 : ¬ c i < b.cost := fun e => h0 (.inr e)
      have hl' : l' ≠ [] := fun e => h1 (ih.nil.2 e)
      have hcount : b.times = (l'.filter fun k => decide (c k = b.cost)).length := ih.count.resolve_right hl'
      by_cases h3 : c i = b.cost
      · rw [if_pos h3]
        refine ⟨by simp, fun e => absurd e (by simp), fun _ => ⟨by simp [(ih.mem hl').1], (ih.mem hl').2⟩, fun k hk => ?_, .inl ?_⟩
        · rcases List.mem_append.1 hk with hk | hk
          · exact ih.low k hk
          · simp at hk; rw [hk]; show b.cost ≤ c i; omega
        · simp [List.filter_append, h3, hcount]
      · rw [if_neg h3]
        refine ⟨by simp [h1], fun e => absurd e (by simp), fun _ => ⟨by simp [(ih.mem hl').1], (ih.mem hl').2⟩, fun k hk => ?_, .inl ?_⟩
        · rcases List.mem_append.1 hk with hk | hk
          · exact ih.low k hk
          · simp at hk; rw [hk]; omega
        · simp [List.filter_append, h3, hcount]

/-- The unique one with the least cost is the one that costs less than all others. -/
theorem best_pick {c : Int → Int} {L : List Int} (hnd : L.Nodup) : ((bestOf c L).times = 0 → L = []) ∧ ((bestOf c L).times = 1 → pickI (fun i k => decide (c i < c k)) L = (bestOf c L).best ∧ pickW (fun i k => decide (c i < c k)) L = wOne) ∧
    (2 ≤ (bestOf c L).times → pickI (fun i k => decide (c i < c k)) L = -1 ∧ pickW (fun i k => decide (c i < c k)) L = wMany) := by
  have h := bestIs c L.length L rfl
  generalize bestOf c L = b at h
  refine ⟨h.nil.1, fun h1 => ?_, fun h2 => ?_⟩
  · have hne : L ≠ [] := fun e => by have := h.nil.2 e; omega
    obtain ⟨hm, hc⟩ := h.mem hne
    have hcount := h.count.resolve_right hne
    rw [h1] at hcount
    have huniq : ∀ k ∈ L, k ≠ b.best → c b.best < c k := fun k hk hkb => by
      have hlow := h.low k hk
      by_cases e : c k = b.cost
      · have m1 : k ∈ L.filter fun k => decide (c k = b.cost) := List.mem_filter.2 ⟨hk, by simp [e]⟩
        have m2 : b.best ∈ L.filter fun k => decide (c k = b.cost) := List.mem_filter.2 ⟨hm, by simp [hc]⟩
        obtain ⟨x, hx⟩ := List.length_eq_one_iff.1 hcount.symm
        rw [hx] at m1 m2
        simp at m1 m2
        exact absurd (m1.trans m2.symm) hkb
      · omega
    obtain ⟨j, hj, ej⟩ := List.getElem_of_mem hm
    have := pick_at (lt := fun i k => decide (c i < c k)) hj (fun m hmj hml => ?_) (chiefB_yes fun m hml hne2 => ?_)
    · rw [ej] at this
      exact this
    · have hne3 : L[m] ≠ L[j] := fun e => by
        have := (List.getElem_inj (h₀ := hml) (h₁ := hj) hnd).1 e
        omega
      refine chiefB_no hj (Ne.symm hne3) ?_
      have := huniq L[m] (List.getElem_mem hml) (by rw [← ej]; exact hne3)
      rw [ej]
      simp
      omega
    · have := huniq L[m] (List.getElem_mem hml) (by rw [← ej]; exact hne2)
      rw [ej]
      simpa using this
  · have hne : L ≠ [] := fun e => by have := h.nil.2 e; omega
    have hcount := h.count.resolve_right hne
    refine pick_many hne fun m hm => ?_
    -- another one has the least cost
    by_cases e : ∃ k ∈ L, k ≠ L[m] ∧ c k = b.cost
    · obtain ⟨k, hk, hkm, hkc⟩ := e
      obtain ⟨q, hq, eq⟩ := List.getElem_of_mem hk
      refine chiefB_no hq (by rw [eq]; exact hkm) ?_
      have := h.low L[m] (List.getElem_mem hm)
      rw [eq]
      simp
      omega
    · exfalso
      have hall : ∀ k ∈ L.filter (fun k => decide (c k = b.cost)), k = L[m] := fun k hk => by
        obtain ⟨h3, h4⟩ := List.mem_filter.1 hk
        apply Classical.byContradiction
        intro h5
        exact e ⟨k, h3, h5, of_decide_eq_true h4⟩
      have hnd2 : (L.filter fun k => decide (c k = b.cost)).Nodup := hnd.filter _
      have hle : (L.filter fun k => decide (c k = b.cost)).length ≤ 1 := by
        generalize L.filter (fun k => decide (c k = b.cost)) = F at hall hnd2
        match F, hall, hnd2 with
        | [], _, _ => simp
        | [_], _, _ => simp
        | x :: z :: F, hall, hnd2 =>
          have e1 := hall x (by simp)
          have e2 := hall z (by simp)
          rw [e1, e2] at hnd2
          simp at hnd2
      omega
theorem applicV_nodup (y : Sy) (nm : ByteArray) (ks : List Int) : (applicV y nm ks).Nodup := (applicV_asc y nm ks).imp fun h => by omega

/-- A way leads from each type to itself, so a function's arguments fit themselves. -/
theorem canB_self {t : Ty} {a : Int} : canB t a a = true := by
  unfold canB waysOf
  simp [waysF]
theorem fits_self {y : Sy} (z : Int) : fitsToB y.ty (argsOf y z) (argsOf y z) = true := fitsToB_yes ⟨rfl, fun _ _ => canB_self⟩
end Go.Proofs.YtnmbjmocnafekaaGreatDoor

namespace Go.Proofs.YtnmbjmocnafekaaGreatDoor
open Go.RowKit
attribute [local go_sem] Oper.semAt_some

/-- Some types are those of a valid system. -/
noncomputable def kindsB (y : Sy) (ks : List Int) : Bool := allIx ks y.ty.sizes.length && syB y

/-- The applicable ones among the first j functions. -/
noncomputable def accA (y : Sy) (nm : ByteArray) (ks : List Int) (j : Nat) : List Int := apsIn y ks (nmT y.fs nm (ks.length : Int) j)
theorem accA_hit {y : Sy} {nm : ByteArray} {ks : List Int} {j : Nat} (h1 : (y.fs.getD j default).name = nm) (h2 : ApTo y.ty ks (y.fs.getD j default).args) : accA y nm ks (j + 1) = accA y nm ks j ++ [(j : Int)] := by
  unfold accA
  rw [nmT_hit ⟨h1, by rw [h2.1]⟩]
  unfold apsIn
  rw [List.filter_append]
  congr 1
  simp only [List.filter_cons, List.filter_nil, Int.toNat_natCast, apToB_yes h2, if_true]
theorem accA_miss {y : Sy} {nm : ByteArray} {ks : List Int} {j : Nat} (h : ¬ ((y.fs.getD j default).name = nm ∧ ApTo y.ty ks (y.fs.getD j default).args)) : accA y nm ks (j + 1) = accA y nm ks j := by
  unfold accA
  by_cases hn : (y.fs.getD j default).name = nm ∧ ((y.fs.getD j default).args.length : Int) = ks.length
  · rw [nmT_hit hn]
    unfold apsIn
    rw [List.filter_append]
    have e : apToB y.ty ks (y.fs.getD j default).args = false := apToB_no fun h2 => h ⟨hn.1, h2⟩
    simp only [List.filter_cons, List.filter_nil, Int.toNat_natCast, e]
    simp
  · rw [nmT_miss hn]
theorem accA_le (y : Sy) (nm : ByteArray) (ks : List Int) (j : Nat) : (accA y nm ks j).length ≤ j := Nat.le_trans (apsIn_le _ _ _) (nmT_le _ _ _ _)
theorem accA_end {y : Sy} {nm : ByteArray} {ks : List Int} (h : SyOk y) : applicV y nm ks = accA y nm ks y.fs.length := by
  unfold applicV accA namedV
  rw [if_pos (syB_yes h)]
theorem accA_zero (y : Sy) (nm : ByteArray) (ks : List Int) : accA y nm ks 0 = [] := rfl

theorem kindsB_of {y : Sy} {ks : List Int} (h : kindsB y ks = true) : SyOk y ∧ ∀ j, ∀ (hj : j < ks.length), 0 ≤ ks[j] ∧ ks[j] < y.ty.sizes.length := by
  simp only [kindsB, Bool.and_eq_true] at h
  exact ⟨syB_iff.1 h.2, allIx_iff.1 h.1⟩
theorem fits_apTo {y : Sy} {ks gs : List Int} (h : tyOk y.ty = true) (hk : ∀ j, ∀ (hj : j < ks.length), 0 ≤ ks[j] ∧ ks[j] < y.ty.sizes.length) (ha : ∀ j, ∀ (hj : j < gs.length), 0 ≤ gs[j] ∧ gs[j] < y.ty.sizes.length) : FitsTo y.ty ks gs ↔ ApTo y.ty ks gs := by
  unfold FitsTo ApTo canC
  refine and_congr_right fun hl => forall_congr' fun j => forall_congr' fun hj => ?_
  rw [getD_of hj, getD_of (show j < gs.length by omega), typesB_mk h (hk j hj) (ha j (by omega)), Bool.true_and]
theorem applicV_bad {y : Sy} {nm : ByteArray} {ks : List Int} (h : kindsB y ks = false) : applicV y nm ks = [] := by
  by_cases hs : SyOk y
  · rw [List.eq_nil_iff_forall_not_mem]
    intro z hz
    obtain ⟨_, i, hi, hn, ha, rfl⟩ := applicV_mem.1 hz
    have : allIx ks y.ty.sizes.length = true := allIx_iff.2 fun j hj => by
      have hc := ha.2 j hj
      simp only [canC, Bool.and_eq_true] at hc
      have ht := typesB_of hc.1
      rw [getD_of hj] at ht
      exact ⟨ht.2.1, ht.2.2.1⟩
    rw [kindsB, this, syB_yes hs] at h
    cases h
  · exact applicV_no hs

set_option maxRecDepth 100000 in
set_option maxHeartbeats 4000000 in
theorem l5Applicable_any (lo hi lo' hi' : Nat) (sv cv fv kv : Value) (y : Sy) (nm : ByteArray) (ks : List Int) (w : World) (hv : SyAt w lo hi sv cv fv y) (hk : IntsAt w lo' hi' kv ks) (hB : hi ≤ w.heap.size) (hB' : hi' ≤ w.heap.size) (hbk : y.bulk ≤ 1048576) (hok : kindsB y ks = true) :
    Calls Tryz.prog 79 #[.agg #[sv, cv, fv], .string nm, kv] w fun e w' => ∃ v, e = .returned v ∧ Below w.heap.size w w' ∧ w'.ownsRow w.heap.size 3 1 v (applicV y nm ks).length ((applicV y nm ks).map (Value.int .i64)) := by
  obtain ⟨A, cap, rfl, hl1, hm1, hi1⟩ := hv.1.1.form
  obtain ⟨B, bap, rfl, hl2, hm2, hc1⟩ := hv.1.2.form
  obtain ⟨F, fap, rfl, hl3, hm3, hf1⟩ := hv.2.form
  obtain ⟨K, kap, rfl, hlk, hmk, hk1⟩ := hk.form
  unfold maxLen at hm3
  obtain ⟨i0, hi0, hz0, hz1, hz2⟩ := info_parts Tryz.infoInt
  have hn : y.fs.length ≤ 1048576 := by unfold Sy.bulk at hbk; omega
  obtain ⟨hsy, hks⟩ := kindsB_of hok
  have Hsy := Lib.hid hsy
  have Hks := Lib.hid hks
  have hT : TyAt w lo hi (.slice A y.ty.sizes.length cap) (.slice B y.ty.cos.length bap) y.ty := ⟨hi1, hc1⟩
  have HT := Lib.hid hT
  have Hf := Lib.hid hf1
  have Hk := Lib.hid hk1
  clear hi1 hc1 hf1 hk1 hk hv hT hok hsy hks
  obtain ⟨WS, hWS⟩ : ∃ WS, WS = w.alloc (.cells #[.slice A y.ty.sizes.length cap, .slice B y.ty.cos.length bap, .slice F y.fs.length fap] 36) := ⟨_, rfl⟩
  have H3 : Hid (Below (w.heap.size + 1) (w.alloc (.cells #[.slice A y.ty.sizes.length cap, .slice B y.ty.cos.length bap, .slice F y.fs.length fap] 36)) WS) := by rw [hWS]; exact Below.refl _ _
  have hsS : WS.heap.size = w.heap.size + 1 := by rw [hWS]; simp
  clear hWS
  go_enter Tryz.func79, Tryz.ntmps79
  go_wp2
  go_loopw [7, 14] (fun l i wr => ∃ j : Nat, j ≤ y.fs.length ∧ i = .int .i64 j ∧ Hid (Below (w.heap.size + 1) (w.alloc (.cells #[.slice A y.ty.sizes.length cap, .slice B y.ty.cos.length bap, .slice F y.fs.length fap] 36)) wr) ∧ Hid (wr.ownsRow (w.heap.size + 1) 3 1 l (accA y nm ks j).length ((accA y nm ks j).map (Value.int .i64)))) (fun _ i _ => y.fs.length - (intOf i).toNat)
  case atStart =>
    refine ⟨0, Nat.zero_le _, rfl, (Below.refl _ _).alloc (by simp) _, ?_⟩
    show World.ownsRow _ _ _ _ _ _ _
    rw [accA_zero]
    have := World.ownsRow_lit (base := w.heap.size + 1) (e := 3) (size := 1) (w.alloc (.cells #[.slice A y.ty.sizes.length cap, .slice B y.ty.cos.length bap, .slice F y.fs.length fap] 36)) #[] 0 (by simp) (by unfold maxLen; omega) rfl
    simpa using this
  case round =>
    obtain ⟨j, hj, rfl, hb, hown⟩ := hrel
    by_cases hlt : j < y.fs.length
    · obtain ⟨q0, q1, q2, hlr, hb0⟩ := box3 hb.out
      obtain ⟨b, off, A1, cap1, A2, cap2, rfl, hlo, hhi, c0, c1, c2, c3, _, _, _, _, hfj⟩ := (Hf.out.below hb0 hB).at_ hlt
      have hle := accA_le y nm ks j
      have Hb0 := Lib.hid hb0
      have Hfj := Lib.hid hfj
      clear hb0 hfj
      have hg : Hid (y.fs.getD j default = y.fs[j]) := getD_of hlt
      have hbc : Hid (Below wr.heap.size wr (wr.alloc (.cells #[.string y.fs[j].name, .slice A1 y.fs[j].args.length cap1, .int .i64 y.fs[j].res, .slice A2 y.fs[j].table.length cap2] 111))) := (Below.refl _ _).alloc (Nat.le_refl _) _
      by_cases he : y.fs[j].name = nm
      · have hnm : y.fs[j].name.toList = nm.toList := by rw [he]
        have He := Lib.hid he
        clear he
        go_wp2_with fail
        refine (l4Fits_any lo hi lo' hi' lo hi _ _ _ _ y.ty ks y.fs[j].args _ (HT.out.below (Hb0.out.trans (hbc.out.mono (by omega))) hB) (Hk.out.below (Hb0.out.trans (hbc.out.mono (by omega))) hB') (Hfj.out.2.2.2.2.1.below hbc.out (by omega)) (by simp; omega) (by simp; omega) (by simp; omega) Hsy.out.ty Hks.out (Hsy.out.each j hlt).args).mono ?_
        rintro e w1 ⟨rfl, hb1⟩
        have hrw : Row w1 wr.heap.size 111 [.string y.fs[j].name, .slice A1 y.fs[j].args.length cap1, .int .i64 y.fs[j].res, .slice A2 y.fs[j].table.length cap2] := (Row.new wr _ _).below hb1 (by simp)
        have hown1 := ownsRow_below (hown.out.alloc (.cells #[.string y.fs[j].name, .slice A1 y.fs[j].args.length cap1, .int .i64 y.fs[j].res, .slice A2 y.fs[j].table.length cap2] 111)) hb1 (Nat.le_refl _)
        have hbx := (hb.out.alloc (by omega) _).trans (hb1.mono (B' := w.heap.size + 1) (by simp; omega))
        have Hown1 := Lib.hid hown1
        have Hbx := Lib.hid hbx
        have h1s : wr.heap.size < w1.heap.size := hrw.lt
        clear hb1 hrw hown1 hbx c0 c1 c2 c3
        by_cases hfit : fitsToB y.ty ks y.fs[j].args = true
        · have hap : ApTo y.ty ks y.fs[j].args := (fits_apTo Hsy.out.ty Hks.out (Hsy.out.each j hlt).args).1 (fitsToB_iff.1 hfit)
          have hh := Lib.hid (accA_hit (y := y) (nm := nm) (ks := ks) (j := j) (by rw [hg.out]; exact He.out) (by rw [hg.out]; exact hap))
          rw [hfit]
          clear hfit hap
          go_wp2_with (at_builtin; refine wpList_append_own _ rfl (.tmp 31) (.tmp 33) 22 rfl (w.heap.size + 1) 3 i0 (.int .i64 0) 1 8 Tryz.underlying22 hi0 hz0 hz1 hz2 rfl (by decide) _ _ _ rfl (Hown1.out.alloc _) ⟨w1.heap.size, 0, none⟩ 1 1 [.int .i64 j] rfl rfl ?c1 ?c2 ?c3 ?c4 ?c5 ?_)
          case c1 =>
            intro n u hi
            match n, hi with
            | 0, hi => simp at hi; subst hi; simp [Addr.add]
          case c2 => intro u hu; simp at hu; subst hu; rfl
          case c3 => unfold maxLen; omega
          case c4 => omega
          case c5 => simp; omega
          intro v' w2 hown2 hgrow _
          have hb2 := (Hbx.out.alloc (by omega) _).grown hgrow (by simp; omega) (fun k hk => by
            obtain ⟨_, ⟨e, _⟩ | ⟨g, cap3, cur, e, hg, _⟩⟩ := Hown1.out
            · rw [e] at hk; simp [Value.ownBlock] at hk
            · rw [e] at hk; simp [Value.ownBlock] at hk; omega)
          have Hb2 := Lib.hid hb2
          have Hown2 := Lib.hid hown2
          clear hown2 hgrow hb2
          go_wp2
          go_roundw
          case rel => exact ⟨j + 1, by omega, by go_num, Hb2.out, ownsRow_cast Hown2.out (by rw [hh.out]; simp) (by rw [hh.out]; simp)⟩
          case measure => simp [intOf]; omega
        · have hff : fitsToB y.ty ks y.fs[j].args = false := by simpa using hfit
          have hh := Lib.hid (accA_miss (y := y) (nm := nm) (ks := ks) (j := j) (by rw [hg.out]; exact fun h => hfit (fitsToB_yes ((fits_apTo Hsy.out.ty Hks.out (Hsy.out.each j hlt).args).2 h.2))))
          rw [hff]
          clear hfit
          go_wp2
          go_roundw
          case rel => exact ⟨j + 1, by omega, by go_num, Hbx.out, by rw [hh.out]; exact Hown1.out⟩
          case measure => simp [intOf]; omega
      · have hnm : ¬ y.fs[j].name.toList = nm.toList := fun h => he (bytes_eq h)
        have hh := Lib.hid (accA_miss (y := y) (nm := nm) (ks := ks) (j := j) (by rw [hg.out]; exact fun h => he h.1))
        have hbx := Lib.hid (hb.out.alloc (show w.heap.size + 1 ≤ wr.heap.size by omega) (.cells #[.string y.fs[j].name, .slice A1 y.fs[j].args.length cap1, .int .i64 y.fs[j].res, .slice A2 y.fs[j].table.length cap2] 111))
        clear he
        go_wp2
        go_roundw
        case rel => exact ⟨j + 1, by omega, by go_num, hbx.out, by rw [hh.out]; exact hown.out.alloc _⟩
        case measure => simp [intOf]; omega
    · obtain rfl : j = y.fs.length := by omega
      obtain ⟨_, _, _, _, hb0⟩ := box3 hb.out
      have Hb0 := Lib.hid hb0
      clear hb0
      go_wp2
      go_ret
      refine ⟨_, rfl, Hb0.out, ?_⟩
      rw [accA_end Hsy.out]
      exact ownsRow_base hown.out (by omega)

end Go.Proofs.YtnmbjmocnafekaaGreatDoor

namespace Go.Proofs.YtnmbjmocnafekaaGreatDoor
open Go.RowKit

/-- The type of the result of a function. -/
def resOf (y : Sy) (z : Int) : Int := (y.fs.getD z.toNat default).res
/-- A call is regular: no function is applicable, or one is below all others, and its result leads to those of all. -/
noncomputable def regB (y : Sy) (nm : ByteArray) (ks : List Int) : Bool :=
  (applicV y nm ks).isEmpty || (decide (pickW (ltB y) (applicV y nm ks) = wOne) && (applicV y nm ks).all fun k => canB y.ty (resOf y (pickI (ltB y) (applicV y nm ks))) (resOf y k))
theorem regB_nil {y : Sy} {nm : ByteArray} {ks : List Int} (h : applicV y nm ks = []) : regB y nm ks = true := by unfold regB; rw [h]; rfl
theorem regB_no {y : Sy} {nm : ByteArray} {ks : List Int} (h0 : applicV y nm ks ≠ []) (h : pickW (ltB y) (applicV y nm ks) ≠ wOne) : regB y nm ks = false := by
  unfold regB
  rw [decide_eq_false h, Bool.false_and, Bool.or_false]
  cases hL : applicV y nm ks with
  | nil => exact absurd hL h0
  | cons a l => rfl
theorem regB_one {y : Sy} {nm : ByteArray} {ks : List Int} (h0 : applicV y nm ks ≠ []) (h : pickW (ltB y) (applicV y nm ks) = wOne) : regB y nm ks = (applicV y nm ks).all fun k => canB y.ty (resOf y (pickI (ltB y) (applicV y nm ks))) (resOf y k) := by
  unfold regB
  rw [decide_eq_true h, Bool.true_and]
  cases hL : applicV y nm ks with
  | nil => exact absurd hL h0
  | cons a l => rfl
theorem pickW_cases (lt : Int → Int → Bool) (L : List Int) : (pickW lt L = wOne ∧ pickI lt L ∈ L) ∨ (pickW lt L = wNone ∧ L = []) ∨ (pickW lt L = wMany ∧ L ≠ []) := by
  unfold pickW pickI
  cases hf : L.find? (chiefB lt L) with
  | some i => exact .inl ⟨rfl, List.mem_of_find?_eq_some hf⟩
  | none =>
    right
    cases L with
    | nil => exact .inl ⟨rfl, rfl⟩
    | cons a l => exact .inr ⟨rfl, by simp⟩
theorem applic_at {y : Sy} {nm : ByteArray} {ks : List Int} {z : Int} (h : z ∈ applicV y nm ks) : ∃ i : Nat, z = (i : Int) ∧ i < y.fs.length := by
  obtain ⟨_, i, hi, _, _, e⟩ := applicV_mem.1 h
  exact ⟨i, e, hi⟩
theorem resOf_at {y : Sy} {i : Nat} (hi : i < y.fs.length) : resOf y (i : Int) = y.fs[i].res := by
  unfold resOf
  simp [hi]
end Go.Proofs.YtnmbjmocnafekaaGreatDoor

namespace Go.Proofs.YtnmbjmocnafekaaGreatDoor
open Go.RowKit
attribute [local go_sem] Oper.semAt_some

set_option maxRecDepth 100000 in
set_option maxHeartbeats 2000000 in
theorem leads_any (lo hi g : Nat) (sv cv : Value) (t : Ty) (a b : Int) (w : World) (hv : TyAt w lo hi sv cv t) (hB : hi ≤ w.heap.size) (hrow : Row w g 159 [sv, cv]) (htb : typesB t a b = true) :
    Calls Tryz.prog 102 #[.pointer (some ⟨g, 0, none⟩), .int .i64 a, .int .i64 b] w fun e w' => e = .returned (.bool (canB t a b)) ∧ Below w.heap.size w w' := by
  refine (callsIn_wide (n := 5)).1 ?_
  refine callsIn_of_wp_marks Tryz.func102 rfl trivial ?_ rfl
  simp only [Tryz.ntmps102, List.size_toArray, List.length_cons, List.length_nil, Nat.reduceAdd, Nat.reduceSub, Array.replicate_succ, Array.replicate_zero, List.push_toArray, List.append_toArray, List.nil_append, List.cons_append]
  gi_wp2_with (refine ⟨trivial, ?_⟩; gi_at_call 135; refine (callsIn_wide.2 (ways_any g a b _)).mono ?_; rintro e w' ⟨rfl, rfl⟩)
  obtain ⟨W0, hW0⟩ : ∃ u, u = (((w.alloc (.cells #[.bool false] 4)).alloc (.cells #[.pointer (some ⟨g, 0, none⟩)] 96)).alloc (.cells #[.int .i64 a] 3)).alloc (.cells #[.int .i64 b] 3) := ⟨_, rfl⟩
  rw [← hW0]
  have hs0 : W0.heap.size = w.heap.size + 4 := by rw [hW0]; simp
  have hb0 : Below w.heap.size w W0 := by rw [hW0]; go_grown
  have rf : Row W0 w.heap.size 4 [.bool false] := by rw [hW0]; exact (((Row.new w 4 [.bool false]).alloc _).alloc _).alloc _
  have r3 : Row W0 (w.heap.size + 1) 96 [.pointer (some ⟨g, 0, none⟩)] := by
    rw [hW0]
    have := Row.new (w.alloc (.cells #[.bool false] 4)) 96 [.pointer (some ⟨g, 0, none⟩)]
    rw [World.size_alloc] at this
    exact (this.alloc _).alloc _
  have r4 : Row W0 (w.heap.size + 1 + 1) 3 [.int .i64 a] := by
    rw [hW0]
    have := Row.new ((w.alloc (.cells #[.bool false] 4)).alloc (.cells #[.pointer (some ⟨g, 0, none⟩)] 96)) 3 [.int .i64 a]
    rw [World.size_alloc, World.size_alloc] at this
    exact this.alloc _
  have r5 : Row W0 (w.heap.size + 1 + 2) 3 [.int .i64 b] := by
    rw [hW0]
    have := Row.new (((w.alloc (.cells #[.bool false] 4)).alloc (.cells #[.pointer (some ⟨g, 0, none⟩)] 96)).alloc (.cells #[.int .i64 a] 3)) 3 [.int .i64 b]
    rw [World.size_alloc, World.size_alloc, World.size_alloc] at this
    exact this
  clear hW0
  refine range_law (fun v => { tmps := #[.pointer (some ⟨g, 0, none⟩), .int .i64 a, .int .i64 b, undef, undef, undef, .bool false, .pointer (some ⟨w.heap.size, 0, none⟩), .pointer (some ⟨g, 0, none⟩), .int .i64 a, .int .i64 b, .func (.func 158) #[] #[.pointer (some ⟨w.heap.size + 1, 0, none⟩), .pointer (some ⟨w.heap.size + 1 + 1, 0, none⟩), .pointer (some ⟨w.heap.size + 1 + 2, 0, none⟩)], v, undef], defers := [] }) (fun _ _ _ _ _ hK => wpIn_skip hK) (gf := 158) (lb := #[.pointer (some ⟨w.heap.size + 1, 0, none⟩), .pointer (some ⟨w.heap.size + 1 + 1, 0, none⟩), .pointer (some ⟨w.heap.size + 1 + 2, 0, none⟩)]) rfl (enters_of Tryz.func158 (by kernel_rfl) rfl)
    (fun k => k < w.heap.size) (fun k hk => by omega) (waysOf t a b)
    (fun s O A => s = [] ∧ Row A w.heap.size 4 [.bool false] ∧ ¬ O w.heap.size ∧ (∀ k, O k → w.heap.size ≤ k) ∧ Below w.heap.size w A)
    (fun c _ A => c = .exit 0 ∧ Row A w.heap.size 4 [.bool true] ∧ Below w.heap.size w A) ?istep ?igive ?iput ?ixput ?iter ?start ?body ?done ?stop
  case istep =>
    rintro s O A C row ⟨hs, hr, hn, hO, hb⟩ hgr hrw
    refine ⟨hs, hr.keep (hgr.block _ hr.lt (fun e => hn (hrw _ e.symm))), fun h => h.elim hn (fun h => by have := hr.lt; omega), fun k h => h.elim (hO k) (fun h => by have := hb.size; omega), hb.grown hgr hb.size (fun k e => hO k (hrw k e))⟩
  case igive =>
    rintro s O O' A ⟨hs, hr, hn, hO, hb⟩ hsub
    exact ⟨hs, hr, fun h => hn (hsub _ h), fun k h => hO k (hsub k h), hb⟩
  case iput =>
    rintro s O A k o' ⟨hs, hr, hn, hO, hb⟩ h1 h2
    exact ⟨hs, hr.keep (puts_keep (by omega)), hn, hO, hb.grown (grownBy_putObj' A k o') hb.size (fun q e => by simp only [Option.some.injEq] at e; omega)⟩
  case ixput =>
    rintro c s A k o' ⟨hc, hr, hb⟩ h1 h2
    exact ⟨hc, hr.keep (puts_keep (by omega)), hb.grown (grownBy_putObj' A k o') hb.size (fun q e => by simp only [Option.some.injEq] at e; omega)⟩
  case iter =>
    intro l J Jx W1 hC hb1 hJ
    have hbb := hb0.trans (hb1.mono (by omega))
    exact waysIter_any l g (w.heap.size + 1) (w.heap.size + 1 + 1) (w.heap.size + 1 + 2) _ J Jx t a b hC lo hi sv cv W1 htb hrow.lt (fun k _ hk => by omega) (fun k hk => by have := hbb.size; omega) (hrow.below hbb hrow.lt) (hv.below hbb hB)
      ((r3.below hb1 (by omega)).cell 0) ((r4.below hb1 (by omega)).cell 0) ((r5.below hb1 (by omega)).cell 0) hJ
  case start =>
    intro W1 hb1
    exact ⟨rfl, rf.below hb1 (by omega), fun h => h, fun k h => h.elim, hb0.trans (hb1.mono (by omega))⟩
  case body =>
    rintro l s v zs O A0 A m _ ⟨hs, hr0, hn, hO, hb00⟩ _ hbel _ _ _ hlt
    have hr := hr0.below hbel hr0.lt
    have hb := hb00.trans (hbel.mono hb00.size)
    have p0 : A.cell? ⟨w.heap.size, 0, none⟩ = some (.bool false) := hr.cell 0
    have pf : A.frozen? ⟨w.heap.size, 0, none⟩ = false := hr.frozen 0
    have hset := hr.set_ 0 (.bool true)
    have Hset := Lib.hid hset
    have Hb := Lib.hid hb
    clear hset hr hb
    gi_wp2
    refine ⟨⟨by simp [World.setCell], fun k hk hS => ?_⟩, rfl, Hset.out, Hb.out.setCell (Nat.le_refl _) _⟩
    exact heap_set_ne _ _ _ _ _ (by omega)
  case done =>
    rintro O' W' ⟨hs, hr, hn, hO, hb⟩ hK
    have hfin : canB t a b = false := by unfold canB; rw [hs]; rfl
    have p0 : W'.cell? ⟨w.heap.size, 0, none⟩ = some (.bool false) := hr.cell 0
    have Hb := Lib.hid hb
    have HK := Lib.hid hK
    clear hr hb hK
    gi_wp2
    refine ⟨by simp, .inl ⟨_, _, rfl, run_takeDeferred HK.out, ?_⟩⟩
    exact ⟨_, results_tmp rfl _ _ _, by rw [hfin]; rfl, Hb.out.grown (grownBy_putObj' W' _ _) Hb.out.size (fun q e => by simp only [Option.some.injEq] at e; omega)⟩
  case stop =>
    rintro c s' W' hpos ⟨rfl, hr, hb⟩ hK
    have hfin : canB t a b = true := by unfold canB; rw [decide_eq_true_eq]; exact hpos
    have p0 : W'.cell? ⟨w.heap.size, 0, none⟩ = some (.bool true) := hr.cell 0
    have Hb := Lib.hid hb
    have HK := Lib.hid hK
    clear hr hb hK
    gi_wp2
    refine ⟨by simp, .inl ⟨_, _, rfl, run_takeDeferred HK.out, ?_⟩⟩
    exact ⟨_, results_tmp rfl _ _ _, by rw [hfin]; rfl, Hb.out.grown (grownBy_putObj' W' _ _) Hb.out.size (fun q e => by simp only [Option.some.injEq] at e; omega)⟩
end Go.Proofs.YtnmbjmocnafekaaGreatDoor

namespace Go.Proofs.YtnmbjmocnafekaaGreatDoor
open Go.RowKit
attribute [local go_sem] Oper.semAt_some

end Go.Proofs.YtnmbjmocnafekaaGreatDoor

namespace Go.Proofs.YtnmbjmocnafekaaGreatDoor
open Go.RowKit

set_option maxRecDepth 100000 in
set_option maxHeartbeats 1000000 in
theorem implCan_any (lo hi : Nat) (sv cv : Value) (t : Ty) (a b : Int) (w : World) (hv : TyAt w lo hi sv cv t) (hB : hi ≤ w.heap.size) (ha : I64 a) (hb : I64 b) :
    Calls Tryz.prog 58 #[.agg #[sv, cv], .int .i64 a, .int .i64 b] w fun e w' => e = .returned (.bool (canC t a b)) ∧ Below w.heap.size w w' := by
  obtain ⟨A, cap, rfl, hl1, hm1, hi1⟩ := hv.1.form
  obtain ⟨B, bap, rfl, hl2, hm2, hc1⟩ := hv.2.form
  have Hv := Lib.hid hv
  clear hv hi1 hc1
  have h4 : Below w.heap.size w ((w.alloc (.cells #[.slice A t.sizes.length cap, .slice B t.cos.length bap] 33)).alloc (.cells #[.int .i64 a, .int .i64 b] 3)) := by go_grown
  have hone := ints_two (w.alloc (.cells #[.slice A t.sizes.length cap, .slice B t.cos.length bap] 33)) a b ha hb 3
  rw [World.size_alloc] at hone
  have H4 := Lib.hid h4
  have Hone := Lib.hid hone
  clear h4 hone
  go_enter Tryz.func58, Tryz.ntmps58
  go_wp2_with fail
  refine (finderOf_any lo hi _ _ _ _ _ t [a, b] _ (Hv.out.below H4.out hB) (by simp; omega) Hone.out (by simp only [World.size_alloc]; omega)).mono ?_
  rintro e w1 ⟨p, rfl, hb1, hf1⟩
  rw [findOk_two] at hf1 ⊢
  have H1 := Lib.hid (H4.out.trans (hb1.mono (by simp; omega)))
  have hs1 : w.heap.size ≤ w1.heap.size := H1.out.size
  clear hb1
  by_cases hok : typesB t a b = true
  · obtain ⟨g, rfl, hg, hrow⟩ := hf1 hok
    have Hrow := Lib.hid hrow
    have Hok := Lib.hid hok
    have hfin : Hid (canC t a b = canB t a b) := by show _ = _; unfold canC; rw [hok, Bool.true_and]
    rw [hok]
    clear hrow hok
    go_wp2_with fail
    refine (leads_any lo hi g _ _ t a b _ (Hv.out.below H1.out hB) (by omega) Hrow.out Hok.out).mono ?_
    rintro e w2 ⟨rfl, hb2⟩
    have H2 := Lib.hid (H1.out.trans (hb2.mono hs1))
    clear hb2
    go_wp2
    go_ret
    exact ⟨ret_bool hfin.out.symm, H2.out⟩
  · have hokf : typesB t a b = false := by simpa using hok
    have hfin : Hid (canC t a b = false) := by show _ = _; unfold canC; rw [hokf, Bool.false_and]
    rw [hokf]
    clear hok hf1
    go_wp2
    go_ret
    exact ⟨ret_bool hfin.out.symm, H1.out⟩
end Go.Proofs.YtnmbjmocnafekaaGreatDoor

