/-
  What a list of functions is while it is copied.
  The contracts of the functions that copy a function: the program's and the model's.
  The contract of the model's function that copies a function.
-/
import Derived.Test.YtplncocfbajefaaD2
import Derived.Test.YtplncocfbajefaaD4
import Derived.Test.YtplncocfbajefaaD3
namespace Go.Proofs.Ytplncocfbajefaa
open Go.RowKit

/-- The cells xs are k functions f, whose arguments and tables lie in blocks of their own. -/
structure PiecesOf (w : World) (base : Nat) (row : Option Nat) (f : Nat → Fu) (k : Nat) (xs : List Value) (m : Nat → Bool → Nat) (mv : Nat → Bool → Value) : Prop where
  cells : ∀ i, i < k → xs[i * 4]? = some (.string (f i).name) ∧ xs[i * 4 + 1]? = some (mv i false) ∧ xs[i * 4 + 2]? = some (.int .i64 (f i).res) ∧ xs[i * 4 + 3]? = some (mv i true)
  own : ∀ i b, i < k → OwnI w 3 (m i b) (mv i b) ((f i).zs b)
  away : ∀ i b, i < k → 0 < ((f i).zs b).length → base ≤ m i b ∧ m i b < w.heap.size ∧ row ≠ some (m i b) ∧ ∀ j c, j < k → (j ≠ i ∨ c ≠ b) → 0 < ((f j).zs c).length → m j c ≠ m i b

def FusOwned (w : World) (base : Nat) (l : Value) (f : Nat → Fu) (k : Nat) : Prop :=
  ∃ xs m mv, w.ownsRow base 79 4 l k xs ∧ PiecesOf w base l.ownBlock f k xs m mv

theorem PiecesOf.keep {w w' : World} {base : Nat} {row : Option Nat} {f : Nat → Fu} {k : Nat} {xs : List Value} {m : Nat → Bool → Nat} {mv : Nat → Bool → Value} (h : PiecesOf w base row f k xs m mv)
    (hs : w.heap.size ≤ w'.heap.size) (hk : ∀ g, base ≤ g → g < w.heap.size → w'.heap[g]? = w.heap[g]?) : PiecesOf w' base row f k xs m mv :=
  ⟨h.cells, fun i b hi => (h.own i b hi).keep fun h0 => hk _ (h.away i b hi h0).1 (h.away i b hi h0).2.1,
    fun i b hi h0 => ⟨(h.away i b hi h0).1, Nat.lt_of_lt_of_le (h.away i b hi h0).2.1 hs, (h.away i b hi h0).2.2⟩⟩
theorem FusOwned.keep {w w' : World} {base : Nat} {l : Value} {f : Nat → Fu} {k : Nat} (h : FusOwned w base l f k)
    (hs : w.heap.size ≤ w'.heap.size) (hk : ∀ g, base ≤ g → g < w.heap.size → w'.heap[g]? = w.heap[g]?) : FusOwned w' base l f k := by
  obtain ⟨xs, m, mv, h1, h2⟩ := h
  exact ⟨xs, m, mv, ownsRow_keep h1 hk, h2.keep hs hk⟩
theorem FusOwned.nil (w : World) (base : Nat) (f : Nat → Fu) : FusOwned w base (.slice none 0 0) f 0 :=
  ⟨[], fun _ _ => 0, fun _ _ => .slice none 0 0, World.ownsRow_nil _ _ _ _, fun i hi => absurd hi (by omega), fun i _ hi => absurd hi (by omega), fun i _ hi => absurd hi (by omega)⟩
theorem FusOwned.congr {w : World} {base : Nat} {l : Value} {f f' : Nat → Fu} {k : Nat} (h : FusOwned w base l f k) (he : ∀ i, i < k → f i = f' i) : FusOwned w base l f' k := by
  obtain ⟨xs, m, mv, h1, h2⟩ := h
  refine ⟨xs, m, mv, h1, ⟨fun i hi => by rw [← he i hi]; exact h2.cells i hi, fun i b hi => by rw [← he i hi]; exact h2.own i b hi, fun i b hi h0 => ?_⟩⟩
  rw [← he i hi] at h0
  obtain ⟨a, b', c, d⟩ := h2.away i b hi h0
  exact ⟨a, b', c, fun j c hj hne h1 => d j c hj hne (by rw [he j hj]; exact h1)⟩

/-- The two slices of a function that a call has copied. -/
def TwoOwned (w : World) (base : Nat) (va vt : Value) (f : Fu) : Prop :=
  ∃ C, base ≤ C ∧ w.ownsRow base 3 1 va f.args.length (f.args.map (Value.int .i64)) ∧ (∀ g, va.ownBlock = some g → g < C) ∧ w.ownsRow C 3 1 vt f.table.length (f.table.map (Value.int .i64))
theorem TwoOwned.keep {w w' : World} {base : Nat} {va vt : Value} {f : Fu} (h : TwoOwned w base va vt f) (hk : ∀ g, base ≤ g → g < w.heap.size → w'.heap[g]? = w.heap[g]?) : TwoOwned w' base va vt f := by
  obtain ⟨C, h1, h2, h3, h4⟩ := h
  exact ⟨C, h1, ownsRow_keep h2 hk, h3, ownsRow_keep h4 fun g hg hl => hk g (by omega) hl⟩
theorem TwoOwned.lower {w : World} {base base' : Nat} {va vt : Value} {f : Fu} (h : TwoOwned w base va vt f) (hb : base' ≤ base) : TwoOwned w base' va vt f := by
  obtain ⟨C, h1, h2, h3, h4⟩ := h
  exact ⟨C, by omega, ownsRow_lower h2 hb, h3, h4⟩
theorem TwoOwned.alloc {w : World} {base : Nat} {va vt : Value} {f : Fu} (h : TwoOwned w base va vt f) (o : Obj) : TwoOwned (w.alloc o) base va vt f :=
  h.keep fun g _ hl => Below.heap_alloc w o g hl
theorem OwnI.of_owns2 {w : World} {base : Nat} {v : Value} {zs : List Int} (h : w.ownsRow base 3 1 v zs.length (zs.map (Value.int .i64))) : ∃ g, OwnI w 3 g v zs ∧ (0 < zs.length → base ≤ g ∧ g < w.heap.size ∧ v.ownBlock = some g) := by
  obtain ⟨h1, ⟨rfl, hn⟩ | ⟨g, cap, cur, rfl, hb, hh, hc, hm, hsz, htk⟩⟩ := h
  · refine ⟨0, ⟨none, 0, by rw [hn], by omega, Nat.zero_le _, fun e => by simp [List.eq_nil_of_length_eq_zero e], fun h0 => absurd h0 (by omega)⟩, fun h0 => absurd h0 (by omega)⟩
  · have hr : Row w g 3 ((zs.map (Value.int .i64)) ++ cur.toList.drop zs.length) := by
      rw [← htk, Nat.mul_one, List.take_append_drop]
      simpa [Row] using hh
    exact ⟨g, ⟨_, _, rfl, hc, hm, fun e => by simp [List.eq_nil_of_length_eq_zero e], fun _ => ⟨rfl, _, hr⟩⟩, fun _ => ⟨hb, hr.lt, rfl⟩⟩
theorem TwoOwned.pieces {w : World} {base : Nat} {va vt : Value} {f : Fu} (h : TwoOwned w base va vt f) :
    ∃ g : Bool → Nat, OwnI w 3 (g false) va f.args ∧ OwnI w 3 (g true) vt f.table ∧ (∀ b, 0 < (f.zs b).length → base ≤ g b ∧ g b < w.heap.size) ∧ (0 < f.args.length → 0 < f.table.length → g false ≠ g true) := by
  obtain ⟨C, h1, h2, h3, h4⟩ := h
  obtain ⟨ga, a1, a2⟩ := OwnI.of_owns2 h2
  obtain ⟨gt, t1, t2⟩ := OwnI.of_owns2 h4
  refine ⟨fun b => if b then gt else ga, a1, t1, fun b hb => ?_, fun h h' => ?_⟩
  · cases b with
    | false => exact ⟨(a2 hb).1, (a2 hb).2.1⟩
    | true => exact ⟨by have := (t2 hb).1; show base ≤ gt; omega, (t2 hb).2.1⟩
  · have := h3 ga (a2 h).2.2
    have := (t2 h').1
    show ga ≠ gt
    omega

theorem PiecesOf.step {w w2 w3 : World} {base : Nat} {l : Value} {f : Nat → Fu} {k : Nat} {xs : List Value} {m : Nat → Bool → Nat} {mv : Nat → Bool → Value} {va vt : Value} {g' : Nat}
    (h : PiecesOf w base l.ownBlock f k xs m mv) (hl : xs.length = k * 4) (hb : base ≤ w.heap.size) (h12 : Below w.heap.size w w2)
    {bv : Nat} (hbv : w.heap.size ≤ bv) (hown : TwoOwned w2 bv va vt (f k)) (hlt : ∀ g, l.ownBlock = some g → g < w.heap.size)
    (hg : w2.grownBy w3 l.ownBlock) (hat : l.ownBlock = some g' ∨ g' = w2.heap.size) :
    ∃ m' mv', PiecesOf w3 base (some g') f (k + 1) (xs ++ [.string (f k).name, va, .int .i64 (f k).res, vt]) m' mv' ∧ ∀ i b, i < k + 1 → 0 < ((f i).zs b).length → m' i b < w.heap.size ∨ bv ≤ m' i b := by
  obtain ⟨g, hoa, hot, hgb, hgne⟩ := hown.pieces
  have hog : ∀ b, OwnI w2 3 (g b) (if b then vt else va) ((f k).zs b) := fun b => by cases b with
    | false => exact hoa
    | true => exact hot
  have hsz := h12.size
  have hsz3 := hg.size
  refine ⟨fun i b => if i = k then g b else m i b, fun i b => if i = k then (if b then vt else va) else mv i b, ⟨fun i hi => ?_, fun i b hi => ?_, fun i b hi h0 => ?_⟩, fun i b hi h0 => ?_⟩
  · by_cases e : i = k
    · subst e
      simp [hl]
    · rw [if_neg e, if_neg e]
      obtain ⟨a, b, c, d⟩ := h.cells i (by omega)
      rw [List.getElem?_append_left (by omega), List.getElem?_append_left (by omega), List.getElem?_append_left (by omega), List.getElem?_append_left (by omega)]
      exact ⟨a, b, c, d⟩
  · by_cases e : i = k
    · subst e
      rw [if_pos rfl, if_pos rfl]
      refine (hog b).keep fun h0 => ?_
      have := hgb b h0
      exact hg.block _ this.2 (fun hc => by have := hlt _ hc.symm; omega)
    · rw [if_neg e, if_neg e]
      refine (h.own i b (by omega)).keep fun h0 => ?_
      obtain ⟨a, b', c, _⟩ := h.away i b (by omega) h0
      exact (hg.block _ (by omega) (fun hc => c hc.symm)).trans (h12.block _ b')
  · by_cases e : i = k
    · subst e
      rw [if_pos rfl]
      have hgg := hgb b h0
      refine ⟨by omega, by omega, ?_, fun j c hj hne h1 => ?_⟩
      · intro hc
        injection hc with hc
        rcases hat with hat | hat
        · have := hlt _ hat; omega
        · omega
      · by_cases ej : j = i
        · subst ej
          rw [if_pos rfl]
          have hcb : c ≠ b := by rcases hne with hne | hne; exact absurd rfl hne; exact hne
          cases b with
          | false =>
            have e : c = true := by simpa using hcb
            subst e
            exact fun e2 => hgne h0 h1 e2.symm
          | true =>
            have e : c = false := by simpa using hcb
            subst e
            exact hgne h1 h0
        · rw [if_neg ej]
          have := (h.away j c (by omega) h1).2.1
          omega
    · rw [if_neg e]
      obtain ⟨a, b', c, d⟩ := h.away i b (by omega) h0
      refine ⟨a, by omega, ?_, fun j c2 hj hne h1 => ?_⟩
      · intro hc
        injection hc with hc
        rcases hat with hat | hat
        · exact c (by rw [hat, hc])
        · omega
      · by_cases ej : j = k
        · subst ej
          rw [if_pos rfl]
          have := hgb c2 h1
          omega
        · rw [if_neg ej]
          exact d j c2 (by omega) hne h1
  · by_cases e : i = k
    · subst e
      simp only [if_true]
      exact .inr (hgb b h0).1
    · simp only [if_neg e]
      exact .inl (h.away i b (by omega) h0).2.1

theorem FusOwned.push {w w2 w3 : World} {base : Nat} {l : Value} {f : Nat → Fu} {k : Nat} {xs : List Value} {m : Nat → Bool → Nat} {mv : Nat → Bool → Value} {va vt : Value} {g' cap3 : Nat} {c : Fu} {o : Obj}
    (h : PiecesOf w base l.ownBlock f k xs m mv) (how : w.ownsRow base 79 4 l k xs) (hb : base ≤ w.heap.size) (hf : f k = c) (h12 : Below w.heap.size w w2)
    (hown : TwoOwned w2 w.heap.size va vt c) (hg : (w2.alloc o).grownBy w3 l.ownBlock) (hat : l.ownBlock = some g' ∨ g' = w2.heap.size + 1)
    (h3 : w3.ownsRow base 79 4 (.slice (some ⟨g', 0, none⟩) (k + 1) cap3) (k + 1) (xs ++ [.string c.name, va, .int .i64 c.res, vt])) : FusOwned w3 base (.slice (some ⟨g', 0, none⟩) (k + 1) cap3) f (k + 1) := by
  subst hf
  obtain ⟨m', mv', hm, _⟩ := h.step (w2 := w2.alloc o) how.1 hb (h12.alloc h12.size o) (Nat.le_refl _) (hown.alloc o) (fun g hg => (owns_lt how g hg).2) hg (by rcases hat with a | a; exact .inl a; exact .inr (by rw [a]; simp))
  exact ⟨_, m', mv', h3, hm⟩
/-- As 'push', with a store behind it into a block that was made between the list and the function. -/
theorem FusOwned.push_store {w w2 w3 w4 : World} {base bv : Nat} {l : Value} {f : Nat → Fu} {k : Nat} {xs : List Value} {m : Nat → Bool → Nat} {mv : Nat → Bool → Value} {va vt : Value} {g' cap3 : Nat} {c : Fu} {o : Obj}
    (h : PiecesOf w base l.ownBlock f k xs m mv) (how : w.ownsRow base 79 4 l k xs) (hb : base ≤ w.heap.size) (hf : f k = c) (h12 : Below w.heap.size w w2) (hbv : w.heap.size ≤ bv) (hbv2 : bv ≤ w2.heap.size)
    (hown : TwoOwned w2 bv va vt c) (hg : (w2.alloc o).grownBy w3 l.ownBlock) (hat : l.ownBlock = some g' ∨ g' = w2.heap.size + 1)
    (h3 : w3.ownsRow base 79 4 (.slice (some ⟨g', 0, none⟩) (k + 1) cap3) (k + 1) (xs ++ [.string c.name, va, .int .i64 c.res, vt]))
    (hs4 : w3.heap.size ≤ w4.heap.size) (hk4 : ∀ g, g < w.heap.size ∨ bv ≤ g → w4.heap[g]? = w3.heap[g]?) : FusOwned w4 base (.slice (some ⟨g', 0, none⟩) (k + 1) cap3) f (k + 1) := by
  subst hf
  obtain ⟨m', mv', hm, hfar⟩ := h.step (w2 := w2.alloc o) how.1 hb (h12.alloc h12.size o) hbv (hown.alloc o) (fun g hg => (owns_lt how g hg).2) hg (by rcases hat with a | a; exact .inl a; exact .inr (by rw [a]; simp))
  refine ⟨_, m', mv', ownsRow_keep1 h3 (fun g hg => hk4 g ?_), hm.cells, fun i b hi => (hm.own i b hi).keep fun h0 => hk4 _ (hfar i b hi h0), fun i b hi h0 => ?_⟩
  · have e : g' = g := by
      have h : some g' = some g := hg
      injection h
    subst e
    rcases hat with a | a
    · exact .inl (owns_lt how _ a).2
    · exact .inr (by omega)
  · obtain ⟨a, b', c, d⟩ := hm.away i b hi h0
    exact ⟨a, by omega, c, d⟩

/-- Functions in a row, whose slices read as they should, read as functions. -/
theorem FusOwned.fusAt {w : World} {base : Nat} {l : Value} {f : Nat → Fu} {n lo hi : Nat} (h : FusOwned w base l f n) (hw : ∀ i, i < n → (f i).fits) (hlo : lo ≤ base) (hhi : w.heap.size ≤ hi) : FusAt w lo hi l ((List.range n).map f) := by
  obtain ⟨xs, m, mv, h, h2⟩ := h
  have e : ((List.range n).map f).length = n := by simp
  have hpc : ∀ i b, i < n → (∀ z ∈ (f i).zs b, I64 z) → IntsAt w lo hi (mv i b) ((f i).zs b) := fun i b hi hz => (h2.own i b hi).ints hz fun h0 => by
    have := h2.away i b hi h0
    omega
  obtain ⟨hx, ⟨rfl, rfl⟩ | ⟨g, cap, cur, rfl, hb, hh, hc, hm, hs, ht⟩⟩ := h
  · exact ⟨none, 0, rfl, Nat.le_refl _, by unfold maxLen; omega, fun h0 => absurd h0 (by simp)⟩
  · have hlt := owns_lt (⟨hx, .inr ⟨g, cap, cur, rfl, hb, hh, hc, hm, hs, ht⟩⟩ : w.ownsRow base 79 4 (.slice (some ⟨g, 0, none⟩) n cap) n xs) g rfl
    have hcell : ∀ j u, xs[j]? = some u → w.cell? ⟨g, j, none⟩ = some u := fun j u hj => by
      have := World.ownsRow.cells (⟨hx, .inr ⟨g, cap, cur, rfl, hb, hh, hc, hm, hs, ht⟩⟩ : w.ownsRow base 79 4 (.slice (some ⟨g, 0, none⟩) n cap) n xs) (g := g) rfl j u hj
      rw [Go.WideShapes.add_plain] at this
      simpa using this
    refine ⟨_, cap, by rw [e], by rw [e]; exact hc, hm, fun h0 => ⟨g, 0, rfl, by omega, by omega, fun k hk => ?_⟩⟩
    rw [e] at hk
    obtain ⟨a, b, c, d⟩ := h2.cells k hk
    obtain ⟨w0, w1, w2, w3⟩ := hw k hk
    rw [List.getD_eq_getElem?_getD, List.getElem?_eq_getElem (by rw [e]; exact hk)]
    simp only [List.getElem_map, List.getElem_range, Option.getD_some]
    refine ⟨_, _, _, _, ?_, ?_, ?_, ?_, rfl, rfl, w0, w1, hpc k false hk w2, hpc k true hk w3⟩
    · rw [Nat.zero_add]; exact hcell _ _ a
    · rw [Nat.zero_add]; exact hcell _ _ b
    · rw [Nat.zero_add]; exact hcell _ _ c
    · rw [Nat.zero_add]; exact hcell _ _ d
/-- .. and lie in memory of the call's own. -/
theorem FusOwned.own {w : World} {base : Nat} {l : Value} {f : Nat → Fu} {n : Nat} (h : FusOwned w base l f n) :
    ∃ gc m mv, OwnFus w 3 79 gc m mv l n f ∧ ApartF gc m n f ∧ (0 < n → base ≤ gc ∧ gc < w.heap.size) ∧ ∀ i b, i < n → 0 < ((f i).zs b).length → base ≤ m i b ∧ m i b < w.heap.size := by
  obtain ⟨xs, m, mv, how, h2⟩ := h
  have hx := how.1
  obtain ⟨_, ⟨rfl, rfl⟩ | ⟨g, cap, cur, rfl, hb, hh, hc, hm, hsz, htk⟩⟩ := id how
  · exact ⟨0, m, mv, ⟨[], ⟨none, 0, rfl, Nat.le_refl _, by unfold maxLen; omega, fun _ => rfl, fun h0 => absurd h0 (by omega)⟩, rfl, fun i hi => absurd hi (by omega), fun i b hi => absurd hi (by omega)⟩, fun i b hi => absurd hi (by omega), fun h0 => absurd h0 (by omega), fun i b hi => absurd hi (by omega)⟩
  · have hr : Row w g 79 (xs ++ cur.toList.drop (n * 4)) := by
      rw [← htk, List.take_append_drop]
      simpa [Row] using hh
    refine ⟨g, m, mv, ⟨xs, ⟨_, cap, rfl, hc, hm, fun e => List.eq_nil_of_length_eq_zero (by rw [hx, e]), fun _ => ⟨rfl, _, hr⟩⟩, hx, h2.cells, h2.own⟩, fun i b hi h0 => ?_, fun _ => ⟨hb, hr.lt⟩, fun i b hi h0 => ?_⟩
    · obtain ⟨_, _, c, d⟩ := h2.away i b hi h0
      exact ⟨fun e => c (by rw [e]; rfl), d⟩
    · obtain ⟨a, b', _, _⟩ := h2.away i b hi h0
      exact ⟨a, b'⟩
end Go.Proofs.Ytplncocfbajefaa

namespace Go.Proofs.Ytplncocfbajefaa
open Go.RowKit

/-- The value of a function with slices of its own. -/
def CopiedF (base : Nat) (f : Fu) (w : World) (e : Ending) (w' : World) : Prop := ∃ va vt, e = .returned (.agg #[.string f.name, va, .int .i64 f.res, vt]) ∧ Below base w w' ∧ TwoOwned w' base va vt f

set_option maxRecDepth 100000 in
set_option maxHeartbeats 1000000 in
theorem copiedF_any (lo hi : Nat) (x a r t : Value) (f : Fu) (w : World) (hv : FuAt w lo hi x a r t f) (hB : hi ≤ w.heap.size) (hla : f.args.length ≤ 1048576) (hlt : f.table.length ≤ 1048576) :
    Calls Try.prog 83 #[.agg #[x, a, r, t]] w (CopiedF w.heap.size f w) := by
  obtain ⟨rfl, rfl, hn, hs, ha, ht⟩ := hv
  obtain ⟨A, cap, rfl, _, _, ha⟩ := ha.form
  obtain ⟨T, tap, rfl, _, _, ht⟩ := ht.form
  have h3 : Below w.heap.size w ((w.alloc (.cells #[.string f.name, .slice A f.args.length cap, .int .i64 f.res, .slice T f.table.length tap] 79)).alloc (.cells #[.string ByteArray.empty, .slice none 0 0, .int .i64 0, .slice none 0 0] 79)) := by go_grown
  have H3 := Lib.hid h3
  have Ht := Lib.hid ht
  clear h3 ht
  go_enter Try.func83, Try.ntmps83
  go_wp2_with fail
  refine (clone_any lo hi _ f.args _ (ha.below H3.out hB) (by simp; omega) hla).mono ?_
  rintro e w1 ⟨v, rfl, hb, hown⟩
  obtain ⟨VA, VC, rfl⟩ := owns_form hown
  have r1 : Row w1 w.heap.size 79 [.string f.name, .slice A f.args.length cap, .int .i64 f.res, .slice T f.table.length tap] :=
    ((Row.new w 79 [.string f.name, .slice A f.args.length cap, .int .i64 f.res, .slice T f.table.length tap]).keep (Below.heap_alloc _ _ _ (by simp))).below hb (by simp; omega)
  have r2 : Row w1 (w.heap.size + 1) 79 [.string ByteArray.empty, .slice none 0 0, .int .i64 0, .slice none 0 0] := by
    have h := Row.new (w.alloc (.cells #[.string f.name, .slice A f.args.length cap, .int .i64 f.res, .slice T f.table.length tap] 79)) 79 [.string ByteArray.empty, .slice none 0 0, .int .i64 0, .slice none 0 0]
    rw [World.size_alloc] at h
    exact h.below hb (by simp)
  have hs1 : w.heap.size + 1 + 1 ≤ w1.heap.size := by have := hb.size; simpa using this
  have hb1 := Lib.hid (H3.out.trans (hb.mono (by simp; omega)))
  simp only [World.size_alloc] at hown
  have Hown := Lib.hid hown
  have c0 := r1.cell 0
  have c1 := r1.cell 1
  have c2 := r1.cell 2
  have c3 := r1.cell 3
  have f1 := r1.frozen 1
  simp only [List.getElem?_cons_zero, List.getElem?_cons_succ] at c0 c1 c2 c3
  have R1 := Lib.hid r1
  have R2 := Lib.hid r2
  have hlt1 : w.heap.size < w1.heap.size := by omega
  clear r1 r2 hb hown
  go_wp2_with fail
  obtain ⟨u1, hu1⟩ : ∃ u, u = w1.setCell ⟨w.heap.size, 1, none⟩ (.slice VA f.args.length VC) := ⟨_, rfl⟩
  rw [← hu1]
  have hbu : Below w.heap.size w u1 := by rw [hu1]; exact hb1.out.setCell (Nat.le_refl _) _
  have hsu : u1.heap.size = w1.heap.size := by rw [hu1]; simp [World.setCell]
  have hku : ∀ g, g ≠ w.heap.size → u1.heap[g]? = w1.heap[g]? := fun g hg => by rw [hu1]; exact Below.heap_setCell _ _ _ _ hg
  have ru : Row u1 w.heap.size 79 [.string f.name, .slice VA f.args.length VC, .int .i64 f.res, .slice T f.table.length tap] := by rw [hu1]; exact R1.out.set_ 1 _
  refine (clone_any lo hi _ f.table _ (Ht.out.below (hbu.mono hB) (Nat.le_refl _)) (by omega) hlt).mono ?_
  rintro e w2 ⟨v2, rfl, hb2, hown2⟩
  obtain ⟨TA, TC, rfl⟩ := owns_form hown2
  have hs2 := hb2.size
  have hown1 : w2.ownsRow (w.heap.size + 1 + 1) 3 1 (.slice VA f.args.length VC) f.args.length (f.args.map (Value.int .i64)) :=
    ownsRow_keep Hown.out fun g hg hl => (hb2.block g (by omega)).trans (hku g (by omega))
  have hC : ∀ g, (Value.slice VA f.args.length VC).ownBlock = some g → g < u1.heap.size := fun g hg => by have := (owns_lt Hown.out g hg).2; omega
  have ru2 := ru.below hb2 (by omega)
  have r2' := (R2.out.keep (hku _ (by omega))).below hb2 (by omega)
  have hb02 := Lib.hid (hbu.trans (hb2.mono (by omega)))
  have d0 := ru2.cell 0
  have d1 := ru2.cell 1
  have d2 := ru2.cell 2
  have d3 := ru2.cell 3
  have e0 := r2'.cell 0
  have e1 := r2'.cell 1
  have e2 := r2'.cell 2
  have e3 := r2'.cell 3
  have g0 := ru2.frozen 3
  have g1 := r2'.frozen 0
  have g2 := r2'.frozen 1
  have g3 := r2'.frozen 2
  have g4 := r2'.frozen 3
  simp only [List.getElem?_cons_zero, List.getElem?_cons_succ] at d0 d1 d2 d3 e0 e1 e2 e3
  have Hown1 := Lib.hid hown1
  have Hown2 := Lib.hid hown2
  have HC := Lib.hid hC
  have hlt2 : w.heap.size + 1 < w2.heap.size := by omega
  have hlt2' : w.heap.size < w2.heap.size := by omega
  clear hbu hku ru ru2 r2' hb2 hown1 hown2 hC hu1 c0 c1 c2 c3 f1
  go_wp2
  refine bodyPost_ret (v := .agg #[.string f.name, .slice VA f.args.length VC, .int .i64 f.res, .slice TA f.table.length TC]) (by simp [results, Try.results83, go_sem, e0, e1, e2, e3]) rfl ?_
  refine ⟨_, _, rfl, ?_, u1.heap.size, by omega, ?_, HC.out, ?_⟩
  · exact ((((hb02.out.setCell (by dsimp only; omega) _).setCell (by dsimp only; omega) _).setCell (by dsimp only; omega) _).setCell (by dsimp only; omega) _).setCell (by dsimp only; omega) _
  · exact ownsRow_lower (ownsRow_keep Hown1.out fun g hg hgl => (Below.heap_setCell _ _ _ _ (by dsimp only; omega)).trans ((Below.heap_setCell _ _ _ _ (by dsimp only; omega)).trans ((Below.heap_setCell _ _ _ _ (by dsimp only; omega)).trans ((Below.heap_setCell _ _ _ _ (by dsimp only; omega)).trans (Below.heap_setCell _ _ _ _ (by dsimp only; omega)))))) (by omega)
  · exact ownsRow_keep Hown2.out fun g hg hgl => (Below.heap_setCell _ _ _ _ (by dsimp only; omega)).trans ((Below.heap_setCell _ _ _ _ (by dsimp only; omega)).trans ((Below.heap_setCell _ _ _ _ (by dsimp only; omega)).trans ((Below.heap_setCell _ _ _ _ (by dsimp only; omega)).trans (Below.heap_setCell _ _ _ _ (by dsimp only; omega)))))
end Go.Proofs.Ytplncocfbajefaa

namespace Go.Proofs.Ytplncocfbajefaa
open Go.RowKit

set_option maxRecDepth 100000 in
set_option maxHeartbeats 1000000 in
theorem ownFu_any (lo hi : Nat) (x a r t : Value) (f : Fu) (w : World) (hv : FuAt w lo hi x a r t f) (hB : hi ≤ w.heap.size) (hla : f.args.length ≤ 1048576) (hlt : f.table.length ≤ 1048576) :
    Calls Try.prog 63 #[.agg #[x, a, r, t]] w (CopiedF w.heap.size f w) := by
  obtain ⟨rfl, rfl, hn, hs, ha, ht⟩ := hv
  obtain ⟨A, cap, rfl, _, _, ha⟩ := ha.form
  obtain ⟨T, tap, rfl, _, _, ht⟩ := ht.form
  have h3 : Below w.heap.size w (((w.alloc (.cells #[.string f.name, .slice A f.args.length cap, .int .i64 f.res, .slice T f.table.length tap] 79)).alloc (.cells #[.string ByteArray.empty, .slice none 0 0, .int .i64 0, .slice none 0 0] 79)).alloc (.cells #[] 3)) := by go_grown
  have hw2 : (((w.alloc (.cells #[.string f.name, .slice A f.args.length cap, .int .i64 f.res, .slice T f.table.length tap] 79)).alloc (.cells #[.string ByteArray.empty, .slice none 0 0, .int .i64 0, .slice none 0 0] 79)).heap.size) = w.heap.size + 1 + 1 := by simp
  have h0 := World.ownsRow_lit (base := w.heap.size + 1 + 1) (e := 3) (size := 1) ((w.alloc (.cells #[.string f.name, .slice A f.args.length cap, .int .i64 f.res, .slice T f.table.length tap] 79)).alloc (.cells #[.string ByteArray.empty, .slice none 0 0, .int .i64 0, .slice none 0 0] 79)) #[] 0 (by rw [hw2]; exact Nat.le_refl _) (by unfold maxLen; omega) rfl
  rw [hw2] at h0
  have hr0 : Row (((w.alloc (.cells #[.string f.name, .slice A f.args.length cap, .int .i64 f.res, .slice T f.table.length tap] 79)).alloc (.cells #[.string ByteArray.empty, .slice none 0 0, .int .i64 0, .slice none 0 0] 79)).alloc (.cells #[] 3)) w.heap.size 79 [.string f.name, .slice A f.args.length cap, .int .i64 f.res, .slice T f.table.length tap] :=
    ((Row.new w 79 [.string f.name, .slice A f.args.length cap, .int .i64 f.res, .slice T f.table.length tap]).keep (Below.heap_alloc _ _ _ (by simp))).keep (Below.heap_alloc _ _ _ (by simp; omega))
  have hr1 : Row (((w.alloc (.cells #[.string f.name, .slice A f.args.length cap, .int .i64 f.res, .slice T f.table.length tap] 79)).alloc (.cells #[.string ByteArray.empty, .slice none 0 0, .int .i64 0, .slice none 0 0] 79)).alloc (.cells #[] 3)) (w.heap.size + 1) 79 [.string ByteArray.empty, .slice none 0 0, .int .i64 0, .slice none 0 0] := by
    have h := Row.new (w.alloc (.cells #[.string f.name, .slice A f.args.length cap, .int .i64 f.res, .slice T f.table.length tap] 79)) 79 [.string ByteArray.empty, .slice none 0 0, .int .i64 0, .slice none 0 0]
    rw [World.size_alloc] at h
    exact h.keep (Below.heap_alloc _ _ _ (by simp))
  have H0 := Lib.hid h0
  have Ha := Lib.hid (ha.below h3 hB)
  have Ht := Lib.hid ht
  have H3 := Lib.hid h3
  have Hr0 := Lib.hid hr0
  have Hr1 := Lib.hid hr1
  clear h0 ha ht h3 hw2 hr0 hr1
  go_enter Try.func63, Try.ntmps63
  go_wp2_with (first
    | (at_builtin; refine wpList_append_ints rfl (.tmp 3) (.tmp 5) rfl (w.heap.size + 1 + 1) _ 0 [] rfl H0.out lo hi A f.args.length cap f.args rfl Ha.out rfl (by omega) (by simp) ?_; intro VA VC w1 hown hgrow; have hgrow' : World.grownBy _ w1 (some (w.heap.size + 1 + 1)) := hgrow; have hs1 := hgrow.size; simp only [World.size_alloc] at hs1; have hb1 := H3.out.grown hgrow (by simp; omega) (fun k hk => (by have h : (some (w.heap.size + 1 + 1) : Option Nat) = some k := hk; injection h with h; omega)); have r1 := Hr0.out.keep (hgrow'.block _ Hr0.out.lt (fun e => by injection e with e; omega)); have r2 := Hr1.out.keep (hgrow'.block _ Hr1.out.lt (fun e => by injection e with e; omega)); have ho1 : w1.ownsRow (w.heap.size + 1 + 1) 3 1 (.slice VA f.args.length VC) f.args.length (f.args.map (Value.int .i64)) := (by simpa using hown); have Hown := Lib.hid ho1; have Hb1 := Lib.hid hb1; have c0 := r1.cell 0; have c1 := r1.cell 1; have c2 := r1.cell 2; have c3 := r1.cell 3; have f1 := r1.frozen 1; simp only [List.getElem?_cons_zero, List.getElem?_cons_succ] at c0 c1 c2 c3; have R1 := Lib.hid r1; have R2 := Lib.hid r2; have hlt1 : w.heap.size < w1.heap.size := (by omega); clear r1 r2 hb1 hown hgrow hgrow' ho1 H0 Ha H3 Hr0 Hr1; rw [Nat.zero_add])
    | (at_builtin; obtain ⟨u1, hu1⟩ : ∃ u, u = w1.setCell ⟨w.heap.size, 1, none⟩ (.slice VA f.args.length VC) := ⟨_, rfl⟩; rw [← hu1]; have hbu : Below w.heap.size w u1 := (by rw [hu1]; exact Hb1.out.setCell (Nat.le_refl _) _); have hsu : u1.heap.size = w1.heap.size := (by rw [hu1]; simp [World.setCell]); have hku : ∀ g, g ≠ w.heap.size → u1.heap[g]? = w1.heap[g]? := (fun g hg => by rw [hu1]; exact Below.heap_setCell _ _ _ _ hg); have ru : Row u1 w.heap.size 79 [.string f.name, .slice VA f.args.length VC, .int .i64 f.res, .slice T f.table.length tap] := (by rw [hu1]; exact R1.out.set_ 1 _); have h1 := World.ownsRow_lit (base := u1.heap.size) (e := 3) (size := 1) u1 #[] 0 (Nat.le_refl _) (by unfold maxLen; omega) rfl; rw [hsu] at h1; refine wpList_append_ints rfl (.tmp 8) (.tmp 10) rfl w1.heap.size _ 0 [] rfl h1 lo hi T f.table.length tap f.table rfl ((Ht.out.below (hbu.mono hB) (Nat.le_refl _)).below ((Below.refl _ _).alloc (by have := hbu.size; omega) _) (Nat.le_refl _)) rfl (by omega) (by simp; omega) ?_; intro TA TC w2 hown2 hgrow; have hgrow' : World.grownBy _ w2 (some w1.heap.size) := hgrow; have hs2 := hgrow.size; simp only [World.size_alloc] at hs2; have hb2 : Below u1.heap.size u1 w2 := ((Below.refl _ u1).alloc (Nat.le_refl _) (.cells #[] 3)).grown hgrow (by simp) (fun k hk => (by have h : (some w1.heap.size : Option Nat) = some k := hk; injection h with h; omega)); have ho2 : w2.ownsRow w1.heap.size 3 1 (.slice TA f.table.length TC) f.table.length (f.table.map (Value.int .i64)) := (by simpa using hown2); have hown1 : w2.ownsRow (w.heap.size + 1 + 1) 3 1 (.slice VA f.args.length VC) f.args.length (f.args.map (Value.int .i64)) := (ownsRow_keep Hown.out fun g hg hl => (hb2.block g (by omega)).trans (hku g (by omega))); have hC : ∀ g, (Value.slice VA f.args.length VC).ownBlock = some g → g < w1.heap.size := (fun g hg => by have := (owns_lt Hown.out g hg).2; omega); have ru2 := ru.below hb2 (by omega); have r2' := (R2.out.keep (hku _ (by omega))).below hb2 (by have := R2.out.lt; omega); have hb02 := Lib.hid (hbu.trans (hb2.mono (by omega))); have d0 := ru2.cell 0; have d1 := ru2.cell 1; have d2 := ru2.cell 2; have d3 := ru2.cell 3; have e0 := r2'.cell 0; have e1 := r2'.cell 1; have e2 := r2'.cell 2; have e3 := r2'.cell 3; have g0 := ru2.frozen 3; have g1 := r2'.frozen 0; have g2 := r2'.frozen 1; have g3 := r2'.frozen 2; have g4 := r2'.frozen 3; simp only [List.getElem?_cons_zero, List.getElem?_cons_succ] at d0 d1 d2 d3 e0 e1 e2 e3; have Hown1 := Lib.hid hown1; have Hown2 := Lib.hid ho2; have HC := Lib.hid hC; have hlt2 : w.heap.size + 1 < w2.heap.size := (by omega); have hlt2' : w.heap.size < w2.heap.size := (by omega); clear hbu hku ru ru2 r2' hb2 hown1 hown2 ho2 hC hu1 c0 c1 c2 c3 f1 h1 hgrow hgrow'; rw [Nat.zero_add]))
  refine bodyPost_ret (v := .agg #[.string f.name, .slice VA f.args.length VC, .int .i64 f.res, .slice TA f.table.length TC]) (by simp [results, Try.results63, go_sem, e0, e1, e2, e3]) rfl ?_
  refine ⟨_, _, rfl, ?_, w1.heap.size, by omega, ?_, HC.out, ?_⟩
  · exact ((((hb02.out.setCell (by dsimp only; omega) _).setCell (by dsimp only; omega) _).setCell (by dsimp only; omega) _).setCell (by dsimp only; omega) _).setCell (by dsimp only; omega) _
  · exact ownsRow_lower (ownsRow_keep Hown1.out fun g hg hgl => (Below.heap_setCell _ _ _ _ (by dsimp only; omega)).trans ((Below.heap_setCell _ _ _ _ (by dsimp only; omega)).trans ((Below.heap_setCell _ _ _ _ (by dsimp only; omega)).trans ((Below.heap_setCell _ _ _ _ (by dsimp only; omega)).trans (Below.heap_setCell _ _ _ _ (by dsimp only; omega)))))) (by omega)
  · exact ownsRow_keep Hown2.out fun g hg hgl => (Below.heap_setCell _ _ _ _ (by dsimp only; omega)).trans ((Below.heap_setCell _ _ _ _ (by dsimp only; omega)).trans ((Below.heap_setCell _ _ _ _ (by dsimp only; omega)).trans ((Below.heap_setCell _ _ _ _ (by dsimp only; omega)).trans (Below.heap_setCell _ _ _ _ (by dsimp only; omega)))))
end Go.Proofs.Ytplncocfbajefaa

