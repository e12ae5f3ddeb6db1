/-
  Systems that a call has copied: what they read as, and that they lie in memory of the call's own.
-/
import Derived.Test.YtilcahidmoaakaaMwa
import Derived.Test.YtilcahidmoaakaaMarkf
import Derived.Test.YtilcahidmoaakaaFto
import Derived.Test.YtilcahidmoaakaaRinv
import Derived.Test.YtilcahidmoaakaaMarks
namespace Go.Proofs.Ytilcahidmoaakaa
open Go.RowKit

/-- The cells xs are k functions f, whose arguments and tables lie in blocks of their own. -/
structure PiecesOf (w : World) (base : Nat) (row : Option Nat) (f : Nat → Fu) (k : Nat) (xs : List Value) (m : Nat → Bool → Nat) (mv : Nat → Bool → Value) : Prop where
  cells : ∀ i, i < k → xs[i * 4]? = some (.string (f i).name) ∧ xs[i * 4 + 1]? = some (mv i false) ∧ xs[i * 4 + 2]? = some (.int .i64 (f i).res) ∧ xs[i * 4 + 3]? = some (mv i true)
  own : ∀ i b, i < k → OwnI w 3 (m i b) (mv i b) ((f i).zs b)
  away : ∀ i b, i < k → 0 < ((f i).zs b).length → base ≤ m i b ∧ m i b < w.heap.size ∧ row ≠ some (m i b) ∧ ∀ j c, j < k → (j ≠ i ∨ c ≠ b) → 0 < ((f j).zs c).length → m j c ≠ m i b

def FusOwned (w : World) (base : Nat) (l : Value) (f : Nat → Fu) (k : Nat) : Prop :=
  ∃ xs m mv, w.ownsRow base 55 4 l k xs ∧ PiecesOf w base l.ownBlock f k xs m mv

theorem PiecesOf.keep {w w' : World} {base : Nat} {row : Option Nat} {f : Nat → Fu} {k : Nat} {xs : List Value} {m : Nat → Bool → Nat} {mv : Nat → Bool → Value} (h : PiecesOf w base row f k xs m mv)
    (hs : w.heap.size ≤ w'.heap.size) (hk : ∀ g, base ≤ g → g < w.heap.size → w'.heap[g]? = w.heap[g]?) : PiecesOf w' base row f k xs m mv :=
  ⟨h.cells, fun i b hi => (h.own i b hi).keep fun h0 => hk _ (h.away i b hi h0).1 (h.away i b hi h0).2.1,
    fun i b hi h0 => ⟨(h.away i b hi h0).1, Nat.lt_of_lt_of_le (h.away i b hi h0).2.1 hs, (h.away i b hi h0).2.2⟩⟩
theorem FusOwned.keep {w w' : World} {base : Nat} {l : Value} {f : Nat → Fu} {k : Nat} (h : FusOwned w base l f k)
    (hs : w.heap.size ≤ w'.heap.size) (hk : ∀ g, base ≤ g → g < w.heap.size → w'.heap[g]? = w.heap[g]?) : FusOwned w' base l f k := by
  obtain ⟨xs, m, mv, h1, h2⟩ := h
  exact ⟨xs, m, mv, ownsRow_keep h1 hk, h2.keep hs hk⟩
theorem FusOwned.nil (w : World) (base : Nat) (f : Nat → Fu) : FusOwned w base (.slice none 0 0) f 0 :=
  ⟨[], fun _ _ => 0, fun _ _ => .slice none 0 0, World.ownsRow_nil _ _ _ _, fun i hi => absurd hi (by omega), fun i _ hi => absurd hi (by omega), fun i _ hi => absurd hi (by omega)⟩
theorem FusOwned.congr {w : World} {base : Nat} {l : Value} {f f' : Nat → Fu} {k : Nat} (h : FusOwned w base l f k) (he : ∀ i, i < k → f i = f' i) : FusOwned w base l f' k := by
  obtain ⟨xs, m, mv, h1, h2⟩ := h
  refine ⟨xs, m, mv, h1, ⟨fun i hi => by rw [← he i hi]; exact h2.cells i hi, fun i b hi => by rw [← he i hi]; exact h2.own i b hi, fun i b hi h0 => ?_⟩⟩
  rw [← he i hi] at h0
  obtain ⟨a, b', c, d⟩ := h2.away i b hi h0
  exact ⟨a, b', c, fun j c hj hne h1 => d j c hj hne (by rw [he j hj]; exact h1)⟩

/-- The two slices of a function that a call has copied. -/
def TwoOwned (w : World) (base : Nat) (va vt : Value) (f : Fu) : Prop :=
  ∃ C, base ≤ C ∧ w.ownsRow base 3 1 va f.args.length (f.args.map (Value.int .i64)) ∧ (∀ g, va.ownBlock = some g → g < C) ∧ w.ownsRow C 3 1 vt f.table.length (f.table.map (Value.int .i64))
theorem TwoOwned.keep {w w' : World} {base : Nat} {va vt : Value} {f : Fu} (h : TwoOwned w base va vt f) (hk : ∀ g, base ≤ g → g < w.heap.size → w'.heap[g]? = w.heap[g]?) : TwoOwned w' base va vt f := by
  obtain ⟨C, h1, h2, h3, h4⟩ := h
  exact ⟨C, h1, ownsRow_keep h2 hk, h3, ownsRow_keep h4 fun g hg hl => hk g (by omega) hl⟩
theorem TwoOwned.lower {w : World} {base base' : Nat} {va vt : Value} {f : Fu} (h : TwoOwned w base va vt f) (hb : base' ≤ base) : TwoOwned w base' va vt f := by
  obtain ⟨C, h1, h2, h3, h4⟩ := h
  exact ⟨C, by omega, ownsRow_lower h2 hb, h3, h4⟩
theorem TwoOwned.alloc {w : World} {base : Nat} {va vt : Value} {f : Fu} (h : TwoOwned w base va vt f) (o : Obj) : TwoOwned (w.alloc o) base va vt f :=
  h.keep fun g _ hl => Below.heap_alloc w o g hl
theorem OwnI.of_owns2 {w : World} {base : Nat} {v : Value} {zs : List Int} (h : w.ownsRow base 3 1 v zs.length (zs.map (Value.int .i64))) : ∃ g, OwnI w 3 g v zs ∧ (0 < zs.length → base ≤ g ∧ g < w.heap.size ∧ v.ownBlock = some g) := by
  obtain ⟨h1, ⟨rfl, hn⟩ | ⟨g, cap, cur, rfl, hb, hh, hc, hm, hsz, htk⟩⟩ := h
  · refine ⟨0, ⟨none, 0, by rw [hn], by omega, Nat.zero_le _, fun e => by simp [List.eq_nil_of_length_eq_zero e], fun h0 => absurd h0 (by omega)⟩, fun h0 => absurd h0 (by omega)⟩
  · have hr : Row w g 3 ((zs.map (Value.int .i64)) ++ cur.toList.drop zs.length) := by
      rw [← htk, Nat.mul_one, List.take_append_drop]
      simpa [Row] using hh
    exact ⟨g, ⟨_, _, rfl, hc, hm, fun e => by simp [List.eq_nil_of_length_eq_zero e], fun _ => ⟨rfl, _, hr⟩⟩, fun _ => ⟨hb, hr.lt, rfl⟩⟩
theorem TwoOwned.pieces {w : World} {base : Nat} {va vt : Value} {f : Fu} (h : TwoOwned w base va vt f) :
    ∃ g : Bool → Nat, OwnI w 3 (g false) va f.args ∧ OwnI w 3 (g true) vt f.table ∧ (∀ b, 0 < (f.zs b).length → base ≤ g b ∧ g b < w.heap.size) ∧ (0 < f.args.length → 0 < f.table.length → g false ≠ g true) := by
  obtain ⟨C, h1, h2, h3, h4⟩ := h
  obtain ⟨ga, a1, a2⟩ := OwnI.of_owns2 h2
  obtain ⟨gt, t1, t2⟩ := OwnI.of_owns2 h4
  refine ⟨fun b => if b then gt else ga, a1, t1, fun b hb => ?_, fun h h' => ?_⟩
  · cases b with
    | false => exact ⟨(a2 hb).1, (a2 hb).2.1⟩
    | true => exact ⟨by have := (t2 hb).1; show base ≤ gt; omega, (t2 hb).2.1⟩
  · have := h3 ga (a2 h).2.2
    have := (t2 h').1
    show ga ≠ gt
    omega

theorem PiecesOf.step {w w2 w3 : World} {base : Nat} {l : Value} {f : Nat → Fu} {k : Nat} {xs : List Value} {m : Nat → Bool → Nat} {mv : Nat → Bool → Value} {va vt : Value} {g' : Nat}
    (h : PiecesOf w base l.ownBlock f k xs m mv) (hl : xs.length = k * 4) (hb : base ≤ w.heap.size) (h12 : Below w.heap.size w w2)
    {bv : Nat} (hbv : w.heap.size ≤ bv) (hown : TwoOwned w2 bv va vt (f k)) (hlt : ∀ g, l.ownBlock = some g → g < w.heap.size)
    (hg : w2.grownBy w3 l.ownBlock) (hat : l.ownBlock = some g' ∨ g' = w2.heap.size) :
    ∃ m' mv', PiecesOf w3 base (some g') f (k + 1) (xs ++ [.string (f k).name, va, .int .i64 (f k).res, vt]) m' mv' ∧ ∀ i b, i < k + 1 → 0 < ((f i).zs b).length → m' i b < w.heap.size ∨ bv ≤ m' i b := by
  obtain ⟨g, hoa, hot, hgb, hgne⟩ := hown.pieces
  have hog : ∀ b, OwnI w2 3 (g b) (if b then vt else va) ((f k).zs b) := fun b => by cases b with
    | false => exact hoa
    | true => exact hot
  have hsz := h12.size
  have hsz3 := hg.size
  refine ⟨fun i b => if i = k then g b else m i b, fun i b => if i = k then (if b then vt else va) else mv i b, ⟨fun i hi => ?_, fun i b hi => ?_, fun i b hi h0 => ?_⟩, fun i b hi h0 => ?_⟩
  · by_cases e : i = k
    · subst e
      simp [hl]
    · rw [if_neg e, if_neg e]
      obtain ⟨a, b, c, d⟩ := h.cells i (by omega)
      rw [List.getElem?_append_left (by omega), List.getElem?_append_left (by omega), List.getElem?_append_left (by omega), List.getElem?_append_left (by omega)]
      exact ⟨a, b, c, d⟩
  · by_cases e : i = k
    · subst e
      rw [if_pos rfl, if_pos rfl]
      refine (hog b).keep fun h0 => ?_
      have := hgb b h0
      exact hg.block _ this.2 (fun hc => by have := hlt _ hc.symm; omega)
    · rw [if_neg e, if_neg e]
      refine (h.own i b (by omega)).keep fun h0 => ?_
      obtain ⟨a, b', c, _⟩ := h.away i b (by omega) h0
      exact (hg.block _ (by omega) (fun hc => c hc.symm)).trans (h12.block _ b')
  · by_cases e : i = k
    · subst e
      rw [if_pos rfl]
      have hgg := hgb b h0
      refine ⟨by omega, by omega, ?_, fun j c hj hne h1 => ?_⟩
      · intro hc
        injection hc with hc
        rcases hat with hat | hat
        · have := hlt _ hat; omega
        · omega
      · by_cases ej : j = i
        · subst ej
          rw [if_pos rfl]
          have hcb : c ≠ b := by rcases hne with hne | hne; exact absurd rfl hne; exact hne
          cases b with
          | false =>
            have e : c = true := by simpa using hcb
            subst e
            exact fun e2 => hgne h0 h1 e2.symm
          | true =>
            have e : c = false := by simpa using hcb
            subst e
            exact hgne h1 h0
        · rw [if_neg ej]
          have := (h.away j c (by omega) h1).2.1
          omega
    · rw [if_neg e]
      obtain ⟨a, b', c, d⟩ := h.away i b (by omega) h0
      refine ⟨a, by omega, ?_, fun j c2 hj hne h1 => ?_⟩
      · intro hc
        injection hc with hc
        rcases hat with hat | hat
        · exact c (by rw [hat, hc])
        · omega
      · by_cases ej : j = k
        · subst ej
          rw [if_pos rfl]
          have := hgb c2 h1
          omega
        · rw [if_neg ej]
          exact d j c2 (by omega) hne h1
  · by_cases e : i = k
    · subst e
      simp only [if_true]
      exact .inr (hgb b h0).1
    · simp only [if_neg e]
      exact .inl (h.away i b (by omega) h0).2.1

theorem FusOwned.push {w w2 w3 : World} {base : Nat} {l : Value} {f : Nat → Fu} {k : Nat} {xs : List Value} {m : Nat → Bool → Nat} {mv : Nat → Bool → Value} {va vt : Value} {g' cap3 : Nat} {c : Fu} {o : Obj}
    (h : PiecesOf w base l.ownBlock f k xs m mv) (how : w.ownsRow base 55 4 l k xs) (hb : base ≤ w.heap.size) (hf : f k = c) (h12 : Below w.heap.size w w2)
    (hown : TwoOwned w2 w.heap.size va vt c) (hg : (w2.alloc o).grownBy w3 l.ownBlock) (hat : l.ownBlock = some g' ∨ g' = w2.heap.size + 1)
    (h3 : w3.ownsRow base 55 4 (.slice (some ⟨g', 0, none⟩) (k + 1) cap3) (k + 1) (xs ++ [.string c.name, va, .int .i64 c.res, vt])) : FusOwned w3 base (.slice (some ⟨g', 0, none⟩) (k + 1) cap3) f (k + 1) := by
  subst hf
  obtain ⟨m', mv', hm, _⟩ := h.step (w2 := w2.alloc o) how.1 hb (h12.alloc h12.size o) (Nat.le_refl _) (hown.alloc o) (fun g hg => (owns_lt how g hg).2) hg (by rcases hat with a | a; exact .inl a; exact .inr (by rw [a]; simp))
  exact ⟨_, m', mv', h3, hm⟩
/-- As 'push', with a store behind it into a block that was made between the list and the function. -/
theorem FusOwned.push_store {w w2 w3 w4 : World} {base bv : Nat} {l : Value} {f : Nat → Fu} {k : Nat} {xs : List Value} {m : Nat → Bool → Nat} {mv : Nat → Bool → Value} {va vt : Value} {g' cap3 : Nat} {c : Fu} {o : Obj}
    (h : PiecesOf w base l.ownBlock f k xs m mv) (how : w.ownsRow base 55 4 l k xs) (hb : base ≤ w.heap.size) (hf : f k = c) (h12 : Below w.heap.size w w2) (hbv : w.heap.size ≤ bv) (hbv2 : bv ≤ w2.heap.size)
    (hown : TwoOwned w2 bv va vt c) (hg : (w2.alloc o).grownBy w3 l.ownBlock) (hat : l.ownBlock = some g' ∨ g' = w2.heap.size + 1)
    (h3 : w3.ownsRow base 55 4 (.slice (some ⟨g', 0, none⟩) (k + 1) cap3) (k + 1) (xs ++ [.string c.name, va, .int .i64 c.res, vt]))
    (hs4 : w3.heap.size ≤ w4.heap.size) (hk4 : ∀ g, g < w.heap.size ∨ bv ≤ g → w4.heap[g]? = w3.heap[g]?) : FusOwned w4 base (.slice (some ⟨g', 0, none⟩) (k + 1) cap3) f (k + 1) := by
  subst hf
  obtain ⟨m', mv', hm, hfar⟩ := h.step (w2 := w2.alloc o) how.1 hb (h12.alloc h12.size o) hbv (hown.alloc o) (fun g hg => (owns_lt how g hg).2) hg (by rcases hat with a | a; exact .inl a; exact .inr (by rw [a]; simp))
  refine ⟨_, m', mv', ownsRow_keep1 h3 (fun g hg => hk4 g ?_), hm.cells, fun i b hi => (hm.own i b hi).keep fun h0 => hk4 _ (hfar i b hi h0), fun i b hi h0 => ?_⟩
  · have e : g' = g := by
      have h : some g' = some g := hg
      injection h
    subst e
    rcases hat with a | a
    · exact .inl (owns_lt how _ a).2
    · exact .inr (by omega)
  · obtain ⟨a, b', c, d⟩ := hm.away i b hi h0
    exact ⟨a, by omega, c, d⟩

/-- Functions in a row, whose slices read as they should, read as functions. -/
theorem FusOwned.fusAt {w : World} {base : Nat} {l : Value} {f : Nat → Fu} {n lo hi : Nat} (h : FusOwned w base l f n) (hw : ∀ i, i < n → (f i).fits) (hlo : lo ≤ base) (hhi : w.heap.size ≤ hi) : FusAt w lo hi l ((List.range n).map f) := by
  obtain ⟨xs, m, mv, h, h2⟩ := h
  have e : ((List.range n).map f).length = n := by simp
  have hpc : ∀ i b, i < n → (∀ z ∈ (f i).zs b, I64 z) → IntsAt w lo hi (mv i b) ((f i).zs b) := fun i b hi hz => (h2.own i b hi).ints hz fun h0 => by
    have := h2.away i b hi h0
    omega
  obtain ⟨hx, ⟨rfl, rfl⟩ | ⟨g, cap, cur, rfl, hb, hh, hc, hm, hs, ht⟩⟩ := h
  · exact ⟨none, 0, rfl, Nat.le_refl _, by unfold maxLen; omega, fun h0 => absurd h0 (by simp)⟩
  · have hlt := owns_lt (⟨hx, .inr ⟨g, cap, cur, rfl, hb, hh, hc, hm, hs, ht⟩⟩ : w.ownsRow base 55 4 (.slice (some ⟨g, 0, none⟩) n cap) n xs) g rfl
    have hcell : ∀ j u, xs[j]? = some u → w.cell? ⟨g, j, none⟩ = some u := fun j u hj => by
      have := World.ownsRow.cells (⟨hx, .inr ⟨g, cap, cur, rfl, hb, hh, hc, hm, hs, ht⟩⟩ : w.ownsRow base 55 4 (.slice (some ⟨g, 0, none⟩) n cap) n xs) (g := g) rfl j u hj
      rw [Go.WideShapes.add_plain] at this
      simpa using this
    refine ⟨_, cap, by rw [e], by rw [e]; exact hc, hm, fun h0 => ⟨g, 0, rfl, by omega, by omega, fun k hk => ?_⟩⟩
    rw [e] at hk
    obtain ⟨a, b, c, d⟩ := h2.cells k hk
    obtain ⟨w0, w1, w2, w3⟩ := hw k hk
    rw [List.getD_eq_getElem?_getD, List.getElem?_eq_getElem (by rw [e]; exact hk)]
    simp only [List.getElem_map, List.getElem_range, Option.getD_some]
    refine ⟨_, _, _, _, ?_, ?_, ?_, ?_, rfl, rfl, w0, w1, hpc k false hk w2, hpc k true hk w3⟩
    · rw [Nat.zero_add]; exact hcell _ _ a
    · rw [Nat.zero_add]; exact hcell _ _ b
    · rw [Nat.zero_add]; exact hcell _ _ c
    · rw [Nat.zero_add]; exact hcell _ _ d
/-- .. and lie in memory of the call's own. -/
theorem FusOwned.own {w : World} {base : Nat} {l : Value} {f : Nat → Fu} {n : Nat} (h : FusOwned w base l f n) :
    ∃ gc m mv, OwnFus w 3 55 gc m mv l n f ∧ ApartF gc m n f ∧ (0 < n → base ≤ gc ∧ gc < w.heap.size) ∧ ∀ i b, i < n → 0 < ((f i).zs b).length → base ≤ m i b ∧ m i b < w.heap.size := by
  obtain ⟨xs, m, mv, how, h2⟩ := h
  have hx := how.1
  obtain ⟨_, ⟨rfl, rfl⟩ | ⟨g, cap, cur, rfl, hb, hh, hc, hm, hsz, htk⟩⟩ := id how
  · exact ⟨0, m, mv, ⟨[], ⟨none, 0, rfl, Nat.le_refl _, by unfold maxLen; omega, fun _ => rfl, fun h0 => absurd h0 (by omega)⟩, rfl, fun i hi => absurd hi (by omega), fun i b hi => absurd hi (by omega)⟩, fun i b hi => absurd hi (by omega), fun h0 => absurd h0 (by omega), fun i b hi => absurd hi (by omega)⟩
  · have hr : Row w g 55 (xs ++ cur.toList.drop (n * 4)) := by
      rw [← htk, List.take_append_drop]
      simpa [Row] using hh
    refine ⟨g, m, mv, ⟨xs, ⟨_, cap, rfl, hc, hm, fun e => List.eq_nil_of_length_eq_zero (by rw [hx, e]), fun _ => ⟨rfl, _, hr⟩⟩, hx, h2.cells, h2.own⟩, fun i b hi h0 => ?_, fun _ => ⟨hb, hr.lt⟩, fun i b hi h0 => ?_⟩
    · obtain ⟨_, _, c, d⟩ := h2.away i b hi h0
      exact ⟨fun e => c (by rw [e]; rfl), d⟩
    · obtain ⟨a, b', _, _⟩ := h2.away i b hi h0
      exact ⟨a, b'⟩
end Go.Proofs.Ytilcahidmoaakaa

namespace Go.Proofs.Ytilcahidmoaakaa
open Go.RowKit

/-- The value of a function with slices of its own. -/
def CopiedF (base : Nat) (f : Fu) (w : World) (e : Ending) (w' : World) : Prop := ∃ va vt, e = .returned (.agg #[.string f.name, va, .int .i64 f.res, vt]) ∧ Below base w w' ∧ TwoOwned w' base va vt f

set_option maxRecDepth 100000 in
set_option maxHeartbeats 1000000 in
theorem copiedF_any (lo hi : Nat) (x a r t : Value) (f : Fu) (w : World) (hv : FuAt w lo hi x a r t f) (hB : hi ≤ w.heap.size) (hla : f.args.length ≤ 1048576) (hlt : f.table.length ≤ 1048576) :
    Calls Try.prog 100 #[.agg #[x, a, r, t]] w (CopiedF w.heap.size f w) := by
  obtain ⟨rfl, rfl, hn, hs, ha, ht⟩ := hv
  obtain ⟨A, cap, rfl, _, _, ha⟩ := ha.form
  obtain ⟨T, tap, rfl, _, _, ht⟩ := ht.form
  have h3 : Below w.heap.size w ((w.alloc (.cells #[.string f.name, .slice A f.args.length cap, .int .i64 f.res, .slice T f.table.length tap] 55)).alloc (.cells #[.string ByteArray.empty, .slice none 0 0, .int .i64 0, .slice none 0 0] 55)) := by go_grown
  have H3 := Lib.hid h3
  have Ht := Lib.hid ht
  clear h3 ht
  go_enter Try.func100, Try.ntmps100
  go_wp2_with fail
  refine (clone_any lo hi _ f.args _ (ha.below H3.out hB) (by simp; omega) hla).mono ?_
  rintro e w1 ⟨v, rfl, hb, hown⟩
  obtain ⟨VA, VC, rfl⟩ := owns_form hown
  have r1 : Row w1 w.heap.size 55 [.string f.name, .slice A f.args.length cap, .int .i64 f.res, .slice T f.table.length tap] :=
    ((Row.new w 55 [.string f.name, .slice A f.args.length cap, .int .i64 f.res, .slice T f.table.length tap]).keep (Below.heap_alloc _ _ _ (by simp))).below hb (by simp; omega)
  have r2 : Row w1 (w.heap.size + 1) 55 [.string ByteArray.empty, .slice none 0 0, .int .i64 0, .slice none 0 0] := by
    have h := Row.new (w.alloc (.cells #[.string f.name, .slice A f.args.length cap, .int .i64 f.res, .slice T f.table.length tap] 55)) 55 [.string ByteArray.empty, .slice none 0 0, .int .i64 0, .slice none 0 0]
    rw [World.size_alloc] at h
    exact h.below hb (by simp)
  have hs1 : w.heap.size + 1 + 1 ≤ w1.heap.size := by have := hb.size; simpa using this
  have hb1 := Lib.hid (H3.out.trans (hb.mono (by simp; omega)))
  simp only [World.size_alloc] at hown
  have Hown := Lib.hid hown
  have c0 := r1.cell 0
  have c1 := r1.cell 1
  have c2 := r1.cell 2
  have c3 := r1.cell 3
  have f1 := r1.frozen 1
  simp only [List.getElem?_cons_zero, List.getElem?_cons_succ] at c0 c1 c2 c3
  have R1 := Lib.hid r1
  have R2 := Lib.hid r2
  have hlt1 : w.heap.size < w1.heap.size := by omega
  clear r1 r2 hb hown
  go_wp2_with fail
  obtain ⟨u1, hu1⟩ : ∃ u, u = w1.setCell ⟨w.heap.size, 1, none⟩ (.slice VA f.args.length VC) := ⟨_, rfl⟩
  rw [← hu1]
  have hbu : Below w.heap.size w u1 := by rw [hu1]; exact hb1.out.setCell (Nat.le_refl _) _
  have hsu : u1.heap.size = w1.heap.size := by rw [hu1]; simp [World.setCell]
  have hku : ∀ g, g ≠ w.heap.size → u1.heap[g]? = w1.heap[g]? := fun g hg => by rw [hu1]; exact Below.heap_setCell _ _ _ _ hg
  have ru : Row u1 w.heap.size 55 [.string f.name, .slice VA f.args.length VC, .int .i64 f.res, .slice T f.table.length tap] := by rw [hu1]; exact R1.out.set_ 1 _
  refine (clone_any lo hi _ f.table _ (Ht.out.below (hbu.mono hB) (Nat.le_refl _)) (by omega) hlt).mono ?_
  rintro e w2 ⟨v2, rfl, hb2, hown2⟩
  obtain ⟨TA, TC, rfl⟩ := owns_form hown2
  have hs2 := hb2.size
  have hown1 : w2.ownsRow (w.heap.size + 1 + 1) 3 1 (.slice VA f.args.length VC) f.args.length (f.args.map (Value.int .i64)) :=
    ownsRow_keep Hown.out fun g hg hl => (hb2.block g (by omega)).trans (hku g (by omega))
  have hC : ∀ g, (Value.slice VA f.args.length VC).ownBlock = some g → g < u1.heap.size := fun g hg => by have := (owns_lt Hown.out g hg).2; omega
  have ru2 := ru.below hb2 (by omega)
  have r2' := (R2.out.keep (hku _ (by omega))).below hb2 (by omega)
  have hb02 := Lib.hid (hbu.trans (hb2.mono (by omega)))
  have d0 := ru2.cell 0
  have d1 := ru2.cell 1
  have d2 := ru2.cell 2
  have d3 := ru2.cell 3
  have e0 := r2'.cell 0
  have e1 := r2'.cell 1
  have e2 := r2'.cell 2
  have e3 := r2'.cell 3
  have g0 := ru2.frozen 3
  have g1 := r2'.frozen 0
  have g2 := r2'.frozen 1
  have g3 := r2'.frozen 2
  have g4 := r2'.frozen 3
  simp only [List.getElem?_cons_zero, List.getElem?_cons_succ] at d0 d1 d2 d3 e0 e1 e2 e3
  have Hown1 := Lib.hid hown1
  have Hown2 := Lib.hid hown2
  have HC := Lib.hid hC
  have hlt2 : w.heap.size + 1 < w2.heap.size := by omega
  have hlt2' : w.heap.size < w2.heap.size := by omega
  clear hbu hku ru ru2 r2' hb2 hown1 hown2 hC hu1 c0 c1 c2 c3 f1
  go_wp2
  refine bodyPost_ret (v := .agg #[.string f.name, .slice VA f.args.length VC, .int .i64 f.res, .slice TA f.table.length TC]) (by simp [results, Try.results100, go_sem, e0, e1, e2, e3]) rfl ?_
  refine ⟨_, _, rfl, ?_, u1.heap.size, by omega, ?_, HC.out, ?_⟩
  · exact ((((hb02.out.setCell (by dsimp only; omega) _).setCell (by dsimp only; omega) _).setCell (by dsimp only; omega) _).setCell (by dsimp only; omega) _).setCell (by dsimp only; omega) _
  · exact ownsRow_lower (ownsRow_keep Hown1.out fun g hg hgl => (Below.heap_setCell _ _ _ _ (by dsimp only; omega)).trans ((Below.heap_setCell _ _ _ _ (by dsimp only; omega)).trans ((Below.heap_setCell _ _ _ _ (by dsimp only; omega)).trans ((Below.heap_setCell _ _ _ _ (by dsimp only; omega)).trans (Below.heap_setCell _ _ _ _ (by dsimp only; omega)))))) (by omega)
  · exact ownsRow_keep Hown2.out fun g hg hgl => (Below.heap_setCell _ _ _ _ (by dsimp only; omega)).trans ((Below.heap_setCell _ _ _ _ (by dsimp only; omega)).trans ((Below.heap_setCell _ _ _ _ (by dsimp only; omega)).trans ((Below.heap_setCell _ _ _ _ (by dsimp only; omega)).trans (Below.heap_setCell _ _ _ _ (by dsimp only; omega)))))
end Go.Proofs.Ytilcahidmoaakaa

namespace Go.Proofs.Ytilcahidmoaakaa
open Go.RowKit

set_option maxRecDepth 100000 in
set_option maxHeartbeats 1000000 in
theorem ownFu_any (lo hi : Nat) (x a r t : Value) (f : Fu) (w : World) (hv : FuAt w lo hi x a r t f) (hB : hi ≤ w.heap.size) (hla : f.args.length ≤ 1048576) (hlt : f.table.length ≤ 1048576) :
    Calls Try.prog 155 #[.agg #[x, a, r, t]] w (CopiedF w.heap.size f w) := by
  obtain ⟨rfl, rfl, hn, hs, ha, ht⟩ := hv
  obtain ⟨A, cap, rfl, _, _, ha⟩ := ha.form
  obtain ⟨T, tap, rfl, _, _, ht⟩ := ht.form
  have h3 : Below w.heap.size w (((w.alloc (.cells #[.string f.name, .slice A f.args.length cap, .int .i64 f.res, .slice T f.table.length tap] 55)).alloc (.cells #[.string ByteArray.empty, .slice none 0 0, .int .i64 0, .slice none 0 0] 55)).alloc (.cells #[] 3)) := by go_grown
  have hw2 : (((w.alloc (.cells #[.string f.name, .slice A f.args.length cap, .int .i64 f.res, .slice T f.table.length tap] 55)).alloc (.cells #[.string ByteArray.empty, .slice none 0 0, .int .i64 0, .slice none 0 0] 55)).heap.size) = w.heap.size + 1 + 1 := by simp
  have h0 := World.ownsRow_lit (base := w.heap.size + 1 + 1) (e := 3) (size := 1) ((w.alloc (.cells #[.string f.name, .slice A f.args.length cap, .int .i64 f.res, .slice T f.table.length tap] 55)).alloc (.cells #[.string ByteArray.empty, .slice none 0 0, .int .i64 0, .slice none 0 0] 55)) #[] 0 (by rw [hw2]; exact Nat.le_refl _) (by unfold maxLen; omega) rfl
  rw [hw2] at h0
  have hr0 : Row (((w.alloc (.cells #[.string f.name, .slice A f.args.length cap, .int .i64 f.res, .slice T f.table.length tap] 55)).alloc (.cells #[.string ByteArray.empty, .slice none 0 0, .int .i64 0, .slice none 0 0] 55)).alloc (.cells #[] 3)) w.heap.size 55 [.string f.name, .slice A f.args.length cap, .int .i64 f.res, .slice T f.table.length tap] :=
    ((Row.new w 55 [.string f.name, .slice A f.args.length cap, .int .i64 f.res, .slice T f.table.length tap]).keep (Below.heap_alloc _ _ _ (by simp))).keep (Below.heap_alloc _ _ _ (by simp; omega))
  have hr1 : Row (((w.alloc (.cells #[.string f.name, .slice A f.args.length cap, .int .i64 f.res, .slice T f.table.length tap] 55)).alloc (.cells #[.string ByteArray.empty, .slice none 0 0, .int .i64 0, .slice none 0 0] 55)).alloc (.cells #[] 3)) (w.heap.size + 1) 55 [.string ByteArray.empty, .slice none 0 0, .int .i64 0, .slice none 0 0] := by
    have h := Row.new (w.alloc (.cells #[.string f.name, .slice A f.args.length cap, .int .i64 f.res, .slice T f.table.length tap] 55)) 55 [.string ByteArray.empty, .slice none 0 0, .int .i64 0, .slice none 0 0]
    rw [World.size_alloc] at h
    exact h.keep (Below.heap_alloc _ _ _ (by simp))
  have H0 := Lib.hid h0
  have Ha := Lib.hid (ha.below h3 hB)
  have Ht := Lib.hid ht
  have H3 := Lib.hid h3
  have Hr0 := Lib.hid hr0
  have Hr1 := Lib.hid hr1
  clear h0 ha ht h3 hw2 hr0 hr1
  go_enter Try.func155, Try.ntmps155
  go_wp2_with (first
    | (at_builtin; refine wpList_append_ints rfl (.tmp 3) (.tmp 5) rfl (w.heap.size + 1 + 1) _ 0 [] rfl H0.out lo hi A f.args.length cap f.args rfl Ha.out rfl (by omega) (by simp) ?_; intro VA VC w1 hown hgrow; have hgrow' : World.grownBy _ w1 (some (w.heap.size + 1 + 1)) := hgrow; have hs1 := hgrow.size; simp only [World.size_alloc] at hs1; have hb1 := H3.out.grown hgrow (by simp; omega) (fun k hk => (by have h : (some (w.heap.size + 1 + 1) : Option Nat) = some k := hk; injection h with h; omega)); have r1 := Hr0.out.keep (hgrow'.block _ Hr0.out.lt (fun e => by injection e with e; omega)); have r2 := Hr1.out.keep (hgrow'.block _ Hr1.out.lt (fun e => by injection e with e; omega)); have ho1 : w1.ownsRow (w.heap.size + 1 + 1) 3 1 (.slice VA f.args.length VC) f.args.length (f.args.map (Value.int .i64)) := (by simpa using hown); have Hown := Lib.hid ho1; have Hb1 := Lib.hid hb1; have c0 := r1.cell 0; have c1 := r1.cell 1; have c2 := r1.cell 2; have c3 := r1.cell 3; have f1 := r1.frozen 1; simp only [List.getElem?_cons_zero, List.getElem?_cons_succ] at c0 c1 c2 c3; have R1 := Lib.hid r1; have R2 := Lib.hid r2; have hlt1 : w.heap.size < w1.heap.size := (by omega); clear r1 r2 hb1 hown hgrow hgrow' ho1 H0 Ha H3 Hr0 Hr1; rw [Nat.zero_add])
    | (at_builtin; obtain ⟨u1, hu1⟩ : ∃ u, u = w1.setCell ⟨w.heap.size, 1, none⟩ (.slice VA f.args.length VC) := ⟨_, rfl⟩; rw [← hu1]; have hbu : Below w.heap.size w u1 := (by rw [hu1]; exact Hb1.out.setCell (Nat.le_refl _) _); have hsu : u1.heap.size = w1.heap.size := (by rw [hu1]; simp [World.setCell]); have hku : ∀ g, g ≠ w.heap.size → u1.heap[g]? = w1.heap[g]? := (fun g hg => by rw [hu1]; exact Below.heap_setCell _ _ _ _ hg); have ru : Row u1 w.heap.size 55 [.string f.name, .slice VA f.args.length VC, .int .i64 f.res, .slice T f.table.length tap] := (by rw [hu1]; exact R1.out.set_ 1 _); have h1 := World.ownsRow_lit (base := u1.heap.size) (e := 3) (size := 1) u1 #[] 0 (Nat.le_refl _) (by unfold maxLen; omega) rfl; rw [hsu] at h1; refine wpList_append_ints rfl (.tmp 8) (.tmp 10) rfl w1.heap.size _ 0 [] rfl h1 lo hi T f.table.length tap f.table rfl ((Ht.out.below (hbu.mono hB) (Nat.le_refl _)).below ((Below.refl _ _).alloc (by have := hbu.size; omega) _) (Nat.le_refl _)) rfl (by omega) (by simp; omega) ?_; intro TA TC w2 hown2 hgrow; have hgrow' : World.grownBy _ w2 (some w1.heap.size) := hgrow; have hs2 := hgrow.size; simp only [World.size_alloc] at hs2; have hb2 : Below u1.heap.size u1 w2 := ((Below.refl _ u1).alloc (Nat.le_refl _) (.cells #[] 3)).grown hgrow (by simp) (fun k hk => (by have h : (some w1.heap.size : Option Nat) = some k := hk; injection h with h; omega)); have ho2 : w2.ownsRow w1.heap.size 3 1 (.slice TA f.table.length TC) f.table.length (f.table.map (Value.int .i64)) := (by simpa using hown2); have hown1 : w2.ownsRow (w.heap.size + 1 + 1) 3 1 (.slice VA f.args.length VC) f.args.length (f.args.map (Value.int .i64)) := (ownsRow_keep Hown.out fun g hg hl => (hb2.block g (by omega)).trans (hku g (by omega))); have hC : ∀ g, (Value.slice VA f.args.length VC).ownBlock = some g → g < w1.heap.size := (fun g hg => by have := (owns_lt Hown.out g hg).2; omega); have ru2 := ru.below hb2 (by omega); have r2' := (R2.out.keep (hku _ (by omega))).below hb2 (by have := R2.out.lt; omega); have hb02 := Lib.hid (hbu.trans (hb2.mono (by omega))); have d0 := ru2.cell 0; have d1 := ru2.cell 1; have d2 := ru2.cell 2; have d3 := ru2.cell 3; have e0 := r2'.cell 0; have e1 := r2'.cell 1; have e2 := r2'.cell 2; have e3 := r2'.cell 3; have g0 := ru2.frozen 3; have g1 := r2'.frozen 0; have g2 := r2'.frozen 1; have g3 := r2'.frozen 2; have g4 := r2'.frozen 3; simp only [List.getElem?_cons_zero, List.getElem?_cons_succ] at d0 d1 d2 d3 e0 e1 e2 e3; have Hown1 := Lib.hid hown1; have Hown2 := Lib.hid ho2; have HC := Lib.hid hC; have hlt2 : w.heap.size + 1 < w2.heap.size := (by omega); have hlt2' : w.heap.size < w2.heap.size := (by omega); clear hbu hku ru ru2 r2' hb2 hown1 hown2 ho2 hC hu1 c0 c1 c2 c3 f1 h1 hgrow hgrow'; rw [Nat.zero_add]))
  refine bodyPost_ret (v := .agg #[.string f.name, .slice VA f.args.length VC, .int .i64 f.res, .slice TA f.table.length TC]) (by simp [results, Try.results155, go_sem, e0, e1, e2, e3]) rfl ?_
  refine ⟨_, _, rfl, ?_, w1.heap.size, by omega, ?_, HC.out, ?_⟩
  · exact ((((hb02.out.setCell (by dsimp only; omega) _).setCell (by dsimp only; omega) _).setCell (by dsimp only; omega) _).setCell (by dsimp only; omega) _).setCell (by dsimp only; omega) _
  · exact ownsRow_lower (ownsRow_keep Hown1.out fun g hg hgl => (Below.heap_setCell _ _ _ _ (by dsimp only; omega)).trans ((Below.heap_setCell _ _ _ _ (by dsimp only; omega)).trans ((Below.heap_setCell _ _ _ _ (by dsimp only; omega)).trans ((Below.heap_setCell _ _ _ _ (by dsimp only; omega)).trans (Below.heap_setCell _ _ _ _ (by dsimp only; omega)))))) (by omega)
  · exact ownsRow_keep Hown2.out fun g hg hgl => (Below.heap_setCell _ _ _ _ (by dsimp only; omega)).trans ((Below.heap_setCell _ _ _ _ (by dsimp only; omega)).trans ((Below.heap_setCell _ _ _ _ (by dsimp only; omega)).trans ((Below.heap_setCell _ _ _ _ (by dsimp only; omega)).trans (Below.heap_setCell _ _ _ _ (by dsimp only; omega)))))
end Go.Proofs.Ytilcahidmoaakaa

namespace Go.Proofs.Ytilcahidmoaakaa
open Go.RowKit

/-- Types that a call has copied, from a block on. -/
def TysOwned (w : World) (base : Nat) (v l : Value) (t : Ty) : Prop :=
  ∃ C, base ≤ C ∧ w.ownsRow base 3 1 v t.sizes.length (t.sizes.map (Value.int .i64)) ∧ (∀ g, v.ownBlock = some g → g < C) ∧ CosOwned w (C + 1) l (fun i => t.cos.getD i default) t.cos.length
theorem TysOwned.keep {w w' : World} {base : Nat} {v l : Value} {t : Ty} (h : TysOwned w base v l t) (hs : w.heap.size ≤ w'.heap.size) (hk : ∀ g, base ≤ g → g < w.heap.size → w'.heap[g]? = w.heap[g]?) : TysOwned w' base v l t := by
  obtain ⟨C, h1, h2, h3, h4⟩ := h
  exact ⟨C, h1, ownsRow_keep h2 hk, h3, h4.keep hs fun g hg hl => hk g (by omega) hl⟩
/-- A system that a call has copied, from a block on: the functions lie behind the types. -/
def SyOwned (w : World) (base : Nat) (v l q : Value) (y : Sy) : Prop :=
  ∃ b u b2, base ≤ b ∧ b ≤ u.heap.size ∧ TysOwned u b v l y.ty ∧ (∀ g, b ≤ g → g < u.heap.size → w.heap[g]? = u.heap[g]?) ∧ u.heap.size ≤ b2 ∧ b2 ≤ w.heap.size ∧ FusOwned w b2 q (fun i => y.fs.getD i default) y.fs.length
theorem SyOwned.keep {w w' : World} {base : Nat} {v l q : Value} {y : Sy} (h : SyOwned w base v l q y) (hs : w.heap.size ≤ w'.heap.size) (hk : ∀ g, base ≤ g → g < w.heap.size → w'.heap[g]? = w.heap[g]?) : SyOwned w' base v l q y := by
  obtain ⟨b, u, b2, h0, h0', h1, h2, h3, h4, h5⟩ := h
  exact ⟨b, u, b2, h0, h0', h1, fun g hg hl => (hk g (by omega) (by omega)).trans (h2 g hg hl), h3, by omega, h5.keep hs fun g hg hl => hk g (by omega) hl⟩
theorem SyOwned.lower {w : World} {base base' : Nat} {v l q : Value} {y : Sy} (h : SyOwned w base v l q y) (hb : base' ≤ base) : SyOwned w base' v l q y := by
  obtain ⟨b, u, b2, h0, h⟩ := h
  exact ⟨b, u, b2, by omega, h⟩

set_option maxRecDepth 100000 in
set_option maxHeartbeats 2000000 in
theorem copySystem_any (lo hi : Nat) (sv cv fv : Value) (y : Sy) (w : World) (hv : SyAt w lo hi sv cv fv y) (hB : hi ≤ w.heap.size) (hbk : y.bulk ≤ 1048576) :
    Calls Try.prog 99 #[.agg #[sv, cv, fv]] w fun e w' => ∃ v l q, e = .returned (.agg #[v, l, q]) ∧ Below w.heap.size w w' ∧ SyOwned w' (w.heap.size + 1 + 1) v l q y := by
  obtain ⟨A, cap, rfl, hl1, hm1, _⟩ := hv.1.1.form
  obtain ⟨B, bap, rfl, hl2, hm2, _⟩ := hv.1.2.form
  obtain ⟨Q, qap, rfl, hl3, hm3, hq1⟩ := hv.2.form
  unfold maxLen at hm3
  obtain ⟨i0, hi0, hz0, hz1, hz2⟩ := info_parts infoFunction
  have hb' := hbk
  unfold Sy.bulk at hb'
  have hn : y.fs.length ≤ 1048576 := by omega
  have hnt : y.ty.bulk ≤ 1048576 := by omega
  clear hb'
  have hl4 : Hid (∀ j, ∀ (hj : j < y.fs.length), y.fs[j].args.length ≤ 1048576 ∧ y.fs[j].table.length ≤ 1048576) := fun j hj => by
    have h := y.fu_le j hj
    unfold Fu.weight at h
    omega
  have h3 : Below w.heap.size w ((w.alloc (.cells #[.slice A y.ty.sizes.length cap, .slice B y.ty.cos.length bap, .slice Q y.fs.length qap] 36)).alloc (.cells #[.slice none 0 0, .slice none 0 0, .slice none 0 0] 36)) := by go_grown
  have Hq1 := Lib.hid hq1
  have Hty := Lib.hid (hv.1.below h3 hB)
  have H3 := Lib.hid h3
  clear hv hq1 h3
  go_enter Try.func99, Try.ntmps99
  go_wp2_with fail
  refine (copyTypes_any lo hi _ _ y.ty _ Hty.out (by simp; omega) hnt).mono ?_
  rintro e w1 ⟨v, l0, C, rfl, hb, hCl, _, hown, hvC, hco⟩
  have hbel := Lib.hid (H3.out.trans (hb.mono (by simp; omega)))
  simp only [World.size_alloc] at hown hCl
  have r0 : Row w1 w.heap.size 36 [.slice A y.ty.sizes.length cap, .slice B y.ty.cos.length bap, .slice Q y.fs.length qap] :=
    ((Row.new w 36 [.slice A y.ty.sizes.length cap, .slice B y.ty.cos.length bap, .slice Q y.fs.length qap]).keep (Below.heap_alloc _ _ _ (by simp))).below hb (by simp; omega)
  have r1 : Row w1 (w.heap.size + 1) 36 [.slice none 0 0, .slice none 0 0, .slice none 0 0] := by
    have h := Row.new (w.alloc (.cells #[.slice A y.ty.sizes.length cap, .slice B y.ty.cos.length bap, .slice Q y.fs.length qap] 36)) 36 [.slice none 0 0, .slice none 0 0, .slice none 0 0]
    rw [World.size_alloc] at h
    exact h.below hb (by simp)
  have hs1 : w.heap.size + 1 + 1 ≤ w1.heap.size := by have := hb.size; simpa using this
  obtain ⟨VA, VC, rfl⟩ := owns_form hown
  have hlf : ∃ LA LC, l0 = .slice LA y.ty.cos.length LC := by
    obtain ⟨xs, m, mv, how, _⟩ := hco
    obtain ⟨LA, LC, rfl⟩ := owns_form how
    exact ⟨LA, LC, rfl⟩
  obtain ⟨L0, L1, rfl⟩ := hlf
  have Htys := Lib.hid (show TysOwned w1 (w.heap.size + 1 + 1) (.slice VA y.ty.sizes.length VC) (.slice L0 y.ty.cos.length L1) y.ty from ⟨C, hCl, hown, hvC, hco⟩)
  have he0 := r0.cell 2
  simp only [List.getElem?_cons_zero, List.getElem?_cons_succ] at he0
  have R1 := Lib.hid r1
  have hz0' : w.heap.size < w1.heap.size := by omega
  clear hown hb r0 r1 hco hvC hCl Hty
  go_wp2
  go_loopw [13] (fun i wr => ∃ (j : Nat) (l : Value), j ≤ y.fs.length ∧ i = .int .i64 j ∧ Hid (Below w1.heap.size w1 wr) ∧ w1.heap.size < wr.heap.size ∧ Row wr w1.heap.size 36 [.slice VA y.ty.sizes.length VC, .slice L0 y.ty.cos.length L1, l] ∧ Hid (FusOwned wr (w1.heap.size + 1) l (fun i => y.fs.getD i default) j)) (fun i _ => y.fs.length - (intOf i).toNat)
  case atStart => exact ⟨0, .slice none 0 0, Nat.zero_le _, rfl, Lib.hid ((Below.refl _ _).alloc (Nat.le_refl _) _), by simp, Row.new w1 _ [.slice VA y.ty.sizes.length VC, .slice L0 y.ty.cos.length L1, .slice none 0 0], FusOwned.nil _ _ _⟩
  case round =>
    obtain ⟨j, l, hj, rfl, hb, hsz, hrow, hown⟩ := hrel
    have g0 := hrow.cell 0
    have g1 := hrow.cell 1
    have g2 := hrow.cell 2
    simp only [List.getElem?_cons_zero, List.getElem?_cons_succ] at g0 g1 g2
    have k0 := hrow.frozen 0
    have k1 := hrow.frozen 1
    have k2 := hrow.frozen 2
    have Hrow := Lib.hid hrow
    clear hrow
    by_cases hlt : j < y.fs.length
    · have hbw : Below w.heap.size w wr := hbel.out.trans (hb.out.mono (by omega))
      obtain ⟨b, off, A1, cap1, A2, cap2, rfl, hlo, hhi, c0, c1, c2, c3, h5, h6, h7, h8, hfu'⟩ := (Hq1.out.below hbw hB).at_ hlt
      obtain ⟨hla, hlt2⟩ := hl4.out j hlt
      obtain ⟨xs, m, mv, how, hmo⟩ := hown.out
      obtain ⟨LA, LC, rfl⟩ := owns_form how
      have How := Lib.hid how
      have Hmo := Lib.hid hmo
      have Hfu := Lib.hid hfu'
      have Hbw := Lib.hid hbw
      clear how hmo hfu' hbw
      have hdraw : Below hi wr (wr.alloc (.cells #[.string y.fs[j].name, .slice A1 y.fs[j].args.length cap1, .int .i64 y.fs[j].res, .slice A2 y.fs[j].table.length cap2] 55)) := (Below.refl _ _).alloc (by have := hbel.out.size; have := hb.out.size; omega) _
      have Hfu3 := Lib.hid (Hfu.out.below hdraw (Nat.le_refl _))
      have hj1 : (j : Int) + 1 ≤ 1048576 := by omega
      clear hdraw
      go_upto_region 5 with fail
      go_region_law (first
        | (refine step_append_lies _ (by rfl) (.tmp 18) (.tmp 21) 34 (by rfl) (w1.heap.size + 1) 55 i0 _ 4 72 Try.underlying34 hi0 hz0 hz1 hz2 rfl (by omega) (.slice LA j LC) j xs (by rfl) ((H2.out.alloc _).drew)
            ⟨w2.heap.size, 0, none⟩ 1 1 [.string y.fs[j].name, .slice VA2 y.fs[j].args.length VC2, .int .i64 y.fs[j].res, .slice TA2 y.fs[j].table.length TC2] (by rfl) (by rfl) (World.news_of_block (cs := #[.string y.fs[j].name, .slice VA2 y.fs[j].args.length VC2, .int .i64 y.fs[j].res, .slice TA2 y.fs[j].table.length TC2]) (t := 55) (fr := (0, 0)) (heap_alloc_new w2 _)) (by simp [Value.oneCell'])
            (by omega) (by unfold maxLen; omega) (by omega) (by (try simp); (try omega)) (w2.heap.size + 1) (by simp) ?_; intro g' cap3 w3 hown3 hgrow hat hlt3; have hC3 : w3.heap[w1.heap.size]? = wr.heap[w1.heap.size]? := (hgrow.block _ (by (try simp); (try omega)) (fun hc => by have := (owns_lt How.out _ hc.symm).1; omega)).trans ((Below.heap_alloc w2 _ _ (by omega)).trans (hblk.out _ hsz)); have q2 := (Hrow.out.keep hC3).cell 2; have q2f := (Hrow.out.keep hC3).frozen 2; simp only [List.getElem?_cons_zero, List.getElem?_cons_succ] at q2; have Hown3 := Lib.hid hown3; have Hgrow := Lib.hid hgrow; have Hat := Lib.hid hat; have HC3 := Lib.hid hC3; clear hown3 hgrow hat hC3)
        | (go_simp; go_at_call 100; refine (copiedF_any lo hi _ _ _ _ y.fs[j] _ (by exact Hfu3.out) (by (try simp); (try omega)) hla hlt2).mono ?_; rintro e w2 ⟨v2, t2, rfl, hb2, hown2⟩; obtain ⟨C2, hCC, hownA, hvC2, hownT⟩ := id hown2; obtain ⟨VA2, VC2, rfl⟩ := owns_form hownA; obtain ⟨TA2, TC2, rfl⟩ := owns_form hownT; clear hCC hownA hvC2 hownT; have hsz2 : wr.heap.size + 1 ≤ w2.heap.size := (by simpa using hb2.size); have H2 := Lib.hid (ownsRow_keep How.out fun g hg hgl => (hb2.block g (by (try simp); (try omega))).trans (Below.heap_alloc wr _ g hgl)); have hblk : Hid (∀ g, g < wr.heap.size → w2.heap[g]? = wr.heap[g]?) := fun g hgl => (hb2.block g (by (try simp); (try omega))).trans (Below.heap_alloc wr _ g hgl); have p2 : w2.cell? ⟨w1.heap.size, 2, none⟩ = some (.slice LA j LC) := ((Hrow.out.keep (hblk.out _ hsz)).cell 2); have hsz3 : w1.heap.size < w2.heap.size := (by omega); have Hb2 := Lib.hid hb2; have Hown2 := Lib.hid hown2; clear hb2 hown2))
      all_goals
        have hq : Below wr.heap.size _ w2 := Hb2.out.mono (by (try simp); (try omega))
        have hb12 : Below wr.heap.size wr w2 := (((Below.refl _ wr).alloc (Nat.le_refl _) (.cells #[.string y.fs[j].name, .slice A1 y.fs[j].args.length cap1, .int .i64 y.fs[j].res, .slice A2 y.fs[j].table.length cap2] 55)).drew).trans hq
        have ho2 := TwoOwned.lower (base' := wr.heap.size) Hown2.out (by (try simp); (try omega))
        have hpush := FusOwned.push (w2 := w2) Hmo.out How.out (by omega) (show y.fs.getD j default = y.fs[j] by rw [List.getD_eq_getElem?_getD, List.getElem?_eq_getElem hlt]; rfl) hb12 ho2 Hgrow.out Hat.out Hown3.out
        have hb13 : Below w1.heap.size w1 w3 := ((hb.out.trans (hb12.mono (by omega))).alloc (by omega) _).grown Hgrow.out (by (try simp); (try omega)) (fun k hk => by have := (owns_lt How.out k hk).1; omega)
        have Hpush := Lib.hid hpush
        have Hb13 := Lib.hid hb13
        have hsz4 : w1.heap.size < w3.heap.size := by have := Hgrow.out.size; simp only [World.size_alloc] at this; omega
        clear hpush hb12 hb13 q2 q2f p2 hq ho2
        go_wp2
        go_roundw
        case rel =>
          exact ⟨j + 1, _, by omega, by go_num, Lib.hid (Hb13.out.setCell (Nat.le_refl _) _), by simp [World.setCell]; omega, (Hrow.out.keep HC3.out).set_ 2 _,
            Lib.hid (Hpush.out.keep (by simp [World.setCell]) fun g hg hgl => Below.heap_setCell _ _ _ _ (by dsimp only; omega))⟩
        case measure => simp [intOf]; omega
    · obtain rfl : j = y.fs.length := by omega
      have rr := R1.out.below hb.out (by omega)
      have r0 := rr.cell 0
      have r1 := rr.cell 1
      have r2 := rr.cell 2
      have rf0 := rr.frozen 0
      have rf1 := rr.frozen 1
      have rf2 := rr.frozen 2
      simp only [List.getElem?_cons_zero, List.getElem?_cons_succ] at r0 r1 r2
      obtain ⟨xs, m, mv, how, hmo⟩ := hown.out
      obtain ⟨LA, LC, rfl⟩ := owns_form how
      clear how hmo rr
      go_wp2
      refine bodyPost_ret (v := .agg #[.slice VA y.ty.sizes.length VC, .slice L0 y.ty.cos.length L1, .slice LA y.fs.length LC]) (by simp [results, Try.results99, go_sem, r0, r1, r2]) rfl ?_
      have hbw : Below w.heap.size w wr := hbel.out.trans (hb.out.mono (by omega))
      refine ⟨_, _, _, rfl, ((hbw.setCell (by dsimp only; omega) _).setCell (by dsimp only; omega) _).setCell (by dsimp only; omega) _, w.heap.size + 1 + 1, w1, w1.heap.size + 1, Nat.le_refl _, by omega, Htys.out, fun g hg hl => ?_, by omega, by simp [World.setCell]; omega, ?_⟩
      · exact (Below.heap_setCell _ _ _ _ (by dsimp only; omega)).trans ((Below.heap_setCell _ _ _ _ (by dsimp only; omega)).trans ((Below.heap_setCell _ _ _ _ (by dsimp only; omega)).trans (hb.out.block g hl)))
      · refine hown.out.keep (by simp [World.setCell]) fun g hg hgl => (Below.heap_setCell _ _ _ _ (by dsimp only; omega)).trans ((Below.heap_setCell _ _ _ _ (by dsimp only; omega)).trans (Below.heap_setCell _ _ _ _ (by dsimp only; omega)))
end Go.Proofs.Ytilcahidmoaakaa

namespace Go.Proofs.Ytilcahidmoaakaa
open Go.RowKit

theorem FusOwned.lit (w : World) (base : Nat) (f : Nat → Fu) (hb : base ≤ w.heap.size) : FusOwned (w.alloc (.cells #[] 55)) base (.slice (some ⟨w.heap.size, 0, none⟩) 0 0) f 0 :=
  ⟨[], fun _ _ => 0, fun _ _ => .slice none 0 0, World.ownsRow_lit w #[] 0 hb (by unfold maxLen; omega) rfl, fun i hi => absurd hi (by omega), fun i b hi => absurd hi (by omega), fun i b hi => absurd hi (by omega)⟩

set_option maxRecDepth 100000 in
set_option maxHeartbeats 2000000 in
theorem ownListF_any (lo hi : Nat) (v : Value) (cs : List Fu) (w : World) (hv : FusAt w lo hi v cs) (hB : hi ≤ w.heap.size) (hn : cs.length ≤ 1048576) (hmaps : ∀ j, ∀ (hj : j < cs.length), cs[j].args.length ≤ 1048576 ∧ cs[j].table.length ≤ 1048576) :
    Calls Try.prog 156 #[v] w fun e w' => ∃ l, e = .returned l ∧ Below w.heap.size w w' ∧ FusOwned w' w.heap.size l (fun i => cs.getD i default) cs.length := by
  obtain ⟨B, bap, rfl, hl2, hm2, hc1⟩ := hv.form
  unfold maxLen at hm2
  obtain ⟨i0, hi0, hz0, hz1, hz2⟩ := info_parts infoFunction
  have hl3 := Lib.hid hmaps
  have Hc1 := Lib.hid hc1
  clear hv hc1 hmaps
  go_enter Try.func156, Try.ntmps156
  go_wp2
  go_loopw [3, 9] (fun l i wr => ∃ (j : Nat), j ≤ cs.length ∧ i = .int .i64 j ∧ Hid (Below w.heap.size w wr) ∧ Hid (FusOwned wr w.heap.size l (fun i => cs.getD i default) j)) (fun _ i _ => cs.length - (intOf i).toNat)
  case atStart => exact ⟨0, Nat.zero_le _, rfl, Lib.hid ((Below.refl _ _).alloc (Nat.le_refl _) _), FusOwned.lit _ _ _ (Nat.le_refl _)⟩
  case round =>
    obtain ⟨j, hj, rfl, hb, hown⟩ := hrel
    by_cases hlt : j < cs.length
    · obtain ⟨b, off, A1, cap1, A2, cap2, rfl, hlo, hhi, c0, c1, c2, c3, h5, h6, h7, h8, hz2'⟩ := (Hc1.out.below hb.out hB).at_ hlt
      obtain ⟨hla, hlt2⟩ := hl3.out j hlt
      obtain ⟨xs, m, mv, how, hmo⟩ := hown.out
      obtain ⟨LA, LC, rfl⟩ := owns_form how
      have How := Lib.hid how
      have Hmo := Lib.hid hmo
      have hbs := hb.out.size
      have hdraw : Below hi wr (wr.alloc (.cells #[.string cs[j].name, .slice A1 cs[j].args.length cap1, .int .i64 cs[j].res, .slice A2 cs[j].table.length cap2] 55)) := (Below.refl _ _).alloc (by omega) _
      have Hz3 := Lib.hid (hz2'.below hdraw (Nat.le_refl _))
      clear how hmo hz2' hdraw
      go_wp2_with fail
      refine (ownFu_any lo hi _ _ _ _ cs[j] _ Hz3.out (by simp; omega) hla hlt2).mono ?_
      rintro e w2 ⟨v2, t2, rfl, hb2, hown2⟩
      obtain ⟨C2, hCC, hownA, hvC2, hownT⟩ := id hown2
      obtain ⟨VA2, VC2, rfl⟩ := owns_form hownA
      obtain ⟨TA2, TC2, rfl⟩ := owns_form hownT
      clear hCC hownA hvC2 hownT
      have hsz2 : wr.heap.size + 1 ≤ w2.heap.size := by simpa using hb2.size
      have H2 := Lib.hid (ownsRow_keep How.out fun g hg hgl => (hb2.block g (by (try simp); (try omega))).trans (Below.heap_alloc wr _ g hgl))
      have hq : Below wr.heap.size _ w2 := hb2.mono (by (try simp); (try omega))
      have hb12 : Below wr.heap.size wr w2 := ((Below.refl _ wr).alloc (Nat.le_refl _) (.cells #[.string cs[j].name, .slice A1 cs[j].args.length cap1, .int .i64 cs[j].res, .slice A2 cs[j].table.length cap2] 55)).trans hq
      have ho2 := Lib.hid (TwoOwned.lower (base' := wr.heap.size) hown2 (by (try simp); (try omega)))
      have Hb12 := Lib.hid hb12
      clear hb2 hown2 hq hb12
      go_wp2_with (at_builtin; refine wpList_append_lies _ rfl (.tmp 13) (.tmp 16) 34 rfl w.heap.size 55 i0 _ 4 72 Try.underlying34 hi0 hz0 hz1 hz2 rfl (by omega) (.slice LA j LC) j xs rfl (H2.out.alloc _) ⟨w2.heap.size, 0, none⟩ 1 1 [.string cs[j].name, .slice VA2 cs[j].args.length VC2, .int .i64 cs[j].res, .slice TA2 cs[j].table.length TC2] rfl rfl (World.news_of_block (cs := #[.string cs[j].name, .slice VA2 cs[j].args.length VC2, .int .i64 cs[j].res, .slice TA2 cs[j].table.length TC2]) (t := 55) (fr := (0, 0)) (heap_alloc_new w2 _)) (by simp [Value.oneCell']) (by omega) (by unfold maxLen; omega) (by omega) (by (try simp); (try omega)) (w2.heap.size + 1) (by simp) ?_; intro g' cap3 w3 hown3 hgrow hat hlt3; have Hown3 := Lib.hid hown3; have Hgrow := Lib.hid hgrow; have Hat := Lib.hid hat; clear hown3 hgrow hat)
      have hpush := FusOwned.push (w2 := w2) Hmo.out How.out (by omega) (show cs.getD j default = cs[j] by rw [List.getD_eq_getElem?_getD, List.getElem?_eq_getElem hlt]; rfl) Hb12.out ho2.out Hgrow.out Hat.out Hown3.out
      have hb13 : Below w.heap.size w w3 := ((hb.out.trans (Hb12.out.mono (by omega))).alloc (by omega) _).grown Hgrow.out (by (try simp); (try omega)) (fun k hk => by have := (owns_lt How.out k hk).1; omega)
      have Hpush := Lib.hid hpush
      have Hb13 := Lib.hid hb13
      clear hpush hb13
      go_roundw
      case rel => exact ⟨j + 1, by omega, by go_num, Hb13, Hpush⟩
      case measure => simp [intOf]; omega
    · obtain rfl : j = cs.length := by omega
      go_wp2
      go_ret
      exact ⟨_, rfl, hb.out, hown.out⟩
end Go.Proofs.Ytilcahidmoaakaa

namespace Go.Proofs.Ytilcahidmoaakaa
open Go.RowKit

theorem range_getDF (fs : List Fu) : (List.range fs.length).map (fun i => fs.getD i default) = fs := by
  apply List.ext_getElem
  · simp
  · intro i h1 h2
    simp [List.getElem?_eq_getElem h2]
theorem FusAt.wf {w : World} {lo hi : Nat} {v : Value} {fs : List Fu} (h : FusAt w lo hi v fs) : ∀ i, i < fs.length → (fs.getD i default).fits := by
  intro i hi'
  obtain ⟨A, cap, rfl, _, _, hc⟩ := h.form
  obtain ⟨_, _, _, _, _, _, _, _, _, _, _, _, _, _, _, _, _, hf⟩ := hc.at_ hi'
  have e : fs.getD i default = fs[i] := by rw [List.getD_eq_getElem?_getD, List.getElem?_eq_getElem hi']; rfl
  rw [e]
  exact hf.fits

set_option maxRecDepth 100000 in
set_option maxHeartbeats 2000000 in
theorem ownSys_any (lo hi : Nat) (sv cv fv : Value) (y : Sy) (w : World) (hv : SyAt w lo hi sv cv fv y) (hB : hi ≤ w.heap.size) (hbk : y.bulk ≤ 1048576) :
    Calls Try.prog 98 #[.agg #[sv, cv, fv]] w fun e w' => ∃ v l q, e = .returned (.agg #[v, l, q]) ∧ Below w.heap.size w w' ∧ SyAt w' w.heap.size w'.heap.size v l q y := by
  have hwf := Lib.hid (FusAt.wf hv.2)
  obtain ⟨A, cap, rfl, hl1, hm1, _⟩ := hv.1.1.form
  obtain ⟨B, bap, rfl, hl2, hm2, _⟩ := hv.1.2.form
  obtain ⟨Q, qap, rfl, hl3, hm3, hq1⟩ := hv.2.form
  have hb' := hbk
  unfold Sy.bulk at hb'
  have hn : y.fs.length ≤ 1048576 := by omega
  have hnt : y.ty.bulk ≤ 1048576 := by omega
  clear hb'
  have hl4 : Hid (∀ j, ∀ (hj : j < y.fs.length), y.fs[j].args.length ≤ 1048576 ∧ y.fs[j].table.length ≤ 1048576) := fun j hj => by
    have h := y.fu_le j hj
    unfold Fu.weight at h
    omega
  have h3 : Below w.heap.size w ((w.alloc (.cells #[.slice A y.ty.sizes.length cap, .slice B y.ty.cos.length bap, .slice Q y.fs.length qap] 36)).alloc (.cells #[.slice none 0 0, .slice none 0 0, .slice none 0 0] 36)) := by go_grown
  have Hq1 := Lib.hid hq1
  have Hty := Lib.hid (hv.1.below h3 hB)
  have H3 := Lib.hid h3
  clear hv hq1 h3
  go_enter Try.func98, Try.ntmps98
  go_wp2_with fail
  refine (ownTypes_any lo hi _ _ y.ty _ Hty.out (by simp; omega) hnt).mono ?_
  rintro e w1 ⟨v, l, rfl, hb, hty⟩
  have hbel := Lib.hid (H3.out.trans (hb.mono (by simp; omega)))
  have r0 : Row w1 w.heap.size 36 [.slice A y.ty.sizes.length cap, .slice B y.ty.cos.length bap, .slice Q y.fs.length qap] :=
    ((Row.new w 36 [.slice A y.ty.sizes.length cap, .slice B y.ty.cos.length bap, .slice Q y.fs.length qap]).keep (Below.heap_alloc _ _ _ (by simp))).below hb (by simp; omega)
  have r1 : Row w1 (w.heap.size + 1) 36 [.slice none 0 0, .slice none 0 0, .slice none 0 0] := by
    have h := Row.new (w.alloc (.cells #[.slice A y.ty.sizes.length cap, .slice B y.ty.cos.length bap, .slice Q y.fs.length qap] 36)) 36 [.slice none 0 0, .slice none 0 0, .slice none 0 0]
    rw [World.size_alloc] at h
    exact h.below hb (by simp)
  have hs1 : w.heap.size + 1 + 1 ≤ w1.heap.size := by have := hb.size; simpa using this
  obtain ⟨VA, VC, rfl, _, _, _⟩ := hty.1.form
  obtain ⟨LA, LC, rfl, _, _, _⟩ := hty.2.form
  simp only [World.size_alloc] at hty
  have Hty1 := Lib.hid hty
  have R0 := Lib.hid r0
  have R1 := Lib.hid r1
  have a0 := r0.cell 0
  have a1 := r0.cell 1
  have a2 := r0.cell 2
  have af0 := r0.frozen 0
  have af1 := r0.frozen 1
  simp only [List.getElem?_cons_zero, List.getElem?_cons_succ] at a0 a1 a2
  have hz0' : w.heap.size < w1.heap.size := by omega
  clear hb r0 r1 hty Hty
  go_wp2_with fail
  obtain ⟨u1, hu1⟩ : ∃ u, u = (w1.setCell ⟨w.heap.size, 0, none⟩ (.slice VA y.ty.sizes.length VC)).setCell ⟨w.heap.size, 1, none⟩ (.slice LA y.ty.cos.length LC) := ⟨_, rfl⟩
  rw [← hu1]
  have hbu : Below w.heap.size w u1 := by rw [hu1]; exact (hbel.out.setCell (Nat.le_refl _) _).setCell (Nat.le_refl _) _
  have hsu : u1.heap.size = w1.heap.size := by rw [hu1]; simp [World.setCell]
  have hku : ∀ g, g ≠ w.heap.size → u1.heap[g]? = w1.heap[g]? := fun g hg => by rw [hu1]; exact (Below.heap_setCell _ _ _ _ hg).trans (Below.heap_setCell _ _ _ _ hg)
  have ru : Row u1 w.heap.size 36 [.slice VA y.ty.sizes.length VC, .slice LA y.ty.cos.length LC, .slice Q y.fs.length qap] := by rw [hu1]; exact (R0.out.set_ 0 _).set_ 1 _
  refine (ownListF_any lo hi _ y.fs _ (Hq1.out.below hbu hB) (by omega) hn hl4.out).mono ?_
  rintro e w2 ⟨q, rfl, hb2, hco⟩
  have hs2 := hb2.size
  have hb02 := Lib.hid (hbu.trans (hb2.mono (by omega)))
  have ru2 := ru.below hb2 (by omega)
  have rr := (R1.out.keep (hku _ (by omega))).below hb2 (by omega)
  have hlf : ∃ A B, q = .slice A y.fs.length B := by
    obtain ⟨xs, m, mv, how, _⟩ := hco
    obtain ⟨LA, LC, rfl⟩ := owns_form how
    exact ⟨LA, LC, rfl⟩
  obtain ⟨QA, QC, rfl⟩ := hlf
  have hty2 := Lib.hid (Hty1.out.keep fun g hg hl => (hb2.block g (by omega)).trans (hku g (by omega)))
  have Hco := Lib.hid hco
  have d0 := ru2.cell 0
  have d1 := ru2.cell 1
  have d2 := ru2.cell 2
  have df2 := ru2.frozen 2
  have e0 := rr.cell 0
  have e1 := rr.cell 1
  have e2 := rr.cell 2
  have g0 := rr.frozen 0
  have g1 := rr.frozen 1
  have g2 := rr.frozen 2
  simp only [List.getElem?_cons_zero, List.getElem?_cons_succ] at d0 d1 d2 e0 e1 e2
  have hlt2 : w.heap.size + 1 < w2.heap.size := by omega
  have hlt2' : w.heap.size < w2.heap.size := by omega
  clear hbu hku ru ru2 rr hb2 hco hu1 a0 a1 a2 af0 af1
  go_wp2
  refine bodyPost_ret (v := .agg #[.slice VA y.ty.sizes.length VC, .slice LA y.ty.cos.length LC, .slice QA y.fs.length QC]) (by simp [results, Try.results98, go_sem, e0, e1, e2]) rfl ?_
  have hblk : ∀ (wx : World) (p1 p2 p3 p4 : Addr) (u1 u2 u3 u4 : Value), p1.block < w.heap.size + 1 + 1 → p2.block < w.heap.size + 1 + 1 → p3.block < w.heap.size + 1 + 1 → p4.block < w.heap.size + 1 + 1 → ∀ g, w.heap.size + 1 + 1 ≤ g → ((((wx.setCell p1 u1).setCell p2 u2).setCell p3 u3).setCell p4 u4).heap[g]? = wx.heap[g]? :=
    fun wx p1 p2 p3 p4 u1 u2 u3 u4 h1 h2 h3 h4 g hg => (Below.heap_setCell _ _ _ _ (by omega)).trans ((Below.heap_setCell _ _ _ _ (by omega)).trans ((Below.heap_setCell _ _ _ _ (by omega)).trans (Below.heap_setCell _ _ _ _ (by omega))))
  refine ⟨_, _, _, rfl, (((hb02.out.setCell (by dsimp only; omega) _).setCell (by dsimp only; omega) _).setCell (by dsimp only; omega) _).setCell (by dsimp only; omega) _, ?_, ?_⟩
  · exact (hty2.out.keep fun g hg hl => hblk _ _ _ _ _ _ _ _ _ (by dsimp only; omega) (by dsimp only; omega) (by dsimp only; omega) (by dsimp only; omega) g hg).more (by omega) (by simp [World.setCell]; omega)
  · suffices h : FusAt _ w.heap.size _ (.slice QA y.fs.length QC) ((List.range y.fs.length).map fun i => y.fs.getD i default) by
      rw [range_getDF] at h
      exact h
    refine FusOwned.fusAt (base := u1.heap.size) (Hco.out.keep (by simp [World.setCell]) fun g hg hl => ?_) hwf.out (by omega) (Nat.le_refl _)
    exact hblk _ _ _ _ _ _ _ _ _ (by dsimp only; omega) (by dsimp only; omega) (by dsimp only; omega) (by dsimp only; omega) g (by omega)
end Go.Proofs.Ytilcahidmoaakaa

namespace Go.Proofs.Ytilcahidmoaakaa
open Go.RowKit

/-- Cells that read as functions. -/
def FusNews (w : World) (lo hi : Nat) (news : List Value) (cs : List Fu) : Prop :=
  ∃ av tv : Nat → Value, news.length = cs.length * 4 ∧ ∀ i, ∀ (h : i < cs.length), news[i * 4]? = some (.string cs[i].name) ∧ news[i * 4 + 1]? = some (av i) ∧ news[i * 4 + 2]? = some (.int .i64 cs[i].res) ∧ news[i * 4 + 3]? = some (tv i) ∧ FuAt w lo hi (.string cs[i].name) (av i) (.int .i64 cs[i].res) (tv i) cs[i]

theorem fus_news {w : World} {lo hi c : Nat} {ad : Addr} {cs : List Fu} (h : FusAt w lo hi (.slice (some ad) cs.length c) cs) :
    ∃ news, FusNews w lo hi news cs ∧ (∀ j u, news[j]? = some u → w.cell? (ad.add j) = some u) ∧ ∀ u ∈ news, u.oneCell' = true := by
  have hat : ∀ i, ∀ (hi' : i < cs.length), ∃ z y, w.cell? (ad.add (i * 4)) = some (.string cs[i].name) ∧ w.cell? (ad.add (i * 4 + 1)) = some z ∧ w.cell? (ad.add (i * 4 + 2)) = some (.int .i64 cs[i].res) ∧ w.cell? (ad.add (i * 4 + 3)) = some y ∧ FuAt w lo hi (.string cs[i].name) z (.int .i64 cs[i].res) y cs[i] ∧ z.oneCell' = true ∧ y.oneCell' = true := by
    intro i hi'
    obtain ⟨b, off, A1, cap1, A2, cap2, e, _, _, c0, c1, c2, c3, _, _, _, _, hf⟩ := h.at_ hi'
    injection e with e
    subst e
    refine ⟨_, _, ?_, ?_, ?_, ?_, hf, rfl, rfl⟩
    · rw [Go.WideShapes.add_plain, c0]
    · rw [Go.WideShapes.add_plain, ← Nat.add_assoc, c1]
    · rw [Go.WideShapes.add_plain, ← Nat.add_assoc, c2]
    · rw [Go.WideShapes.add_plain, ← Nat.add_assoc, c3]
  have hsome : ∀ j, j < cs.length * 4 → ∃ u, w.cell? (ad.add j) = some u ∧ u.oneCell' = true := by
    intro j hj
    obtain ⟨z, y, h0, h1, h2, h3, _, h4, h5⟩ := hat (j / 4) (by omega)
    have hm := Nat.div_add_mod j 4
    have hlt := Nat.mod_lt j (by omega : 4 > 0)
    rcases (by omega : j = j / 4 * 4 ∨ j = j / 4 * 4 + 1 ∨ j = j / 4 * 4 + 2 ∨ j = j / 4 * 4 + 3) with e | e | e | e
    · rw [← e] at h0; exact ⟨_, h0, rfl⟩
    · rw [← e] at h1; exact ⟨_, h1, h4⟩
    · rw [← e] at h2; exact ⟨_, h2, rfl⟩
    · rw [← e] at h3; exact ⟨_, h3, h5⟩
  have hget : ∀ j, j < cs.length * 4 → ((List.range (cs.length * 4)).map fun j => (w.cell? (ad.add j)).getD undef)[j]? = w.cell? (ad.add j) := by
    intro j hj
    obtain ⟨u, hu, _⟩ := hsome j hj
    rw [List.getElem?_map, List.getElem?_range hj]
    simp [hu]
  refine ⟨(List.range (cs.length * 4)).map fun j => (w.cell? (ad.add j)).getD undef, ⟨fun i => (w.cell? (ad.add (i * 4 + 1))).getD undef, fun i => (w.cell? (ad.add (i * 4 + 3))).getD undef, by simp, fun i hi' => ?_⟩, fun j u hj => ?_, fun u hu => ?_⟩
  · obtain ⟨z, y, h0, h1, h2, h3, h4, _⟩ := hat i hi'
    rw [hget _ (by omega), hget _ (by omega), hget _ (by omega), hget _ (by omega)]
    refine ⟨h0, ?_, h2, ?_, ?_⟩
    · simp only [h1, Option.getD_some]
    · simp only [h3, Option.getD_some]
    · simp only [h1, h3, Option.getD_some]; exact h4
  · have hjl : j < cs.length * 4 := by
      have := (List.getElem?_eq_some_iff.1 hj).1
      simpa using this
    rw [hget j hjl] at hj
    exact hj
  · obtain ⟨j, hj, rfl⟩ := List.mem_map.1 hu
    obtain ⟨u, hu', h1⟩ := hsome j (List.mem_range.1 hj)
    simp only [hu', Option.getD_some]
    exact h1

theorem ownsRow_zeroF {w : World} {base b : Nat} (hb : base ≤ b) (h : w.heap[b]? = some (.cells #[] 55 (0, 0))) : w.ownsRow base 55 4 (.slice (some ⟨b, 0, none⟩) 0 0) 0 [] :=
  ⟨rfl, .inr ⟨b, 0, #[], rfl, hb, h, Nat.le_refl _, by unfold maxLen; omega, rfl, rfl⟩⟩

theorem step_append_fus {w : World} {ops : Array Oper} {o : Oper} {a : Act} {K : Act → World → Prop} {Q : Exit → Act → World → Prop} {E : Prop} (hgd : o.guard = none) (s x : Operand)
    (ho : o.op = .call { callee := .builtin .append, args := #[s, x], argTypes := #[34, 34] }) (base b : Nat) (hs : a.eval s = .slice (some ⟨b, 0, none⟩) 0 0)
    (hb : base ≤ b) (hblk : w.heap[b]? = some (.cells #[] 55 (0, 0))) (lo hi : Nat) (A : Option Addr) (m c : Nat) (cs : List Fu) (hx : a.eval x = .slice A m c) (hm : m = cs.length) (hz : FusAt w lo hi (.slice A cs.length c) cs) (hn : m ≤ 1048576) (hbase : base ≤ w.heap.size)
    (h : ∀ VA VC w' news, w'.ownsRow base 55 4 (.slice VA m VC) m news → FusNews w lo hi news cs → w.grownBy w' (some b) → K (a.put o.dst (.slice VA m VC)) w') :
    if Region.wanted o (yielded ops a.tmps) = true then Oper.wp Try.prog o a w K Q else E := by
  have hw : Region.wanted o (yielded ops a.tmps) = true := by simp [Region.wanted, hgd]
  rw [if_pos hw]
  subst hm
  obtain ⟨i0, hi0, hz0, hz1, hz2⟩ := info_parts infoFunction
  have hown := ownsRow_zeroF hb hblk
  rcases A with _ | ad
  · have hcs : cs = [] := by
      rcases cs with _ | ⟨z, zs⟩
      · rfl
      · obtain ⟨b, off, A1, cap1, A2, cap2, e, _⟩ := hz.at_ (k := 0) (by simp)
        cases e
    subst hcs
    have hrun := run_append_owned_none' (P := Try.prog) (w := w) base 34 o.type 55 i0 4 Try.underlying34 hi0 _ _ _ c hown
    unfold Oper.wp
    rw [List.length_nil] at hx
    simp [execOp, ho, resolve, invoke, builtin, hs, hx, hrun, Result.andThen]
    exact h _ _ _ [] hown ⟨fun _ => undef, fun _ => undef, rfl, fun i hi => absurd hi (by simp)⟩ ⟨rfl, rfl, rfl, Nat.le_refl _, fun _ _ _ => rfl⟩
  · obtain ⟨news, hnews, hcells, hone⟩ := fus_news hz
    obtain ⟨av, tv, hl, hrest⟩ := hnews
    refine wp_append_own w s x 34 ho base 55 i0 _ 4 72 Try.underlying34 hi0 hz0 hz1 hz2 rfl (by omega) _ 0 [] hs hown ad cs.length c news hx hl hcells hone (by unfold maxLen; omega) (by omega) hbase ?_
    intro v' w' h1 h2 _
    obtain ⟨VA, VC, rfl⟩ := owns_form h1
    rw [Nat.zero_add, List.nil_append] at h1
    rw [Nat.zero_add]
    exact h VA VC w' news h1 ⟨av, tv, hl, hrest⟩ h2
end Go.Proofs.Ytilcahidmoaakaa

namespace Go.Proofs.Ytilcahidmoaakaa
open Go.RowKit

/-- T: the types' block; s, l: what it holds; c0, c1, c2: the coercion's cells; f: which operations have been done; the letters: what their slots hold. -/
structure RFfacts (lo hi N T : Nat) (w4 : World) (fs : List Fu) (s cc l c0 c1 c2 c3 : Value) (f : Nat → Bool) (x6 x11 x12 x13 x14 x15 x16 x17 x18 x19 x20 : Value) (u : World) : Prop where
  bel : Below N w4 u
  a0 : f 0 = true → x11 = .pointer (some ⟨T, 0, none⟩)
  a1 : f 1 = true → x12 = .agg #[s, cc]
  a2 : f 2 = true → f 5 = false → ∃ b, N ≤ b ∧ x13 = .slice (some ⟨b, 0, none⟩) 0 0 ∧ Row u b 55 []
  a3 : f 3 = true → x14 = .pointer (some ⟨T, 2, none⟩)
  a4 : f 4 = true → x15 = l
  a5 : f 5 = true → f 8 = false → ∃ A c news, x16 = .slice A fs.length c ∧ u.ownsRow N 55 4 x16 fs.length news ∧ FusNews u lo hi news fs
  a6 : f 6 = true → x17 = .agg #[c0, c1, c2, c3]
  a7 : f 7 = true → f 8 = false → ∃ p, N ≤ p ∧ x18 = .slice (some ⟨p, 0, none⟩) 1 1 ∧ Row u p 55 [c0, c1, c2, c3]
  a8 : f 8 = true → ∃ A c news, x19 = .slice A (fs.length + 1) c ∧ u.ownsRow N 55 4 x19 (fs.length + 1) (news ++ [c0, c1, c2, c3]) ∧ FusNews u lo hi news fs
  a9 : f 9 = true → x20 = .agg #[s, cc, x19]
  a10 : f 10 = true → f 11 = false → ∃ q, N ≤ q ∧ x6 = .pointer (some ⟨q, 0, none⟩) ∧ Row u q 36 [.slice none 0 0, .slice none 0 0, .slice none 0 0]
  a11 : f 11 = true → ∃ q, N ≤ q ∧ x6 = .pointer (some ⟨q, 0, none⟩) ∧ Row u q 36 [s, cc, x19]

theorem FusNews.keep {w w' : World} {lo hi : Nat} {news : List Value} {cs : List Fu} (h : FusNews w lo hi news cs) (hk : ∀ k, lo ≤ k → k < hi → w'.heap[k]? = w.heap[k]?) : FusNews w' lo hi news cs := by
  obtain ⟨av, tv, hl, hi2⟩ := h
  exact ⟨av, tv, hl, fun i hi' => by
    obtain ⟨h0, h1, h2, h3, h4⟩ := hi2 i hi'
    exact ⟨h0, h1, h2, h3, h4.keep hk⟩⟩
theorem row_own_neF {w : World} {base g n : Nat} {v : Value} {xs ys : List Value} (hr : Row w g 36 xs) (ho : w.ownsRow base 55 4 v n ys) : v.ownBlock ≠ some g := by
  intro e
  obtain ⟨_, ⟨rfl, _⟩ | ⟨g', cap, cur, rfl, hb, hh, _⟩⟩ := ho
  · simp [Value.ownBlock] at e
  · simp only [Value.ownBlock, Option.some.injEq] at e
    subst e
    unfold Row at hr
    rw [hr] at hh
    simp only [Option.some.injEq, Obj.cells.injEq] at hh
    exact absurd hh.2.1 (by decide)

section
variable {lo hi N T : Nat} {w4 u : World} {fs : List Fu} {s cc l c0 c1 c2 c3 : Value} {f : Nat → Bool} {x6 x11 x12 x13 x14 x15 x16 x17 x18 x19 x20 : Value}

/-- Blocks that stood stay as they are. -/
theorem RFfacts.grow {u' : World} (h : RFfacts lo hi N T w4 fs s cc l c0 c1 c2 c3 f x6 x11 x12 x13 x14 x15 x16 x17 x18 x19 x20 u) (hN : N ≤ u.heap.size) (hh : hi ≤ N) (hb : Below u.heap.size u u') : RFfacts lo hi N T w4 fs s cc l c0 c1 c2 c3 f x6 x11 x12 x13 x14 x15 x16 x17 x18 x19 x20 u' where
  bel := h.bel.trans (hb.mono hN)
  a0 := h.a0
  a1 := h.a1
  a2 := fun h1 h2 => by
    obtain ⟨b, h3, h4, h5⟩ := h.a2 h1 h2
    exact ⟨b, h3, h4, h5.below hb h5.lt⟩
  a3 := h.a3
  a4 := h.a4
  a5 := fun h1 h2 => by
    obtain ⟨A, c, news, h3, h4, h5⟩ := h.a5 h1 h2
    exact ⟨A, c, news, h3, ownsRow_keep h4 fun g _ hg => hb.block g hg, h5.keep fun k _ hk => hb.block k (by omega)⟩
  a6 := h.a6
  a7 := fun h1 h2 => by
    obtain ⟨b, h3, h4, h5⟩ := h.a7 h1 h2
    exact ⟨b, h3, h4, h5.below hb h5.lt⟩
  a8 := fun h1 => by
    obtain ⟨A, c, news, h3, h4, h5⟩ := h.a8 h1
    exact ⟨A, c, news, h3, ownsRow_keep h4 fun g _ hg => hb.block g hg, h5.keep fun k _ hk => hb.block k (by omega)⟩
  a9 := h.a9
  a10 := fun h1 h2 => by
    obtain ⟨b, h3, h4, h5⟩ := h.a10 h1 h2
    exact ⟨b, h3, h4, h5.below hb h5.lt⟩
  a11 := fun h1 => by
    obtain ⟨b, h3, h4, h5⟩ := h.a11 h1
    exact ⟨b, h3, h4, h5.below hb h5.lt⟩

/-- The first append: it may write into the empty list's block. -/
theorem RFfacts.append1 {b : Nat} {A : Option Addr} {c : Nat} {u' : World} {news : List Value} (h : RFfacts lo hi N T w4 fs s cc l c0 c1 c2 c3 f x6 x11 x12 x13 x14 x15 x16 x17 x18 x19 x20 u) (hN : N ≤ u.heap.size) (hh : hi ≤ N) (hf8 : f 8 = false) (hf11 : f 11 = false) (hf9 : f 9 = false)
    (hbN : N ≤ b) (hrow : Row u b 55 []) (hg : u.grownBy u' (some b)) (hown : u'.ownsRow N 55 4 (.slice A fs.length c) fs.length news) (hnews : FusNews u lo hi news fs) :
    RFfacts lo hi N T w4 fs s cc l c0 c1 c2 c3 (fun k => decide (k = 5) || f k) x6 x11 x12 x13 x14 x15 (.slice A fs.length c) x17 x18 x19 x20 u' where
  bel := h.bel.trans ⟨hg.os, hg.tape, hg.output, hg.size, fun k hk => hg.block k (by omega) (by intro e; simp only [Option.some.injEq] at e; omega)⟩
  a0 := fun h1 => h.a0 (by simpa using h1)
  a1 := fun h1 => h.a1 (by simpa using h1)
  a2 := fun _ h2 => by simp at h2
  a3 := fun h1 => h.a3 (by simpa using h1)
  a4 := fun h1 => h.a4 (by simpa using h1)
  a5 := fun _ _ => ⟨A, c, news, rfl, hown, hnews.keep fun k _ hk => hg.block k (by omega) (by intro e; simp only [Option.some.injEq] at e; omega)⟩
  a6 := fun h1 => h.a6 (by simpa using h1)
  a7 := fun h1 h2 => by
    obtain ⟨p, h3, h4, h5⟩ := h.a7 (by simpa using h1) hf8
    refine ⟨p, h3, h4, h5.keep (hg.block p h5.lt fun e => ?_)⟩
    simp only [Option.some.injEq] at e
    subst e
    unfold Row at h5 hrow
    rw [h5] at hrow
    simp at hrow
  a8 := fun h1 => by simp [hf8] at h1
  a9 := fun h1 => by simp [hf9] at h1
  a10 := fun h1 _ => by
    obtain ⟨q, h3, h4, h5⟩ := h.a10 (by simpa using h1) hf11
    refine ⟨q, h3, h4, h5.keep (hg.block q h5.lt fun e => ?_)⟩
    simp only [Option.some.injEq] at e
    subst e
    unfold Row at h5 hrow
    rw [h5] at hrow
    simp at hrow
  a11 := fun h1 => by simp [hf11] at h1

/-- The second append: it may write into the list's own block. -/
theorem RFfacts.append2 {A : Option Addr} {c : Nat} {u' : World} {news : List Value} (h : RFfacts lo hi N T w4 fs s cc l c0 c1 c2 c3 f x6 x11 x12 x13 x14 x15 x16 x17 x18 x19 x20 u) (hN : N ≤ u.heap.size) (hh : hi ≤ N) (hf11 : f 11 = false) (hf9 : f 9 = false) (hf5 : f 5 = true)
    (hold : u.ownsRow N 55 4 x16 fs.length news) (hg : u.grownBy u' x16.ownBlock) (hown : u'.ownsRow N 55 4 (.slice A (fs.length + 1) c) (fs.length + 1) (news ++ [c0, c1, c2, c3])) (hnews : FusNews u lo hi news fs) :
    RFfacts lo hi N T w4 fs s cc l c0 c1 c2 c3 (fun k => decide (k = 8) || f k) x6 x11 x12 x13 x14 x15 x16 x17 x18 (.slice A (fs.length + 1) c) x20 u' where
  bel := h.bel.trans ⟨hg.os, hg.tape, hg.output, hg.size, fun k hk => hg.block k (by omega) (by intro e; have := owns_lt hold k e.symm; omega)⟩
  a0 := fun h1 => h.a0 (by simpa using h1)
  a1 := fun h1 => h.a1 (by simpa using h1)
  a2 := fun _ h2 => by simp [hf5] at h2
  a3 := fun h1 => h.a3 (by simpa using h1)
  a4 := fun h1 => h.a4 (by simpa using h1)
  a5 := fun _ h2 => by simp at h2
  a6 := fun h1 => h.a6 (by simpa using h1)
  a7 := fun _ h2 => by simp at h2
  a8 := fun _ => ⟨A, c, news, rfl, hown, hnews.keep fun k _ hk => hg.block k (by omega) (by intro e; have := owns_lt hold k e.symm; omega)⟩
  a9 := fun h1 => by simp [hf9] at h1
  a10 := fun h1 _ => by
    obtain ⟨q, h3, h4, h5⟩ := h.a10 (by simpa using h1) hf11
    exact ⟨q, h3, h4, h5.keep (hg.block q h5.lt fun e => row_own_neF h5 hold e.symm)⟩
  a11 := fun h1 => by simp [hf11] at h1
end
end Go.Proofs.Ytilcahidmoaakaa

namespace Go.Proofs.Ytilcahidmoaakaa
open Go.RowKit
section
variable {lo hi N T : Nat} {w4 u : World} {fs : List Fu} {s cc l c0 c1 c2 c3 : Value} {f : Nat → Bool} {x6 x11 x12 x13 x14 x15 x16 x17 x18 x19 x20 : Value}
theorem RFfacts.s0 (h : RFfacts lo hi N T w4 fs s cc l c0 c1 c2 c3 f x6 x11 x12 x13 x14 x15 x16 x17 x18 x19 x20 u) : RFfacts lo hi N T w4 fs s cc l c0 c1 c2 c3 (fun k => decide (k = 0) || f k) x6 (.pointer (some ⟨T, 0, none⟩)) x12 x13 x14 x15 x16 x17 x18 x19 x20 u where
  bel := h.bel
  a0 := fun _ => rfl
  a1 := fun e => h.a1 (by simpa using e)
  a2 := fun e e2 => h.a2 (by simpa using e) (by simpa using e2)
  a3 := fun e => h.a3 (by simpa using e)
  a4 := fun e => h.a4 (by simpa using e)
  a5 := fun e e2 => h.a5 (by simpa using e) (by simpa using e2)
  a6 := fun e => h.a6 (by simpa using e)
  a7 := fun e e2 => h.a7 (by simpa using e) (by simpa using e2)
  a8 := fun e => h.a8 (by simpa using e)
  a9 := fun e => h.a9 (by simpa using e)
  a10 := fun e e2 => h.a10 (by simpa using e) (by simpa using e2)
  a11 := fun e => h.a11 (by simpa using e)
theorem RFfacts.s1 (h : RFfacts lo hi N T w4 fs s cc l c0 c1 c2 c3 f x6 x11 x12 x13 x14 x15 x16 x17 x18 x19 x20 u) : RFfacts lo hi N T w4 fs s cc l c0 c1 c2 c3 (fun k => decide (k = 1) || f k) x6 x11 (.agg #[s, cc]) x13 x14 x15 x16 x17 x18 x19 x20 u where
  bel := h.bel
  a0 := fun e => h.a0 (by simpa using e)
  a1 := fun _ => rfl
  a2 := fun e e2 => h.a2 (by simpa using e) (by simpa using e2)
  a3 := fun e => h.a3 (by simpa using e)
  a4 := fun e => h.a4 (by simpa using e)
  a5 := fun e e2 => h.a5 (by simpa using e) (by simpa using e2)
  a6 := fun e => h.a6 (by simpa using e)
  a7 := fun e e2 => h.a7 (by simpa using e) (by simpa using e2)
  a8 := fun e => h.a8 (by simpa using e)
  a9 := fun e => h.a9 (by simpa using e)
  a10 := fun e e2 => h.a10 (by simpa using e) (by simpa using e2)
  a11 := fun e => h.a11 (by simpa using e)
theorem RFfacts.s2 (h : RFfacts lo hi N T w4 fs s cc l c0 c1 c2 c3 f x6 x11 x12 x13 x14 x15 x16 x17 x18 x19 x20 u) {b : Nat} (hb : N ≤ b) (hr : Row u b 55 []) : RFfacts lo hi N T w4 fs s cc l c0 c1 c2 c3 (fun k => decide (k = 2) || f k) x6 x11 x12 (.slice (some ⟨b, 0, none⟩) 0 0) x14 x15 x16 x17 x18 x19 x20 u where
  bel := h.bel
  a0 := fun e => h.a0 (by simpa using e)
  a1 := fun e => h.a1 (by simpa using e)
  a2 := fun _ _ => ⟨b, hb, rfl, hr⟩
  a3 := fun e => h.a3 (by simpa using e)
  a4 := fun e => h.a4 (by simpa using e)
  a5 := fun e e2 => h.a5 (by simpa using e) (by simpa using e2)
  a6 := fun e => h.a6 (by simpa using e)
  a7 := fun e e2 => h.a7 (by simpa using e) (by simpa using e2)
  a8 := fun e => h.a8 (by simpa using e)
  a9 := fun e => h.a9 (by simpa using e)
  a10 := fun e e2 => h.a10 (by simpa using e) (by simpa using e2)
  a11 := fun e => h.a11 (by simpa using e)
theorem RFfacts.s3 (h : RFfacts lo hi N T w4 fs s cc l c0 c1 c2 c3 f x6 x11 x12 x13 x14 x15 x16 x17 x18 x19 x20 u) : RFfacts lo hi N T w4 fs s cc l c0 c1 c2 c3 (fun k => decide (k = 3) || f k) x6 x11 x12 x13 (.pointer (some ⟨T, 2, none⟩)) x15 x16 x17 x18 x19 x20 u where
  bel := h.bel
  a0 := fun e => h.a0 (by simpa using e)
  a1 := fun e => h.a1 (by simpa using e)
  a2 := fun e e2 => h.a2 (by simpa using e) (by simpa using e2)
  a3 := fun _ => rfl
  a4 := fun e => h.a4 (by simpa using e)
  a5 := fun e e2 => h.a5 (by simpa using e) (by simpa using e2)
  a6 := fun e => h.a6 (by simpa using e)
  a7 := fun e e2 => h.a7 (by simpa using e) (by simpa using e2)
  a8 := fun e => h.a8 (by simpa using e)
  a9 := fun e => h.a9 (by simpa using e)
  a10 := fun e e2 => h.a10 (by simpa using e) (by simpa using e2)
  a11 := fun e => h.a11 (by simpa using e)
theorem RFfacts.s4 (h : RFfacts lo hi N T w4 fs s cc l c0 c1 c2 c3 f x6 x11 x12 x13 x14 x15 x16 x17 x18 x19 x20 u) : RFfacts lo hi N T w4 fs s cc l c0 c1 c2 c3 (fun k => decide (k = 4) || f k) x6 x11 x12 x13 x14 l x16 x17 x18 x19 x20 u where
  bel := h.bel
  a0 := fun e => h.a0 (by simpa using e)
  a1 := fun e => h.a1 (by simpa using e)
  a2 := fun e e2 => h.a2 (by simpa using e) (by simpa using e2)
  a3 := fun e => h.a3 (by simpa using e)
  a4 := fun _ => rfl
  a5 := fun e e2 => h.a5 (by simpa using e) (by simpa using e2)
  a6 := fun e => h.a6 (by simpa using e)
  a7 := fun e e2 => h.a7 (by simpa using e) (by simpa using e2)
  a8 := fun e => h.a8 (by simpa using e)
  a9 := fun e => h.a9 (by simpa using e)
  a10 := fun e e2 => h.a10 (by simpa using e) (by simpa using e2)
  a11 := fun e => h.a11 (by simpa using e)
theorem RFfacts.s6 (h : RFfacts lo hi N T w4 fs s cc l c0 c1 c2 c3 f x6 x11 x12 x13 x14 x15 x16 x17 x18 x19 x20 u) : RFfacts lo hi N T w4 fs s cc l c0 c1 c2 c3 (fun k => decide (k = 6) || f k) x6 x11 x12 x13 x14 x15 x16 (.agg #[c0, c1, c2, c3]) x18 x19 x20 u where
  bel := h.bel
  a0 := fun e => h.a0 (by simpa using e)
  a1 := fun e => h.a1 (by simpa using e)
  a2 := fun e e2 => h.a2 (by simpa using e) (by simpa using e2)
  a3 := fun e => h.a3 (by simpa using e)
  a4 := fun e => h.a4 (by simpa using e)
  a5 := fun e e2 => h.a5 (by simpa using e) (by simpa using e2)
  a6 := fun _ => rfl
  a7 := fun e e2 => h.a7 (by simpa using e) (by simpa using e2)
  a8 := fun e => h.a8 (by simpa using e)
  a9 := fun e => h.a9 (by simpa using e)
  a10 := fun e e2 => h.a10 (by simpa using e) (by simpa using e2)
  a11 := fun e => h.a11 (by simpa using e)
theorem RFfacts.s7 (h : RFfacts lo hi N T w4 fs s cc l c0 c1 c2 c3 f x6 x11 x12 x13 x14 x15 x16 x17 x18 x19 x20 u) {b : Nat} (hb : N ≤ b) (hr : Row u b 55 [c0, c1, c2, c3]) : RFfacts lo hi N T w4 fs s cc l c0 c1 c2 c3 (fun k => decide (k = 7) || f k) x6 x11 x12 x13 x14 x15 x16 x17 (.slice (some ⟨b, 0, none⟩) 1 1) x19 x20 u where
  bel := h.bel
  a0 := fun e => h.a0 (by simpa using e)
  a1 := fun e => h.a1 (by simpa using e)
  a2 := fun e e2 => h.a2 (by simpa using e) (by simpa using e2)
  a3 := fun e => h.a3 (by simpa using e)
  a4 := fun e => h.a4 (by simpa using e)
  a5 := fun e e2 => h.a5 (by simpa using e) (by simpa using e2)
  a6 := fun e => h.a6 (by simpa using e)
  a7 := fun _ _ => ⟨b, hb, rfl, hr⟩
  a8 := fun e => h.a8 (by simpa using e)
  a9 := fun e => h.a9 (by simpa using e)
  a10 := fun e e2 => h.a10 (by simpa using e) (by simpa using e2)
  a11 := fun e => h.a11 (by simpa using e)
theorem RFfacts.s9 (h : RFfacts lo hi N T w4 fs s cc l c0 c1 c2 c3 f x6 x11 x12 x13 x14 x15 x16 x17 x18 x19 x20 u) : RFfacts lo hi N T w4 fs s cc l c0 c1 c2 c3 (fun k => decide (k = 9) || f k) x6 x11 x12 x13 x14 x15 x16 x17 x18 x19 (.agg #[s, cc, x19]) u where
  bel := h.bel
  a0 := fun e => h.a0 (by simpa using e)
  a1 := fun e => h.a1 (by simpa using e)
  a2 := fun e e2 => h.a2 (by simpa using e) (by simpa using e2)
  a3 := fun e => h.a3 (by simpa using e)
  a4 := fun e => h.a4 (by simpa using e)
  a5 := fun e e2 => h.a5 (by simpa using e) (by simpa using e2)
  a6 := fun e => h.a6 (by simpa using e)
  a7 := fun e e2 => h.a7 (by simpa using e) (by simpa using e2)
  a8 := fun e => h.a8 (by simpa using e)
  a9 := fun _ => rfl
  a10 := fun e e2 => h.a10 (by simpa using e) (by simpa using e2)
  a11 := fun e => h.a11 (by simpa using e)
theorem RFfacts.s10 (h : RFfacts lo hi N T w4 fs s cc l c0 c1 c2 c3 f x6 x11 x12 x13 x14 x15 x16 x17 x18 x19 x20 u) {b : Nat} (hb : N ≤ b) (hr : Row u b 36 [.slice none 0 0, .slice none 0 0, .slice none 0 0]) (hf11 : f 11 = false) : RFfacts lo hi N T w4 fs s cc l c0 c1 c2 c3 (fun k => decide (k = 10) || f k) (.pointer (some ⟨b, 0, none⟩)) x11 x12 x13 x14 x15 x16 x17 x18 x19 x20 u where
  bel := h.bel
  a0 := fun e => h.a0 (by simpa using e)
  a1 := fun e => h.a1 (by simpa using e)
  a2 := fun e e2 => h.a2 (by simpa using e) (by simpa using e2)
  a3 := fun e => h.a3 (by simpa using e)
  a4 := fun e => h.a4 (by simpa using e)
  a5 := fun e e2 => h.a5 (by simpa using e) (by simpa using e2)
  a6 := fun e => h.a6 (by simpa using e)
  a7 := fun e e2 => h.a7 (by simpa using e) (by simpa using e2)
  a8 := fun e => h.a8 (by simpa using e)
  a9 := fun e => h.a9 (by simpa using e)
  a10 := fun _ _ => ⟨b, hb, rfl, hr⟩
  a11 := fun e => by simp [hf11] at e
theorem RFfacts.s11 {q : Nat} (h : RFfacts lo hi N T w4 fs s cc l c0 c1 c2 c3 f (.pointer (some ⟨q, 0, none⟩)) x11 x12 x13 x14 x15 x16 x17 x18 x19 x20 u) (_hN : N ≤ u.heap.size) (hh : hi ≤ N) (hf5 : f 5 = true) (hf8 : f 8 = true) (hq : N ≤ q) (hr : Row u q 36 [.slice none 0 0, .slice none 0 0, .slice none 0 0]) :
    RFfacts lo hi N T w4 fs s cc l c0 c1 c2 c3 (fun k => decide (k = 11) || f k) (.pointer (some ⟨q, 0, none⟩)) x11 x12 x13 x14 x15 x16 x17 x18 x19 x20 (((u.setCell ⟨q, 0, none⟩ s).setCell ⟨q, 1, none⟩ cc).setCell ⟨q, 2, none⟩ x19) where
  bel := ((h.bel.setCell (by dsimp only; omega) _).setCell (by dsimp only; omega) _).setCell (by dsimp only; omega) _
  a0 := fun e => h.a0 (by simpa using e)
  a1 := fun e => h.a1 (by simpa using e)
  a2 := fun _ e2 => by simp [hf5] at e2
  a3 := fun e => h.a3 (by simpa using e)
  a4 := fun e => h.a4 (by simpa using e)
  a5 := fun _ e2 => by simp [hf8] at e2
  a6 := fun e => h.a6 (by simpa using e)
  a7 := fun _ e2 => by simp [hf8] at e2
  a8 := fun e => by
    obtain ⟨A, c, news, h3, h4, h5⟩ := h.a8 (by simpa using e)
    have hk : ∀ k, k ≠ q → (((u.setCell ⟨q, 0, none⟩ s).setCell ⟨q, 1, none⟩ cc).setCell ⟨q, 2, none⟩ x19).heap[k]? = u.heap[k]? := fun k hk => (Below.heap_setCell _ _ _ _ hk).trans ((Below.heap_setCell _ _ _ _ hk).trans (Below.heap_setCell _ _ _ _ hk))
    exact ⟨A, c, news, h3, ownsRow_keep1 h4 fun g hg => hk g (fun e => row_own_neF hr h4 (by rw [hg, e])), h5.keep fun k _ hk2 => hk k (by omega)⟩
  a9 := fun e => h.a9 (by simpa using e)
  a10 := fun _ e2 => by simp at e2
  a11 := fun _ => ⟨q, hq, rfl, ((hr.set_ 0 s).set_ 1 cc).set_ 2 x19⟩
end
structure RClF (f : Nat → Bool) : Prop where
  c85 : f 8 = true → f 5 = true
  c98 : f 9 = true → f 8 = true
  cb8 : f 11 = true → f 8 = true
  cba : f 11 = true → f 10 = true
section
variable {f : Nat → Bool}
theorem RClF.n8 (h : RClF f) (h5 : f 5 = false) : f 8 = false := by
  by_cases e : f 8 = true
  · rw [h.c85 e] at h5; cases h5
  · simpa using e
theorem RClF.n9 (h : RClF f) (h8 : f 8 = false) : f 9 = false := by
  by_cases e : f 9 = true
  · rw [h.c98 e] at h8; cases h8
  · simpa using e
theorem RClF.nb (h : RClF f) (h8 : f 8 = false) : f 11 = false := by
  by_cases e : f 11 = true
  · rw [h.cb8 e] at h8; cases h8
  · simpa using e
theorem RClF.nb' (h : RClF f) (h8 : f 10 = false) : f 11 = false := by
  by_cases e : f 11 = true
  · rw [h.cba e] at h8; cases h8
  · simpa using e
theorem RClF.u0 (h : RClF f) : RClF (fun k => decide (k = 0) || f k) where
  c85 := fun e => by simp [h.c85 (by simpa using e)]
  c98 := fun e => by simp [h.c98 (by simpa using e)]
  cb8 := fun e => by simp [h.cb8 (by simpa using e)]
  cba := fun e => by simp [h.cba (by simpa using e)]
theorem RClF.u1 (h : RClF f) : RClF (fun k => decide (k = 1) || f k) where
  c85 := fun e => by simp [h.c85 (by simpa using e)]
  c98 := fun e => by simp [h.c98 (by simpa using e)]
  cb8 := fun e => by simp [h.cb8 (by simpa using e)]
  cba := fun e => by simp [h.cba (by simpa using e)]
theorem RClF.u2 (h : RClF f) : RClF (fun k => decide (k = 2) || f k) where
  c85 := fun e => by simp [h.c85 (by simpa using e)]
  c98 := fun e => by simp [h.c98 (by simpa using e)]
  cb8 := fun e => by simp [h.cb8 (by simpa using e)]
  cba := fun e => by simp [h.cba (by simpa using e)]
theorem RClF.u3 (h : RClF f) : RClF (fun k => decide (k = 3) || f k) where
  c85 := fun e => by simp [h.c85 (by simpa using e)]
  c98 := fun e => by simp [h.c98 (by simpa using e)]
  cb8 := fun e => by simp [h.cb8 (by simpa using e)]
  cba := fun e => by simp [h.cba (by simpa using e)]
theorem RClF.u4 (h : RClF f) : RClF (fun k => decide (k = 4) || f k) where
  c85 := fun e => by simp [h.c85 (by simpa using e)]
  c98 := fun e => by simp [h.c98 (by simpa using e)]
  cb8 := fun e => by simp [h.cb8 (by simpa using e)]
  cba := fun e => by simp [h.cba (by simpa using e)]
theorem RClF.u5 (h : RClF f) : RClF (fun k => decide (k = 5) || f k) where
  c85 := fun _ => rfl
  c98 := fun e => by simp [h.c98 (by simpa using e)]
  cb8 := fun e => by simp [h.cb8 (by simpa using e)]
  cba := fun e => by simp [h.cba (by simpa using e)]
theorem RClF.u6 (h : RClF f) : RClF (fun k => decide (k = 6) || f k) where
  c85 := fun e => by simp [h.c85 (by simpa using e)]
  c98 := fun e => by simp [h.c98 (by simpa using e)]
  cb8 := fun e => by simp [h.cb8 (by simpa using e)]
  cba := fun e => by simp [h.cba (by simpa using e)]
theorem RClF.u7 (h : RClF f) : RClF (fun k => decide (k = 7) || f k) where
  c85 := fun e => by simp [h.c85 (by simpa using e)]
  c98 := fun e => by simp [h.c98 (by simpa using e)]
  cb8 := fun e => by simp [h.cb8 (by simpa using e)]
  cba := fun e => by simp [h.cba (by simpa using e)]
theorem RClF.u8 (h : RClF f) (d5 : f 5 = true) : RClF (fun k => decide (k = 8) || f k) where
  c85 := fun _ => by simp [d5]
  c98 := fun _ => rfl
  cb8 := fun _ => rfl
  cba := fun e => by simp [h.cba (by simpa using e)]
theorem RClF.u9 (h : RClF f) (d8 : f 8 = true) : RClF (fun k => decide (k = 9) || f k) where
  c85 := fun e => by simp [h.c85 (by simpa using e)]
  c98 := fun _ => by simp [d8]
  cb8 := fun e => by simp [h.cb8 (by simpa using e)]
  cba := fun e => by simp [h.cba (by simpa using e)]
theorem RClF.u10 (h : RClF f) : RClF (fun k => decide (k = 10) || f k) where
  c85 := fun e => by simp [h.c85 (by simpa using e)]
  c98 := fun e => by simp [h.c98 (by simpa using e)]
  cb8 := fun e => by simp [h.cb8 (by simpa using e)]
  cba := fun _ => rfl
theorem RClF.u11 (h : RClF f) (d8 : f 8 = true) (d10 : f 10 = true) : RClF (fun k => decide (k = 11) || f k) where
  c85 := fun e => by simp [h.c85 (by simpa using e)]
  c98 := fun e => by simp [h.c98 (by simpa using e)]
  cb8 := fun _ => by simp [d8]
  cba := fun _ => by simp [d10]
end
end Go.Proofs.Ytilcahidmoaakaa

namespace Go.Proofs.Ytilcahidmoaakaa
open Go.RowKit

theorem Ty.fits.co {t : Ty} (h : t.fits) : ∀ i, i < t.cos.length → I64 (t.cos.getD i default).src ∧ I64 (t.cos.getD i default).dst ∧ ∀ z ∈ (t.cos.getD i default).map, I64 z := by
  intro i hi
  have e : t.cos.getD i default = t.cos[i] := by rw [List.getD_eq_getElem?_getD, List.getElem?_eq_getElem hi]; rfl
  rw [e]
  exact h.2 i hi
theorem TysOwned.tyAt {w : World} {base lo hi : Nat} {v l : Value} {t : Ty} (h : TysOwned w base v l t) (hf : t.fits) (hlo : lo ≤ base) (hhi : w.heap.size ≤ hi) : TyAt w lo hi v l t := by
  obtain ⟨C, h1, h2, _, h4⟩ := h
  refine ⟨ownsRow.intsAt h2 hf.1 hlo hhi, ?_⟩
  have := CosOwned.cosAt h4 hf.co (by omega : lo ≤ C + 1) hhi
  rw [range_getD] at this
  exact this
theorem SyOwned.syAt {w : World} {base lo hi : Nat} {v l q : Value} {y : Sy} (h : SyOwned w base v l q y) (hf : y.fits) (hlo : lo ≤ base) (hhi : w.heap.size ≤ hi) : SyAt w lo hi v l q y := by
  obtain ⟨b, u, b2, h0, h0', h1, h2, h3, h4, h5⟩ := h
  refine ⟨TyAt.more (lo := b) (hi := u.heap.size) ((h1.tyAt hf.1 (Nat.le_refl _) (Nat.le_refl _)).keep h2) (by omega) (by omega), ?_⟩
  have := FusOwned.fusAt (lo := lo) (hi := hi) h5 (fun i hi' => by
    have e : y.fs.getD i default = y.fs[i] := by rw [List.getD_eq_getElem?_getD, List.getElem?_eq_getElem hi']; rfl
    rw [e]
    exact hf.2 i hi') (by omega) hhi
  rw [range_getDF] at this
  exact this
theorem slAt_own' {w : World} {base n size : Nat} {e : TypeId} {v : Value} {xs : List Value} (d : Nat) (h : w.ownsRow base e size v n xs) : SlAt w e (v.ownBlock.getD d) v n xs ∧ (0 < n → v.ownBlock = some (v.ownBlock.getD d) ∧ base ≤ v.ownBlock.getD d ∧ v.ownBlock.getD d < w.heap.size) := by
  have hlt := owns_lt h
  obtain ⟨h1, ⟨rfl, rfl⟩ | ⟨g, cap, cur, rfl, hb, hh, hc, hm, hsz, htk⟩⟩ := h
  · exact ⟨⟨none, 0, rfl, Nat.le_refl _, Nat.zero_le _, fun _ => List.eq_nil_of_length_eq_zero (by simpa using h1), fun h0 => absurd h0 (by omega)⟩, fun h0 => absurd h0 (by omega)⟩
  · have hr : Row w g e (xs ++ cur.toList.drop (n * size)) := by
      rw [← htk, List.take_append_drop]
      simpa [Row] using hh
    exact ⟨⟨_, _, rfl, hc, hm, fun e0 => List.eq_nil_of_length_eq_zero (by rw [h1, e0]; simp), fun _ => ⟨rfl, _, hr⟩⟩, fun _ => ⟨rfl, hlt g rfl⟩⟩
theorem TysOwned.own {w : World} {base : Nat} {v l : Value} {t : Ty} (h : TysOwned w base v l t) : ∃ (gs gc : Nat) (m : Nat → Nat) (mv : Nat → Value), OwnTy w 3 67 gs gc m mv v l t.sizes t.cos.length (fun i => t.cos.getD i default) ∧
    ∀ k, OwnTy.uses gs gc m t.sizes t.cos.length (fun i => t.cos.getD i default) k → base ≤ k ∧ k < w.heap.size := by
  obtain ⟨C, hC, hv, hvC, xs, m, mv, hl, hm⟩ := h
  obtain ⟨s1, s2⟩ := slAt_own' 0 hv
  obtain ⟨c1, c2⟩ := slAt_own' C hl
  have hgc : C ≤ l.ownBlock.getD C := by
    cases e : l.ownBlock with
    | none => exact Nat.le_refl _
    | some g => have := (owns_lt hl g e).1; simp only [Option.getD_some]; omega
  have hne : ∀ i, i < t.cos.length → 0 < (t.cos.getD i default).map.length → m i ≠ l.ownBlock.getD C := by
    intro i hi h0 e
    obtain ⟨a1, a2, a3, _⟩ := hm.away i hi h0
    cases e2 : l.ownBlock with
    | none => rw [e2] at e; simp only [Option.getD_none] at e; omega
    | some g => rw [e2] at e a3; simp only [Option.getD_some] at e; exact a3 (by rw [e])
  refine ⟨v.ownBlock.getD 0, l.ownBlock.getD C, m, mv, ⟨s1, ⟨xs, c1, hl.1, hm.cells, hm.own⟩, fun i hi h0 => ⟨hne i hi h0, (hm.away i hi h0).2.2.2⟩, fun h0 => ?_⟩, fun k hk => ?_⟩
  · have h1 := hvC _ (s2 h0).1
    exact ⟨by omega, fun i hi hl0 => by have := (hm.away i hi hl0).1; omega⟩
  · rcases hk with ⟨h0, rfl⟩ | ⟨h0, rfl⟩ | ⟨i, hi, h0, rfl⟩
    · exact ⟨(s2 h0).2.1, (s2 h0).2.2⟩
    · have := c2 h0
      exact ⟨by omega, this.2.2⟩
    · have := hm.away i hi h0
      exact ⟨by omega, this.2.1⟩
theorem SyOwned.own {w : World} {base : Nat} {v l q : Value} {y : Sy} (h : SyOwned w base v l q y) :
    ∃ (gs gc : Nat) (m : Nat → Nat) (mv : Nat → Value) (gf : Nat) (mf : Nat → Bool → Nat) (mvf : Nat → Bool → Value), OwnSy w gs gc m mv v l y.ty.sizes y.ty.cos.length (fun i => y.ty.cos.getD i default) gf mf mvf q y.fs.length (fun i => y.fs.getD i default) ∧
    ∀ k, OwnSy.uses gs gc m y.ty.sizes y.ty.cos.length (fun i => y.ty.cos.getD i default) gf mf y.fs.length (fun i => y.fs.getD i default) k → base ≤ k ∧ k < w.heap.size := by
  obtain ⟨b, u, b2, h0, h0', h1, h2, h3, h4, h5⟩ := h
  obtain ⟨gs, gc, m, mv, k1, k2⟩ := h1.own
  obtain ⟨gf, mf, mvf, f1, f2, f3, f4⟩ := h5.own
  refine ⟨gs, gc, m, mv, gf, mf, mvf, ⟨k1.keep fun k hk hu => h2 k (k2 k hu).1 hk, f1, f2, fun k hk => ⟨fun hn e => ?_, fun i b' hi hl e => ?_⟩⟩, fun k hk => ?_⟩
  · have := k2 k hk
    have := f3 hn
    omega
  · have := k2 k hk
    have := f4 i b' hi hl
    omega
  · rcases hk with hk | hk
    · have := k2 k hk
      omega
    · rcases not_keeps hk with ⟨hn, rfl⟩ | ⟨i, b', hi, hl, rfl⟩
      · have := f3 hn
        omega
      · have := f4 i b' hi hl
        omega
end Go.Proofs.Ytilcahidmoaakaa

