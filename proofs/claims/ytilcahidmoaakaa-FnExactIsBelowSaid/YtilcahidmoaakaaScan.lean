/-
  The contracts of the model's l2Ways, l2Can and CanCoerce.
-/
import Derived.Test.YtilcahidmoaakaaSfrom
import Derived.Test.YtilcahidmoaakaaWmap
namespace Go.Proofs.Ytilcahidmoaakaa
open Go.RowKit

/-- A slice of slices in new memory that reads as lists of numbers. -/
def WaysAt (w : World) (base : Nat) (ov : Value) (zss : List (List Int)) : Prop :=
  ∃ (xs : List Value) (S : Nat → Prop), w.ownsRow base 22 1 ov zss.length xs ∧ (∀ i, ∀ (h : i < zss.length), ∃ x, xs[i]? = some x ∧ IntsIn w S x zss[i]) ∧ ∀ b, S b → base ≤ b ∧ b < w.heap.size ∧ some b ≠ ov.ownBlock
theorem typesB_of {t : Ty} {a b : Int} (h : typesB t a b = true) : tyOk t = true ∧ 0 ≤ a ∧ a < t.sizes.length ∧ 0 ≤ b ∧ b < t.sizes.length := by
  simp only [typesB, ixB, Bool.and_eq_true, decide_eq_true_eq] at h
  exact ⟨h.1.1, h.1.2.1, h.1.2.2, h.2.1, h.2.2⟩
theorem typesB_len {t : Ty} (h : tyOk t = true) : t.sizes.length ≤ 5 := (sizesOk_of (tyOk_sizes h)).2.1

set_option maxRecDepth 100000 in
set_option maxHeartbeats 1000000 in
theorem l2Ways_any (lo hi : Nat) (sv cv : Value) (t : Ty) (a b : Int) (w : World) (hv : TyAt w lo hi sv cv t) (hB : hi ≤ w.heap.size) (htb : typesB t a b = true) :
    Calls Try.prog 168 #[.agg #[sv, cv], .int .i64 a, .int .i64 b] w fun e w' => ∃ ov, e = .returned ov ∧ Below w.heap.size w w' ∧ WaysAt w' w.heap.size ov (waysOf t a b) := by
  obtain ⟨A, cap, rfl, hl1, hm1, _⟩ := hv.1.form
  obtain ⟨B, bap, rfl, hl2, hm2, _⟩ := hv.2.form
  obtain ⟨hok, ha0, ha1, hb0, hb1⟩ := typesB_of htb
  have h5 := typesB_len hok
  have hwl := waysOf_len hok a b
  have hbel : Below w.heap.size w (((w.alloc (.cells #[.slice A t.sizes.length cap, .slice B t.cos.length bap] 33)).alloc (.cells #[] 22)).alloc (.cells #[.slice A t.sizes.length cap, .slice B t.cos.length bap, .int .i64 b, .slice none 0 0, .slice (some ⟨w.heap.size + 1, 0, none⟩) 0 0] 187)) := by go_grown
  have Hbel := Lib.hid hbel
  have Hv := Lib.hid (hv.below hbel hB)
  have hfp : FP (.slice A t.sizes.length cap) (.slice B t.cos.length bap) b w.heap.size (w.heap.size + 2) [] [] (((w.alloc (.cells #[.slice A t.sizes.length cap, .slice B t.cos.length bap] 33)).alloc (.cells #[] 22)).alloc (.cells #[.slice A t.sizes.length cap, .slice B t.cos.length bap, .int .i64 b, .slice none 0 0, .slice (some ⟨w.heap.size + 1, 0, none⟩) 0 0] 187)) (.slice none 0 0) (.slice (some ⟨w.heap.size + 1, 0, none⟩) 0 0) [] (fun _ => False) := by
    refine ⟨?_, by omega, World.ownsRow_nil _ _ _ _, ?_, fun i hi => absurd hi (by simp), fun b hb => hb.elim⟩
    · have := Row.new ((w.alloc (.cells #[.slice A t.sizes.length cap, .slice B t.cos.length bap] 33)).alloc (.cells #[] 22)) 187 [.slice A t.sizes.length cap, .slice B t.cos.length bap, .int .i64 b, .slice none 0 0, .slice (some ⟨w.heap.size + 1, 0, none⟩) 0 0]
      rw [World.size_alloc, World.size_alloc] at this
      exact this
    · have := World.ownsRow_lit (base := w.heap.size) (e := 22) (size := 1) (w.alloc (.cells #[.slice A t.sizes.length cap, .slice B t.cos.length bap] 33)) #[] 0 (by simp) (by unfold maxLen; omega) rfl
      rw [World.size_alloc] at this
      exact ownsRow_keep1 this fun g hg => Below.heap_alloc _ _ g (by simp only [Value.ownBlock, Option.some.injEq] at hg; simp; omega)
  have Hfp := Lib.hid hfp
  clear hv hfp hbel htb
  go_enter Try.func168, Try.ntmps168
  go_wp2_with fail
  refine (from_any lo hi _ _ t b w.heap.size (w.heap.size + 2) hok hB 5 a [] [] _ Hv.out (by simp; omega) ha0 ha1 (by omega) (by simp) (by simp) (by have : (waysF t.cos 5 a b).length ≤ 32768 := hwl; simp; omega) ⟨_, _, _, _, Hfp.out⟩).mono ?_
  rintro e w1 ⟨rfl, hb1, hfs1⟩
  obtain ⟨wv, ov, xs, S, h1⟩ := hfs1
  have c4 : w1.cell? ⟨w.heap.size + 2, 4, none⟩ = some ov := h1.row.cell 4
  have Hb1 := Lib.hid (Hbel.out.trans hb1)
  have H1 := Lib.hid h1
  clear hb1 h1
  go_wp2
  go_ret
  have e : ([] : List (List Int)) ++ (waysF t.cos 5 a b).map (([] : List Int) ++ ·) = waysOf t a b := by
    simp only [List.nil_append]
    exact List.map_id' _
  have h2 := H1.out
  rw [e] at h2
  exact ⟨_, rfl, Hb1.out, xs, S, h2.fouts, h2.ints, fun b hb => ⟨(h2.set b hb).1, (h2.set b hb).2.1, (h2.set b hb).2.2.2.2⟩⟩

/-- Is there a way? -/
def canB (t : Ty) (a b : Int) : Bool := decide (0 < (waysOf t a b).length)
def canC (t : Ty) (a b : Int) : Bool := typesB t a b && canB t a b

end Go.Proofs.Ytilcahidmoaakaa
