/-
  The contract of IsRedundant, the model's face.
-/
import Derived.Test.YtokklaoldgdkaaaRedm
import Derived.Test.YtokklaoldgdkaaaRedd
namespace Go.Proofs.Ytokklaoldgdkaaa
open Go.RowKit

set_option maxRecDepth 100000 in
set_option maxHeartbeats 1000000 in
theorem specRed_any (lo hi : Nat) (sv cv : Value) (t : Ty) (i : Int) (w : World) (hv : TyAt w lo hi sv cv t) (hB : hi ≤ w.heap.size) :
    Calls Try.prog 26 #[.agg #[sv, cv], .int .i64 i] w fun e w' => e = .returned (.bool (redV t i)) ∧ Below w.heap.size w w' := by
  obtain ⟨A, cap, rfl, hl1, hm1, _⟩ := hv.1.form
  obtain ⟨B, bap, rfl, hl2, hm2, _⟩ := hv.2.form
  have h3 : Below w.heap.size w (w.alloc (.cells #[.slice A t.sizes.length cap, .slice B t.cos.length bap] 30)) := by go_grown
  have hv3 := Lib.hid (hv.below h3 hB)
  have Hv := Lib.hid hv
  clear hv
  go_enter Try.func26, Try.ntmps26
  go_wp2_with fail
  refine (l1Coercion_any lo hi _ _ t i _ hv3.out (by simp; omega)).mono ?_
  rintro e w1 ⟨rfl, hb1⟩
  have H1 := Lib.hid (box2 (hb1.mono (by simp)))
  obtain ⟨q0, q1, hl, _⟩ := box2 (hb1.mono (by simp))
  clear hb1
  by_cases hok : hasC t i = true
  · have hfin : Hid (redV t i = redB t i.toNat (t.cos.getD i.toNat default)) := by show _ = _; unfold redV; rw [hok, Bool.true_and]
    have Hok := Lib.hid hok
    rw [hok]
    clear hok
    go_wp2_with fail
    refine (l3Redundant_any lo hi _ _ t i _ (Hv.out.below H1.out.2.2.2 hB) (by omega) Hok.out).mono ?_
    rintro e w2 ⟨rfl, hb2⟩
    have H2 := Lib.hid (H1.out.2.2.2.trans (hb2.mono (by omega)))
    clear hb2
    go_wp2
    go_ret
    exact ⟨ret_bool hfin.out.symm, H2.out⟩
  · have hokf : hasC t i = false := by simpa using hok
    have hfin : Hid (redV t i = false) := by show _ = _; unfold redV; rw [hokf, Bool.false_and]
    rw [hokf]
    clear hok hokf
    go_wp2
    go_ret
    exact ⟨ret_bool hfin.out.symm, H1.out.2.2.2⟩
end Go.Proofs.Ytokklaoldgdkaaa
