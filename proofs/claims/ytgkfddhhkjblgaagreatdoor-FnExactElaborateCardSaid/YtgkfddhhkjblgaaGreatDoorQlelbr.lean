/-
  Proved here, the second part: FnExactElaborate returns true for all arguments, each argument reads afterwards as it read before, and so do the package's six errors, which are tied to the program's text.
  Conditions: those of the given card alone.
-/
import Derived.Test.YtgkfddhhkjblgaaGreatDoorQlelbl
namespace Go.Proofs.YtgkfddhhkjblgaaGreatDoor
open Go.ChangeShapes Go.WideShapes Go.ChangeAt Go.RowKit

set_option maxRecDepth 100000 in
set_option maxHeartbeats 4000000 in
theorem elb_joined : joinedFacts Tryz.pinned.checked.prog 3 Tryz.f3 Rows.fnExactElaborateSpec Rows.fnExactElaborateRow = true := by
  unfold joinedFacts
  simp only [Bool.and_eq_true]
  repeat' apply And.intro
  all_goals as_aux_lemma => kernel_rfl

theorem elb_row : Rows.FnExactElaborateSaid :=
  OpenClaim.holds_of_wide 3 Tryz.f3 rfl rfl rfl rfl rfl rfl rfl ⟨rfl, rfl, rfl, rfl, rfl⟩ rfl rfl rfl rfl rfl (by kernel_rfl) Tryz.func3 elb_joined
    (of_decide_eq_true (by kernel_rfl)) (by unfold Func.isWrapper; first | (rw [if_pos (by decide +kernel)]; kernel_rfl) | (rw [if_neg (by decide +kernel)]; exact ⟨rfl, rfl⟩))
    (fun os started H enc _ => lawElb_lifted os started H enc)
end Go.Proofs.YtgkfddhhkjblgaaGreatDoor

