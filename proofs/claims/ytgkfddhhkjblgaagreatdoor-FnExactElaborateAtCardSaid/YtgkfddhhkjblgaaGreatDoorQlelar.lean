/-
  Proved here, the second part: FnExactElaborateAt returns true for all arguments, each argument reads afterwards as it read before, and so do the package's six errors, which are tied to the program's text.
  Conditions: those of the given card alone.
-/
import Derived.Test.YtgkfddhhkjblgaaGreatDoorQlelal
namespace Go.Proofs.YtgkfddhhkjblgaaGreatDoor
open Go.ChangeShapes Go.WideShapes Go.ChangeAt Go.RowKit

set_option maxRecDepth 100000 in
set_option maxHeartbeats 4000000 in
theorem ela_joined : joinedFacts Tryz.pinned.checked.prog 5 Tryz.f5 Rows.fnExactElaborateAtSpec Rows.fnExactElaborateAtRow = true := by
  unfold joinedFacts
  simp only [Bool.and_eq_true]
  repeat' apply And.intro
  all_goals as_aux_lemma => kernel_rfl

theorem ela_row : Rows.FnExactElaborateAtSaid :=
  OpenClaim.holds_of_wide 5 Tryz.f5 rfl rfl rfl rfl rfl rfl rfl ⟨rfl, rfl, rfl, rfl, rfl⟩ rfl rfl rfl rfl rfl (by kernel_rfl) Tryz.func5 ela_joined
    (of_decide_eq_true (by kernel_rfl)) (by unfold Func.isWrapper; first | (rw [if_pos (by decide +kernel)]; kernel_rfl) | (rw [if_neg (by decide +kernel)]; exact ⟨rfl, rfl⟩))
    (fun os started H enc _ => lawEla_lifted os started H enc)
end Go.Proofs.YtgkfddhhkjblgaaGreatDoor

