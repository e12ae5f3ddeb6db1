/-
  Proved here, the second part: FnExactIsRegular returns true for all arguments, each argument reads afterwards as it read before, and so do three of the package's errors, which are tied to the program's text.
  Conditions: those of the given card alone.
-/
import Derived.Test.YtnmbjmocnafekaaGreatDoorQlrgl
namespace Go.Proofs.YtnmbjmocnafekaaGreatDoor
open Go.ChangeShapes Go.WideShapes Go.ChangeAt Go.RowKit

set_option maxRecDepth 100000 in
theorem lrg_joined : joinedFacts Tryz.pinned.checked.prog 3 Tryz.f3 Rows.fnExactIsRegularSpec Rows.fnExactIsRegularRow = true := by
  unfold joinedFacts
  simp only [Bool.and_eq_true]
  repeat' apply And.intro
  all_goals kernel_rfl

theorem lrg_row : Rows.FnExactIsRegularSaid :=
  OpenClaim.holds_of_wide 3 Tryz.f3 rfl rfl rfl rfl rfl rfl rfl ⟨rfl, rfl, rfl, rfl, rfl⟩ rfl rfl rfl rfl rfl (by kernel_rfl) Tryz.func3 lrg_joined
    (of_decide_eq_true (by kernel_rfl)) (by unfold Func.isWrapper; first | (rw [if_pos (by decide +kernel)]; kernel_rfl) | (rw [if_neg (by decide +kernel)]; exact ⟨rfl, rfl⟩))
    (fun os started H enc _ => lawRg_lifted os started H enc)
end Go.Proofs.YtnmbjmocnafekaaGreatDoor

