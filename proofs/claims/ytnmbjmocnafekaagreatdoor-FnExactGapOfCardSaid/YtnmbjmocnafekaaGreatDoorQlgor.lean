/-
  Proved here, the second part: FnExactGapOf returns true for all arguments, each argument reads afterwards as it read before, and so do three of the package's errors, which are tied to the program's text.
  Conditions: those of the given card alone.
-/
import Derived.Test.YtnmbjmocnafekaaGreatDoorQlgol
namespace Go.Proofs.YtnmbjmocnafekaaGreatDoor
open Go.ChangeShapes Go.WideShapes Go.ChangeAt Go.RowKit

set_option maxRecDepth 100000 in
theorem lgo_joined : joinedFacts Tryz.pinned.checked.prog 4 Tryz.f4 Rows.fnExactGapOfSpec Rows.fnExactGapOfRow = true := by
  unfold joinedFacts
  simp only [Bool.and_eq_true]
  repeat' apply And.intro
  all_goals kernel_rfl

theorem lgo_row : Rows.FnExactGapOfSaid :=
  OpenClaim.holds_of_wide 4 Tryz.f4 rfl rfl rfl rfl rfl rfl rfl ⟨rfl, rfl, rfl, rfl, rfl⟩ rfl rfl rfl rfl rfl (by kernel_rfl) Tryz.func4 lgo_joined
    (of_decide_eq_true (by kernel_rfl)) (by unfold Func.isWrapper; first | (rw [if_pos (by decide +kernel)]; kernel_rfl) | (rw [if_neg (by decide +kernel)]; exact ⟨rfl, rfl⟩))
    (fun os started H enc _ => lawGo_lifted os started H enc)
end Go.Proofs.YtnmbjmocnafekaaGreatDoor

