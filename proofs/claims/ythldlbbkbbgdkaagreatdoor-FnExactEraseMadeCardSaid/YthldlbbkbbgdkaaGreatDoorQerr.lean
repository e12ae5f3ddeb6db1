/-
  Proved here, the second part: FnExactEraseMade returns true for all arguments, each argument reads afterwards as it read before, and so does the package's error of reading texts, which is tied to the program's text.
  Conditions: those of the given card alone.
-/
import Derived.Test.YthldlbbkbbgdkaaGreatDoorQerl
namespace Go.Proofs.YthldlbbkbbgdkaaGreatDoor
open Go.ChangeShapes Go.WideShapes Go.ChangeAt Go.RowKit

set_option maxRecDepth 100000 in
theorem ers_joined : joinedFacts Tryz.pinned.checked.prog 3 Tryz.f3 Rows.fnExactEraseMadeSpec Rows.fnExactEraseMadeRow = true := by
  unfold joinedFacts
  simp only [Bool.and_eq_true]
  repeat' apply And.intro
  all_goals kernel_rfl

theorem ers_row : Rows.FnExactEraseMadeSaid :=
  OpenClaim.holds_of_wide 3 Tryz.f3 rfl rfl rfl rfl rfl rfl rfl ⟨rfl, rfl, rfl, rfl, rfl⟩ rfl rfl rfl rfl rfl (by kernel_rfl) Tryz.func3 ers_joined
    (of_decide_eq_true (by kernel_rfl)) (by unfold Func.isWrapper; first | (rw [if_pos (by decide +kernel)]; kernel_rfl) | (rw [if_neg (by decide +kernel)]; exact ⟨rfl, rfl⟩))
    (fun os started H enc _ => lawErs_lifted os started H enc)
end Go.Proofs.YthldlbbkbbgdkaaGreatDoor

