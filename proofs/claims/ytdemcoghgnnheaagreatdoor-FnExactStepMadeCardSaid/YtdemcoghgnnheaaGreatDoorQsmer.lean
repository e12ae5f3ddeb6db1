/-
  Proved here, the second part: FnExactStepMade returns true for all arguments, each argument reads afterwards as it read before, and so does the package's error of reading texts, which is tied to the program's text.
  Conditions: those of the given card alone.
-/
import Derived.Test.YtdemcoghgnnheaaGreatDoorQsmel
namespace Go.Proofs.YtdemcoghgnnheaaGreatDoor
open Go.ChangeShapes Go.WideShapes Go.ChangeAt Go.RowKit

set_option maxRecDepth 100000 in
set_option maxHeartbeats 4000000 in
theorem sme_joined : joinedFacts Tryz.pinned.checked.prog 12 Tryz.f12 Rows.fnExactStepMadeSpec Rows.fnExactStepMadeRow = true := by
  unfold joinedFacts
  simp only [Bool.and_eq_true]
  repeat' apply And.intro
  all_goals as_aux_lemma => kernel_rfl

theorem sme_row : Rows.FnExactStepMadeSaid :=
  OpenClaim.holds_of_wide_leaving_time 12 Tryz.f12 rfl rfl rfl rfl rfl rfl rfl ⟨rfl, rfl, rfl, rfl, rfl⟩ rfl rfl rfl rfl rfl (by kernel_rfl) Tryz.func12 sme_joined
    (of_decide_eq_true (by kernel_rfl)) (by unfold Func.isWrapper; first | (rw [if_pos (by decide +kernel)]; kernel_rfl) | (rw [if_neg (by decide +kernel)]; exact ⟨rfl, rfl⟩))
    (fun os started H enc _ F => lawSme_lifted os started H enc F)
end Go.Proofs.YtdemcoghgnnheaaGreatDoor

