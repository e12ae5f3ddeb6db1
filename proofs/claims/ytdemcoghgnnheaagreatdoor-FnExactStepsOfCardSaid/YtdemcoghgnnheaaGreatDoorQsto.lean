/-
  Proved here: FnExactStepsOf returns true for all arguments, each argument reads afterwards as it read before, and so does the package's error of reading texts, which is tied to the program's text.
  Conditions: those of the given card alone.
-/
import Derived.Test.YtdemcoghgnnheaaGreatDoorQstor
import Derived.Test.YtdemcoghgnnheaaGreatDoorTie
import Derived.Test.YtdemcoghgnnheaaGreatDoorCards
import Derived.Carry
import Derived.JoinedOf
import Derived.SevenTiedAt
namespace Go.Proofs.YtdemcoghgnnheaaGreatDoor
open Go.ChangeShapes Go.WideShapes Go.ChangeAt Go.RowKit

theorem sto_holds : Rows.FnExactStepsOfCardSaid :=
  tied_goes .later [] [.sentinel] true Rows.fnExactStepsOfCard.stood.harness true
    sto_row (fun _ h => by cases h) (by kernel_rfl) (fun _ h => by cases h) fnExactStepsOf_row_tie rfl ⟨rfl, rfl⟩ (by kernel_rfl) rfl
    (fun f fn hf hfn => by
      obtain rfl : f = 9 := Option.some.inj ((show Tryz.prog.funcNamed Rows.fnExactStepsOfRow.func = some 9 by kernel_rfl).symm.trans hf) |>.symm
      obtain rfl : fn = Tryz.f9 := (Option.some.inj (Tryz.func9.symm.trans hfn)).symm
      exact ⟨by kernel_rfl, fun j t ht => by
        rw [Tryz.params9] at ht
        have h3 : t = 28 ∨ t = 9 := by
          rcases j with _ | _ | j
          · simp at ht; exact .inl ht.symm
          · simp at ht; exact .inr ht.symm
          · simp at ht
        rcases h3 with rfl | rfl
        · exact (show Tryz.prog.wantsStandIn 28 = false by kernel_rfl)
        · exact (show Tryz.prog.wantsStandIn 9 = false by kernel_rfl)⟩)
    (by kernel_rfl)
end Go.Proofs.YtdemcoghgnnheaaGreatDoor

