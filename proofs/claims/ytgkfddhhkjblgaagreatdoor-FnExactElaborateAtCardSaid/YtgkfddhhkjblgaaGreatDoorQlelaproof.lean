/-
  Proved here: FnExactElaborateAt returns true for all arguments, each argument reads afterwards as it read before, and so do the package's six errors, which are tied to the program's text.
  Conditions: those of the given card alone.
-/
import Derived.Test.YtgkfddhhkjblgaaGreatDoorQlelar
import Derived.Test.YtgkfddhhkjblgaaGreatDoorTie
import Derived.Test.YtgkfddhhkjblgaaGreatDoorCards
import Derived.Carry
import Derived.JoinedOf
import Derived.SevenTiedAt
namespace Go.Proofs.YtgkfddhhkjblgaaGreatDoor
open Go.ChangeShapes Go.WideShapes Go.ChangeAt Go.RowKit

theorem ela_holds : Rows.FnExactElaborateAtCardSaid :=
  Claim7.holds_tied_plain_at .later [] [.sentinel, .sentinel, .sentinel, .sentinel, .sentinel, .sentinel] true Rows.fnExactElaborateAtCard.stood.harness true
    ela_row (fun _ h => by cases h) (by kernel_rfl) (fun _ h => by cases h) fnExactElaborateAt_row_tie rfl ⟨rfl, rfl⟩ (by kernel_rfl) rfl
    (fun f fn hf hfn => by
      obtain rfl : f = 5 := Option.some.inj ((show Tryz.prog.funcNamed Rows.fnExactElaborateAtRow.func = some 5 by kernel_rfl).symm.trans hf) |>.symm
      obtain rfl : fn = Tryz.f5 := (Option.some.inj (Tryz.func5.symm.trans hfn)).symm
      exact ⟨by kernel_rfl, fun j t ht => by
        rw [Tryz.params5] at ht
        have h3 : t = 28 ∨ t = 9 ∨ t = 3 := by
          rcases j with _ | _ | _ | j
          · simp at ht; exact .inl ht.symm
          · simp at ht; exact .inr (.inl ht.symm)
          · simp at ht; exact .inr (.inr ht.symm)
          · simp at ht
        rcases h3 with rfl | rfl | rfl
        · exact (show Tryz.prog.wantsStandIn 28 = false by kernel_rfl)
        · exact (show Tryz.prog.wantsStandIn 9 = false by kernel_rfl)
        · exact (show Tryz.prog.wantsStandIn 3 = false by kernel_rfl)⟩)
    (by kernel_rfl)
end Go.Proofs.YtgkfddhhkjblgaaGreatDoor

