/-
  Proved here: FnExactGapOf returns true for all arguments, each argument reads afterwards as it read before, and so do three of the package's errors, which are tied to the program's text.
  Conditions: those of the given card alone.
-/
import Derived.Test.YtnmbjmocnafekaaGreatDoorQlgor
import Derived.Test.YtnmbjmocnafekaaGreatDoorTie
import Derived.Test.YtnmbjmocnafekaaGreatDoorCards
import Derived.Carry
import Derived.JoinedOf
import Derived.SevenTiedAt
namespace Go.Proofs.YtnmbjmocnafekaaGreatDoor
open Go.ChangeShapes Go.WideShapes Go.ChangeAt Go.RowKit

theorem lgo_holds : Rows.FnExactGapOfCardSaid :=
  Claim7.holds_tied_plain_at .later [] [.handle, .sentinel, .sentinel, .sentinel] true Rows.fnExactGapOfCard.stood.harness true
    lgo_row (fun _ h => by cases h) (by kernel_rfl) (fun _ h => by cases h) fnExactGapOf_row_tie rfl ⟨rfl, rfl⟩ (by kernel_rfl) rfl
    (fun f fn hf hfn => by
      obtain rfl : f = 4 := Option.some.inj ((show Tryz.prog.funcNamed Rows.fnExactGapOfRow.func = some 4 by kernel_rfl).symm.trans hf) |>.symm
      obtain rfl : fn = Tryz.f4 := (Option.some.inj (Tryz.func4.symm.trans hfn)).symm
      exact ⟨by kernel_rfl, fun j t ht => by
        rw [Tryz.params4] at ht
        have h3 : t = 28 := by
          rcases j with _ | j
          · simp at ht; exact ht.symm
          · simp at ht
        subst h3
        exact (show Tryz.prog.wantsStandIn 28 = false by kernel_rfl)⟩)
    (by kernel_rfl)
end Go.Proofs.YtnmbjmocnafekaaGreatDoor

