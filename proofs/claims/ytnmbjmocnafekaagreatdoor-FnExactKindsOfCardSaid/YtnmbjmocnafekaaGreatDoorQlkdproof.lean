/-
  Proved here: FnExactKindsOf returns true for all arguments, each argument reads afterwards as it read before, and so does the package's error of reading texts, which is tied to the program's text.
  Conditions: those of the given card alone.
-/
import Derived.Test.YtnmbjmocnafekaaGreatDoorQlkdr
import Derived.Test.YtnmbjmocnafekaaGreatDoorTie
import Derived.Test.YtnmbjmocnafekaaGreatDoorCards
import Derived.Carry
import Derived.JoinedOf
import Derived.SevenTiedAt
namespace Go.Proofs.YtnmbjmocnafekaaGreatDoor
open Go.ChangeShapes Go.WideShapes Go.ChangeAt Go.RowKit

theorem lkd_holds : Rows.FnExactKindsOfCardSaid :=
  Claim7.holds_tied_plain_at .later [] [.sentinel] true Rows.fnExactKindsOfCard.stood.harness true
    lkd_row (fun _ h => by cases h) (by kernel_rfl) (fun _ h => by cases h) fnExactKindsOf_row_tie rfl ⟨rfl, rfl⟩ (by kernel_rfl) rfl
    (fun f fn hf hfn => by
      obtain rfl : f = 6 := Option.some.inj ((show Tryz.prog.funcNamed Rows.fnExactKindsOfRow.func = some 6 by kernel_rfl).symm.trans hf) |>.symm
      obtain rfl : fn = Tryz.f6 := (Option.some.inj (Tryz.func6.symm.trans hfn)).symm
      exact ⟨by kernel_rfl, fun j t ht => by
        rw [Tryz.params6] at ht
        have h3 : t = 28 ∨ t = 9 := by
          rcases j with _ | _ | j
          · simp at ht; exact .inl ht.symm
          · simp at ht; exact .inr ht.symm
          · simp at ht
        rcases h3 with rfl | rfl
        · exact (show Tryz.prog.wantsStandIn 28 = false by kernel_rfl)
        · exact (show Tryz.prog.wantsStandIn 9 = false by kernel_rfl)⟩)
    (by kernel_rfl)
end Go.Proofs.YtnmbjmocnafekaaGreatDoor

