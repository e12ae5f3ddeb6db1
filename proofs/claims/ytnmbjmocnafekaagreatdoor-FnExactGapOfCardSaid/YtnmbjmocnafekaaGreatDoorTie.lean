/-
  DERIVED. GIVEN WITH THE SEED: THE PROGRAM's TIES (one call each: nine closed facts by the kernel) AND EACH ROW's TIE, after the 31st guide's Derived/Test/Toyas{Tie, Card}.lean. No idea stands in it: it is a product of the set-up. Laid BY PROGRAM, IN A SANDBOX (cutbox-door.mjs). By AI agents, Wed Nov 11 2026. No macro, syntax, notation, axiom, sorry.
-/
import Derived.Test.YtnmbjmocnafekaaGreatDoorRows
import Derived.LaidByTextLater
import Derived.SevenTiedAt
import Derived.LaidSub
import Derived.LaidOnce
namespace Go.Proofs.YtnmbjmocnafekaaGreatDoor
open Go
set_option maxRecDepth 100000
theorem seatTie1 : Tryz.prog.laidByTextLater [("errors.errorType", Rows.laid_errors_errorType), ("loop.example/overloads/impl.errInvalid", Rows.laid_loop_example_overloads_impl_errInvalid), ("loop.example/overloads/impl.errText", Rows.laid_loop_example_overloads_impl_errText), ("loop.example/overloads/impl.errNone", Rows.laid_loop_example_overloads_impl_errNone), ("loop.example/overloads/impl.errMany", Rows.laid_loop_example_overloads_impl_errMany)] [.handle, .sentinel, .sentinel, .sentinel, .sentinel] true :=
  Program.laidByTextLater_by_one 117 8 65 (by kernel_rfl) (by kernel_rfl) (by kernel_rfl) (by kernel_rfl) (by kernel_rfl) (by kernel_rfl) (fun _ _ => by kernel_rfl)
theorem noOwnUnsafe : Tryz.pinned.checked.prog.headLifts.contains "ownunsafe" = false := by kernel_rfl
theorem tie : Tryz.prog.laidByTextLater [("loop.example/overloads/impl.errInvalid", Rows.laid_loop_example_overloads_impl_errInvalid), ("loop.example/overloads/impl.errNone", Rows.laid_loop_example_overloads_impl_errNone), ("loop.example/overloads/impl.errMany", Rows.laid_loop_example_overloads_impl_errMany)] [.sentinel, .sentinel, .sentinel] true :=
  Program.laidByTextLater.sub seatTie1 ["loop.example/overloads/impl.errInvalid", "loop.example/overloads/impl.errNone", "loop.example/overloads/impl.errMany"] (by kernel_rfl) (by kernel_rfl)
theorem fnExactIsRegular_row_tie : Rows.fnExactIsRegularRow.laidByTextAt .later Tryz.pinned [.sentinel, .sentinel, .sentinel] true :=
  OpenClaim.laidByTextAt_later rfl rfl tie noOwnUnsafe
theorem tie2 : Tryz.prog.laidByTextLater [("errors.errorType", Rows.laid_errors_errorType), ("loop.example/overloads/impl.errInvalid", Rows.laid_loop_example_overloads_impl_errInvalid), ("loop.example/overloads/impl.errNone", Rows.laid_loop_example_overloads_impl_errNone), ("loop.example/overloads/impl.errMany", Rows.laid_loop_example_overloads_impl_errMany)] [.handle, .sentinel, .sentinel, .sentinel] true :=
  Program.laidByTextLater.sub seatTie1 ["errors.errorType", "loop.example/overloads/impl.errInvalid", "loop.example/overloads/impl.errNone", "loop.example/overloads/impl.errMany"] (by kernel_rfl) (by kernel_rfl)
theorem fnExactGapOf_row_tie : Rows.fnExactGapOfRow.laidByTextAt .later Tryz.pinned [.handle, .sentinel, .sentinel, .sentinel] true :=
  OpenClaim.laidByTextAt_later rfl rfl tie2 noOwnUnsafe
theorem tie3 : Tryz.prog.laidByTextLater [("loop.example/overloads/impl.errText", Rows.laid_loop_example_overloads_impl_errText)] [.sentinel] true :=
  Program.laidByTextLater.sub seatTie1 ["loop.example/overloads/impl.errText"] (by kernel_rfl) (by kernel_rfl)
theorem fnExactAllMade_row_tie : Rows.fnExactAllMadeRow.laidByTextAt .later Tryz.pinned [.sentinel] true :=
  OpenClaim.laidByTextAt_later rfl rfl tie3 noOwnUnsafe
theorem fnExactKindsOf_row_tie : Rows.fnExactKindsOfRow.laidByTextAt .later Tryz.pinned [.sentinel] true :=
  OpenClaim.laidByTextAt_later rfl rfl tie3 noOwnUnsafe
theorem fnExactLeastKind_row_tie : Rows.fnExactLeastKindRow.laidByTextAt .later Tryz.pinned [.sentinel] true :=
  OpenClaim.laidByTextAt_later rfl rfl tie3 noOwnUnsafe
theorem fnExactCheapestMade_row_tie : Rows.fnExactCheapestMadeRow.laidByTextAt .later Tryz.pinned [.sentinel] true :=
  OpenClaim.laidByTextAt_later rfl rfl tie3 noOwnUnsafe
theorem fnExactIsRegularUpto_row_tie : Rows.fnExactIsRegularUptoRow.laidByTextAt .later Tryz.pinned [.sentinel, .sentinel, .sentinel] true :=
  OpenClaim.laidByTextAt_later rfl rfl tie noOwnUnsafe
theorem fnExactGapOfUpto_row_tie : Rows.fnExactGapOfUptoRow.laidByTextAt .later Tryz.pinned [.handle, .sentinel, .sentinel, .sentinel] true :=
  OpenClaim.laidByTextAt_later rfl rfl tie2 noOwnUnsafe
theorem fnExactAllMadeUpto_row_tie : Rows.fnExactAllMadeUptoRow.laidByTextAt .later Tryz.pinned [.sentinel] true :=
  OpenClaim.laidByTextAt_later rfl rfl tie3 noOwnUnsafe
theorem fnExactKindsOfUpto_row_tie : Rows.fnExactKindsOfUptoRow.laidByTextAt .later Tryz.pinned [.sentinel] true :=
  OpenClaim.laidByTextAt_later rfl rfl tie3 noOwnUnsafe
theorem fnExactLeastKindUpto_row_tie : Rows.fnExactLeastKindUptoRow.laidByTextAt .later Tryz.pinned [.sentinel] true :=
  OpenClaim.laidByTextAt_later rfl rfl tie3 noOwnUnsafe
theorem fnExactCheapestMadeUpto_row_tie : Rows.fnExactCheapestMadeUptoRow.laidByTextAt .later Tryz.pinned [.sentinel] true :=
  OpenClaim.laidByTextAt_later rfl rfl tie3 noOwnUnsafe
end Go.Proofs.YtnmbjmocnafekaaGreatDoor
