/-
  DERIVED. GIVEN WITH THE SEED: THE PROGRAM's TIES (one call each: nine closed facts by the kernel) AND EACH ROW's TIE, after the 31st guide's Derived/Test/Toyas{Tie, Card}.lean. No idea stands in it: it is a product of the set-up. Laid BY PROGRAM, IN A SANDBOX (cutbox-door.mjs). By AI agents, Wed Nov 11 2026. No macro, syntax, notation, axiom, sorry.
-/
import Derived.Test.YthldlbbkbbgdkaaGreatDoorRows
import Derived.LaidByTextLater
import Derived.SevenTiedAt
import Derived.LaidSub
import Derived.LaidOnce
namespace Go.Proofs.YthldlbbkbbgdkaaGreatDoor
open Go
set_option maxRecDepth 100000
theorem seatTie1 : Tryz.prog.laidByTextLater [("math/bits.deBruijn32tab", Rows.laid_math_bits_deBruijn32tab), ("math/bits.deBruijn64tab", Rows.laid_math_bits_deBruijn64tab), ("internal/strconv.uint64pow10", Rows.laid_internal_strconv_uint64pow10), ("loop.example/overloads/impl.errText", Rows.laid_loop_example_overloads_impl_errText), ("loop.example/overloads/impl.errNone", Rows.laid_loop_example_overloads_impl_errNone), ("loop.example/overloads/impl.errMany", Rows.laid_loop_example_overloads_impl_errMany), ("loop.example/overloads/impl.errUnknown", Rows.laid_loop_example_overloads_impl_errUnknown), ("loop.example/overloads/impl.errNoWay", Rows.laid_loop_example_overloads_impl_errNoWay), ("loop.example/overloads/impl.errLong", Rows.laid_loop_example_overloads_impl_errLong)] [.data, .data, .data, .sentinel, .sentinel, .sentinel, .sentinel, .sentinel, .sentinel] true :=
  Program.laidByTextLater_by_one 148 8 65 (by kernel_rfl) (by kernel_rfl) (by kernel_rfl) (by kernel_rfl) (by kernel_rfl) (by kernel_rfl) (fun _ _ => by kernel_rfl)
theorem noOwnUnsafe : Tryz.pinned.checked.prog.headLifts.contains "ownunsafe" = false := by kernel_rfl
theorem tie : Tryz.prog.laidByTextLater [("loop.example/overloads/impl.errText", Rows.laid_loop_example_overloads_impl_errText)] [.sentinel] true :=
  Program.laidByTextLater.sub seatTie1 ["loop.example/overloads/impl.errText"] (by kernel_rfl) (by kernel_rfl)
theorem fnExactEraseMade_row_tie : Rows.fnExactEraseMadeRow.laidByTextAt .later Tryz.pinned [.sentinel] true :=
  OpenClaim.laidByTextAt_later rfl rfl tie noOwnUnsafe
theorem fnMade_row_tie : Rows.fnMadeRow.laidByTextAt .later Tryz.pinned [.sentinel] true :=
  OpenClaim.laidByTextAt_later rfl rfl tie noOwnUnsafe
theorem tie2 : Tryz.prog.laidByTextLater [("loop.example/overloads/impl.errText", Rows.laid_loop_example_overloads_impl_errText), ("loop.example/overloads/impl.errNone", Rows.laid_loop_example_overloads_impl_errNone), ("loop.example/overloads/impl.errMany", Rows.laid_loop_example_overloads_impl_errMany), ("loop.example/overloads/impl.errUnknown", Rows.laid_loop_example_overloads_impl_errUnknown), ("loop.example/overloads/impl.errNoWay", Rows.laid_loop_example_overloads_impl_errNoWay), ("loop.example/overloads/impl.errLong", Rows.laid_loop_example_overloads_impl_errLong)] [.sentinel, .sentinel, .sentinel, .sentinel, .sentinel, .sentinel] true :=
  Program.laidByTextLater.sub seatTie1 ["loop.example/overloads/impl.errText", "loop.example/overloads/impl.errNone", "loop.example/overloads/impl.errMany", "loop.example/overloads/impl.errUnknown", "loop.example/overloads/impl.errNoWay", "loop.example/overloads/impl.errLong"] (by kernel_rfl) (by kernel_rfl)
theorem fnExactElaborate_row_tie : Rows.fnExactElaborateRow.laidByTextAt .later Tryz.pinned [.sentinel, .sentinel, .sentinel, .sentinel, .sentinel, .sentinel] true :=
  OpenClaim.laidByTextAt_later rfl rfl tie2 noOwnUnsafe
theorem fnExactTypeOf_row_tie : Rows.fnExactTypeOfRow.laidByTextAt .later Tryz.pinned [.sentinel, .sentinel, .sentinel, .sentinel, .sentinel, .sentinel] true :=
  OpenClaim.laidByTextAt_later rfl rfl tie2 noOwnUnsafe
theorem fnExactElaborateAt_row_tie : Rows.fnExactElaborateAtRow.laidByTextAt .later Tryz.pinned [.sentinel, .sentinel, .sentinel, .sentinel, .sentinel, .sentinel] true :=
  OpenClaim.laidByTextAt_later rfl rfl tie2 noOwnUnsafe
theorem fnElaborate_row_tie : Rows.fnElaborateRow.laidByTextAt .later Tryz.pinned [.sentinel, .sentinel, .sentinel, .sentinel, .sentinel, .sentinel] true :=
  OpenClaim.laidByTextAt_later rfl rfl tie2 noOwnUnsafe
theorem tie3 : Tryz.prog.laidByTextLater [("math/bits.deBruijn32tab", Rows.laid_math_bits_deBruijn32tab), ("math/bits.deBruijn64tab", Rows.laid_math_bits_deBruijn64tab), ("internal/strconv.uint64pow10", Rows.laid_internal_strconv_uint64pow10), ("loop.example/overloads/impl.errText", Rows.laid_loop_example_overloads_impl_errText), ("loop.example/overloads/impl.errNone", Rows.laid_loop_example_overloads_impl_errNone), ("loop.example/overloads/impl.errMany", Rows.laid_loop_example_overloads_impl_errMany), ("loop.example/overloads/impl.errUnknown", Rows.laid_loop_example_overloads_impl_errUnknown), ("loop.example/overloads/impl.errNoWay", Rows.laid_loop_example_overloads_impl_errNoWay), ("loop.example/overloads/impl.errLong", Rows.laid_loop_example_overloads_impl_errLong)] [.data, .data, .data, .sentinel, .sentinel, .sentinel, .sentinel, .sentinel, .sentinel] true :=
  Program.laidByTextLater.sub seatTie1 ["math/bits.deBruijn32tab", "math/bits.deBruijn64tab", "internal/strconv.uint64pow10", "loop.example/overloads/impl.errText", "loop.example/overloads/impl.errNone", "loop.example/overloads/impl.errMany", "loop.example/overloads/impl.errUnknown", "loop.example/overloads/impl.errNoWay", "loop.example/overloads/impl.errLong"] (by kernel_rfl) (by kernel_rfl)
theorem fnElaborateParts_row_tie : Rows.fnElaboratePartsRow.laidByTextAt .later Tryz.pinned [.data, .data, .data, .sentinel, .sentinel, .sentinel, .sentinel, .sentinel, .sentinel] true :=
  OpenClaim.laidByTextAt_later rfl rfl tie3 noOwnUnsafe
theorem fnElaborateAt_row_tie : Rows.fnElaborateAtRow.laidByTextAt .later Tryz.pinned [.data, .data, .data, .sentinel, .sentinel, .sentinel, .sentinel, .sentinel, .sentinel] true :=
  OpenClaim.laidByTextAt_later rfl rfl tie3 noOwnUnsafe
theorem tie4 : Tryz.prog.laidByTextLater [("math/bits.deBruijn32tab", Rows.laid_math_bits_deBruijn32tab), ("math/bits.deBruijn64tab", Rows.laid_math_bits_deBruijn64tab), ("internal/strconv.uint64pow10", Rows.laid_internal_strconv_uint64pow10), ("loop.example/overloads/impl.errText", Rows.laid_loop_example_overloads_impl_errText)] [.data, .data, .data, .sentinel] true :=
  Program.laidByTextLater.sub seatTie1 ["math/bits.deBruijn32tab", "math/bits.deBruijn64tab", "internal/strconv.uint64pow10", "loop.example/overloads/impl.errText"] (by kernel_rfl) (by kernel_rfl)
theorem fnWrap_row_tie : Rows.fnWrapRow.laidByTextAt .later Tryz.pinned [.data, .data, .data, .sentinel] true :=
  OpenClaim.laidByTextAt_later rfl rfl tie4 noOwnUnsafe
theorem fnExactEraseMadeUpto_row_tie : Rows.fnExactEraseMadeUptoRow.laidByTextAt .later Tryz.pinned [.sentinel] true :=
  OpenClaim.laidByTextAt_later rfl rfl tie noOwnUnsafe
theorem fnExactElaborateUpto_row_tie : Rows.fnExactElaborateUptoRow.laidByTextAt .later Tryz.pinned [.sentinel, .sentinel, .sentinel, .sentinel, .sentinel, .sentinel] true :=
  OpenClaim.laidByTextAt_later rfl rfl tie2 noOwnUnsafe
theorem fnExactTypeOfUpto_row_tie : Rows.fnExactTypeOfUptoRow.laidByTextAt .later Tryz.pinned [.sentinel, .sentinel, .sentinel, .sentinel, .sentinel, .sentinel] true :=
  OpenClaim.laidByTextAt_later rfl rfl tie2 noOwnUnsafe
theorem fnExactElaborateAtUpto_row_tie : Rows.fnExactElaborateAtUptoRow.laidByTextAt .later Tryz.pinned [.sentinel, .sentinel, .sentinel, .sentinel, .sentinel, .sentinel] true :=
  OpenClaim.laidByTextAt_later rfl rfl tie2 noOwnUnsafe
theorem fnElaborateUpto_row_tie : Rows.fnElaborateUptoRow.laidByTextAt .later Tryz.pinned [.sentinel, .sentinel, .sentinel, .sentinel, .sentinel, .sentinel] true :=
  OpenClaim.laidByTextAt_later rfl rfl tie2 noOwnUnsafe
theorem fnElaboratePartsUpto_row_tie : Rows.fnElaboratePartsUptoRow.laidByTextAt .later Tryz.pinned [.data, .data, .data, .sentinel, .sentinel, .sentinel, .sentinel, .sentinel, .sentinel] true :=
  OpenClaim.laidByTextAt_later rfl rfl tie3 noOwnUnsafe
theorem fnElaborateAtUpto_row_tie : Rows.fnElaborateAtUptoRow.laidByTextAt .later Tryz.pinned [.data, .data, .data, .sentinel, .sentinel, .sentinel, .sentinel, .sentinel, .sentinel] true :=
  OpenClaim.laidByTextAt_later rfl rfl tie3 noOwnUnsafe
theorem fnMadeUpto_row_tie : Rows.fnMadeUptoRow.laidByTextAt .later Tryz.pinned [.sentinel] true :=
  OpenClaim.laidByTextAt_later rfl rfl tie noOwnUnsafe
theorem fnWrapUpto_row_tie : Rows.fnWrapUptoRow.laidByTextAt .later Tryz.pinned [.data, .data, .data, .sentinel] true :=
  OpenClaim.laidByTextAt_later rfl rfl tie4 noOwnUnsafe
end Go.Proofs.YthldlbbkbbgdkaaGreatDoor
