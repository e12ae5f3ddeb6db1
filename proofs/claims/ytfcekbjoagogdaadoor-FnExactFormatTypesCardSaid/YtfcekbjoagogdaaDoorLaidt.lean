/-
  A world in which the library's tables that the rows list read as listed.
-/
import Derived.Test.YtfcekbjoagogdaaDoorRows
import Derived.Test.YtfcekbjoagogdaaDoorLift
import Derived.ProofKit
import Derived.LaidHandle
import Derived.MakeChecks
import Derived.WalkSmall
namespace Go.Proofs.YtfcekbjoagogdaaDoor
open Go.ChangeShapes Go.WideShapes Go.ChangeAt Go.RowKit

/-- The cells of a table of numbers. -/
def litCells : DataW Unit → List Value
  | .agg l => l.filterMap fun
    | .lit (.int k z) => some (Value.int k z)
    | _ => none
  | _ => []
def setCells (cs : List Value) : Obj → Obj
  | .cells _ t frozen => .cells cs.toArray t frozen
  | o => o
noncomputable def laidWorld3 (os : Os) : World :=
  let w0 := World.holding Tryd.prog os ⟨#[], #[], []⟩
  { w0 with heap := ((w0.heap.modify 5 (setCells (litCells Rows.laid_math_bits_deBruijn32tab))).modify 6 (setCells (litCells Rows.laid_math_bits_deBruijn64tab))).modify 1 (setCells (litCells Rows.laid_internal_strconv_uint64pow10)) }
theorem laid3_met (os : Os) (args : Array Value) : laidMet Tryd.prog Rows.fnExactFormatTypesRow.laid ((laidWorld3 os).forCall (fun _ _ => 0) ⟨#[], args, []⟩).memory :=
  laidMet_of_run' 8 (by kernel_rfl) (by kernel_rfl)
theorem laid3_metH (os : Os) (args : Array Value) : laidMetH Tryd.prog Rows.fnExactFormatTypesRow.laid ((laidWorld3 os).forCall (fun _ _ => 0) ⟨#[], args, []⟩).memory := laid3_met os args
end Go.Proofs.YtfcekbjoagogdaaDoor
