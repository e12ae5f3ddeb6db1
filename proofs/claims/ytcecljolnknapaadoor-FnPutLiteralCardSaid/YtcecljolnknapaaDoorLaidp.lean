/-
  A world in which the library's tables and the package's error of reading texts read as the row of FnExactPutLiteral lists them.
-/
import Derived.Test.YtcecljolnknapaaDoorLaids
namespace Go.Proofs.YtcecljolnknapaaDoor
open Go.ChangeShapes Go.WideShapes Go.ChangeAt Go.RowKit
open Go.Extern.Stop Go.Stop Go.Extern

/-- The cells of a table of numbers. -/
def litCells : DataW Unit → List Value
  | .agg l => l.filterMap fun
    | .lit (.int k z) => some (Value.int k z)
    | _ => none
  | _ => []
def setCells (cs : List Value) : Obj → Obj
  | .cells _ t frozen => .cells cs.toArray t frozen
  | o => o
noncomputable def laidWorld4 (os : Os) : World :=
  { laidWorld os with heap := (((laidWorld os).heap.modify 3 (setCells (litCells Rows.laid_math_bits_deBruijn32tab))).modify 4 (setCells (litCells Rows.laid_math_bits_deBruijn64tab))).modify 2 (setCells (litCells Rows.laid_internal_strconv_uint64pow10)) }
theorem laid4_met (os : Os) (args : Array Value) : laidMet Tryd.prog Rows.fnExactPutLiteralRow.laid ((laidWorld4 os).forCall (fun _ _ => 0) ⟨#[], args, []⟩).memory :=
  laidMet_of_run' 8 (by kernel_rfl) (by kernel_rfl)
theorem laid4_metH (os : Os) (args : Array Value) : laidMetH Tryd.prog Rows.fnExactPutLiteralRow.laid ((laidWorld4 os).forCall (fun _ _ => 0) ⟨#[], args, []⟩).memory := laid4_met os args
end Go.Proofs.YtcecljolnknapaaDoor
