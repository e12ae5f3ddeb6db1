/-
  A world in which the five tables of the library read as the rows list them.
-/
import Derived.Test.YtfcekbjoagogdaaDoorLaidt
namespace Go.Proofs.YtfcekbjoagogdaaDoor
open Go.ChangeShapes Go.WideShapes Go.ChangeAt Go.RowKit

def litCells2 : DataW Unit → List Value
  | .agg l => l.flatMap litCells
  | _ => []
noncomputable def laidWorld5 (os : Os) : World :=
  let w0 := World.holding Tryd.prog os ⟨#[], #[], []⟩
  { w0 with heap := ((((w0.heap.modify 5 (setCells (litCells Rows.laid_math_bits_deBruijn32tab))).modify 6 (setCells (litCells Rows.laid_math_bits_deBruijn64tab))).modify 1 (setCells (litCells Rows.laid_internal_strconv_uint64pow10))).modify 4 (setCells (litCells2 Rows.laid_unicode_utf8_acceptRanges))).modify 3 (setCells (litCells Rows.laid_unicode_utf8_first)) }
theorem laid5_met (os : Os) (args : Array Value) : laidMet Tryd.prog Rows.fnExactSignatureOfRow.laid ((laidWorld5 os).forCall (fun _ _ => 0) ⟨#[], args, []⟩).memory :=
  laidMet_of_run' 8 (by kernel_rfl) (by kernel_rfl)
theorem laid5_metH (os : Os) (args : Array Value) : laidMetH Tryd.prog Rows.fnExactSignatureOfRow.laid ((laidWorld5 os).forCall (fun _ _ => 0) ⟨#[], args, []⟩).memory := laid5_met os args
end Go.Proofs.YtfcekbjoagogdaaDoor
