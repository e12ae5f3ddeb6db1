/-
  A world in which the library's tables that the rows list read as listed; what the condition says of the table of powers of ten.
-/
import Derived.Test.YtajannebpejpkaaDoorRows
import Derived.Test.YtajannebpejpkaaDoorZdi
import Derived.Test.YtajannebpejpkaaDoorLift
import Derived.ProofKit
import Derived.Stop.LaidErr
import Derived.LaidHandle
import Derived.MakeChecks
import Derived.WalkSmall
namespace Go.Proofs.YtajannebpejpkaaDoor
open Go.ChangeShapes Go.WideShapes Go.ChangeAt Go.RowKit Go.Stop

/-- The cells of a table of numbers. -/
def litCells : DataW Unit → List Value
  | .agg l => l.filterMap fun
    | .lit (.int k z) => some (Value.int k z)
    | _ => none
  | _ => []
def setCells (cs : List Value) : Obj → Obj
  | .cells _ t frozen => .cells cs.toArray t frozen
  | o => o
noncomputable def laidWorld3 (os : Os) : World :=
  let w0 := World.holding Tryd.prog os ⟨#[], #[], []⟩
  { w0 with heap := ((w0.heap.modify 2 (setCells (litCells Rows.laid_math_bits_deBruijn32tab))).modify 3 (setCells (litCells Rows.laid_math_bits_deBruijn64tab))).modify 0 (setCells (litCells Rows.laid_internal_strconv_uint64pow10)) }
theorem laid3_met (os : Os) (args : Array Value) : laidMet Tryd.prog Rows.fnExactFormatNumbersRow.laid ((laidWorld3 os).forCall (fun _ _ => 0) ⟨#[], args, []⟩).memory :=
  laidMet_of_run' 8 (by kernel_rfl) (by kernel_rfl)
theorem laid3_metH (os : Os) (args : Array Value) : laidMetH Tryd.prog Rows.fnExactFormatNumbersRow.laid ((laidWorld3 os).forCall (fun _ _ => 0) ⟨#[], args, []⟩).memory := laid3_met os args
theorem tab_laid {W : World} (h : laidMetH Tryd.prog Rows.fnExactFormatNumbersRow.laid W) : Tab W.heap.size W := by
  have h0 : laidMet Tryd.prog Rows.fnExactFormatNumbersRow.laid W := h
  have h2 : laidMet Tryd.prog [("internal/strconv.uint64pow10", Lib.tabData .u64 Lib.pow10Tab)] W := laidMet.tail (laidMet.tail h0)
  exact tab_of (Lib.tabIs_of_head (g := 0) (t := 78) (e := 68) (by kernel_rfl) (by kernel_rfl) Tryd.underlying78 Tryd.underlying68 (by kernel_rfl) (by kernel_rfl) h2)
end Go.Proofs.YtajannebpejpkaaDoor
