/-
  A world in which the library's tables that the rows list read as listed.
-/
import Derived.Test.YthldlbbkbbgdkaaDoorRows
import Derived.Test.YthldlbbkbbgdkaaDoorLift
import Derived.ProofKit
import Derived.LaidHandle
import Derived.MakeChecks
import Derived.WalkSmall
import Derived.LaidSub
import Derived.Test.YthldlbbkbbgdkaaDoorWri
namespace Go.Proofs.YthldlbbkbbgdkaaDoor
open Go.ChangeShapes Go.WideShapes Go.ChangeAt Go.RowKit

/-- The cells of a table of numbers. -/
def litCells : DataW Unit → List Value
  | .agg l => l.filterMap fun
    | .lit (.int k z) => some (Value.int k z)
    | _ => none
  | _ => []
def setCells (cs : List Value) : Obj → Obj
  | .cells _ t frozen => .cells cs.toArray t frozen
  | o => o
noncomputable def laidWorldW (os : Os) : World :=
  let w0 := World.holding Tryd.prog os ⟨#[], #[], []⟩
  { w0 with heap := ((w0.heap.modify 2 (setCells (litCells Rows.laid_math_bits_deBruijn32tab))).modify 3 (setCells (litCells Rows.laid_math_bits_deBruijn64tab))).modify 1 (setCells (litCells Rows.laid_internal_strconv_uint64pow10)) }
theorem laidW_met (os : Os) (args : Array Value) : laidMet Tryd.prog Rows.fnExactWrapMadeRow.laid ((laidWorldW os).forCall (fun _ _ => 0) ⟨#[], args, []⟩).memory :=
  laidMet_of_run' 8 (by kernel_rfl) (by kernel_rfl)
theorem laidW_metH (os : Os) (args : Array Value) : laidMetH Tryd.prog Rows.fnExactWrapMadeRow.laid ((laidWorldW os).forCall (fun _ _ => 0) ⟨#[], args, []⟩).memory := laidW_met os args
theorem tabData_same : (Rows.laid_internal_strconv_uint64pow10 : DataW Unit) = Lib.tabData .u64 Lib.pow10Tab := by kernel_rfl
/-- What the condition gives a walk. -/
theorem tab_of_laid {W : World} (h : laidMetH Tryd.prog Rows.fnExactWrapMadeRow.laid W) : ∃ n, n ≤ W.heap.size ∧ Tab W n := by
  have hL : laidMet Tryd.prog Rows.fnExactWrapMadeRow.laid W := h
  have h1 := hL.filter fun x => decide (x.1 = "internal/strconv.uint64pow10")
  have e : (Rows.fnExactWrapMadeRow.laid.filter fun x => decide (x.1 = "internal/strconv.uint64pow10")) = [("internal/strconv.uint64pow10", Rows.laid_internal_strconv_uint64pow10)] := by rfl
  rw [e, tabData_same] at h1
  have ht := Lib.tabIs_of_head (P := Tryd.prog) (g := 1) (t := 151) (e := 144) (n := 20) (by kernel_rfl) (by kernel_rfl) Tryd.underlying151 Tryd.underlying144 (by kernel_rfl) (by kernel_rfl) h1
  have hl := World.block_lt_of_cell? _ _ (Lib.TabIs.cell ht (g := 1) (by kernel_rfl) 0 (by decide))
  simp only at hl
  exact ⟨W.heap.size, Nat.le_refl _, hl, ht⟩
end Go.Proofs.YthldlbbkbbgdkaaDoor
