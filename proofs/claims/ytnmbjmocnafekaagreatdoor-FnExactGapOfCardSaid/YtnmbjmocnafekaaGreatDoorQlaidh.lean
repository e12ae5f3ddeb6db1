/-
  What the package's three errors and the type of errors read as when the call begins; a world in which they read so.
-/
import Derived.Test.YtnmbjmocnafekaaGreatDoorQlaidg
namespace Go.Proofs.YtnmbjmocnafekaaGreatDoor
open Go.ChangeShapes Go.WideShapes Go.ChangeAt Go.RowKit
open Go.Extern.Stop Go.Stop Go.Extern

noncomputable def laidWorld4 (os : Os) : World :=
  let w0 := laidWorld3 os
  { w0 with heap := w0.heap.modify 1 fun
      | .cells _ t frozen => .cells #[.iface 210 (.agg #[.pointer (some ⟨11, 65, none⟩)])] t frozen
      | o => o }
theorem laid4_metH (os : Os) (args : Array Value) : laidMetH Tryz.prog Rows.fnExactGapOfRow.laid ((laidWorld4 os).forCall (fun _ _ => 0) ⟨#[], args, []⟩).memory :=
  laidMetH_of_parts (laidMet_of_run (ps := [.cell 0 0, .cell low6 0, .cell 3 0, .cell (low6 + 1) 0, .cell 2 0, .cell (low6 + 2) 0]) 8 (by kernel_rfl) (by kernel_rfl) (by kernel_rfl)) (by kernel_rfl)

theorem errT_named : Tryz.prog.globalNamed "errors.errorType" = some 1 := by kernel_rfl
theorem rtype_cut : (Tryz.prog.cutTypes.find? (·.1 == "internal/reflectlite.rtype")).map (·.2) = some 210 := by kernel_rfl
theorem error_row : ((List.range Tryz.prog.types.size).filter fun t => Tryz.prog.rowNamed t [101, 114, 114, 111, 114]) = [65] := by kernel_rfl
theorem error_handle : typeHandle Tryz.prog 65 = .pointer (some ⟨11, 65, none⟩) := by kernel_rfl
theorem errs4_parts {W : World} (h : laidMetH Tryz.prog Rows.fnExactGapOfRow.laid W) : laidMetH Tryz.prog Rows.fnExactIsRegularRow.laid W ∧ W.cell? ⟨1, 0, none⟩ = some (.iface 210 (.agg #[.pointer (some ⟨11, 65, none⟩)])) := by
  obtain ⟨hL, hH⟩ : laidMet Tryz.prog Rows.fnExactIsRegularRow.laid W ∧ handlesMet Tryz.prog [("errors.errorType", Rows.laid_errors_errorType)] W := h
  refine ⟨hL, ?_⟩
  obtain ⟨name, u, ty, e1, e2, e3, e4, e5⟩ := hH _ (List.mem_singleton.2 rfl)
  have en : name = [101, 114, 114, 111, 114] := (Option.some.inj e1).symm
  subst en
  obtain rfl := Option.some.inj (rtype_cut.symm.trans e2)
  have hm : ty ∈ (List.range Tryz.prog.types.size).filter fun t => Tryz.prog.rowNamed t [101, 114, 114, 111, 114] := List.mem_filter.2 ⟨List.mem_range.2 e3, e4⟩
  rw [error_row] at hm
  obtain rfl := List.mem_singleton.1 hm
  rw [error_handle] at e5
  simpa using World.var?_cell errT_named e5 0
end Go.Proofs.YtnmbjmocnafekaaGreatDoor

