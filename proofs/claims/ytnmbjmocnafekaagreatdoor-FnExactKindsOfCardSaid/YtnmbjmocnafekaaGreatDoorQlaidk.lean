/-
  What the package's error of reading texts reads as when the call begins; a world in which it reads so.
-/
import Derived.Test.YtnmbjmocnafekaaGreatDoorE24
import Derived.Test.YtnmbjmocnafekaaGreatDoorE27
import Derived.Test.YtnmbjmocnafekaaGreatDoorRows
import Derived.ProofKit
import Derived.Stop.LaidErr
import Derived.LaidHandle
import Derived.MakeChecks
import Derived.WalkSmall
namespace Go.Proofs.YtnmbjmocnafekaaGreatDoor
open Go.ChangeShapes Go.WideShapes Go.ChangeAt Go.RowKit
open Go.Extern.Stop Go.Stop Go.Extern

abbrev textS : ByteArray := { data := #[116, 101, 120, 116, 32, 100, 111, 101, 115, 32, 110, 111, 116, 32, 102, 105, 116] }
noncomputable def low : Nat := (World.holding Tryz.prog default ⟨#[], #[], []⟩).heap.size
noncomputable def laidWorld (os : Os) : World :=
  let w0 := World.holding Tryz.prog os ⟨#[.cells #[.string textS] 363], #[], []⟩
  { w0 with heap := w0.heap.modify 4 fun
      | .cells _ t frozen => .cells #[.iface 314 (.pointer (some ⟨low, 0, none⟩))] t frozen
      | o => o }
theorem laid_met (os : Os) (args : Array Value) : laidMet Tryz.prog Rows.fnExactKindsOfRow.laid ((laidWorld os).forCall (fun _ _ => 0) ⟨#[], args, []⟩).memory :=
  laidMet_of_run (ps := [.cell 4 0, .cell low 0]) 8 (by kernel_rfl) (by kernel_rfl) (by kernel_rfl)
theorem laid_metH (os : Os) (args : Array Value) : laidMetH Tryz.prog Rows.fnExactKindsOfRow.laid ((laidWorld os).forCall (fun _ _ => 0) ⟨#[], args, []⟩).memory := laid_met os args

theorem star : "*" ++ "errors.errorString" = "*errors.errorString" := by decide
theorem rowE (u : TypeId) (h : Tryz.prog.typeName? 3 u = some "*errors.errorString") : u = 314 :=
  typeName_ptr_named (nm := "errors.errorString") (by rw [star]; kernel_rfl) (by kernel_rfl) (by decide) u (by rw [star]; exact h)
theorem cellsE : Tryz.prog.cellsOf 363 = 1 := by kernel_rfl
theorem cellsS : Tryz.prog.cellsOf 9 = 1 := by kernel_rfl
theorem var_below {W W' : World} (hb : Below W.heap.size W W') {n : String} {g : Nat} {cs : Array Value} (hg : Tryz.prog.globalNamed n = some g) (hl : g < W.heap.size) (h : W.var? Tryz.prog n = some cs) : W'.var? Tryz.prog n = some cs := by
  unfold World.var? at h ⊢
  simp only [hg, Option.bind_some] at h ⊢
  rw [hb.block g hl]
  exact h

/-- What the condition gives a walk, and how the variable reads behind it. -/
theorem errs_of_laid {H : Type} (enc : TypeId × Value → H) {W : World} (h : laidMetH Tryz.prog Rows.fnExactKindsOfRow.laid W) :
    ∃ (n : Nat) (a : Addr), n ≤ W.heap.size ∧ Ev W n a ∧ ∀ W' : World, Below W.heap.size W W' → ∀ sp : Nat → Bool,
      DataW.TrodVars enc Tryz.prog W' sp Rows.fnExactKindsOfSpec.vars [tok enc (.iface 314 (.pointer (some a)))] [.cell 4 0] := by
  have hL : laidMet Tryz.prog Rows.fnExactKindsOfRow.laid W := h
  obtain ⟨a0, s0, hv0, hc0, hs0, hz0⟩ := laid_sentinel (ti := 65) (g := 4) hL (by kernel_rfl) (by kernel_rfl) Tryz.underlying65 rowE Tryz.underlying314 Tryz.underlying363 rfl rfl Tryz.underlying9 cellsE cellsS
  have k0 : W.cell? ⟨4, 0, none⟩ = some (.iface 314 (.pointer (some a0))) := by simpa using World.var?_cell (g := 4) (by kernel_rfl) hv0 0
  have l0 := World.block_lt_of_cell? _ _ k0
  simp only at l0
  refine ⟨W.heap.size, a0, Nat.le_refl _, ⟨l0, k0⟩, fun W' hb sp => ?_⟩
  exact vars_read1 enc (by kernel_rfl) (by kernel_rfl) Tryz.underlying65 (var_below hb (g := 4) (by kernel_rfl) l0 hv0) trivial sp
end Go.Proofs.YtnmbjmocnafekaaGreatDoor

