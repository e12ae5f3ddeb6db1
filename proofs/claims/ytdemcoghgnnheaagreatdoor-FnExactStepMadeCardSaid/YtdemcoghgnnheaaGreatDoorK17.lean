/-
  As in Leavl; the contract is told the shape of the world.
  What the package's error of reading texts reads as where the library's tables are laid too; a world in which they all read as listed.
-/
import Derived.Test.YtdemcoghgnnheaaGreatDoorK15
namespace Go.Proofs.YtdemcoghgnnheaaGreatDoor
open Go Go.Conc Go.ConcM

section
variable {H : Type} {enc : TypeId × Value → H}

theorem leavingTime_of_change_shaped {a : Assume} {C : Checked} {os : Os} {f : FuncId} {fn : Func} {s : ChangeSpec} {F : Stop.Interp} {conds : List PathCond} {apart fresh handsOn : Bool} {X : World → Array Value → Prop}
    (hX : ∀ (w w' : World) (args : Array Value), w.heap = w'.heap → X w args → X w' args)
    (own : ownKnob C.prog.godebug = none) (started : os.Started) (noInit : C.prog.inits.idxOf? f = none) (hfn : C.prog.funcs[f]? = some fn)
    (witness : ∃ (w : World) (tape : Tape) (i : Input), w.os = os ∧ (w.forCall tape i).Shaped C.prog ∧ i.vars = [] ∧ Input.okWide C.prog (w.forCall tape i) .any w.heap.size f i ∧
      ((s.pre enc C.prog fn conds apart (w.forCall tape i).memory i.args ∧ X (w.forCall tape i).memory i.args) ∧ sizedMet enc C.prog fn (OpenSpec.ofChange s) apart (w.forCall tape i).memory i.args) ∧ a.holds C.prog (lone (Frame.enter C.prog f i.args .normal) [] (w.forCall tape i)))
    (contract : ∀ (W : World) (base : Nat) (args : Array Value) (ds gs : List (DataW H)) (before : List MemPlace),
      (∀ (j : Nat) t v, fn.params[j]? = some t → args[j]? = some v → Value.okWide C.prog W .any base t v) →
      DataW.Whole enc C.prog fn.params.toList s.vars apart W args.toList ds gs before →
      conds.all (PathCond.test C.prog ⟨fn.params.toList, ds, s.plain.varTypes C.prog, gs⟩) = true →
      (DataW.weightsEach C.prog (fn.params.toList ++ s.plain.varTypes C.prog) (ds ++ gs)).all (· ≤ reachBytes) = true → X W args →
      a.holds C.prog (lone (Frame.enter C.prog f args .normal) [] W) → W.ShapedOpen C.prog →
      Calls C.prog f args W fun e W' => ∃ v, e = .returned v ∧ s.post enc C.prog fn apart fresh handsOn false W args v W') :
    ReturnsInLeavingWide a C os f .any (fun w args => (s.pre enc C.prog fn conds apart w args ∧ X w args) ∧ sizedMet enc C.prog fn (OpenSpec.ofChange s) apart w args) ((OpenSpec.ofChange s).postWith enc C.prog fn F (outsideKept [.timePasses]) apart fresh handsOn) := fun enter => by
  obtain ⟨w0, t0, i0, a1, a2, a3, a4, a5, a6⟩ := witness
  refine ⟨enter, own, started, ⟨w0, t0, i0, a1, a2, a3, a4, a5, a6, trivial⟩, fun w tape i h => ?_⟩
  obtain ⟨_, _, _, fn', hfn', _, _, _, _, hval⟩ := h.2.2.2.1
  have e : fn' = fn := Option.some.inj (hfn'.symm.trans hfn)
  subst e
  obtain ⟨⟨⟨ds, gs, before, hw, hc⟩, hx⟩, hz⟩ := h.2.2.2.2.1
  have hw' := DataW.Whole.of_heap (w' := w.forCall tape i) (by rfl) hw
  have hcall : Calls C.prog f i.args (w.forCall tape i) fun
      | .returned v, w' => (OpenSpec.ofChange s).postWith enc C.prog fn' F (outsideKept [.timePasses]) apart fresh handsOn (w.forCall tape i).blind i.args v w'.blind
      | _, _ => False := by
    refine (contract (w.forCall tape i) w.heap.size i.args ds gs before hval hw' hc (hz.weights hw) (hX _ _ _ (by rfl) hx) h.2.2.2.2.2.1 h.2.1).mono fun e W' ⟨v, he, hp⟩ => ?_
    subst he
    refine postWith_blind (postWith_of_post ?_ ?_)
    · have hos : W'.os = (w.forCall tape i).os := by obtain ⟨_, _, _, _, _, _, _, _, _, _, h5, _⟩ := hp; exact h5.1
      have e2 : ({ W' with os := (w.forCall tape i).os } : World) = W' := by rw [← hos]
      rw [e2]
      exact hp
    · have hos : W'.os = (w.forCall tape i).os := by obtain ⟨_, _, _, _, _, _, _, _, _, _, h5, _⟩ := hp; exact h5.1
      rw [hos]
      exact OsLater.refl _
  obtain ⟨n, v, w', fr, hn, hend, hp⟩ := hcall.done_lone noInit
  exact ⟨n + 1, v, w', hend, (clean_of_lone hn).2, roomy_placeholder .., hp, ⟨n, _, hn, step_of_runs hn hend, leaving_of_lone hn⟩, fun _ _ _ => trivial⟩
end
end Go.Proofs.YtdemcoghgnnheaaGreatDoor

namespace Go.Proofs.YtdemcoghgnnheaaGreatDoor
open Go.ChangeShapes Go.WideShapes Go.ChangeAt Go.RowKit
open Go.Extern.Stop Go.Stop Go.Extern

/-- The cells of a table of numbers. -/
def litCells : DataW Unit → List Value
  | .agg l => l.filterMap fun
    | .lit (.int k z) => some (Value.int k z)
    | _ => none
  | _ => []
def litCells2 : DataW Unit → List Value
  | .agg l => l.flatMap litCells
  | _ => []
def setCells (cs : List Value) : Obj → Obj
  | .cells _ t frozen => .cells cs.toArray t frozen
  | o => o
noncomputable def laidWorld9 (os : Os) : World :=
  let w0 := laidWorld os
  { w0 with heap := ((((w0.heap.modify 10 (setCells (litCells Rows.laid_math_bits_deBruijn32tab))).modify 11 (setCells (litCells Rows.laid_math_bits_deBruijn64tab))).modify 9 (setCells (litCells Rows.laid_internal_strconv_uint64pow10))).modify 8 (setCells (litCells2 Rows.laid_unicode_utf8_acceptRanges))).modify 7 (setCells (litCells Rows.laid_unicode_utf8_first)) }
theorem laid9_met (os : Os) (args : Array Value) : laidMet Tryz.prog Rows.fnExactStepMadeRow.laid ((laidWorld9 os).forCall (fun _ _ => 0) ⟨#[], args, []⟩).memory :=
  laidMet_of_run' 8 (by kernel_rfl) (by kernel_rfl)
theorem laid9_metH (os : Os) (args : Array Value) : laidMetH Tryz.prog Rows.fnExactStepMadeRow.laid ((laidWorld9 os).forCall (fun _ _ => 0) ⟨#[], args, []⟩).memory := laid9_met os args

/-- What the condition gives a walk, and how the variable reads behind it. -/
theorem errs_of_laid9 {H : Type} (enc : TypeId × Value → H) {W : World} (h : laidMetH Tryz.prog Rows.fnExactStepMadeRow.laid W) :
    ∃ (n : Nat) (a : Addr), n ≤ W.heap.size ∧ Ev W n a ∧ ∀ W' : World, Below W.heap.size W W' → ∀ sp : Nat → Bool,
      DataW.TrodVars enc Tryz.prog W' sp Rows.fnExactStepMadeSpec.vars [tok enc (.iface 335 (.pointer (some a)))] [.cell 5 0] := by
  have hL : laidMet Tryz.prog Rows.fnExactStepMadeRow.laid W := h
  obtain ⟨a0, s0, hv0, hc0, hs0, hz0⟩ := laid_sentinel (ti := 68) (g := 5) (laidMet.tail (laidMet.tail (laidMet.tail (laidMet.tail hL)))) (by kernel_rfl) (by kernel_rfl) Tryz.underlying68 rowE Tryz.underlying335 Tryz.underlying360 rfl rfl Tryz.underlying9 cellsE cellsS
  have k0 : W.cell? ⟨5, 0, none⟩ = some (.iface 335 (.pointer (some a0))) := by simpa using World.var?_cell (g := 5) (by kernel_rfl) hv0 0
  have l0 := World.block_lt_of_cell? _ _ k0
  simp only at l0
  refine ⟨W.heap.size, a0, Nat.le_refl _, ⟨l0, k0⟩, fun W' hb sp => ?_⟩
  exact vars_read1 enc (by kernel_rfl) (by kernel_rfl) Tryz.underlying68 (var_below hb (g := 5) (by kernel_rfl) l0 hv0) trivial sp
end Go.Proofs.YtdemcoghgnnheaaGreatDoor

