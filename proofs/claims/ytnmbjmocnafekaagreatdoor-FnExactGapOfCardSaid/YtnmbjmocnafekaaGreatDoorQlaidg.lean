/-
  What the package's three errors read as when the call begins; a world in which they read so.
-/
import Derived.Test.YtnmbjmocnafekaaGreatDoorG23
import Derived.Test.YtnmbjmocnafekaaGreatDoorG29
import Derived.Test.YtnmbjmocnafekaaGreatDoorRows
import Derived.ProofKit
import Derived.Stop.LaidErr
import Derived.Stop.LaidTwo
import Derived.LaidHandle
import Derived.MakeChecks
import Derived.WalkSmall
namespace Go.Proofs.YtnmbjmocnafekaaGreatDoor
open Go.ChangeShapes Go.WideShapes Go.ChangeAt Go.RowKit
open Go.Extern.Stop Go.Stop Go.Extern

noncomputable def low6 : Nat := (World.holding Tryz.prog default ⟨#[], #[], []⟩).heap.size
def setErr (a : Nat) : Obj → Obj
  | .cells _ t frozen => .cells #[.iface 314 (.pointer (some ⟨a, 0, none⟩))] t frozen
  | o => o
noncomputable def laidWorld3 (os : Os) : World :=
  let w0 := World.holding Tryz.prog os ⟨#[.cells #[.string ⟨#[115, 121, 115, 116, 101, 109, 32, 105, 115, 32, 110, 111, 116, 32, 118, 97, 108, 105, 100]⟩] 363, .cells #[.string ⟨#[110, 111, 32, 102, 117, 110, 99, 116, 105, 111, 110, 32, 105, 115, 32, 97, 112, 112, 108, 105, 99, 97, 98, 108, 101]⟩] 363, .cells #[.string ⟨#[110, 111, 32, 102, 117, 110, 99, 116, 105, 111, 110, 32, 105, 115, 32, 98, 101, 102, 111, 114, 101, 32, 97, 108, 108, 32, 111, 116, 104, 101, 114, 115]⟩] 363], #[], []⟩
  { w0 with heap := (((w0.heap.modify 0 (setErr low6)).modify 3 (setErr (low6 + 1))).modify 2 (setErr (low6 + 2))) }
theorem laid3_met (os : Os) (args : Array Value) : laidMet Tryz.prog Rows.fnExactIsRegularRow.laid ((laidWorld3 os).forCall (fun _ _ => 0) ⟨#[], args, []⟩).memory :=
  laidMet_of_run (ps := [.cell 0 0, .cell low6 0, .cell 3 0, .cell (low6 + 1) 0, .cell 2 0, .cell (low6 + 2) 0]) 8 (by kernel_rfl) (by kernel_rfl) (by kernel_rfl)
theorem laid3_metH (os : Os) (args : Array Value) : laidMetH Tryz.prog Rows.fnExactIsRegularRow.laid ((laidWorld3 os).forCall (fun _ _ => 0) ⟨#[], args, []⟩).memory := laid3_met os args

theorem star : "*" ++ "errors.errorString" = "*errors.errorString" := by decide
theorem rowE (u : TypeId) (h : Tryz.prog.typeName? 3 u = some "*errors.errorString") : u = 314 :=
  typeName_ptr_named (nm := "errors.errorString") (by rw [star]; kernel_rfl) (by kernel_rfl) (by decide) u (by rw [star]; exact h)
theorem cellsE : Tryz.prog.cellsOf 363 = 1 := by kernel_rfl
theorem cellsS : Tryz.prog.cellsOf 9 = 1 := by kernel_rfl
theorem var_below {W W' : World} (hb : Below W.heap.size W W') {n : String} {g : Nat} {cs : Array Value} (hg : Tryz.prog.globalNamed n = some g) (hl : g < W.heap.size) (h : W.var? Tryz.prog n = some cs) : W'.var? Tryz.prog n = some cs := by
  unfold World.var? at h ⊢
  simp only [hg, Option.bind_some] at h ⊢
  rw [hb.block g hl]
  exact h
theorem vars_cons {H : Type} (enc : TypeId × Value → H) {P : Program} {W : World} {n : String} {g : Nat} {ti : TypeId} {ms : Array (String × TypeId)} {x : Value} {ns : List String} {ds : List (DataW H)} {q : List MemPlace} {sp : Nat → Bool}
    (hg : P.globalNamed n = some g) (ht : (P.globals[g]?).map (·.type) = some ti) (hi : P.underlying ti = some (.interface ms)) (h : W.var? P n = some #[x]) (ix : IsIface x) (r : DataW.TrodVars enc P W sp ns ds q) :
    DataW.TrodVars enc P W sp (n :: ns) (tok enc x :: ds) (.cell g 0 :: q) :=
  ⟨g, ti, #[x], 1, [], q, hg, ht, h, trod_held hi ix 0, r, rfl⟩

/-- Three sentinels of one type: each has a cell of its own, frozen nowhere. -/
theorem laid_sentinels3 {P : Program} {nI nN nM nm : String} {textI textN textM : List UInt8} {r : List (String × DataW Unit)} {W : World} {gI gN gM : Nat} {ti tp te ts : TypeId} {ms : Array (String × TypeId)} {f : Field}
    (h : laidMet P ((nI, .iface nm (.ptr (.agg [.lit (.string textI)]))) :: (nN, .iface nm (.ptr (.agg [.lit (.string textN)]))) :: (nM, .iface nm (.ptr (.agg [.lit (.string textM)]))) :: r) W)
    (hgI : P.globalNamed nI = some gI) (htI : (P.globals[gI]?).map (·.type) = some ti)
    (hgN : P.globalNamed nN = some gN) (htN : (P.globals[gN]?).map (·.type) = some ti)
    (hgM : P.globalNamed nM = some gM) (htM : (P.globals[gM]?).map (·.type) = some ti)
    (hi : P.underlying ti = some (.interface ms)) (hrow : ∀ u, P.typeName? 3 u = some nm → u = tp)
    (hp : P.underlying tp = some (.pointer te)) (he : P.underlying te = some (.struct #[f])) (hft : f.type = ts) (hfo : f.offset = 0) (hs : P.underlying ts = some .string) (hc : P.cellsOf te = 1) (hcs : P.cellsOf ts = 1) :
    ∃ (aI aN aM : Addr), W.var? P nI = some #[.iface tp (.pointer (some aI))] ∧ W.var? P nN = some #[.iface tp (.pointer (some aN))] ∧ W.var? P nM = some #[.iface tp (.pointer (some aM))] ∧ [aI, aN, aM].Nodup ∧ ∀ a ∈ [aI, aN, aM], ∃ c t, W.heap[a.block]? = some (.cells c t (0, 0)) := by
  obtain ⟨ps, ⟨gI', tI', csI, fI, pI, qI, hgI', htI', hvI, hdI, ⟨gN', tN', csN, fN, pN, qN, hgN', htN', hvN, hdN, ⟨gM', tM', csM, fM, pM, qM, hgM', htM', hvM, hdM, _, eM⟩, eN⟩, eI⟩, hnd, hrows⟩ := h
  obtain rfl := Option.some.inj (hgI.symm.trans hgI')
  obtain rfl := Option.some.inj (htI.symm.trans htI')
  obtain rfl := Option.some.inj (hgN.symm.trans hgN')
  obtain rfl := Option.some.inj (htN.symm.trans htN')
  obtain rfl := Option.some.inj (hgM.symm.trans hgM')
  obtain rfl := Option.some.inj (htM.symm.trans htM')
  subst eM
  subst eN
  subst eI
  obtain ⟨lI⟩ := csI
  obtain ⟨lN⟩ := csN
  obtain ⟨lM⟩ := csM
  have okI : ∀ u v, lI = [.iface u v] → Value.okWide P W .any 0 u v := fun u v e => by
    subst e
    exact (hrows gI 0 (by simp [MemPlace.row])).2 u v (by simpa using World.var?_cell hgI' hvI 0)
  have okN : ∀ u v, lN = [.iface u v] → Value.okWide P W .any 0 u v := fun u v e => by
    subst e
    exact (hrows gN 0 (by simp [MemPlace.row])).2 u v (by simpa using World.var?_cell hgN' hvN 0)
  have okM : ∀ u v, lM = [.iface u v] → Value.okWide P W .any 0 u v := fun u v e => by
    subst e
    exact (hrows gM 0 (by simp [MemPlace.row])).2 u v (by simpa using World.var?_cell hgM' hvM 0)
  obtain ⟨aI, sI, rfl, hcI, hsI, hzI, rfl⟩ := errorString_of_trod hi hrow hp he hft hfo hs hc hcs hdI okI
  obtain ⟨aN, sN, rfl, hcN, hsN, hzN, rfl⟩ := errorString_of_trod hi hrow hp he hft hfo hs hc hcs hdN okN
  obtain ⟨aM, sM, rfl, hcM, hsM, hzM, rfl⟩ := errorString_of_trod hi hrow hp he hft hfo hs hc hcs hdM okM
  refine ⟨aI, aN, aM, hvI, hvN, hvM, ?_, ?_⟩
  · have key : ∀ a b : Addr, a = b → (MemPlace.cell a.block a.off) = MemPlace.cell b.block b.off := fun a b e => by rw [e]
    simp only [MemPlace.row] at hnd
    simp only [List.nodup_cons, List.mem_cons, List.not_mem_nil, or_false, not_or, List.nodup_nil, and_true]
    refine ⟨⟨?_, ?_⟩, ?_, not_false⟩
    all_goals
      rintro rfl
      simp at hnd
  · intro a ha
    simp only [List.mem_cons, List.not_mem_nil, or_false] at ha
    rcases ha with rfl | rfl | rfl
    · exact (hrows a.block a.off (by simp [MemPlace.row])).1
    · exact (hrows a.block a.off (by simp [MemPlace.row])).1
    · exact (hrows a.block a.off (by simp [MemPlace.row])).1

/-- What the condition gives a walk, and how the variables read behind it. -/
theorem errs3_of_laid {W : World} (h : laidMetH Tryz.prog Rows.fnExactIsRegularRow.laid W) :
    ∃ (n : Nat) (aI aN aM : Addr), n ≤ W.heap.size ∧ 0 < n ∧ W.cell? ⟨0, 0, none⟩ = some (.iface 314 (.pointer (some aI))) ∧ Errs W n aN aM ∧ ∀ W' : World, Below W.heap.size W W' →
      W'.var? Tryz.prog "loop.example/overloads/impl.errInvalid" = some #[.iface 314 (.pointer (some aI))] ∧ W'.var? Tryz.prog "loop.example/overloads/impl.errNone" = some #[.iface 314 (.pointer (some aN))] ∧ W'.var? Tryz.prog "loop.example/overloads/impl.errMany" = some #[.iface 314 (.pointer (some aM))] := by
  have hL : laidMet Tryz.prog Rows.fnExactIsRegularRow.laid W := h
  obtain ⟨aI, aN, aM, hvI, hvN, hvM, hnd, hbl⟩ := laid_sentinels3 (ti := 65) (gI := 0) (gN := 3) (gM := 2) hL (by kernel_rfl) (by kernel_rfl) (by kernel_rfl) (by kernel_rfl) (by kernel_rfl) (by kernel_rfl) Tryz.underlying65 rowE Tryz.underlying314 Tryz.underlying363 rfl rfl Tryz.underlying9 cellsE cellsS
  have kI : W.cell? ⟨0, 0, none⟩ = some (.iface 314 (.pointer (some aI))) := by simpa using World.var?_cell (g := 0) (by kernel_rfl) hvI 0
  have kN : W.cell? ⟨3, 0, none⟩ = some (.iface 314 (.pointer (some aN))) := by simpa using World.var?_cell (g := 3) (by kernel_rfl) hvN 0
  have kM : W.cell? ⟨2, 0, none⟩ = some (.iface 314 (.pointer (some aM))) := by simpa using World.var?_cell (g := 2) (by kernel_rfl) hvM 0
  have lI := World.block_lt_of_cell? _ _ kI
  have lN := World.block_lt_of_cell? _ _ kN
  have lM := World.block_lt_of_cell? _ _ kM
  simp only at lI lN lM
  have hlt : ∀ x : Addr, (∃ c t, W.heap[x.block]? = some (.cells c t (0, 0))) → x.block < W.heap.size := fun x ⟨c, t, e⟩ => by
    rcases Nat.lt_or_ge x.block W.heap.size with h' | h'
    · exact h'
    · rw [Array.getElem?_eq_none h'] at e; cases e
  simp only [List.nodup_cons, List.mem_cons, List.not_mem_nil, or_false, not_or] at hnd
  obtain ⟨-, hne, -⟩ := hnd
  have bN := hbl aN (by simp)
  have bM := hbl aM (by simp)
  refine ⟨W.heap.size, aI, aN, aM, Nat.le_refl _, lI, kI, ⟨⟨lN, lM⟩, kN, kM, hne, hlt aN bN, hlt aM bM, bN, bM⟩, fun W' hb => ?_⟩
  exact ⟨var_below hb (g := 0) (by kernel_rfl) lI hvI, var_below hb (g := 3) (by kernel_rfl) lN hvN, var_below hb (g := 2) (by kernel_rfl) lM hvM⟩
end Go.Proofs.YtnmbjmocnafekaaGreatDoor

