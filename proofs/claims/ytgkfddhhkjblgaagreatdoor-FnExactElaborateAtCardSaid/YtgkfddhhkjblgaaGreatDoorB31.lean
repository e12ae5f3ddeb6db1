/-
  What the package's six errors read as when the call begins; a world in which they read so.
  From the reading of an argument to the words for memory: a function and a system that come in by value.
-/
import Derived.Test.YtgkfddhhkjblgaaGreatDoorB20
import Derived.Test.YtgkfddhhkjblgaaGreatDoorB30
import Derived.Test.YtgkfddhhkjblgaaGreatDoorRows
import Derived.ProofKit
import Derived.Stop.LaidErr
import Derived.Stop.LaidTwo
import Derived.LaidHandle
import Derived.MakeChecks
import Derived.WalkSmall
import Derived.Test.YtgkfddhhkjblgaaGreatDoorB1
namespace Go.Proofs.YtgkfddhhkjblgaaGreatDoor
open Go.ChangeShapes Go.WideShapes Go.ChangeAt Go.RowKit
open Go.Extern.Stop Go.Stop Go.Extern

noncomputable def low6 : Nat := (World.holding Tryz.prog default ⟨#[], #[], []⟩).heap.size
def setErr (a : Nat) : Obj → Obj
  | .cells _ t frozen => .cells #[.iface 270 (.pointer (some ⟨a, 0, none⟩))] t frozen
  | o => o
noncomputable def laidWorld6 (os : Os) : World :=
  let w0 := World.holding Tryz.prog os ⟨#[.cells #[.string ⟨#[116, 101, 120, 116, 32, 100, 111, 101, 115, 32, 110, 111, 116, 32, 102, 105, 116]⟩] 325, .cells #[.string ⟨#[110, 111, 32, 102, 117, 110, 99, 116, 105, 111, 110, 32, 105, 115, 32, 97, 112, 112, 108, 105, 99, 97, 98, 108, 101]⟩] 325, .cells #[.string ⟨#[110, 111, 32, 102, 117, 110, 99, 116, 105, 111, 110, 32, 105, 115, 32, 98, 101, 102, 111, 114, 101, 32, 97, 108, 108, 32, 111, 116, 104, 101, 114, 115]⟩] 325, .cells #[.string ⟨#[115, 121, 115, 116, 101, 109, 44, 32, 116, 101, 114, 109, 32, 111, 114, 32, 118, 97, 108, 117, 101, 32, 105, 115, 32, 110, 111, 116, 32, 107, 110, 111, 119, 110]⟩] 325, .cells #[.string ⟨#[110, 111, 32, 119, 97, 121, 32, 108, 101, 97, 100, 115, 32, 116, 111, 32, 116, 104, 101, 32, 116, 121, 112, 101]⟩] 325, .cells #[.string ⟨#[101, 120, 112, 108, 105, 99, 105, 116, 32, 116, 101, 114, 109, 32, 105, 115, 32, 116, 111, 111, 32, 108, 111, 110, 103]⟩] 325], #[], []⟩
  { w0 with heap := ((((((w0.heap.modify 5 (setErr low6)).modify 1 (setErr (low6 + 1))).modify 3 (setErr (low6 + 2))).modify 0 (setErr (low6 + 3))).modify 2 (setErr (low6 + 4))).modify 4 (setErr (low6 + 5))) }
theorem laid6_met (os : Os) (args : Array Value) : laidMet Tryz.prog Rows.fnExactElaborateRow.laid ((laidWorld6 os).forCall (fun _ _ => 0) ⟨#[], args, []⟩).memory :=
  laidMet_of_run (ps := [.cell 5 0, .cell low6 0, .cell 1 0, .cell (low6 + 1) 0, .cell 3 0, .cell (low6 + 2) 0, .cell 0 0, .cell (low6 + 3) 0, .cell 2 0, .cell (low6 + 4) 0, .cell 4 0, .cell (low6 + 5) 0]) 8 (by kernel_rfl) (by kernel_rfl) (by kernel_rfl)
theorem laid6_metH (os : Os) (args : Array Value) : laidMetH Tryz.prog Rows.fnExactElaborateRow.laid ((laidWorld6 os).forCall (fun _ _ => 0) ⟨#[], args, []⟩).memory := laid6_met os args

theorem star : "*" ++ "errors.errorString" = "*errors.errorString" := by decide
theorem rowE (u : TypeId) (h : Tryz.prog.typeName? 3 u = some "*errors.errorString") : u = 270 :=
  typeName_ptr_named (nm := "errors.errorString") (by rw [star]; kernel_rfl) (by kernel_rfl) (by decide) u (by rw [star]; exact h)
theorem cellsE : Tryz.prog.cellsOf 325 = 1 := by kernel_rfl
theorem cellsS : Tryz.prog.cellsOf 9 = 1 := by kernel_rfl
theorem var_below {W W' : World} (hb : Below W.heap.size W W') {n : String} {g : Nat} {cs : Array Value} (hg : Tryz.prog.globalNamed n = some g) (hl : g < W.heap.size) (h : W.var? Tryz.prog n = some cs) : W'.var? Tryz.prog n = some cs := by
  unfold World.var? at h ⊢
  simp only [hg, Option.bind_some] at h ⊢
  rw [hb.block g hl]
  exact h
theorem vars_cons {H : Type} (enc : TypeId × Value → H) {P : Program} {W : World} {n : String} {g : Nat} {ti : TypeId} {ms : Array (String × TypeId)} {x : Value} {ns : List String} {ds : List (DataW H)} {q : List MemPlace} {sp : Nat → Bool}
    (hg : P.globalNamed n = some g) (ht : (P.globals[g]?).map (·.type) = some ti) (hi : P.underlying ti = some (.interface ms)) (h : W.var? P n = some #[x]) (ix : IsIface x) (r : DataW.TrodVars enc P W sp ns ds q) :
    DataW.TrodVars enc P W sp (n :: ns) (tok enc x :: ds) (.cell g 0 :: q) :=
  ⟨g, ti, #[x], 1, [], q, hg, ht, h, trod_held hi ix 0, r, rfl⟩

/-- Six sentinels of one type: each has a cell of its own, frozen nowhere. -/
theorem laid_sentinels6 {P : Program} {nT nN nM nU nW nL nm : String} {textT textN textM textU textW textL : List UInt8} {r : List (String × DataW Unit)} {W : World} {gT gN gM gU gW gL : Nat} {ti tp te ts : TypeId} {ms : Array (String × TypeId)} {f : Field}
    (h : laidMet P ((nT, .iface nm (.ptr (.agg [.lit (.string textT)]))) :: (nN, .iface nm (.ptr (.agg [.lit (.string textN)]))) :: (nM, .iface nm (.ptr (.agg [.lit (.string textM)]))) :: (nU, .iface nm (.ptr (.agg [.lit (.string textU)]))) :: (nW, .iface nm (.ptr (.agg [.lit (.string textW)]))) :: (nL, .iface nm (.ptr (.agg [.lit (.string textL)]))) :: r) W)
    (hgT : P.globalNamed nT = some gT) (htT : (P.globals[gT]?).map (·.type) = some ti)
    (hgN : P.globalNamed nN = some gN) (htN : (P.globals[gN]?).map (·.type) = some ti)
    (hgM : P.globalNamed nM = some gM) (htM : (P.globals[gM]?).map (·.type) = some ti)
    (hgU : P.globalNamed nU = some gU) (htU : (P.globals[gU]?).map (·.type) = some ti)
    (hgW : P.globalNamed nW = some gW) (htW : (P.globals[gW]?).map (·.type) = some ti)
    (hgL : P.globalNamed nL = some gL) (htL : (P.globals[gL]?).map (·.type) = some ti)
    (hi : P.underlying ti = some (.interface ms)) (hrow : ∀ u, P.typeName? 3 u = some nm → u = tp)
    (hp : P.underlying tp = some (.pointer te)) (he : P.underlying te = some (.struct #[f])) (hft : f.type = ts) (hfo : f.offset = 0) (hs : P.underlying ts = some .string) (hc : P.cellsOf te = 1) (hcs : P.cellsOf ts = 1) :
    ∃ (aT aN aM aU aW aL : Addr), W.var? P nT = some #[.iface tp (.pointer (some aT))] ∧ W.var? P nN = some #[.iface tp (.pointer (some aN))] ∧ W.var? P nM = some #[.iface tp (.pointer (some aM))] ∧ W.var? P nU = some #[.iface tp (.pointer (some aU))] ∧ W.var? P nW = some #[.iface tp (.pointer (some aW))] ∧ W.var? P nL = some #[.iface tp (.pointer (some aL))] ∧ [aT, aN, aM, aU, aW, aL].Nodup ∧ ∀ a ∈ [aT, aN, aM, aU, aW, aL], ∃ c t, W.heap[a.block]? = some (.cells c t (0, 0)) := by
  obtain ⟨ps, ⟨gT', tT', csT, fT, pT, qT, hgT', htT', hvT, hdT, ⟨gN', tN', csN, fN, pN, qN, hgN', htN', hvN, hdN, ⟨gM', tM', csM, fM, pM, qM, hgM', htM', hvM, hdM, ⟨gU', tU', csU, fU, pU, qU, hgU', htU', hvU, hdU, ⟨gW', tW', csW, fW, pW, qW, hgW', htW', hvW, hdW, ⟨gL', tL', csL, fL, pL, qL, hgL', htL', hvL, hdL, _, eL⟩, eW⟩, eU⟩, eM⟩, eN⟩, eT⟩, hnd, hrows⟩ := h
  obtain rfl := Option.some.inj (hgT.symm.trans hgT')
  obtain rfl := Option.some.inj (htT.symm.trans htT')
  obtain rfl := Option.some.inj (hgN.symm.trans hgN')
  obtain rfl := Option.some.inj (htN.symm.trans htN')
  obtain rfl := Option.some.inj (hgM.symm.trans hgM')
  obtain rfl := Option.some.inj (htM.symm.trans htM')
  obtain rfl := Option.some.inj (hgU.symm.trans hgU')
  obtain rfl := Option.some.inj (htU.symm.trans htU')
  obtain rfl := Option.some.inj (hgW.symm.trans hgW')
  obtain rfl := Option.some.inj (htW.symm.trans htW')
  obtain rfl := Option.some.inj (hgL.symm.trans hgL')
  obtain rfl := Option.some.inj (htL.symm.trans htL')
  subst eL
  subst eW
  subst eU
  subst eM
  subst eN
  subst eT
  obtain ⟨lT⟩ := csT
  obtain ⟨lN⟩ := csN
  obtain ⟨lM⟩ := csM
  obtain ⟨lU⟩ := csU
  obtain ⟨lW⟩ := csW
  obtain ⟨lL⟩ := csL
  have okT : ∀ u v, lT = [.iface u v] → Value.okWide P W .any 0 u v := fun u v e => by
    subst e
    exact (hrows gT 0 (by simp [MemPlace.row])).2 u v (by simpa using World.var?_cell hgT' hvT 0)
  have okN : ∀ u v, lN = [.iface u v] → Value.okWide P W .any 0 u v := fun u v e => by
    subst e
    exact (hrows gN 0 (by simp [MemPlace.row])).2 u v (by simpa using World.var?_cell hgN' hvN 0)
  have okM : ∀ u v, lM = [.iface u v] → Value.okWide P W .any 0 u v := fun u v e => by
    subst e
    exact (hrows gM 0 (by simp [MemPlace.row])).2 u v (by simpa using World.var?_cell hgM' hvM 0)
  have okU : ∀ u v, lU = [.iface u v] → Value.okWide P W .any 0 u v := fun u v e => by
    subst e
    exact (hrows gU 0 (by simp [MemPlace.row])).2 u v (by simpa using World.var?_cell hgU' hvU 0)
  have okW : ∀ u v, lW = [.iface u v] → Value.okWide P W .any 0 u v := fun u v e => by
    subst e
    exact (hrows gW 0 (by simp [MemPlace.row])).2 u v (by simpa using World.var?_cell hgW' hvW 0)
  have okL : ∀ u v, lL = [.iface u v] → Value.okWide P W .any 0 u v := fun u v e => by
    subst e
    exact (hrows gL 0 (by simp [MemPlace.row])).2 u v (by simpa using World.var?_cell hgL' hvL 0)
  obtain ⟨aT, sT, rfl, hcT, hsT, hzT, rfl⟩ := errorString_of_trod hi hrow hp he hft hfo hs hc hcs hdT okT
  obtain ⟨aN, sN, rfl, hcN, hsN, hzN, rfl⟩ := errorString_of_trod hi hrow hp he hft hfo hs hc hcs hdN okN
  obtain ⟨aM, sM, rfl, hcM, hsM, hzM, rfl⟩ := errorString_of_trod hi hrow hp he hft hfo hs hc hcs hdM okM
  obtain ⟨aU, sU, rfl, hcU, hsU, hzU, rfl⟩ := errorString_of_trod hi hrow hp he hft hfo hs hc hcs hdU okU
  obtain ⟨aW, sW, rfl, hcW, hsW, hzW, rfl⟩ := errorString_of_trod hi hrow hp he hft hfo hs hc hcs hdW okW
  obtain ⟨aL, sL, rfl, hcL, hsL, hzL, rfl⟩ := errorString_of_trod hi hrow hp he hft hfo hs hc hcs hdL okL
  refine ⟨aT, aN, aM, aU, aW, aL, hvT, hvN, hvM, hvU, hvW, hvL, ?_, ?_⟩
  · have key : ∀ a b : Addr, a = b → (MemPlace.cell a.block a.off) = MemPlace.cell b.block b.off := fun a b e => by rw [e]
    simp only [MemPlace.row] at hnd
    simp only [List.nodup_cons, List.mem_cons, List.not_mem_nil, or_false, not_or, List.nodup_nil, and_true]
    refine ⟨⟨?_, ?_, ?_, ?_, ?_⟩, ⟨?_, ?_, ?_, ?_⟩, ⟨?_, ?_, ?_⟩, ⟨?_, ?_⟩, ?_, not_false⟩
    all_goals
      rintro rfl
      simp at hnd
  · intro a ha
    simp only [List.mem_cons, List.not_mem_nil, or_false] at ha
    rcases ha with rfl | rfl | rfl | rfl | rfl | rfl
    · exact (hrows a.block a.off (by simp [MemPlace.row])).1
    · exact (hrows a.block a.off (by simp [MemPlace.row])).1
    · exact (hrows a.block a.off (by simp [MemPlace.row])).1
    · exact (hrows a.block a.off (by simp [MemPlace.row])).1
    · exact (hrows a.block a.off (by simp [MemPlace.row])).1
    · exact (hrows a.block a.off (by simp [MemPlace.row])).1

/-- What the condition gives a walk, and how the variables read behind it. -/
theorem errs6_of_laid {W : World} (h : laidMetH Tryz.prog Rows.fnExactElaborateRow.laid W) :
    ∃ (n : Nat) (a aU aN aW aM aL : Addr), n ≤ W.heap.size ∧ Ev W n a ∧ Er5 W n aU aN aW aM aL ∧ ∀ W' : World, Below W.heap.size W W' →
      W'.var? Tryz.prog "loop.example/overloads/impl.errText" = some #[.iface 270 (.pointer (some a))] ∧ W'.var? Tryz.prog "loop.example/overloads/impl.errNone" = some #[.iface 270 (.pointer (some aN))] ∧ W'.var? Tryz.prog "loop.example/overloads/impl.errMany" = some #[.iface 270 (.pointer (some aM))] ∧
      W'.var? Tryz.prog "loop.example/overloads/impl.errUnknown" = some #[.iface 270 (.pointer (some aU))] ∧ W'.var? Tryz.prog "loop.example/overloads/impl.errNoWay" = some #[.iface 270 (.pointer (some aW))] ∧ W'.var? Tryz.prog "loop.example/overloads/impl.errLong" = some #[.iface 270 (.pointer (some aL))] := by
  have hL : laidMet Tryz.prog Rows.fnExactElaborateRow.laid W := h
  obtain ⟨aT, aN, aM, aU, aW, aL, hvT, hvN, hvM, hvU, hvW, hvL, hnd, hbl⟩ := laid_sentinels6 (ti := 64) (gT := 5) (gN := 1) (gM := 3) (gU := 0) (gW := 2) (gL := 4) hL (by kernel_rfl) (by kernel_rfl) (by kernel_rfl) (by kernel_rfl) (by kernel_rfl) (by kernel_rfl) (by kernel_rfl) (by kernel_rfl) (by kernel_rfl) (by kernel_rfl) (by kernel_rfl) (by kernel_rfl) Tryz.underlying64 rowE Tryz.underlying270 Tryz.underlying325 rfl rfl Tryz.underlying9 cellsE cellsS
  have kT : W.cell? ⟨5, 0, none⟩ = some (.iface 270 (.pointer (some aT))) := by simpa using World.var?_cell (g := 5) (by kernel_rfl) hvT 0
  have kN : W.cell? ⟨1, 0, none⟩ = some (.iface 270 (.pointer (some aN))) := by simpa using World.var?_cell (g := 1) (by kernel_rfl) hvN 0
  have kM : W.cell? ⟨3, 0, none⟩ = some (.iface 270 (.pointer (some aM))) := by simpa using World.var?_cell (g := 3) (by kernel_rfl) hvM 0
  have kU : W.cell? ⟨0, 0, none⟩ = some (.iface 270 (.pointer (some aU))) := by simpa using World.var?_cell (g := 0) (by kernel_rfl) hvU 0
  have kW : W.cell? ⟨2, 0, none⟩ = some (.iface 270 (.pointer (some aW))) := by simpa using World.var?_cell (g := 2) (by kernel_rfl) hvW 0
  have kL : W.cell? ⟨4, 0, none⟩ = some (.iface 270 (.pointer (some aL))) := by simpa using World.var?_cell (g := 4) (by kernel_rfl) hvL 0
  have lT := World.block_lt_of_cell? _ _ kT
  have lN := World.block_lt_of_cell? _ _ kN
  have lM := World.block_lt_of_cell? _ _ kM
  have lU := World.block_lt_of_cell? _ _ kU
  have lW := World.block_lt_of_cell? _ _ kW
  have lL := World.block_lt_of_cell? _ _ kL
  simp only at lT lN lM lU lW lL
  have hlt : ∀ x : Addr, (∃ c t, W.heap[x.block]? = some (.cells c t (0, 0))) → x.block < W.heap.size := fun x ⟨c, t, e⟩ => by
    rcases Nat.lt_or_ge x.block W.heap.size with h' | h'
    · exact h'
    · rw [Array.getElem?_eq_none h'] at e; cases e
  simp only [List.nodup_cons, List.mem_cons, List.not_mem_nil, or_false, not_or] at hnd
  refine ⟨W.heap.size, aT, aU, aN, aW, aM, aL, Nat.le_refl _, ⟨lT, kT⟩, ⟨⟨lU, lN, lW, lM, lL⟩, kU, kN, kW, kM, kL, ?_, fun a ha => ?_⟩, fun W' hb => ?_⟩
  · obtain ⟨-, ⟨h1, h2, h3, h4⟩, ⟨h5, h6, h7⟩, ⟨h8, h9⟩, h10, -⟩ := hnd
    simp only [List.nodup_cons, List.mem_cons, List.not_mem_nil, or_false, not_or, List.nodup_nil, and_true]
    exact ⟨⟨Ne.symm h2, h8, Ne.symm h5, h9⟩, ⟨h3, h1, h4⟩, ⟨Ne.symm h6, h10⟩, h7, not_false⟩
  · have hin : a ∈ [aT, aN, aM, aU, aW, aL] := by
      simp only [List.mem_cons, List.not_mem_nil, or_false] at ha ⊢
      rcases ha with h | h | h | h | h <;> simp [h]
    exact ⟨hlt a (hbl a hin), hbl a hin⟩
  · exact ⟨var_below hb (g := 5) (by kernel_rfl) lT hvT, var_below hb (g := 1) (by kernel_rfl) lN hvN, var_below hb (g := 3) (by kernel_rfl) lM hvM, var_below hb (g := 0) (by kernel_rfl) lU hvU, var_below hb (g := 2) (by kernel_rfl) lW hvW, var_below hb (g := 4) (by kernel_rfl) lL hvL⟩
end Go.Proofs.YtgkfddhhkjblgaaGreatDoor

namespace Go.Proofs.YtgkfddhhkjblgaaGreatDoor
open Go.ChangeShapes Go.WideShapes Go.ChangeAt Go.RowKit Go.Joins Go.Deep

theorem Tryz.cellsFunction : Tryz.prog.cellsOf 100 = 4 := by kernel_rfl
theorem Tryz.cellsSystem : Tryz.prog.cellsOf 28 = 3 := by kernel_rfl

section
variable {H : Type} {enc : TypeId × Value → H} {W : World} {base : Nat} {held : Bool}

theorem four_fields {P : Program} {spare : Nat → Bool} {t : TypeId} {f0 f1 f2 f3 : Field} {n : Nat} {x y z u : Value} {r : DataW H × List MemPlace} (hs : P.underlying t = some (.struct #[f0, f1, f2, f3])) (hone : oneCellFields P #[f0, f1, f2, f3] = true)
    (h : DataW.trod enc P W base spare held n t [x, y, z, u] = some r) :
    ∃ (y0 y1 y2 y3 : DataW H × List MemPlace) (m : Nat), DataW.trod enc P W base spare held m f0.type [x] = some y0 ∧ DataW.trod enc P W base spare held m f1.type [y] = some y1 ∧ DataW.trod enc P W base spare held m f2.type [z] = some y2 ∧ DataW.trod enc P W base spare held m f3.type [u] = some y3 := by
  obtain ⟨ys, m, _, _, _, hyl, hf⟩ := DataW.trod_struct hs h
  obtain ⟨o0, k0⟩ := hone_of hone 0 f0 rfl
  obtain ⟨o1, k1⟩ := hone_of hone 1 f1 rfl
  obtain ⟨o2, k2⟩ := hone_of hone 2 f2 rfl
  obtain ⟨o3, k3⟩ := hone_of hone 3 f3 rfl
  match ys, hyl with
  | [y0, y1, y2, y3], _ =>
    exact ⟨y0, y1, y2, y3, m, by simpa [o0, k0] using hf 0 f0 rfl, by simpa [o1, k1] using hf 1 f1 rfl, by simpa [o2, k2] using hf 2 f2 rfl, by simpa [o3, k3] using hf 3 f3 rfl⟩

theorem two_fields {P : Program} {spare : Nat → Bool} {t : TypeId} {f0 f1 : Field} {n : Nat} {x y : Value} {r : DataW H × List MemPlace} (hs : P.underlying t = some (.struct #[f0, f1])) (hone : oneCellFields P #[f0, f1] = true)
    (h : DataW.trod enc P W base spare held n t [x, y] = some r) :
    ∃ (y0 y1 : DataW H × List MemPlace) (m : Nat), DataW.trod enc P W base spare held m f0.type [x] = some y0 ∧ DataW.trod enc P W base spare held m f1.type [y] = some y1 := by
  obtain ⟨ys, m, _, _, _, hyl, hf⟩ := DataW.trod_struct hs h
  obtain ⟨o0, k0⟩ := hone_of hone 0 f0 rfl
  obtain ⟨o1, k1⟩ := hone_of hone 1 f1 rfl
  match ys, hyl with
  | [y0, y1], _ =>
    exact ⟨y0, y1, m, by simpa [o0, k0] using hf 0 f0 rfl, by simpa [o1, k1] using hf 1 f1 rfl⟩

theorem two_one_fields {P : Program} {spare : Nat → Bool} {t : TypeId} {f0 f1 : Field} {n : Nat} {x y z : Value} {r : DataW H × List MemPlace} (hs : P.underlying t = some (.struct #[f0, f1])) (o0 : f0.offset = 0) (k0 : P.cellsOf f0.type = 2) (o1 : f1.offset = 2) (k1 : P.cellsOf f1.type = 1)
    (h : DataW.trod enc P W base spare held n t [x, y, z] = some r) :
    ∃ (y0 y1 : DataW H × List MemPlace) (m : Nat), DataW.trod enc P W base spare held m f0.type [x, y] = some y0 ∧ DataW.trod enc P W base spare held m f1.type [z] = some y1 := by
  obtain ⟨ys, m, _, _, _, hyl, hf⟩ := DataW.trod_struct hs h
  match ys, hyl with
  | [y0, y1], _ =>
    exact ⟨y0, y1, m, by simpa [o0, k0] using hf 0 f0 rfl, by simpa [o1, k1] using hf 1 f1 rfl⟩

/-- A function's four cells. -/
theorem open_fuAt {n : Nat} {x a r t : Value} {d : DataW H × List MemPlace} (h : DataW.trod enc Tryz.prog W base (fun _ => true) held n 100 [x, a, r, t] = some d) : ∃ f, FuAt W 0 W.heap.size x a r t f := by
  obtain ⟨y0, y1, y2, y3, m, e0, e1, e2, e3⟩ := four_fields Tryz.underlying100 (by kernel_rfl) h
  obtain ⟨s, es, _, hs⟩ := DataW.trod_string Tryz.underlying9 e0
  obtain ⟨zs, hz⟩ := open_intsAt e1
  obtain ⟨b, eb, _, wb⟩ := DataW.trod_int Tryz.underlying3 e2
  obtain ⟨us, hu⟩ := open_intsAt e3
  simp only [List.cons.injEq, and_true] at es eb
  exact ⟨⟨s, zs, b, us⟩, es, eb, hs, wf_I64 wb, hz, hu⟩

theorem open_fusAt {fuel : Nat} {v : Value} {x : DataW H × List MemPlace} (h : DataW.trod enc Tryz.prog W base (fun _ => true) held fuel 26 [v] = some x) : ∃ fs, FusAt W 0 W.heap.size v fs := by
  rcases open_slice Tryz.underlying26 h with ⟨hcs, _⟩ | ⟨a, len, cap, m, n, D, Pl, hcs, hb, hl, hm, hmm, hx, hi⟩
  · simp only [List.cons.injEq, and_true] at hcs
    subst hcs
    exact ⟨[], _, _, rfl, Nat.le_refl _, Nat.zero_le _, fun h => absurd h (by simp)⟩
  · simp only [List.cons.injEq, and_true] at hcs
    subst hcs
    simp only [if_true] at hmm
    have key : ∀ i, i < len → ∃ c : Fu, ∃ x y z u, W.cell? (a.add (i * 4)) = some x ∧ W.cell? ((a.add (i * 4)).add 1) = some y ∧ W.cell? ((a.add (i * 4)).add 2) = some z ∧ W.cell? ((a.add (i * 4)).add 3) = some u ∧ FuAt W 0 W.heap.size x y z u c := by
      intro i hil
      obtain ⟨cs', hc, ht⟩ := hi i (by omega)
      rw [Tryz.cellsFunction] at hc
      obtain ⟨_, hcl, hat⟩ := World.cells?_some hc
      match cs', hcl with
      | [x, y, z, u], _ =>
        obtain ⟨c, hco⟩ := open_fuAt ht
        exact ⟨c, x, y, z, u, by simpa [Addr.add] using hat 0 (by omega), hat 1 (by omega), hat 2 (by omega), hat 3 (by omega), hco⟩
    obtain ⟨f, hfx⟩ := choose_lt key
    have e : ((List.range len).map f).length = len := by simp
    refine ⟨(List.range len).map f, some a, cap, by rw [e], by rw [e]; exact hl, hm, fun h0 => ?_⟩
    rw [e] at h0
    obtain ⟨b, off, spot⟩ := a
    obtain ⟨x0, _, _, _, h00, _⟩ := hfx 0 h0
    have hspot : spot = none := by simpa [Addr.add] using World.cell?_spot h00
    subst hspot
    refine ⟨b, off, rfl, Nat.zero_le _, ?_, fun k hk => ?_⟩
    · have := World.block_lt_of_cell? W _ h00
      simpa [Addr.add] using this
    · rw [e] at hk
      obtain ⟨x, y, z, u, c0, c1, c2, c3, hco⟩ := hfx k hk
      rw [add_plain] at c0 c1 c2 c3
      rw [add_plain] at c1 c2 c3
      refine ⟨x, y, z, u, c0, c1, c2, c3, ?_⟩
      rw [List.getD_eq_getElem?_getD, List.getElem?_eq_getElem (by rw [e]; exact hk)]
      simpa using hco

set_option maxRecDepth 100000 in
/-- A system that comes in by value. -/
theorem open_syAt {r : Reach} {b0 : Nat} {v : Value} {d : DataW H} {p : List MemPlace} (hv : Value.okWide Tryz.prog W r b0 28 v) (h : DataW.Trod enc Tryz.prog W base (fun _ => true) held 28 v d p) :
    ∃ sv cv fv y, v = .agg #[sv, cv, fv] ∧ SyAt W 0 W.heap.size sv cv fv y := by
  obtain ⟨cs, rfl, hsz⟩ := okWide_struct Tryz.underlying28 hv
  obtain ⟨l⟩ := cs
  match l, hsz.trans Tryz.cellsSystem with
  | [x, y, z], _ =>
    obtain ⟨fuel, hf⟩ := h
    obtain ⟨y0, y1, m, e0, e1⟩ := two_one_fields Tryz.underlying28 (by kernel_rfl) (by kernel_rfl) (by kernel_rfl) (by kernel_rfl) (by simpa [Value.cells] using hf)
    obtain ⟨z0, z1, m2, d0, d1⟩ := two_fields Tryz.underlying25 (by kernel_rfl) e0
    obtain ⟨zs, hz⟩ := open_intsAt d0
    obtain ⟨cs, hc⟩ := open_cosAt d1
    obtain ⟨fs, hfu⟩ := open_fusAt e1
    exact ⟨x, y, z, ⟨⟨zs, cs⟩, fs⟩, rfl, ⟨hz, hc⟩, hfu⟩

set_option maxRecDepth 100000 in
/-- A function that comes in by value. -/
theorem open_fuVal {r : Reach} {b0 : Nat} {v : Value} {d : DataW H} {p : List MemPlace} (hv : Value.okWide Tryz.prog W r b0 100 v) (h : DataW.Trod enc Tryz.prog W base (fun _ => true) held 100 v d p) :
    ∃ x a r t f, v = .agg #[x, a, r, t] ∧ FuAt W 0 W.heap.size x a r t f := by
  obtain ⟨cs, rfl, hsz⟩ := okWide_struct Tryz.underlying100 hv
  obtain ⟨l⟩ := cs
  match l, hsz.trans Tryz.cellsFunction with
  | [x, y, z, u], _ =>
    obtain ⟨fuel, hf⟩ := h
    obtain ⟨c, hc⟩ := open_fuAt (by simpa [Value.cells] using hf)
    exact ⟨x, y, z, u, c, rfl, hc⟩
end
end Go.Proofs.YtgkfddhhkjblgaaGreatDoor

