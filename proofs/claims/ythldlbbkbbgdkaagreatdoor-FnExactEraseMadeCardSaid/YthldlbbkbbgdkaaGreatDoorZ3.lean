/-
  From the reading of an argument to the words for memory: types and a coercion that come in by value.
  What the package's error of reading texts reads as when the call begins; a world in which it reads so.
  From the reading of an argument to the words for memory: a function and a system that come in by value.
-/
import Derived.Test.YthldlbbkbbgdkaaGreatDoorRows
import Derived.Test.YthldlbbkbbgdkaaGreatDoorK1
import Derived.WalkKit
import Derived.ProofKit
import Derived.OpenShut
import Derived.Lib.SmallJoins
import Derived.Deep.Slices
import Derived.Deep.Fields
import Derived.Test.YthldlbbkbbgdkaaGreatDoorZ2
import Derived.Stop.LaidErr
import Derived.LaidHandle
import Derived.MakeChecks
import Derived.WalkSmall
namespace Go.Proofs.YthldlbbkbbgdkaaGreatDoor
open Go.ChangeShapes Go.WideShapes Go.ChangeAt Go.RowKit Go.Joins Go.Deep

theorem Tryz.own : ownKnob Tryz.prog.godebug = none := by kernel_rfl
theorem Tryz.laidOut : laidOutB Tryz.prog = true := by kernel_rfl
theorem Tryz.cellsInt : Tryz.prog.cellsOf 3 = 1 := by kernel_rfl
theorem Tryz.cellsTypes : Tryz.prog.cellsOf 25 = 2 := by kernel_rfl
theorem Tryz.cellsCo : Tryz.prog.cellsOf 190 = 3 := by kernel_rfl

theorem wf_I64 {z : Int} (h : (Lit.int .i64 z).wf = true) : I64 z := by
  simpa [Lit.wf, IntKind.min, IntKind.max, IntKind.signed, IntKind.bits, I64] using h

section
variable {H : Type} {enc : TypeId × Value → H} {W : World} {base : Nat} {held : Bool}

/-- A slice of ints that comes in. -/
theorem open_intsAt {fuel : Nat} {v : Value} {x : DataW H × List MemPlace} (h : DataW.trod enc Tryz.prog W base (fun _ => true) held fuel 22 [v] = some x) : ∃ zs, IntsAt W 0 W.heap.size v zs := by
  rcases open_ints Tryz.underlying22 Tryz.underlying3 Tryz.cellsInt h with ⟨hcs, _⟩ | ⟨a, len, cap, zs, hcs, _, hl, hm, hz, _, hcell, hwz⟩
  · simp only [List.cons.injEq, and_true] at hcs
    subst hcs
    exact ⟨[], _, _, rfl, Nat.le_refl _, Nat.zero_le _, fun z hz => absurd hz (by simp), fun h => absurd h (by simp)⟩
  · simp only [List.cons.injEq, and_true] at hcs
    subst hcs
    simp only [if_true] at hz
    have e : (zs.take len).length = len := by rw [List.length_take]; omega
    refine ⟨zs.take len, some a, cap, by rw [e], by rw [e]; exact hl, hm, fun z hzm => wf_I64 (hwz z (List.mem_of_mem_take hzm)), fun h0 => ?_⟩
    rw [e] at h0
    obtain ⟨b, off, spot⟩ := a
    have hspot : spot = none := by simpa [Addr.add] using World.cell?_spot (hcell 0 (by omega))
    subst hspot
    refine ⟨b, off, rfl, Nat.zero_le _, World.block_lt_of_cell? W _ (hcell 0 (by omega)), fun k hk => ?_⟩
    rw [e] at hk
    rw [← add_plain, hcell k (by omega), List.getD_eq_getElem?_getD, List.getD_eq_getElem?_getD, List.getElem?_take_of_lt hk]

theorem three_fields {P : Program} {spare : Nat → Bool} {t : TypeId} {f0 f1 f2 : Field} {n : Nat} {x y z : Value} {r : DataW H × List MemPlace} (hs : P.underlying t = some (.struct #[f0, f1, f2])) (hone : oneCellFields P #[f0, f1, f2] = true)
    (h : DataW.trod enc P W base spare held n t [x, y, z] = some r) :
    ∃ (y0 y1 y2 : DataW H × List MemPlace) (m : Nat), DataW.trod enc P W base spare held m f0.type [x] = some y0 ∧ DataW.trod enc P W base spare held m f1.type [y] = some y1 ∧ DataW.trod enc P W base spare held m f2.type [z] = some y2 := by
  obtain ⟨ys, m, _, _, _, hyl, hf⟩ := DataW.trod_struct hs h
  obtain ⟨o0, k0⟩ := hone_of hone 0 f0 rfl
  obtain ⟨o1, k1⟩ := hone_of hone 1 f1 rfl
  obtain ⟨o2, k2⟩ := hone_of hone 2 f2 rfl
  match ys, hyl with
  | [y0, y1, y2], _ =>
    exact ⟨y0, y1, y2, m, by simpa [o0, k0] using hf 0 f0 rfl, by simpa [o1, k1] using hf 1 f1 rfl, by simpa [o2, k2] using hf 2 f2 rfl⟩

/-- A coercion's three cells. -/
theorem open_coAt {n : Nat} {x y z : Value} {r : DataW H × List MemPlace} (h : DataW.trod enc Tryz.prog W base (fun _ => true) held n 190 [x, y, z] = some r) : ∃ c, CoAt W 0 W.heap.size x y z c := by
  obtain ⟨y0, y1, y2, m, e0, e1, e2⟩ := three_fields Tryz.underlying190 (by kernel_rfl) h
  obtain ⟨a, ea, _, wa⟩ := DataW.trod_int Tryz.underlying3 e0
  obtain ⟨b, eb, _, wb⟩ := DataW.trod_int Tryz.underlying3 e1
  obtain ⟨zs, hz⟩ := open_intsAt e2
  simp only [List.cons.injEq, and_true] at ea eb
  exact ⟨⟨a, b, zs⟩, ea, eb, wf_I64 wa, wf_I64 wb, hz⟩

theorem open_cosAt {fuel : Nat} {v : Value} {x : DataW H × List MemPlace} (h : DataW.trod enc Tryz.prog W base (fun _ => true) held fuel 23 [v] = some x) : ∃ cs, CosAt W 0 W.heap.size v cs := by
  rcases open_slice Tryz.underlying23 h with ⟨hcs, _⟩ | ⟨a, len, cap, m, n, D, Pl, hcs, hb, hl, hm, hmm, hx, hi⟩
  · simp only [List.cons.injEq, and_true] at hcs
    subst hcs
    exact ⟨[], _, _, rfl, Nat.le_refl _, Nat.zero_le _, fun h => absurd h (by simp)⟩
  · simp only [List.cons.injEq, and_true] at hcs
    subst hcs
    simp only [if_true] at hmm
    have key : ∀ i, i < len → ∃ c : Co, ∃ x y z, W.cell? (a.add (i * 3)) = some x ∧ W.cell? ((a.add (i * 3)).add 1) = some y ∧ W.cell? ((a.add (i * 3)).add 2) = some z ∧ CoAt W 0 W.heap.size x y z c := by
      intro i hil
      obtain ⟨cs', hc, ht⟩ := hi i (by omega)
      rw [Tryz.cellsCo] at hc
      obtain ⟨_, hcl, hat⟩ := World.cells?_some hc
      match cs', hcl with
      | [x, y, z], _ =>
        obtain ⟨c, hco⟩ := open_coAt ht
        exact ⟨c, x, y, z, by simpa [Addr.add] using hat 0 (by omega), hat 1 (by omega), hat 2 (by omega), hco⟩
    obtain ⟨f, hfx⟩ := choose_lt key
    have e : ((List.range len).map f).length = len := by simp
    refine ⟨(List.range len).map f, some a, cap, by rw [e], by rw [e]; exact hl, hm, fun h0 => ?_⟩
    rw [e] at h0
    obtain ⟨b, off, spot⟩ := a
    obtain ⟨x0, _, _, h00, _⟩ := hfx 0 h0
    have hspot : spot = none := by simpa [Addr.add] using World.cell?_spot h00
    subst hspot
    refine ⟨b, off, rfl, Nat.zero_le _, ?_, fun k hk => ?_⟩
    · have := World.block_lt_of_cell? W _ h00
      simpa [Addr.add] using this
    · rw [e] at hk
      obtain ⟨x, y, z, c0, c1, c2, hco⟩ := hfx k hk
      rw [add_plain] at c0 c1 c2
      rw [add_plain] at c1 c2
      refine ⟨x, y, z, c0, c1, c2, ?_⟩
      rw [List.getD_eq_getElem?_getD, List.getElem?_eq_getElem (by rw [e]; exact hk)]
      simpa using hco

set_option maxRecDepth 100000 in
/-- Types that come in by value. -/
theorem open_tyAt {r : Reach} {b0 : Nat} {v : Value} {d : DataW H} {p : List MemPlace} (hv : Value.okWide Tryz.prog W r b0 25 v) (h : DataW.Trod enc Tryz.prog W base (fun _ => true) held 25 v d p) :
    ∃ sv cv t, v = .agg #[sv, cv] ∧ TyAt W 0 W.heap.size sv cv t := by
  obtain ⟨c0, c1, y0, y1, m, rfl, _, _, hy0, hy1⟩ := open_agg2 Tryz.underlying25 (by kernel_rfl) Tryz.cellsTypes hv h
  obtain ⟨zs, hz⟩ := open_intsAt hy0
  obtain ⟨cs, hc⟩ := open_cosAt hy1
  exact ⟨c0, c1, ⟨zs, cs⟩, rfl, hz, hc⟩

set_option maxRecDepth 100000 in
/-- A coercion that comes in by value. -/
theorem open_coVal {r : Reach} {b0 : Nat} {v : Value} {d : DataW H} {p : List MemPlace} (hv : Value.okWide Tryz.prog W r b0 190 v) (h : DataW.Trod enc Tryz.prog W base (fun _ => true) held 190 v d p) :
    ∃ x y z c, v = .agg #[x, y, z] ∧ CoAt W 0 W.heap.size x y z c := by
  obtain ⟨cs, rfl, hsz⟩ := okWide_struct Tryz.underlying190 hv
  obtain ⟨l⟩ := cs
  match l, hsz.trans Tryz.cellsCo with
  | [x, y, z], _ =>
    obtain ⟨fuel, hf⟩ := h
    obtain ⟨c, hc⟩ := open_coAt (by simpa [Value.cells] using hf)
    exact ⟨x, y, z, c, rfl, hc⟩
end
end Go.Proofs.YthldlbbkbbgdkaaGreatDoor

namespace Go.Proofs.YthldlbbkbbgdkaaGreatDoor
open Go.ChangeShapes Go.WideShapes Go.ChangeAt Go.RowKit
open Go.Extern.Stop Go.Stop Go.Extern

abbrev textS : ByteArray := { data := #[116, 101, 120, 116, 32, 100, 111, 101, 115, 32, 110, 111, 116, 32, 102, 105, 116] }
noncomputable def low : Nat := (World.holding Tryz.prog default ⟨#[], #[], []⟩).heap.size
noncomputable def laidWorld (os : Os) : World :=
  let w0 := World.holding Tryz.prog os ⟨#[.cells #[.string textS] 348], #[], []⟩
  { w0 with heap := w0.heap.modify 5 fun
      | .cells _ t frozen => .cells #[.iface 310 (.pointer (some ⟨low, 0, none⟩))] t frozen
      | o => o }
theorem laid_met (os : Os) (args : Array Value) : laidMet Tryz.prog Rows.fnExactEraseMadeRow.laid ((laidWorld os).forCall (fun _ _ => 0) ⟨#[], args, []⟩).memory :=
  laidMet_of_run (ps := [.cell 5 0, .cell low 0]) 8 (by kernel_rfl) (by kernel_rfl) (by kernel_rfl)
theorem laid_metH (os : Os) (args : Array Value) : laidMetH Tryz.prog Rows.fnExactEraseMadeRow.laid ((laidWorld os).forCall (fun _ _ => 0) ⟨#[], args, []⟩).memory := laid_met os args

theorem star : "*" ++ "errors.errorString" = "*errors.errorString" := by decide
theorem rowE (u : TypeId) (h : Tryz.prog.typeName? 3 u = some "*errors.errorString") : u = 310 :=
  typeName_ptr_named (nm := "errors.errorString") (by rw [star]; kernel_rfl) (by kernel_rfl) (by decide) u (by rw [star]; exact h)
theorem cellsE : Tryz.prog.cellsOf 348 = 1 := by kernel_rfl
theorem cellsS : Tryz.prog.cellsOf 9 = 1 := by kernel_rfl
theorem var_below {W W' : World} (hb : Below W.heap.size W W') {n : String} {g : Nat} {cs : Array Value} (hg : Tryz.prog.globalNamed n = some g) (hl : g < W.heap.size) (h : W.var? Tryz.prog n = some cs) : W'.var? Tryz.prog n = some cs := by
  unfold World.var? at h ⊢
  simp only [hg, Option.bind_some] at h ⊢
  rw [hb.block g hl]
  exact h

/-- What the condition gives a walk, and how the variable reads behind it. -/
theorem errs_of_laid {H : Type} (enc : TypeId × Value → H) {W : World} (h : laidMetH Tryz.prog Rows.fnExactEraseMadeRow.laid W) :
    ∃ (n : Nat) (a : Addr), n ≤ W.heap.size ∧ Ev W n a ∧ ∀ W' : World, Below W.heap.size W W' → ∀ sp : Nat → Bool,
      DataW.TrodVars enc Tryz.prog W' sp Rows.fnExactEraseMadeSpec.vars [tok enc (.iface 310 (.pointer (some a)))] [.cell 5 0] := by
  have hL : laidMet Tryz.prog Rows.fnExactEraseMadeRow.laid W := h
  obtain ⟨a0, s0, hv0, hc0, hs0, hz0⟩ := laid_sentinel (ti := 93) (g := 5) hL (by kernel_rfl) (by kernel_rfl) Tryz.underlying93 rowE Tryz.underlying310 Tryz.underlying348 rfl rfl Tryz.underlying9 cellsE cellsS
  have k0 : W.cell? ⟨5, 0, none⟩ = some (.iface 310 (.pointer (some a0))) := by simpa using World.var?_cell (g := 5) (by kernel_rfl) hv0 0
  have l0 := World.block_lt_of_cell? _ _ k0
  simp only at l0
  refine ⟨W.heap.size, a0, Nat.le_refl _, ⟨l0, k0⟩, fun W' hb sp => ?_⟩
  exact vars_read1 enc (by kernel_rfl) (by kernel_rfl) Tryz.underlying93 (var_below hb (g := 5) (by kernel_rfl) l0 hv0) trivial sp
end Go.Proofs.YthldlbbkbbgdkaaGreatDoor

namespace Go.Proofs.YthldlbbkbbgdkaaGreatDoor
open Go.ChangeShapes Go.WideShapes Go.ChangeAt Go.RowKit Go.Joins Go.Deep

theorem Tryz.cellsFunction : Tryz.prog.cellsOf 144 = 4 := by kernel_rfl
theorem Tryz.cellsSystem : Tryz.prog.cellsOf 28 = 3 := by kernel_rfl

section
variable {H : Type} {enc : TypeId × Value → H} {W : World} {base : Nat} {held : Bool}

theorem four_fields {P : Program} {spare : Nat → Bool} {t : TypeId} {f0 f1 f2 f3 : Field} {n : Nat} {x y z u : Value} {r : DataW H × List MemPlace} (hs : P.underlying t = some (.struct #[f0, f1, f2, f3])) (hone : oneCellFields P #[f0, f1, f2, f3] = true)
    (h : DataW.trod enc P W base spare held n t [x, y, z, u] = some r) :
    ∃ (y0 y1 y2 y3 : DataW H × List MemPlace) (m : Nat), DataW.trod enc P W base spare held m f0.type [x] = some y0 ∧ DataW.trod enc P W base spare held m f1.type [y] = some y1 ∧ DataW.trod enc P W base spare held m f2.type [z] = some y2 ∧ DataW.trod enc P W base spare held m f3.type [u] = some y3 := by
  obtain ⟨ys, m, _, _, _, hyl, hf⟩ := DataW.trod_struct hs h
  obtain ⟨o0, k0⟩ := hone_of hone 0 f0 rfl
  obtain ⟨o1, k1⟩ := hone_of hone 1 f1 rfl
  obtain ⟨o2, k2⟩ := hone_of hone 2 f2 rfl
  obtain ⟨o3, k3⟩ := hone_of hone 3 f3 rfl
  match ys, hyl with
  | [y0, y1, y2, y3], _ =>
    exact ⟨y0, y1, y2, y3, m, by simpa [o0, k0] using hf 0 f0 rfl, by simpa [o1, k1] using hf 1 f1 rfl, by simpa [o2, k2] using hf 2 f2 rfl, by simpa [o3, k3] using hf 3 f3 rfl⟩

theorem two_fields {P : Program} {spare : Nat → Bool} {t : TypeId} {f0 f1 : Field} {n : Nat} {x y : Value} {r : DataW H × List MemPlace} (hs : P.underlying t = some (.struct #[f0, f1])) (hone : oneCellFields P #[f0, f1] = true)
    (h : DataW.trod enc P W base spare held n t [x, y] = some r) :
    ∃ (y0 y1 : DataW H × List MemPlace) (m : Nat), DataW.trod enc P W base spare held m f0.type [x] = some y0 ∧ DataW.trod enc P W base spare held m f1.type [y] = some y1 := by
  obtain ⟨ys, m, _, _, _, hyl, hf⟩ := DataW.trod_struct hs h
  obtain ⟨o0, k0⟩ := hone_of hone 0 f0 rfl
  obtain ⟨o1, k1⟩ := hone_of hone 1 f1 rfl
  match ys, hyl with
  | [y0, y1], _ =>
    exact ⟨y0, y1, m, by simpa [o0, k0] using hf 0 f0 rfl, by simpa [o1, k1] using hf 1 f1 rfl⟩

theorem two_one_fields {P : Program} {spare : Nat → Bool} {t : TypeId} {f0 f1 : Field} {n : Nat} {x y z : Value} {r : DataW H × List MemPlace} (hs : P.underlying t = some (.struct #[f0, f1])) (o0 : f0.offset = 0) (k0 : P.cellsOf f0.type = 2) (o1 : f1.offset = 2) (k1 : P.cellsOf f1.type = 1)
    (h : DataW.trod enc P W base spare held n t [x, y, z] = some r) :
    ∃ (y0 y1 : DataW H × List MemPlace) (m : Nat), DataW.trod enc P W base spare held m f0.type [x, y] = some y0 ∧ DataW.trod enc P W base spare held m f1.type [z] = some y1 := by
  obtain ⟨ys, m, _, _, _, hyl, hf⟩ := DataW.trod_struct hs h
  match ys, hyl with
  | [y0, y1], _ =>
    exact ⟨y0, y1, m, by simpa [o0, k0] using hf 0 f0 rfl, by simpa [o1, k1] using hf 1 f1 rfl⟩

/-- A function's four cells. -/
theorem open_fuAt {n : Nat} {x a r t : Value} {d : DataW H × List MemPlace} (h : DataW.trod enc Tryz.prog W base (fun _ => true) held n 144 [x, a, r, t] = some d) : ∃ f, FuAt W 0 W.heap.size x a r t f := by
  obtain ⟨y0, y1, y2, y3, m, e0, e1, e2, e3⟩ := four_fields Tryz.underlying144 (by kernel_rfl) h
  obtain ⟨s, es, _, hs⟩ := DataW.trod_string Tryz.underlying9 e0
  obtain ⟨zs, hz⟩ := open_intsAt e1
  obtain ⟨b, eb, _, wb⟩ := DataW.trod_int Tryz.underlying3 e2
  obtain ⟨us, hu⟩ := open_intsAt e3
  simp only [List.cons.injEq, and_true] at es eb
  exact ⟨⟨s, zs, b, us⟩, es, eb, hs, wf_I64 wb, hz, hu⟩

theorem open_fusAt {fuel : Nat} {v : Value} {x : DataW H × List MemPlace} (h : DataW.trod enc Tryz.prog W base (fun _ => true) held fuel 26 [v] = some x) : ∃ fs, FusAt W 0 W.heap.size v fs := by
  rcases open_slice Tryz.underlying26 h with ⟨hcs, _⟩ | ⟨a, len, cap, m, n, D, Pl, hcs, hb, hl, hm, hmm, hx, hi⟩
  · simp only [List.cons.injEq, and_true] at hcs
    subst hcs
    exact ⟨[], _, _, rfl, Nat.le_refl _, Nat.zero_le _, fun h => absurd h (by simp)⟩
  · simp only [List.cons.injEq, and_true] at hcs
    subst hcs
    simp only [if_true] at hmm
    have key : ∀ i, i < len → ∃ c : Fu, ∃ x y z u, W.cell? (a.add (i * 4)) = some x ∧ W.cell? ((a.add (i * 4)).add 1) = some y ∧ W.cell? ((a.add (i * 4)).add 2) = some z ∧ W.cell? ((a.add (i * 4)).add 3) = some u ∧ FuAt W 0 W.heap.size x y z u c := by
      intro i hil
      obtain ⟨cs', hc, ht⟩ := hi i (by omega)
      rw [Tryz.cellsFunction] at hc
      obtain ⟨_, hcl, hat⟩ := World.cells?_some hc
      match cs', hcl with
      | [x, y, z, u], _ =>
        obtain ⟨c, hco⟩ := open_fuAt ht
        exact ⟨c, x, y, z, u, by simpa [Addr.add] using hat 0 (by omega), hat 1 (by omega), hat 2 (by omega), hat 3 (by omega), hco⟩
    obtain ⟨f, hfx⟩ := choose_lt key
    have e : ((List.range len).map f).length = len := by simp
    refine ⟨(List.range len).map f, some a, cap, by rw [e], by rw [e]; exact hl, hm, fun h0 => ?_⟩
    rw [e] at h0
    obtain ⟨b, off, spot⟩ := a
    obtain ⟨x0, _, _, _, h00, _⟩ := hfx 0 h0
    have hspot : spot = none := by simpa [Addr.add] using World.cell?_spot h00
    subst hspot
    refine ⟨b, off, rfl, Nat.zero_le _, ?_, fun k hk => ?_⟩
    · have := World.block_lt_of_cell? W _ h00
      simpa [Addr.add] using this
    · rw [e] at hk
      obtain ⟨x, y, z, u, c0, c1, c2, c3, hco⟩ := hfx k hk
      rw [add_plain] at c0 c1 c2 c3
      rw [add_plain] at c1 c2 c3
      refine ⟨x, y, z, u, c0, c1, c2, c3, ?_⟩
      rw [List.getD_eq_getElem?_getD, List.getElem?_eq_getElem (by rw [e]; exact hk)]
      simpa using hco

set_option maxRecDepth 100000 in
/-- A system that comes in by value. -/
theorem open_syAt {r : Reach} {b0 : Nat} {v : Value} {d : DataW H} {p : List MemPlace} (hv : Value.okWide Tryz.prog W r b0 28 v) (h : DataW.Trod enc Tryz.prog W base (fun _ => true) held 28 v d p) :
    ∃ sv cv fv y, v = .agg #[sv, cv, fv] ∧ SyAt W 0 W.heap.size sv cv fv y := by
  obtain ⟨cs, rfl, hsz⟩ := okWide_struct Tryz.underlying28 hv
  obtain ⟨l⟩ := cs
  match l, hsz.trans Tryz.cellsSystem with
  | [x, y, z], _ =>
    obtain ⟨fuel, hf⟩ := h
    obtain ⟨y0, y1, m, e0, e1⟩ := two_one_fields Tryz.underlying28 (by kernel_rfl) (by kernel_rfl) (by kernel_rfl) (by kernel_rfl) (by simpa [Value.cells] using hf)
    obtain ⟨z0, z1, m2, d0, d1⟩ := two_fields Tryz.underlying25 (by kernel_rfl) e0
    obtain ⟨zs, hz⟩ := open_intsAt d0
    obtain ⟨cs, hc⟩ := open_cosAt d1
    obtain ⟨fs, hfu⟩ := open_fusAt e1
    exact ⟨x, y, z, ⟨⟨zs, cs⟩, fs⟩, rfl, ⟨hz, hc⟩, hfu⟩

set_option maxRecDepth 100000 in
/-- A function that comes in by value. -/
theorem open_fuVal {r : Reach} {b0 : Nat} {v : Value} {d : DataW H} {p : List MemPlace} (hv : Value.okWide Tryz.prog W r b0 144 v) (h : DataW.Trod enc Tryz.prog W base (fun _ => true) held 144 v d p) :
    ∃ x a r t f, v = .agg #[x, a, r, t] ∧ FuAt W 0 W.heap.size x a r t f := by
  obtain ⟨cs, rfl, hsz⟩ := okWide_struct Tryz.underlying144 hv
  obtain ⟨l⟩ := cs
  match l, hsz.trans Tryz.cellsFunction with
  | [x, y, z, u], _ =>
    obtain ⟨fuel, hf⟩ := h
    obtain ⟨c, hc⟩ := open_fuAt (by simpa [Value.cells] using hf)
    exact ⟨x, y, z, u, c, rfl, hc⟩
end
end Go.Proofs.YthldlbbkbbgdkaaGreatDoor

