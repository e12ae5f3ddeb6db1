/-
  From the reading of an argument to the words for memory: types and a coercion that come in by value.
-/
import Derived.Test.YthldlbbkbbgdkaaDoorRows
import Derived.Test.YthldlbbkbbgdkaaDoorMem
import Derived.WalkKit
import Derived.ProofKit
import Derived.OpenShut
import Derived.Lib.SmallJoins
import Derived.Deep.Slices
import Derived.Deep.Fields
namespace Go.Proofs.YthldlbbkbbgdkaaDoor
open Go.ChangeShapes Go.WideShapes Go.ChangeAt Go.RowKit Go.Joins Go.Deep

theorem Tryd.own : ownKnob Tryd.prog.godebug = none := by kernel_rfl
theorem Tryd.laidOut : laidOutB Tryd.prog = true := by kernel_rfl
theorem Tryd.cellsInt : Tryd.prog.cellsOf 3 = 1 := by kernel_rfl
theorem Tryd.cellsTypes : Tryd.prog.cellsOf 29 = 2 := by kernel_rfl
theorem Tryd.cellsCo : Tryd.prog.cellsOf 110 = 3 := by kernel_rfl

theorem wf_I64 {z : Int} (h : (Lit.int .i64 z).wf = true) : I64 z := by
  simpa [Lit.wf, IntKind.min, IntKind.max, IntKind.signed, IntKind.bits, I64] using h

section
variable {H : Type} {enc : TypeId × Value → H} {W : World} {base : Nat} {held : Bool}

/-- A slice of ints that comes in. -/
theorem open_intsAt {fuel : Nat} {v : Value} {x : DataW H × List MemPlace} (h : DataW.trod enc Tryd.prog W base (fun _ => true) held fuel 22 [v] = some x) : ∃ zs, IntsAt W 0 W.heap.size v zs := by
  rcases open_ints Tryd.underlying22 Tryd.underlying3 Tryd.cellsInt h with ⟨hcs, _⟩ | ⟨a, len, cap, zs, hcs, _, hl, hm, hz, _, hcell, hwz⟩
  · simp only [List.cons.injEq, and_true] at hcs
    subst hcs
    exact ⟨[], _, _, rfl, Nat.le_refl _, Nat.zero_le _, fun z hz => absurd hz (by simp), fun h => absurd h (by simp)⟩
  · simp only [List.cons.injEq, and_true] at hcs
    subst hcs
    simp only [if_true] at hz
    have e : (zs.take len).length = len := by rw [List.length_take]; omega
    refine ⟨zs.take len, some a, cap, by rw [e], by rw [e]; exact hl, hm, fun z hzm => wf_I64 (hwz z (List.mem_of_mem_take hzm)), fun h0 => ?_⟩
    rw [e] at h0
    obtain ⟨b, off, spot⟩ := a
    have hspot : spot = none := by simpa [Addr.add] using World.cell?_spot (hcell 0 (by omega))
    subst hspot
    refine ⟨b, off, rfl, Nat.zero_le _, World.block_lt_of_cell? W _ (hcell 0 (by omega)), fun k hk => ?_⟩
    rw [e] at hk
    rw [← add_plain, hcell k (by omega), List.getD_eq_getElem?_getD, List.getD_eq_getElem?_getD, List.getElem?_take_of_lt hk]

theorem three_fields {P : Program} {spare : Nat → Bool} {t : TypeId} {f0 f1 f2 : Field} {n : Nat} {x y z : Value} {r : DataW H × List MemPlace} (hs : P.underlying t = some (.struct #[f0, f1, f2])) (hone : oneCellFields P #[f0, f1, f2] = true)
    (h : DataW.trod enc P W base spare held n t [x, y, z] = some r) :
    ∃ (y0 y1 y2 : DataW H × List MemPlace) (m : Nat), DataW.trod enc P W base spare held m f0.type [x] = some y0 ∧ DataW.trod enc P W base spare held m f1.type [y] = some y1 ∧ DataW.trod enc P W base spare held m f2.type [z] = some y2 := by
  obtain ⟨ys, m, _, _, _, hyl, hf⟩ := DataW.trod_struct hs h
  obtain ⟨o0, k0⟩ := hone_of hone 0 f0 rfl
  obtain ⟨o1, k1⟩ := hone_of hone 1 f1 rfl
  obtain ⟨o2, k2⟩ := hone_of hone 2 f2 rfl
  match ys, hyl with
  | [y0, y1, y2], _ =>
    exact ⟨y0, y1, y2, m, by simpa [o0, k0] using hf 0 f0 rfl, by simpa [o1, k1] using hf 1 f1 rfl, by simpa [o2, k2] using hf 2 f2 rfl⟩

/-- A coercion's three cells. -/
theorem open_coAt {n : Nat} {x y z : Value} {r : DataW H × List MemPlace} (h : DataW.trod enc Tryd.prog W base (fun _ => true) held n 110 [x, y, z] = some r) : ∃ c, CoAt W 0 W.heap.size x y z c := by
  obtain ⟨y0, y1, y2, m, e0, e1, e2⟩ := three_fields Tryd.underlying110 (by kernel_rfl) h
  obtain ⟨a, ea, _, wa⟩ := DataW.trod_int Tryd.underlying3 e0
  obtain ⟨b, eb, _, wb⟩ := DataW.trod_int Tryd.underlying3 e1
  obtain ⟨zs, hz⟩ := open_intsAt e2
  simp only [List.cons.injEq, and_true] at ea eb
  exact ⟨⟨a, b, zs⟩, ea, eb, wf_I64 wa, wf_I64 wb, hz⟩

theorem open_cosAt {fuel : Nat} {v : Value} {x : DataW H × List MemPlace} (h : DataW.trod enc Tryd.prog W base (fun _ => true) held fuel 27 [v] = some x) : ∃ cs, CosAt W 0 W.heap.size v cs := by
  rcases open_slice Tryd.underlying27 h with ⟨hcs, _⟩ | ⟨a, len, cap, m, n, D, Pl, hcs, hb, hl, hm, hmm, hx, hi⟩
  · simp only [List.cons.injEq, and_true] at hcs
    subst hcs
    exact ⟨[], _, _, rfl, Nat.le_refl _, Nat.zero_le _, fun h => absurd h (by simp)⟩
  · simp only [List.cons.injEq, and_true] at hcs
    subst hcs
    simp only [if_true] at hmm
    have key : ∀ i, i < len → ∃ c : Co, ∃ x y z, W.cell? (a.add (i * 3)) = some x ∧ W.cell? ((a.add (i * 3)).add 1) = some y ∧ W.cell? ((a.add (i * 3)).add 2) = some z ∧ CoAt W 0 W.heap.size x y z c := by
      intro i hil
      obtain ⟨cs', hc, ht⟩ := hi i (by omega)
      rw [Tryd.cellsCo] at hc
      obtain ⟨_, hcl, hat⟩ := World.cells?_some hc
      match cs', hcl with
      | [x, y, z], _ =>
        obtain ⟨c, hco⟩ := open_coAt ht
        exact ⟨c, x, y, z, by simpa [Addr.add] using hat 0 (by omega), hat 1 (by omega), hat 2 (by omega), hco⟩
    obtain ⟨f, hfx⟩ := choose_lt key
    have e : ((List.range len).map f).length = len := by simp
    refine ⟨(List.range len).map f, some a, cap, by rw [e], by rw [e]; exact hl, hm, fun h0 => ?_⟩
    rw [e] at h0
    obtain ⟨b, off, spot⟩ := a
    obtain ⟨x0, _, _, h00, _⟩ := hfx 0 h0
    have hspot : spot = none := by simpa [Addr.add] using World.cell?_spot h00
    subst hspot
    refine ⟨b, off, rfl, Nat.zero_le _, ?_, fun k hk => ?_⟩
    · have := World.block_lt_of_cell? W _ h00
      simpa [Addr.add] using this
    · rw [e] at hk
      obtain ⟨x, y, z, c0, c1, c2, hco⟩ := hfx k hk
      rw [add_plain] at c0 c1 c2
      rw [add_plain] at c1 c2
      refine ⟨x, y, z, c0, c1, c2, ?_⟩
      rw [List.getD_eq_getElem?_getD, List.getElem?_eq_getElem (by rw [e]; exact hk)]
      simpa using hco

set_option maxRecDepth 100000 in
/-- Types that come in by value. -/
theorem open_tyAt {r : Reach} {b0 : Nat} {v : Value} {d : DataW H} {p : List MemPlace} (hv : Value.okWide Tryd.prog W r b0 29 v) (h : DataW.Trod enc Tryd.prog W base (fun _ => true) held 29 v d p) :
    ∃ sv cv t, v = .agg #[sv, cv] ∧ TyAt W 0 W.heap.size sv cv t := by
  obtain ⟨c0, c1, y0, y1, m, rfl, _, _, hy0, hy1⟩ := open_agg2 Tryd.underlying29 (by kernel_rfl) Tryd.cellsTypes hv h
  obtain ⟨zs, hz⟩ := open_intsAt hy0
  obtain ⟨cs, hc⟩ := open_cosAt hy1
  exact ⟨c0, c1, ⟨zs, cs⟩, rfl, hz, hc⟩

set_option maxRecDepth 100000 in
/-- A coercion that comes in by value. -/
theorem open_coVal {r : Reach} {b0 : Nat} {v : Value} {d : DataW H} {p : List MemPlace} (hv : Value.okWide Tryd.prog W r b0 110 v) (h : DataW.Trod enc Tryd.prog W base (fun _ => true) held 110 v d p) :
    ∃ x y z c, v = .agg #[x, y, z] ∧ CoAt W 0 W.heap.size x y z c := by
  obtain ⟨cs, rfl, hsz⟩ := okWide_struct Tryd.underlying110 hv
  obtain ⟨l⟩ := cs
  match l, hsz.trans Tryd.cellsCo with
  | [x, y, z], _ =>
    obtain ⟨fuel, hf⟩ := h
    obtain ⟨c, hc⟩ := open_coAt (by simpa [Value.cells] using hf)
    exact ⟨x, y, z, c, rfl, hc⟩
end
end Go.Proofs.YthldlbbkbbgdkaaDoor
