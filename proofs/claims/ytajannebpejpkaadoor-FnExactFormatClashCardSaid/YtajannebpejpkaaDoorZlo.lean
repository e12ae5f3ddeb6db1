/-
  From the reading of an argument to the words for memory: gaps, clashes and doubts that come in by value.
-/
import Derived.Test.YtajannebpejpkaaDoorLift
import Derived.Test.YtajannebpejpkaaDoorZd
namespace Go.Proofs.YtajannebpejpkaaDoor
open Go.ChangeShapes Go.WideShapes Go.ChangeAt Go.RowKit Go.Joins Go.Deep

theorem Tryd.cellsGap : Tryd.prog.cellsOf 36 = 2 := by kernel_rfl
theorem Tryd.cellsClash : Tryd.prog.cellsOf 44 = 3 := by kernel_rfl
theorem Tryd.cellsDoubt : Tryd.prog.cellsOf 28 = 5 := by kernel_rfl

section
variable {H : Type} {enc : TypeId × Value → H} {W : World} {base : Nat} {held : Bool}

theorem two_fieldsZ {P : Program} {spare : Nat → Bool} {t : TypeId} {f0 f1 : Field} {n : Nat} {x y : Value} {r : DataW H × List MemPlace} (hs : P.underlying t = some (.struct #[f0, f1])) (hone : oneCellFields P #[f0, f1] = true)
    (h : DataW.trod enc P W base spare held n t [x, y] = some r) :
    ∃ (y0 y1 : DataW H × List MemPlace) (m : Nat), DataW.trod enc P W base spare held m f0.type [x] = some y0 ∧ DataW.trod enc P W base spare held m f1.type [y] = some y1 := by
  obtain ⟨ys, m, _, _, _, hyl, hf⟩ := DataW.trod_struct hs h
  obtain ⟨o0, k0⟩ := hone_of hone 0 f0 rfl
  obtain ⟨o1, k1⟩ := hone_of hone 1 f1 rfl
  match ys, hyl with
  | [y0, y1], _ =>
    exact ⟨y0, y1, m, by simpa [o0, k0] using hf 0 f0 rfl, by simpa [o1, k1] using hf 1 f1 rfl⟩

theorem five_fields {P : Program} {spare : Nat → Bool} {t : TypeId} {f0 f1 f2 f3 f4 : Field} {n : Nat} {x y z u v : Value} {r : DataW H × List MemPlace} (hs : P.underlying t = some (.struct #[f0, f1, f2, f3, f4])) (hone : oneCellFields P #[f0, f1, f2, f3, f4] = true)
    (h : DataW.trod enc P W base spare held n t [x, y, z, u, v] = some r) :
    ∃ (y0 y1 y2 y3 y4 : DataW H × List MemPlace) (m : Nat), DataW.trod enc P W base spare held m f0.type [x] = some y0 ∧ DataW.trod enc P W base spare held m f1.type [y] = some y1 ∧ DataW.trod enc P W base spare held m f2.type [z] = some y2 ∧ DataW.trod enc P W base spare held m f3.type [u] = some y3 ∧ DataW.trod enc P W base spare held m f4.type [v] = some y4 := by
  obtain ⟨ys, m, _, _, _, hyl, hf⟩ := DataW.trod_struct hs h
  obtain ⟨o0, k0⟩ := hone_of hone 0 f0 rfl
  obtain ⟨o1, k1⟩ := hone_of hone 1 f1 rfl
  obtain ⟨o2, k2⟩ := hone_of hone 2 f2 rfl
  obtain ⟨o3, k3⟩ := hone_of hone 3 f3 rfl
  obtain ⟨o4, k4⟩ := hone_of hone 4 f4 rfl
  match ys, hyl with
  | [y0, y1, y2, y3, y4], _ =>
    exact ⟨y0, y1, y2, y3, y4, m, by simpa [o0, k0] using hf 0 f0 rfl, by simpa [o1, k1] using hf 1 f1 rfl, by simpa [o2, k2] using hf 2 f2 rfl, by simpa [o3, k3] using hf 3 f3 rfl, by simpa [o4, k4] using hf 4 f4 rfl⟩

set_option maxRecDepth 100000 in
/-- A gap that comes in by value. -/
theorem open_gap {r : Reach} {b0 : Nat} {v : Value} {d : DataW H} {p : List MemPlace} (hv : Value.okWide Tryd.prog W r b0 36 v) (h : DataW.Trod enc Tryd.prog W base (fun _ => true) held 36 v d p) :
    ∃ (nm : List UInt8) (z : Value) (zs : List Int), v = .agg #[.string (str nm), z] ∧ nm.length ≤ 9223372036854775807 ∧ IntsAt W 0 W.heap.size z zs := by
  obtain ⟨cs, rfl, hsz⟩ := okWide_struct Tryd.underlying36 hv
  obtain ⟨l⟩ := cs
  match l, hsz.trans Tryd.cellsGap with
  | [x, y], _ =>
    obtain ⟨fuel, hf⟩ := h
    obtain ⟨y0, y1, m, e0, e1⟩ := two_fieldsZ Tryd.underlying36 (by kernel_rfl) (by simpa [Value.cells] using hf)
    obtain ⟨s, es, _, hs⟩ := DataW.trod_string Tryd.underlying9 e0
    obtain ⟨zs, hz⟩ := open_intsAt e1
    simp only [List.cons.injEq, and_true] at es
    subst es
    refine ⟨s.data.toList, y, zs, by rw [str_list], ?_, hz⟩
    exact hs

set_option maxRecDepth 100000 in
/-- A clash that comes in by value. -/
theorem open_clash {r : Reach} {b0 : Nat} {v : Value} {d : DataW H} {p : List MemPlace} (hv : Value.okWide Tryd.prog W r b0 44 v) (h : DataW.Trod enc Tryd.prog W base (fun _ => true) held 44 v d p) :
    ∃ (a b : Int) (z : Value) (zs : List Int), v = .agg #[.int .i64 a, .int .i64 b, z] ∧ I64 a ∧ I64 b ∧ IntsAt W 0 W.heap.size z zs := by
  obtain ⟨cs, rfl, hsz⟩ := okWide_struct Tryd.underlying44 hv
  obtain ⟨l⟩ := cs
  match l, hsz.trans Tryd.cellsClash with
  | [x, y, z], _ =>
    obtain ⟨fuel, hf⟩ := h
    obtain ⟨y0, y1, y2, m, e0, e1, e2⟩ := three_fields Tryd.underlying44 (by kernel_rfl) (by simpa [Value.cells] using hf)
    obtain ⟨a, ea, _, wa⟩ := DataW.trod_int Tryd.underlying3 e0
    obtain ⟨b, eb, _, wb⟩ := DataW.trod_int Tryd.underlying3 e1
    obtain ⟨zs, hz⟩ := open_intsAt e2
    simp only [List.cons.injEq, and_true] at ea eb
    subst ea eb
    exact ⟨a, b, z, zs, rfl, wf_I64 wa, wf_I64 wb, hz⟩

set_option maxRecDepth 100000 in
/-- A doubt that comes in by value. -/
theorem open_doubt {r : Reach} {b0 : Nat} {v : Value} {d : DataW H} {p : List MemPlace} (hv : Value.okWide Tryd.prog W r b0 28 v) (h : DataW.Trod enc Tryd.prog W base (fun _ => true) held 28 v d p) :
    ∃ (a b c : Int) (z u : Value) (zs ys : List Int), v = .agg #[.int .i64 a, .int .i64 b, .int .i64 c, z, u] ∧ I64 a ∧ I64 b ∧ I64 c ∧ IntsAt W 0 W.heap.size z zs ∧ IntsAt W 0 W.heap.size u ys := by
  obtain ⟨cs, rfl, hsz⟩ := okWide_struct Tryd.underlying28 hv
  obtain ⟨l⟩ := cs
  match l, hsz.trans Tryd.cellsDoubt with
  | [x, y, z, u, q], _ =>
    obtain ⟨fuel, hf⟩ := h
    obtain ⟨y0, y1, y2, y3, y4, m, e0, e1, e2, e3, e4⟩ := five_fields Tryd.underlying28 (by kernel_rfl) (by simpa [Value.cells] using hf)
    obtain ⟨a, ea, _, wa⟩ := DataW.trod_int Tryd.underlying3 e0
    obtain ⟨b, eb, _, wb⟩ := DataW.trod_int Tryd.underlying3 e1
    obtain ⟨c, ec, _, wc⟩ := DataW.trod_int Tryd.underlying3 e2
    obtain ⟨zs, hz⟩ := open_intsAt e3
    obtain ⟨ys, hy⟩ := open_intsAt e4
    simp only [List.cons.injEq, and_true] at ea eb ec
    subst ea eb ec
    exact ⟨a, b, c, u, q, zs, ys, rfl, wf_I64 wa, wf_I64 wb, wf_I64 wc, hz, hy⟩
end
end Go.Proofs.YtajannebpejpkaaDoor
