/-
  The contract of the program's StepMade.
-/
import Derived.Test.YtdemcoghgnnheaaGreatDoorK14
import Derived.Test.YtdemcoghgnnheaaGreatDoorK16
import Derived.Test.YtdemcoghgnnheaaGreatDoorK9
namespace Go.Proofs.YtdemcoghgnnheaaGreatDoor
open Go.RowKit Go.Shelf
attribute [local go_sem] Oper.semAt_some

theorem layX4 : Builder.Extra Tryz.prog lays154_ren := {
  sizeBuilder := by kernel_rfl
  liesBuilder := by kernel_rfl
  t5 := Tryz.underlying5
  a5 := Tryz.isAgg5
  z5 := Tryz.sizeOf5
  v5 := Tryz.zeroValue5
  infoByte := by kernel_rfl
  cellsByte := by kernel_rfl
  sizeByte := by kernel_rfl
  neB5 := by decide }
/-- The library's variable MaxLen holds some number. -/
def ML (w : World) : Prop := ∃ m, w.cell? ⟨6, 0, none⟩ = some (.int .i64 m)
theorem ML.lt {w : World} (h : ML w) : 6 < w.heap.size := by
  obtain ⟨m, h⟩ := h
  exact World.block_lt_of_cell? _ _ h
theorem ML.below {B : Nat} {w w' : World} (h : ML w) (hb : Below B w w') (hB : 6 < B) : ML w' := by
  obtain ⟨m, h⟩ := h
  exact ⟨m, (hb.cell (p := ⟨6, 0, none⟩) hB).trans h⟩

theorem rep_any {y : Sy} (hy : SyOk y) {m p : Mk} (hok : MkOk y m) (hf : fstM m = some p) (hl : (mkT m).length ≤ 1000) (w : World) (hm : ML w) :
    Calls Tryz.prog 65 #[.string (str (mkT m)), .string (str (mkT p)), .string (str (mkT (norM y p))), .int .i64 1] w fun e w' => e = .returned (.string (str (stepT y m))) ∧ Below w.heap.size w w' := by
  obtain ⟨q, hm⟩ := hm
  obtain ⟨h1, h2, h3⟩ := step_replace hy hok hf
  have e0 : ∀ l : List UInt8, (str l).data.toList = l := fun l => by simp [str]
  have hc : Lib.countB (str (mkT m)) (str (mkT p)) = Lib.count (mkT m) (mkT p) := by
    show Lib.count (str (mkT m)).data.toList (str (mkT p)).data.toList = _
    rw [e0, e0]
  have hp0 : 1 ≤ (mkT p).length := by cases p <;> simp [mkT, dg]
  have h := Any.strings_Replace_some { lays154 with } layX4 (str (mkT m)) (str (mkT p)) (str (mkT (norM y p))) 1 q w (by rw [str_size]; omega) hm (by rw [str_size]; exact hp0) (fun e => h3 (by rw [← e0 (mkT p), e, e0])) (by decide) (by rw [hc]; exact h2) (by
    have hle := Lib.countB_le (str (mkT p)) (by rw [str_size]; exact hp0) _ (str (mkT m)) (Nat.le_refl _)
    rw [str_size] at hle ⊢
    have h3 : (str (mkT (norM y p))).size = 3 := by rw [str_size]; rfl
    rw [h3]
    omega)
  refine Calls.mono h ?_
  rintro e w' ⟨rfl, hb⟩
  refine ⟨?_, hb⟩
  rw [e0, e0, e0, h1]
  rfl

/-- What holds in StepMade's own loop. -/
structure InQ (W2 : World) (s : List Mk) (O : Nat → Prop) (A : World) : Prop where
  lo : ∀ b, O b → W2.heap.size ≤ b ∧ b < A.heap.size
  sz : W2.heap.size + 1 < A.heap.size
  bel : Below W2.heap.size W2 A
  lit : ∀ x ∈ s, litM x = true
/-- What holds when it has been left. -/
structure OutT (w : World) (d r1 r2 : Nat) (v : Value) (O : Nat → Prop) (A : World) : Prop where
  lo : ∀ b, O b → d ≤ b ∧ b < A.heap.size
  sz : d + 1 < A.heap.size
  bel : Below w.heap.size w A
  c1 : Row A r1 9 [v]
  c2 : Row A r2 4 [.bool true]
section
variable {w A C W2 : World} {d r1 r2 : Nat} {v : Value} {s : List Mk} {O O' : Nat → Prop}
theorem InQ.step (h : InQ W2 s O A) (hk : Kept (fun k => ¬ O k) A C) : InQ W2 s (fun k => O k ∨ (A.heap.size ≤ k ∧ k < C.heap.size)) C := by
  have hs := hk.size
  have hz := h.sz
  exact ⟨fun b hb => hb.elim (fun h1 => ⟨(h.lo b h1).1, by have := (h.lo b h1).2; omega⟩) (fun h1 => ⟨by omega, h1.2⟩), by omega, h.bel.trans (kept_below hk (fun k hk' ho' => by have := (h.lo k ho').1; omega) (by omega)), h.lit⟩
theorem InQ.give (h : InQ W2 s O A) (hs : ∀ k, O' k → O k) : InQ W2 s O' A := ⟨fun b hb => h.lo b (hs b hb), h.sz, h.bel, h.lit⟩
theorem InQ.put (h : InQ W2 s O A) {k : Nat} (o : Obj) (h1 : W2.heap.size ≤ k) : InQ W2 s O (A.putObj k o) :=
  ⟨fun b hb => by simpa using h.lo b hb, by simpa using h.sz, h.bel.trans (kept_below (S := fun b => b < W2.heap.size) (kept_put (by omega)) (fun k hk => by omega) h.bel.size), h.lit⟩
theorem OutT.step (h1' : r1 < d) (h2' : r2 < d) (hwd : w.heap.size ≤ d) (h : OutT w d r1 r2 v O A) (hk : Kept (fun k => ¬ O k) A C) : OutT w d r1 r2 v (fun k => O k ∨ (A.heap.size ≤ k ∧ k < C.heap.size)) C := by
  have hs := hk.size
  have hz := h.sz
  exact ⟨fun b hb => hb.elim (fun h1 => ⟨(h.lo b h1).1, by have := (h.lo b h1).2; omega⟩) (fun h1 => ⟨by omega, h1.2⟩), by omega, h.bel.trans (kept_below hk (fun k hk' ho' => by have := (h.lo k ho').1; omega) (by omega)), h.c1.keep (hk.block r1 h.c1.lt fun ho => by have := (h.lo _ ho).1; omega), h.c2.keep (hk.block r2 h.c2.lt fun ho => by have := (h.lo _ ho).1; omega)⟩
theorem OutT.give (h : OutT w d r1 r2 v O A) (hs : ∀ k, O' k → O k) : OutT w d r1 r2 v O' A := ⟨fun b hb => h.lo b (hs b hb), h.sz, h.bel, h.c1, h.c2⟩
theorem OutT.put (h1' : r1 < d) (h2' : r2 < d) (hwd : w.heap.size ≤ d) (h : OutT w d r1 r2 v O A) {k : Nat} (o : Obj) (h1 : d ≤ k) : OutT w d r1 r2 v O (A.putObj k o) :=
  ⟨fun b hb => by simpa using h.lo b hb, by simpa using h.sz, h.bel.trans (kept_below (S := fun b => b < d) (kept_put (by omega)) (fun k hk => by omega) h.bel.size), h.c1.keep (puts8 (by omega)), h.c2.keep (puts8 (by omega))⟩
end
theorem out_make {w w2 W1 W2 A wE u3 : World} {s : List Mk} {O : Nat → Prop} {v v0 v1 : Value} {fs : Bool} (hd2 : W2.heap.size = w2.heap.size + 2) (hs1 : W1.heap.size = w.heap.size + 4) (hs2 : W1.heap.size ≤ w2.heap.size) (hI : InQ W2 s O A) (hwA : Below w.heap.size w A) (hAE : Below A.heap.size A wE) (hEu : Below wE.heap.size wE u3) (hr1 : Row u3 (w.heap.size + 2) 9 [v0]) (hr2 : Row u3 (w.heap.size + 3) 4 [v1]) (hfs : fs = true) :
    Kept (fun k => O k ∨ k = W2.heap.size ∨ k = W2.heap.size + 1) A ((u3.setCell ⟨w.heap.size + 2, 0, none⟩ v).setCell ⟨w.heap.size + 3, 0, none⟩ (.bool true)) ∧ Code.ret = Code.ret ∧ fs = true ∧ OutT w W2.heap.size (w.heap.size + 2) (w.heap.size + 3) v O ((u3.setCell ⟨w.heap.size + 2, 0, none⟩ v).setCell ⟨w.heap.size + 3, 0, none⟩ (.bool true)) := by
  have hAu : Below A.heap.size A u3 := hAE.trans (hEu.mono hAE.size)
  have hsA := hAu.size
  have hz := hI.sz
  have hws := hwA.size
  have hset : ∀ k, k ≠ w.heap.size + 2 → k ≠ w.heap.size + 3 → ((u3.setCell ⟨w.heap.size + 2, 0, none⟩ v).setCell ⟨w.heap.size + 3, 0, none⟩ (.bool true)).heap[k]? = u3.heap[k]? := fun k h1 h2 => (Below.heap_setCell _ _ _ _ h2).trans (Below.heap_setCell _ _ _ _ h1)
  have hsz : ((u3.setCell ⟨w.heap.size + 2, 0, none⟩ v).setCell ⟨w.heap.size + 3, 0, none⟩ (.bool true)).heap.size = u3.heap.size := by simp [World.setCell]
  refine ⟨⟨hAu.os, hAu.tape, hAu.output, by omega, fun k hk hS => (hset k ?_ ?_).trans (hAu.block k hk)⟩, rfl, hfs, ⟨fun b hb => ⟨(hI.lo b hb).1, by have := (hI.lo b hb).2; omega⟩, by omega, ⟨hAu.os.trans hwA.os, hAu.tape.trans hwA.tape, hAu.output.trans hwA.output, by omega, fun k hk => (hset k (by omega) (by omega)).trans ((hAu.block k (by omega)).trans (hwA.block k hk))⟩, (hr1.set_ 0 v).far (by simp) _, (hr2.far (by simp) v).set_ 0 _⟩⟩
  · rcases hS with h | h | h
    · have := (hI.lo k h).1; omega
    · omega
    · omega
  · rcases hS with h | h | h
    · have := (hI.lo k h).1; omega
    · omega
    · omega
/-- The world behind the first j of the operations of the last region. -/
def WRep (wE : World) (r1 r2 : Nat) (v : Value) : Nat → World → Prop
  | 4, u => ∃ u', Below wE.heap.size wE u' ∧ u = u'.setCell ⟨r1, 0, none⟩ v
  | 5, u => ∃ u', Below wE.heap.size wE u' ∧ u = (u'.setCell ⟨r1, 0, none⟩ v).setCell ⟨r2, 0, none⟩ (.bool true)
  | _, u => Below wE.heap.size wE u

theorem WRep.bel {wE u : World} {r1 r2 j : Nat} {v : Value} (hj : j ≤ 3) (h : WRep wE r1 r2 v j u) : Below wE.heap.size wE u := by
  match j, hj, h with
  | 0, _, h => exact h
  | 1, _, h => exact h
  | 2, _, h => exact h
  | 3, _, h => exact h
/-- The step of a text as an explicit term. -/
noncomputable def smT (y : Sy) (L : List UInt8) : List UInt8 := match readM y L with
  | some m => stepT y m
  | none => []
noncomputable def smB (y : Sy) (L : List UInt8) : Bool := match readM y L with
  | some m => (fstM m).isSome
  | none => false
theorem smT_some {y : Sy} {L : List UInt8} {m : Mk} (h : readM y L = some m) : smT y L = stepT y m := by unfold smT; rw [h]
theorem smB_some {y : Sy} {L : List UInt8} {m : Mk} (h : readM y L = some m) : smB y L = (fstM m).isSome := by unfold smB; rw [h]
theorem smT_none {y : Sy} {L : List UInt8} (h : readM y L = none) : smT y L = [] := by unfold smT; rw [h]
theorem smB_none {y : Sy} {L : List UInt8} (h : readM y L = none) : smB y L = false := by unfold smB; rw [h]
theorem flat_not {p : Mk} (h : flatM p = true) : litM p = false := by cases p <;> first | rfl | cases h
theorem it_all_lit {m : Mk} (h : ∀ x ∈ itM m, litM x = true) : fstM m = none := by
  cases hf : fstM m with
  | none => rfl
  | some p =>
    obtain ⟨l1, l2, e, _⟩ := fstM_it hf
    have h1 := h p (by rw [e]; simp)
    rw [flat_not (fstM_flat hf)] at h1
    cases h1
theorem it_first {m p : Mk} {s t : List Mk} (h : itM m = s ++ p :: t) (hs : ∀ x ∈ s, litM x = true) (hp : litM p = false) : fstM m = some p := by
  cases hf : fstM m with
  | none =>
    have h1 := litM_all (fstM_lit.1 hf) p (by rw [h]; simp)
    rw [hp] at h1
    cases h1
  | some q =>
    obtain ⟨l1, l2, e, hl⟩ := fstM_it hf
    have h2 := fstM_flat hf
    have hq : litM q = false := flat_not h2
    rw [e] at h
    rw [fst_unique h hl hs hq hp]

theorem asKL (x : Value) (w : World) : (Instr.typeAssert (.iface 193 x) 66 89 true).run Tryz.prog w = .ok (.tuple #[.agg #[.int .i64 0, .int .i64 0], .bool false]) w := by
  simp [Instr.typeAssert, run_underlying Tryz.underlying89, Tryz.zeroValue89]
theorem asAL (x : Value) (w : World) : (Instr.typeAssert (.iface 202 x) 66 89 true).run Tryz.prog w = .ok (.tuple #[.agg #[.int .i64 0, .int .i64 0], .bool false]) w := by
  simp [Instr.typeAssert, run_underlying Tryz.underlying89, Tryz.zeroValue89]
theorem not_lit {w : World} {B : Nat} {p : Mk} {o : Value} (h : MNodeAt w B p o) (hp : litM p = false) : ∃ T x, o = .iface T x ∧ ∀ w : World, (Instr.typeAssert (.iface T x) 66 89 true).run Tryz.prog w = .ok (.tuple #[.agg #[.int .i64 0, .int .i64 0], .bool false]) w := by
  cases p with
  | lit k v => cases hp
  | co i m => obtain ⟨v, e, _⟩ := h; exact ⟨_, _, e, asKL _⟩
  | a0 i => obtain ⟨ps, e, _⟩ := h; exact ⟨_, _, e, asAL _⟩
  | a1 i m => obtain ⟨ps, v, e, _⟩ := h; exact ⟨_, _, e, asAL _⟩
  | a2 i m q => obtain ⟨ps, v, v2, e, _⟩ := h; exact ⟨_, _, e, asAL _⟩
set_option maxRecDepth 100000 in
set_option maxHeartbeats 4000000 in
theorem implStepMade_any (lo hi n : Nat) (a : Addr) (sv cv fv : Value) (y : Sy) (L : List UInt8) (w : World) (hv : SyAt w lo hi sv cv fv y) (hB : hi ≤ w.heap.size) (he : Ev w n a) (hn : n ≤ w.heap.size) (hm : L.length ≤ 1048576) (hml : ML w) :
    Calls Tryz.prog 39 #[.agg #[sv, cv, fv], .string (str L)] w fun e w' => e = .returned (.tuple #[.string (str (smT y L)), .bool (smB y L)]) ∧ Below w.heap.size w w' := by
  obtain ⟨A1, cap1, rfl, _, _, _⟩ := hv.1.1.form
  obtain ⟨A2, cap2, rfl, _, _, _⟩ := hv.1.2.form
  obtain ⟨A3, cap3, rfl, _, _, _⟩ := hv.2.form
  obtain ⟨W1, hW1⟩ : ∃ u, u = (((w.alloc (.cells #[.slice A1 y.ty.sizes.length cap1, .slice A2 y.ty.cos.length cap2, .slice A3 y.fs.length cap3] 37)).alloc (.cells #[.string (str L)] 9)).alloc (.cells #[.string ⟨#[]⟩] 9)).alloc (.cells #[.bool false] 4) := ⟨_, rfl⟩
  have hs1 : W1.heap.size = w.heap.size + 4 := by rw [hW1]; simp
  have hb1 : Below w.heap.size w W1 := by rw [hW1]; go_grown
  have R0 : Row W1 w.heap.size 37 [.slice A1 y.ty.sizes.length cap1, .slice A2 y.ty.cos.length cap2, .slice A3 y.fs.length cap3] := by rw [hW1]; exact (((Row.new w _ _).alloc _).alloc _).alloc _
  have R1 : Row W1 (w.heap.size + 1) 9 [.string (str L)] := by
    rw [hW1]
    have h := Row.new (w.alloc (.cells #[.slice A1 y.ty.sizes.length cap1, .slice A2 y.ty.cos.length cap2, .slice A3 y.fs.length cap3] 37)) 9 [.string (str L)]
    rw [World.size_alloc] at h
    exact (h.alloc _).alloc _
  have R2 : Row W1 (w.heap.size + 1 + 1) 9 [.string ⟨#[]⟩] := by
    rw [hW1]
    have h := Row.new ((w.alloc (.cells #[.slice A1 y.ty.sizes.length cap1, .slice A2 y.ty.cos.length cap2, .slice A3 y.fs.length cap3] 37)).alloc (.cells #[.string (str L)] 9)) 9 [.string ⟨#[]⟩]
    rw [World.size_alloc, World.size_alloc] at h
    exact h.alloc _
  have R3 : Row W1 (w.heap.size + 1 + 1 + 1) 4 [.bool false] := by
    rw [hW1]
    have h := Row.new (((w.alloc (.cells #[.slice A1 y.ty.sizes.length cap1, .slice A2 y.ty.cos.length cap2, .slice A3 y.fs.length cap3] 37)).alloc (.cells #[.string (str L)] 9)).alloc (.cells #[.string ⟨#[]⟩] 9)) 4 [.bool false]
    rw [World.size_alloc, World.size_alloc, World.size_alloc] at h
    exact h
  have HR := Lib.hid (readMade_any lo hi n a _ _ _ y L W1 (hv.below hb1 hB) (Nat.le_trans hB hb1.size) (he.keep (b := w.heap.size) ((Keep.refl _ _).of_below hb1) hn) (Nat.le_trans hn hb1.size) hm)
  have p0 := R0.cell 0
  have p1 := R0.cell 1
  have p2 := R0.cell 2
  have p3 := R1.cell 0
  simp only [List.getElem?_cons_zero, List.getElem?_cons_succ] at p0 p1 p2 p3
  have HB1 := Lib.hid hb1
  have HV := Lib.hid hv
  have H0 := Lib.hid R0
  have H1 := Lib.hid R1
  have H2 := Lib.hid R2
  have H3 := Lib.hid R3
  have HML := Lib.hid (hml.below hb1 hml.lt)
  have hgl := hml.lt
  clear hv hb1 R0 R1 R2 R3 he hml
  rw [hW1] at p0 p1 p2 p3
  refine (callsIn_wide (n := 9)).1 ?_
  refine callsIn_of_wp_marks Tryz.func39 rfl trivial (wpIn_wide.2 ?_) rfl
  simp only [Tryz.ntmps39, List.size_toArray, List.length_cons, List.length_nil, Nat.reduceAdd, Nat.reduceSub, Array.replicate_succ, Array.replicate_zero, List.push_toArray, List.append_toArray, List.nil_append, List.cons_append]
  go_wp2_with fail
  rw [← hW1]
  clear p0 p1 p2 p3 hW1
  refine HR.out.mono ?_
  rintro e w2 ⟨⟨m, o, hr, hok, rfl, hno⟩ | ⟨hr, rfl⟩, hb2⟩
  · have hs2 := hb2.size
    have HB2 := Lib.hid (HB1.out.trans (hb2.mono HB1.out.size))
    have G0 := Lib.hid (H0.out.below hb2 H0.out.lt)
    have G1 := Lib.hid (H1.out.below hb2 H1.out.lt)
    have G2 := Lib.hid (H2.out.below hb2 H2.out.lt)
    have G3 := Lib.hid (H3.out.below hb2 H3.out.lt)
    have HM2 := Lib.hid (HML.out.below hb2 HML.out.lt)
    obtain ⟨hsyok, rfl, hl4, -⟩ := readM_text hr
    have E1 := Lib.hid (smT_some hr)
    have E2 := Lib.hid (smB_some hr)
    obtain ⟨BB, HNO⟩ : ∃ BB, Hid (MNodeAt w2 BB m o) := ⟨_, Lib.hid hno⟩
    obtain ⟨T, x, rfl⟩ := HNO.out.form
    have hil := itM_len m
    have p0 := G0.out.cell 0
    have p1 := G0.out.cell 1
    have p2 := G0.out.cell 2
    simp only [List.getElem?_cons_zero, List.getElem?_cons_succ] at p0 p1 p2
    have HSA := Lib.hid (steps_any A1 A2 A3 y.ty.sizes.length y.ty.cos.length y.fs.length cap1 cap2 cap3 T x w2)
    obtain ⟨W2, hW2⟩ : ∃ u, u = (w2.alloc (.cells #[.slice A1 y.ty.sizes.length cap1, .slice A2 y.ty.cos.length cap2, .slice A3 y.fs.length cap3] 37)).alloc (.cells #[.iface T x] 66) := ⟨_, rfl⟩
    have hd2 : W2.heap.size = w2.heap.size + 2 := by rw [hW2]; simp
    have HB3 : Hid (Below w2.heap.size w2 W2) := by show Below _ _ _; rw [hW2]; go_grown
    have R8 : Hid (Row W2 w2.heap.size 37 [.slice A1 y.ty.sizes.length cap1, .slice A2 y.ty.cos.length cap2, .slice A3 y.fs.length cap3]) := by
      show Row _ _ _ _
      rw [hW2]
      exact (Row.new w2 _ _).alloc _
    have R9 : Hid (Row W2 (w2.heap.size + 1) 66 [.iface T x]) := by
      show Row _ _ _ _
      rw [hW2]
      have h := Row.new (w2.alloc (.cells #[.slice A1 y.ty.sizes.length cap1, .slice A2 y.ty.cos.length cap2, .slice A3 y.fs.length cap3] 37)) 66 [.iface T x]
      rw [World.size_alloc] at h
      exact h
    have HI := Lib.hid (iters8 lo hi BB _ _ _ y hsyok w2 (HV.out.below HB2.out hB) (Nat.le_trans hB HB2.out.size) 1000 (Nat.le_refl _) m (.iface T x) (by omega) hok HNO.out)
    clear hr hno hb2 HR H0 H1 H2 H3 HML HB1
    go_wp2_with fail
    refine HSA.out.mono ?_
    rintro e wx ⟨rfl, rfl⟩
    clear HSA p0 p1 p2
    go_wp2_with fail
    rw [← hW2]
    clear hW2
    refine wpIn_wide.1 (range2_law (n := 9) (y := y) (w0 := w2) (B := BB) (fun v1 v2 => { tmps := #[.agg #[.slice A1 y.ty.sizes.length cap1, .slice A2 y.ty.cos.length cap2, .slice A3 y.fs.length cap3], .string (str (mkT m)), .pointer (some ⟨w.heap.size, 0, none⟩), .pointer (some ⟨w.heap.size + 1, 0, none⟩), .pointer (some ⟨w.heap.size + 2, 0, none⟩), .pointer (some ⟨w.heap.size + 3, 0, none⟩), .iface T x, .bool true, v1, v2, undef, undef, undef, .tuple #[.iface T x, .bool true], .agg #[.slice A1 y.ty.sizes.length cap1, .slice A2 y.ty.cos.length cap2, .slice A3 y.fs.length cap3], .string (str (mkT m)), .tuple #[.iface T x, .bool true], .iface T x, .bool true, .bool true, .bool false, .agg #[.slice A1 y.ty.sizes.length cap1, .slice A2 y.ty.cos.length cap2, .slice A3 y.fs.length cap3], .iface T x, .func (.func 97) #[] #[.pointer (some ⟨w2.heap.size + 1, 0, none⟩), .pointer (some ⟨w2.heap.size, 0, none⟩)], v1, v2, undef, undef, undef, undef, undef, undef, undef, undef, undef, undef, undef, undef, undef, undef, undef, undef, undef, undef], defers := [] }) ?asg (gf := 97) (lb := #[.pointer (some ⟨w2.heap.size + 1, 0, none⟩), .pointer (some ⟨w2.heap.size, 0, none⟩)]) rfl (enters_of Tryz.func97 (by kernel_rfl) rfl) (fun b => b < W2.heap.size) (fun b hb => hb) (itM m) (fun s' O' A' => InQ W2 s' O' A') (fun c _ O' A' => c = .ret ∧ (fstM m).isSome = true ∧ OutT w W2.heap.size (w.heap.size + 1 + 1) (w.heap.size + 1 + 1 + 1) (.string (str (stepT y m))) O' A')
      (fun s' O' A' C' h _ _ _ hk => h.step hk) (fun s' O' O'' A' h hs => h.give hs) (fun s' O' A' k' o' h h1 h2 => h.put o' h1) (fun c s' O' A' C' h _ _ hz hk => ⟨h.1, h.2.1, h.2.2.step (by omega) (by omega) (by omega) hk⟩) (fun c s' O' O'' A' h hs => ⟨h.1, h.2.1, h.2.2.give hs⟩) (fun c s' O' A' k' o' h h1 h2 => ⟨h.1, h.2.1, h.2.2.put (by omega) (by omega) (by omega) o' h1⟩)
      ?iter ?start ?body (by omega) ?done ?stop)
    case asg =>
      intro l' v1 v2 W m' K hK
      gi_wp2
      exact hK
    case iter =>
      intro l' J' Jx' W1' hcl hb1 hJ1
      have hs1 := hb1.size
      exact HI.out l' _ J' Jx' (w2.heap.size + 1) w2.heap.size W1' hcl (HB3.out.trans (hb1.mono (by omega))) (fun b hb => by omega) (by omega) (by omega) (fun b hb => by omega) (R9.out.below hb1 (by omega)) (R8.out.below hb1 (by omega)) hJ1
    case start =>
      intro W1' hb1 hs1
      exact ⟨fun b h => h.elim, by omega, hb1, fun x hx => by cases hx⟩
    case body =>
      rintro l' s' p o O' A' m' hI hpok' hnp' hbA hlen' n0 n1 hz
      have hdd : ∀ k : Nat, ((Fence.wide.inRound l').depth.isSome = true → 1 ≤ k) := fun k h => by simp [Fence.wide, Fence.inRound] at h
      have HII := Lib.hid hI
      have HNP := Lib.hid hnp'
      have HBA := Lib.hid hbA
      have hAs := hbA.size
      cases hlp : litM p with
      | true =>
        have hlp' : Hid (litM p = true) := hlp
        clear hI hbA hlen' hlp n0 n1
        cases p with
        | lit k v =>
          have e : o = .iface 89 (.agg #[.int .i64 k, .int .i64 v]) := hnp'
          subst e
          have fL := asLL
          clear hnp'
          gi_wp2
          refine ⟨kept_of ((Below.refl _ _).alloc (Nat.le_refl _) _), fun b hb => ⟨(HII.out.lo b hb).1, by have := (HII.out.lo b hb).2; simp; omega⟩, by simp; omega, HII.out.bel.trans ((Below.refl _ _).alloc HII.out.bel.size _), fun z hz => ?_⟩
          rcases List.mem_append.1 hz with h | h
          · exact HII.out.lit z h
          · simp at h; subst h; rfl
        | co i m => exact absurd hlp'.out (by simp [litM])
        | a0 i => exact absurd hlp'.out (by simp [litM])
        | a1 i m => exact absurd hlp'.out (by simp [litM])
        | a2 i m q => exact absurd hlp'.out (by simp [litM])
      | false =>
        obtain ⟨t, ht⟩ := hlen'
        have hfst := it_first ht hI.lit hlp
        have hflat := fstM_flat hfst
        obtain ⟨T9, x9, rfl, hAS⟩ := not_lit hnp' hlp
        obtain ⟨T8, x8, fid, e8, hmeth, hnil, hent, hkd⟩ := hnp'.kind hpok'
        injection e8 with e8 e9
        subst e8
        subst e9
        have HKD := Lib.hid hkd
        have HFST := Lib.hid hfst
        have hba1 : Below w.heap.size w A' := HB2.out.trans (hbA.mono HB2.out.size)
        have hra := (G0.out.below hbA G0.out.lt).alloc (.cells #[.int .i64 0, .int .i64 0] 89)
        have p0 := hra.cell 0
        have p1 := hra.cell 1
        have p2 := hra.cell 2
        simp only [List.getElem?_cons_zero, List.getElem?_cons_succ] at p0 p1 p2
        have hba2 : Below w.heap.size w (A'.alloc (.cells #[.int .i64 0, .int .i64 0] 89)) := hba1.alloc hba1.size _
        have HKC := Lib.hid (hkd lo hi _ _ _ (A'.alloc (.cells #[.int .i64 0, .int .i64 0] 89)) (HV.out.below hba2 hB) (Nat.le_trans hB hba2.size))
        have HBW := Lib.hid hba2
        clear hI hnp' hbA ht hlp hkd hfst n0 n1 hra hba1 hba2 HKD
        gi_wp2_with fail
        refine ⟨trivial, fun h => by simp [Fence.wide] at h, (CallsIn.inRound l' (callsIn_wide.2 HKC.out)).mono ?_⟩
        rintro e WK ⟨rfl, hb9⟩
        have HB9 := Lib.hid hb9
        clear hb9 p0 p1 p2 HKC hmeth hnil hent hAS
        gi_wp2
        obtain ⟨wE, hwE⟩ : ∃ u, u = WK.alloc (.cells #[.int .i64 (kindM y p), .int .i64 (valM y p)] 89) := ⟨_, rfl⟩
        rw [← hwE]
        have hbE : Below A'.heap.size A' wE := by
          rw [hwE]
          exact (((Below.refl _ _).alloc (Nat.le_refl _) _).trans (HB9.out.mono (by simp))).alloc (by have := HB9.out.size; simp at this; omega) _
        have hrE : Row wE WK.heap.size 89 [.int .i64 (kindM y p), .int .i64 (valM y p)] := by rw [hwE]; exact Row.new _ _ _
        have HbE := Lib.hid hbE
        have HLD : Hid (∀ u : World, Below wE.heap.size wE u → u.cell? ⟨w.heap.size + 1, 0, none⟩ = some (.string (str (mkT m))) ∧ u.cell? ⟨WK.heap.size, 0, none⟩ = some (.int .i64 (kindM y p)) ∧ u.cell? ⟨WK.heap.size, 1, none⟩ = some (.int .i64 (valM y p))) := fun u hu =>
          ⟨(G1.out.below (HBA.out.trans ((hbE.mono HBA.out.size).trans (hu.mono (Nat.le_trans HBA.out.size hbE.size)))) G1.out.lt).cell 0, (hrE.below hu hrE.lt).cell 0, (hrE.below hu hrE.lt).cell 1⟩
        have HWU : Hid (∀ u : World, Below wE.heap.size wE u → Below w2.heap.size w2 u) := fun u hu => HBA.out.trans ((HbE.out.mono HBA.out.size).trans (hu.mono (Nat.le_trans HBA.out.size HbE.out.size)))
        have HG2 : Hid (∀ u : World, Below wE.heap.size wE u → Row u (w.heap.size + 2) 9 [.string ⟨#[]⟩]) := fun u hu => G2.out.below (HWU.out u hu) G2.out.lt
        have HG3 : Hid (∀ u : World, Below wE.heap.size wE u → Row u (w.heap.size + 3) 4 [.bool false]) := fun u hu => G3.out.below (HWU.out u hu) G3.out.lt
        have HMT : Hid (∀ u : World, Below wE.heap.size wE u → Calls Tryz.prog 48 #[.iface T9 x9] u fun e w' => e = .returned (.string (str (mkT p))) ∧ Below u.heap.size u w') := fun u hu => madeText_any HNP.out hflat hpok' u (HWU.out u hu)
        have hno := norM_ok hsyok hpok'
        have HLT : Hid (∀ u : World, Calls Tryz.prog 63 #[.agg #[.int .i64 (kindM y p), .int .i64 (valM y p)]] u fun e w' => e = .returned (.string (str (mkT (norM y p)))) ∧ Below u.heap.size u w') := fun u => litTx (kindM y p) (valM y p) hno.1 hno.2.1 u
        have HRP : Hid (∀ u : World, Below wE.heap.size wE u → Calls Tryz.prog 65 #[.string (str (mkT m)), .string (str (mkT p)), .string (str (mkT (norM y p))), .int .i64 1] u fun e w' => e = .returned (.string (str (stepT y m))) ∧ Below u.heap.size u w') := fun u hu => rep_any hsyok hok HFST.out (by omega) u (HM2.out.below (HWU.out u hu) HM2.out.lt)
        have HST : Hid (Below wE.heap.size wE wE.drew) := below_drewN (Below.refl _ _) 1
        clear hwE hbE hrE hno
        refine wpIn_region_inv (F := Fence.wide.inRound l') (by kernel_rfl) (fun dn ac u => ∃ x38 x39 x40 x41 x42 x43 y6 y7, ac = ⟨List.toArray (.agg #[.slice A1 y.ty.sizes.length cap1, .slice A2 y.ty.cos.length cap2, .slice A3 y.fs.length cap3] :: .string (str (mkT m)) :: .pointer (some ⟨w.heap.size, 0, none⟩) :: .pointer (some ⟨w.heap.size + 1, 0, none⟩) :: .pointer (some ⟨w.heap.size + 2, 0, none⟩) :: .pointer (some ⟨w.heap.size + 3, 0, none⟩) :: .iface T x :: .bool true :: .iface T9 x9 :: .int .i64 (valM y p) :: .pointer (some ⟨A'.heap.size, 0, none⟩) :: .bool false :: .pointer (some ⟨WK.heap.size, 0, none⟩) :: .tuple #[.iface T x, .bool true] :: .agg #[.slice A1 y.ty.sizes.length cap1, .slice A2 y.ty.cos.length cap2, .slice A3 y.fs.length cap3] :: .string (str (mkT m)) :: .tuple #[.iface T x, .bool true] :: .iface T x :: .bool true :: .bool true :: .bool false :: .agg #[.slice A1 y.ty.sizes.length cap1, .slice A2 y.ty.cos.length cap2, .slice A3 y.fs.length cap3] :: .iface T x :: .func (.func 97) #[] #[.pointer (some ⟨w2.heap.size + 1, 0, none⟩), .pointer (some ⟨w2.heap.size, 0, none⟩)] :: .iface T9 x9 :: .int .i64 (valM y p) :: .tuple #[.agg #[.int .i64 0, .int .i64 0], .bool false] :: .iface T9 x9 :: .tuple #[.agg #[.int .i64 0, .int .i64 0], .bool false] :: .agg #[.int .i64 0, .int .i64 0] :: .bool false :: .bool false :: .bool true :: .iface T9 x9 :: .agg #[.slice A1 y.ty.sizes.length cap1, .slice A2 y.ty.cos.length cap2, .slice A3 y.fs.length cap3] :: .int .i64 (kindM y p) :: .int .i64 (valM y p) :: .agg #[.int .i64 (kindM y p), .int .i64 (valM y p)] :: x38 :: x39 :: x40 :: x41 :: x42 :: x43 :: []), []⟩ ∧ DetQ [fun v : Value => v = .string (str (mkT m)), fun v : Value => v = .iface T9 x9, fun v : Value => v = .string (str (mkT p)), fun v : Value => v = .agg #[.int .i64 (kindM y p), .int .i64 (valM y p)], fun v : Value => v = .string (str (mkT (norM y p))), fun v : Value => v = .string (str (stepT y m)), fun v : Value => True, fun v : Value => True] dn [x38, x39, x40, x41, x42, x43, y6, y7] ∧ Ch dn [2, 4, 5, 6, 7] (WRep wE (w.heap.size + 2) (w.heap.size + 3) (.string (str (stepT y m)))) u ∧ (dn 6 = true → dn 0 = true) ∧ (dn 6 = true → dn 3 = true)) (of_decide_eq_true (by kernel_rfl)) ⟨_, _, _, _, _, _, .bool true, .bool true, rfl, DetQ.start (by rfl), Ch.start HST.out, (fun h => (by cases h)), (fun h => (by cases h))⟩ ?_ ?_
        · rintro dn ac u i8 op8 hop hfi hdep ⟨x38, x39, x40, x41, x42, x43, y6, y7, rfl, hD, hC, hc0, hc1⟩
          have hil : i8 < 8 := by have := (Array.getElem?_eq_some_iff.1 hop).1; simpa using this
          obtain rfl | rfl | rfl | rfl | rfl | rfl | rfl | rfl : i8 = 0 ∨ i8 = 1 ∨ i8 = 2 ∨ i8 = 3 ∨ i8 = 4 ∨ i8 = 5 ∨ i8 = 6 ∨ i8 = 7 := by omega
          all_goals
            obtain rfl := Option.some.inj hop
            refine wpOpIn_step8 hop fun K hK => ?_
            simp [Region.binds] at hdep
            clear hop
          · have hn : dn 6 = false := by
              cases h : dn 6 with
              | false => rfl
              | true => have h := hc0 h; rw [hfi] at h; cases h
            obtain ⟨j8, hj8, hW⟩ := hC.early 3 (by decide) hn
            have d1 := (HLD.out u (WRep.bel hj8 hW)).1
            refine det_yes rfl ?_
            have HD := Lib.hid hD
            have HC := Lib.hid hC
            clear hD hC
            unfold Oper.wpIn
            refine ⟨fun _ _ => trivial, ?_⟩
            rw [Oper.semAt_plain (Fence.wide.inRound l') _ _ (by intro c hc; cases hc)]
            go_simp
            exact hK _ _ ⟨_, _, _, _, _, _, y6, y7, rfl, HD.out.step 0 rfl rfl, HC.out.other 0 (by decide), (fun h => (by have h2 := hc0; have h3 := hfi; simp at h h2 ⊢; first | done | exact h2 h | exact Or.inr (h2 h) | simp [hdep] | (rcases h with h | h; · simp_all; · exact Or.inr (h2 h)) | simp_all)), (fun h => (by have h2 := hc1; have h3 := hfi; simp at h h2 ⊢; first | done | exact h2 h | exact Or.inr (h2 h) | simp [hdep] | (rcases h with h | h; · simp_all; · exact Or.inr (h2 h)) | simp_all))⟩
          · refine det_yes rfl ?_
            have HD := Lib.hid hD
            have HC := Lib.hid hC
            clear hD hC
            unfold Oper.wpIn
            refine ⟨fun _ _ => trivial, ?_⟩
            rw [Oper.semAt_plain (Fence.wide.inRound l') _ _ (by intro c hc; cases hc)]
            go_simp
            exact hK _ _ ⟨_, _, _, _, _, _, y6, y7, rfl, HD.out.step 1 rfl rfl, HC.out.other 1 (by decide), (fun h => (by have h2 := hc0; have h3 := hfi; simp at h h2 ⊢; first | done | exact h2 h | exact Or.inr (h2 h) | simp [hdep] | (rcases h with h | h; · simp_all; · exact Or.inr (h2 h)) | simp_all)), (fun h => (by have h2 := hc1; have h3 := hfi; simp at h h2 ⊢; first | done | exact h2 h | exact Or.inr (h2 h) | simp [hdep] | (rcases h with h | h; · simp_all; · exact Or.inr (h2 h)) | simp_all))⟩
          · obtain rfl : x39 = .iface T9 x9 := hD.get (P := fun v : Value => v = .iface T9 x9) 1 (by simp [hdep]) rfl rfl
            have hW := hC.at_ 0 (by decide) hfi (by intro j9 e9 _; omega)
            refine det_yes rfl ?_
            have HD := Lib.hid hD
            have HC := Lib.hid hC
            clear hD hC
            have hbu : Below wE.heap.size wE u := hW
            clear hW
            unfold Oper.wpIn
            refine ⟨fun _ _ => trivial, ?_⟩
            rw [Oper.semAt_plain (Fence.wide.inRound l') _ _ (by intro c hc; cases hc)]
            go_simp
            refine ⟨fun h => by simp [Fence.wide] at h, (CallsIn.inRound l' (callsIn_wide.2 (HMT.out u hbu))).mono ?_⟩
            rintro e u2 ⟨rfl, hb8⟩
            have HW2 : (WRep wE (w.heap.size + 2) (w.heap.size + 3) (.string (str (stepT y m)))) 1 u2 := hbu.trans (hb8.mono hbu.size)
            exact hK _ _ ⟨_, _, _, _, _, _, y6, y7, rfl, HD.out.step 2 rfl (by rfl), HC.out.next 0 (by decide) hfi (by intro j9 e9 _; omega) (by decide) HW2, (fun h => (by have h2 := hc0; have h3 := hfi; simp at h h2 ⊢; first | done | exact h2 h | exact Or.inr (h2 h) | simp [hdep] | (rcases h with h | h; · simp_all; · exact Or.inr (h2 h)) | simp_all)), (fun h => (by have h2 := hc1; have h3 := hfi; simp at h h2 ⊢; first | done | exact h2 h | exact Or.inr (h2 h) | simp [hdep] | (rcases h with h | h; · simp_all; · exact Or.inr (h2 h)) | simp_all))⟩
          · have hn : dn 6 = false := by
              cases h : dn 6 with
              | false => rfl
              | true => have h := hc1 h; rw [hfi] at h; cases h
            obtain ⟨j8, hj8, hW⟩ := hC.early 3 (by decide) hn
            have d1 := (HLD.out u (WRep.bel hj8 hW)).2.1
            have d2 := (HLD.out u (WRep.bel hj8 hW)).2.2
            refine det_yes rfl ?_
            have HD := Lib.hid hD
            have HC := Lib.hid hC
            clear hD hC
            unfold Oper.wpIn
            refine ⟨fun _ _ => trivial, ?_⟩
            rw [Oper.semAt_plain (Fence.wide.inRound l') _ _ (by intro c hc; cases hc)]
            go_simp
            exact hK _ _ ⟨_, _, _, _, _, _, y6, y7, rfl, HD.out.step 3 rfl rfl, HC.out.other 3 (by decide), (fun h => (by have h2 := hc0; have h3 := hfi; simp at h h2 ⊢; first | done | exact h2 h | exact Or.inr (h2 h) | simp [hdep] | (rcases h with h | h; · simp_all; · exact Or.inr (h2 h)) | simp_all)), (fun h => (by have h2 := hc1; have h3 := hfi; simp at h h2 ⊢; first | done | exact h2 h | exact Or.inr (h2 h) | simp [hdep] | (rcases h with h | h; · simp_all; · exact Or.inr (h2 h)) | simp_all))⟩
          · obtain rfl : x41 = .agg #[.int .i64 (kindM y p), .int .i64 (valM y p)] := hD.get (P := fun v : Value => v = .agg #[.int .i64 (kindM y p), .int .i64 (valM y p)]) 3 (by simp [hdep]) rfl rfl
            have hW := hC.at_ 1 (by decide) hfi (by intro j9 e9 _; have f9 : j9 = 0 := (by omega); subst f9; simp [hdep])
            refine det_yes rfl ?_
            have HD := Lib.hid hD
            have HC := Lib.hid hC
            clear hD hC
            have hbu : Below wE.heap.size wE u := hW
            clear hW
            unfold Oper.wpIn
            refine ⟨fun _ _ => trivial, ?_⟩
            rw [Oper.semAt_plain (Fence.wide.inRound l') _ _ (by intro c hc; cases hc)]
            go_simp
            refine ⟨fun h => by simp [Fence.wide] at h, (CallsIn.inRound l' (callsIn_wide.2 (HLT.out u))).mono ?_⟩
            rintro e u2 ⟨rfl, hb8⟩
            have HW2 : (WRep wE (w.heap.size + 2) (w.heap.size + 3) (.string (str (stepT y m)))) 2 u2 := hbu.trans (hb8.mono hbu.size)
            exact hK _ _ ⟨_, _, _, _, _, _, y6, y7, rfl, HD.out.step 4 rfl (by rfl), HC.out.next 1 (by decide) hfi (by intro j9 e9 _; have f9 : j9 = 0 := (by omega); subst f9; simp [hdep]) (by decide) HW2, (fun h => (by have h2 := hc0; have h3 := hfi; simp at h h2 ⊢; first | done | exact h2 h | exact Or.inr (h2 h) | simp [hdep] | (rcases h with h | h; · simp_all; · exact Or.inr (h2 h)) | simp_all)), (fun h => (by have h2 := hc1; have h3 := hfi; simp at h h2 ⊢; first | done | exact h2 h | exact Or.inr (h2 h) | simp [hdep] | (rcases h with h | h; · simp_all; · exact Or.inr (h2 h)) | simp_all))⟩
          · obtain rfl : x38 = .string (str (mkT m)) := hD.get (P := fun v : Value => v = .string (str (mkT m))) 0 (by simp [hdep]) rfl rfl
            obtain rfl : x40 = .string (str (mkT p)) := hD.get (P := fun v : Value => v = .string (str (mkT p))) 2 (by simp [hdep]) rfl rfl
            obtain rfl : x42 = .string (str (mkT (norM y p))) := hD.get (P := fun v : Value => v = .string (str (mkT (norM y p)))) 4 (by simp [hdep]) rfl rfl
            have hW := hC.at_ 2 (by decide) hfi (by intro j9 e9 _; have f9 : j9 = 1 := (by omega); subst f9; simp [hdep])
            refine det_yes rfl ?_
            have HD := Lib.hid hD
            have HC := Lib.hid hC
            clear hD hC
            have hbu : Below wE.heap.size wE u := hW
            clear hW
            unfold Oper.wpIn
            refine ⟨fun _ _ => trivial, ?_⟩
            rw [Oper.semAt_plain (Fence.wide.inRound l') _ _ (by intro c hc; cases hc)]
            go_simp
            refine ⟨fun h => by simp [Fence.wide] at h, (CallsIn.inRound l' (callsIn_wide.2 (HRP.out u hbu))).mono ?_⟩
            rintro e u2 ⟨rfl, hb8⟩
            have HW2 : (WRep wE (w.heap.size + 2) (w.heap.size + 3) (.string (str (stepT y m)))) 3 u2 := hbu.trans (hb8.mono hbu.size)
            exact hK _ _ ⟨_, _, _, _, _, _, y6, y7, rfl, HD.out.step 5 rfl (by rfl), HC.out.next 2 (by decide) hfi (by intro j9 e9 _; have f9 : j9 = 1 := (by omega); subst f9; simp [hdep]) (by decide) HW2, (fun h => (by have h2 := hc0; have h3 := hfi; simp at h h2 ⊢; first | done | exact h2 h | exact Or.inr (h2 h) | simp [hdep] | (rcases h with h | h; · simp_all; · exact Or.inr (h2 h)) | simp_all)), (fun h => (by have h2 := hc1; have h3 := hfi; simp at h h2 ⊢; first | done | exact h2 h | exact Or.inr (h2 h) | simp [hdep] | (rcases h with h | h; · simp_all; · exact Or.inr (h2 h)) | simp_all))⟩
          · obtain rfl : x43 = .string (str (stepT y m)) := hD.get (P := fun v : Value => v = .string (str (stepT y m))) 5 (by simp [hdep]) rfl rfl
            have hW := hC.at_ 3 (by decide) hfi (by intro j9 e9 _; have f9 : j9 = 2 := (by omega); subst f9; simp [hdep])
            refine det_yes rfl ?_
            have HD := Lib.hid hD
            have HC := Lib.hid hC
            clear hD hC
            have hbu : Below wE.heap.size wE u := hW
            have c7 := (HG2.out u hbu).cell 0
            have f7 := (HG2.out u hbu).frozen 0
            simp only [List.getElem?_cons_zero] at c7
            have HW2 : (WRep wE (w.heap.size + 2) (w.heap.size + 3) (.string (str (stepT y m)))) 4 (u.setCell ⟨w.heap.size + 2, 0, none⟩ (.string (str (stepT y m)))) := ⟨u, hbu, rfl⟩
            clear hW
            unfold Oper.wpIn
            refine ⟨fun _ _ => trivial, ?_⟩
            rw [Oper.semAt_plain (Fence.wide.inRound l') _ _ (by intro c hc; cases hc)]
            go_simp
            exact hK _ _ ⟨_, _, _, _, _, _, .bool true, y7, rfl, HD.out.step 6 rfl (by trivial), HC.out.next 3 (by decide) hfi (by intro j9 e9 _; have f9 : j9 = 2 := (by omega); subst f9; simp [hdep]) (by decide) HW2, (fun h => (by have h2 := hc0; have h3 := hfi; simp at h h2 ⊢; first | done | exact h2 h | exact Or.inr (h2 h) | simp [hdep] | (rcases h with h | h; · simp_all; · exact Or.inr (h2 h)) | simp_all)), (fun h => (by have h2 := hc1; have h3 := hfi; simp at h h2 ⊢; first | done | exact h2 h | exact Or.inr (h2 h) | simp [hdep] | (rcases h with h | h; · simp_all; · exact Or.inr (h2 h)) | simp_all))⟩
          · have hW := hC.at_ 4 (by decide) hfi (by intro j9 e9 _; have f9 : j9 = 3 := (by omega); subst f9; simp [hdep])
            refine det_yes rfl ?_
            have HD := Lib.hid hD
            have HC := Lib.hid hC
            clear hD hC
            obtain ⟨u3, hbu, rfl⟩ := hW
            have r7 : Row (u3.setCell ⟨w.heap.size + 2, 0, none⟩ (.string (str (stepT y m)))) (w.heap.size + 3) 4 [.bool false] := (HG3.out u3 hbu).far (by simp) _
            have c7 := r7.cell 0
            have f7 := r7.frozen 0
            simp only [List.getElem?_cons_zero] at c7
            have HW2 : (WRep wE (w.heap.size + 2) (w.heap.size + 3) (.string (str (stepT y m)))) 5 ((u3.setCell ⟨w.heap.size + 2, 0, none⟩ (.string (str (stepT y m)))).setCell ⟨w.heap.size + 3, 0, none⟩ (.bool true)) := ⟨u3, hbu, rfl⟩
            clear r7
            unfold Oper.wpIn
            refine ⟨fun _ _ => trivial, ?_⟩
            rw [Oper.semAt_plain (Fence.wide.inRound l') _ _ (by intro c hc; cases hc)]
            go_simp
            exact hK _ _ ⟨_, _, _, _, _, _, y6, .bool true, rfl, HD.out.step 7 rfl (by trivial), HC.out.next 4 (by decide) hfi (by intro j9 e9 _; have f9 : j9 = 3 := (by omega); subst f9; simp [hdep]) (by decide) HW2, (fun h => (by have h2 := hc0; have h3 := hfi; simp at h h2 ⊢; first | done | exact h2 h | exact Or.inr (h2 h) | simp [hdep] | (rcases h with h | h; · simp_all; · exact Or.inr (h2 h)) | simp_all)), (fun h => (by have h2 := hc1; have h3 := hfi; simp at h h2 ⊢; first | done | exact h2 h | exact Or.inr (h2 h) | simp [hdep] | (rcases h with h | h; · simp_all; · exact Or.inr (h2 h)) | simp_all))⟩
        · rintro dn ac u hall ⟨x38, x39, x40, x41, x42, x43, y6, y7, rfl, hD, hC, hc0, hc1⟩
          obtain rfl : x38 = .string (str (mkT m)) := hD.get (P := fun v : Value => v = .string (str (mkT m))) 0 (hall 0 (by decide)) rfl rfl
          obtain rfl : x39 = .iface T9 x9 := hD.get (P := fun v : Value => v = .iface T9 x9) 1 (hall 1 (by decide)) rfl rfl
          obtain rfl : x40 = .string (str (mkT p)) := hD.get (P := fun v : Value => v = .string (str (mkT p))) 2 (hall 2 (by decide)) rfl rfl
          obtain rfl : x41 = .agg #[.int .i64 (kindM y p), .int .i64 (valM y p)] := hD.get (P := fun v : Value => v = .agg #[.int .i64 (kindM y p), .int .i64 (valM y p)]) 3 (hall 3 (by decide)) rfl rfl
          obtain rfl : x42 = .string (str (mkT (norM y p))) := hD.get (P := fun v : Value => v = .string (str (mkT (norM y p)))) 4 (hall 4 (by decide)) rfl rfl
          obtain rfl : x43 = .string (str (stepT y m)) := hD.get (P := fun v : Value => v = .string (str (stepT y m))) 5 (hall 5 (by decide)) rfl rfl
          have hW := hC.all (by intro j9 h9; exact hall _ (by revert j9; decide))
          clear hall hD hC hc0 hc1
          obtain ⟨u3, hbu, rfl⟩ := hW
          have HFI := Lib.hid hbu
          clear hbu
          gi_wp2
          exact out_make hd2 hs1 hs2 HII.out (HB2.out.trans (HBA.out.mono HB2.out.size)) HbE.out HFI.out (HG2.out u3 HFI.out) (HG3.out u3 HFI.out) (by rw [HFST.out]; rfl)
    case done =>
      intro O' W' hI hdef
      have hz := hI.sz
      have hnone := it_all_lit hI.lit
      have hbW : Below w2.heap.size w2 W' := HB3.out.trans (hI.bel.mono (by omega))
      have hbw : Below w.heap.size w W' := HB2.out.trans (hbW.mono HB2.out.size)
      have r4 := G2.out.below hbW G2.out.lt
      have r5 := (G3.out.below hbW G3.out.lt).far (p := ⟨w.heap.size + 1 + 1, 0, none⟩) (by simp) (.string ⟨#[]⟩)
      have c4 := r4.cell 0
      have f4 := r4.frozen 0
      have c5 := r5.cell 0
      have f5 := r5.frozen 0
      simp only [List.getElem?_cons_zero] at c4 c5
      have HR4 := Lib.hid ((r4.set_ 0 (.string ⟨#[]⟩)).far (p := ⟨w.heap.size + 1 + 1 + 1, 0, none⟩) (by simp) (.bool false))
      have HR5 := Lib.hid (r5.set_ 0 (.bool false))
      have HDF : Hid (((W'.setCell ⟨w.heap.size + 1 + 1, 0, none⟩ (.string ⟨#[]⟩)).setCell ⟨w.heap.size + 1 + 1 + 1, 0, none⟩ (.bool false)).heap[W2.heap.size]? = some (.deferred (some []))) := ((Below.heap_setCell _ _ _ _ (by simp; omega)).trans (Below.heap_setCell _ _ _ _ (by simp; omega))).trans hdef
      have HBF : Hid (∀ o, Below w.heap.size w (((W'.setCell ⟨w.heap.size + 1 + 1, 0, none⟩ (.string ⟨#[]⟩)).setCell ⟨w.heap.size + 1 + 1 + 1, 0, none⟩ (.bool false)).putObj W2.heap.size o)) := fun o => ⟨hbw.os, hbw.tape, hbw.output, by simpa [World.setCell] using hbw.size, fun k hk => (puts8 (by omega)).trans (((Below.heap_setCell _ _ _ _ (by simp; omega)).trans (Below.heap_setCell _ _ _ _ (by simp; omega))).trans (hbw.block k hk))⟩
      clear hI hdef hbW hbw r4 r5
      go_wp2
      have cA := (HR4.out.keep (w' := (((W'.setCell ⟨w.heap.size + 1 + 1, 0, none⟩ (.string ⟨#[]⟩)).setCell ⟨w.heap.size + 1 + 1 + 1, 0, none⟩ (.bool false)).putObj W2.heap.size (.deferred none))) (puts8 (by omega))).cell 0
      have cB := (HR5.out.keep (w' := (((W'.setCell ⟨w.heap.size + 1 + 1, 0, none⟩ (.string ⟨#[]⟩)).setCell ⟨w.heap.size + 1 + 1 + 1, 0, none⟩ (.bool false)).putObj W2.heap.size (.deferred none))) (puts8 (by omega))).cell 0
      simp only [List.getElem?_cons_zero, List.set_cons_zero] at cA cB
      refine ⟨by simp, .inl ⟨_, _, rfl, run_takeDeferred HDF.out, ?_⟩⟩
      refine ⟨.tuple #[.string ⟨#[]⟩, .bool false], by simp [results, Tryz.results39, go_sem, cA, cB], ?_, HBF.out _⟩
      rw [E1.out, E2.out, hnone]
      unfold stepT
      rw [hnone]
      rfl
    case stop =>
      rintro c s' O' W' ⟨rfl, hfs, hI⟩ hdef
      have HI2 := Lib.hid hI
      have HDF := Lib.hid hdef
      clear hI hdef
      refine wpIn_wide.2 ?_
      go_wp2
      have hz := HI2.out.sz
      have cA := (HI2.out.c1.keep (w' := W'.putObj W2.heap.size (.deferred none)) (puts8 (by omega))).cell 0
      have cB := (HI2.out.c2.keep (w' := W'.putObj W2.heap.size (.deferred none)) (puts8 (by omega))).cell 0
      simp only [List.getElem?_cons_zero] at cA cB
      refine ⟨by simp, .inl ⟨_, _, rfl, run_takeDeferred HDF.out, ?_⟩⟩
      refine ⟨.tuple #[.string (str (stepT y m)), .bool true], by simp [results, Tryz.results39, go_sem, cA, cB], ?_, HI2.out.bel.trans (kept_below (S := fun b => b < w.heap.size) (kept_put (by omega)) (fun k hk => hk) HI2.out.bel.size)⟩
      rw [E1.out, E2.out, hfs]
  · have HB2 := Lib.hid (HB1.out.trans (hb2.mono HB1.out.size))
    have r4 := H2.out.below hb2 H2.out.lt
    have r5 := (H3.out.below hb2 H3.out.lt).far (p := ⟨w.heap.size + 1 + 1, 0, none⟩) (by simp) (.string ⟨#[]⟩)
    have c4 := r4.cell 0
    have f4 := r4.frozen 0
    have c5 := r5.cell 0
    have f5 := r5.frozen 0
    simp only [List.getElem?_cons_zero] at c4 c5
    have HR4 := Lib.hid ((r4.set_ 0 (.string ⟨#[]⟩)).far (p := ⟨w.heap.size + 1 + 1 + 1, 0, none⟩) (by simp) (.bool false))
    have HR5 := Lib.hid (r5.set_ 0 (.bool false))
    have E1 := Lib.hid (smT_none hr)
    have E2 := Lib.hid (smB_none hr)
    clear hr hb2 HR r4 r5 H0 H1 H2 H3
    go_wp2
    have cA := HR4.out.cell 0
    have cB := HR5.out.cell 0
    simp only [List.getElem?_cons_zero, List.set_cons_zero] at cA cB
    refine ⟨.tuple #[.string ⟨#[]⟩, .bool false], by simp [results, Tryz.results39, go_sem, cA, cB], by rw [E1.out, E2.out]; rfl, ?_⟩
    exact ⟨HB2.out.os, HB2.out.tape, HB2.out.output, by have := HB2.out.size; simpa [World.setCell] using this, fun k hk => ((Below.heap_setCell _ _ _ _ (by simp; omega)).trans (Below.heap_setCell _ _ _ _ (by simp; omega))).trans (HB2.out.block k hk)⟩
end Go.Proofs.YtdemcoghgnnheaaGreatDoor

