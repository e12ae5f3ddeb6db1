/-
  The contract of the program's StepsOf.
  The contract of the model's StepsOf.
-/
import Derived.Test.YtdemcoghgnnheaaGreatDoorQsti
import Derived.Test.YtdemcoghgnnheaaGreatDoorK13
import Derived.Test.YtdemcoghgnnheaaGreatDoorQsrn
namespace Go.Proofs.YtdemcoghgnnheaaGreatDoor
open Go.RowKit
attribute [local go_sem] Oper.semAt_some

/-- The steps of a text as an explicit term. -/
noncomputable def stL (y : Sy) (L : List UInt8) : List Int := match readM y L with
  | some m => stM y m
  | none => []
theorem stL_some {y : Sy} {L : List UInt8} {m : Mk} (h : readM y L = some m) : stL y L = stM y m := by unfold stL; rw [h]
theorem stL_none {y : Sy} {L : List UInt8} (h : readM y L = none) : stL y L = [] := by unfold stL; rw [h]

theorem syOk_read {y : Sy} {L : List UInt8} {m : Mk} (h : readM y L = some m) : SyOk y := by
  unfold readM at h
  split at h
  · rename_i hy
    exact syB_iff.1 hy
  · cases h

theorem wpListIn_push8 {F : Fence} {n : Nat} {P : Program} {w : World} {base : Nat} {e : TypeId} {v : Value} {k : Nat} {xs : List Value} {ops : Array Oper} {rest : List Oper} {o : Oper} {a : Act} {Q : Exit → Act → World → Prop} (hg : o.guard = none) (s y : Operand) (t : TypeId)
    (hop : o.op = .call { callee := .builtin .append, args := #[s, y], argTypes := #[t, t] }) (i : TypeInfo) (z : Value) (bytes : Nat) (ht : P.underlying t = some (.slice e)) (hi : P.info? e = some i) (hz : i.zero = some z) (hsize : i.size = 1) (hby : i.bytes = bytes) (hzs : z.cells.size = 1)
    (hs : a.eval s = v) (hown : w.ownsRow base e 1 v k xs) (ad : Addr) (c : Nat) (x : Value) (hy : a.eval y = .slice (some ad) 1 c) (hx : w.cell? ad = some x) (h1 : x.oneCell' = true) (h63 : k + 1 ≤ maxLen) (hbytes : (k + 1) * bytes ≤ 140737488355328) (hbase : base ≤ w.heap.size)
    (h : ∀ v' w', Pushed w w' base e v v' k xs x → wpListIn F n P ops Q rest (a.put o.dst v') w') : wpListIn F n P ops Q (o :: rest) a w := by
  refine wpListIn_plain hg fun K hK' => ?_
  obtain ⟨v', w', hrun, hp⟩ := run_push (P := P) t o.type i z bytes ht hi hz hsize hby hzs hown ad c x hx h1 h63 hbytes hbase
  unfold Oper.wpIn
  refine ⟨?_, ?_⟩
  · simp [Oper.about, hop, resolve, Target.leads, Sem.run_pure]
  · rw [Oper.semAt_plain F _ _ (by rw [hop]; intro c hc'; cases hc')]
    simp [execOp, hop, resolve, invoke, builtin, hs, hy, hrun, Result.andThen]
    exact hK' _ _ (h v' w' hp)

/-- What holds in StepsOf's own loop: the values of the parts that have come stand in a row of its own, whose slice stands in block vb. -/
structure InS (y : Sy) (w : World) (vb d : Nat) (s : List Mk) (O : Nat → Prop) (A : World) : Prop where
  lo : ∀ b, O b → d ≤ b ∧ b < A.heap.size
  sz : d + 1 < A.heap.size
  bel : Below w.heap.size w A
  ex : ∃ vv, Row A vb 22 [vv] ∧ A.ownsRow (d + 2) 3 1 vv s.length ((s.map (valM y)).map (Value.int .i64)) ∧ ∀ b, vv.ownBlock = some b → ¬ O b
section
variable {y : Sy} {w A C : World} {vb d : Nat} {s : List Mk} {O O' : Nat → Prop}
theorem InS.step (hvb : vb < d) (hwd : w.heap.size ≤ d) (h : InS y w vb d s O A) (hk : Kept (fun k => ¬ O k) A C) : InS y w vb d s (fun k => O k ∨ (A.heap.size ≤ k ∧ k < C.heap.size)) C := by
  have hs := hk.size
  have hz := h.sz
  obtain ⟨vv, hr, ho, hn⟩ := h.ex
  refine ⟨fun b hb => hb.elim (fun h1 => ⟨(h.lo b h1).1, by have := (h.lo b h1).2; omega⟩) (fun h1 => ⟨by omega, h1.2⟩), by omega, h.bel.trans (kept_below hk (fun k hk' ho' => by have := (h.lo k ho').1; omega) (by omega)), vv, hr.keep (hk.block vb hr.lt fun ho' => by have := (h.lo vb ho').1; omega), ownsRow_keep1 ho fun b hb => hk.block b (owns_lt ho b hb).2 (hn b hb), fun b hb h1 => h1.elim (hn b hb) fun h2 => by have := (owns_lt ho b hb).2; omega⟩
theorem InS.give (h : InS y w vb d s O A) (hs : ∀ k, O' k → O k) : InS y w vb d s O' A := by
  obtain ⟨vv, hr, ho, hn⟩ := h.ex
  exact ⟨fun b hb => h.lo b (hs b hb), h.sz, h.bel, vv, hr, ho, fun b hb h1 => hn b hb (hs b h1)⟩
theorem InS.put (hvb : vb < d) (hwd : w.heap.size ≤ d) (h : InS y w vb d s O A) {k : Nat} (o : Obj) (h1 : d ≤ k) (h2 : k ≤ d + 1) : InS y w vb d s O (A.putObj k o) := by
  obtain ⟨vv, hr, ho, hn⟩ := h.ex
  exact ⟨fun b hb => by simpa using h.lo b hb, by simpa using h.sz, h.bel.trans (kept_below (S := fun b => b < d) (kept_put (by omega)) (fun k hk => by omega) h.bel.size), vv, hr.keep (puts8 (by omega)), ownsRow_keep1 ho fun b hb => puts8 (by have := (owns_lt ho b hb).1; omega), hn⟩
/-- One value more. -/
theorem InS.next {p : Mk} {vv v5 : Value} {A1 C : World} (hvb : vb < d) (hwv : w.heap.size ≤ vb) (h : InS y w vb d s O A) (hr : Row A vb 22 [vv]) (ho : A.ownsRow (d + 2) 3 1 vv s.length ((s.map (valM y)).map (Value.int .i64))) (hn : ∀ b, vv.ownBlock = some b → ¬ O b) (hb : Below A.heap.size A A1)
    (hp : Pushed A1 C (d + 2) 3 vv v5 s.length ((s.map (valM y)).map (Value.int .i64)) (.int .i64 (valM y p))) :
    InS y w vb d (s ++ [p]) O (C.setCell ⟨vb, 0, none⟩ v5) ∧ Kept (fun k => O k ∨ (k < d ∧ k ≠ vb) ∨ k = d ∨ k = d + 1) A (C.setCell ⟨vb, 0, none⟩ v5) ∧ Row C vb 22 [vv] := by
  have hs := hb.size
  have hs1 := hp.grown.size
  have hz := h.sz
  have hvl := owns_lt ho
  have hblk : ∀ b, b < A.heap.size → vv.ownBlock ≠ some b → C.heap[b]? = A.heap[b]? := fun b hbl hne => (hp.grown.block b (by omega) (fun e => hne e.symm)).trans (hb.block b hbl)
  have hset : ∀ b, b ≠ vb → (C.setCell ⟨vb, 0, none⟩ v5).heap[b]? = C.heap[b]? := fun b hb' => Below.heap_setCell _ _ _ _ hb'
  have hsz : (C.setCell ⟨vb, 0, none⟩ v5).heap.size = C.heap.size := by simp [World.setCell]
  have hrC : Row C vb 22 [vv] := hr.keep (hblk vb hr.lt fun e => by have := (hvl vb e).1; omega)
  have h5 : ∀ b, v5.ownBlock = some b → ¬ O b := fun b hb' ho' => by
    rcases hp.at_ with e | ⟨g, e, h1, h2⟩
    · exact hn b (by rw [← e]; exact hb') ho'
    · rw [e] at hb'
      simp only [Option.some.injEq] at hb'
      subst hb'
      have := (h.lo g ho').2
      omega
  refine ⟨⟨fun b hb' => ⟨(h.lo b hb').1, by have := (h.lo b hb').2; omega⟩, by omega, ⟨hp.grown.os.trans (hb.os.trans h.bel.os), hp.grown.tape.trans (hb.tape.trans h.bel.tape), hp.grown.output.trans (hb.output.trans h.bel.output), by have := h.bel.size; omega, fun k hk => (hset k (by omega)).trans ((hblk k (by have := h.bel.size; omega) fun e => by have := (hvl k e).1; omega).trans (h.bel.block k hk))⟩, v5, hrC.set_ 0 _, ?_, h5⟩, ⟨hp.grown.os.trans hb.os, hp.grown.tape.trans hb.tape, hp.grown.output.trans hb.output, by omega, fun k hk hS => (hset k ?_).trans (hblk k hk fun e => ?_)⟩, hrC⟩
  · have e : ((s ++ [p]).map (valM y)).map (Value.int .i64) = ((s.map (valM y)).map (Value.int .i64)) ++ [.int .i64 (valM y p)] := by rw [List.map_append, List.map_append]; rfl
    rw [e, List.length_append]
    exact ownsRow_keep1 hp.own fun b hb' => hset b (by have := (owns_lt hp.own b hb').1; omega)
  · rcases hS with h1 | h1 | h1
    · have := (h.lo k h1).1; omega
    · exact h1.2
    · omega
  · have h2 := (hvl k e).1
    rcases hS with h1 | h1 | h1
    · exact hn k e h1
    · omega
    · omega
end

set_option maxRecDepth 100000 in
set_option maxHeartbeats 4000000 in
theorem implSteps_any (lo hi n : Nat) (a : Addr) (sv cv fv : Value) (y : Sy) (L : List UInt8) (w : World) (hv : SyAt w lo hi sv cv fv y) (hB : hi ≤ w.heap.size) (he : Ev w n a) (hn : n ≤ w.heap.size) (hm : L.length ≤ 1048576) :
    Calls Tryz.prog 29 #[.agg #[sv, cv, fv], .string (str L)] w fun e w' => ∃ v, e = .returned (.tuple #[v, .bool (okM y L)]) ∧ Below w.heap.size w w' ∧ w'.ownsRow w.heap.size 3 1 v (stL y L).length ((stL y L).map (Value.int .i64)) := by
  obtain ⟨A1, cap1, rfl, _, _, _⟩ := hv.1.1.form
  obtain ⟨A2, cap2, rfl, _, _, _⟩ := hv.1.2.form
  obtain ⟨A3, cap3, rfl, _, _, _⟩ := hv.2.form
  have hb1 : Below w.heap.size w (w.alloc (.cells #[.slice A1 y.ty.sizes.length cap1, .slice A2 y.ty.cos.length cap2, .slice A3 y.fs.length cap3] 37)) := (Below.refl _ _).alloc (Nat.le_refl _) _
  have HR := Lib.hid (readMade_any lo hi n a _ _ _ y L _ (hv.below hb1 hB) (by rw [World.size_alloc]; omega) (he.keep (b := w.heap.size) ((Keep.refl _ _).of_below hb1) hn) (by rw [World.size_alloc]; omega) hm)
  have HR1 := Row.new w 37 [.slice A1 y.ty.sizes.length cap1, .slice A2 y.ty.cos.length cap2, .slice A3 y.fs.length cap3]
  have HRS := Lib.hid HR1
  have p0 := HR1.cell 0
  have p1 := HR1.cell 1
  have p2 := HR1.cell 2
  simp only [List.getElem?_cons_zero, List.getElem?_cons_succ] at p0 p1 p2
  have HB1 := Lib.hid hb1
  have HV := Lib.hid hv
  clear hv hb1 HR1 he
  refine (callsIn_wide (n := 9)).1 ?_
  refine callsIn_of_wp_marks Tryz.func29 rfl trivial (wpIn_wide.2 ?_) rfl
  simp only [Tryz.ntmps29, List.size_toArray, List.length_cons, List.length_nil, Nat.reduceAdd, Nat.reduceSub, Array.replicate_succ, Array.replicate_zero, List.push_toArray, List.append_toArray, List.nil_append, List.cons_append]
  go_wp2_with fail
  refine HR.out.mono ?_
  rintro e w2 ⟨⟨m, o, hr, hok, rfl, hno⟩ | ⟨hr, rfl⟩, hb2⟩
  · have HB2 := Lib.hid (HB1.out.trans (hb2.mono HB1.out.size))
    have HS2 := Lib.hid (HRS.out.below hb2 (by rw [World.size_alloc]; omega))
    obtain ⟨e1, -, -, -, -⟩ := vals_some hr
    have E1 := Lib.hid e1
    have E5 := Lib.hid (stL_some hr)
    have hlm := readM_len hr
    have hsyok := syOk_read hr
    obtain ⟨BB, HNO⟩ : ∃ BB, Hid (MNodeAt w2 BB m o) := ⟨_, Lib.hid hno⟩
    obtain ⟨T, x, rfl⟩ := HNO.out.form
    have hil := itM_len m
    have hs2 := HB2.out.size
    have hlt2 := HS2.out.lt
    obtain ⟨i0, hi0, hz0, hz1, hz2⟩ := info_parts (show (Tryz.prog.info? 3).map (fun i => (i.zero, i.size, i.bytes)) = some (some (.int .i64 0), 1, 8) by kernel_rfl)
    have q0 := (HS2.out.alloc (.cells #[.slice none 0 0] 22)).cell 0
    have q1 := (HS2.out.alloc (.cells #[.slice none 0 0] 22)).cell 1
    have q2 := (HS2.out.alloc (.cells #[.slice none 0 0] 22)).cell 2
    simp only [List.getElem?_cons_zero, List.getElem?_cons_succ] at q0 q1 q2
    have HSA := Lib.hid (steps_any A1 A2 A3 y.ty.sizes.length y.ty.cos.length y.fs.length cap1 cap2 cap3 T x (w2.alloc (.cells #[.slice none 0 0] 22)))
    rw [World.size_alloc] at HSA
    obtain ⟨W2, hW2⟩ : ∃ u, u = ((w2.alloc (.cells #[.slice none 0 0] 22)).alloc (.cells #[.slice A1 y.ty.sizes.length cap1, .slice A2 y.ty.cos.length cap2, .slice A3 y.fs.length cap3] 37)).alloc (.cells #[.iface T x] 66) := ⟨_, rfl⟩
    have hd2 : W2.heap.size = w2.heap.size + 3 := by rw [hW2]; simp
    have HB3 : Hid (Below w2.heap.size w2 W2) := by show Below _ _ _; rw [hW2]; go_grown
    have R7 : Hid (Row W2 w2.heap.size 22 [.slice none 0 0]) := by show Row _ _ _ _; rw [hW2]; exact ((Row.new w2 _ _).alloc _).alloc _
    have R8 : Hid (Row W2 (w2.heap.size + 1) 37 [.slice A1 y.ty.sizes.length cap1, .slice A2 y.ty.cos.length cap2, .slice A3 y.fs.length cap3]) := by
      show Row _ _ _ _
      rw [hW2]
      have h := Row.new (w2.alloc (.cells #[.slice none 0 0] 22)) 37 [.slice A1 y.ty.sizes.length cap1, .slice A2 y.ty.cos.length cap2, .slice A3 y.fs.length cap3]
      rw [World.size_alloc] at h
      exact h.alloc _
    have R9 : Hid (Row W2 (w2.heap.size + 1 + 1) 66 [.iface T x]) := by
      show Row _ _ _ _
      rw [hW2]
      have h := Row.new ((w2.alloc (.cells #[.slice none 0 0] 22)).alloc (.cells #[.slice A1 y.ty.sizes.length cap1, .slice A2 y.ty.cos.length cap2, .slice A3 y.fs.length cap3] 37)) 66 [.iface T x]
      rw [World.size_alloc, World.size_alloc] at h
      exact h
    have HI := Lib.hid (iters8 lo hi BB _ _ _ y hsyok w2 (HV.out.below HB2.out hB) (Nat.le_trans hB hs2) 1000 (Nat.le_refl _) m (.iface T x) (by omega) hok HNO.out)
    clear hr hno hb2 HR HB1 e1 HRS
    go_wp2_with fail
    refine HSA.out.mono ?_
    rintro e wx ⟨rfl, rfl⟩
    clear HSA q0 q1 q2
    go_wp2_with fail
    rw [← hW2]
    clear hW2
    refine wpIn_wide.1 (range2_law (n := 9) (y := y) (w0 := w2) (B := BB) (fun v1 v2 => { tmps := #[.agg #[.slice A1 y.ty.sizes.length cap1, .slice A2 y.ty.cos.length cap2, .slice A3 y.fs.length cap3], .string (str L), .pointer (some ⟨w.heap.size, 0, none⟩), undef, .slice none 0 0, .bool false, .iface T x, .bool true, .pointer (some ⟨w2.heap.size, 0, none⟩), undef, v2, .tuple #[.iface T x, .bool true], .agg #[.slice A1 y.ty.sizes.length cap1, .slice A2 y.ty.cos.length cap2, .slice A3 y.fs.length cap3], .string (str L), .tuple #[.iface T x, .bool true], .iface T x, .bool true, .bool true, .bool false, .agg #[.slice A1 y.ty.sizes.length cap1, .slice A2 y.ty.cos.length cap2, .slice A3 y.fs.length cap3], .iface T x, .func (.func 97) #[] #[.pointer (some ⟨w2.heap.size + 1 + 1, 0, none⟩), .pointer (some ⟨w2.heap.size + 1, 0, none⟩)], v1, v2, undef, undef, undef, undef, undef], defers := [] }) ?asg (gf := 97) (lb := #[.pointer (some ⟨w2.heap.size + 1 + 1, 0, none⟩), .pointer (some ⟨w2.heap.size + 1, 0, none⟩)]) rfl (enters_of Tryz.func97 (by kernel_rfl) rfl) (fun b => b < W2.heap.size ∧ b ≠ w2.heap.size) (fun b hb => hb.1) (itM m) (fun s' O' A' => InS y w w2.heap.size W2.heap.size s' O' A') (fun c _ O' A' => False)
      (fun s' O' A' C' h _ _ _ hk => h.step (by omega) (by omega) hk) (fun s' O' O'' A' h hs => h.give hs) (fun s' O' A' k' o' h h1 h2 => h.put (by omega) (by omega) o' h1 h2) (fun c s' O' A' C' h _ _ hz hk => h) (fun c s' O' O'' A' h hs => h) (fun c s' O' A' k' o' h h1 h2 => h)
      ?iter ?start ?body (by omega) ?done (fun c s' O' W' h _ => h.elim))
    case asg =>
      intro l' v1 v2 W m' K hK
      gi_wp2
      exact hK
    case iter =>
      intro l' J' Jx' W1 hcl hb1 hJ1
      have hs1 := hb1.size
      exact HI.out l' _ J' Jx' (w2.heap.size + 1 + 1) (w2.heap.size + 1) W1 hcl (HB3.out.trans (hb1.mono (by omega))) (fun b hb => ⟨by omega, by omega⟩) ⟨by omega, by omega⟩ ⟨by omega, by omega⟩ (fun b hb => by have := hb.1; omega) (R9.out.below hb1 (by omega)) (R8.out.below hb1 (by omega)) hJ1
    case start =>
      intro W1 hb1 hs1
      exact ⟨fun b h => h.elim, by omega, (HB2.out.trans (HB3.out.mono hs2)).trans (hb1.mono (by omega)), .slice none 0 0, R7.out.below hb1 (by omega), World.ownsRow_nil _ _ _ _, fun b hb => by simp [Value.ownBlock] at hb⟩
    case body =>
      rintro l' s' p o O' A' m' hI hpok' hnp' hbA hlen' n0 n1 hz
      have hln' : s'.length < (itM m).length := by obtain ⟨t, ht⟩ := hlen'; rw [ht]; simp
      obtain ⟨vv, hrv, hov, hnv⟩ := hI.ex
      have c7 := hrv.cell 0
      have f7 := hrv.frozen 0
      simp only [List.getElem?_cons_zero] at c7
      have HII := Lib.hid hI
      have HRV := Lib.hid hrv
      have HNV := Lib.hid hnv
      obtain ⟨XS, hXS⟩ : ∃ XS, XS = (s'.map (valM y)).map (Value.int .i64) := ⟨_, rfl⟩
      have HOV : Hid (A'.ownsRow (W2.heap.size + 2) 3 1 vv s'.length XS) := by show World.ownsRow _ _ _ _ _ _ _; rw [hXS]; exact hov
      have HXS := Lib.hid hXS
      have hvb : w2.heap.size < W2.heap.size := by omega
      clear hI hrv hnv hov hXS hbA hnp' hd2
      gi_wp2_with (gi_at_builtin; refine wpListIn_push8 rfl (.tmp 24) (.tmp 26) 22 rfl i0 (.int .i64 0) 8 Tryz.underlying22 hi0 hz0 hz1 hz2 rfl rfl (HOV.out.alloc _) ⟨A'.heap.size, 0, none⟩ 1 (.int .i64 (valM y p)) rfl (by simp [go_sem]) rfl (by unfold maxLen; omega) (by omega) (by simp; omega) ?_)
      intro v5 C hp
      rw [HXS.out] at hp
      have hov := HOV.out
      rw [HXS.out] at hov
      have hN := HII.out.next (by omega) (by omega) HRV.out hov HNV.out ((Below.refl _ _).alloc (Nat.le_refl _) _) hp
      have d7 := hN.2.2.cell 0
      have g7 := hN.2.2.frozen 0
      simp only [List.getElem?_cons_zero] at d7
      have HN := Lib.hid hN
      obtain ⟨g5, cap5, rfl⟩ := hp.form
      clear hN hp c7 f7 hov
      gi_wp2
      exact ⟨HN.out.2.1, HN.out.1⟩
    case done =>
      intro O' W' hI hdef
      obtain ⟨vv, hrv, hov, hnv⟩ := hI.ex
      obtain ⟨A9, c9, rfl⟩ := own_lt0 hov
      have c7 := hrv.cell 0
      simp only [List.getElem?_cons_zero] at c7
      have HII := Lib.hid hI
      have HOV := Lib.hid hov
      have HDF := Lib.hid hdef
      clear hI hrv hnv hov hdef
      go_wp2
      refine ⟨by simp, .inl ⟨_, _, rfl, run_takeDeferred HDF.out, ?_⟩⟩
      refine ⟨.tuple #[.slice A9 (itM m).length c9, .bool true], by simp [results, Tryz.results29, go_sem], _, by rw [E1.out], (HII.out.put (by omega) (by omega) _ (Nat.le_refl _) (by omega)).bel, ?_⟩
      rw [E5.out]
      have e : (stM y m).length = (itM m).length := by simp [stM]
      rw [e]
      have hb : W2.heap.size + 2 ≥ w.heap.size := by omega
      exact ownsRow_base (ownsRow_keep1 HOV.out fun b hb => puts8 (by have := (owns_lt HOV.out b hb).1; omega)) hb
  · have HB2 := Lib.hid (HB1.out.trans (hb2.mono HB1.out.size))
    obtain ⟨e1, -, -, -, -⟩ := vals_none hr
    have E1 := Lib.hid e1
    have E5 := Lib.hid (stL_none hr)
    clear hr hb2 HR HB1 e1
    go_wp2
    refine ⟨.tuple #[.slice none 0 0, .bool false], by simp [results, Tryz.results29, go_sem], _, by rw [E1.out], HB2.out, ?_⟩
    rw [E5.out]
    exact ⟨by simp, .inl ⟨rfl, rfl⟩⟩
end Go.Proofs.YtdemcoghgnnheaaGreatDoor

namespace Go.Proofs.YtdemcoghgnnheaaGreatDoor
open Go.RowKit

theorem readM_text {y : Sy} {L : List UInt8} {m : Mk} (h : readM y L = some m) : SyOk y ∧ L = mkT m ∧ L.length ≤ 400 ∧ MkOk y m := by
  unfold readM at h
  split at h
  · rename_i hy
    unfold parseM at h
    split at h
    · rename_i hl
      split at h
      · rename_i m2 hm
        injection h with h
        subst h
        obtain ⟨h1, h2⟩ := rdMk_eq y (syB_iff.1 hy) _ hm
        exact ⟨syB_iff.1 hy, by simpa using h2, hl, h1⟩
      · cases h
    · cases h
  · cases h
theorem stL_wf (y : Sy) (L : List UInt8) : ∀ z ∈ stL y L, I64 z := by
  intro z hz
  cases hr : readM y L with
  | none => rw [stL_none hr] at hz; cases hz
  | some m =>
    rw [stL_some hr] at hz
    obtain ⟨hy, _, _, hok⟩ := readM_text hr
    exact stM_64 hy hok z hz
theorem stL_len (y : Sy) (L : List UInt8) : (stL y L).length ≤ 1048576 := by
  cases hr : readM y L with
  | none => rw [stL_none hr]; simp
  | some m =>
    rw [stL_some hr]
    obtain ⟨_, h1, h2, _⟩ := readM_text hr
    have := stM_len y m
    rw [h1] at h2
    omega

set_option maxRecDepth 100000 in
set_option maxHeartbeats 4000000 in
theorem specSteps_any (lo hi : Nat) (sv cv fv : Value) (y : Sy) (L : List UInt8) (w : World) (hv : SyAt w lo hi sv cv fv y) (hB : hi ≤ w.heap.size) :
    Calls Tryz.prog 28 #[.agg #[sv, cv, fv], .string (str L)] w fun e w' => ∃ v, e = .returned (.tuple #[v, .bool (okM y L)]) ∧ Below w.heap.size w w' ∧ w'.ownsRow w.heap.size 3 1 v (stL y L).length ((stL y L).map (Value.int .i64)) := by
  obtain ⟨A1, cap1, rfl, _, _, _⟩ := hv.1.1.form
  obtain ⟨A2, cap2, rfl, _, _, _⟩ := hv.1.2.form
  obtain ⟨A3, cap3, rfl, _, _, _⟩ := hv.2.form
  have hb1 : Below w.heap.size w (w.alloc (.cells #[.slice A1 y.ty.sizes.length cap1, .slice A2 y.ty.cos.length cap2, .slice A3 y.fs.length cap3] 37)) := (Below.refl _ _).alloc (Nat.le_refl _) _
  have HM := Lib.hid (specMade_any lo hi _ _ _ y L _ (hv.below hb1 hB) (by rw [World.size_alloc]; omega))
  have HR1 := Row.new w 37 [.slice A1 y.ty.sizes.length cap1, .slice A2 y.ty.cos.length cap2, .slice A3 y.fs.length cap3]
  have HRS := Lib.hid HR1
  have p0 := HR1.cell 0
  have p1 := HR1.cell 1
  have p2 := HR1.cell 2
  simp only [List.getElem?_cons_zero, List.getElem?_cons_succ] at p0 p1 p2
  have HB1 := Lib.hid hb1
  have HV := Lib.hid hv
  have hsz := str_size L
  clear hv hb1 HR1
  go_enter Tryz.func28, Tryz.ntmps28
  go_wp2_with fail
  refine HM.out.mono ?_
  clear p0 p1 p2 HM
  rintro e w2 ⟨rfl, hb2⟩
  have HB2 := Lib.hid (HB1.out.trans (hb2.mono (by rw [World.size_alloc]; omega)))
  have HS2 := Lib.hid (HRS.out.below hb2 (by rw [World.size_alloc]; omega))
  have hs2 := HB2.out.size
  have q0 := HS2.out.cell 0
  have q1 := HS2.out.cell 1
  have q2 := HS2.out.cell 2
  simp only [List.getElem?_cons_zero, List.getElem?_cons_succ] at q0 q1 q2
  cases hr : readM y L with
  | none =>
    obtain ⟨e1, -, -, -, -⟩ := vals_none hr
    have E1 := Lib.hid e1
    have E5 := Lib.hid (stL_none hr)
    have HBN : Hid (Below w.heap.size w (w2.alloc (.cells #[] 3))) := HB2.out.alloc hs2 _
    have HON : Hid ((w2.alloc (.cells #[] 3)).ownsRow w2.heap.size 3 1 (.slice (some ⟨w2.heap.size, 0, none⟩) 0 0) 0 []) := by
      have h := World.ownsRow_lit (e := 3) (base := w2.heap.size) (size := 1) w2 #[] 0 (by simp) (by unfold maxLen; omega) rfl
      show World.ownsRow _ _ _ _ _ _ _
      simpa using h
    rw [e1]
    clear hr hb2 HB1 e1 HRS
    go_wp2
    try rw [Exit.noGoto_ret]
    refine bodyPost_ret (v := .tuple #[.slice (some ⟨w2.heap.size, 0, none⟩) 0 0, .bool false]) (by simp [results, Tryz.results28, go_sem]) rfl ?_
    refine ⟨_, by rw [E1.out], HBN.out, ?_⟩
    rw [E5.out]
    exact ownsRow_base HON.out hs2
  | some m =>
    obtain ⟨e1, -, -, -, -⟩ := vals_some hr
    have E1 := Lib.hid e1
    have E5 := Lib.hid (stL_some hr)
    obtain ⟨hy, htx, hl4, hok⟩ := readM_text hr
    obtain ⟨w3, hw3⟩ : ∃ u, u = w2.alloc (.cells #[.slice A1 y.ty.sizes.length cap1, .slice A2 y.ty.cos.length cap2, .slice A3 y.fs.length cap3, .string (str L), .int .i64 0, .slice none 0 0] 84) := ⟨_, rfl⟩
    have hb3 : Below w2.heap.size w2 w3 := by rw [hw3]; exact (Below.refl _ _).alloc (Nat.le_refl _) _
    have HRR : Hid (Rr lo hi w2.heap.size (.slice A1 y.ty.sizes.length cap1) (.slice A2 y.ty.cos.length cap2) (.slice A3 y.fs.length cap3) y L 0 (.slice none 0 0) w3) := by
      refine ⟨?_, HV.out.below (HB2.out.trans (hb3.mono hs2)) hB, by omega⟩
      rw [hw3]
      exact Row.new w2 _ _
    have HRN := Lib.hid (runs8 lo hi w2.heap.size _ _ _ y hy L hl4 (mkT m).length m 0 [] (.slice none 0 0) [] w3 (Nat.le_refl _) hok HRR.out (World.ownsRow_nil _ _ _ _) (by simpa using htx) (Nat.le_refl _))
    have HB3 := Lib.hid (HB2.out.trans (hb3.mono hs2))
    have hs3 := hb3.size
    rw [e1]
    rw [hw3] at HRN
    clear hr hb2 HB1 HRS hb3 htx e1
    go_wp2_with fail
    refine HRN.out.mono ?_
    rw [← hw3]
    rintro e w4 ⟨rfl, ⟨c, hr4, ho4, ha4⟩, hk4⟩
    have HB4 : Hid (Below w.heap.size w w4) := HB3.out.trans (hk4.below hs2 (fun g hg => by simp [Value.ownBlock] at hg) (by omega))
    obtain ⟨CA, CC, rfl⟩ := own_slice7 ho4
    have c5 := hr4.cells.2.2.2.2.2
    have HO4 := Lib.hid ho4
    clear hr4 ho4 ha4 hk4 HRN HRR hw3 q0 q1 q2
    go_wp2
    try rw [Exit.noGoto_ret]
    refine bodyPost_ret (v := .tuple #[.slice CA ([] ++ stM y m).length CC, .bool true]) (by simp [results, Tryz.results28, go_sem]) rfl ?_
    refine ⟨_, by rw [E1.out], HB4.out, ?_⟩
    rw [E5.out]
    exact ownsRow_base HO4.out (by omega)
end Go.Proofs.YtdemcoghgnnheaaGreatDoor

