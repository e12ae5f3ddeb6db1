/-
  FnExactAddCoercion: the walk of the law.
-/
import Derived.Test.YtplncocfbajefaaD13
import Derived.Test.YtplncocfbajefaaD14
import Derived.Test.YtplncocfbajefaaD6
import Derived.Test.YtplncocfbajefaaQsadc
import Derived.Test.YtplncocfbajefaaA3
import Derived.Deep.RegionHeld3
namespace Go.Proofs.Ytplncocfbajefaa
open Go.RowKit

structure WClF (f : Nat → Bool) : Prop where
  c54 : f 5 = true → f 4 = true
  c65 : f 6 = true → f 5 = true
  c96 : f 9 = true → f 6 = true
  c98 : f 9 = true → f 8 = true
section
variable {f : Nat → Bool}
theorem WClF.no {f : Nat → Bool} {i j : Nat} (h : f i = true → f j = true) (hj : f j = false) : f i = false := by
  by_cases e : f i = true
  · rw [h e] at hj; cases hj
  · simpa using e
theorem WClF.u0 (h : WClF f) : WClF (fun k => decide (k = 0) || f k) where
  c54 := fun e => by simp [h.c54 (by simpa using e)]
  c65 := fun e => by simp [h.c65 (by simpa using e)]
  c96 := fun e => by simp [h.c96 (by simpa using e)]
  c98 := fun e => by simp [h.c98 (by simpa using e)]
theorem WClF.u1 (h : WClF f) : WClF (fun k => decide (k = 1) || f k) where
  c54 := fun e => by simp [h.c54 (by simpa using e)]
  c65 := fun e => by simp [h.c65 (by simpa using e)]
  c96 := fun e => by simp [h.c96 (by simpa using e)]
  c98 := fun e => by simp [h.c98 (by simpa using e)]
theorem WClF.u2 (h : WClF f) : WClF (fun k => decide (k = 2) || f k) where
  c54 := fun e => by simp [h.c54 (by simpa using e)]
  c65 := fun e => by simp [h.c65 (by simpa using e)]
  c96 := fun e => by simp [h.c96 (by simpa using e)]
  c98 := fun e => by simp [h.c98 (by simpa using e)]
theorem WClF.u3 (h : WClF f) : WClF (fun k => decide (k = 3) || f k) where
  c54 := fun e => by simp [h.c54 (by simpa using e)]
  c65 := fun e => by simp [h.c65 (by simpa using e)]
  c96 := fun e => by simp [h.c96 (by simpa using e)]
  c98 := fun e => by simp [h.c98 (by simpa using e)]
theorem WClF.u4 (h : WClF f) : WClF (fun k => decide (k = 4) || f k) where
  c54 := fun _ => rfl
  c65 := fun e => by simp [h.c65 (by simpa using e)]
  c96 := fun e => by simp [h.c96 (by simpa using e)]
  c98 := fun e => by simp [h.c98 (by simpa using e)]
theorem WClF.u5 (h : WClF f) (d4 : f 4 = true) : WClF (fun k => decide (k = 5) || f k) where
  c54 := fun _ => by simp [d4]
  c65 := fun _ => rfl
  c96 := fun e => by simp [h.c96 (by simpa using e)]
  c98 := fun e => by simp [h.c98 (by simpa using e)]
theorem WClF.u6 (h : WClF f) (d5 : f 5 = true) : WClF (fun k => decide (k = 6) || f k) where
  c54 := fun e => by simp [h.c54 (by simpa using e)]
  c65 := fun _ => by simp [d5]
  c96 := fun _ => rfl
  c98 := fun e => by simp [h.c98 (by simpa using e)]
theorem WClF.u7 (h : WClF f) : WClF (fun k => decide (k = 7) || f k) where
  c54 := fun e => by simp [h.c54 (by simpa using e)]
  c65 := fun e => by simp [h.c65 (by simpa using e)]
  c96 := fun e => by simp [h.c96 (by simpa using e)]
  c98 := fun e => by simp [h.c98 (by simpa using e)]
theorem WClF.u8 (h : WClF f) : WClF (fun k => decide (k = 8) || f k) where
  c54 := fun e => by simp [h.c54 (by simpa using e)]
  c65 := fun e => by simp [h.c65 (by simpa using e)]
  c96 := fun e => by simp [h.c96 (by simpa using e)]
  c98 := fun _ => rfl
theorem WClF.u9 (h : WClF f) (d6 : f 6 = true) (d8 : f 8 = true) : WClF (fun k => decide (k = 9) || f k) where
  c54 := fun e => by simp [h.c54 (by simpa using e)]
  c65 := fun e => by simp [h.c65 (by simpa using e)]
  c96 := fun _ => by simp [d6]
  c98 := fun _ => by simp [d8]
theorem WClF.u10 (h : WClF f) : WClF (fun k => decide (k = 10) || f k) where
  c54 := fun e => by simp [h.c54 (by simpa using e)]
  c65 := fun e => by simp [h.c65 (by simpa using e)]
  c96 := fun e => by simp [h.c96 (by simpa using e)]
  c98 := fun e => by simp [h.c98 (by simpa using e)]
end

theorem OwnSy.keep {w w' : World} {gs gc n : Nat} {m : Nat → Nat} {mv : Nat → Value} {sv cv fv : Value} {ss : List Int} {f : Nat → Co} {gf nf : Nat} {mf : Nat → Bool → Nat} {mvf : Nat → Bool → Value} {ff : Nat → Fu} (h : OwnSy w gs gc m mv sv cv ss n f gf mf mvf fv nf ff)
    (hk : ∀ k, k < w.heap.size → OwnSy.uses gs gc m ss n f gf mf nf ff k → w'.heap[k]? = w.heap[k]?) : OwnSy w' gs gc m mv sv cv ss n f gf mf mvf fv nf ff := by
  have hlt := h.fs.lt
  refine ⟨h.ty.keep fun k hl hu => hk k hl (.inl hu), h.fs.keep (fun h0 => hk gf (hlt.1 h0) (.inr fun h2 => h2.1 h0 rfl)) (fun i b hi hl => hk _ (hlt.2 i b hi hl) (.inr fun h2 => h2.2 i b hi hl rfl)), h.apart, h.away⟩
set_option maxRecDepth 100000 in
set_option maxHeartbeats 8000000 in
theorem lawAc_walk (sv cv fv x y z : Value) (t : Sy) (c : Co) (w : World) (hv : SyAt w 0 w.heap.size sv cv fv t) (hc : CoAt w 0 w.heap.size x y z c) :
    Calls Try.prog 3 #[.agg #[sv, cv, fv], .agg #[x, y, z]] w fun e w' => e = .returned (.bool true) ∧ Below w.heap.size w w' := by
  obtain ⟨A, cap, rfl, hl1, hm1, _⟩ := hv.1.1.form
  obtain ⟨B, bap, rfl, hl2, hm2, _⟩ := hv.1.2.form
  obtain ⟨Q, qap, rfl, hl5, hm5, _⟩ := hv.2.form
  obtain ⟨rfl, rfl, hs, hd, hcz⟩ := hc
  obtain ⟨A2, cap2, rfl, hl3, hm3, hcz⟩ := hcz.form
  clear hl1 hm1 hl2 hm2 hl5 hm5
  have Hv := Lib.hid hv
  have Hc := Lib.hid (show CoAt w 0 w.heap.size (.int .i64 c.src) (.int .i64 c.dst) (.slice A2 c.map.length cap2) c from ⟨rfl, rfl, hs, hd, hcz⟩)
  have HS := Lib.hid hs
  have HD := Lib.hid hd
  have HM := Lib.hid (IntsAt.wf hcz)
  have Hbulk := Lib.hid (linkSy_bulk t c)
  clear hv hcz hs hd
  have HB1 : Hid (Below w.heap.size w ((w.alloc (.cells #[.slice A t.ty.sizes.length cap, .slice B t.ty.cos.length bap, .slice Q t.fs.length qap] 28)).alloc (.cells #[.int .i64 c.src, .int .i64 c.dst, .slice A2 c.map.length cap2] 30))) := by show Below _ _ _; go_grown
  go_enter Try.func3, Try.ntmps3
  go_wp2_with fail
  refine (szSystem_any 0 w.heap.size _ _ _ t 1048576 _ (by omega) (by omega) (Hv.out.below HB1.out (Nat.le_refl _)) (by simp; omega)).mono ?_
  rintro e w2 ⟨rfl, hb2⟩
  have RT2 : Hid (Row w2 w.heap.size 28 [.slice A t.ty.sizes.length cap, .slice B t.ty.cos.length bap, .slice Q t.fs.length qap]) := ((Row.new w 28 [.slice A t.ty.sizes.length cap, .slice B t.ty.cos.length bap, .slice Q t.fs.length qap]).alloc _).below hb2 (by simp; omega)
  have RC2 : Hid (Row w2 (w.heap.size + 1) 30 [.int .i64 c.src, .int .i64 c.dst, .slice A2 c.map.length cap2]) := by
    have h := Row.new (w.alloc (.cells #[.slice A t.ty.sizes.length cap, .slice B t.ty.cos.length bap, .slice Q t.fs.length qap] 28)) 30 [.int .i64 c.src, .int .i64 c.dst, .slice A2 c.map.length cap2]
    rw [World.size_alloc] at h
    exact h.below hb2 (by simp)
  have HB2 := Lib.hid (HB1.out.trans (hb2.mono (by simp; omega)))
  have hz2 : w.heap.size + 1 + 1 ≤ w2.heap.size := by have := hb2.size; simpa using this
  clear hb2
  have t0 := RT2.out.cell 0
  have t1 := RT2.out.cell 1
  have t2 := RT2.out.cell 2
  have tl := RT2.out.lt
  have c0 := RC2.out.cell 0
  have c1 := RC2.out.cell 1
  have c2 := RC2.out.cell 2
  have cl := RC2.out.lt
  simp only [List.getElem?_cons_zero, List.getElem?_cons_succ] at t0 t1 t2 c0 c1 c2
  by_cases hbig : (1048576 : Int) - t.bulk < 0
  · rw [subI_neg hbig]
    go_wp2
    go_ret
    exact ⟨rfl, HB2.out⟩
  rw [subI_pos hbig]
  have hbk : Hid (t.bulk ≤ 1048576) := by show t.bulk ≤ 1048576; omega
  obtain ⟨L1, hL1⟩ : ∃ L, L = (1048576 : Int) - t.bulk := ⟨_, rfl⟩
  rw [← hL1] at hbig ⊢
  have hL1b : L1 ≤ 1048576 := by omega
  clear hL1
  go_wp2_with fail
  refine (szCoercion_any _ _ _ c.map.length _ L1 _ (by omega) (by omega) (by omega)).mono ?_
  rintro e w3 ⟨rfl, hb3⟩
  have RT3 := Lib.hid (RT2.out.below hb3 RT2.out.lt)
  have RC3 := Lib.hid (RC2.out.below hb3 RC2.out.lt)
  have HB3 := Lib.hid (HB2.out.trans (hb3.mono (by have := HB2.out.size; omega)))
  have hz3 := hb3.size
  clear tl cl t0 t1 t2 c0 c1 c2
  have t0 := RT3.out.cell 0
  have t1 := RT3.out.cell 1
  have t2 := RT3.out.cell 2
  have tl := RT3.out.lt
  have c0 := RC3.out.cell 0
  have c1 := RC3.out.cell 1
  have c2 := RC3.out.cell 2
  have cl := RC3.out.lt
  simp only [List.getElem?_cons_zero, List.getElem?_cons_succ] at t0 t1 t2 c0 c1 c2
  clear hb3
  by_cases hbig2 : L1 - (c.map.length : Int) < 0
  · rw [subI_neg hbig2]
    go_wp2
    go_ret
    exact ⟨rfl, HB3.out⟩
  rw [subI_pos hbig2]
  have hcl : c.map.length ≤ 1048576 := by omega
  obtain ⟨L2, hL2⟩ : ∃ L, L = L1 - (c.map.length : Int) := ⟨_, rfl⟩
  rw [← hL2] at hbig2 ⊢
  clear hL2
  go_wp2_with fail
  clear hbig hbig2 hL1b
  have hDk : ∀ (w w' : World) (lo hi : Nat) (v l g : Value), SyAt w lo hi v l g (linkSy t c) → (∀ k, lo ≤ k → k < hi → w'.heap[k]? = w.heap[k]?) → SyAt w' lo hi v l g (linkSy t c) := fun w w' lo hi v l g h hk => h.keep hk
  have HDk := Lib.hid hDk
  clear hDk
  have Hcf4 : Hid (∀ {u : World}, Below w3.heap.size w3 u → u.cell? ⟨w.heap.size, 0, none⟩ = some (.slice A t.ty.sizes.length cap) ∧ u.cell? ⟨w.heap.size, 1, none⟩ = some (.slice B t.ty.cos.length bap) ∧ u.cell? ⟨w.heap.size, 2, none⟩ = some (.slice Q t.fs.length qap) ∧ u.cell? ⟨w.heap.size + 1, 0, none⟩ = some (.int .i64 c.src) ∧ u.cell? ⟨w.heap.size + 1, 1, none⟩ = some (.int .i64 c.dst) ∧ u.cell? ⟨w.heap.size + 1, 2, none⟩ = some (.slice A2 c.map.length cap2)) := fun {u} hu => by
    have r0 := RT3.out.below hu RT3.out.lt
    have r1 := RC3.out.below hu RC3.out.lt
    exact ⟨r0.cell 0, r0.cell 1, r0.cell 2, r1.cell 0, r1.cell 1, r1.cell 2⟩
  clear tl cl t0 t1 t2 c0 c1 c2
  refine wp_region_inv (by kernel_rfl) (fun f a u => ∃ x6 x7 x27 x28 x29 x30 x31 x32 x33 x34, a = ⟨#[Value.agg #[Value.slice A t.ty.sizes.length cap, Value.slice B t.ty.cos.length bap, Value.slice Q t.fs.length qap], Value.agg #[Value.int IntKind.i64 c.src, Value.int IntKind.i64 c.dst, Value.slice A2 c.map.length cap2], Value.pointer (some { block := w.heap.size, off := 0 }), Value.pointer (some { block := w.heap.size + 1, off := 0 }), Value.bool false, Value.int IntKind.i64 L2, x6, x7, undef, undef, undef, undef, undef, undef, undef, undef, undef, Value.agg #[Value.slice A t.ty.sizes.length cap, Value.slice B t.ty.cos.length bap, Value.slice Q t.fs.length qap], Value.int IntKind.i64 1048576, Value.int IntKind.i64 L1, Value.int IntKind.i64 L1, Value.bool (decide (L1 < 0)), Value.agg #[Value.int IntKind.i64 c.src, Value.int IntKind.i64 c.dst, Value.slice A2 c.map.length cap2], Value.int IntKind.i64 L1, Value.int IntKind.i64 L2, Value.int IntKind.i64 L2, Value.bool (decide (L2 < 0)), x27, x28, x29, x30, x31, x32, x33, x34, undef, undef, undef, undef, undef, undef, undef, undef, undef, undef, undef, undef, undef, undef, undef, undef, undef, undef, undef, undef, undef, undef, undef, undef, undef, undef, undef, undef, undef, undef, undef, undef, undef, undef, undef, undef, undef, undef, undef, undef, undef, undef, undef, undef, undef, undef, undef, undef, undef, undef, undef, undef, undef, undef, undef, undef, undef, undef, undef, undef, undef, undef, undef, undef, undef, undef, undef, undef, undef, undef, undef, undef, undef, undef, undef, undef, undef, undef, undef, undef, undef, undef, undef, undef], []⟩ ∧ WCFacts (fun u lo hi v l g => SyAt u lo hi v l g (linkSy t c)) w3.heap.size w3 (.agg #[.slice A t.ty.sizes.length cap, .slice B t.ty.cos.length bap, .slice Q t.fs.length qap]) (.agg #[.int .i64 c.src, .int .i64 c.dst, .slice A2 c.map.length cap2]) t c (linkOk t c) f x6 x7 x27 x28 x29 x30 x31 x32 x33 x34 u ∧ WClF f) (of_decide_eq_true (by kernel_rfl)) ⟨_, _, _, _, _, _, _, _, _, _, rfl, ⟨(Below.refl _ _).drew, nofun, nofun, nofun, nofun, nofun, nofun, nofun, nofun, nofun, nofun, nofun⟩, ⟨nofun, nofun, nofun, nofun⟩⟩ ?_ ?_
  · rintro f a u i o ho hfi hdep ⟨x6, x7, x27, x28, x29, x30, x31, x32, x33, x34, rfl, hF, hC⟩
    have hil : i < 11 := by have := (Array.getElem?_eq_some_iff.1 ho).1; simpa using this
    have hsz := hF.bel.size
    have hBu : Hid (Below w.heap.size w u) := HB3.out.trans (hF.bel.mono HB3.out.size)
    have hbu := hBu.out.size
    obtain ⟨p0, p1, p2, p3, p4, p5⟩ := Hcf4.out hF.bel
    obtain rfl | rfl | rfl | rfl | rfl | rfl | rfl | rfl | rfl | rfl | rfl : i = 0 ∨ i = 1 ∨ i = 2 ∨ i = 3 ∨ i = 4 ∨ i = 5 ∨ i = 6 ∨ i = 7 ∨ i = 8 ∨ i = 9 ∨ i = 10 := by omega
    all_goals
      obtain rfl := Option.some.inj ho
      refine wpOp_step ho fun K hK => ?_
      simp [Region.binds] at hdep
      clear ho
    · refine if_stepF rfl ?_
      have HF := Lib.hid hF
      have HC := Lib.hid hC
      clear hF hC
      unfold Oper.wp
      go_simp
      exact hK _ _ ⟨x6, x7, x27, _, x29, x30, x31, x32, x33, x34, rfl, HF.out.s0, HC.out.u0⟩
    · have d0 : f 0 = true := by simp [hdep]
      obtain rfl := hF.a0 d0
      refine if_stepF rfl ?_
      have HF := Lib.hid hF
      have HC := Lib.hid hC
      clear hF hC
      unfold Oper.wp
      go_simp
      refine (toSystem_any 0 w.heap.size _ _ _ t u (Hv.out.below hBu.out (Nat.le_refl _)) hbu hbk.out).mono ?_
      rintro e u2 ⟨rfl, hb9, hs9, hn9⟩
      exact hK _ _ ⟨x6, x7, x27, _, _, x30, x31, x32, x33, x34, rfl, (HF.out.grow HDk.out hsz hb9).s1 (by omega) (by omega) (hn9.at_ Hv.out.fits hbk.out), HC.out.u1⟩
    · refine if_stepF rfl ?_
      have HF := Lib.hid hF
      have HC := Lib.hid hC
      clear hF hC
      unfold Oper.wp
      go_simp
      exact hK _ _ ⟨x6, x7, x27, x28, x29, _, x31, x32, x33, x34, rfl, HF.out.s2, HC.out.u2⟩
    · have d2 : f 2 = true := by simp [hdep]
      obtain rfl := hF.a2 d2
      refine if_stepF rfl ?_
      have HF := Lib.hid hF
      have HC := Lib.hid hC
      clear hF hC
      unfold Oper.wp
      go_simp
      refine (toCoercion_any 0 w.heap.size _ _ _ c u (Hc.out.below hBu.out (Nat.le_refl _)) hbu hcl).mono ?_
      rintro e u2 ⟨rfl, hb9, hs9, hn9⟩
      have hcc : CoAt u2 (u.heap.size + 3) (u.heap.size + 4) (.int .i64 c.src) (.int .i64 c.dst) (.slice (some ⟨u.heap.size + 3, 0, none⟩) c.map.length c.map.length) c := ⟨rfl, rfl, HS.out, HD.out, hn9.ints (cap := c.map.length) HM.out (Nat.le_refl _) (by omega) (Nat.le_refl _) (by unfold maxLen; omega)⟩
      exact hK _ _ ⟨x6, x7, x27, x28, x29, _, _, x32, x33, x34, rfl, (HF.out.grow HDk.out hsz hb9).s3 (by omega) (by omega) hcc, HC.out.u3⟩
    · have d1 : f 1 = true := by simp [hdep]
      have d3 : f 3 = true := by simp [hdep]
      obtain ⟨s1, l1, g1, rfl, lo1, hi1, e1, e2, hty1⟩ := hF.a1 d1 hfi
      obtain ⟨y1, y2, y3, rfl, lo2, hi2, e3, e4, hco1⟩ := hF.a3 d3 hfi
      have Hty1 := Lib.hid (hty1.more (lo' := w3.heap.size) (hi' := u.heap.size) e1 e2)
      have Hco1 := Lib.hid (hco1.more (lo' := w3.heap.size) (hi' := u.heap.size) e3 e4)
      clear hty1 hco1
      have hq : ∀ q, x6 = .pointer (some ⟨q, 0, none⟩) → f 8 = true → q < u.heap.size ∨ u.heap.size ≤ q := fun q _ _ => by omega
      clear hq
      have Hq : Hid (∀ q, x6 = .pointer (some ⟨q, 0, none⟩) → f 8 = true → q < u.heap.size) := fun q eq h8 => by
        obtain ⟨q2, _, eq2, hr⟩ := hF.a8 h8 (WClF.no (fun h9 => hC.c54 (hC.c65 (hC.c96 h9))) hfi)
        rw [eq2] at eq
        cases eq
        exact hr.lt
      refine if_stepF rfl ?_
      have HF := Lib.hid hF
      have HC := Lib.hid hC
      clear hF hC
      unfold Oper.wp
      go_simp
      refine (specAddCo_any _ _ _ _ _ _ _ _ t c _ Hty1.out Hco1.out (Nat.le_refl _) hbk.out hcl).mono ?_
      rintro e u2 ⟨v9, l9, g9, rfl, hb9, hty9⟩
      exact hK _ _ ⟨x6, x7, x27, x28, _, x30, _, _, x33, x34, rfl, (HF.out.grow HDk.out hsz hb9).s4 (lo := u.heap.size) (hi := u2.heap.size) hsz (Nat.le_refl _) hty9 (fun q eq h8 => .inl (Hq.out q eq h8)) (WClF.no HC.out.c54 hfi) (WClF.no (fun h6 => HC.out.c54 (HC.out.c65 h6)) hfi), HC.out.u4⟩
    · have d4 : f 4 = true := by simp [hdep]
      refine if_stepF rfl ?_
      have HF := Lib.hid hF
      have HC := Lib.hid hC
      clear hF hC
      unfold Oper.wp
      go_simp
      exact hK _ _ ⟨x6, x7, _, x28, x29, x30, x31, x32, x33, x34, rfl, HF.out.s5, HC.out.u5 d4⟩
    · have d5 : f 5 = true := by simp [hdep]
      have e5 := hF.a5 d5
      subst e5
      obtain ⟨v4, l4, g4, e4, _⟩ := hF.a4 (hC.c54 d5)
      subst e4
      refine if_stepF rfl ?_
      have HF := Lib.hid hF
      have HC := Lib.hid hC
      clear hF hC
      unfold Oper.wp
      go_simp
      exact hK _ _ ⟨x6, x7, _, x28, x29, x30, x31, _, _, x34, rfl, HF.out.s6 rfl (WClF.no HC.out.c96 hfi), HC.out.u6 d5⟩
    · have d5 : f 5 = true := by simp [hdep]
      have e5 := hF.a5 d5
      subst e5
      obtain ⟨v4, l4, g4, e4, _⟩ := hF.a4 (hC.c54 d5)
      subst e4
      refine if_stepF rfl ?_
      have HF := Lib.hid hF
      have HC := Lib.hid hC
      clear hF hC
      unfold Oper.wp
      go_simp
      exact hK _ _ ⟨x6, x7, _, x28, x29, x30, x31, _, x33, _, rfl, HF.out.s7, HC.out.u7⟩
    · refine if_stepF rfl ?_
      have HF := Lib.hid hF
      have HC := Lib.hid hC
      clear hF hC
      unfold Oper.wp
      go_simp
      have hh : f 4 = true → ∃ v l g, x32 = .tuple #[.agg #[v, l, g], .bool (linkOk t c)] ∧ ∃ lo hi, w3.heap.size ≤ lo ∧ hi ≤ u.heap.size ∧ SyAt (u.alloc (.cells #[.slice none 0 0, .slice none 0 0, .slice none 0 0] 38)) lo hi v l g (linkSy t c) := fun d4 => by
        obtain ⟨v, l, g, e, lo, hi, h1, h2, h3, _⟩ := HF.out.a4 d4
        exact ⟨v, l, g, e, lo, hi, h1, h2, h3.keep fun k _ hk => Below.heap_alloc u _ k (by omega)⟩
      exact hK _ _ ⟨_, x7, x27, x28, x29, x30, x31, x32, x33, x34, rfl, (HF.out.grow HDk.out hsz ((Below.refl _ _).alloc (Nat.le_refl _) _)).s8 (b := u.heap.size) hsz (Row.new u 38 [.slice none 0 0, .slice none 0 0, .slice none 0 0]) (WClF.no HC.out.c98 hfi) hh, HC.out.u8⟩
    · have d6 : f 6 = true := by simp [hdep]
      have d8 : f 8 = true := by simp [hdep]
      have d4 : f 4 = true := by simp [hdep]
      obtain ⟨v6, l6, g6, rfl, e6⟩ := hF.a6 d6
      obtain ⟨v4, l4, g4, e4, lo4, hi4, _, _, h4, _⟩ := hF.a4 d4
      rw [e6] at e4
      simp at e4
      obtain ⟨rfl, rfl, rfl⟩ := e4
      obtain ⟨A6, c6, rfl, _, _, _⟩ := h4.1.1.form
      obtain ⟨B6, c7, rfl, _, _, _⟩ := h4.1.2.form
      obtain ⟨Q6, c8, rfl, _, _, _⟩ := h4.2.form
      subst e6
      clear h4
      obtain ⟨q, hq, rfl, hrow⟩ := hF.a8 d8 hfi
      have Hrow := Lib.hid hrow
      have r0 := hrow.cell 0
      have r1 := hrow.cell 1
      have r2 := hrow.cell 2
      have rf0 := hrow.frozen 0
      have rf1 := hrow.frozen 1
      have rf2 := hrow.frozen 2
      simp only [List.getElem?_cons_zero, List.getElem?_cons_succ] at r0 r1 r2
      clear hrow
      refine if_stepF rfl ?_
      have HF := Lib.hid hF
      have HC := Lib.hid hC
      clear hF hC
      unfold Oper.wp
      go_simp
      exact hK _ _ ⟨_, x7, x27, x28, x29, x30, x31, _, _, x34, rfl, HF.out.s9 HDk.out d4 d8 hq Hrow.out, HC.out.u9 d6 d8⟩
    · have d7 : f 7 = true := by simp [hdep]
      obtain rfl := hF.a7 d7
      refine if_stepF rfl ?_
      have HF := Lib.hid hF
      have HC := Lib.hid hC
      clear hF hC
      unfold Oper.wp
      go_simp
      exact hK _ _ ⟨x6, _, x27, x28, x29, x30, x31, x32, x33, _, rfl, HF.out.s10, HC.out.u10⟩
  rintro f a w4 hall ⟨x6, x7, x27, x28, x29, x30, x31, x32, x33, x34, rfl, hF, hC⟩
  obtain ⟨q4, v4, l4, g4, hq4, rfl, rfl, hr4⟩ := hF.a9 (hall 9 (by decide))
  obtain ⟨va, la, ga, ea, eb⟩ := hF.a6 (hall 6 (by decide))
  obtain ⟨vb, lb, gb, ec, lo4, hi4, hlo4, hhi4, hty4, _⟩ := hF.a4 (hall 4 (by decide))
  rw [eb] at ec
  simp at ea ec
  obtain ⟨rfl, rfl, rfl⟩ := ea
  obtain ⟨rfl, rfl, rfl⟩ := ec
  subst eb
  obtain rfl := hF.aa (hall 10 (by decide))
  have hb4 := hF.bel
  obtain ⟨AP, capP, rfl, _, _, _⟩ := hty4.1.1.form
  obtain ⟨BP, bapP, rfl, _, _, _⟩ := hty4.1.2.form
  obtain ⟨QP, qapP, rfl, _, _, _⟩ := hty4.2.form
  have RT4 := Lib.hid (RT3.out.below hb4 RT3.out.lt)
  have RC4 := Lib.hid (RC3.out.below hb4 RC3.out.lt)
  have HB4 := Lib.hid (HB3.out.trans (hb4.mono (by have := HB3.out.size; omega)))
  have hz4 := hb4.size
  have ST4 := Lib.hid (hty4.more (lo' := w3.heap.size) (hi' := w4.heap.size) hlo4 hhi4)
  have hqlt4 : q4 < w4.heap.size := hr4.lt
  have RP4 : Hid (Row w4 q4 38 [.slice AP (linkSy t c).ty.sizes.length capP, .slice BP (linkSy t c).ty.cos.length bapP, .slice QP (linkSy t c).fs.length qapP]) := hr4
  clear hF hC hall hr4 hty4 hb4 hlo4 hhi4
  have t0 := RT4.out.cell 0
  have t1 := RT4.out.cell 1
  have t2 := RT4.out.cell 2
  have tl := RT4.out.lt
  have c0 := RC4.out.cell 0
  have c1 := RC4.out.cell 1
  have c2 := RC4.out.cell 2
  have cl := RC4.out.lt
  have p0 := RP4.out.cell 0
  have p1 := RP4.out.cell 1
  have p2 := RP4.out.cell 2
  have pl := RP4.out.lt
  simp only [List.getElem?_cons_zero, List.getElem?_cons_succ] at t0 t1 t2 c0 c1 c2 p0 p1 p2
  have WF := Lib.hid (SyAt.fits ST4.out)
  go_wp2_with fail
  refine (toSystem_any 0 w.heap.size _ _ _ t _ (Hv.out.below HB4.out (Nat.le_refl _)) (by omega) hbk.out).mono ?_
  rintro e w5 ⟨rfl, hb5, hs5, hn5⟩
  have RT5 := Lib.hid (RT4.out.below hb5 RT4.out.lt)
  have RC5 := Lib.hid (RC4.out.below hb5 RC4.out.lt)
  have RP5 := Lib.hid (RP4.out.below hb5 RP4.out.lt)
  have HB5 := Lib.hid (HB4.out.trans (hb5.mono (by have := HB4.out.size; omega)))
  have hz5 := hb5.size
  have ST5 := Lib.hid (ST4.out.below hb5 (by omega))
  have XN5 := Lib.hid (hn5.at_ Hv.out.fits hbk.out)
  have Hn5 := Lib.hid hn5
  have hs5b : w4.heap.size + 9 + 4 * t.ty.cos.length + 5 * t.fs.length ≤ w5.heap.size := by omega
  have B55 := Lib.hid (Below.refl w5.heap.size w5)
  clear tl cl pl t0 t1 t2 c0 c1 c2 p0 p1 p2
  have t0 := RT5.out.cell 0
  have t1 := RT5.out.cell 1
  have t2 := RT5.out.cell 2
  have tl := RT5.out.lt
  have c0 := RC5.out.cell 0
  have c1 := RC5.out.cell 1
  have c2 := RC5.out.cell 2
  have cl := RC5.out.lt
  have p0 := RP5.out.cell 0
  have p1 := RP5.out.cell 1
  have p2 := RP5.out.cell 2
  have pl := RP5.out.lt
  simp only [List.getElem?_cons_zero, List.getElem?_cons_succ] at t0 t1 t2 c0 c1 c2 p0 p1 p2
  clear hb5 hn5 hs5
  go_wp2_with fail
  obtain ⟨w5a, hw5a⟩ : ∃ u, u = w5.alloc (.cells #[.slice (some ⟨w4.heap.size + 6, 0, none⟩) t.ty.sizes.length t.ty.sizes.length, .slice (some ⟨w4.heap.size + 7, 0, none⟩) t.ty.cos.length t.ty.cos.length, .slice (some ⟨w4.heap.size + 8 + 4 * t.ty.cos.length, 0, none⟩) t.fs.length t.fs.length] 38) := ⟨_, rfl⟩
  rw [← hw5a]
  have hb5a : Below w5.heap.size w5 w5a := by rw [hw5a]; exact (Below.refl _ _).alloc (Nat.le_refl _) _
  have RT5a := Lib.hid (RT5.out.below hb5a RT5.out.lt)
  have RC5a := Lib.hid (RC5.out.below hb5a RC5.out.lt)
  have RP5a := Lib.hid (RP5.out.below hb5a RP5.out.lt)
  have HB5a := Lib.hid (HB5.out.trans (hb5a.mono (by have := HB5.out.size; omega)))
  have hz5a := hb5a.size
  have ST5a := Lib.hid (ST5.out.below hb5a (by omega))
  have XN5a := Lib.hid (XN5.out.below hb5a (by omega))
  have B55a := Lib.hid (B55.out.trans (hb5a.mono (by omega)))
  have RX5a : Hid (Row w5a w5.heap.size 38 [.slice (some ⟨w4.heap.size + 6, 0, none⟩) t.ty.sizes.length t.ty.sizes.length, .slice (some ⟨w4.heap.size + 7, 0, none⟩) t.ty.cos.length t.ty.cos.length, .slice (some ⟨w4.heap.size + 8 + 4 * t.ty.cos.length, 0, none⟩) t.fs.length t.fs.length]) := by rw [hw5a]; exact Row.new w5 38 [.slice (some ⟨w4.heap.size + 6, 0, none⟩) t.ty.sizes.length t.ty.sizes.length, .slice (some ⟨w4.heap.size + 7, 0, none⟩) t.ty.cos.length t.ty.cos.length, .slice (some ⟨w4.heap.size + 8 + 4 * t.ty.cos.length, 0, none⟩) t.fs.length t.fs.length]
  have hlX : w5.heap.size < w5a.heap.size := RX5a.out.lt
  clear hw5a hb5a
  clear tl cl pl t0 t1 t2 c0 c1 c2 p0 p1 p2
  have t0 := RT5a.out.cell 0
  have t1 := RT5a.out.cell 1
  have t2 := RT5a.out.cell 2
  have tl := RT5a.out.lt
  have c0 := RC5a.out.cell 0
  have c1 := RC5a.out.cell 1
  have c2 := RC5a.out.cell 2
  have cl := RC5a.out.lt
  have p0 := RP5a.out.cell 0
  have p1 := RP5a.out.cell 1
  have p2 := RP5a.out.cell 2
  have pl := RP5a.out.lt
  have x0 := RX5a.out.cell 0
  have x1 := RX5a.out.cell 1
  have x2 := RX5a.out.cell 2
  have xl := RX5a.out.lt
  simp only [List.getElem?_cons_zero, List.getElem?_cons_succ] at t0 t1 t2 c0 c1 c2 p0 p1 p2 x0 x1 x2
  refine (toCoercion_any 0 w.heap.size _ _ _ c _ (Hc.out.below HB5a.out (Nat.le_refl _)) (by omega) hcl).mono ?_
  rintro e w5b ⟨rfl, hb5b, hs5c, hr5⟩
  have RT5b := Lib.hid (RT5a.out.below hb5b RT5a.out.lt)
  have RC5b := Lib.hid (RC5a.out.below hb5b RC5a.out.lt)
  have RP5b := Lib.hid (RP5a.out.below hb5b RP5a.out.lt)
  have RX5b := Lib.hid (RX5a.out.below hb5b RX5a.out.lt)
  have HB5b := Lib.hid (HB5a.out.trans (hb5b.mono (by have := HB5a.out.size; omega)))
  have hz5b := hb5b.size
  have ST5b := Lib.hid (ST5a.out.below hb5b (by omega))
  have XN5b := Lib.hid (XN5a.out.below hb5b (by omega))
  have B55b := Lib.hid (B55a.out.trans (hb5b.mono (by omega)))
  have hs5d : w5a.heap.size + 4 ≤ w5b.heap.size := by omega
  have KO5b := Lib.hid (hr5.own (cap := c.map.length) (Nat.le_refl _) (by unfold maxLen; omega))
  have KC5b : Hid (CoAt w5b (w5a.heap.size + 3) (w5a.heap.size + 4) (.int .i64 c.src) (.int .i64 c.dst) (.slice (some ⟨w5a.heap.size + 3, 0, none⟩) c.map.length c.map.length) c) := ⟨rfl, rfl, HS.out, HD.out, hr5.ints (cap := c.map.length) HM.out (Nat.le_refl _) (by omega) (Nat.le_refl _) (by unfold maxLen; omega)⟩
  clear tl cl pl xl t0 t1 t2 c0 c1 c2 p0 p1 p2 x0 x1 x2
  have t0 := RT5b.out.cell 0
  have t1 := RT5b.out.cell 1
  have t2 := RT5b.out.cell 2
  have tl := RT5b.out.lt
  have c0 := RC5b.out.cell 0
  have c1 := RC5b.out.cell 1
  have c2 := RC5b.out.cell 2
  have cl := RC5b.out.lt
  have p0 := RP5b.out.cell 0
  have p1 := RP5b.out.cell 1
  have p2 := RP5b.out.cell 2
  have pl := RP5b.out.lt
  have x0 := RX5b.out.cell 0
  have x1 := RX5b.out.cell 1
  have x2 := RX5b.out.cell 2
  have xl := RX5b.out.lt
  simp only [List.getElem?_cons_zero, List.getElem?_cons_succ] at t0 t1 t2 c0 c1 c2 p0 p1 p2 x0 x1 x2
  clear hb5b hr5 hs5c
  go_wp2_with fail
  obtain ⟨w5c, hw5c⟩ : ∃ u, u = w5b.alloc (.cells #[.int .i64 c.src, .int .i64 c.dst, .slice (some ⟨w5a.heap.size + 3, 0, none⟩) c.map.length c.map.length] 42) := ⟨_, rfl⟩
  rw [← hw5c]
  have hb5c : Below w5b.heap.size w5b w5c := by rw [hw5c]; exact (Below.refl _ _).alloc (Nat.le_refl _) _
  have RT5c := Lib.hid (RT5b.out.below hb5c RT5b.out.lt)
  have RC5c := Lib.hid (RC5b.out.below hb5c RC5b.out.lt)
  have RP5c := Lib.hid (RP5b.out.below hb5c RP5b.out.lt)
  have RX5c := Lib.hid (RX5b.out.below hb5c RX5b.out.lt)
  have HB5c := Lib.hid (HB5b.out.trans (hb5c.mono (by have := HB5b.out.size; omega)))
  have hz5c := hb5c.size
  have ST5c := Lib.hid (ST5b.out.below hb5c (by omega))
  have XN5c := Lib.hid (XN5b.out.below hb5c (by omega))
  have KC5c := Lib.hid (KC5b.out.below hb5c (by omega))
  have KO5c := Lib.hid (KO5b.out.keep fun h0 => hb5c.block _ (by omega))
  have B55c := Lib.hid (B55b.out.trans (hb5c.mono (by omega)))
  have RK5c : Hid (Row w5c w5b.heap.size 42 [.int .i64 c.src, .int .i64 c.dst, .slice (some ⟨w5a.heap.size + 3, 0, none⟩) c.map.length c.map.length]) := by rw [hw5c]; exact Row.new w5b 42 [.int .i64 c.src, .int .i64 c.dst, .slice (some ⟨w5a.heap.size + 3, 0, none⟩) c.map.length c.map.length]
  have hlK : w5b.heap.size < w5c.heap.size := RK5c.out.lt
  clear hw5c hb5c
  clear tl cl pl xl t0 t1 t2 c0 c1 c2 p0 p1 p2 x0 x1 x2
  have t0 := RT5c.out.cell 0
  have t1 := RT5c.out.cell 1
  have t2 := RT5c.out.cell 2
  have tl := RT5c.out.lt
  have c0 := RC5c.out.cell 0
  have c1 := RC5c.out.cell 1
  have c2 := RC5c.out.cell 2
  have cl := RC5c.out.lt
  have p0 := RP5c.out.cell 0
  have p1 := RP5c.out.cell 1
  have p2 := RP5c.out.cell 2
  have pl := RP5c.out.lt
  have x0 := RX5c.out.cell 0
  have x1 := RX5c.out.cell 1
  have x2 := RX5c.out.cell 2
  have xl := RX5c.out.lt
  have k0 := RK5c.out.cell 0
  have k1 := RK5c.out.cell 1
  have k2 := RK5c.out.cell 2
  have kl := RK5c.out.lt
  simp only [List.getElem?_cons_zero, List.getElem?_cons_succ] at t0 t1 t2 c0 c1 c2 p0 p1 p2 x0 x1 x2 k0 k1 k2
  refine (implAddCo_any 0 w5c.heap.size _ _ _ _ _ _ t c _ (XN5c.out.more (Nat.zero_le _) (by omega)) (KC5c.out.more (Nat.zero_le _) (by omega)) (Nat.le_refl _) hbk.out hcl).mono ?_
  rintro e w6 ⟨v1, l1, g1, rfl, hb6, hto6⟩
  have hty6 := hto6.syAt (lo := w5c.heap.size) (hi := w6.heap.size) WF.out (Nat.le_refl _) (Nat.le_refl _)
  obtain ⟨gs, gc, m, mv, gf, mf, mvf, hown6, huse6⟩ := hto6.own
  obtain ⟨A1, cap1, rfl, _, _, _⟩ := hty6.1.1.form
  obtain ⟨B1, bap1, rfl, _, _, _⟩ := hty6.1.2.form
  obtain ⟨Q1, qap1, rfl, _, _, _⟩ := hty6.2.form
  have RT6 := Lib.hid (RT5c.out.below hb6 RT5c.out.lt)
  have RC6 := Lib.hid (RC5c.out.below hb6 RC5c.out.lt)
  have RP6 := Lib.hid (RP5c.out.below hb6 RP5c.out.lt)
  have RX6 := Lib.hid (RX5c.out.below hb6 RX5c.out.lt)
  have RK6 := Lib.hid (RK5c.out.below hb6 RK5c.out.lt)
  have HB6 := Lib.hid (HB5c.out.trans (hb6.mono (by have := HB5c.out.size; omega)))
  have hz6 := hb6.size
  have ST6 := Lib.hid (ST5c.out.below hb6 (by omega))
  have XN6 := Lib.hid (XN5c.out.below hb6 (by omega))
  have KC6 := Lib.hid (KC5c.out.below hb6 (by omega))
  have KO6 := Lib.hid (KO5c.out.keep fun h0 => hb6.block _ (by omega))
  have B56 := Lib.hid (B55c.out.trans (hb6.mono (by omega)))
  have IT6 := Lib.hid hty6
  have IO6 := Lib.hid hown6
  have IU := Lib.hid huse6
  clear tl cl pl xl kl t0 t1 t2 c0 c1 c2 p0 p1 p2 x0 x1 x2 k0 k1 k2
  have t0 := RT6.out.cell 0
  have t1 := RT6.out.cell 1
  have t2 := RT6.out.cell 2
  have tl := RT6.out.lt
  have c0 := RC6.out.cell 0
  have c1 := RC6.out.cell 1
  have c2 := RC6.out.cell 2
  have cl := RC6.out.lt
  have p0 := RP6.out.cell 0
  have p1 := RP6.out.cell 1
  have p2 := RP6.out.cell 2
  have pl := RP6.out.lt
  have x0 := RX6.out.cell 0
  have x1 := RX6.out.cell 1
  have x2 := RX6.out.cell 2
  have xl := RX6.out.lt
  have k0 := RK6.out.cell 0
  have k1 := RK6.out.cell 1
  have k2 := RK6.out.cell 2
  have kl := RK6.out.lt
  simp only [List.getElem?_cons_zero, List.getElem?_cons_succ] at t0 t1 t2 c0 c1 c2 p0 p1 p2 x0 x1 x2 k0 k1 k2
  clear hb6 hto6 hty6 hown6 huse6
  go_wp2_with fail
  obtain ⟨w6a, hw6a⟩ : ∃ u, u = w6.alloc (.cells #[.slice A1 (linkSy t c).ty.sizes.length cap1, .slice B1 (linkSy t c).ty.cos.length bap1, .slice Q1 (linkSy t c).fs.length qap1] 38) := ⟨_, rfl⟩
  rw [← hw6a]
  have hb6a : Below w6.heap.size w6 w6a := by rw [hw6a]; exact (Below.refl _ _).alloc (Nat.le_refl _) _
  have RT6a := Lib.hid (RT6.out.below hb6a RT6.out.lt)
  have RC6a := Lib.hid (RC6.out.below hb6a RC6.out.lt)
  have RP6a := Lib.hid (RP6.out.below hb6a RP6.out.lt)
  have RX6a := Lib.hid (RX6.out.below hb6a RX6.out.lt)
  have RK6a := Lib.hid (RK6.out.below hb6a RK6.out.lt)
  have HB6a := Lib.hid (HB6.out.trans (hb6a.mono (by have := HB6.out.size; omega)))
  have hz6a := hb6a.size
  have ST6a := Lib.hid (ST6.out.below hb6a (by omega))
  have XN6a := Lib.hid (XN6.out.below hb6a (by omega))
  have KC6a := Lib.hid (KC6.out.below hb6a (by omega))
  have IT6a := Lib.hid (IT6.out.below hb6a (by omega))
  have IO6a := Lib.hid (IO6.out.keep fun k hk _ => hb6a.block k hk)
  have KO6a := Lib.hid (KO6.out.keep fun h0 => hb6a.block _ (by omega))
  have B56a := Lib.hid (B56.out.trans (hb6a.mono (by omega)))
  have RY6a : Hid (Row w6a w6.heap.size 38 [.slice A1 (linkSy t c).ty.sizes.length cap1, .slice B1 (linkSy t c).ty.cos.length bap1, .slice Q1 (linkSy t c).fs.length qap1]) := by rw [hw6a]; exact Row.new w6 38 [.slice A1 (linkSy t c).ty.sizes.length cap1, .slice B1 (linkSy t c).ty.cos.length bap1, .slice Q1 (linkSy t c).fs.length qap1]
  have hlY : w6.heap.size < w6a.heap.size := RY6a.out.lt
  clear hw6a hb6a
  clear tl cl pl xl kl t0 t1 t2 c0 c1 c2 p0 p1 p2 x0 x1 x2 k0 k1 k2
  have t0 := RT6a.out.cell 0
  have t1 := RT6a.out.cell 1
  have t2 := RT6a.out.cell 2
  have tl := RT6a.out.lt
  have c0 := RC6a.out.cell 0
  have c1 := RC6a.out.cell 1
  have c2 := RC6a.out.cell 2
  have cl := RC6a.out.lt
  have p0 := RP6a.out.cell 0
  have p1 := RP6a.out.cell 1
  have p2 := RP6a.out.cell 2
  have pl := RP6a.out.lt
  have x0 := RX6a.out.cell 0
  have x1 := RX6a.out.cell 1
  have x2 := RX6a.out.cell 2
  have xl := RX6a.out.lt
  have k0 := RK6a.out.cell 0
  have k1 := RK6a.out.cell 1
  have k2 := RK6a.out.cell 2
  have kl := RK6a.out.lt
  have y0 := RY6a.out.cell 0
  have y1 := RY6a.out.cell 1
  have y2 := RY6a.out.cell 2
  have yl := RY6a.out.lt
  simp only [List.getElem?_cons_zero, List.getElem?_cons_succ] at t0 t1 t2 c0 c1 c2 p0 p1 p2 x0 x1 x2 k0 k1 k2 y0 y1 y2
  have hbn : (linkOk t c != linkOk t c) = false := by simp
  refine (eqSystem_same _ _ _ _ _ _ _ _ _ _ (linkSy t c) _ IT6a.out ST6a.out (by omega) (by omega)).mono ?_
  rintro e w7 ⟨rfl, hb7⟩
  have RT7 := Lib.hid (RT6a.out.below hb7 RT6a.out.lt)
  have RC7 := Lib.hid (RC6a.out.below hb7 RC6a.out.lt)
  have RP7 := Lib.hid (RP6a.out.below hb7 RP6a.out.lt)
  have RX7 := Lib.hid (RX6a.out.below hb7 RX6a.out.lt)
  have RK7 := Lib.hid (RK6a.out.below hb7 RK6a.out.lt)
  have RY7 := Lib.hid (RY6a.out.below hb7 RY6a.out.lt)
  have HB7 := Lib.hid (HB6a.out.trans (hb7.mono (by have := HB6a.out.size; omega)))
  have hz7 := hb7.size
  have ST7 := Lib.hid (ST6a.out.below hb7 (by omega))
  have XN7 := Lib.hid (XN6a.out.below hb7 (by omega))
  have KC7 := Lib.hid (KC6a.out.below hb7 (by omega))
  have IT7 := Lib.hid (IT6a.out.below hb7 (by omega))
  have IO7 := Lib.hid (IO6a.out.keep fun k hk _ => hb7.block k hk)
  have KO7 := Lib.hid (KO6a.out.keep fun h0 => hb7.block _ (by omega))
  have B57 := Lib.hid (B56a.out.trans (hb7.mono (by omega)))
  clear tl cl pl xl kl yl t0 t1 t2 c0 c1 c2 p0 p1 p2 x0 x1 x2 k0 k1 k2 y0 y1 y2
  have t0 := RT7.out.cell 0
  have t1 := RT7.out.cell 1
  have t2 := RT7.out.cell 2
  have tl := RT7.out.lt
  have c0 := RC7.out.cell 0
  have c1 := RC7.out.cell 1
  have c2 := RC7.out.cell 2
  have cl := RC7.out.lt
  have p0 := RP7.out.cell 0
  have p1 := RP7.out.cell 1
  have p2 := RP7.out.cell 2
  have pl := RP7.out.lt
  have x0 := RX7.out.cell 0
  have x1 := RX7.out.cell 1
  have x2 := RX7.out.cell 2
  have xl := RX7.out.lt
  have k0 := RK7.out.cell 0
  have k1 := RK7.out.cell 1
  have k2 := RK7.out.cell 2
  have kl := RK7.out.lt
  have y0 := RY7.out.cell 0
  have y1 := RY7.out.cell 1
  have y2 := RY7.out.cell 2
  have yl := RY7.out.lt
  simp only [List.getElem?_cons_zero, List.getElem?_cons_succ] at t0 t1 t2 c0 c1 c2 p0 p1 p2 x0 x1 x2 k0 k1 k2 y0 y1 y2
  clear hb7
  go_wp2_with fail
  have RT7d : Hid (Row w7.drew w.heap.size 28 [.slice A t.ty.sizes.length cap, .slice B t.ty.cos.length bap, .slice Q t.fs.length qap]) := RT7.out.drew
  have RC7d : Hid (Row w7.drew (w.heap.size + 1) 30 [.int .i64 c.src, .int .i64 c.dst, .slice A2 c.map.length cap2]) := RC7.out.drew
  have RP7d : Hid (Row w7.drew q4 38 [.slice AP (linkSy t c).ty.sizes.length capP, .slice BP (linkSy t c).ty.cos.length bapP, .slice QP (linkSy t c).fs.length qapP]) := RP7.out.drew
  have RX7d : Hid (Row w7.drew w5.heap.size 38 [.slice (some ⟨w4.heap.size + 6, 0, none⟩) t.ty.sizes.length t.ty.sizes.length, .slice (some ⟨w4.heap.size + 7, 0, none⟩) t.ty.cos.length t.ty.cos.length, .slice (some ⟨w4.heap.size + 8 + 4 * t.ty.cos.length, 0, none⟩) t.fs.length t.fs.length]) := RX7.out.drew
  have RK7d : Hid (Row w7.drew w5b.heap.size 42 [.int .i64 c.src, .int .i64 c.dst, .slice (some ⟨w5a.heap.size + 3, 0, none⟩) c.map.length c.map.length]) := RK7.out.drew
  have RY7d : Hid (Row w7.drew w6.heap.size 38 [.slice A1 (linkSy t c).ty.sizes.length cap1, .slice B1 (linkSy t c).ty.cos.length bap1, .slice Q1 (linkSy t c).fs.length qap1]) := RY7.out.drew
  have HB7d : Hid (Below w.heap.size w w7.drew) := HB7.out.drew
  have B57d : Hid (Below w5.heap.size w5 w7.drew) := B57.out.drew
  have ST7d := Lib.hid (ST7.out.keep (w' := w7.drew) fun k _ _ => rfl)
  have XN7d := Lib.hid (XN7.out.keep (w' := w7.drew) fun k _ _ => rfl)
  have KC7d := Lib.hid (KC7.out.keep (w' := w7.drew) fun k _ _ => rfl)
  have IT7d := Lib.hid (IT7.out.keep (w' := w7.drew) fun k _ _ => rfl)
  have IO7d := Lib.hid (IO7.out.keep (w' := w7.drew) fun k _ _ => rfl)
  have KO7d := Lib.hid (KO7.out.keep (w' := w7.drew) fun _ => rfl)
  have hz7d : w7.heap.size ≤ w7.drew.heap.size := Nat.le_refl _
  have KK7d : Hid (w7.drew.cell? ⟨w.heap.size, 0, none⟩ = some (.slice A t.ty.sizes.length cap) ∧ w7.drew.cell? ⟨w.heap.size, 1, none⟩ = some (.slice B t.ty.cos.length bap) ∧ w7.drew.cell? ⟨w.heap.size, 2, none⟩ = some (.slice Q t.fs.length qap) ∧ w7.drew.cell? ⟨w5.heap.size, 0, none⟩ = some (.slice (some ⟨w4.heap.size + 6, 0, none⟩) t.ty.sizes.length t.ty.sizes.length) ∧ w7.drew.cell? ⟨w5.heap.size, 1, none⟩ = some (.slice (some ⟨w4.heap.size + 7, 0, none⟩) t.ty.cos.length t.ty.cos.length) ∧ w7.drew.cell? ⟨w5.heap.size, 2, none⟩ = some (.slice (some ⟨w4.heap.size + 8 + 4 * t.ty.cos.length, 0, none⟩) t.fs.length t.fs.length)) := ⟨RT7d.out.cell 0, RT7d.out.cell 1, RT7d.out.cell 2, RX7d.out.cell 0, RX7d.out.cell 1, RX7d.out.cell 2⟩
  clear tl cl pl xl kl yl t0 t1 t2 c0 c1 c2 p0 p1 p2 x0 x1 x2 k0 k1 k2 y0 y1 y2
  go_region_held3 (fun w' => w'.cell? ⟨w.heap.size, 0, none⟩ = some (.slice A t.ty.sizes.length cap) ∧ w'.cell? ⟨w.heap.size, 1, none⟩ = some (.slice B t.ty.cos.length bap) ∧ w'.cell? ⟨w.heap.size, 2, none⟩ = some (.slice Q t.fs.length qap) ∧ w'.cell? ⟨w5.heap.size, 0, none⟩ = some (.slice (some ⟨w4.heap.size + 6, 0, none⟩) t.ty.sizes.length t.ty.sizes.length) ∧ w'.cell? ⟨w5.heap.size, 1, none⟩ = some (.slice (some ⟨w4.heap.size + 7, 0, none⟩) t.ty.cos.length t.ty.cos.length) ∧ w'.cell? ⟨w5.heap.size, 2, none⟩ = some (.slice (some ⟨w4.heap.size + 8 + 4 * t.ty.cos.length, 0, none⟩) t.fs.length t.fs.length))
    (first | exact KK7d.out | exact KK8.out | exact KK9.out)
    (first
      | (go_at_call 8
         refine (toSystem_any 0 w.heap.size _ _ _ t w7.drew (Hv.out.below HB7d.out (Nat.le_refl _)) HB7d.out.size hbk.out).mono ?_
         rintro e w8 ⟨rfl, hb8, hsq, hnq⟩
         have RT8 := Lib.hid (RT7d.out.below hb8 RT7d.out.lt)
         have RC8 := Lib.hid (RC7d.out.below hb8 RC7d.out.lt)
         have RP8 := Lib.hid (RP7d.out.below hb8 RP7d.out.lt)
         have RX8 := Lib.hid (RX7d.out.below hb8 RX7d.out.lt)
         have RK8 := Lib.hid (RK7d.out.below hb8 RK7d.out.lt)
         have RY8 := Lib.hid (RY7d.out.below hb8 RY7d.out.lt)
         have HB8 := Lib.hid (HB7d.out.trans (hb8.mono HB7d.out.size))
         have hz8 := hb8.size
         have ST8 := Lib.hid (ST7d.out.below hb8 (by omega))
         have XN8 := Lib.hid (XN7d.out.below hb8 (by omega))
         have KC8 := Lib.hid (KC7d.out.below hb8 (by omega))
         have IT8 := Lib.hid (IT7d.out.below hb8 (by omega))
         have IO8 := Lib.hid (IO7d.out.keep fun k hk _ => hb8.block k hk)
         have KO8 := Lib.hid (KO7d.out.keep fun h0 => hb8.block _ (by omega))
         have B58 := Lib.hid (B57d.out.trans (hb8.mono B57d.out.size))
         have hatq := Lib.hid (hnq.at_ Hv.out.fits hbk.out)
         have Hsq := Lib.hid hsq
         clear hsq hnq
         have KK8 : Hid (w8.cell? ⟨w.heap.size, 0, none⟩ = some (.slice A t.ty.sizes.length cap) ∧ w8.cell? ⟨w.heap.size, 1, none⟩ = some (.slice B t.ty.cos.length bap) ∧ w8.cell? ⟨w.heap.size, 2, none⟩ = some (.slice Q t.fs.length qap) ∧ w8.cell? ⟨w5.heap.size, 0, none⟩ = some (.slice (some ⟨w4.heap.size + 6, 0, none⟩) t.ty.sizes.length t.ty.sizes.length) ∧ w8.cell? ⟨w5.heap.size, 1, none⟩ = some (.slice (some ⟨w4.heap.size + 7, 0, none⟩) t.ty.cos.length t.ty.cos.length) ∧ w8.cell? ⟨w5.heap.size, 2, none⟩ = some (.slice (some ⟨w4.heap.size + 8 + 4 * t.ty.cos.length, 0, none⟩) t.fs.length t.fs.length)) := ⟨RT8.out.cell 0, RT8.out.cell 1, RT8.out.cell 2, RX8.out.cell 0, RX8.out.cell 1, RX8.out.cell 2⟩
         clear hb8)
      | (go_at_call 11
         refine (eqSystem_same _ _ _ _ _ _ _ _ _ _ t _ XN8.out hatq.out (by omega) (by have h := Hsq.out; omega)).mono ?_
         rintro e w9 ⟨rfl, hb9⟩
         have RT9 := Lib.hid (RT8.out.below hb9 RT8.out.lt)
         have RC9 := Lib.hid (RC8.out.below hb9 RC8.out.lt)
         have RP9 := Lib.hid (RP8.out.below hb9 RP8.out.lt)
         have RX9 := Lib.hid (RX8.out.below hb9 RX8.out.lt)
         have RK9 := Lib.hid (RK8.out.below hb9 RK8.out.lt)
         have RY9 := Lib.hid (RY8.out.below hb9 RY8.out.lt)
         have HB9 := Lib.hid (HB8.out.trans (hb9.mono (by have := HB8.out.size; omega)))
         have hz9 := hb9.size
         have ST9 := Lib.hid (ST8.out.below hb9 (by omega))
         have XN9 := Lib.hid (XN8.out.below hb9 (by omega))
         have KC9 := Lib.hid (KC8.out.below hb9 (by omega))
         have IT9 := Lib.hid (IT8.out.below hb9 (by omega))
         have IO9 := Lib.hid (IO8.out.keep fun k hk _ => hb9.block k hk)
         have KO9 := Lib.hid (KO8.out.keep fun h0 => hb9.block _ (by omega))
         have B59 := Lib.hid (B58.out.trans (hb9.mono (by omega)))
         have KK9 : Hid (w9.cell? ⟨w.heap.size, 0, none⟩ = some (.slice A t.ty.sizes.length cap) ∧ w9.cell? ⟨w.heap.size, 1, none⟩ = some (.slice B t.ty.cos.length bap) ∧ w9.cell? ⟨w.heap.size, 2, none⟩ = some (.slice Q t.fs.length qap) ∧ w9.cell? ⟨w5.heap.size, 0, none⟩ = some (.slice (some ⟨w4.heap.size + 6, 0, none⟩) t.ty.sizes.length t.ty.sizes.length) ∧ w9.cell? ⟨w5.heap.size, 1, none⟩ = some (.slice (some ⟨w4.heap.size + 7, 0, none⟩) t.ty.cos.length t.ty.cos.length) ∧ w9.cell? ⟨w5.heap.size, 2, none⟩ = some (.slice (some ⟨w4.heap.size + 8 + 4 * t.ty.cos.length, 0, none⟩) t.fs.length t.fs.length)) := ⟨RT9.out.cell 0, RT9.out.cell 1, RT9.out.cell 2, RX9.out.cell 0, RX9.out.cell 1, RX9.out.cell 2⟩
         clear hb9))
  clear KK9
  have t0 := RT9.out.cell 0
  have t1 := RT9.out.cell 1
  have t2 := RT9.out.cell 2
  have tl := RT9.out.lt
  have c0 := RC9.out.cell 0
  have c1 := RC9.out.cell 1
  have c2 := RC9.out.cell 2
  have cl := RC9.out.lt
  have p0 := RP9.out.cell 0
  have p1 := RP9.out.cell 1
  have p2 := RP9.out.cell 2
  have pl := RP9.out.lt
  have x0 := RX9.out.cell 0
  have x1 := RX9.out.cell 1
  have x2 := RX9.out.cell 2
  have xl := RX9.out.lt
  have k0 := RK9.out.cell 0
  have k1 := RK9.out.cell 1
  have k2 := RK9.out.cell 2
  have kl := RK9.out.lt
  have y0 := RY9.out.cell 0
  have y1 := RY9.out.cell 1
  have y2 := RY9.out.cell 2
  have yl := RY9.out.lt
  simp only [List.getElem?_cons_zero, List.getElem?_cons_succ] at t0 t1 t2 c0 c1 c2 p0 p1 p2 x0 x1 x2 k0 k1 k2 y0 y1 y2
  go_wp2_with fail
  have RT9d : Hid (Row w9.drew w.heap.size 28 [.slice A t.ty.sizes.length cap, .slice B t.ty.cos.length bap, .slice Q t.fs.length qap]) := RT9.out.drew
  have RC9d : Hid (Row w9.drew (w.heap.size + 1) 30 [.int .i64 c.src, .int .i64 c.dst, .slice A2 c.map.length cap2]) := RC9.out.drew
  have RP9d : Hid (Row w9.drew q4 38 [.slice AP (linkSy t c).ty.sizes.length capP, .slice BP (linkSy t c).ty.cos.length bapP, .slice QP (linkSy t c).fs.length qapP]) := RP9.out.drew
  have RX9d : Hid (Row w9.drew w5.heap.size 38 [.slice (some ⟨w4.heap.size + 6, 0, none⟩) t.ty.sizes.length t.ty.sizes.length, .slice (some ⟨w4.heap.size + 7, 0, none⟩) t.ty.cos.length t.ty.cos.length, .slice (some ⟨w4.heap.size + 8 + 4 * t.ty.cos.length, 0, none⟩) t.fs.length t.fs.length]) := RX9.out.drew
  have RK9d : Hid (Row w9.drew w5b.heap.size 42 [.int .i64 c.src, .int .i64 c.dst, .slice (some ⟨w5a.heap.size + 3, 0, none⟩) c.map.length c.map.length]) := RK9.out.drew
  have RY9d : Hid (Row w9.drew w6.heap.size 38 [.slice A1 (linkSy t c).ty.sizes.length cap1, .slice B1 (linkSy t c).ty.cos.length bap1, .slice Q1 (linkSy t c).fs.length qap1]) := RY9.out.drew
  have HB9d : Hid (Below w.heap.size w w9.drew) := HB9.out.drew
  have B59d : Hid (Below w5.heap.size w5 w9.drew) := B59.out.drew
  have ST9d := Lib.hid (ST9.out.keep (w' := w9.drew) fun k _ _ => rfl)
  have XN9d := Lib.hid (XN9.out.keep (w' := w9.drew) fun k _ _ => rfl)
  have KC9d := Lib.hid (KC9.out.keep (w' := w9.drew) fun k _ _ => rfl)
  have IT9d := Lib.hid (IT9.out.keep (w' := w9.drew) fun k _ _ => rfl)
  have IO9d := Lib.hid (IO9.out.keep (w' := w9.drew) fun k _ _ => rfl)
  have KO9d := Lib.hid (KO9.out.keep (w' := w9.drew) fun _ => rfl)
  have hz9d : w9.heap.size ≤ w9.drew.heap.size := Nat.le_refl _
  have KK9d : Hid (w9.drew.cell? ⟨w.heap.size + 1, 0, none⟩ = some (.int .i64 c.src) ∧ w9.drew.cell? ⟨w.heap.size + 1, 1, none⟩ = some (.int .i64 c.dst) ∧ w9.drew.cell? ⟨w.heap.size + 1, 2, none⟩ = some (.slice A2 c.map.length cap2) ∧ w9.drew.cell? ⟨w5b.heap.size, 0, none⟩ = some (.int .i64 c.src) ∧ w9.drew.cell? ⟨w5b.heap.size, 1, none⟩ = some (.int .i64 c.dst) ∧ w9.drew.cell? ⟨w5b.heap.size, 2, none⟩ = some (.slice (some ⟨w5a.heap.size + 3, 0, none⟩) c.map.length c.map.length)) := ⟨RC9d.out.cell 0, RC9d.out.cell 1, RC9d.out.cell 2, RK9d.out.cell 0, RK9d.out.cell 1, RK9d.out.cell 2⟩
  clear tl cl pl xl kl yl t0 t1 t2 c0 c1 c2 p0 p1 p2 x0 x1 x2 k0 k1 k2 y0 y1 y2
  go_region_held3 (fun w' => w'.cell? ⟨w.heap.size + 1, 0, none⟩ = some (.int .i64 c.src) ∧ w'.cell? ⟨w.heap.size + 1, 1, none⟩ = some (.int .i64 c.dst) ∧ w'.cell? ⟨w.heap.size + 1, 2, none⟩ = some (.slice A2 c.map.length cap2) ∧ w'.cell? ⟨w5b.heap.size, 0, none⟩ = some (.int .i64 c.src) ∧ w'.cell? ⟨w5b.heap.size, 1, none⟩ = some (.int .i64 c.dst) ∧ w'.cell? ⟨w5b.heap.size, 2, none⟩ = some (.slice (some ⟨w5a.heap.size + 3, 0, none⟩) c.map.length c.map.length))
    (first | exact KK9d.out | exact KK10.out | exact KK11.out)
    (first
      | (go_at_call 9
         refine (toCoercion_any 0 w.heap.size _ _ _ c w9.drew (Hc.out.below HB9d.out (Nat.le_refl _)) HB9d.out.size hcl).mono ?_
         rintro e w10 ⟨rfl, hb10, hsp, hrp⟩
         have hcp : Hid (CoAt w10 (w9.drew.heap.size + 3) (w9.drew.heap.size + 4) (.int .i64 c.src) (.int .i64 c.dst) (.slice (some ⟨w9.drew.heap.size + 3, 0, none⟩) c.map.length c.map.length) c) := ⟨rfl, rfl, HS.out, HD.out, hrp.ints (cap := c.map.length) HM.out (Nat.le_refl _) (by omega) (Nat.le_refl _) (by unfold maxLen; omega)⟩
         have RT10 := Lib.hid (RT9d.out.below hb10 RT9d.out.lt)
         have RC10 := Lib.hid (RC9d.out.below hb10 RC9d.out.lt)
         have RP10 := Lib.hid (RP9d.out.below hb10 RP9d.out.lt)
         have RX10 := Lib.hid (RX9d.out.below hb10 RX9d.out.lt)
         have RK10 := Lib.hid (RK9d.out.below hb10 RK9d.out.lt)
         have RY10 := Lib.hid (RY9d.out.below hb10 RY9d.out.lt)
         have HB10 := Lib.hid (HB9d.out.trans (hb10.mono HB9d.out.size))
         have hz10 := hb10.size
         have ST10 := Lib.hid (ST9d.out.below hb10 (by omega))
         have XN10 := Lib.hid (XN9d.out.below hb10 (by omega))
         have KC10 := Lib.hid (KC9d.out.below hb10 (by omega))
         have IT10 := Lib.hid (IT9d.out.below hb10 (by omega))
         have IO10 := Lib.hid (IO9d.out.keep fun k hk _ => hb10.block k hk)
         have KO10 := Lib.hid (KO9d.out.keep fun h0 => hb10.block _ (by omega))
         have B510 := Lib.hid (B59d.out.trans (hb10.mono B59d.out.size))
         have Hsp := Lib.hid hsp
         clear hsp hrp
         have KK10 : Hid (w10.cell? ⟨w.heap.size + 1, 0, none⟩ = some (.int .i64 c.src) ∧ w10.cell? ⟨w.heap.size + 1, 1, none⟩ = some (.int .i64 c.dst) ∧ w10.cell? ⟨w.heap.size + 1, 2, none⟩ = some (.slice A2 c.map.length cap2) ∧ w10.cell? ⟨w5b.heap.size, 0, none⟩ = some (.int .i64 c.src) ∧ w10.cell? ⟨w5b.heap.size, 1, none⟩ = some (.int .i64 c.dst) ∧ w10.cell? ⟨w5b.heap.size, 2, none⟩ = some (.slice (some ⟨w5a.heap.size + 3, 0, none⟩) c.map.length c.map.length)) := ⟨RC10.out.cell 0, RC10.out.cell 1, RC10.out.cell 2, RK10.out.cell 0, RK10.out.cell 1, RK10.out.cell 2⟩
         clear hb10)
      | (go_at_call 12
         refine (eqCoercion_same _ _ _ _ _ _ _ _ _ _ c _ KC10.out hcp.out (by omega) (by have h := Hsp.out; omega)).mono ?_
         rintro e w11 ⟨rfl, hb11⟩
         have RT11 := Lib.hid (RT10.out.below hb11 RT10.out.lt)
         have RC11 := Lib.hid (RC10.out.below hb11 RC10.out.lt)
         have RP11 := Lib.hid (RP10.out.below hb11 RP10.out.lt)
         have RX11 := Lib.hid (RX10.out.below hb11 RX10.out.lt)
         have RK11 := Lib.hid (RK10.out.below hb11 RK10.out.lt)
         have RY11 := Lib.hid (RY10.out.below hb11 RY10.out.lt)
         have HB11 := Lib.hid (HB10.out.trans (hb11.mono (by have := HB10.out.size; omega)))
         have hz11 := hb11.size
         have ST11 := Lib.hid (ST10.out.below hb11 (by omega))
         have XN11 := Lib.hid (XN10.out.below hb11 (by omega))
         have KC11 := Lib.hid (KC10.out.below hb11 (by omega))
         have IT11 := Lib.hid (IT10.out.below hb11 (by omega))
         have IO11 := Lib.hid (IO10.out.keep fun k hk _ => hb11.block k hk)
         have KO11 := Lib.hid (KO10.out.keep fun h0 => hb11.block _ (by omega))
         have B511 := Lib.hid (B510.out.trans (hb11.mono (by omega)))
         have KK11 : Hid (w11.cell? ⟨w.heap.size + 1, 0, none⟩ = some (.int .i64 c.src) ∧ w11.cell? ⟨w.heap.size + 1, 1, none⟩ = some (.int .i64 c.dst) ∧ w11.cell? ⟨w.heap.size + 1, 2, none⟩ = some (.slice A2 c.map.length cap2) ∧ w11.cell? ⟨w5b.heap.size, 0, none⟩ = some (.int .i64 c.src) ∧ w11.cell? ⟨w5b.heap.size, 1, none⟩ = some (.int .i64 c.dst) ∧ w11.cell? ⟨w5b.heap.size, 2, none⟩ = some (.slice (some ⟨w5a.heap.size + 3, 0, none⟩) c.map.length c.map.length)) := ⟨RC11.out.cell 0, RC11.out.cell 1, RC11.out.cell 2, RK11.out.cell 0, RK11.out.cell 1, RK11.out.cell 2⟩
         clear hb11))
  clear KK11
  have t0 := RT11.out.cell 0
  have t1 := RT11.out.cell 1
  have t2 := RT11.out.cell 2
  have tl := RT11.out.lt
  have c0 := RC11.out.cell 0
  have c1 := RC11.out.cell 1
  have c2 := RC11.out.cell 2
  have cl := RC11.out.lt
  have p0 := RP11.out.cell 0
  have p1 := RP11.out.cell 1
  have p2 := RP11.out.cell 2
  have pl := RP11.out.lt
  have x0 := RX11.out.cell 0
  have x1 := RX11.out.cell 1
  have x2 := RX11.out.cell 2
  have xl := RX11.out.lt
  have k0 := RK11.out.cell 0
  have k1 := RK11.out.cell 1
  have k2 := RK11.out.cell 2
  have kl := RK11.out.lt
  have y0 := RY11.out.cell 0
  have y1 := RY11.out.cell 1
  have y2 := RY11.out.cell 2
  have yl := RY11.out.lt
  simp only [List.getElem?_cons_zero, List.getElem?_cons_succ] at t0 t1 t2 c0 c1 c2 p0 p1 p2 x0 x1 x2 k0 k1 k2 y0 y1 y2
  have hty9 := (Hn5.out.below B511.out (by omega)).own hbk.out
  have hcnt : Hid ((1 : Int) + (t.ty.sizes.length : Int) + 2 * (t.ty.cos.length : Int) + (lenSum (fun j => t.ty.cos.getD j default) t.ty.cos.length : Int) + 2 * (t.fs.length : Int) + (lenF (fun j => t.fs.getD j default) t.fs.length : Int) ≤ 900000000) := by
    have h1 := lenSum_maps t.ty _ (Nat.le_refl _)
    have h3 := lenF_sum t.fs _ (Nat.le_refl _)
    have h2 : t.ty.sizes.length + t.ty.cos.length + mapsLen t.ty.cos t.ty.cos.length + (t.fs.length + fusLen t.fs t.fs.length) ≤ 1048576 := hbk.out
    show _ ≤ _
    rw [h1]; omega
  have Hty9 := Lib.hid hty9
  clear hty9
  go_wp2_with fail
  refine (markSystem_any _ _ _ _ _ _ _ _ _ _ _ _ _ _ _ 1 _ Hty9.out (by omega) hcnt.out).mono ?_
  rintro e w12 ⟨rfl, hk12⟩
  have hMe : markAtF (fun j => t.fs.getD j default) (markAt (fun j => t.ty.cos.getD j default) (1 + (t.ty.sizes.length : Int)) t.ty.cos.length) t.fs.length = (1 : Int) + (t.ty.sizes.length : Int) + 2 * (t.ty.cos.length : Int) + (lenSum (fun j => t.ty.cos.getD j default) t.ty.cos.length : Int) + 2 * (t.fs.length : Int) + (lenF (fun j => t.fs.getD j default) t.fs.length : Int) := rfl
  have hM0 : 0 ≤ markAtF (fun j => t.fs.getD j default) (markAt (fun j => t.ty.cos.getD j default) (1 + (t.ty.sizes.length : Int)) t.ty.cos.length) t.fs.length := by rw [hMe]; omega
  have hM1 : markAtF (fun j => t.fs.getD j default) (markAt (fun j => t.ty.cos.getD j default) (1 + (t.ty.sizes.length : Int)) t.ty.cos.length) t.fs.length ≤ 900000000 := by rw [hMe]; exact hcnt.out
  clear hMe
  generalize markAtF (fun j => t.fs.getD j default) (markAt (fun j => t.ty.cos.getD j default) (1 + (t.ty.sizes.length : Int)) t.ty.cos.length) t.fs.length = M at hM0 hM1 ⊢
  have hu : ∀ k, OwnSy.uses (w4.heap.size + 6) (w4.heap.size + 6 + 1) (fun j => w4.heap.size + 6 + 1 + 1 + 4 * j + 3) t.ty.sizes t.ty.cos.length (fun j => t.ty.cos.getD j default) (w4.heap.size + 6 + 2 + 4 * t.ty.cos.length) (fun j b => w4.heap.size + 6 + 2 + 4 * t.ty.cos.length + 1 + 5 * j + (if b then 4 else 3)) t.fs.length (fun j => t.fs.getD j default) k → w4.heap.size < k ∧ k < w5.heap.size := fun k h => by
    have := newUsesS h
    omega
  have hz12 : w11.heap.size ≤ w12.heap.size := hk12.size
  have RT12 := Lib.hid (RT11.out.keep (hk12.block _ RT11.out.lt fun h => by have := hu _ h; omega))
  have RC12 := Lib.hid (RC11.out.keep (hk12.block _ RC11.out.lt fun h => by have := hu _ h; omega))
  have RP12 := Lib.hid (RP11.out.keep (hk12.block _ RP11.out.lt fun h => by have := hu _ h; omega))
  have RX12 := Lib.hid (RX11.out.keep (hk12.block _ RX11.out.lt fun h => by have := hu _ h; omega))
  have RK12 := Lib.hid (RK11.out.keep (hk12.block _ RK11.out.lt fun h => by have := hu _ h; omega))
  have RY12 := Lib.hid (RY11.out.keep (hk12.block _ RY11.out.lt fun h => by have := hu _ h; omega))
  have HB12 := Lib.hid (HB11.out.trans (hk12.below (B := w.heap.size) (by omega) fun j hj h => by have := hu j h; omega))
  have ST12 := Lib.hid (ST11.out.keep fun j h1 h2 => hk12.block j (by omega) fun h => by have := hu j h; omega)
  have IT12 := Lib.hid (IT11.out.keep fun j h1 h2 => hk12.block j (by omega) fun h => by have := hu j h; omega)
  have IO12 := Lib.hid (IO11.out.keep fun j hj hj2 => hk12.block j hj fun h => by have := hu j h; have := IU.out j hj2; omega)
  have KO12 := Lib.hid (KO11.out.keep fun _ => hk12.block _ (by omega) fun h => by have := hu _ h; omega)
  clear tl cl pl xl kl yl t0 t1 t2 c0 c1 c2 p0 p1 p2 x0 x1 x2 k0 k1 k2 y0 y1 y2
  have t0 := RT12.out.cell 0
  have t1 := RT12.out.cell 1
  have t2 := RT12.out.cell 2
  have tl := RT12.out.lt
  have c0 := RC12.out.cell 0
  have c1 := RC12.out.cell 1
  have c2 := RC12.out.cell 2
  have cl := RC12.out.lt
  have p0 := RP12.out.cell 0
  have p1 := RP12.out.cell 1
  have p2 := RP12.out.cell 2
  have pl := RP12.out.lt
  have x0 := RX12.out.cell 0
  have x1 := RX12.out.cell 1
  have x2 := RX12.out.cell 2
  have xl := RX12.out.lt
  have k0 := RK12.out.cell 0
  have k1 := RK12.out.cell 1
  have k2 := RK12.out.cell 2
  have kl := RK12.out.lt
  have y0 := RY12.out.cell 0
  have y1 := RY12.out.cell 1
  have y2 := RY12.out.cell 2
  have yl := RY12.out.lt
  simp only [List.getElem?_cons_zero, List.getElem?_cons_succ] at t0 t1 t2 c0 c1 c2 p0 p1 p2 x0 x1 x2 k0 k1 k2 y0 y1 y2
  clear hk12 hu
  go_wp2_with fail
  refine (markCoercion_any (w5a.heap.size + 3) _ _ _ c.map M _ KO12.out (fun _ => by omega) hM0 (by omega)).mono ?_
  rintro e w13 ⟨rfl, hk13, _⟩
  have hM : decide (M + (c.map.length : Int) < 0) = false := decide_eq_false (by omega)
  have hz13 := hk13.size
  have RT13 := Lib.hid (RT12.out.keep (hk13.block _ RT12.out.lt (fun _ => by omega)))
  have RC13 := Lib.hid (RC12.out.keep (hk13.block _ RC12.out.lt (fun _ => by omega)))
  have RP13 := Lib.hid (RP12.out.keep (hk13.block _ RP12.out.lt (fun _ => by omega)))
  have RX13 := Lib.hid (RX12.out.keep (hk13.block _ RX12.out.lt (fun _ => by omega)))
  have RK13 := Lib.hid (RK12.out.keep (hk13.block _ RK12.out.lt (fun _ => by omega)))
  have RY13 := Lib.hid (RY12.out.keep (hk13.block _ RY12.out.lt (fun _ => by omega)))
  have HB13 := Lib.hid (HB12.out.trans (hk13.below (B := w.heap.size) (by omega) fun j hj h => by omega))
  have ST13 := Lib.hid (ST12.out.keep fun j h1 h2 => hk13.block j (by omega) (fun _ => by omega))
  have IT13 := Lib.hid (IT12.out.keep fun j h1 h2 => hk13.block j (by omega) (fun _ => by omega))
  have IO13 := Lib.hid (IO12.out.keep fun j hj hj2 => hk13.block j hj fun h => by have := IU.out j hj2; omega)
  clear tl cl pl xl kl yl t0 t1 t2 c0 c1 c2 p0 p1 p2 x0 x1 x2 k0 k1 k2 y0 y1 y2
  have t0 := RT13.out.cell 0
  have t1 := RT13.out.cell 1
  have t2 := RT13.out.cell 2
  have tl := RT13.out.lt
  have c0 := RC13.out.cell 0
  have c1 := RC13.out.cell 1
  have c2 := RC13.out.cell 2
  have cl := RC13.out.lt
  have p0 := RP13.out.cell 0
  have p1 := RP13.out.cell 1
  have p2 := RP13.out.cell 2
  have pl := RP13.out.lt
  have x0 := RX13.out.cell 0
  have x1 := RX13.out.cell 1
  have x2 := RX13.out.cell 2
  have xl := RX13.out.lt
  have k0 := RK13.out.cell 0
  have k1 := RK13.out.cell 1
  have k2 := RK13.out.cell 2
  have kl := RK13.out.lt
  have y0 := RY13.out.cell 0
  have y1 := RY13.out.cell 1
  have y2 := RY13.out.cell 2
  have yl := RY13.out.lt
  simp only [List.getElem?_cons_zero, List.getElem?_cons_succ] at t0 t1 t2 c0 c1 c2 p0 p1 p2 x0 x1 x2 k0 k1 k2 y0 y1 y2
  clear hk13
  go_wp2_with fail
  refine (eqSystem_same _ _ _ _ _ _ _ _ _ _ (linkSy t c) _ IT13.out ST13.out (by omega) (by omega)).mono ?_
  rintro e w14 ⟨rfl, hb14⟩
  have RT14 := Lib.hid (RT13.out.below hb14 RT13.out.lt)
  have RC14 := Lib.hid (RC13.out.below hb14 RC13.out.lt)
  have RP14 := Lib.hid (RP13.out.below hb14 RP13.out.lt)
  have RX14 := Lib.hid (RX13.out.below hb14 RX13.out.lt)
  have RK14 := Lib.hid (RK13.out.below hb14 RK13.out.lt)
  have RY14 := Lib.hid (RY13.out.below hb14 RY13.out.lt)
  have HB14 := Lib.hid (HB13.out.trans (hb14.mono (by have := HB13.out.size; omega)))
  have hz14 := hb14.size
  have ST14 := Lib.hid (ST13.out.below hb14 (by omega))
  have IT14 := Lib.hid (IT13.out.below hb14 (by omega))
  have IO14 := Lib.hid (IO13.out.keep fun k hk _ => hb14.block k hk)
  clear tl cl pl xl kl yl t0 t1 t2 c0 c1 c2 p0 p1 p2 x0 x1 x2 k0 k1 k2 y0 y1 y2
  have t0 := RT14.out.cell 0
  have t1 := RT14.out.cell 1
  have t2 := RT14.out.cell 2
  have tl := RT14.out.lt
  have c0 := RC14.out.cell 0
  have c1 := RC14.out.cell 1
  have c2 := RC14.out.cell 2
  have cl := RC14.out.lt
  have p0 := RP14.out.cell 0
  have p1 := RP14.out.cell 1
  have p2 := RP14.out.cell 2
  have pl := RP14.out.lt
  have x0 := RX14.out.cell 0
  have x1 := RX14.out.cell 1
  have x2 := RX14.out.cell 2
  have xl := RX14.out.lt
  have k0 := RK14.out.cell 0
  have k1 := RK14.out.cell 1
  have k2 := RK14.out.cell 2
  have kl := RK14.out.lt
  have y0 := RY14.out.cell 0
  have y1 := RY14.out.cell 1
  have y2 := RY14.out.cell 2
  have yl := RY14.out.lt
  simp only [List.getElem?_cons_zero, List.getElem?_cons_succ] at t0 t1 t2 c0 c1 c2 p0 p1 p2 x0 x1 x2 k0 k1 k2 y0 y1 y2
  clear hb14
  have hcn2 : Hid ((1 : Int) + ((linkSy t c).ty.sizes.length : Int) + 2 * ((linkSy t c).ty.cos.length : Int) + (lenSum (fun j => (linkSy t c).ty.cos.getD j default) (linkSy t c).ty.cos.length : Int) + 2 * ((linkSy t c).fs.length : Int) + (lenF (fun j => (linkSy t c).fs.getD j default) (linkSy t c).fs.length : Int) ≤ 900000000) := by
    have h1 := lenSum_maps (linkSy t c).ty _ (Nat.le_refl _)
    have h3 := lenF_sum (linkSy t c).fs _ (Nat.le_refl _)
    have h2 : (linkSy t c).ty.sizes.length + (linkSy t c).ty.cos.length + mapsLen (linkSy t c).ty.cos (linkSy t c).ty.cos.length + ((linkSy t c).fs.length + fusLen (linkSy t c).fs (linkSy t c).fs.length) ≤ 250 := Hbulk.out
    show _ ≤ _
    rw [h1]; omega
  go_wp2_with fail
  refine (markSystem_full _ _ _ _ _ _ _ _ _ _ _ _ _ _ _ 1 _ IO14.out (by omega) hcn2.out).mono ?_
  rintro e w15 ⟨rfl, hk15, ho15, hof15⟩
  obtain ⟨M1, hM1e⟩ : ∃ M, M = markAtF (fun j => (linkSy t c).fs.getD j default) (markAt (fun j => (linkSy t c).ty.cos.getD j default) (1 + ((linkSy t c).ty.sizes.length : Int)) (linkSy t c).ty.cos.length) (linkSy t c).fs.length := ⟨_, rfl⟩
  rw [← hM1e]
  have hM2 : decide (M1 < 0) = false := by
    have h1 : markAtF (fun j => (linkSy t c).fs.getD j default) (markAt (fun j => (linkSy t c).ty.cos.getD j default) (1 + ((linkSy t c).ty.sizes.length : Int)) (linkSy t c).ty.cos.length) (linkSy t c).fs.length = (1 : Int) + ((linkSy t c).ty.sizes.length : Int) + 2 * ((linkSy t c).ty.cos.length : Int) + (lenSum (fun j => (linkSy t c).ty.cos.getD j default) (linkSy t c).ty.cos.length : Int) + 2 * ((linkSy t c).fs.length : Int) + (lenF (fun j => (linkSy t c).fs.getD j default) (linkSy t c).fs.length : Int) := rfl
    rw [hM1e, h1]; exact decide_eq_false (by omega)
  have hM3 : (M1 != M1) = false := by simp
  have HM1 := Lib.hid hM1e
  clear hM1e
  have hu : ∀ k, OwnSy.uses gs gc m (linkSy t c).ty.sizes (linkSy t c).ty.cos.length (fun j => (linkSy t c).ty.cos.getD j default) gf mf (linkSy t c).fs.length (fun j => (linkSy t c).fs.getD j default) k → w5c.heap.size ≤ k ∧ k < w6.heap.size := fun k h => IU.out k h
  have hz15 : w14.heap.size ≤ w15.heap.size := hk15.size
  have RT15 := Lib.hid (RT14.out.keep (hk15.block _ RT14.out.lt fun h => by have := hu _ h; omega))
  have RC15 := Lib.hid (RC14.out.keep (hk15.block _ RC14.out.lt fun h => by have := hu _ h; omega))
  have RP15 := Lib.hid (RP14.out.keep (hk15.block _ RP14.out.lt fun h => by have := hu _ h; omega))
  have RX15 := Lib.hid (RX14.out.keep (hk15.block _ RX14.out.lt fun h => by have := hu _ h; omega))
  have RK15 := Lib.hid (RK14.out.keep (hk15.block _ RK14.out.lt fun h => by have := hu _ h; omega))
  have RY15 := Lib.hid (RY14.out.keep (hk15.block _ RY14.out.lt fun h => by have := hu _ h; omega))
  have HB15 := Lib.hid (HB14.out.trans (hk15.below (B := w.heap.size) (by omega) fun j hj h => by have := hu j h; omega))
  have ST15 := Lib.hid (ST14.out.keep fun j h1 h2 => hk15.block j (by omega) fun h => by have := hu j h; omega)
  have MT15 : Hid (SyAt w15 w5c.heap.size w6.heap.size (.slice A1 (linkSy t c).ty.sizes.length cap1) (.slice B1 (linkSy t c).ty.cos.length bap1) (.slice Q1 (linkSy t c).fs.length qap1) (markSy 1 (linkSy t c).ty.sizes.length (linkSy t c).ty.cos.length (fun j => (linkSy t c).ty.cos.getD j default) (linkSy t c).fs.length (fun j => (linkSy t c).fs.getD j default))) := markSy_at ho15 hof15 (by omega) hcn2.out hu
  clear tl cl pl xl kl yl t0 t1 t2 c0 c1 c2 p0 p1 p2 x0 x1 x2 k0 k1 k2 y0 y1 y2
  have t0 := RT15.out.cell 0
  have t1 := RT15.out.cell 1
  have t2 := RT15.out.cell 2
  have tl := RT15.out.lt
  have c0 := RC15.out.cell 0
  have c1 := RC15.out.cell 1
  have c2 := RC15.out.cell 2
  have cl := RC15.out.lt
  have p0 := RP15.out.cell 0
  have p1 := RP15.out.cell 1
  have p2 := RP15.out.cell 2
  have pl := RP15.out.lt
  have x0 := RX15.out.cell 0
  have x1 := RX15.out.cell 1
  have x2 := RX15.out.cell 2
  have xl := RX15.out.lt
  have k0 := RK15.out.cell 0
  have k1 := RK15.out.cell 1
  have k2 := RK15.out.cell 2
  have kl := RK15.out.lt
  have y0 := RY15.out.cell 0
  have y1 := RY15.out.cell 1
  have y2 := RY15.out.cell 2
  have yl := RY15.out.lt
  simp only [List.getElem?_cons_zero, List.getElem?_cons_succ] at t0 t1 t2 c0 c1 c2 p0 p1 p2 x0 x1 x2 k0 k1 k2 y0 y1 y2
  clear hk15 hu ho15 hof15
  go_wp2_with fail
  refine (heldSystem_any _ _ _ _ _ _ _ _ _ _ 1 _ MT15.out (by omega) (by omega) hcn2.out).mono ?_
  rintro e w16 ⟨rfl, hb16⟩
  rw [← HM1.out]
  have RT16 := Lib.hid (RT15.out.below hb16 RT15.out.lt)
  have RC16 := Lib.hid (RC15.out.below hb16 RC15.out.lt)
  have RP16 := Lib.hid (RP15.out.below hb16 RP15.out.lt)
  have RX16 := Lib.hid (RX15.out.below hb16 RX15.out.lt)
  have RK16 := Lib.hid (RK15.out.below hb16 RK15.out.lt)
  have RY16 := Lib.hid (RY15.out.below hb16 RY15.out.lt)
  have HB16 := Lib.hid (HB15.out.trans (hb16.mono (by have := HB15.out.size; omega)))
  have hz16 := hb16.size
  have ST16 := Lib.hid (ST15.out.below hb16 (by omega))
  have MT16 := Lib.hid (MT15.out.below hb16 (by omega))
  clear tl cl pl xl kl yl t0 t1 t2 c0 c1 c2 p0 p1 p2 x0 x1 x2 k0 k1 k2 y0 y1 y2
  have t0 := RT16.out.cell 0
  have t1 := RT16.out.cell 1
  have t2 := RT16.out.cell 2
  have tl := RT16.out.lt
  have c0 := RC16.out.cell 0
  have c1 := RC16.out.cell 1
  have c2 := RC16.out.cell 2
  have cl := RC16.out.lt
  have p0 := RP16.out.cell 0
  have p1 := RP16.out.cell 1
  have p2 := RP16.out.cell 2
  have pl := RP16.out.lt
  have x0 := RX16.out.cell 0
  have x1 := RX16.out.cell 1
  have x2 := RX16.out.cell 2
  have xl := RX16.out.lt
  have k0 := RK16.out.cell 0
  have k1 := RK16.out.cell 1
  have k2 := RK16.out.cell 2
  have kl := RK16.out.lt
  have y0 := RY16.out.cell 0
  have y1 := RY16.out.cell 1
  have y2 := RY16.out.cell 2
  have yl := RY16.out.lt
  simp only [List.getElem?_cons_zero, List.getElem?_cons_succ] at t0 t1 t2 c0 c1 c2 p0 p1 p2 x0 x1 x2 k0 k1 k2 y0 y1 y2
  clear hb16
  go_wp2_with fail
  have Hcf17 : Hid (∀ {u : World}, Below w16.heap.size w16 u → u.cell? ⟨w.heap.size, 0, none⟩ = some (.slice A t.ty.sizes.length cap) ∧ u.cell? ⟨w.heap.size, 1, none⟩ = some (.slice B t.ty.cos.length bap) ∧ u.cell? ⟨w.heap.size, 2, none⟩ = some (.slice Q t.fs.length qap) ∧ u.cell? ⟨w.heap.size + 1, 0, none⟩ = some (.int .i64 c.src) ∧ u.cell? ⟨w.heap.size + 1, 1, none⟩ = some (.int .i64 c.dst) ∧ u.cell? ⟨w.heap.size + 1, 2, none⟩ = some (.slice A2 c.map.length cap2)) := fun {u} hu => by
    have r0 := RT16.out.below hu RT16.out.lt
    have r1 := RC16.out.below hu RC16.out.lt
    exact ⟨r0.cell 0, r0.cell 1, r0.cell 2, r1.cell 0, r1.cell 1, r1.cell 2⟩
  clear tl cl pl xl kl yl t0 t1 t2 c0 c1 c2 p0 p1 p2 x0 x1 x2 k0 k1 k2 y0 y1 y2
  refine wp_region_inv (by kernel_rfl) (fun f a u => ∃ y6 y7 y27 y28 y29 y30 y31 y32 y33 y34, a = ⟨#[Value.agg #[Value.slice A t.ty.sizes.length cap, Value.slice B t.ty.cos.length bap, Value.slice Q t.fs.length qap], Value.agg #[Value.int IntKind.i64 c.src, Value.int IntKind.i64 c.dst, Value.slice A2 c.map.length cap2], Value.pointer (some { block := w.heap.size, off := 0 }), Value.pointer (some { block := w.heap.size + 1, off := 0 }), Value.bool false, Value.int IntKind.i64 L2, Value.pointer (some { block := q4, off := 0 }), Value.bool (linkOk t c), Value.pointer (some { block := w5.heap.size, off := 0 }), Value.pointer (some { block := w5b.heap.size, off := 0 }), Value.pointer (some { block := w6.heap.size, off := 0 }), Value.bool (linkOk t c), Value.int IntKind.i64 (M + ↑c.map.length), Value.int IntKind.i64 M1, Value.int IntKind.i64 M1, y6, y7, Value.agg #[Value.slice A t.ty.sizes.length cap, Value.slice B t.ty.cos.length bap, Value.slice Q t.fs.length qap], Value.int IntKind.i64 1048576, Value.int IntKind.i64 L1, Value.int IntKind.i64 L1, Value.bool (decide (L1 < 0)), Value.agg #[Value.int IntKind.i64 c.src, Value.int IntKind.i64 c.dst, Value.slice A2 c.map.length cap2], Value.int IntKind.i64 L1, Value.int IntKind.i64 L2, Value.int IntKind.i64 L2, Value.bool (decide (L2 < 0)), x27, x28, x29, x30, x31, Value.tuple #[Value.agg #[Value.slice AP (linkSy t c).ty.sizes.length capP, Value.slice BP (linkSy t c).ty.cos.length bapP, Value.slice QP (linkSy t c).fs.length qapP], Value.bool (linkOk t c)], Value.agg #[Value.slice AP (linkSy t c).ty.sizes.length capP, Value.slice BP (linkSy t c).ty.cos.length bapP, Value.slice QP (linkSy t c).fs.length qapP], x34, Value.agg #[Value.slice A t.ty.sizes.length cap, Value.slice B t.ty.cos.length bap, Value.slice Q t.fs.length qap], Value.agg #[Value.slice (some { block := w4.heap.size + 6, off := 0 }) t.ty.sizes.length t.ty.sizes.length, Value.slice (some { block := w4.heap.size + 7, off := 0 }) t.ty.cos.length t.ty.cos.length, Value.slice (some { block := w4.heap.size + 8 + 4 * t.ty.cos.length, off := 0 }) t.fs.length t.fs.length], Value.agg #[Value.int IntKind.i64 c.src, Value.int IntKind.i64 c.dst, Value.slice A2 c.map.length cap2], Value.agg #[Value.int IntKind.i64 c.src, Value.int IntKind.i64 c.dst, Value.slice (some { block := w5a.heap.size + 3, off := 0 }) c.map.length c.map.length], Value.tuple #[Value.agg #[Value.slice A1 (linkSy t c).ty.sizes.length cap1, Value.slice B1 (linkSy t c).ty.cos.length bap1, Value.slice Q1 (linkSy t c).fs.length qap1], Value.bool (linkOk t c)], Value.agg #[Value.slice (some { block := w4.heap.size + 6, off := 0 }) t.ty.sizes.length t.ty.sizes.length, Value.slice (some { block := w4.heap.size + 7, off := 0 }) t.ty.cos.length t.ty.cos.length, Value.slice (some { block := w4.heap.size + 8 + 4 * t.ty.cos.length, off := 0 }) t.fs.length t.fs.length], Value.agg #[Value.int IntKind.i64 c.src, Value.int IntKind.i64 c.dst, Value.slice (some { block := w5a.heap.size + 3, off := 0 }) c.map.length c.map.length], Value.tuple #[Value.agg #[Value.slice A1 (linkSy t c).ty.sizes.length cap1, Value.slice B1 (linkSy t c).ty.cos.length bap1, Value.slice Q1 (linkSy t c).fs.length qap1], Value.bool (linkOk t c)], Value.agg #[Value.slice A1 (linkSy t c).ty.sizes.length cap1, Value.slice B1 (linkSy t c).ty.cos.length bap1, Value.slice Q1 (linkSy t c).fs.length qap1], Value.bool (linkOk t c), Value.agg #[Value.slice A1 (linkSy t c).ty.sizes.length cap1, Value.slice B1 (linkSy t c).ty.cos.length bap1, Value.slice Q1 (linkSy t c).fs.length qap1], Value.agg #[Value.slice AP (linkSy t c).ty.sizes.length capP, Value.slice BP (linkSy t c).ty.cos.length bapP, Value.slice QP (linkSy t c).fs.length qapP], Value.bool true, Value.bool false, Value.bool false, Value.bool (linkOk t c), Value.bool (linkOk t c), Value.bool false, Value.bool false, Value.agg #[Value.slice (some { block := w4.heap.size + 6, off := 0 }) t.ty.sizes.length t.ty.sizes.length, Value.slice (some { block := w4.heap.size + 7, off := 0 }) t.ty.cos.length t.ty.cos.length, Value.slice (some { block := w4.heap.size + 8 + 4 * t.ty.cos.length, off := 0 }) t.fs.length t.fs.length], Value.agg #[Value.slice A t.ty.sizes.length cap, Value.slice B t.ty.cos.length bap, Value.slice Q t.fs.length qap], Value.agg #[Value.slice (some { block := w7.heap.size + 6, off := 0 }) t.ty.sizes.length t.ty.sizes.length, Value.slice (some { block := w7.heap.size + 7, off := 0 }) t.ty.cos.length t.ty.cos.length, Value.slice (some { block := w7.heap.size + 8 + 4 * t.ty.cos.length, off := 0 }) t.fs.length t.fs.length], Value.bool true, Value.bool false, Value.agg #[Value.int IntKind.i64 c.src, Value.int IntKind.i64 c.dst, Value.slice (some { block := w5a.heap.size + 3, off := 0 }) c.map.length c.map.length], Value.agg #[Value.int IntKind.i64 c.src, Value.int IntKind.i64 c.dst, Value.slice A2 c.map.length cap2], Value.agg #[Value.int IntKind.i64 c.src, Value.int IntKind.i64 c.dst, Value.slice (some { block := w9.heap.size + 3, off := 0 }) c.map.length c.map.length], Value.bool true, Value.bool false, Value.agg #[Value.slice (some { block := w4.heap.size + 6, off := 0 }) t.ty.sizes.length t.ty.sizes.length, Value.slice (some { block := w4.heap.size + 7, off := 0 }) t.ty.cos.length t.ty.cos.length, Value.slice (some { block := w4.heap.size + 8 + 4 * t.ty.cos.length, off := 0 }) t.fs.length t.fs.length], Value.int IntKind.i64 1, Value.int IntKind.i64 M, Value.agg #[Value.int IntKind.i64 c.src, Value.int IntKind.i64 c.dst, Value.slice (some { block := w5a.heap.size + 3, off := 0 }) c.map.length c.map.length], Value.int IntKind.i64 M, Value.int IntKind.i64 (M + ↑c.map.length), Value.int IntKind.i64 (M + ↑c.map.length), Value.bool false, Value.bool false, Value.agg #[Value.slice A1 (linkSy t c).ty.sizes.length cap1, Value.slice B1 (linkSy t c).ty.cos.length bap1, Value.slice Q1 (linkSy t c).fs.length qap1], Value.agg #[Value.slice AP (linkSy t c).ty.sizes.length capP, Value.slice BP (linkSy t c).ty.cos.length bapP, Value.slice QP (linkSy t c).fs.length qapP], Value.bool true, Value.bool false, Value.bool false, Value.bool false, Value.bool (linkOk t c), Value.bool (linkOk t c), Value.bool false, Value.bool false, Value.agg #[Value.slice A1 (linkSy t c).ty.sizes.length cap1, Value.slice B1 (linkSy t c).ty.cos.length bap1, Value.slice Q1 (linkSy t c).fs.length qap1], Value.int IntKind.i64 1, Value.int IntKind.i64 M1, Value.agg #[Value.slice A1 (linkSy t c).ty.sizes.length cap1, Value.slice B1 (linkSy t c).ty.cos.length bap1, Value.slice Q1 (linkSy t c).fs.length qap1], Value.int IntKind.i64 1, Value.int IntKind.i64 M1, Value.int IntKind.i64 M1, Value.bool false, Value.int IntKind.i64 M1, Value.int IntKind.i64 M1, Value.bool false, y27, y28, y29, y30, y31, y32, y33, y34, undef, undef, undef, undef, undef, undef, undef, undef, undef, undef, undef, undef, undef, undef, undef, undef, undef], []⟩ ∧ WCFacts (fun u lo hi v l g => SyAt u lo hi v l g (linkSy t c)) w16.heap.size w16 (.agg #[.slice A t.ty.sizes.length cap, .slice B t.ty.cos.length bap, .slice Q t.fs.length qap]) (.agg #[.int .i64 c.src, .int .i64 c.dst, .slice A2 c.map.length cap2]) t c (linkOk t c) f y6 y7 y27 y28 y29 y30 y31 y32 y33 y34 u ∧ WClF f) (of_decide_eq_true (by kernel_rfl)) ⟨_, _, _, _, _, _, _, _, _, _, rfl, ⟨(Below.refl _ _).drew, nofun, nofun, nofun, nofun, nofun, nofun, nofun, nofun, nofun, nofun, nofun⟩, ⟨nofun, nofun, nofun, nofun⟩⟩ ?_ ?_
  · rintro f a u i o ho hfi hdep ⟨y6, y7, y27, y28, y29, y30, y31, y32, y33, y34, rfl, hF, hC⟩
    have hil : i < 11 := by have := (Array.getElem?_eq_some_iff.1 ho).1; simpa using this
    have hsz := hF.bel.size
    have hBu : Hid (Below w.heap.size w u) := HB16.out.trans (hF.bel.mono HB16.out.size)
    have hbu := hBu.out.size
    obtain ⟨p0, p1, p2, p3, p4, p5⟩ := Hcf17.out hF.bel
    obtain rfl | rfl | rfl | rfl | rfl | rfl | rfl | rfl | rfl | rfl | rfl : i = 0 ∨ i = 1 ∨ i = 2 ∨ i = 3 ∨ i = 4 ∨ i = 5 ∨ i = 6 ∨ i = 7 ∨ i = 8 ∨ i = 9 ∨ i = 10 := by omega
    all_goals
      obtain rfl := Option.some.inj ho
      refine wpOp_step ho fun K hK => ?_
      simp [Region.binds] at hdep
      clear ho
    · refine if_stepF rfl ?_
      have HF := Lib.hid hF
      have HC := Lib.hid hC
      clear hF hC
      unfold Oper.wp
      go_simp
      exact hK _ _ ⟨y6, y7, y27, _, y29, y30, y31, y32, y33, y34, rfl, HF.out.s0, HC.out.u0⟩
    · have d0 : f 0 = true := by simp [hdep]
      obtain rfl := hF.a0 d0
      refine if_stepF rfl ?_
      have HF := Lib.hid hF
      have HC := Lib.hid hC
      clear hF hC
      unfold Oper.wp
      go_simp
      refine (toSystem_any 0 w.heap.size _ _ _ t u (Hv.out.below hBu.out (Nat.le_refl _)) hbu hbk.out).mono ?_
      rintro e u2 ⟨rfl, hb9, hs9, hn9⟩
      exact hK _ _ ⟨y6, y7, y27, _, _, y30, y31, y32, y33, y34, rfl, (HF.out.grow HDk.out hsz hb9).s1 (by omega) (by omega) (hn9.at_ Hv.out.fits hbk.out), HC.out.u1⟩
    · refine if_stepF rfl ?_
      have HF := Lib.hid hF
      have HC := Lib.hid hC
      clear hF hC
      unfold Oper.wp
      go_simp
      exact hK _ _ ⟨y6, y7, y27, y28, y29, _, y31, y32, y33, y34, rfl, HF.out.s2, HC.out.u2⟩
    · have d2 : f 2 = true := by simp [hdep]
      obtain rfl := hF.a2 d2
      refine if_stepF rfl ?_
      have HF := Lib.hid hF
      have HC := Lib.hid hC
      clear hF hC
      unfold Oper.wp
      go_simp
      refine (toCoercion_any 0 w.heap.size _ _ _ c u (Hc.out.below hBu.out (Nat.le_refl _)) hbu hcl).mono ?_
      rintro e u2 ⟨rfl, hb9, hs9, hn9⟩
      have hcc : CoAt u2 (u.heap.size + 3) (u.heap.size + 4) (.int .i64 c.src) (.int .i64 c.dst) (.slice (some ⟨u.heap.size + 3, 0, none⟩) c.map.length c.map.length) c := ⟨rfl, rfl, HS.out, HD.out, hn9.ints (cap := c.map.length) HM.out (Nat.le_refl _) (by omega) (Nat.le_refl _) (by unfold maxLen; omega)⟩
      exact hK _ _ ⟨y6, y7, y27, y28, y29, _, _, y32, y33, y34, rfl, (HF.out.grow HDk.out hsz hb9).s3 (by omega) (by omega) hcc, HC.out.u3⟩
    · have d1 : f 1 = true := by simp [hdep]
      have d3 : f 3 = true := by simp [hdep]
      obtain ⟨s1, l1, g1, rfl, lo1, hi1, e1, e2, hty1⟩ := hF.a1 d1 hfi
      obtain ⟨y1, y2, y3, rfl, lo2, hi2, e3, e4, hco1⟩ := hF.a3 d3 hfi
      have Hty1 := Lib.hid (hty1.more (lo' := w16.heap.size) (hi' := u.heap.size) e1 e2)
      have Hco1 := Lib.hid (hco1.more (lo' := w16.heap.size) (hi' := u.heap.size) e3 e4)
      clear hty1 hco1
      have hq : ∀ q, y6 = .pointer (some ⟨q, 0, none⟩) → f 8 = true → q < u.heap.size ∨ u.heap.size ≤ q := fun q _ _ => by omega
      clear hq
      have Hq : Hid (∀ q, y6 = .pointer (some ⟨q, 0, none⟩) → f 8 = true → q < u.heap.size) := fun q eq h8 => by
        obtain ⟨q2, _, eq2, hr⟩ := hF.a8 h8 (WClF.no (fun h9 => hC.c54 (hC.c65 (hC.c96 h9))) hfi)
        rw [eq2] at eq
        cases eq
        exact hr.lt
      refine if_stepF rfl ?_
      have HF := Lib.hid hF
      have HC := Lib.hid hC
      clear hF hC
      unfold Oper.wp
      go_simp
      refine (implAddCo_any _ _ _ _ _ _ _ _ t c _ Hty1.out Hco1.out (Nat.le_refl _) hbk.out hcl).mono ?_
      rintro e u2 ⟨v9, l9, g9, rfl, hb9, hto9⟩
      have hty9 := hto9.syAt (lo := u.heap.size) (hi := u2.heap.size) WF.out (Nat.le_refl _) (Nat.le_refl _)
      exact hK _ _ ⟨y6, y7, y27, y28, _, y30, _, _, y33, y34, rfl, (HF.out.grow HDk.out hsz hb9).s4 (lo := u.heap.size) (hi := u2.heap.size) hsz (Nat.le_refl _) hty9 (fun q eq h8 => .inl (Hq.out q eq h8)) (WClF.no HC.out.c54 hfi) (WClF.no (fun h6 => HC.out.c54 (HC.out.c65 h6)) hfi), HC.out.u4⟩
    · have d4 : f 4 = true := by simp [hdep]
      refine if_stepF rfl ?_
      have HF := Lib.hid hF
      have HC := Lib.hid hC
      clear hF hC
      unfold Oper.wp
      go_simp
      exact hK _ _ ⟨y6, y7, _, y28, y29, y30, y31, y32, y33, y34, rfl, HF.out.s5, HC.out.u5 d4⟩
    · have d5 : f 5 = true := by simp [hdep]
      have e5 := hF.a5 d5
      subst e5
      obtain ⟨v4, l4, g4, e4, _⟩ := hF.a4 (hC.c54 d5)
      subst e4
      refine if_stepF rfl ?_
      have HF := Lib.hid hF
      have HC := Lib.hid hC
      clear hF hC
      unfold Oper.wp
      go_simp
      exact hK _ _ ⟨y6, y7, _, y28, y29, y30, y31, _, _, y34, rfl, HF.out.s6 rfl (WClF.no HC.out.c96 hfi), HC.out.u6 d5⟩
    · have d5 : f 5 = true := by simp [hdep]
      have e5 := hF.a5 d5
      subst e5
      obtain ⟨v4, l4, g4, e4, _⟩ := hF.a4 (hC.c54 d5)
      subst e4
      refine if_stepF rfl ?_
      have HF := Lib.hid hF
      have HC := Lib.hid hC
      clear hF hC
      unfold Oper.wp
      go_simp
      exact hK _ _ ⟨y6, y7, _, y28, y29, y30, y31, _, y33, _, rfl, HF.out.s7, HC.out.u7⟩
    · refine if_stepF rfl ?_
      have HF := Lib.hid hF
      have HC := Lib.hid hC
      clear hF hC
      unfold Oper.wp
      go_simp
      have hh : f 4 = true → ∃ v l g, y32 = .tuple #[.agg #[v, l, g], .bool (linkOk t c)] ∧ ∃ lo hi, w16.heap.size ≤ lo ∧ hi ≤ u.heap.size ∧ SyAt (u.alloc (.cells #[.slice none 0 0, .slice none 0 0, .slice none 0 0] 38)) lo hi v l g (linkSy t c) := fun d4 => by
        obtain ⟨v, l, g, e, lo, hi, h1, h2, h3, _⟩ := HF.out.a4 d4
        exact ⟨v, l, g, e, lo, hi, h1, h2, h3.keep fun k _ hk => Below.heap_alloc u _ k (by omega)⟩
      exact hK _ _ ⟨_, y7, y27, y28, y29, y30, y31, y32, y33, y34, rfl, (HF.out.grow HDk.out hsz ((Below.refl _ _).alloc (Nat.le_refl _) _)).s8 (b := u.heap.size) hsz (Row.new u 38 [.slice none 0 0, .slice none 0 0, .slice none 0 0]) (WClF.no HC.out.c98 hfi) hh, HC.out.u8⟩
    · have d6 : f 6 = true := by simp [hdep]
      have d8 : f 8 = true := by simp [hdep]
      have d4 : f 4 = true := by simp [hdep]
      obtain ⟨v6, l6, g6, rfl, e6⟩ := hF.a6 d6
      obtain ⟨v4, l4, g4, e4, lo4, hi4, _, _, h4, _⟩ := hF.a4 d4
      rw [e6] at e4
      simp at e4
      obtain ⟨rfl, rfl, rfl⟩ := e4
      obtain ⟨A6, c6, rfl, _, _, _⟩ := h4.1.1.form
      obtain ⟨B6, c7, rfl, _, _, _⟩ := h4.1.2.form
      obtain ⟨Q6, c8, rfl, _, _, _⟩ := h4.2.form
      subst e6
      clear h4
      obtain ⟨q, hq, rfl, hrow⟩ := hF.a8 d8 hfi
      have Hrow := Lib.hid hrow
      have r0 := hrow.cell 0
      have r1 := hrow.cell 1
      have r2 := hrow.cell 2
      have rf0 := hrow.frozen 0
      have rf1 := hrow.frozen 1
      have rf2 := hrow.frozen 2
      simp only [List.getElem?_cons_zero, List.getElem?_cons_succ] at r0 r1 r2
      clear hrow
      refine if_stepF rfl ?_
      have HF := Lib.hid hF
      have HC := Lib.hid hC
      clear hF hC
      unfold Oper.wp
      go_simp
      exact hK _ _ ⟨_, y7, y27, y28, y29, y30, y31, _, _, y34, rfl, HF.out.s9 HDk.out d4 d8 hq Hrow.out, HC.out.u9 d6 d8⟩
    · have d7 : f 7 = true := by simp [hdep]
      obtain rfl := hF.a7 d7
      refine if_stepF rfl ?_
      have HF := Lib.hid hF
      have HC := Lib.hid hC
      clear hF hC
      unfold Oper.wp
      go_simp
      exact hK _ _ ⟨y6, _, y27, y28, y29, y30, y31, y32, y33, _, rfl, HF.out.s10, HC.out.u10⟩
  rintro f a w17 hall ⟨y6, y7, y27, y28, y29, y30, y31, y32, y33, y34, rfl, hF, hC⟩
  obtain ⟨q17, v17, l17, g17, hq17, rfl, rfl, hr17⟩ := hF.a9 (hall 9 (by decide))
  obtain ⟨va, la, ga, ea, eb⟩ := hF.a6 (hall 6 (by decide))
  obtain ⟨vb, lb, gb, ec, lo17, hi17, hlo17, hhi17, hty17, _⟩ := hF.a4 (hall 4 (by decide))
  rw [eb] at ec
  simp at ea ec
  obtain ⟨rfl, rfl, rfl⟩ := ea
  obtain ⟨rfl, rfl, rfl⟩ := ec
  subst eb
  obtain rfl := hF.aa (hall 10 (by decide))
  have hb17 := hF.bel
  obtain ⟨AZ, capZ, rfl, _, _, _⟩ := hty17.1.1.form
  obtain ⟨BZ, bapZ, rfl, _, _, _⟩ := hty17.1.2.form
  obtain ⟨QZ, qapZ, rfl, _, _, _⟩ := hty17.2.form
  have RT17 := Lib.hid (RT16.out.below hb17 RT16.out.lt)
  have RC17 := Lib.hid (RC16.out.below hb17 RC16.out.lt)
  have RP17 := Lib.hid (RP16.out.below hb17 RP16.out.lt)
  have RX17 := Lib.hid (RX16.out.below hb17 RX16.out.lt)
  have RK17 := Lib.hid (RK16.out.below hb17 RK16.out.lt)
  have RY17 := Lib.hid (RY16.out.below hb17 RY16.out.lt)
  have HB17 := Lib.hid (HB16.out.trans (hb17.mono (by have := HB16.out.size; omega)))
  have hz17 := hb17.size
  have ST17 := Lib.hid (ST16.out.below hb17 (by omega))
  have MT17 := Lib.hid (MT16.out.below hb17 (by omega))
  have ZT17 := Lib.hid (hty17.more (lo' := w16.heap.size) (hi' := w17.heap.size) hlo17 hhi17)
  have hqlt17 : q17 < w17.heap.size := hr17.lt
  have RZ17 : Hid (Row w17 q17 38 [.slice AZ (linkSy t c).ty.sizes.length capZ, .slice BZ (linkSy t c).ty.cos.length bapZ, .slice QZ (linkSy t c).fs.length qapZ]) := hr17
  clear hF hC hall hr17 hty17 hb17 hlo17 hhi17
  have p0 := RP17.out.cell 0
  have p1 := RP17.out.cell 1
  have p2 := RP17.out.cell 2
  have pl := RP17.out.lt
  have y0 := RY17.out.cell 0
  have y1 := RY17.out.cell 1
  have y2 := RY17.out.cell 2
  have yl := RY17.out.lt
  have z0 := RZ17.out.cell 0
  have z1 := RZ17.out.cell 1
  have z2 := RZ17.out.cell 2
  have zl := RZ17.out.lt
  simp only [List.getElem?_cons_zero, List.getElem?_cons_succ] at p0 p1 p2 y0 y1 y2 z0 z1 z2
  go_wp2_with fail
  refine (eqSystem_same _ _ _ _ _ _ _ _ _ _ (linkSy t c) _ ZT17.out ST17.out (by omega) (by omega)).mono ?_
  rintro e w18 ⟨rfl, hb18⟩
  have RT18 := Lib.hid (RT17.out.below hb18 RT17.out.lt)
  have RC18 := Lib.hid (RC17.out.below hb18 RC17.out.lt)
  have RP18 := Lib.hid (RP17.out.below hb18 RP17.out.lt)
  have RX18 := Lib.hid (RX17.out.below hb18 RX17.out.lt)
  have RK18 := Lib.hid (RK17.out.below hb18 RK17.out.lt)
  have RY18 := Lib.hid (RY17.out.below hb18 RY17.out.lt)
  have RZ18 := Lib.hid (RZ17.out.below hb18 RZ17.out.lt)
  have HB18 := Lib.hid (HB17.out.trans (hb18.mono (by have := HB17.out.size; omega)))
  have hz18 := hb18.size
  have ST18 := Lib.hid (ST17.out.below hb18 (by omega))
  have MT18 := Lib.hid (MT17.out.below hb18 (by omega))
  have ZT18 := Lib.hid (ZT17.out.below hb18 (by omega))
  clear pl yl zl p0 p1 p2 y0 y1 y2 z0 z1 z2
  have p0 := RP18.out.cell 0
  have p1 := RP18.out.cell 1
  have p2 := RP18.out.cell 2
  have pl := RP18.out.lt
  have y0 := RY18.out.cell 0
  have y1 := RY18.out.cell 1
  have y2 := RY18.out.cell 2
  have yl := RY18.out.lt
  have z0 := RZ18.out.cell 0
  have z1 := RZ18.out.cell 1
  have z2 := RZ18.out.cell 2
  have zl := RZ18.out.lt
  simp only [List.getElem?_cons_zero, List.getElem?_cons_succ] at p0 p1 p2 y0 y1 y2 z0 z1 z2
  clear hb18
  go_wp2_with fail
  refine (heldSystem_any _ _ _ _ _ _ _ _ _ _ 1 _ MT18.out (by omega) (by omega) hcn2.out).mono ?_
  rintro e w19 ⟨rfl, hb19⟩
  rw [← HM1.out]
  have Hfin := Lib.hid (HB18.out.trans (hb19.mono (by have := HB18.out.size; omega)))
  clear pl yl zl p0 p1 p2 y0 y1 y2 z0 z1 z2
  clear hb19
  go_wp2
  go_ret
  exact ⟨rfl, Hfin.out⟩
end Go.Proofs.Ytplncocfbajefaa

