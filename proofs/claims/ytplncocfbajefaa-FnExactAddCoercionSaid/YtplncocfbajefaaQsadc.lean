/-
  The contract of the model's AddCoercion.
-/
import Derived.Test.YtplncocfbajefaaQiadc
import Derived.Test.YtplncocfbajefaaD7
import Derived.Test.YtplncocfbajefaaD11
namespace Go.Proofs.Ytplncocfbajefaa
open Go.RowKit
attribute [local go_sem] Oper.semAt_some

theorem syAt_zero (w : World) (lo hi : Nat) : SyAt w lo hi (.slice none 0 0) (.slice none 0 0) (.slice none 0 0) ⟨⟨[], []⟩, []⟩ :=
  ⟨⟨⟨none, 0, rfl, Nat.le_refl _, Nat.zero_le _, by simp, fun h => absurd h (by simp)⟩, none, 0, rfl, Nat.le_refl _, Nat.zero_le _, fun h => absurd h (by simp)⟩, none, 0, rfl, Nat.le_refl _, Nat.zero_le _, fun h => absurd h (by simp)⟩

set_option maxRecDepth 100000 in
set_option maxHeartbeats 4000000 in
theorem specRawAddCo_any (lo hi : Nat) (sv cv fv x x2 z : Value) (y : Sy) (c : Co) (w : World) (hv : SyAt w lo hi sv cv fv y) (hc : CoAt w lo hi x x2 z c) (hB : hi ≤ w.heap.size) (hbk : y.bulk ≤ 1048576) (hlen : c.map.length ≤ 1048576) :
    Calls Try.prog 21 #[.agg #[sv, cv, fv], .agg #[x, x2, z]] w fun e w' => ∃ v l q, e = .returned (.tuple #[.agg #[v, l, q], .bool (linkOk y c)]) ∧ Below w.heap.size w w' ∧ SyAt w' w.heap.size w'.heap.size v l q (linkSy y c) := by
  have HC0 := Lib.hid hc
  obtain ⟨A, cap, rfl, hl1, hm1, _⟩ := hv.1.1.form
  obtain ⟨B, bap, rfl, hl2, hm2, _⟩ := hv.1.2.form
  obtain ⟨Q, qap, rfl, hl3, hm3, _⟩ := hv.2.form
  obtain ⟨rfl, rfl, hsrc, hdst, hcz⟩ := hc
  obtain ⟨A2, cap2, rfl, _, _, hcz⟩ := hcz.form
  have HWC := Lib.hid (IntsAt.wf hcz)
  have HSD : Hid (I64 c.src ∧ I64 c.dst) := ⟨hsrc, hdst⟩
  have hbt : y.ty.bulk ≤ 1048576 := by unfold Sy.bulk at hbk; omega
  obtain ⟨W1, hW1⟩ : ∃ u, u = ((w.alloc (.cells #[.slice A y.ty.sizes.length cap, .slice B y.ty.cos.length bap, .slice Q y.fs.length qap] 38)).alloc (.cells #[.int .i64 c.src, .int .i64 c.dst, .slice A2 c.map.length cap2] 42)).alloc (.cells #[.slice none 0 0, .slice none 0 0, .slice none 0 0] 38) := ⟨_, rfl⟩
  have h3 : Below w.heap.size w W1 := by
    rw [hW1]
    exact (((Below.refl _ _).alloc (Nat.le_refl _) _).alloc (by simp) _).alloc (by simp; omega) _
  have hs1 : W1.heap.size = w.heap.size + 3 := by rw [hW1]; simp
  have hrs : Row W1 w.heap.size 38 [.slice A y.ty.sizes.length cap, .slice B y.ty.cos.length bap, .slice Q y.fs.length qap] := by rw [hW1]; exact ((Row.new w 38 [.slice A y.ty.sizes.length cap, .slice B y.ty.cos.length bap, .slice Q y.fs.length qap]).alloc _).alloc _
  have hrc : Row W1 (w.heap.size + 1) 42 [.int .i64 c.src, .int .i64 c.dst, .slice A2 c.map.length cap2] := by
    rw [hW1]
    have h := Row.new (w.alloc (.cells #[.slice A y.ty.sizes.length cap, .slice B y.ty.cos.length bap, .slice Q y.fs.length qap] 38)) 42 [.int .i64 c.src, .int .i64 c.dst, .slice A2 c.map.length cap2]
    rw [World.size_alloc] at h
    exact h.alloc _
  have hrr : Row W1 (w.heap.size + 2) 38 [.slice none 0 0, .slice none 0 0, .slice none 0 0] := by
    rw [hW1]
    have h := Row.new ((w.alloc (.cells #[.slice A y.ty.sizes.length cap, .slice B y.ty.cos.length bap, .slice Q y.fs.length qap] 38)).alloc (.cells #[.int .i64 c.src, .int .i64 c.dst, .slice A2 c.map.length cap2] 42)) 38 [.slice none 0 0, .slice none 0 0, .slice none 0 0]
    rw [World.size_alloc, World.size_alloc] at h
    exact h
  have HV1 := Lib.hid (hv.below h3 hB)
  have HC1 := Lib.hid (HC0.out.keep fun k _ hk => h3.block k (by omega))
  have H1 := Lib.hid h3
  have HRS := Lib.hid hrs
  have HRC := Lib.hid hrc
  have HRR := Lib.hid hrr
  have hs1' : w.heap.size + 3 ≤ W1.heap.size := by omega
  clear hv h3 hrs hrc hrr hs1 hcz HC0 hsrc hdst
  go_enter Try.func21, Try.ntmps21
  go_wp2_with fail
  rw [← hW1]
  refine (ownSys_any lo hi _ _ _ y _ HV1.out (by omega) hbk).mono ?_
  rintro e w1 ⟨v, l, q, rfl, hb1, hty1⟩
  have hsw1 : w.heap.size + 3 ≤ w1.heap.size := by have := hb1.size; omega
  obtain ⟨VA, VC, rfl, _, _, _⟩ := hty1.1.1.form
  obtain ⟨WA, WC, rfl, _, _, _⟩ := hty1.1.2.form
  obtain ⟨LA, LC, rfl, _, _, _⟩ := hty1.2.form
  have HRS1 := Lib.hid (HRS.out.below hb1 HRS.out.lt)
  have HRC1 := Lib.hid (HRC.out.below hb1 HRC.out.lt)
  have HRR1 := Lib.hid (HRR.out.below hb1 HRR.out.lt)
  have HC2 := Lib.hid (HC1.out.keep fun k _ hk => hb1.block k (by omega))
  have H2 := Lib.hid (H1.out.trans (hb1.mono (by omega)))
  have HTY1 := Lib.hid hty1
  have hW1s : W1.heap.size ≤ w1.heap.size := hb1.size
  clear hb1 hty1 hW1 HRS HRC HRR HV1 HC1 H1
  have a0 := HRS1.out.cell 0
  have a1 := HRS1.out.cell 1
  have a2 := HRS1.out.cell 2
  have af0 := HRS1.out.frozen 0
  have af1 := HRS1.out.frozen 1
  have af2 := HRS1.out.frozen 2
  have b0 := HRC1.out.cell 0
  have b1 := HRC1.out.cell 1
  have b2 := HRC1.out.cell 2
  simp only [List.getElem?_cons_zero, List.getElem?_cons_succ] at a0 a1 a2 b0 b1 b2
  obtain ⟨w2, hw2⟩ : ∃ u, u = ((w1.setCell ⟨w.heap.size, 0, none⟩ (.slice VA y.ty.sizes.length VC)).setCell ⟨w.heap.size, 1, none⟩ (.slice WA y.ty.cos.length WC)).setCell ⟨w.heap.size, 2, none⟩ (.slice LA y.fs.length LC) := ⟨_, rfl⟩
  have hk2 : ∀ k, k ≠ w.heap.size → w2.heap[k]? = w1.heap[k]? := fun k hk => by rw [hw2]; exact (Below.heap_setCell _ _ _ _ (by dsimp only; omega)).trans ((Below.heap_setCell _ _ _ _ (by dsimp only; omega)).trans (Below.heap_setCell _ _ _ _ (by dsimp only; omega)))
  have HRS2 : Hid (Row w2 w.heap.size 38 [.slice VA y.ty.sizes.length VC, .slice WA y.ty.cos.length WC, .slice LA y.fs.length LC]) := by rw [hw2]; exact ((HRS1.out.set_ 0 _).set_ 1 _).set_ 2 _
  have HRC2 := Lib.hid (HRC1.out.keep (hk2 _ (by omega)))
  have HRR2 := Lib.hid (HRR1.out.keep (hk2 _ (by omega)))
  have H3 : Hid (Below w.heap.size w w2) := by rw [hw2]; exact ((H2.out.setCell (by dsimp only; omega) _).setCell (by dsimp only; omega) _).setCell (by dsimp only; omega) _
  have hs2 : w2.heap.size = w1.heap.size := by rw [hw2]; simp [World.setCell]
  have hs2a : w.heap.size + 3 ≤ w2.heap.size := by omega
  have hs2b : w1.heap.size ≤ w2.heap.size := by omega
  have HTY2 : Hid (SyAt w2 W1.heap.size w2.heap.size (.slice VA y.ty.sizes.length VC) (.slice WA y.ty.cos.length WC) (.slice LA y.fs.length LC) y) := by
    rw [hs2]
    exact HTY1.out.keep fun k hk1 _ => hk2 k (by omega)
  have HC3 := Lib.hid (HC2.out.keep (w' := w2) fun k _ hk => hk2 k (by omega))
  go_wp2_with fail
  rw [← hw2]
  clear hw2 hk2 hs2 HTY1 HC2 H2 HRS1 HRC1 HRR1 a0 a1 a2 af0 af1 af2 b0 b1 b2
  refine (ownCo_any lo hi _ _ _ c _ HC3.out (by omega) hlen).mono ?_
  rintro e w3 ⟨v3, rfl, hb3, hown3⟩
  obtain ⟨VA3, VC3, rfl⟩ := owns_form hown3
  have hs3 := hb3.size
  have HI3 := Lib.hid (ownsRow.intsAt (lo := w2.heap.size) hown3 HWC.out (Nat.le_refl _) (Nat.le_refl _))
  have HRS3 := Lib.hid (HRS2.out.below hb3 HRS2.out.lt)
  have HRC3 := Lib.hid (HRC2.out.below hb3 HRC2.out.lt)
  have HRR3 := Lib.hid (HRR2.out.below hb3 HRR2.out.lt)
  have HTY3 := Lib.hid (HTY2.out.below hb3 (Nat.le_refl _))
  have H4 := Lib.hid (H3.out.trans (hb3.mono (by omega)))
  clear hb3 hown3 HRS2 HRC2 HRR2 HTY2 H3 HC3
  have b0 := HRC3.out.cell 0
  have b1 := HRC3.out.cell 1
  have b2 := HRC3.out.cell 2
  have bf0 := HRC3.out.frozen 0
  have bf1 := HRC3.out.frozen 1
  have bf2 := HRC3.out.frozen 2
  have a0 := HRS3.out.cell 0
  have a1 := HRS3.out.cell 1
  have a2 := HRS3.out.cell 2
  simp only [List.getElem?_cons_zero, List.getElem?_cons_succ] at a0 a1 a2 b0 b1 b2
  obtain ⟨w4, hw4⟩ : ∃ u, u = ((w3.setCell ⟨w.heap.size + 1, 0, none⟩ (.int .i64 c.src)).setCell ⟨w.heap.size + 1, 1, none⟩ (.int .i64 c.dst)).setCell ⟨w.heap.size + 1, 2, none⟩ (.slice VA3 c.map.length VC3) := ⟨_, rfl⟩
  have hk4 : ∀ k, k ≠ w.heap.size + 1 → w4.heap[k]? = w3.heap[k]? := fun k hk => by rw [hw4]; exact (Below.heap_setCell _ _ _ _ (by dsimp only; omega)).trans ((Below.heap_setCell _ _ _ _ (by dsimp only; omega)).trans (Below.heap_setCell _ _ _ _ (by dsimp only; omega)))
  have HRC4 : Hid (Row w4 (w.heap.size + 1) 42 [.int .i64 c.src, .int .i64 c.dst, .slice VA3 c.map.length VC3]) := by rw [hw4]; exact ((HRC3.out.set_ 0 _).set_ 1 _).set_ 2 _
  have HRS4 := Lib.hid (HRS3.out.keep (hk4 _ (by omega)))
  have HRR4 := Lib.hid (HRR3.out.keep (hk4 _ (by omega)))
  have H5 : Hid (Below w.heap.size w w4) := by rw [hw4]; exact ((H4.out.setCell (by dsimp only; omega) _).setCell (by dsimp only; omega) _).setCell (by dsimp only; omega) _
  have hs4 : w4.heap.size = w3.heap.size := by rw [hw4]; simp [World.setCell]
  have hs4a : w3.heap.size ≤ w4.heap.size := by omega
  have HTY4 : Hid (SyAt w4 W1.heap.size w4.heap.size (.slice VA y.ty.sizes.length VC) (.slice WA y.ty.cos.length WC) (.slice LA y.fs.length LC) y) := (HTY3.out.keep fun k hk1 _ => hk4 k (by omega)).more (Nat.le_refl _) (by omega)
  have HC4 : Hid (CoAt w4 W1.heap.size w4.heap.size (.int .i64 c.src) (.int .i64 c.dst) (.slice VA3 c.map.length VC3) c) := by
    rw [hs4]
    exact ⟨rfl, rfl, HSD.out.1, HSD.out.2, (HI3.out.keep fun k hk1 _ => hk4 k (by omega)).more (by omega) (Nat.le_refl _)⟩
  have f0 := HRS4.out.cell 0
  have f1 := HRS4.out.cell 1
  have g0 := HRC4.out.cell 0
  have g1 := HRC4.out.cell 1
  have g2 := HRC4.out.cell 2
  simp only [List.getElem?_cons_zero, List.getElem?_cons_succ] at f0 f1 g0 g1 g2
  rw [hw4] at f0 f1 g0 g1 g2
  go_wp2_with fail
  rw [← hw4]
  clear hw4 hk4 f0 f1 g0 g1 g2 a0 a1 a2 b0 b1 b2 bf0 bf1 bf2 HTY3 HRS3 HRC3 HRR3 H4 HI3
  have hbtl : (w4.heap.size : Nat) = w4.heap.size := rfl
  clear hbtl
  refine (specWith_any W1.heap.size w4.heap.size _ _ _ _ _ y.ty c _ HTY4.out.1 HC4.out (Nat.le_refl _) hbt hlen).mono ?_
  rintro e w5 ⟨v5, l5, rfl, hb5, hty5⟩
  obtain ⟨VA5, VC5, rfl, _, _, _⟩ := hty5.1.form
  obtain ⟨WA5, WC5, rfl, _, _, _⟩ := hty5.2.form
  have hs5 := hb5.size
  have HRS5 := Lib.hid (HRS4.out.below hb5 HRS4.out.lt)
  have HRR5 := Lib.hid (HRR4.out.below hb5 HRR4.out.lt)
  have HTY5 := Lib.hid (HTY4.out.below hb5 (Nat.le_refl _))
  have HTT5 := Lib.hid hty5
  have H6 := Lib.hid (H5.out.trans (hb5.mono (by omega)))
  clear hb5 hty5 HRS4 HRR4 HRC4 HTY4 HC4 H5
  obtain ⟨w6, hw6⟩ : ∃ u, u = w5.alloc (.cells #[.slice VA5 (withCo y.ty c).sizes.length VC5, .slice WA5 (withCo y.ty c).cos.length WC5] 35) := ⟨_, rfl⟩
  have hb6 : Below w5.heap.size w5 w6 := by rw [hw6]; exact (Below.refl _ _).alloc (Nat.le_refl _) _
  have hs6 : w5.heap.size < w6.heap.size := by rw [hw6]; simp
  have HRT6 : Hid (Row w6 w5.heap.size 35 [.slice VA5 (withCo y.ty c).sizes.length VC5, .slice WA5 (withCo y.ty c).cos.length WC5]) := by rw [hw6]; exact Row.new w5 35 _
  have HRS6 := Lib.hid (HRS5.out.below hb6 HRS5.out.lt)
  have HRR6 := Lib.hid (HRR5.out.below hb6 HRR5.out.lt)
  have HTY6 := Lib.hid (HTY5.out.below hb6 (by omega))
  have HTT6 := Lib.hid (HTT5.out.below hb6 (by omega))
  have H7 := Lib.hid (H6.out.trans (hb6.mono (by omega)))
  have s0 := HRS6.out.cell 0
  have s1 := HRS6.out.cell 1
  have s2 := HRS6.out.cell 2
  have r0 := HRR6.out.cell 0
  have r1 := HRR6.out.cell 1
  have r2 := HRR6.out.cell 2
  have rf0 := HRR6.out.frozen 0
  have rf1 := HRR6.out.frozen 1
  have rf2 := HRR6.out.frozen 2
  simp only [List.getElem?_cons_zero, List.getElem?_cons_succ] at s0 s1 s2 r0 r1 r2
  clear hb6 HRS5 HRR5 HTY5 HTT5 H6
  by_cases hok : withOk y.ty c = true
  · rw [hok]
    rw [hw6] at s0 s1 s2
    go_wp2_with fail
    rw [← hw6]
    clear s0 s1 s2 r0 r1 r2 rf0 rf1 rf2 hw6
    refine (specSysValid_any W1.heap.size w4.heap.size _ _ _ y _ HTY6.out (by omega)).mono ?_
    rintro e w7 ⟨rfl, hb7⟩
    have hs7 := hb7.size
    have HRT7 := Lib.hid (HRT6.out.below hb7 HRT6.out.lt)
    have HRS7 := Lib.hid (HRS6.out.below hb7 HRS6.out.lt)
    have HRR7 := Lib.hid (HRR6.out.below hb7 HRR6.out.lt)
    have HTY7 := Lib.hid (HTY6.out.below hb7 (by omega))
    have HTT7 := Lib.hid (HTT6.out.below hb7 (by omega))
    have H8 := Lib.hid (H7.out.trans (hb7.mono (by omega)))
    clear hb7 HRT6 HRS6 HRR6 HTY6 HTT6 H7
    have t0 := HRT7.out.cell 0
    have t1 := HRT7.out.cell 1
    have s2 := HRS7.out.cell 2
    have r0 := HRR7.out.cell 0
    have r1 := HRR7.out.cell 1
    have r2 := HRR7.out.cell 2
    have rf0 := HRR7.out.frozen 0
    have rf1 := HRR7.out.frozen 1
    have rf2 := HRR7.out.frozen 2
    simp only [List.getElem?_cons_zero, List.getElem?_cons_succ] at t0 t1 s2 r0 r1 r2
    by_cases hsy : syB y = true
    · have hlk : linkOk y c = true := by unfold linkOk; rw [hok, hsy]; rfl
      have HLK := Lib.hid hlk
      rw [hsy]
      clear hok hsy hlk
      go_wp2
      refine bodyPost_ret (v := .tuple #[.agg #[.slice VA5 (withCo y.ty c).sizes.length VC5, .slice WA5 (withCo y.ty c).cos.length WC5, .slice LA y.fs.length LC], .bool true]) (by simp [results, Try.results21, go_sem, r0, r1, r2]) rfl ?_
      refine ⟨_, _, _, by rw [HLK.out], ((H8.out.setCell (by dsimp only; omega) _).setCell (by dsimp only; omega) _).setCell (by dsimp only; omega) _, ?_⟩
      rw [linkSy_yes HLK.out]
      have ht : SyAt w7 W1.heap.size w7.heap.size (.slice VA5 (withCo y.ty c).sizes.length VC5) (.slice WA5 (withCo y.ty c).cos.length WC5) (.slice LA y.fs.length LC) ⟨withCo y.ty c, y.fs⟩ := ⟨HTT7.out.more (by omega) (by omega), HTY7.out.2.more (Nat.le_refl _) (by omega)⟩
      exact (ht.keep fun j hj1 _ => (Below.heap_setCell _ _ _ _ (by dsimp only; omega)).trans ((Below.heap_setCell _ _ _ _ (by dsimp only; omega)).trans (Below.heap_setCell _ _ _ _ (by dsimp only; omega)))).more (by omega) (by simp [World.setCell])
    · have hsyf : syB y = false := by simpa using hsy
      have hlk : linkOk y c = false := by unfold linkOk; rw [hsyf, Bool.and_false]
      have HLK := Lib.hid hlk
      rw [hsyf]
      clear hok hsy hlk hsyf
      go_wp2
      refine bodyPost_ret (v := .tuple #[.agg #[.slice none 0 0, .slice none 0 0, .slice none 0 0], .bool false]) (by simp [results, Try.results21, go_sem, r0, r1, r2]) rfl ?_
      refine ⟨_, _, _, by rw [HLK.out], ((H8.out.setCell (by dsimp only; omega) _).setCell (by dsimp only; omega) _).setCell (by dsimp only; omega) _, ?_⟩
      rw [linkSy_no HLK.out]
      exact syAt_zero _ _ _
  · have hokf : withOk y.ty c = false := by simpa using hok
    have hlk : linkOk y c = false := by unfold linkOk; rw [hokf, Bool.false_and]
    have HLK := Lib.hid hlk
    rw [hokf]
    clear hok hlk hokf
    have R5 : Hid (Row w6 (w.heap.size + 2) 38 [.slice none 0 0, .slice none 0 0, .slice none 0 0]) := HRR6.out
    subst hw6
    go_wp2
    refine bodyPost_ret (v := .tuple #[.agg #[.slice none 0 0, .slice none 0 0, .slice none 0 0], .bool false]) (by simp [results, Try.results21, go_sem, r0, r1, r2]) rfl ?_
    refine ⟨_, _, _, by rw [HLK.out], ((H7.out.setCell (by dsimp only; omega) _).setCell (by dsimp only; omega) _).setCell (by dsimp only; omega) _, ?_⟩
    rw [linkSy_no HLK.out]
    exact syAt_zero _ _ _

set_option maxRecDepth 100000 in
set_option maxHeartbeats 1000000 in
theorem specAddCo_any (lo hi : Nat) (sv cv fv x x2 z : Value) (y : Sy) (c : Co) (w : World) (hv : SyAt w lo hi sv cv fv y) (hc : CoAt w lo hi x x2 z c) (hB : hi ≤ w.heap.size) (hbk : y.bulk ≤ 1048576) (hlen : c.map.length ≤ 1048576) :
    Calls Try.prog 7 #[.agg #[sv, cv, fv], .agg #[x, x2, z]] w fun e w' => ∃ v l q, e = .returned (.tuple #[.agg #[v, l, q], .bool (linkOk y c)]) ∧ Below w.heap.size w w' ∧ SyAt w' w.heap.size w'.heap.size v l q (linkSy y c) := by
  have HC0 := Lib.hid hc
  obtain ⟨A, cap, rfl, hl1, hm1, _⟩ := hv.1.1.form
  obtain ⟨rfl, rfl, _, _, hcz⟩ := hc
  obtain ⟨A2, cap2, rfl, _, _, _⟩ := hcz.form
  obtain ⟨B, bap, rfl, hl2, hm2, _⟩ := hv.1.2.form
  obtain ⟨Q, qap, rfl, hl3, hm3, _⟩ := hv.2.form
  have h3 : Below w.heap.size w (((w.alloc (.cells #[.slice A y.ty.sizes.length cap, .slice B y.ty.cos.length bap, .slice Q y.fs.length qap] 38)).alloc (.cells #[.int .i64 c.src, .int .i64 c.dst, .slice A2 c.map.length cap2] 42)).alloc (.cells #[.slice none 0 0, .slice none 0 0, .slice none 0 0] 38)) := by go_grown
  have hv3 := Lib.hid (hv.below h3 hB)
  have hc3 := Lib.hid (HC0.out.keep fun k _ hk => h3.block k (by omega))
  have H3 := Lib.hid h3
  have Hb := Lib.hid (linkSy_bulk y c)
  clear hv h3 hcz HC0
  go_enter Try.func7, Try.ntmps7
  go_wp2_with fail
  refine (specRawAddCo_any lo hi _ _ _ _ _ _ y c _ hv3.out hc3.out (by simp; omega) hbk hlen).mono ?_
  rintro e w1 ⟨v, l, q, rfl, hb1, hty1⟩
  have H1 := Lib.hid (H3.out.trans (hb1.mono (by simp; omega)))
  obtain ⟨VA, VC, rfl, _, _, _⟩ := hty1.1.1.form
  obtain ⟨LA, LC, rfl, _, _, _⟩ := hty1.1.2.form
  obtain ⟨QA, QC, rfl, _, _, _⟩ := hty1.2.form
  have RR : Row w1 (w.heap.size + 1 + 1) 38 [.slice none 0 0, .slice none 0 0, .slice none 0 0] := by
    have h := Row.new ((w.alloc (.cells #[.slice A y.ty.sizes.length cap, .slice B y.ty.cos.length bap, .slice Q y.fs.length qap] 38)).alloc (.cells #[.int .i64 c.src, .int .i64 c.dst, .slice A2 c.map.length cap2] 42)) 38 [.slice none 0 0, .slice none 0 0, .slice none 0 0]
    rw [World.size_alloc, World.size_alloc] at h
    exact h.below hb1 (by simp)
  have hs1 : w.heap.size + 1 + 1 + 1 ≤ w1.heap.size := by have := hb1.size; simpa using this
  simp only [World.size_alloc] at hty1
  have Hty1 := Lib.hid hty1
  have RR1 := Lib.hid RR
  clear hb1 hty1 RR
  go_wp2_with fail
  have hbx : Below w1.heap.size w1 (w1.alloc (.cells #[.slice VA (linkSy y c).ty.sizes.length VC, .slice LA (linkSy y c).ty.cos.length LC, .slice QA (linkSy y c).fs.length QC] 38)) := (Below.refl _ _).alloc (Nat.le_refl _) _
  refine (ownSys_any _ _ _ _ _ (linkSy y c) _ (Hty1.out.below hbx (Nat.le_refl _)) (by simp) (Nat.le_trans Hb.out (by omega))).mono ?_
  rintro e w2 ⟨v', l', q', rfl, hb2, hty2⟩
  obtain ⟨VA2, VC2, rfl, _, _, _⟩ := hty2.1.1.form
  obtain ⟨LA2, LC2, rfl, _, _, _⟩ := hty2.1.2.form
  obtain ⟨QA2, QC2, rfl, _, _, _⟩ := hty2.2.form
  have hb12 := hbx.trans (hb2.mono (by simp))
  have hs2 := hb12.size
  have RR2 := Lib.hid (RR1.out.below hb12 (by omega))
  have H2 := Lib.hid (H1.out.trans (hb12.mono (by omega)))
  have Hty2 := Lib.hid (hty2.more (lo' := w.heap.size + 1 + 1 + 1) (hi' := w2.heap.size) (by simp; omega) (Nat.le_refl _))
  have r0 := RR2.out.cell 0
  have r1 := RR2.out.cell 1
  have r2 := RR2.out.cell 2
  have rf0 := RR2.out.frozen 0
  have rf1 := RR2.out.frozen 1
  have rf2 := RR2.out.frozen 2
  simp only [List.getElem?_cons_zero, List.getElem?_cons_succ] at r0 r1 r2
  clear hb2 hty2 hbx hb12
  go_wp2
  refine bodyPost_ret (v := .tuple #[.agg #[.slice VA2 (linkSy y c).ty.sizes.length VC2, .slice LA2 (linkSy y c).ty.cos.length LC2, .slice QA2 (linkSy y c).fs.length QC2], .bool (linkOk y c)]) (by simp [results, Try.results7, go_sem, r0, r1, r2]) rfl ?_
  exact ⟨_, _, _, rfl, ((H2.out.setCell (by dsimp only; omega) _).setCell (by dsimp only; omega) _).setCell (by dsimp only; omega) _, (Hty2.out.keep fun k hk1 _ => (Below.heap_setCell _ _ _ _ (by dsimp only; omega)).trans ((Below.heap_setCell _ _ _ _ (by dsimp only; omega)).trans (Below.heap_setCell _ _ _ _ (by dsimp only; omega)))).more (by omega) (by simp [World.setCell])⟩
end Go.Proofs.Ytplncocfbajefaa

