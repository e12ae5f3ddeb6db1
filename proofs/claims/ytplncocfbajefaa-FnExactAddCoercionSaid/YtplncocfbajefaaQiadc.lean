/-
  The contracts of the program's AddCoercion and of what it calls.
-/
import Derived.Test.YtplncocfbajefaaQosy
import Derived.Test.YtplncocfbajefaaQiwith
import Derived.Test.YtplncocfbajefaaA2
import Derived.Test.YtplncocfbajefaaD12
import Derived.Test.YtplncocfbajefaaD11
namespace Go.Proofs.Ytplncocfbajefaa
open Go.RowKit
attribute [local go_sem] Oper.semAt_some

/-- A system with a coercion more. -/
noncomputable def linkOk (y : Sy) (c : Co) : Bool := withOk y.ty c && syB y
noncomputable def linkSy (y : Sy) (c : Co) : Sy := if linkOk y c = true then ⟨withCo y.ty c, y.fs⟩ else ⟨⟨[], []⟩, []⟩
theorem linkSy_yes {y : Sy} {c : Co} (h : linkOk y c = true) : linkSy y c = ⟨withCo y.ty c, y.fs⟩ := by unfold linkSy; exact if_pos h
theorem linkSy_no {y : Sy} {c : Co} (h : linkOk y c = false) : linkSy y c = ⟨⟨[], []⟩, []⟩ := by unfold linkSy; exact if_neg (by rw [h]; exact Bool.false_ne_true)
theorem linkSy_bulk (y : Sy) (c : Co) : (linkSy y c).bulk ≤ 250 := by
  cases h : linkOk y c with
  | true =>
    rw [linkSy_yes h]
    have h1 := withCo_bulk y.ty c
    have h2 : syB y = true := by unfold linkOk at h; simp only [Bool.and_eq_true] at h; exact h.2
    have h3 := syB_bulk h2
    unfold Sy.bulk at h3 ⊢
    show (withCo y.ty c).bulk + (y.fs.length + fusLen y.fs y.fs.length) ≤ 250
    omega
  | false => rw [linkSy_no h]; simp [Sy.bulk, Ty.bulk, mapsLen, fusLen]

theorem SyOwned.swap {w1 w2 : World} {base base2 : Nat} {v l v' l' q : Value} {t : Ty} {y : Sy} (ht : TyOwned w1 base v l t) (hs : SyOwned w2 base2 v' l' q y) (hb : base ≤ w1.heap.size) (h2 : w1.heap.size ≤ base2) (hk : ∀ g, base ≤ g → g < w1.heap.size → w2.heap[g]? = w1.heap[g]?) : SyOwned w2 base v l q ⟨t, y.fs⟩ := by
  obtain ⟨b, u, b2, h0, h0', _, _, h3, h4, h5⟩ := hs
  exact ⟨base, w1, b2, Nat.le_refl _, hb, ht, hk, by omega, h4, h5⟩

set_option maxRecDepth 100000 in
set_option maxHeartbeats 4000000 in
theorem addedOf_any (lo hi : Nat) (sv cv fv x x2 z : Value) (y : Sy) (c : Co) (w : World) (hv : SyAt w lo hi sv cv fv y) (hc : CoAt w lo hi x x2 z c) (hB : hi ≤ w.heap.size) (hbk : y.bulk ≤ 1048576) (hlen : c.map.length ≤ 1048576) :
    Calls Try.prog 26 #[.agg #[x, x2, z], .agg #[sv, cv, fv]] w fun e w' => ∃ v l q, e = .returned (.tuple #[.agg #[v, l, q], .bool (linkOk y c)]) ∧ Below w.heap.size w w' ∧ SyOwned w' w.heap.size v l q (linkSy y c) := by
  have HC0 := Lib.hid hc
  obtain ⟨A, cap, rfl, hl1, hm1, _⟩ := hv.1.1.form
  obtain ⟨B, bap, rfl, hl2, hm2, _⟩ := hv.1.2.form
  obtain ⟨Q, qap, rfl, hl3, hm3, _⟩ := hv.2.form
  obtain ⟨rfl, rfl, _, _, hcz⟩ := hc
  obtain ⟨A2, cap2, rfl, _, _, _⟩ := hcz.form
  have hbt : y.ty.bulk ≤ 1048576 := by unfold Sy.bulk at hbk; omega
  obtain ⟨W1, hW1⟩ : ∃ u, u = ((w.alloc (.cells #[.int .i64 c.src, .int .i64 c.dst, .slice A2 c.map.length cap2] 59)).alloc (.cells #[.slice A y.ty.sizes.length cap, .slice B y.ty.cos.length bap, .slice Q y.fs.length qap] 38)).alloc (.cells #[.slice none 0 0, .slice none 0 0, .slice none 0 0] 38) := ⟨_, rfl⟩
  have h3 : Below w.heap.size w W1 := by
    rw [hW1]
    exact (((Below.refl _ _).alloc (Nat.le_refl _) _).alloc (by simp) _).alloc (by simp; omega) _
  have hs1 : W1.heap.size = w.heap.size + 3 := by rw [hW1]; simp
  have hri : Row W1 w.heap.size 59 [.int .i64 c.src, .int .i64 c.dst, .slice A2 c.map.length cap2] := by rw [hW1]; exact ((Row.new w 59 [.int .i64 c.src, .int .i64 c.dst, .slice A2 c.map.length cap2]).alloc _).alloc _
  have hrs : Row W1 (w.heap.size + 1) 38 [.slice A y.ty.sizes.length cap, .slice B y.ty.cos.length bap, .slice Q y.fs.length qap] := by
    rw [hW1]
    have h := Row.new (w.alloc (.cells #[.int .i64 c.src, .int .i64 c.dst, .slice A2 c.map.length cap2] 59)) 38 [.slice A y.ty.sizes.length cap, .slice B y.ty.cos.length bap, .slice Q y.fs.length qap]
    rw [World.size_alloc] at h
    exact h.alloc _
  have hrr : Row W1 (w.heap.size + 2) 38 [.slice none 0 0, .slice none 0 0, .slice none 0 0] := by
    rw [hW1]
    have h := Row.new ((w.alloc (.cells #[.int .i64 c.src, .int .i64 c.dst, .slice A2 c.map.length cap2] 59)).alloc (.cells #[.slice A y.ty.sizes.length cap, .slice B y.ty.cos.length bap, .slice Q y.fs.length qap] 38)) 38 [.slice none 0 0, .slice none 0 0, .slice none 0 0]
    rw [World.size_alloc, World.size_alloc] at h
    exact h
  have HV1 := Lib.hid (hv.below h3 hB)
  have HC1 := Lib.hid (HC0.out.keep fun k _ hk => h3.block k (by omega))
  have H1 := Lib.hid h3
  have HRS := Lib.hid hrs
  have HRR := Lib.hid hrr
  have hs1' : w.heap.size + 3 ≤ W1.heap.size := by omega
  clear hv h3 hri hrs hrr hs1 hcz HC0
  go_enter Try.func26, Try.ntmps26
  go_wp2_with fail
  rw [← hW1]
  refine (implWith_any lo hi _ _ _ _ _ y.ty c _ HV1.out.1 HC1.out (by omega) hbt hlen).mono ?_
  rintro e w1 ⟨v0, l0, rfl, hb1, hty1⟩
  have hsw1 : w.heap.size + 3 ≤ w1.heap.size := by have := hb1.size; omega
  obtain ⟨C, k1, k2, k3, k4⟩ := id hty1
  obtain ⟨VA, VC, rfl⟩ := owns_form k2
  have hlf : ∃ A B, l0 = .slice A (withCo y.ty c).cos.length B := by
    obtain ⟨_, _, _, h, _⟩ := k4
    exact owns_form h
  obtain ⟨WA, WC, rfl⟩ := hlf
  have HTY := Lib.hid hty1
  have HRS1 := Lib.hid (HRS.out.below hb1 HRS.out.lt)
  have HRR1 := Lib.hid (HRR.out.below hb1 HRR.out.lt)
  have HV2 := Lib.hid (HV1.out.below hb1 (by omega))
  have H2 := Lib.hid (H1.out.trans (hb1.mono (by omega)))
  have hsW : W1.heap.size ≤ w1.heap.size := hb1.size
  clear hb1 hW1 HRS HRR HV1 H1 HC1 hty1 k1 k2 k3 k4
  obtain ⟨w2, hw2⟩ : ∃ u, u = w1.alloc (.cells #[.slice VA (withCo y.ty c).sizes.length VC, .slice WA (withCo y.ty c).cos.length WC] 35) := ⟨_, rfl⟩
  have hb12 : Below w1.heap.size w1 w2 := by rw [hw2]; exact (Below.refl _ _).alloc (Nat.le_refl _) _
  have hs2 : w1.heap.size < w2.heap.size := by rw [hw2]; simp
  have HRT2 : Hid (Row w2 w1.heap.size 35 [.slice VA (withCo y.ty c).sizes.length VC, .slice WA (withCo y.ty c).cos.length WC]) := by rw [hw2]; exact Row.new w1 35 _
  have HRS2 := Lib.hid (HRS1.out.below hb12 HRS1.out.lt)
  have HRR2 := Lib.hid (HRR1.out.below hb12 HRR1.out.lt)
  have HV3 := Lib.hid (HV2.out.below hb12 (by omega))
  have H3 := Lib.hid (H2.out.trans (hb12.mono (by omega)))
  have HB12 := Lib.hid hb12
  have s0 := HRS2.out.cell 0
  have s1 := HRS2.out.cell 1
  have s2 := HRS2.out.cell 2
  have r0 := HRR2.out.cell 0
  have r1 := HRR2.out.cell 1
  have r2 := HRR2.out.cell 2
  have rf0 := HRR2.out.frozen 0
  have rf1 := HRR2.out.frozen 1
  have rf2 := HRR2.out.frozen 2
  simp only [List.getElem?_cons_zero, List.getElem?_cons_succ] at s0 s1 s2 r0 r1 r2
  rw [hw2] at s0 s1 s2 r0 r1 r2 rf0 rf1 rf2
  clear hb12 HRS1 HRR1 HV2 H2
  by_cases hok : withOk y.ty c = true
  · rw [hok]
    go_wp2_with fail
    rw [← hw2]
    refine (implSysValid_any lo hi _ _ _ y _ HV3.out (by omega)).mono ?_
    rintro e w3 ⟨rfl, hb3⟩
    have HRT3 := Lib.hid (HRT2.out.below hb3 HRT2.out.lt)
    have HRS3 := Lib.hid (HRS2.out.below hb3 HRS2.out.lt)
    have HRR3 := Lib.hid (HRR2.out.below hb3 HRR2.out.lt)
    have HV4 := Lib.hid (HV3.out.below hb3 (by omega))
    have H4 := Lib.hid (H3.out.trans (hb3.mono (by omega)))
    have HB13 := Lib.hid (HB12.out.trans (hb3.mono (by omega)))
    have hs3 := hb3.size
    clear hb3 HRT2 HRS2 HRR2 HV3 H3 HB12 s0 s1 s2 r0 r1 r2 rf0 rf1 rf2 hw2
    have s0 := HRS3.out.cell 0
    have s1 := HRS3.out.cell 1
    have s2 := HRS3.out.cell 2
    have r0 := HRR3.out.cell 0
    have r1 := HRR3.out.cell 1
    have r2 := HRR3.out.cell 2
    have rf0 := HRR3.out.frozen 0
    have rf1 := HRR3.out.frozen 1
    have rf2 := HRR3.out.frozen 2
    simp only [List.getElem?_cons_zero, List.getElem?_cons_succ] at s0 s1 s2 r0 r1 r2
    by_cases hsy : syB y = true
    · have hlk : linkOk y c = true := by unfold linkOk; rw [hok, hsy]; rfl
      have HLK := Lib.hid hlk
      rw [hsy]
      clear hok hsy hlk
      go_wp2_with fail
      refine (ownSystem_any lo hi _ _ _ y _ HV4.out (by omega) hbk).mono ?_
      rintro e w4 ⟨v, l, q, rfl, hb4, hown⟩
      have HSW := Lib.hid (SyOwned.swap HTY.out hown (by omega) (by omega) (fun g h1 h2 => (hb4.block g (by omega)).trans (HB13.out.block g h2)))
      obtain ⟨bb, u, bq, hbb, hbu, htys, hkeep, hubq, hbqw, xs, m, mv, how, hmo⟩ := id hown
      have hvf : ∃ A B, v = .slice A y.ty.sizes.length B := by
        obtain ⟨C, _, h, _⟩ := htys
        exact owns_form h
      have hlf : ∃ A B, l = .slice A y.ty.cos.length B := by
        obtain ⟨C, _, _, _, _, _, _, h, _⟩ := htys
        exact owns_form h
      obtain ⟨VA3, VC3, rfl⟩ := hvf
      obtain ⟨WA3, WC3, rfl⟩ := hlf
      have hqf : ∃ LA LC, q = .slice LA y.fs.length LC := owns_form how
      obtain ⟨LA, LC, rfl⟩ := hqf
      clear htys hkeep how hmo hbb hbu hubq hbqw
      have hs4 := hb4.size
      have HRT5 := Lib.hid (HRT3.out.below hb4 HRT3.out.lt)
      have HRR5 := Lib.hid (HRR3.out.below hb4 HRR3.out.lt)
      have H5 := Lib.hid (H4.out.trans (hb4.mono (by omega)))
      clear hb4 HRT3 HRR3 HRS3 HV4 H4 HB13 s0 s1 s2 r0 r1 r2 rf0 rf1 rf2 hown
      have t0 := HRT5.out.cell 0
      have t1 := HRT5.out.cell 1
      have r0 := HRR5.out.cell 0
      have r1 := HRR5.out.cell 1
      have r2 := HRR5.out.cell 2
      have rf0 := HRR5.out.frozen 0
      have rf1 := HRR5.out.frozen 1
      have rf2 := HRR5.out.frozen 2
      simp only [List.getElem?_cons_zero, List.getElem?_cons_succ] at t0 t1 r0 r1 r2
      have hlt1 : w1.heap.size < w4.heap.size := by omega
      have hlt2 : w.heap.size + 2 < w4.heap.size := by omega
      have hne : w.heap.size + 2 ≠ w4.heap.size := by omega
      go_wp2
      refine bodyPost_ret (v := .tuple #[.agg #[.slice VA (withCo y.ty c).sizes.length VC, .slice WA (withCo y.ty c).cos.length WC, .slice LA y.fs.length LC], .bool true]) (by simp [results, Try.results26, go_sem, r0, r1, r2, hlt2]) rfl ?_
      refine ⟨_, _, _, by rw [HLK.out], (((H5.out.setCell (by dsimp only; omega) _).setCell (by dsimp only; omega) _).setCell (by dsimp only; omega) _).alloc (by simp [World.setCell]; omega) _, ?_⟩
      rw [linkSy_yes HLK.out]
      refine SyOwned.lower (base := W1.heap.size) (HSW.out.keep (by simp [World.setCell]) fun g hg hgl => ?_) (by omega)
      exact (Below.heap_alloc _ _ g (by simp [World.setCell]; omega)).trans ((Below.heap_setCell _ _ _ _ (by dsimp only; omega)).trans ((Below.heap_setCell _ _ _ _ (by dsimp only; omega)).trans (Below.heap_setCell _ _ _ _ (by dsimp only; omega))))
    · have hsyf : syB y = false := by simpa using hsy
      have hlk : linkOk y c = false := by unfold linkOk; rw [hsyf, Bool.and_false]
      have HLK := Lib.hid hlk
      rw [hsyf]
      clear hok hsy hlk hsyf
      go_wp2
      refine bodyPost_ret (v := .tuple #[.agg #[.slice none 0 0, .slice none 0 0, .slice none 0 0], .bool false]) (by simp [results, Try.results26, go_sem, r0, r1, r2]) rfl ?_
      refine ⟨_, _, _, by rw [HLK.out], ((H4.out.setCell (by dsimp only; omega) _).setCell (by dsimp only; omega) _).setCell (by dsimp only; omega) _, ?_⟩
      rw [linkSy_no HLK.out]
      exact SyOwned.none_ _ _ (by simp [World.setCell]; omega)
  · have hokf : withOk y.ty c = false := by simpa using hok
    have hlk : linkOk y c = false := by unfold linkOk; rw [hokf, Bool.false_and]
    have HLK := Lib.hid hlk
    rw [hokf]
    clear hok hlk hokf
    subst hw2
    go_wp2
    refine bodyPost_ret (v := .tuple #[.agg #[.slice none 0 0, .slice none 0 0, .slice none 0 0], .bool false]) (by simp [results, Try.results26, go_sem, r0, r1, r2]) rfl ?_
    refine ⟨_, _, _, by rw [HLK.out], ((H3.out.setCell (by dsimp only; omega) _).setCell (by dsimp only; omega) _).setCell (by dsimp only; omega) _, ?_⟩
    rw [linkSy_no HLK.out]
    exact SyOwned.none_ _ _ (by simp [World.setCell]; omega)

set_option maxRecDepth 100000 in
set_option maxHeartbeats 2000000 in
theorem implAddCo_any (lo hi : Nat) (sv cv fv x x2 z : Value) (y : Sy) (c : Co) (w : World) (hv : SyAt w lo hi sv cv fv y) (hc : CoAt w lo hi x x2 z c) (hB : hi ≤ w.heap.size) (hbk : y.bulk ≤ 1048576) (hlen : c.map.length ≤ 1048576) :
    Calls Try.prog 10 #[.agg #[sv, cv, fv], .agg #[x, x2, z]] w fun e w' => ∃ v l q, e = .returned (.tuple #[.agg #[v, l, q], .bool (linkOk y c)]) ∧ Below w.heap.size w w' ∧ SyOwned w' w.heap.size v l q (linkSy y c) := by
  have HC0 := Lib.hid hc
  obtain ⟨A, cap, rfl, hl1, hm1, _⟩ := hv.1.1.form
  obtain ⟨B, bap, rfl, hl2, hm2, _⟩ := hv.1.2.form
  obtain ⟨Q, qap, rfl, hl3, hm3, _⟩ := hv.2.form
  obtain ⟨rfl, rfl, _, _, hcz⟩ := hc
  obtain ⟨A2, cap2, rfl, _, _, _⟩ := hcz.form
  obtain ⟨W1, hW1⟩ : ∃ u, u = ((w.alloc (.cells #[.slice A y.ty.sizes.length cap, .slice B y.ty.cos.length bap, .slice Q y.fs.length qap] 38)).alloc (.cells #[.int .i64 c.src, .int .i64 c.dst, .slice A2 c.map.length cap2] 42)).alloc (.cells #[.slice none 0 0, .slice none 0 0, .slice none 0 0] 38) := ⟨_, rfl⟩
  have h3 : Below w.heap.size w W1 := by
    rw [hW1]
    exact (((Below.refl _ _).alloc (Nat.le_refl _) _).alloc (by simp) _).alloc (by simp; omega) _
  have hs1 : W1.heap.size = w.heap.size + 3 := by rw [hW1]; simp
  have hrr : Row W1 (w.heap.size + 2) 38 [.slice none 0 0, .slice none 0 0, .slice none 0 0] := by
    rw [hW1]
    have h := Row.new ((w.alloc (.cells #[.slice A y.ty.sizes.length cap, .slice B y.ty.cos.length bap, .slice Q y.fs.length qap] 38)).alloc (.cells #[.int .i64 c.src, .int .i64 c.dst, .slice A2 c.map.length cap2] 42)) 38 [.slice none 0 0, .slice none 0 0, .slice none 0 0]
    rw [World.size_alloc, World.size_alloc] at h
    exact h
  have HV1 := Lib.hid (hv.below h3 hB)
  have HC1 := Lib.hid (HC0.out.keep fun k _ hk => h3.block k (by omega))
  have H1 := Lib.hid h3
  have HRR := Lib.hid hrr
  have hs1' : w.heap.size + 3 ≤ W1.heap.size := by omega
  clear hv h3 hrr hs1 hcz HC0
  go_enter Try.func10, Try.ntmps10
  go_wp2_with fail
  rw [← hW1]
  refine (addedOf_any lo hi _ _ _ _ _ _ y c _ HV1.out HC1.out (by omega) hbk hlen).mono ?_
  rintro e w1 ⟨v, l, q, rfl, hb1, hown⟩
  have HR := Lib.hid (HRR.out.below hb1 HRR.out.lt)
  have hs1 : w.heap.size + 3 ≤ w1.heap.size := by have := hb1.size; omega
  have H1 := Lib.hid (H1.out.trans (hb1.mono (by omega)))
  have Hown := Lib.hid hown
  obtain ⟨bb, u, bq, hbb, hbu, htys, hkeep, hubq, hbqw, xs, m, mv, how, hmo⟩ := hown
  have hvf : ∃ A B, v = .slice A (linkSy y c).ty.sizes.length B := by
    obtain ⟨C, _, h, _⟩ := htys
    exact owns_form h
  have hlf : ∃ A B, l = .slice A (linkSy y c).ty.cos.length B := by
    obtain ⟨C, _, _, _, _, _, _, h, _⟩ := htys
    exact owns_form h
  obtain ⟨VA, VC, rfl⟩ := hvf
  obtain ⟨WA, WC, rfl⟩ := hlf
  have hqf : ∃ LA LC, q = .slice LA (linkSy y c).fs.length LC := owns_form how
  obtain ⟨LA, LC, rfl⟩ := hqf
  have r0 := HR.out.cell 0
  have r1 := HR.out.cell 1
  have r2 := HR.out.cell 2
  have rf0 := HR.out.frozen 0
  have rf1 := HR.out.frozen 1
  have rf2 := HR.out.frozen 2
  simp only [List.getElem?_cons_zero, List.getElem?_cons_succ] at r0 r1 r2
  clear hb1 htys hkeep how hmo hbb hbu hubq hbqw hW1
  go_wp2
  refine bodyPost_ret (v := .tuple #[.agg #[.slice VA (linkSy y c).ty.sizes.length VC, .slice WA (linkSy y c).ty.cos.length WC, .slice LA (linkSy y c).fs.length LC], .bool (linkOk y c)]) (by simp [results, Try.results10, go_sem, r0, r1, r2]) rfl ?_
  refine ⟨_, _, _, rfl, ((H1.out.setCell (by dsimp only; omega) _).setCell (by dsimp only; omega) _).setCell (by dsimp only; omega) _, ?_⟩
  refine SyOwned.lower (base := W1.heap.size) (Hown.out.keep (by simp [World.setCell]) fun g hg _ => ?_) (by omega)
  exact (Below.heap_setCell _ _ _ _ (by dsimp only; omega)).trans ((Below.heap_setCell _ _ _ _ (by dsimp only; omega)).trans (Below.heap_setCell _ _ _ _ (by dsimp only; omega)))
end Go.Proofs.Ytplncocfbajefaa

