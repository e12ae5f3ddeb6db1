/-
  The contracts of l4Has, hasFunctions and l4Fits.
-/
import Derived.Test.YtilcahidmoaakaaSsv
import Derived.Test.YtilcahidmoaakaaIsv
import Derived.Test.YtilcahidmoaakaaScanl
namespace Go.Proofs.Ytilcahidmoaakaa
open Go.RowKit
attribute [local go_sem] Oper.semAt_some

/-- A valid system has a function. -/
noncomputable def hasFB (y : Sy) (i : Int) : Bool := syB y && ixB i y.fs.length
theorem hasFB_of {y : Sy} {i : Int} (h : hasFB y i = true) : SyOk y ∧ 0 ≤ i ∧ i < y.fs.length ∧ i.toNat < y.fs.length := by
  simp only [hasFB, Bool.and_eq_true, ixB, decide_eq_true_eq] at h
  exact ⟨syB_iff.1 h.1, h.2.1, h.2.2, by omega⟩

set_option maxRecDepth 100000 in
set_option maxHeartbeats 2000000 in
theorem l4Has_any (lo hi : Nat) (sv cv fv : Value) (y : Sy) (i : Int) (w : World) (hv : SyAt w lo hi sv cv fv y) (hB : hi ≤ w.heap.size) :
    Calls Try.prog 86 #[.agg #[sv, cv, fv], .int .i64 i] w fun e w' => e = .returned (.bool (hasFB y i)) ∧ Below w.heap.size w w' := by
  obtain ⟨A, cap, rfl, hl1, hm1, hi1⟩ := hv.1.1.form
  obtain ⟨B, bap, rfl, hl2, hm2, hc1⟩ := hv.1.2.form
  obtain ⟨F, fap, rfl, hl3, hm3, hf1⟩ := hv.2.form
  unfold maxLen at hm3
  have h3 : Below w.heap.size w (w.alloc (.cells #[.slice A y.ty.sizes.length cap, .slice B y.ty.cos.length bap, .slice F y.fs.length fap] 36)) := by go_grown
  have hwr := wrapIn ((y.fs.length : Int) - 1) (by omega) (by omega)
  have H1 := Lib.hid (Below.refl (w.heap.size + 1) (w.alloc (.cells #[.slice A y.ty.sizes.length cap, .slice B y.ty.cos.length bap, .slice F y.fs.length fap] 36)))
  clear hi1 hc1 hf1
  go_enter Try.func86, Try.ntmps86
  go_wp2_with fail
  refine (specSysValid_any lo hi _ _ _ y _ (hv.below h3 hB) (by simp; omega)).mono ?_
  rintro e w1 ⟨rfl, hb1⟩
  have H2 := Lib.hid (H1.out.trans (hb1.mono (by simp)))
  obtain ⟨q0, q1, q2, hl, hB1⟩ := box3 H2.out
  have HB1 := Lib.hid hB1
  clear hb1 h3 hB1 H1
  by_cases hs : syB y = true
  · have H : Hid (hasFB y i = ixB i y.fs.length) := by show _ = _; unfold hasFB; rw [hs, Bool.true_and]
    rw [hs]
    clear hs
    go_wp2_with (go_at_call 144; refine (l1In_any _ _ _ _).mono ?_; rintro e w' ⟨rfl, rfl⟩)
    go_ret
    exact ⟨ret_bool (by rw [H.out, inB_ix]), HB1.out⟩
  · have hsf : syB y = false := by simpa using hs
    have H : Hid (hasFB y i = false) := by show _ = _; unfold hasFB; rw [hsf, Bool.false_and]
    rw [hsf]
    clear hs
    go_wp2
    go_ret
    exact ⟨ret_bool H.out.symm, HB1.out⟩

set_option maxRecDepth 100000 in
set_option maxHeartbeats 2000000 in
theorem hasFunctions_any (lo hi lo' hi' : Nat) (sv cv fv v : Value) (y : Sy) (zs : List Int) (w : World) (hv : SyAt w lo hi sv cv fv y) (hz : IntsAt w lo' hi' v zs) (hB : hi ≤ w.heap.size) (hB' : hi' ≤ w.heap.size) :
    Calls Try.prog 89 #[.agg #[sv, cv, fv], v] w fun e w' => e = .returned (.bool (syB y && allIx zs y.fs.length)) ∧ Below w.heap.size w w' := by
  obtain ⟨A, cap, rfl, hl1, hm1, hi1⟩ := hv.1.1.form
  obtain ⟨B, bap, rfl, hl2, hm2, hc1⟩ := hv.1.2.form
  obtain ⟨F, fap, rfl, hl3, hm3, hf1⟩ := hv.2.form
  obtain ⟨Z, zap, rfl, hl4, hm4, hz1⟩ := hz.form
  unfold maxLen at hm3
  have h3 : Below w.heap.size w (w.alloc (.cells #[.slice A y.ty.sizes.length cap, .slice B y.ty.cos.length bap, .slice F y.fs.length fap] 36)) := by go_grown
  have H1 := Lib.hid (Below.refl (w.heap.size + 1) (w.alloc (.cells #[.slice A y.ty.sizes.length cap, .slice B y.ty.cos.length bap, .slice F y.fs.length fap] 36)))
  have Hz := Lib.hid hz1
  clear hi1 hc1 hf1 hz hz1
  go_enter Try.func89, Try.ntmps89
  go_wp2_with fail
  refine (implSysValid_any lo hi _ _ _ y _ (hv.below h3 hB) (by simp; omega)).mono ?_
  rintro e w1 ⟨rfl, hb1⟩
  have H2 := Lib.hid (H1.out.trans (hb1.mono (by simp)))
  obtain ⟨q0, q1, q2, hl, hB1⟩ := box3 H2.out
  have HB1 := Lib.hid hB1
  clear hb1 h3 hB1 H1
  by_cases hs : syB y = true
  · have H : Hid ((syB y && allIx zs y.fs.length) = allIx zs y.fs.length) := by show _ = _; rw [hs, Bool.true_and]
    rw [hs]
    clear hs
    go_wp2_with (go_at_call 149; refine (areIndices_any lo' hi' _ zs _ _ (Hz.out.below HB1.out hB')).mono ?_; rintro e w' ⟨rfl, rfl⟩)
    go_ret
    exact ⟨ret_bool H.out.symm, HB1.out⟩
  · have hsf : syB y = false := by simpa using hs
    rw [hsf]
    clear hs
    go_wp2
    go_ret
    exact ⟨ret_bool (by rw [hsf, Bool.false_and]), HB1.out⟩

/-- Types can be coerced to others, one by one. -/
def FitsTo (t : Ty) (xs ys : List Int) : Prop := xs.length = ys.length ∧ ∀ j, j < xs.length → canB t (xs.getD j 0) (ys.getD j 0) = true
open Classical in
noncomputable def fitsToB (t : Ty) (xs ys : List Int) : Bool := decide (FitsTo t xs ys)
theorem fitsToB_yes {t : Ty} {xs ys : List Int} (h : FitsTo t xs ys) : fitsToB t xs ys = true := by unfold fitsToB; exact @decide_eq_true _ (Classical.propDecidable _) h
theorem fitsToB_no {t : Ty} {xs ys : List Int} (h : ¬ FitsTo t xs ys) : fitsToB t xs ys = false := by unfold fitsToB; exact @decide_eq_false _ (Classical.propDecidable _) h
theorem fitsToB_iff {t : Ty} {xs ys : List Int} : fitsToB t xs ys = true ↔ FitsTo t xs ys := by unfold fitsToB; exact @decide_eq_true_iff _ (Classical.propDecidable _)
theorem typesB_mk {t : Ty} {a b : Int} (h : tyOk t = true) (ha : 0 ≤ a ∧ a < t.sizes.length) (hb : 0 ≤ b ∧ b < t.sizes.length) : typesB t a b = true := by
  simp [typesB, h, ixB, ha, hb]

set_option maxRecDepth 100000 in
set_option maxHeartbeats 4000000 in
theorem l4Fits_any (lo hi lo1 hi1 lo2 hi2 : Nat) (sv cv xv yv : Value) (t : Ty) (xs ys : List Int) (w : World) (hv : TyAt w lo hi sv cv t) (hx : IntsAt w lo1 hi1 xv xs) (hy : IntsAt w lo2 hi2 yv ys) (hB : hi ≤ w.heap.size) (hB1 : hi1 ≤ w.heap.size) (hB2 : hi2 ≤ w.heap.size) (hok : tyOk t = true)
    (hxs : ∀ j, ∀ (hj : j < xs.length), 0 ≤ xs[j] ∧ xs[j] < t.sizes.length) (hys : ∀ j, ∀ (hj : j < ys.length), 0 ≤ ys[j] ∧ ys[j] < t.sizes.length) :
    Calls Try.prog 94 #[.agg #[sv, cv], xv, yv] w fun e w' => e = .returned (.bool (fitsToB t xs ys)) ∧ Below w.heap.size w w' := by
  obtain ⟨A, cap, rfl, hl1, hm1, hi0⟩ := hv.1.form
  obtain ⟨B, bap, rfl, hl2, hm2, hc0⟩ := hv.2.form
  obtain ⟨X, xap, rfl, hlx, hmx, hx1⟩ := hx.form
  obtain ⟨Y, yap, rfl, hly, hmy, hy1⟩ := hy.form
  unfold maxLen at hmx hmy
  have hT : TyAt w lo hi (.slice A t.sizes.length cap) (.slice B t.cos.length bap) t := ⟨hi0, hc0⟩
  have h3 : Below w.heap.size w (w.alloc (.cells #[.slice A t.sizes.length cap, .slice B t.cos.length bap] 33)) := by go_grown
  have HT := Lib.hid hT
  have Hx := Lib.hid hx1
  have Hy := Lib.hid hy1
  have Hxs := Lib.hid hxs
  have Hys := Lib.hid hys
  clear hv hx hy hi0 hc0 hx1 hy1 hT hxs hys
  go_enter Try.func94, Try.ntmps94
  go_wp2
  · rename_i hmin
    obtain ⟨wb, hwb⟩ : ∃ wb, wb = w.alloc (.cells #[.slice A t.sizes.length cap, .slice B t.cos.length bap] 33) := ⟨_, rfl⟩
    have hrow : Row wb w.heap.size 33 [.slice A t.sizes.length cap, .slice B t.cos.length bap] := by rw [hwb]; exact Row.new _ _ _
    have hbb : Below w.heap.size w wb := by rw [hwb]; exact h3
    have HTb := Lib.hid (HT.out.below hbb hB)
    have Hxb := Lib.hid (Hx.out.below hbb hB1)
    have Hyb := Lib.hid (Hy.out.below hbb hB2)
    have Hrow := Lib.hid hrow
    have Hbb := Lib.hid hbb
    have Hsz := Lib.hid hbb.size
    rw [← hwb]
    clear h3 hrow hbb hwb
    go_loopw [13] (fun i wr => ∃ k : Nat, k ≤ ys.length ∧ i = .int .i64 k ∧ Hid (Below wb.heap.size wb wr) ∧ Hid (∀ j, j < k → canB t (xs.getD j 0) (ys.getD j 0) = true)) (fun i _ => ys.length - (intOf i).toNat)
    case atStart => exact ⟨0, Nat.zero_le _, rfl, Below.refl _ _, fun j hj => absurd hj (by omega)⟩
    case round =>
      obtain ⟨k, hk, rfl, hbr, hok2⟩ := hrel
      have hsr := hbr.out.size
      have HbW : Hid (Below w.heap.size w wr) := Hbb.out.trans (hbr.out.mono Hsz.out)
      have hBr : hi ≤ wr.heap.size := by have := Hsz.out; omega
      have hBr1 : hi1 ≤ wr.heap.size := by have := Hsz.out; omega
      have hBr2 : hi2 ≤ wr.heap.size := by have := Hsz.out; omega
      by_cases hkl : k < ys.length
      · have hkx : k < xs.length := by omega
        have hky : k < ys.length := by omega
        have q0 := (Hrow.out.below hbr.out Hrow.out.lt).cell 0
        have q1 := (Hrow.out.below hbr.out Hrow.out.lt).cell 1
        simp only [List.getElem?_cons_zero, List.getElem?_cons_succ] at q0 q1
        have hls : w.heap.size < wr.heap.size := Nat.lt_of_lt_of_le Hrow.out.lt hsr
        obtain ⟨b1, o1, rfl, _, hb1, e0, _⟩ := (Hxb.out.below hbr.out (by have := Hsz.out; omega)).at_ hkx
        obtain ⟨b2, o2, rfl, _, hb2, e1, _⟩ := (Hyb.out.below hbr.out (by have := Hsz.out; omega)).at_ hky
        have htb := Lib.hid (typesB_mk hok (Hxs.out k hkx) (Hys.out k hky))
        have HTr := Lib.hid (HTb.out.below hbr.out (by have := Hsz.out; omega))
        have hg : Hid (canB t (xs.getD k 0) (ys.getD k 0) = canB t xs[k] ys[k]) := by show _ = _; rw [getD_of hkx, getD_of hky]
        have k0 : ∀ z : InC (Below wr.heap.size wr), z.val.cell? ⟨w.heap.size, 0, none⟩ = some (.slice A t.sizes.length cap) := fun z => (z.inD.cell (p := ⟨w.heap.size, 0, none⟩) (by dsimp only; omega)).trans q0
        have k1 : ∀ z : InC (Below wr.heap.size wr), z.val.cell? ⟨w.heap.size, 1, none⟩ = some (.slice B t.cos.length bap) := fun z => (z.inD.cell (p := ⟨w.heap.size, 1, none⟩) (by dsimp only; omega)).trans q1
        have k2 : ∀ z : InC (Below wr.heap.size wr), z.val.cell? ⟨b1, o1 + k, none⟩ = some (.int .i64 xs[k]) := fun z => (z.inD.cell (p := ⟨b1, o1 + k, none⟩) (by dsimp only; omega)).trans e0
        have k3 : ∀ z : InC (Below wr.heap.size wr), z.val.cell? ⟨b2, o2 + k, none⟩ = some (.int .i64 ys[k]) := fun z => (z.inD.cell (p := ⟨b2, o2 + k, none⟩) (by dsimp only; omega)).trans e1
        have hne : Nonempty (InC (Below wr.heap.size wr)) := ⟨⟨wr, Below.refl _ _⟩⟩
        have hkxI : (k : Int) < (xs.length : Int) := by omega
        have hkyI : (k : Int) < (ys.length : Int) := by omega
        clear q0 q1 e0 e1
        by_cases hc : canB t xs[k] ys[k] = true
        · have hok3 : Hid (∀ j, j < k + 1 → canB t (xs.getD j 0) (ys.getD j 0) = true) := fun j hj => by
            by_cases e : j = k
            · subst e; rw [hg.out]; exact hc
            · exact hok2.out j (by omega)
          have Hc := Lib.hid hc
          clear hc
          go_wp2_with fail
          refine wp_region_class (Below wr.heap.size wr) (by kernel_rfl) (by kernel_rfl) ((Below.refl _ _).drew) ?_
          repeat (go_big_quiet_step ((go_at_call 141; rename_i z; exact (l2Can_any lo hi _ _ t xs[k] ys[k] z.val (HTr.out.below z.inD hBr) (by have := z.inD.size; omega) htb.out).mono fun e w' ⟨he, hbx⟩ => ⟨by rw [he, Hc.out], ⟨_, z.inD.trans (hbx.mono z.inD.size)⟩, rfl⟩)))
          refine wpQuiet_nil ?_
          intro _ hw'
          obtain ⟨⟨wz, hbz⟩, rfl⟩ := hw'
          have Hbz := Lib.hid (hbr.out.trans (hbz.mono hsr))
          clear hbz
          go_wp2
          go_roundw
          case rel => exact ⟨k + 1, by omega, by go_num, Hbz.out, hok3⟩
          case measure => simp [intOf]; omega
        · have hcf : Hid (canB t xs[k] ys[k] = false) := by show _ = _; simpa using hc
          have H : Hid (fitsToB t xs ys = false) := fitsToB_no fun h => hc (by rw [← hg.out]; exact h.2 k hkx)
          clear hc
          go_wp2_with fail
          refine wp_region_class (Below wr.heap.size wr) (by kernel_rfl) (by kernel_rfl) ((Below.refl _ _).drew) ?_
          repeat (go_big_quiet_step ((go_at_call 141; rename_i z; exact (l2Can_any lo hi _ _ t xs[k] ys[k] z.val (HTr.out.below z.inD hBr) (by have := z.inD.size; omega) htb.out).mono fun e w' ⟨he, hbx⟩ => ⟨by rw [he, hcf.out], ⟨_, z.inD.trans (hbx.mono z.inD.size)⟩, rfl⟩)))
          refine wpQuiet_nil ?_
          intro _ hw'
          obtain ⟨⟨wz, hbz⟩, rfl⟩ := hw'
          have Hbz := Lib.hid (HbW.out.trans (hbz.mono HbW.out.size))
          clear hbz
          go_wp2
          go_ret
          exact ⟨ret_bool H.out.symm, Hbz.out⟩
      · obtain rfl : k = ys.length := by omega
        have H : Hid (fitsToB t xs ys = ((xs.length : Int) == (ys.length : Int))) := by
          show _ = _
          rw [Bool.eq_iff_iff, fitsToB_iff, beq_iff_eq]
          exact ⟨fun h => by have := h.1; omega, fun h => ⟨by omega, fun j hj => hok2.out j (by omega)⟩⟩
        go_wp2
        go_ret
        exact ⟨ret_bool H.out.symm, HbW.out⟩
  · rename_i hmin
    obtain ⟨wb, hwb⟩ : ∃ wb, wb = w.alloc (.cells #[.slice A t.sizes.length cap, .slice B t.cos.length bap] 33) := ⟨_, rfl⟩
    have hrow : Row wb w.heap.size 33 [.slice A t.sizes.length cap, .slice B t.cos.length bap] := by rw [hwb]; exact Row.new _ _ _
    have hbb : Below w.heap.size w wb := by rw [hwb]; exact h3
    have HTb := Lib.hid (HT.out.below hbb hB)
    have Hxb := Lib.hid (Hx.out.below hbb hB1)
    have Hyb := Lib.hid (Hy.out.below hbb hB2)
    have Hrow := Lib.hid hrow
    have Hbb := Lib.hid hbb
    have Hsz := Lib.hid hbb.size
    rw [← hwb]
    clear h3 hrow hbb hwb
    go_loopw [13] (fun i wr => ∃ k : Nat, k ≤ xs.length ∧ i = .int .i64 k ∧ Hid (Below wb.heap.size wb wr) ∧ Hid (∀ j, j < k → canB t (xs.getD j 0) (ys.getD j 0) = true)) (fun i _ => xs.length - (intOf i).toNat)
    case atStart => exact ⟨0, Nat.zero_le _, rfl, Below.refl _ _, fun j hj => absurd hj (by omega)⟩
    case round =>
      obtain ⟨k, hk, rfl, hbr, hok2⟩ := hrel
      have hsr := hbr.out.size
      have HbW : Hid (Below w.heap.size w wr) := Hbb.out.trans (hbr.out.mono Hsz.out)
      have hBr : hi ≤ wr.heap.size := by have := Hsz.out; omega
      have hBr1 : hi1 ≤ wr.heap.size := by have := Hsz.out; omega
      have hBr2 : hi2 ≤ wr.heap.size := by have := Hsz.out; omega
      by_cases hkl : k < xs.length
      · have hkx : k < xs.length := by omega
        have hky : k < ys.length := by omega
        have q0 := (Hrow.out.below hbr.out Hrow.out.lt).cell 0
        have q1 := (Hrow.out.below hbr.out Hrow.out.lt).cell 1
        simp only [List.getElem?_cons_zero, List.getElem?_cons_succ] at q0 q1
        have hls : w.heap.size < wr.heap.size := Nat.lt_of_lt_of_le Hrow.out.lt hsr
        obtain ⟨b1, o1, rfl, _, hb1, e0, _⟩ := (Hxb.out.below hbr.out (by have := Hsz.out; omega)).at_ hkx
        obtain ⟨b2, o2, rfl, _, hb2, e1, _⟩ := (Hyb.out.below hbr.out (by have := Hsz.out; omega)).at_ hky
        have htb := Lib.hid (typesB_mk hok (Hxs.out k hkx) (Hys.out k hky))
        have HTr := Lib.hid (HTb.out.below hbr.out (by have := Hsz.out; omega))
        have hg : Hid (canB t (xs.getD k 0) (ys.getD k 0) = canB t xs[k] ys[k]) := by show _ = _; rw [getD_of hkx, getD_of hky]
        have k0 : ∀ z : InC (Below wr.heap.size wr), z.val.cell? ⟨w.heap.size, 0, none⟩ = some (.slice A t.sizes.length cap) := fun z => (z.inD.cell (p := ⟨w.heap.size, 0, none⟩) (by dsimp only; omega)).trans q0
        have k1 : ∀ z : InC (Below wr.heap.size wr), z.val.cell? ⟨w.heap.size, 1, none⟩ = some (.slice B t.cos.length bap) := fun z => (z.inD.cell (p := ⟨w.heap.size, 1, none⟩) (by dsimp only; omega)).trans q1
        have k2 : ∀ z : InC (Below wr.heap.size wr), z.val.cell? ⟨b1, o1 + k, none⟩ = some (.int .i64 xs[k]) := fun z => (z.inD.cell (p := ⟨b1, o1 + k, none⟩) (by dsimp only; omega)).trans e0
        have k3 : ∀ z : InC (Below wr.heap.size wr), z.val.cell? ⟨b2, o2 + k, none⟩ = some (.int .i64 ys[k]) := fun z => (z.inD.cell (p := ⟨b2, o2 + k, none⟩) (by dsimp only; omega)).trans e1
        have hne : Nonempty (InC (Below wr.heap.size wr)) := ⟨⟨wr, Below.refl _ _⟩⟩
        have hkxI : (k : Int) < (xs.length : Int) := by omega
        have hkyI : (k : Int) < (ys.length : Int) := by omega
        clear q0 q1 e0 e1
        by_cases hc : canB t xs[k] ys[k] = true
        · have hok3 : Hid (∀ j, j < k + 1 → canB t (xs.getD j 0) (ys.getD j 0) = true) := fun j hj => by
            by_cases e : j = k
            · subst e; rw [hg.out]; exact hc
            · exact hok2.out j (by omega)
          have Hc := Lib.hid hc
          clear hc
          go_wp2_with fail
          refine wp_region_class (Below wr.heap.size wr) (by kernel_rfl) (by kernel_rfl) ((Below.refl _ _).drew) ?_
          repeat (go_big_quiet_step ((go_at_call 141; rename_i z; exact (l2Can_any lo hi _ _ t xs[k] ys[k] z.val (HTr.out.below z.inD hBr) (by have := z.inD.size; omega) htb.out).mono fun e w' ⟨he, hbx⟩ => ⟨by rw [he, Hc.out], ⟨_, z.inD.trans (hbx.mono z.inD.size)⟩, rfl⟩)))
          refine wpQuiet_nil ?_
          intro _ hw'
          obtain ⟨⟨wz, hbz⟩, rfl⟩ := hw'
          have Hbz := Lib.hid (hbr.out.trans (hbz.mono hsr))
          clear hbz
          go_wp2
          go_roundw
          case rel => exact ⟨k + 1, by omega, by go_num, Hbz.out, hok3⟩
          case measure => simp [intOf]; omega
        · have hcf : Hid (canB t xs[k] ys[k] = false) := by show _ = _; simpa using hc
          have H : Hid (fitsToB t xs ys = false) := fitsToB_no fun h => hc (by rw [← hg.out]; exact h.2 k hkx)
          clear hc
          go_wp2_with fail
          refine wp_region_class (Below wr.heap.size wr) (by kernel_rfl) (by kernel_rfl) ((Below.refl _ _).drew) ?_
          repeat (go_big_quiet_step ((go_at_call 141; rename_i z; exact (l2Can_any lo hi _ _ t xs[k] ys[k] z.val (HTr.out.below z.inD hBr) (by have := z.inD.size; omega) htb.out).mono fun e w' ⟨he, hbx⟩ => ⟨by rw [he, hcf.out], ⟨_, z.inD.trans (hbx.mono z.inD.size)⟩, rfl⟩)))
          refine wpQuiet_nil ?_
          intro _ hw'
          obtain ⟨⟨wz, hbz⟩, rfl⟩ := hw'
          have Hbz := Lib.hid (HbW.out.trans (hbz.mono HbW.out.size))
          clear hbz
          go_wp2
          go_ret
          exact ⟨ret_bool H.out.symm, Hbz.out⟩
      · obtain rfl : k = xs.length := by omega
        have H : Hid (fitsToB t xs ys = ((xs.length : Int) == (ys.length : Int))) := by
          show _ = _
          rw [Bool.eq_iff_iff, fitsToB_iff, beq_iff_eq]
          exact ⟨fun h => by have := h.1; omega, fun h => ⟨by omega, fun j hj => hok2.out j (by omega)⟩⟩
        go_wp2
        go_ret
        exact ⟨ret_bool H.out.symm, HbW.out⟩
end Go.Proofs.Ytilcahidmoaakaa
