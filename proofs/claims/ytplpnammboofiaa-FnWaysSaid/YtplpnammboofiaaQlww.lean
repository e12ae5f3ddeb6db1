/-
  The walk of the law FnWays.
-/
import Derived.Test.YtplpnammboofiaaJ5
import Derived.Test.YtplpnammboofiaaQwyd
import Derived.Test.YtplpnammboofiaaQosm
import Derived.Test.YtplpnammboofiaaJ10
import Derived.Test.YtplpnammboofiaaQcollw
import Derived.Deep.RegionHeld3
namespace Go.Proofs.Ytplpnammboofiaa
open Go.RowKit
attribute [local go_sem] Oper.semAt_some

theorem waysS_wf' (t : Ty) (a b : Int) : ∀ y ∈ waysV t a b, (∀ z ∈ y, I64 z) ∧ y.length ≤ 5 := by
  intro y hy
  by_cases h : typesB t a b = true
  · rw [waysV_yes h] at hy
    exact short_wf (types_of h).1 a b y hy
  · rw [waysV_no (by simpa using h)] at hy
    exact absurd hy (by simp)
theorem waysS_at' {t : Ty} {a b : Int} {w : World} {base : Nat} {v : Value} (h : SSOut w base v (waysV t a b)) : SSAt w base w.heap.size v (waysV t a b) := by
  obtain ⟨g, gs, xs, h1, h2, h3⟩ := h
  have e : (List.range (waysV t a b).length).map (fun i => (waysV t a b).getD i []) = waysV t a b := by
    apply List.ext_getElem
    · simp
    · intro i h1 h2
      simp only [List.getElem_map, List.getElem_range]
      rw [List.getD_eq_getElem?_getD, List.getElem?_eq_getElem h2]
      rfl
  have h4 := h1.ss (lo := base) (hi := w.heap.size) (fun i hi => by
    rw [List.getD_eq_getElem?_getD, List.getElem?_eq_getElem hi]
    exact (waysS_wf' t a b _ (List.getElem_mem hi)).1) h2 h3
  rwa [e] at h4
theorem can_len {t : Ty} {a b : Int} (h : typesB t a b = true) : canC t a b = decide (0 < ((waysV t a b).length : Int)) := by
  unfold canC canB
  rw [h, waysV_yes h, Bool.true_and]
  by_cases h0 : 0 < (waysOf t a b).length
  · rw [decide_eq_true h0, decide_eq_true (by omega)]
  · rw [decide_eq_false h0, decide_eq_false (by omega)]

set_option maxRecDepth 100000 in
set_option maxHeartbeats 20000000 in
theorem lawWw_walk (v : Value) (w : World) (h : CodeAt w w.heap.size v) :
    Calls Try.prog 4 #[v] w fun e w' => e = .returned (.bool true) ∧ Below w.heap.size w w' := by
  have HC := Lib.hid h
  obtain ⟨a, n, c, rfl, hnc, hcm, _⟩ := h
  unfold maxLen at hcm
  by_cases hbig : (1048576 : Int) < (n : Int)
  · go_enter Try.func4, Try.ntmps4
    go_wp2
    go_ret
    exact ⟨rfl, Below.refl _ _⟩
  go_enter Try.func4, Try.ntmps4
  go_wp2_with fail
  refine (drawWays_any _ w HC.out).mono ?_
  rintro e w1 ⟨sv, cv, t, k, z, rfl, hb1, hv1, hd1, hk64, hz64⟩
  have hbk := hd1.bulk
  obtain ⟨A, cap, rfl, _, _, _⟩ := hv1.1.form
  obtain ⟨C, cbp, rfl, _, hcbm, _⟩ := hv1.2.form
  have HB1 := Lib.hid hb1
  have HV1 := Lib.hid hv1
  have hs1 := hb1.size
  have hd20 : t.cos.length ≤ 20 := hd1.2.1
  clear hb1 hv1 hd1 HC
  go_wp2_with fail
  obtain ⟨w2, hw2⟩ : ∃ u, u = w1.alloc (.cells #[.slice A t.sizes.length cap, .slice C t.cos.length cbp] 26) := ⟨_, rfl⟩
  rewrite [← hw2]
  have hb12 : Below w1.heap.size w1 w2 := by rw [hw2]; exact (Below.refl _ _).alloc (Nat.le_refl _) _
  have hs2 : w1.heap.size < w2.heap.size := by rw [hw2]; simp
  have HT2 : Hid (Row w2 w1.heap.size 26 [.slice A t.sizes.length cap, .slice C t.cos.length cbp]) := by rw [hw2]; exact Row.new w1 26 _
  have HV2 := Lib.hid (HV1.out.below hb12 (Nat.le_refl _))
  have HB2 := Lib.hid (HB1.out.trans (hb12.mono (by omega)))
  clear hw2 hb12 HV1 HB1
  refine (implWays_any w.heap.size w1.heap.size _ _ t k z w2 HV2.out (by omega) hk64 hz64).mono ?_
  rintro e w3 ⟨v3, rfl, hb3, ho3⟩
  have hss := waysS_at' ho3
  obtain ⟨WA, WC, rfl, _, hwm, _⟩ := hss.form
  have HSW := Lib.hid hss
  have HB3 := Lib.hid hb3
  have hs3 := hb3.size
  clear hb3 ho3 hss
  have t0 := (HT2.out.below HB3.out (by omega)).cell 0
  have t1 := (HT2.out.below HB3.out (by omega)).cell 1
  simp only [List.getElem?_cons_zero, List.getElem?_cons_succ] at t0 t1
  go_wp2_with fail
  clear t0 t1
  refine (specWays_any w.heap.size w1.heap.size _ _ t k z w3 (HV2.out.below HB3.out (by omega)) (by omega)).mono ?_
  rintro e w4 ⟨v4, rfl, hb4, hss⟩
  obtain ⟨XA, XC, rfl, _, hxm, _⟩ := hss.form
  have hs4 := hb4.size
  have HQ : Hid (∀ u, Below w4.heap.size w4 u → TyAt u w.heap.size w1.heap.size (.slice A t.sizes.length cap) (.slice C t.cos.length cbp) t ∧ u.cell? ⟨w1.heap.size, 0, none⟩ = some (.slice A t.sizes.length cap) ∧ u.cell? ⟨w1.heap.size, 1, none⟩ = some (.slice C t.cos.length cbp) ∧ w1.heap.size < u.heap.size ∧ Below w.heap.size w u ∧
      SSAt u w2.heap.size w3.heap.size (.slice WA (waysV t k z).length WC) (waysV t k z) ∧ SSAt u w3.heap.size w4.heap.size (.slice XA (waysV t k z).length XC) (waysV t k z)) := fun u hu => by
    have hus := hu.size
    have h34 : Below w3.heap.size w3 u := hb4.trans (hu.mono (by omega))
    have h24 : Below w2.heap.size w2 u := HB3.out.trans (h34.mono (by omega))
    have hrow := HT2.out.below h24 (by omega)
    exact ⟨HV2.out.below h24 (by omega), hrow.cell 0, hrow.cell 1, by omega, HB2.out.trans (h24.mono (by omega)), HSW.out.below h34 (Nat.le_refl _), hss.below hu (Nat.le_refl _)⟩
  obtain ⟨cb, hcb⟩ : ∃ cb, cb = canC t k z := ⟨_, rfl⟩
  have HCI : Hid (∀ u, Below w4.heap.size w4 u → Calls Try.prog 18 #[.agg #[.slice A t.sizes.length cap, .slice C t.cos.length cbp], .int .i64 k, .int .i64 z] u fun e w' => e = .returned (.bool cb) ∧ Below u.heap.size u w') := fun u hu => by
    obtain ⟨q, _, _, ql, _⟩ := HQ.out u hu
    rw [hcb]
    exact implCan_any w.heap.size w1.heap.size _ _ t k z u q (Nat.le_of_lt ql) hk64 hz64
  have HCS : Hid (∀ u, Below w4.heap.size w4 u → Calls Try.prog 19 #[.agg #[.slice A t.sizes.length cap, .slice C t.cos.length cbp], .int .i64 k, .int .i64 z] u fun e w' => e = .returned (.bool cb) ∧ Below u.heap.size u w') := fun u hu => by
    obtain ⟨q, _, _, ql, _⟩ := HQ.out u hu
    rw [hcb]
    exact specCan_any w.heap.size w1.heap.size _ _ t k z u q (Nat.le_of_lt ql)
  have HWF := Lib.hid (waysS_wf' t k z)
  unfold maxLen at hwm hxm
  clear hb4 hss HT2 HV2 HB2 HSW HB3
  have HCBE := Lib.hid hcb
  clear hcb
  have hbu4 : Hid (Below w4.heap.size w4 w4) := Below.refl _ _
  have hcc : (cb != cb) = false := by simp
  have hce : (cb == cb) = true := by simp
  cases hty : typesB t k z with
  | false =>
    have hcf : cb = false := by rw [HCBE.out]; unfold canC; rw [hty]; rfl
    subst hcf
    clear HCBE
    go_wp2_with fail
    have KB0 : Hid (Below w4.heap.size w4 w4.drew) := hbu4.out.drew
    have K0 : Hid (w4.drew.cell? ⟨w1.heap.size, 0, none⟩ = some (.slice A t.sizes.length cap) ∧ w4.drew.cell? ⟨w1.heap.size, 1, none⟩ = some (.slice C t.cos.length cbp)) := ⟨(HQ.out _ KB0.out).2.1, (HQ.out _ KB0.out).2.2.1⟩
    go_region_held3 (fun w' => w'.cell? ⟨w1.heap.size, 0, none⟩ = some (.slice A t.sizes.length cap) ∧ w'.cell? ⟨w1.heap.size, 1, none⟩ = some (.slice C t.cos.length cbp))
      (first | exact K0.out | exact K1.out | exact K2.out)
      (first
        | (go_at_call 18; (with_reducible show Calls _ _ _ (World.drew w4) _)
           refine (HCI.out w4.drew KB0.out).mono ?_
           rintro e wp1 ⟨rfl, hbk1⟩
           have KB1 := Lib.hid (KB0.out.trans (hbk1.mono KB0.out.size))
           have K1 : Hid (wp1.cell? ⟨w1.heap.size, 0, none⟩ = some (.slice A t.sizes.length cap) ∧ wp1.cell? ⟨w1.heap.size, 1, none⟩ = some (.slice C t.cos.length cbp)) := ⟨(HQ.out _ KB1.out).2.1, (HQ.out _ KB1.out).2.2.1⟩
           clear hbk1)
        | (go_at_call 19; (with_reducible show Calls _ _ _ wp1 _)
           refine (HCS.out wp1 KB1.out).mono ?_
           rintro e wp2 ⟨rfl, hbk2⟩
           have KB2 := Lib.hid (KB1.out.trans (hbk2.mono KB1.out.size))
           have K2 : Hid (wp2.cell? ⟨w1.heap.size, 0, none⟩ = some (.slice A t.sizes.length cap) ∧ wp2.cell? ⟨w1.heap.size, 1, none⟩ = some (.slice C t.cos.length cbp)) := ⟨(HQ.out _ KB2.out).2.1, (HQ.out _ KB2.out).2.2.1⟩
           clear hbk2))
    clear K0 K1 K2 KB0 KB1
    go_wp2_with fail
    have HBP := KB2
    clear KB2
    have KB0 : Hid (Below w4.heap.size w4 wp2.drew) := HBP.out.drew
    have K0 : Hid (wp2.drew.cell? ⟨w1.heap.size, 0, none⟩ = some (.slice A t.sizes.length cap) ∧ wp2.drew.cell? ⟨w1.heap.size, 1, none⟩ = some (.slice C t.cos.length cbp)) := ⟨(HQ.out _ KB0.out).2.1, (HQ.out _ KB0.out).2.2.1⟩
    go_region_held3 (fun w' => w'.cell? ⟨w1.heap.size, 0, none⟩ = some (.slice A t.sizes.length cap) ∧ w'.cell? ⟨w1.heap.size, 1, none⟩ = some (.slice C t.cos.length cbp))
      (first | exact K0.out | exact K1.out | exact K2.out | exact K3.out)
      (first
        | (go_at_call 18; (with_reducible show Calls _ _ _ (World.drew wp2) _)
           refine (HCI.out wp2.drew KB0.out).mono ?_
           rintro e wq1 ⟨rfl, hbk1⟩
           have KB1 := Lib.hid (KB0.out.trans (hbk1.mono KB0.out.size))
           have K1 : Hid (wq1.cell? ⟨w1.heap.size, 0, none⟩ = some (.slice A t.sizes.length cap) ∧ wq1.cell? ⟨w1.heap.size, 1, none⟩ = some (.slice C t.cos.length cbp)) := ⟨(HQ.out _ KB1.out).2.1, (HQ.out _ KB1.out).2.2.1⟩
           clear hbk1)
        | (go_at_call 19; (with_reducible show Calls _ _ _ wq1 _)
           refine (HCS.out wq1 KB1.out).mono ?_
           rintro e wq2 ⟨rfl, hbk2⟩
           have KB2 := Lib.hid (KB1.out.trans (hbk2.mono KB1.out.size))
           have K2 : Hid (wq2.cell? ⟨w1.heap.size, 0, none⟩ = some (.slice A t.sizes.length cap) ∧ wq2.cell? ⟨w1.heap.size, 1, none⟩ = some (.slice C t.cos.length cbp)) := ⟨(HQ.out _ KB2.out).2.1, (HQ.out _ KB2.out).2.2.1⟩
           clear hbk2)
        | (go_at_call 18; (with_reducible show Calls _ _ _ wq2 _)
           refine (HCI.out wq2 KB2.out).mono ?_
           rintro e wq3 ⟨rfl, hbk3⟩
           have KB3 := Lib.hid (KB2.out.trans (hbk3.mono KB2.out.size))
           have K3 : Hid (wq3.cell? ⟨w1.heap.size, 0, none⟩ = some (.slice A t.sizes.length cap) ∧ wq3.cell? ⟨w1.heap.size, 1, none⟩ = some (.slice C t.cos.length cbp)) := ⟨(HQ.out _ KB3.out).2.1, (HQ.out _ KB3.out).2.2.1⟩
           clear hbk3))
    go_wp2
    go_ret
    exact ⟨rfl, (HQ.out _ KB3.out).2.2.2.2.1⟩
  | true =>
    go_wp2_with fail
    have KB0 : Hid (Below w4.heap.size w4 w4.drew) := hbu4.out.drew
    have K0 : Hid (w4.drew.cell? ⟨w1.heap.size, 0, none⟩ = some (.slice A t.sizes.length cap) ∧ w4.drew.cell? ⟨w1.heap.size, 1, none⟩ = some (.slice C t.cos.length cbp)) := ⟨(HQ.out _ KB0.out).2.1, (HQ.out _ KB0.out).2.2.1⟩
    go_region_held3 (fun w' => w'.cell? ⟨w1.heap.size, 0, none⟩ = some (.slice A t.sizes.length cap) ∧ w'.cell? ⟨w1.heap.size, 1, none⟩ = some (.slice C t.cos.length cbp))
      (first | exact K0.out | exact K1.out | exact K2.out)
      (first
        | (go_at_call 18; (with_reducible show Calls _ _ _ (World.drew w4) _)
           refine (HCI.out w4.drew KB0.out).mono ?_
           rintro e wp1 ⟨rfl, hbk1⟩
           have KB1 := Lib.hid (KB0.out.trans (hbk1.mono KB0.out.size))
           have K1 : Hid (wp1.cell? ⟨w1.heap.size, 0, none⟩ = some (.slice A t.sizes.length cap) ∧ wp1.cell? ⟨w1.heap.size, 1, none⟩ = some (.slice C t.cos.length cbp)) := ⟨(HQ.out _ KB1.out).2.1, (HQ.out _ KB1.out).2.2.1⟩
           clear hbk1)
        | (go_at_call 19; (with_reducible show Calls _ _ _ wp1 _)
           refine (HCS.out wp1 KB1.out).mono ?_
           rintro e wp2 ⟨rfl, hbk2⟩
           have KB2 := Lib.hid (KB1.out.trans (hbk2.mono KB1.out.size))
           have K2 : Hid (wp2.cell? ⟨w1.heap.size, 0, none⟩ = some (.slice A t.sizes.length cap) ∧ wp2.cell? ⟨w1.heap.size, 1, none⟩ = some (.slice C t.cos.length cbp)) := ⟨(HQ.out _ KB2.out).2.1, (HQ.out _ KB2.out).2.2.1⟩
           clear hbk2))
    have HBP := KB2
    clear K0 K1 K2 KB0 KB1 KB2
    go_wp2_with fail
    go_loopw [10, 11, 12, 14, 98] (fun _ _ _ _ i wr => ∃ j : Nat, j ≤ (waysV t k z).length ∧ i = .int .i64 j ∧ Hid (Below w4.heap.size w4 wr)) (fun _ _ _ _ i _ => (waysV t k z).length - (intOf i).toNat)
    case atStart => exact ⟨0, Nat.zero_le _, rfl, HBP⟩
    case round =>
      obtain ⟨j, hj, rfl, hb⟩ := hrel
      by_cases hlt : j < (waysV t k z).length
      · have hji : (j : Int) < ((waysV t k z).length : Int) := by omega
        obtain ⟨hst, hend⟩ := ways_steps (List.getElem_mem hlt)
        obtain ⟨hwz, hw5⟩ := HWF.out _ (List.getElem_mem hlt)
        have HST := Lib.hid hst
        have HEND := Lib.hid hend
        obtain ⟨y, hy⟩ : ∃ y, y = (waysV t k z)[j] := ⟨_, rfl⟩
        obtain ⟨_, _, _, ql, _, hway, _⟩ := HQ.out _ hb.out
        have hs4r := hb.out.size
        obtain ⟨lb, lo, A2, c2, rfl, _, _, cw, hz2⟩ := hway.at_ hlt
        rw [← hy] at cw hz2 HST HEND hw5 hwz
        have HZ := Lib.hid hz2
        have HY := Lib.hid hy
        clear hz2 hst hend hway hwz hy
        go_wp2_with fail
        go_loopw [12, 14, 106] (fun at_ _ i wr2 => ∃ m : Nat, m ≤ y.length ∧ i = .int .i64 m ∧ at_ = .int .i64 (atK t.cos k y m) ∧ Hid (Below wr.heap.size wr wr2)) (fun _ _ i _ => y.length - (intOf i).toNat)
        case atStart => exact ⟨0, Nat.zero_le _, rfl, rfl, Lib.hid (Below.refl _ _)⟩
        case round =>
          obtain ⟨m, hm, rfl, rfl, hb2⟩ := hrel
          have hbr2 := Lib.hid (hb.out.trans (hb2.out.mono hb.out.size))
          obtain ⟨qT, q0, q1, ql2, _, _, hwant⟩ := HQ.out _ hbr2.out
          have QT := Lib.hid qT
          have WN := Lib.hid hwant
          clear qT hwant
          by_cases hml : m < y.length
          · obtain ⟨h1, h2, h3⟩ := HST.out m hml
            obtain ⟨b3, o3, rfl, _, _, c3, _⟩ := (HZ.out.below hb2.out (by omega)).at_ hml
            obtain ⟨i, hi⟩ : ∃ i : Nat, y[m] = i := ⟨(y[m]).toNat, by omega⟩
            have hnx : atK t.cos k y (m + 1) = (t.cos.getD (y[m]).toNat default).dst := by show (t.cos.getD (y.getD m 0).toNat default).dst = _; rw [List.getD_eq_getElem?_getD (l := y), List.getElem?_eq_getElem hml]; rfl
            rw [hi] at c3 h2 h3 hnx
            rw [Int.toNat_natCast] at h2 h3 hnx
            obtain ⟨bb, oo, A5, c5, rfl, _, _, cs0, cs1, cs2, _⟩ := QT.out.2.at_ h2
            have egd : t.cos.getD i default = t.cos[i] := by rw [List.getD_eq_getElem?_getD, List.getElem?_eq_getElem h2]; rfl
            rw [egd] at h3 hnx
            rw [h3] at cs0
            rw [← hnx] at cs1
            have hi0 : (0 : Int) ≤ (i : Int) := by omega
            have hil : (i : Int) < (t.cos.length : Int) := by omega
            have hmi : (m : Int) < (y.length : Int) := by omega
            have hwm1 : IntKind.i64.wrap ((m : Int) + 1) = (m : Int) + 1 := by rw [IntKind.wrap_i64]; omega
            clear h1 h3 hi hnx egd
            go_wp2
            go_roundw
            case rel => exact ⟨m + 1, by omega, by go_num, rfl, hb2⟩
            case measure => simp [intOf]; omega
          · have hme : m = y.length := by omega
            subst hme
            rewrite [HEND.out]
            obtain ⟨xb, xo, A6, c6, rfl, _, _, cx, hx2⟩ := WN.out.at_ hlt
            rw [← HY.out] at cx hx2
            have HX := Lib.hid hx2
            have hw5b := hb2.out.size
            clear hx2
            go_wp2_with fail
            refine (ovSame_any _ _ _ _ _ _ y y _ (HZ.out.below hb2.out (by omega)) HX.out (by omega) (by omega) (by omega) (by omega)).mono ?_
            rintro e wo ⟨rfl, hbo⟩
            have HBO := Lib.hid (hbr2.out.trans (hbo.mono hbr2.out.size))
            have hdt : decide (y = y) = true := decide_eq_true rfl
            rewrite [hdt]
            have hwj1 : IntKind.i64.wrap ((j : Int) + 1) = (j : Int) + 1 := by rw [IntKind.wrap_i64]; omega
            clear hbo hdt
            go_wp2
            go_roundw
            case rel => exact ⟨j + 1, by omega, by go_num, HBO⟩
            case measure => simp [intOf]; omega
      · have hje : j = (waysV t k z).length := by omega
        subst hje
        clear hlt
        by_cases hkz : k = z
        · have hkb : (k == z) = true := by simp [hkz]
          have hn0 : (1 : Nat) = if k = z then 1 else 0 := by simp [hkz]
          obtain ⟨hsum, hfew, hpart⟩ := ways_sum hty
          rw [← hn0] at hsum
          have HSUM := Lib.hid hsum
          have HPART := Lib.hid hpart
          clear hsum hpart hn0 hkz
          obtain ⟨qT, q0, q1, ql, _, _, _⟩ := HQ.out _ hb.out
          have QT := Lib.hid qT
          clear qT
          go_wp2_with fail
          refine (implFrom_any w.heap.size w1.heap.size _ _ t k wr QT.out (Nat.le_of_lt ql) hbk).mono ?_
          rintro e wf ⟨lv, rfl, hbf, how⟩
          obtain ⟨VA, VC, rfl⟩ := owns_form how
          have ecf : cFrom t k = cfr t.cos k t.cos.length := if_pos (types_of hty).1
          have hfw : ∀ i ∈ cFrom t k, 0 ≤ i ∧ i.toNat < t.cos.length ∧ (t.cos.getD i.toNat default).src = k := by rw [ecf]; exact cfr_at _ _
          have HFW := Lib.hid hfw
          have HL := Lib.hid (ownsRow.intsAt (lo := wr.heap.size) (hi := wf.heap.size) how (fun y hy => by have := hfw y hy; unfold I64; omega) (Nat.le_refl _) (Nat.le_refl _))
          have HBF := Lib.hid (hb.out.trans (hbf.mono hb.out.size))
          have hlf : (cFrom t k).length ≤ 20 := by rw [ecf]; have := cfr_le t.cos k t.cos.length; omega
          clear hbf how ecf hfw q0 q1 ql QT
          go_wp2_with fail
          go_loopw [15, 17, 18, 19, 145] (fun nn _ _ _ i wr => ∃ j : Nat, j ≤ (cFrom t k).length ∧ i = .int .i64 j ∧ nn = .int .i64 ((1 + sumW t k z j : Nat) : Int) ∧ Hid (Below wf.heap.size wf wr)) (fun _ _ _ _ i _ => (cFrom t k).length - (intOf i).toNat)
          case atStart => exact ⟨0, Nat.zero_le _, rfl, by rw [sumW_zero]; rfl, Lib.hid (Below.refl _ _)⟩
          case round =>
            obtain ⟨j, hj, rfl, rfl, hb⟩ := hrel
            have hsr := hb.out.size
            have HBr := Lib.hid (HBF.out.trans (hb.out.mono HBF.out.size))
            obtain ⟨qT, q0, q1, ql, qb, _, _⟩ := HQ.out _ HBr.out
            have QT := Lib.hid qT
            clear qT
            have hp := HPART.out j hj
            by_cases hlt : j < (cFrom t k).length
            · have hji : (j : Int) < ((cFrom t k).length : Int) := by omega
              have hs1 := sumW_succ t k z hlt
              have hp1 := HPART.out (j + 1) (by omega)
              obtain ⟨fb, fo, rfl, _, _, cf, _⟩ := (HL.out.below hb.out (Nat.le_refl _)).at_ hlt
              obtain ⟨hf1, hf2, hf3⟩ := HFW.out _ (List.getElem_mem hlt)
              obtain ⟨i, hi⟩ : ∃ i : Nat, (cFrom t k)[j] = i := ⟨((cFrom t k)[j]).toNat, by omega⟩
              rw [hi] at cf hf2 hf3 hs1
              rw [Int.toNat_natCast] at hf2 hf3 hs1
              obtain ⟨cbk, cof, A2, c2, rfl, _, _, cs0, cs1, cs2, _, _, _, hdst, _⟩ := QT.out.2.at_ hf2
              have egd : t.cos.getD i default = t.cos[i] := by rw [List.getD_eq_getElem?_getD, List.getElem?_eq_getElem hf2]; rfl
              rw [egd] at hs1 hf3
              have hi0 : (0 : Int) ≤ (i : Int) := by omega
              have hil : (i : Int) < (t.cos.length : Int) := by omega
              have HS1 := Lib.hid hs1
              have hbnd : sumW t k z j + (waysV t t.cos[i].dst z).length ≤ 18 := by omega
              clear hs1 hi hf1 hf3 egd
              go_upto_region 28 with fail
              go_region_law (go_simp; go_at_call 16; refine (implWays_any w.heap.size w1.heap.size _ _ t t.cos[i].dst z wr.drew QT.out (Nat.le_of_lt ql) hdst hz64).mono ?_; rintro e wg ⟨rv, rfl, hbg, hog⟩; obtain ⟨RA, RC, hRv, _⟩ := (waysS_at' hog).form; subst hRv; have HBG := Lib.hid hbg; clear hbg hog)
              all_goals
                have hwj : IntKind.i64.wrap ((j : Int) + 1) = (j : Int) + 1 := by rw [IntKind.wrap_i64]; omega
                go_wp2
                go_roundw
                case rel => exact ⟨j + 1, by omega, by go_num, by (have e9 := HS1.out; refine congrArg (Value.int .i64) ?_; rw [e9]; omega), Lib.hid (hb.out.drew.trans (HBG.out.mono hb.out.size))⟩
                case measure => simp [intOf]; omega
            · have hjl : j = (cFrom t k).length := by omega
              subst hjl
              clear hlt
              have hn : (1 + sumW t k z (cFrom t k).length : Nat) = (waysV t k z).length := HSUM.out.symm
              rewrite [hn]
              have hcb2 : cb = decide (0 < ((waysV t k z).length : Int)) := by rw [HCBE.out]; exact can_len hty
              have HCB2 := Lib.hid hcb2
              have hf18 : ((waysV t k z).length : Int) < 100 := by omega
              clear hn hcb2 hp hfew
              go_wp2_with fail
              refine (HCI.out wr HBr.out).mono ?_
              rintro e wz ⟨rfl, hbz⟩
              have HBZ := Lib.hid (qb.trans (hbz.mono qb.size))
              clear hbz
              rewrite [HCB2.out]
              go_wp2
              go_ret
              exact ⟨rfl, HBZ.out⟩
        · have hkb : (k == z) = false := by simp [hkz]
          have hn0 : (0 : Nat) = if k = z then 1 else 0 := by simp [hkz]
          obtain ⟨hsum, hfew, hpart⟩ := ways_sum hty
          rw [← hn0] at hsum
          have HSUM := Lib.hid hsum
          have HPART := Lib.hid hpart
          clear hsum hpart hn0 hkz
          obtain ⟨qT, q0, q1, ql, _, _, _⟩ := HQ.out _ hb.out
          have QT := Lib.hid qT
          clear qT
          go_wp2_with fail
          refine (implFrom_any w.heap.size w1.heap.size _ _ t k wr QT.out (Nat.le_of_lt ql) hbk).mono ?_
          rintro e wf ⟨lv, rfl, hbf, how⟩
          obtain ⟨VA, VC, rfl⟩ := owns_form how
          have ecf : cFrom t k = cfr t.cos k t.cos.length := if_pos (types_of hty).1
          have hfw : ∀ i ∈ cFrom t k, 0 ≤ i ∧ i.toNat < t.cos.length ∧ (t.cos.getD i.toNat default).src = k := by rw [ecf]; exact cfr_at _ _
          have HFW := Lib.hid hfw
          have HL := Lib.hid (ownsRow.intsAt (lo := wr.heap.size) (hi := wf.heap.size) how (fun y hy => by have := hfw y hy; unfold I64; omega) (Nat.le_refl _) (Nat.le_refl _))
          have HBF := Lib.hid (hb.out.trans (hbf.mono hb.out.size))
          have hlf : (cFrom t k).length ≤ 20 := by rw [ecf]; have := cfr_le t.cos k t.cos.length; omega
          clear hbf how ecf hfw q0 q1 ql QT
          go_wp2_with fail
          go_loopw [15, 17, 18, 19, 145] (fun nn _ _ _ i wr => ∃ j : Nat, j ≤ (cFrom t k).length ∧ i = .int .i64 j ∧ nn = .int .i64 ((0 + sumW t k z j : Nat) : Int) ∧ Hid (Below wf.heap.size wf wr)) (fun _ _ _ _ i _ => (cFrom t k).length - (intOf i).toNat)
          case atStart => exact ⟨0, Nat.zero_le _, rfl, by rw [sumW_zero]; rfl, Lib.hid (Below.refl _ _)⟩
          case round =>
            obtain ⟨j, hj, rfl, rfl, hb⟩ := hrel
            have hsr := hb.out.size
            have HBr := Lib.hid (HBF.out.trans (hb.out.mono HBF.out.size))
            obtain ⟨qT, q0, q1, ql, qb, _, _⟩ := HQ.out _ HBr.out
            have QT := Lib.hid qT
            clear qT
            have hp := HPART.out j hj
            by_cases hlt : j < (cFrom t k).length
            · have hji : (j : Int) < ((cFrom t k).length : Int) := by omega
              have hs1 := sumW_succ t k z hlt
              have hp1 := HPART.out (j + 1) (by omega)
              obtain ⟨fb, fo, rfl, _, _, cf, _⟩ := (HL.out.below hb.out (Nat.le_refl _)).at_ hlt
              obtain ⟨hf1, hf2, hf3⟩ := HFW.out _ (List.getElem_mem hlt)
              obtain ⟨i, hi⟩ : ∃ i : Nat, (cFrom t k)[j] = i := ⟨((cFrom t k)[j]).toNat, by omega⟩
              rw [hi] at cf hf2 hf3 hs1
              rw [Int.toNat_natCast] at hf2 hf3 hs1
              obtain ⟨cbk, cof, A2, c2, rfl, _, _, cs0, cs1, cs2, _, _, _, hdst, _⟩ := QT.out.2.at_ hf2
              have egd : t.cos.getD i default = t.cos[i] := by rw [List.getD_eq_getElem?_getD, List.getElem?_eq_getElem hf2]; rfl
              rw [egd] at hs1 hf3
              have hi0 : (0 : Int) ≤ (i : Int) := by omega
              have hil : (i : Int) < (t.cos.length : Int) := by omega
              have HS1 := Lib.hid hs1
              have hbnd : sumW t k z j + (waysV t t.cos[i].dst z).length ≤ 18 := by omega
              clear hs1 hi hf1 hf3 egd
              go_upto_region 28 with fail
              go_region_law (go_simp; go_at_call 16; refine (implWays_any w.heap.size w1.heap.size _ _ t t.cos[i].dst z wr.drew QT.out (Nat.le_of_lt ql) hdst hz64).mono ?_; rintro e wg ⟨rv, rfl, hbg, hog⟩; obtain ⟨RA, RC, hRv, _⟩ := (waysS_at' hog).form; subst hRv; have HBG := Lib.hid hbg; clear hbg hog)
              all_goals
                have hwj : IntKind.i64.wrap ((j : Int) + 1) = (j : Int) + 1 := by rw [IntKind.wrap_i64]; omega
                go_wp2
                go_roundw
                case rel => exact ⟨j + 1, by omega, by go_num, by (have e9 := HS1.out; refine congrArg (Value.int .i64) ?_; rw [e9]; omega), Lib.hid (hb.out.drew.trans (HBG.out.mono hb.out.size))⟩
                case measure => simp [intOf]; omega
            · have hjl : j = (cFrom t k).length := by omega
              subst hjl
              clear hlt
              have hn : (0 + sumW t k z (cFrom t k).length : Nat) = (waysV t k z).length := HSUM.out.symm
              rewrite [hn]
              have hcb2 : cb = decide (0 < ((waysV t k z).length : Int)) := by rw [HCBE.out]; exact can_len hty
              have HCB2 := Lib.hid hcb2
              have hf18 : ((waysV t k z).length : Int) < 100 := by omega
              clear hn hcb2 hp hfew
              go_wp2_with fail
              refine (HCI.out wr HBr.out).mono ?_
              rintro e wz ⟨rfl, hbz⟩
              have HBZ := Lib.hid (qb.trans (hbz.mono qb.size))
              clear hbz
              rewrite [HCB2.out]
              go_wp2
              go_ret
              exact ⟨rfl, HBZ.out⟩
end Go.Proofs.Ytplpnammboofiaa

