/-
  The contracts of GoWay, the program's and the model's.
-/
import Derived.Test.YtfnfcagdoedilaaWayc
namespace Go.Proofs.Ytfnfcagdoedilaa
open Go.RowKit

theorem endV_of {cs : List Co} {t : Ty} {k : Int} {zs : List Int} {o : Option Int} (hc : t.cos = cs) (h : wayEnd cs k zs = o) : endV t k zs = o.getD (-1) := by
  subst hc
  unfold endV
  rw [h]

set_option maxRecDepth 100000 in
set_option maxHeartbeats 1000000 in
theorem l2End_any (lo hi lo2 hi2 : Nat) (sv cv rv : Value) (t : Ty) (k : Int) (zs : List Int) (w : World) (hv : TyAt w lo hi sv cv t) (hB : hi ≤ w.heap.size) (hr : IntsAt w lo2 hi2 rv zs) (hB2 : hi2 ≤ w.heap.size) (hok : tyOk t = true) :
    Calls Try.prog 71 #[.agg #[sv, cv], .int .i64 k, rv] w fun e w' => e = .returned (.int .i64 (endV t k zs)) ∧ Below w.heap.size w w' := by
  obtain ⟨A, cap, rfl, hl1, hm1, _⟩ := hv.1.form
  obtain ⟨B, bap, rfl, hl2, hm2, hc1⟩ := hv.2.form
  obtain ⟨K, kap, rfl, hl3, hm3, hk1⟩ := hr.form
  have hfew := tyOk_few hok
  unfold maxLen at hm3
  have h3 : Below w.heap.size w (w.alloc (.cells #[.slice A t.sizes.length cap, .slice B t.cos.length bap] 26)) := by go_grown
  have H3 := Lib.hid h3
  have Hk1 := Lib.hid (hk1.below h3 hB2)
  have Hc1 := Lib.hid (hc1.below h3 hB)
  clear hv hr hk1 hc1 hok h3
  go_enter Try.func71, Try.ntmps71
  go_wp2
  go_loopw [1, 11] (fun a i wr => ∃ (j : Nat) (at' : Int), j ≤ zs.length ∧ a = .int .i64 at' ∧ i = .int .i64 j ∧ w.alloc (.cells #[.slice A t.sizes.length cap, .slice B t.cos.length bap] 26) = wr ∧ Hid (wayEnd t.cos k zs = wayEnd t.cos at' (zs.drop j))) (fun _ i _ => zs.length - (intOf i).toNat)
  case atStart => exact ⟨0, k, Nat.zero_le _, rfl, rfl, rfl, rfl⟩
  case round =>
    obtain ⟨j, at', hj, rfl, rfl, rfl, heq⟩ := hrel
    by_cases hlt : j < zs.length
    · obtain ⟨b, off, rfl, _, _, c0, _⟩ := Hk1.out.at_ hlt
      by_cases hx : 0 ≤ zs[j] ∧ zs[j] < t.cos.length
      · have hxb : inB zs[j] 0 ((t.cos.length : Int) - 1) = true := by rw [inB_ix]; exact ixB_yes hx.1 hx.2
        have hix : zs[j].toNat < t.cos.length := by omega
        obtain ⟨b3, off3, A2, cap2, rfl, hlo, hhi, d0, d1, d2, _, _, _, _, _⟩ := Hc1.out.at_ hix
        have hx0 := hx.1
        have hx1 := hx.2
        by_cases hs : t.cos[zs[j].toNat].src = at'
        · have hst := Lib.hid (heq.out.trans (wayEnd_yes hlt hx.1 hix hs))
          have htest : (t.cos[zs[j].toNat].src != at') = false := by simpa using hs
          clear hx hs
          go_wp2_with (go_at_call 98; refine (l1In_any _ _ _ _).mono ?_; rintro e w' ⟨rfl, rfl⟩; rw [hxb])
          go_roundw
          case rel => exact ⟨j + 1, _, by omega, rfl, by go_num, trivial, hst⟩
          case measure => simp [intOf]; omega
        · have hst := Lib.hid (heq.out.trans (wayEnd_other hlt hix hs))
          have htest : (t.cos[zs[j].toNat].src != at') = true := by simpa using hs
          clear hx hs
          go_wp2_with (go_at_call 98; refine (l1In_any _ _ _ _).mono ?_; rintro e w' ⟨rfl, rfl⟩; rw [hxb])
          go_ret
          exact ⟨ret_int (endV_of rfl hst.out).symm, H3.out⟩
      · have hxb : inB zs[j] 0 ((t.cos.length : Int) - 1) = false := by rw [inB_ix]; exact ixB_no hx
        have hst := Lib.hid (heq.out.trans (wayEnd_out hlt (ixB_no hx)))
        clear hx
        go_wp2_with (go_at_call 98; refine (l1In_any _ _ _ _).mono ?_; rintro e w' ⟨rfl, rfl⟩; rw [hxb])
        go_ret
        exact ⟨ret_int (endV_of rfl hst.out).symm, H3.out⟩
    · obtain rfl : j = zs.length := by omega
      have hst := Lib.hid (heq.out.trans (wayEnd_done _ _ _))
      go_wp2
      go_ret
      exact ⟨ret_int (endV_of rfl hst.out).symm, H3.out⟩

set_option maxRecDepth 100000 in
set_option maxHeartbeats 1000000 in
theorem l2Go_any (lo hi lo2 hi2 : Nat) (sv cv rv : Value) (t : Ty) (k v : Int) (zs : List Int) (w : World) (hv : TyAt w lo hi sv cv t) (hB : hi ≤ w.heap.size) (hr : IntsAt w lo2 hi2 rv zs) (hB2 : hi2 ≤ w.heap.size)
    (hok : tyOk t = true) (hval : ValOf t.sizes k v) (hway : (wayEnd t.cos k zs).isSome = true) :
    Calls Try.prog 74 #[.agg #[sv, cv], rv, .int .i64 v] w fun e w' => e = .returned (.int .i64 (goV t.cos v zs)) ∧ Below w.heap.size w w' := by
  obtain ⟨A, cap, rfl, hl1, hm1, _⟩ := hv.1.form
  obtain ⟨B, bap, rfl, hl2, hm2, hc1⟩ := hv.2.form
  obtain ⟨K, kap, rfl, hl3, hm3, hk1⟩ := hr.form
  have hfew := tyOk_few hok
  unfold maxLen at hm3
  have h3 : Below w.heap.size w (w.alloc (.cells #[.slice A t.sizes.length cap, .slice B t.cos.length bap] 26)) := by go_grown
  have H3 := Lib.hid h3
  have Hk1 := Lib.hid (hk1.below h3 hB2)
  have Hc1 := Lib.hid (hc1.below h3 hB)
  have Hok := Lib.hid hok
  have Hval := Lib.hid hval
  have Hway := Lib.hid hway
  clear hv hr hk1 hc1 hok h3 hval hway
  go_enter Try.func74, Try.ntmps74
  go_wp2
  go_loopw [2, 11] (fun a i wr => ∃ (j : Nat) (u q : Int), j ≤ zs.length ∧ a = .int .i64 u ∧ i = .int .i64 j ∧ w.alloc (.cells #[.slice A t.sizes.length cap, .slice B t.cos.length bap] 26) = wr ∧ Hid (goV t.cos v zs = goV t.cos u (zs.drop j)) ∧ Hid (ValOf t.sizes q u) ∧ Hid ((wayEnd t.cos q (zs.drop j)).isSome = true)) (fun _ i _ => zs.length - (intOf i).toNat)
  case atStart => exact ⟨0, v, k, Nat.zero_le _, rfl, rfl, rfl, rfl, Hval, Hway⟩
  case round =>
    obtain ⟨j, u, q, hj, rfl, rfl, rfl, heq, hvu, hwy⟩ := hrel
    by_cases hlt : j < zs.length
    · obtain ⟨b, off, rfl, _, _, c0, _⟩ := Hk1.out.at_ hlt
      obtain ⟨hx0, hx1, hix, hsq, hwy2⟩ := wayEnd_some hlt hwy.out
      obtain ⟨b3, off3, A2, cap2, rfl, hlo, hhi, d0, d1, d2, h5, h6, hs, hd, hz⟩ := Hc1.out.at_ hix
      have hvs : ValOf t.sizes t.cos[zs[j].toNat].src u := by rw [hsq]; exact hvu.out
      obtain ⟨hu0, hu1, hn4, hun, hlk, hvu2⟩ := valOf_step Hok.out hix hvs
      obtain ⟨b4, off4, rfl, _, _, e0, _⟩ := hz.at_ hun
      have heq2 := heq.out.trans (goV_step hlt hix)
      rw [hlk] at heq2 hvu2
      have Heq2 := Lib.hid heq2
      have Hwy2 := Lib.hid hwy2
      have Hvu2 := Lib.hid hvu2
      clear hwy2 hvu2 hvs hlk hsq hz hs hd heq2
      go_wp2
      go_roundw
      case rel => exact ⟨j + 1, _, _, by omega, rfl, by go_num, trivial, Heq2, Hvu2, Hwy2⟩
      case measure => simp [intOf]; omega
    · obtain rfl : j = zs.length := by omega
      have hst := Lib.hid (heq.out.trans (goV_done _ _ _))
      go_wp2
      go_ret
      exact ⟨ret_int hst.out.symm, H3.out⟩

theorem hasV_of {t : Ty} {k v : Int} (h : hasV t k v = true) : tyOk t = true ∧ ValOf t.sizes k v := by
  unfold hasV at h
  rw [Bool.and_eq_true] at h
  exact ⟨h.1, valOf_hasV0.1 h.2⟩
theorem goWayV_yes {t : Ty} {k v : Int} {zs : List Int} (h : hasV t k v = true) (h2 : (wayEnd t.cos k zs).isSome = true) : goWayV t k zs v = goV t.cos v zs := by unfold goWayV; rw [if_pos ⟨h, h2⟩]
theorem goWayV_no {t : Ty} {k v : Int} {zs : List Int} (h : ¬ (hasV t k v = true ∧ (wayEnd t.cos k zs).isSome = true)) : goWayV t k zs v = -1 := by unfold goWayV; rw [if_neg h]

set_option maxRecDepth 100000 in
set_option maxHeartbeats 1000000 in
theorem specGoWay_any (lo hi lo2 hi2 : Nat) (sv cv rv : Value) (t : Ty) (k v : Int) (zs : List Int) (w : World) (hv : TyAt w lo hi sv cv t) (hB : hi ≤ w.heap.size) (hr : IntsAt w lo2 hi2 rv zs) (hB2 : hi2 ≤ w.heap.size) :
    Calls Try.prog 29 #[.agg #[sv, cv], .int .i64 k, rv, .int .i64 v] w fun e w' => e = .returned (.int .i64 (goWayV t k zs v)) ∧ Below w.heap.size w w' := by
  obtain ⟨A, cap, rfl, hl1, hm1, _⟩ := hv.1.form
  obtain ⟨B, bap, rfl, hl2, hm2, hc1⟩ := hv.2.form
  have h3 : Below w.heap.size w (w.alloc (.cells #[.slice A t.sizes.length cap, .slice B t.cos.length bap] 26)) := by go_grown
  have hv3 := Lib.hid (hv.below h3 hB)
  have Hv := Lib.hid hv
  have Hr := Lib.hid hr
  clear hv hr
  go_enter Try.func29, Try.ntmps29
  go_wp2_with fail
  refine (specHas_any lo hi _ _ t k v _ hv3.out (by simp; omega)).mono ?_
  rintro e w1 ⟨rfl, hb1⟩
  have H1 := Lib.hid (box2 (hb1.mono (by simp)))
  obtain ⟨q0, q1, hl, _⟩ := box2 (hb1.mono (by simp))
  clear hb1
  by_cases hok : hasV t k v = true
  · obtain ⟨hty, hval⟩ := hasV_of hok
    have hk0 := hval.1
    have Hty := Lib.hid hty
    have Hval := Lib.hid hval
    have Hok := Lib.hid hok
    rw [hok]
    clear hok hty hval
    go_wp2_with fail
    refine (l2End_any lo hi lo2 hi2 _ _ _ t k zs _ (Hv.out.below H1.out.2.2.2 hB) (by omega) (Hr.out.below H1.out.2.2.2 hB2) (by omega) Hty.out).mono ?_
    rintro e w2 ⟨rfl, hb2⟩
    have hneg := endV_neg Hty.out (zs := zs) hk0
    have H2 := Lib.hid (H1.out.2.2.2.trans (hb2.mono (by omega)))
    have q0' : w2.cell? ⟨w.heap.size, 0, none⟩ = some (.slice A t.sizes.length cap) := (hb2.cell (p := ⟨w.heap.size, 0, none⟩) hl).trans q0
    have q1' : w2.cell? ⟨w.heap.size, 1, none⟩ = some (.slice B t.cos.length bap) := (hb2.cell (p := ⟨w.heap.size, 1, none⟩) hl).trans q1
    have hl2 : w.heap.size ≤ w2.heap.size := by have := hb2.size; omega
    clear hb2
    by_cases hw : (wayEnd t.cos k zs).isSome = true
    · have hfin := Lib.hid (goWayV_yes Hok.out hw)
      have Hw := Lib.hid hw
      rw [hw] at hneg
      clear hw q0 q1
      go_wp2_with fail
      refine (l2Go_any lo hi lo2 hi2 _ _ _ t k v zs _ (Hv.out.below H2.out hB) (by omega) (Hr.out.below H2.out hB2) (by omega) Hty.out Hval.out Hw.out).mono ?_
      rintro e w3 ⟨rfl, hb3⟩
      have H3 := Lib.hid (H2.out.trans (hb3.mono hl2))
      clear hb3
      go_wp2
      go_ret
      exact ⟨ret_int hfin.out.symm, H3.out⟩
    · have hfin := Lib.hid (goWayV_no (v := v) (fun h => hw h.2))
      have hwf : (wayEnd t.cos k zs).isSome = false := by simpa using hw
      rw [hwf] at hneg
      clear hw hwf q0 q1
      go_wp2
      go_ret
      exact ⟨ret_int hfin.out.symm, H2.out⟩
  · have hokf : hasV t k v = false := by simpa using hok
    have hfin := Lib.hid (goWayV_no (zs := zs) (fun h => hok h.1))
    rw [hokf]
    clear hok
    go_wp2
    go_ret
    exact ⟨ret_int hfin.out.symm, H1.out.2.2.2⟩
end Go.Proofs.Ytfnfcagdoedilaa
