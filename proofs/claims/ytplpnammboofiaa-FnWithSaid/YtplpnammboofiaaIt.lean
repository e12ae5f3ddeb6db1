/-
  The contract of the program's TypesValid.
-/
import Derived.Test.YtplpnammboofiaaIv
namespace Go.Proofs.Ytplpnammboofiaa
open Go.RowKit

set_option maxRecDepth 100000 in
set_option maxHeartbeats 2000000 in
theorem fits_yes (lo hi lo' hi' : Nat) (sv x y z : Value) (ss : List Int) (c : Co) (w : World) (hv : IntsAt w lo hi sv ss) (hc : CoAt w lo' hi' x y z c) (hB : hi ≤ w.heap.size) (hB' : hi' ≤ w.heap.size) (hok : sizesOk ss = true) (hyes : coHead ss c = true) :
    Calls Try.prog 48 #[.agg #[x, y, z], sv] w fun e w' => e = .returned (.bool (coOk ss c)) ∧ Below w.heap.size w w' := by
  obtain ⟨h1, h5, hall⟩ := sizesOk_of hok
  obtain ⟨rfl, rfl, hs, hd, hz⟩ := hc
  obtain ⟨A, cap, rfl, _, _, hi1⟩ := hv.form
  obtain ⟨A', cap', rfl, hl2, hm2, hi2⟩ := hz.form
  unfold I64 at hs hd
  unfold maxLen at hm2
  have hyes' := hyes
  simp only [coHead, decide_eq_true_eq] at hyes'
  obtain ⟨e1, e2, e3, e4⟩ := hyes'
  have h3 : Below w.heap.size w (w.alloc (.cells #[.int .i64 c.src, .int .i64 c.dst, .slice A' c.map.length cap'] 28)) := by go_grown
  have hA := ixB_yes (i := c.src) (n := ss.length) (by omega) (by omega)
  have hB2 := ixB_yes (i := c.dst) (n := ss.length) (by omega) (by omega)
  have hlt : c.src.toNat < ss.length := by omega
  have hlt2 : c.dst.toNat < ss.length := by omega
  have hsi2 : c.src < (ss.length : Int) := by omega
  have hle : decide (c.dst ≤ c.src) = false := by simp; omega
  obtain ⟨b, off, rfl, _, hbh, c0, _⟩ := (hi1.below h3 hB).at_ hlt
  rw [List.getD_eq_getElem?_getD, List.getElem?_eq_getElem hlt] at e4
  have hne : ((c.map.length : Int) != ss[c.src.toNat]) = false := by simpa using e4
  have hyz := Lib.hid hyes
  have h4 := Lib.hid e4
  clear hyes e4
  go_enter Try.func48, Try.ntmps48
  go_wp2_with (go_at_call 61; refine (isIndex_any _ _ _).mono ?_; rintro e w' ⟨rfl, rfl⟩)
  go_quiet (fail)
  go_wp2
  clear hA hB2 hne c0 hle
  obtain ⟨b2, off2, eb2, _, hbh2, c02, _⟩ := (hi1.below h3 hB).at_ hlt2
  injection eb2 with eb2
  injection eb2 with eb2 eo2
  subst eb2 eo2
  have hd0 : 0 ≤ c.dst := by omega
  have Hi2 := Lib.hid (hi2.below h3 hB')
  have H3 := Lib.hid h3
  clear hi1 hi2 hv hz h3 hall
  go_loop [40] (fun i => ∃ k : Nat, k ≤ c.map.length ∧ i = .int .i64 k ∧ Hid (∀ j, j < k → ∀ (hj : j < c.map.length), inB c.map[j] 0 (ss.getD c.dst.toNat 0 - 1) = true)) (fun i => c.map.length - (intOf i).toNat)
  case atStart => exact ⟨0, Nat.zero_le _, rfl, fun j hj => absurd hj (by omega)⟩
  case round =>
    obtain ⟨k, hk, rfl, hok2⟩ := hrel
    by_cases hkl : k < c.map.length
    · obtain ⟨b3, off3, rfl, _, _, c3, _⟩ := Hi2.out.at_ hkl
      by_cases hin : 0 ≤ c.map[k] ∧ c.map[k] < ss[c.dst.toNat]
      · have hin' : Hid (inB c.map[k] 0 (ss.getD c.dst.toNat 0 - 1) = true) := by
          rw [List.getD_eq_getElem?_getD, List.getElem?_eq_getElem hlt2]
          exact inB_yes hin.1 (by simp; omega)
        have hix := ixB_yes hin.1 hin.2
        clear hin
        go_wp2_with (go_at_call 61; refine (isIndex_any _ _ _).mono ?_; rintro e w' ⟨rfl, rfl⟩; rw [hix])
        go_round
        case rel =>
          refine ⟨k + 1, by omega, by go_num, fun j hj hjl => ?_⟩
          by_cases ej : j = k
          · subst ej; exact hin'.out
          · exact hok2.out j (by omega) hjl
        case measure => simp [intOf]; omega
      · have hix := ixB_no hin
        have hfin : Hid (coOk ss c = false) := by
          show coOk ss c = false
          unfold coOk
          rw [hyz.out, Bool.true_and]
          refine all_false_of k hkl ?_
          rw [List.getD_eq_getElem?_getD, List.getElem?_eq_getElem hlt2]
          by_cases h0 : 0 ≤ c.map[k]
          · exact inB_high (by simp; omega)
          · exact inB_low h0
        clear hin
        go_wp2_with (go_at_call 61; refine (isIndex_any _ _ _).mono ?_; rintro e w' ⟨rfl, rfl⟩; rw [hix])
        go_ret
        exact ⟨ret_bool hfin.out.symm, below_drewN H3.out _⟩
    · obtain rfl : k = c.map.length := by omega
      have hfin : Hid (coOk ss c = true) := by
        show coOk ss c = true
        unfold coOk
        rw [hyz.out, Bool.true_and]
        exact all_true_of fun j hj => hok2.out j hj hj
      go_wp2
      go_ret
      exact ⟨ret_bool hfin.out.symm, below_drewN H3.out _⟩

theorem fits_any (lo hi lo' hi' : Nat) (sv x y z : Value) (ss : List Int) (c : Co) (w : World) (hv : IntsAt w lo hi sv ss) (hc : CoAt w lo' hi' x y z c) (hB : hi ≤ w.heap.size) (hB' : hi' ≤ w.heap.size) (hok : sizesOk ss = true) :
    Calls Try.prog 48 #[.agg #[x, y, z], sv] w fun e w' => e = .returned (.bool (coOk ss c)) ∧ Below w.heap.size w w' := by
  by_cases h : coHead ss c = true
  · exact fits_yes lo hi lo' hi' sv x y z ss c w hv hc hB hB' hok h
  · have hf : coHead ss c = false := by simpa using h
    have e : coOk ss c = false := by unfold coOk; rw [hf, Bool.false_and]
    rw [e]
    exact fits_no lo hi lo' hi' sv x y z ss c w hv hc hB hB' hok hf

set_option maxRecDepth 100000 in
set_option maxHeartbeats 2000000 in
theorem implValid_any (lo hi : Nat) (sv cv : Value) (t : Ty) (w : World) (hv : TyAt w lo hi sv cv t) (hB : hi ≤ w.heap.size) :
    Calls Try.prog 14 #[.agg #[sv, cv]] w fun e w' => e = .returned (.bool (tyOk t)) ∧ Below w.heap.size w w' := by
  obtain ⟨A, cap, rfl, hl1, hm1, hi1⟩ := hv.1.form
  obtain ⟨B, bap, rfl, hl2, hm2, hc1⟩ := hv.2.form
  unfold maxLen at hm1 hm2
  have h3 : Below w.heap.size w (w.alloc (.cells #[.slice A t.sizes.length cap, .slice B t.cos.length bap] 26)) := by go_grown
  clear hv
  have hi0 := hi1.below h3 hB
  by_cases hA : sizesOk t.sizes = true
  · by_cases hb : t.cos.length ≤ 8
    · have hd : decide ((8 : Int) < (t.cos.length : Int)) = false := by simp; omega
      have Hc1 := Lib.hid hc1
      have Hi1 := Lib.hid hi1
      have Hi0 := Lib.hid hi0
      have H3 := Lib.hid h3
      clear hc1 hi1 h3 hi0
      go_enter Try.func14, Try.ntmps14
      go_wp2_with (go_at_call 47; refine (sizesValid_any lo hi _ t.sizes _ Hi0.out (by simp; omega)).mono ?_; rintro e w' ⟨rfl, rfl⟩; rw [hA])
      have hsz := Lib.hid hA
      clear hd hA
      have hb8 := Lib.hid (tyOk_of hsz.out hb)
      obtain ⟨wo, hwo⟩ : ∃ wo : World, wo = w.alloc (.cells #[.slice A t.sizes.length cap, .slice B t.cos.length bap] 26) := ⟨_, rfl⟩
      have hcells : wo.cell? ⟨w.heap.size, 0, none⟩ = some (.slice A t.sizes.length cap) ∧ wo.cell? ⟨w.heap.size, 1, none⟩ = some (.slice B t.cos.length bap) ∧ wo.heap.size = w.heap.size + 1 ∧ Below w.heap.size w wo := by
        subst hwo
        exact ⟨by simp [go_sem], by simp [go_sem], by simp, H3.out⟩
      rw [← hwo]
      clear hwo H3
      have Hwo := Lib.hid hcells
      clear hcells
      go_loopw [18] (fun i wr => ∃ k : Nat, k ≤ t.cos.length ∧ i = .int .i64 k ∧ Below (w.heap.size + 1) wo wr ∧ Hid (∀ j, j < k → ∀ (hj : j < t.cos.length), coOk t.sizes t.cos[j] = true)) (fun i _ => t.cos.length - (intOf i).toNat)
      case atStart => exact ⟨0, Nat.zero_le _, rfl, Below.refl _ _, fun j hj => absurd hj (by omega)⟩
      case round =>
        obtain ⟨k, hk, rfl, hbr, hok2⟩ := hrel
        have hbo : Below w.heap.size w wr := Hwo.out.2.2.2.trans (hbr.mono (by omega))
        have q0 : wr.cell? ⟨w.heap.size, 0, none⟩ = some (.slice A t.sizes.length cap) := (hbr.cell (p := ⟨w.heap.size, 0, none⟩) (by dsimp only; omega)).trans Hwo.out.1
        have q1 : wr.cell? ⟨w.heap.size, 1, none⟩ = some (.slice B t.cos.length bap) := (hbr.cell (p := ⟨w.heap.size, 1, none⟩) (by dsimp only; omega)).trans Hwo.out.2.1
        have hsr : w.heap.size + 1 ≤ wr.heap.size := by have := hbr.size; rw [Hwo.out.2.2.1] at this; exact this
        have hlr : w.heap.size < wr.heap.size := by omega
        by_cases hkl : k < t.cos.length
        · obtain ⟨b4, off4, A2, cap2, rfl, _, _, c0, c1, c2, _, _, hs4, hd4, hz4⟩ := (Hc1.out.below hbo hB).at_ hkl
          have hi4 := Hi1.out.below hbo hB
          have Hz4 := Lib.hid hz4
          have Hi4 := Lib.hid hi4
          have Hbr := Lib.hid hbr
          have Hbo := Lib.hid hbo
          clear hz4 hi4 hbr hbo
          by_cases hin : coOk t.sizes t.cos[k] = true
          · have hin' := Lib.hid hin
            go_wp2_with fail
            refine (fits_any lo hi lo hi _ _ _ _ t.sizes t.cos[k] (wr.alloc (.cells #[.int .i64 t.cos[k].src, .int .i64 t.cos[k].dst, .slice A2 t.cos[k].map.length cap2] 28)) (Hi4.out.below ((Below.refl _ _).alloc (Nat.le_refl _) _) (by omega)) ⟨rfl, rfl, hs4, hd4, Hz4.out.below ((Below.refl _ _).alloc (Nat.le_refl _) _) (by omega)⟩ (by simp; omega) (by simp; omega) hsz.out).mono ?_
            rintro e w' ⟨rfl, hbb⟩
            have Hbb := Lib.hid hbb
            clear hbb
            rw [hin]
            go_wp2
            go_roundw
            case rel =>
              refine ⟨k + 1, by omega, by go_num, (Hbr.out.alloc (by omega) _).trans (Hbb.out.mono (by simp; omega)), fun j hj hjl => ?_⟩
              by_cases ej : j = k
              · subst ej; exact hin'.out
              · exact hok2.out j (by omega) hjl
            case measure => simp [intOf]; omega
          · have hinf : coOk t.sizes t.cos[k] = false := by simpa using hin
            have hfin : Hid (tyOk t = false) := by
              show tyOk t = false
              rw [hb8.out]
              exact all_false_of k hkl hinf
            clear hin
            go_wp2_with fail
            refine (fits_any lo hi lo hi _ _ _ _ t.sizes t.cos[k] (wr.alloc (.cells #[.int .i64 t.cos[k].src, .int .i64 t.cos[k].dst, .slice A2 t.cos[k].map.length cap2] 28)) (Hi4.out.below ((Below.refl _ _).alloc (Nat.le_refl _) _) (by omega)) ⟨rfl, rfl, hs4, hd4, Hz4.out.below ((Below.refl _ _).alloc (Nat.le_refl _) _) (by omega)⟩ (by simp; omega) (by simp; omega) hsz.out).mono ?_
            rintro e w' ⟨rfl, hbb⟩
            have Hbb := Lib.hid hbb
            clear hbb
            rw [hinf]
            go_wp2
            go_ret
            exact ⟨ret_bool hfin.out.symm, (Hbo.out.alloc (by omega) _).trans (Hbb.out.mono (by simp; omega))⟩
        · obtain rfl : k = t.cos.length := by omega
          have hfin : Hid (tyOk t = true) := by
            show tyOk t = true
            rw [hb8.out]
            exact all_true_of fun j hj => hok2.out j hj hj
          have Hbo := Lib.hid hbo
          clear hbo hbr
          go_wp2
          go_ret
          exact ⟨ret_bool hfin.out.symm, Hbo.out⟩
    · have hfin : Hid (tyOk t = false) := tyOk_false2 hb
      have Hi0 := Lib.hid hi0
      clear hi0
      go_enter Try.func14, Try.ntmps14
      go_wp2_with (go_at_call 47; refine (sizesValid_any lo hi _ t.sizes _ Hi0.out (by simp; omega)).mono ?_; rintro e w' ⟨rfl, rfl⟩; rw [hA])
      go_ret
      exact ⟨ret_bool hfin.out.symm, h3⟩
  · have hAf : sizesOk t.sizes = false := by simpa using hA
    have hfin : Hid (tyOk t = false) := tyOk_false1 hAf
    have Hi0 := Lib.hid hi0
    clear hi0 hA
    go_enter Try.func14, Try.ntmps14
    go_wp2_with (go_at_call 47; refine (sizesValid_any lo hi _ t.sizes _ Hi0.out (by simp; omega)).mono ?_; rintro e w' ⟨rfl, rfl⟩; rw [hAf])
    go_ret
    exact ⟨ret_bool hfin.out.symm, h3⟩
end Go.Proofs.Ytplpnammboofiaa
