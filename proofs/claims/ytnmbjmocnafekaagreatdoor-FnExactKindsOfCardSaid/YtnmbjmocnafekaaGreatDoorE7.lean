/-
  The contract of the model's TypesValid.
  The contract of the program's TypesValid.
  The contracts of HasValue, the program's and the model's.
  The contracts of ApplyCoercion, the program's and the model's.
  Ways as plain data: where a row of coercions leads, and what it makes of a value. Nothing here speaks of the program.
-/
import Derived.Test.YtnmbjmocnafekaaGreatDoorE4
import Derived.Test.YtnmbjmocnafekaaGreatDoorE6
import Derived.Deep.RegionHeld3
import Derived.BigQuiet
namespace Go.Proofs.YtnmbjmocnafekaaGreatDoor
open Go.RowKit

set_option maxRecDepth 100000 in
set_option maxHeartbeats 2000000 in
theorem specValid_any (lo hi : Nat) (sv cv : Value) (t : Ty) (w : World) (hv : TyAt w lo hi sv cv t) (hB : hi ≤ w.heap.size) :
    Calls Tryz.prog 67 #[.agg #[sv, cv]] w fun e w' => e = .returned (.bool (tyOk t)) ∧ Below w.heap.size w w' := by
  obtain ⟨A, cap, rfl, hl1, hm1, hi1⟩ := hv.1.form
  obtain ⟨B, bap, rfl, hl2, hm2, hc1⟩ := hv.2.form
  unfold maxLen at hm1 hm2
  have h3 : Below w.heap.size w (w.alloc (.cells #[.slice A t.sizes.length cap, .slice B t.cos.length bap] 33)) := by go_grown
  clear hv
  by_cases ha : 1 ≤ t.sizes.length ∧ t.sizes.length ≤ 5
  · have hA : inB (t.sizes.length : Int) 1 5 = true := inB_yes (by omega) (by omega)
    by_cases hb : t.cos.length ≤ 8
    · have hd : decide ((8 : Int) < (t.cos.length : Int)) = false := by simp; omega
      have Hc1 := Lib.hid hc1
      have Hi1 := Lib.hid hi1
      have H3 := Lib.hid h3
      clear hc1 hi1 h3
      go_enter Tryz.func67, Tryz.ntmps67
      go_wp2_with (go_at_call 49; refine (l1In_any _ _ _ _).mono ?_; rintro e w' ⟨rfl, rfl⟩; rw [hA])
      clear hd hA
      go_loop [21] (fun i => ∃ k : Nat, k ≤ t.sizes.length ∧ i = .int .i64 k ∧ Hid (∀ j, j < k → ∀ (hj : j < t.sizes.length), inB t.sizes[j] 1 4 = true)) (fun i => t.sizes.length - (intOf i).toNat)
      case atStart => exact ⟨0, Nat.zero_le _, rfl, fun j hj => absurd hj (by omega)⟩
      case round =>
        obtain ⟨k, hk, rfl, hok2⟩ := hrel
        by_cases hkl : k < t.sizes.length
        · obtain ⟨b3, off3, rfl, _, _, c3, _⟩ := (Hi1.out.below H3.out hB).at_ hkl
          by_cases hin : inB t.sizes[k] 1 4 = true
          · have hin' := Lib.hid hin
            go_wp2_with (go_at_call 49; refine (l1In_any _ _ _ _).mono ?_; rintro e w' ⟨rfl, rfl⟩; rw [hin])
            go_round
            case rel =>
              refine ⟨k + 1, by omega, by go_num, fun j hj hjl => ?_⟩
              by_cases ej : j = k
              · subst ej; exact hin'.out
              · exact hok2.out j (by omega) hjl
            case measure => simp [intOf]; omega
          · have hinf : inB t.sizes[k] 1 4 = false := by simpa using hin
            have hfin : Hid (tyOk t = false) := tyOk_false1 (by
              unfold sizesOk
              rw [all_false_of k hkl hinf, Bool.and_false])
            clear hin
            go_wp2_with (go_at_call 49; refine (l1In_any _ _ _ _).mono ?_; rintro e w' ⟨rfl, rfl⟩; rw [hinf])
            go_ret
            exact ⟨ret_bool hfin.out.symm, H3.out⟩
        · obtain rfl : k = t.sizes.length := by omega
          have hsz : Hid (sizesOk t.sizes = true) := by
            show sizesOk t.sizes = true
            unfold sizesOk
            rw [all_true_of fun j hj => hok2.out j hj hj]
            simp [ha]
          go_wp2
          have hb8 := Lib.hid (tyOk_of hsz.out hb)
          clear hok2
          obtain ⟨wo, hwo⟩ : ∃ wo : World, wo = w.alloc (.cells #[.slice A t.sizes.length cap, .slice B t.cos.length bap] 33) := ⟨_, rfl⟩
          have hcells : wo.cell? ⟨w.heap.size, 0, none⟩ = some (.slice A t.sizes.length cap) ∧ wo.cell? ⟨w.heap.size, 1, none⟩ = some (.slice B t.cos.length bap) ∧ wo.heap.size = w.heap.size + 1 ∧ Below w.heap.size w wo := by
            subst hwo
            exact ⟨by simp [go_sem], by simp [go_sem], by simp, H3.out⟩
          rw [← hwo]
          clear hwo H3
          have Hwo := Lib.hid hcells
          clear hcells
          go_loopw [32] (fun i wr => ∃ k : Nat, k ≤ t.cos.length ∧ i = .int .i64 k ∧ Below (w.heap.size + 1) wo wr ∧ Hid (∀ j, j < k → ∀ (hj : j < t.cos.length), coOk t.sizes t.cos[j] = true)) (fun i _ => t.cos.length - (intOf i).toNat)
          case atStart => exact ⟨0, Nat.zero_le _, rfl, Below.refl _ _, fun j hj => absurd hj (by omega)⟩
          case round =>
            obtain ⟨k, hk, rfl, hbr, hok2⟩ := hrel
            have hbo : Below w.heap.size w wr := Hwo.out.2.2.2.trans (hbr.mono (by omega))
            have q0 : wr.cell? ⟨w.heap.size, 0, none⟩ = some (.slice A t.sizes.length cap) := (hbr.cell (p := ⟨w.heap.size, 0, none⟩) (by dsimp only; omega)).trans Hwo.out.1
            have q1 : wr.cell? ⟨w.heap.size, 1, none⟩ = some (.slice B t.cos.length bap) := (hbr.cell (p := ⟨w.heap.size, 1, none⟩) (by dsimp only; omega)).trans Hwo.out.2.1
            have hsr : w.heap.size + 1 ≤ wr.heap.size := by have := hbr.size; rw [Hwo.out.2.2.1] at this; exact this
            have hlr : w.heap.size < wr.heap.size := by omega
            by_cases hkl : k < t.cos.length
            · obtain ⟨b4, off4, A2, cap2, rfl, _, _, c0, c1, c2, _, _, hs4, hd4, hz4⟩ := (Hc1.out.below hbo hB).at_ hkl
              have hi4 := Hi1.out.below hbo hB
              have Hz4 := Lib.hid hz4
              have Hi4 := Lib.hid hi4
              have Hbr := Lib.hid hbr
              have Hbo := Lib.hid hbo
              clear hz4 hi4 hbr hbo
              by_cases hin : coOk t.sizes t.cos[k] = true
              · have hin' := Lib.hid hin
                go_wp2_with fail
                refine (l1Map_any lo hi lo hi _ _ _ _ t.sizes t.cos[k] (wr.alloc (.cells #[.int .i64 t.cos[k].src, .int .i64 t.cos[k].dst, .slice A2 t.cos[k].map.length cap2] 185)) (Hi4.out.below ((Below.refl _ _).alloc (Nat.le_refl _) _) (by omega)) ⟨rfl, rfl, hs4, hd4, Hz4.out.below ((Below.refl _ _).alloc (Nat.le_refl _) _) (by omega)⟩ (by simp; omega) (by simp; omega) hsz.out).mono ?_
                rintro e w' ⟨rfl, hbb⟩
                have Hbb := Lib.hid hbb
                clear hbb
                rw [hin]
                go_wp2
                go_roundw
                case rel =>
                  refine ⟨k + 1, by omega, by go_num, (Hbr.out.alloc (by omega) _).trans (Hbb.out.mono (by simp; omega)), fun j hj hjl => ?_⟩
                  by_cases ej : j = k
                  · subst ej; exact hin'.out
                  · exact hok2.out j (by omega) hjl
                case measure => simp [intOf]; omega
              · have hinf : coOk t.sizes t.cos[k] = false := by simpa using hin
                have hfin : Hid (tyOk t = false) := by
                  show tyOk t = false
                  rw [hb8.out]
                  exact all_false_of k hkl hinf
                clear hin
                go_wp2_with fail
                refine (l1Map_any lo hi lo hi _ _ _ _ t.sizes t.cos[k] (wr.alloc (.cells #[.int .i64 t.cos[k].src, .int .i64 t.cos[k].dst, .slice A2 t.cos[k].map.length cap2] 185)) (Hi4.out.below ((Below.refl _ _).alloc (Nat.le_refl _) _) (by omega)) ⟨rfl, rfl, hs4, hd4, Hz4.out.below ((Below.refl _ _).alloc (Nat.le_refl _) _) (by omega)⟩ (by simp; omega) (by simp; omega) hsz.out).mono ?_
                rintro e w' ⟨rfl, hbb⟩
                have Hbb := Lib.hid hbb
                clear hbb
                rw [hinf]
                go_wp2
                go_ret
                exact ⟨ret_bool hfin.out.symm, (Hbo.out.alloc (by omega) _).trans (Hbb.out.mono (by simp; omega))⟩
            · obtain rfl : k = t.cos.length := by omega
              have hfin : Hid (tyOk t = true) := by
                show tyOk t = true
                rw [hb8.out]
                exact all_true_of fun j hj => hok2.out j hj hj
              have Hbo := Lib.hid hbo
              clear hbo hbr
              go_wp2
              go_ret
              exact ⟨ret_bool hfin.out.symm, Hbo.out⟩
    · have hfin : Hid (tyOk t = false) := tyOk_false2 hb
      go_enter Tryz.func67, Tryz.ntmps67
      go_wp2_with (go_at_call 49; refine (l1In_any _ _ _ _).mono ?_; rintro e w' ⟨rfl, rfl⟩; rw [hA])
      go_ret
      exact ⟨ret_bool hfin.out.symm, h3⟩
  · have hA : inB (t.sizes.length : Int) 1 5 = false := by
      by_cases h0 : 1 ≤ t.sizes.length
      · exact inB_high (by omega)
      · exact inB_low (by omega)
    have hfin : Hid (tyOk t = false) := tyOk_false1 (by unfold sizesOk; simp [ha])
    go_enter Tryz.func67, Tryz.ntmps67
    go_wp2_with (go_at_call 49; refine (l1In_any _ _ _ _).mono ?_; rintro e w' ⟨rfl, rfl⟩; rw [hA])
    go_ret
    exact ⟨ret_bool hfin.out.symm, h3⟩
end Go.Proofs.YtnmbjmocnafekaaGreatDoor

namespace Go.Proofs.YtnmbjmocnafekaaGreatDoor
open Go.RowKit

set_option maxRecDepth 100000 in
set_option maxHeartbeats 2000000 in
theorem fits_yes (lo hi lo' hi' : Nat) (sv x y z : Value) (ss : List Int) (c : Co) (w : World) (hv : IntsAt w lo hi sv ss) (hc : CoAt w lo' hi' x y z c) (hB : hi ≤ w.heap.size) (hB' : hi' ≤ w.heap.size) (hok : sizesOk ss = true) (hyes : coHead ss c = true) :
    Calls Tryz.prog 142 #[.agg #[x, y, z], sv] w fun e w' => e = .returned (.bool (coOk ss c)) ∧ Below w.heap.size w w' := by
  obtain ⟨h1, h5, hall⟩ := sizesOk_of hok
  obtain ⟨rfl, rfl, hs, hd, hz⟩ := hc
  obtain ⟨A, cap, rfl, _, _, hi1⟩ := hv.form
  obtain ⟨A', cap', rfl, hl2, hm2, hi2⟩ := hz.form
  unfold I64 at hs hd
  unfold maxLen at hm2
  have hyes' := hyes
  simp only [coHead, decide_eq_true_eq] at hyes'
  obtain ⟨e1, e2, e3, e4⟩ := hyes'
  have h3 : Below w.heap.size w (w.alloc (.cells #[.int .i64 c.src, .int .i64 c.dst, .slice A' c.map.length cap'] 185)) := by go_grown
  have hA := ixB_yes (i := c.src) (n := ss.length) (by omega) (by omega)
  have hB2 := ixB_yes (i := c.dst) (n := ss.length) (by omega) (by omega)
  have hlt : c.src.toNat < ss.length := by omega
  have hlt2 : c.dst.toNat < ss.length := by omega
  have hsi2 : c.src < (ss.length : Int) := by omega
  have hle : decide (c.dst ≤ c.src) = false := by simp; omega
  obtain ⟨b, off, rfl, _, hbh, c0, _⟩ := (hi1.below h3 hB).at_ hlt
  rw [List.getD_eq_getElem?_getD, List.getElem?_eq_getElem hlt] at e4
  have hne : ((c.map.length : Int) != ss[c.src.toNat]) = false := by simpa using e4
  have hyz := Lib.hid hyes
  have h4 := Lib.hid e4
  clear hyes e4
  go_enter Tryz.func142, Tryz.ntmps142
  go_wp2_with (go_at_call 93; refine (isIndex_any _ _ _).mono ?_; rintro e w' ⟨rfl, rfl⟩)
  go_quiet (fail)
  go_wp2
  clear hA hB2 hne c0 hle
  obtain ⟨b2, off2, eb2, _, hbh2, c02, _⟩ := (hi1.below h3 hB).at_ hlt2
  injection eb2 with eb2
  injection eb2 with eb2 eo2
  subst eb2 eo2
  have hd0 : 0 ≤ c.dst := by omega
  have Hi2 := Lib.hid (hi2.below h3 hB')
  have H3 := Lib.hid h3
  clear hi1 hi2 hv hz h3 hall
  go_loop [40] (fun i => ∃ k : Nat, k ≤ c.map.length ∧ i = .int .i64 k ∧ Hid (∀ j, j < k → ∀ (hj : j < c.map.length), inB c.map[j] 0 (ss.getD c.dst.toNat 0 - 1) = true)) (fun i => c.map.length - (intOf i).toNat)
  case atStart => exact ⟨0, Nat.zero_le _, rfl, fun j hj => absurd hj (by omega)⟩
  case round =>
    obtain ⟨k, hk, rfl, hok2⟩ := hrel
    by_cases hkl : k < c.map.length
    · obtain ⟨b3, off3, rfl, _, _, c3, _⟩ := Hi2.out.at_ hkl
      by_cases hin : 0 ≤ c.map[k] ∧ c.map[k] < ss[c.dst.toNat]
      · have hin' : Hid (inB c.map[k] 0 (ss.getD c.dst.toNat 0 - 1) = true) := by
          rw [List.getD_eq_getElem?_getD, List.getElem?_eq_getElem hlt2]
          exact inB_yes hin.1 (by simp; omega)
        have hix := ixB_yes hin.1 hin.2
        clear hin
        go_wp2_with (go_at_call 93; refine (isIndex_any _ _ _).mono ?_; rintro e w' ⟨rfl, rfl⟩; rw [hix])
        go_round
        case rel =>
          refine ⟨k + 1, by omega, by go_num, fun j hj hjl => ?_⟩
          by_cases ej : j = k
          · subst ej; exact hin'.out
          · exact hok2.out j (by omega) hjl
        case measure => simp [intOf]; omega
      · have hix := ixB_no hin
        have hfin : Hid (coOk ss c = false) := by
          show coOk ss c = false
          unfold coOk
          rw [hyz.out, Bool.true_and]
          refine all_false_of k hkl ?_
          rw [List.getD_eq_getElem?_getD, List.getElem?_eq_getElem hlt2]
          by_cases h0 : 0 ≤ c.map[k]
          · exact inB_high (by simp; omega)
          · exact inB_low h0
        clear hin
        go_wp2_with (go_at_call 93; refine (isIndex_any _ _ _).mono ?_; rintro e w' ⟨rfl, rfl⟩; rw [hix])
        go_ret
        exact ⟨ret_bool hfin.out.symm, below_drewN H3.out _⟩
    · obtain rfl : k = c.map.length := by omega
      have hfin : Hid (coOk ss c = true) := by
        show coOk ss c = true
        unfold coOk
        rw [hyz.out, Bool.true_and]
        exact all_true_of fun j hj => hok2.out j hj hj
      go_wp2
      go_ret
      exact ⟨ret_bool hfin.out.symm, below_drewN H3.out _⟩

theorem fits_any (lo hi lo' hi' : Nat) (sv x y z : Value) (ss : List Int) (c : Co) (w : World) (hv : IntsAt w lo hi sv ss) (hc : CoAt w lo' hi' x y z c) (hB : hi ≤ w.heap.size) (hB' : hi' ≤ w.heap.size) (hok : sizesOk ss = true) :
    Calls Tryz.prog 142 #[.agg #[x, y, z], sv] w fun e w' => e = .returned (.bool (coOk ss c)) ∧ Below w.heap.size w w' := by
  by_cases h : coHead ss c = true
  · exact fits_yes lo hi lo' hi' sv x y z ss c w hv hc hB hB' hok h
  · have hf : coHead ss c = false := by simpa using h
    have e : coOk ss c = false := by unfold coOk; rw [hf, Bool.false_and]
    rw [e]
    exact fits_no lo hi lo' hi' sv x y z ss c w hv hc hB hB' hok hf

set_option maxRecDepth 100000 in
set_option maxHeartbeats 2000000 in
theorem implValid_any (lo hi : Nat) (sv cv : Value) (t : Ty) (w : World) (hv : TyAt w lo hi sv cv t) (hB : hi ≤ w.heap.size) :
    Calls Tryz.prog 109 #[.agg #[sv, cv]] w fun e w' => e = .returned (.bool (tyOk t)) ∧ Below w.heap.size w w' := by
  obtain ⟨A, cap, rfl, hl1, hm1, hi1⟩ := hv.1.form
  obtain ⟨B, bap, rfl, hl2, hm2, hc1⟩ := hv.2.form
  unfold maxLen at hm1 hm2
  have h3 : Below w.heap.size w (w.alloc (.cells #[.slice A t.sizes.length cap, .slice B t.cos.length bap] 33)) := by go_grown
  clear hv
  have hi0 := hi1.below h3 hB
  by_cases hA : sizesOk t.sizes = true
  · by_cases hb : t.cos.length ≤ 8
    · have hd : decide ((8 : Int) < (t.cos.length : Int)) = false := by simp; omega
      have Hc1 := Lib.hid hc1
      have Hi1 := Lib.hid hi1
      have Hi0 := Lib.hid hi0
      have H3 := Lib.hid h3
      clear hc1 hi1 h3 hi0
      go_enter Tryz.func109, Tryz.ntmps109
      go_wp2_with (go_at_call 141; refine (sizesValid_any lo hi _ t.sizes _ Hi0.out (by simp; omega)).mono ?_; rintro e w' ⟨rfl, rfl⟩; rw [hA])
      have hsz := Lib.hid hA
      clear hd hA
      have hb8 := Lib.hid (tyOk_of hsz.out hb)
      obtain ⟨wo, hwo⟩ : ∃ wo : World, wo = w.alloc (.cells #[.slice A t.sizes.length cap, .slice B t.cos.length bap] 33) := ⟨_, rfl⟩
      have hcells : wo.cell? ⟨w.heap.size, 0, none⟩ = some (.slice A t.sizes.length cap) ∧ wo.cell? ⟨w.heap.size, 1, none⟩ = some (.slice B t.cos.length bap) ∧ wo.heap.size = w.heap.size + 1 ∧ Below w.heap.size w wo := by
        subst hwo
        exact ⟨by simp [go_sem], by simp [go_sem], by simp, H3.out⟩
      rw [← hwo]
      clear hwo H3
      have Hwo := Lib.hid hcells
      clear hcells
      go_loopw [18] (fun i wr => ∃ k : Nat, k ≤ t.cos.length ∧ i = .int .i64 k ∧ Below (w.heap.size + 1) wo wr ∧ Hid (∀ j, j < k → ∀ (hj : j < t.cos.length), coOk t.sizes t.cos[j] = true)) (fun i _ => t.cos.length - (intOf i).toNat)
      case atStart => exact ⟨0, Nat.zero_le _, rfl, Below.refl _ _, fun j hj => absurd hj (by omega)⟩
      case round =>
        obtain ⟨k, hk, rfl, hbr, hok2⟩ := hrel
        have hbo : Below w.heap.size w wr := Hwo.out.2.2.2.trans (hbr.mono (by omega))
        have q0 : wr.cell? ⟨w.heap.size, 0, none⟩ = some (.slice A t.sizes.length cap) := (hbr.cell (p := ⟨w.heap.size, 0, none⟩) (by dsimp only; omega)).trans Hwo.out.1
        have q1 : wr.cell? ⟨w.heap.size, 1, none⟩ = some (.slice B t.cos.length bap) := (hbr.cell (p := ⟨w.heap.size, 1, none⟩) (by dsimp only; omega)).trans Hwo.out.2.1
        have hsr : w.heap.size + 1 ≤ wr.heap.size := by have := hbr.size; rw [Hwo.out.2.2.1] at this; exact this
        have hlr : w.heap.size < wr.heap.size := by omega
        by_cases hkl : k < t.cos.length
        · obtain ⟨b4, off4, A2, cap2, rfl, _, _, c0, c1, c2, _, _, hs4, hd4, hz4⟩ := (Hc1.out.below hbo hB).at_ hkl
          have hi4 := Hi1.out.below hbo hB
          have Hz4 := Lib.hid hz4
          have Hi4 := Lib.hid hi4
          have Hbr := Lib.hid hbr
          have Hbo := Lib.hid hbo
          clear hz4 hi4 hbr hbo
          by_cases hin : coOk t.sizes t.cos[k] = true
          · have hin' := Lib.hid hin
            go_wp2_with fail
            refine (fits_any lo hi lo hi _ _ _ _ t.sizes t.cos[k] (wr.alloc (.cells #[.int .i64 t.cos[k].src, .int .i64 t.cos[k].dst, .slice A2 t.cos[k].map.length cap2] 185)) (Hi4.out.below ((Below.refl _ _).alloc (Nat.le_refl _) _) (by omega)) ⟨rfl, rfl, hs4, hd4, Hz4.out.below ((Below.refl _ _).alloc (Nat.le_refl _) _) (by omega)⟩ (by simp; omega) (by simp; omega) hsz.out).mono ?_
            rintro e w' ⟨rfl, hbb⟩
            have Hbb := Lib.hid hbb
            clear hbb
            rw [hin]
            go_wp2
            go_roundw
            case rel =>
              refine ⟨k + 1, by omega, by go_num, (Hbr.out.alloc (by omega) _).trans (Hbb.out.mono (by simp; omega)), fun j hj hjl => ?_⟩
              by_cases ej : j = k
              · subst ej; exact hin'.out
              · exact hok2.out j (by omega) hjl
            case measure => simp [intOf]; omega
          · have hinf : coOk t.sizes t.cos[k] = false := by simpa using hin
            have hfin : Hid (tyOk t = false) := by
              show tyOk t = false
              rw [hb8.out]
              exact all_false_of k hkl hinf
            clear hin
            go_wp2_with fail
            refine (fits_any lo hi lo hi _ _ _ _ t.sizes t.cos[k] (wr.alloc (.cells #[.int .i64 t.cos[k].src, .int .i64 t.cos[k].dst, .slice A2 t.cos[k].map.length cap2] 185)) (Hi4.out.below ((Below.refl _ _).alloc (Nat.le_refl _) _) (by omega)) ⟨rfl, rfl, hs4, hd4, Hz4.out.below ((Below.refl _ _).alloc (Nat.le_refl _) _) (by omega)⟩ (by simp; omega) (by simp; omega) hsz.out).mono ?_
            rintro e w' ⟨rfl, hbb⟩
            have Hbb := Lib.hid hbb
            clear hbb
            rw [hinf]
            go_wp2
            go_ret
            exact ⟨ret_bool hfin.out.symm, (Hbo.out.alloc (by omega) _).trans (Hbb.out.mono (by simp; omega))⟩
        · obtain rfl : k = t.cos.length := by omega
          have hfin : Hid (tyOk t = true) := by
            show tyOk t = true
            rw [hb8.out]
            exact all_true_of fun j hj => hok2.out j hj hj
          have Hbo := Lib.hid hbo
          clear hbo hbr
          go_wp2
          go_ret
          exact ⟨ret_bool hfin.out.symm, Hbo.out⟩
    · have hfin : Hid (tyOk t = false) := tyOk_false2 hb
      have Hi0 := Lib.hid hi0
      clear hi0
      go_enter Tryz.func109, Tryz.ntmps109
      go_wp2_with (go_at_call 141; refine (sizesValid_any lo hi _ t.sizes _ Hi0.out (by simp; omega)).mono ?_; rintro e w' ⟨rfl, rfl⟩; rw [hA])
      go_ret
      exact ⟨ret_bool hfin.out.symm, h3⟩
  · have hAf : sizesOk t.sizes = false := by simpa using hA
    have hfin : Hid (tyOk t = false) := tyOk_false1 hAf
    have Hi0 := Lib.hid hi0
    clear hi0 hA
    go_enter Tryz.func109, Tryz.ntmps109
    go_wp2_with (go_at_call 141; refine (sizesValid_any lo hi _ t.sizes _ Hi0.out (by simp; omega)).mono ?_; rintro e w' ⟨rfl, rfl⟩; rw [hAf])
    go_ret
    exact ⟨ret_bool hfin.out.symm, h3⟩
end Go.Proofs.YtnmbjmocnafekaaGreatDoor

namespace Go.Proofs.YtnmbjmocnafekaaGreatDoor
open Go.RowKit

theorem inB_ix (i n : Int) : inB i 0 (n - 1) = ixB i n := by
  unfold inB ixB
  rw [decide_eq_decide]
  omega
/-- Is v a value of the type k? -/
def hasV0 (ss : List Int) (k v : Int) : Bool := ixB k ss.length && ixB v (ss.getD k.toNat 0)
def hasV (t : Ty) (k v : Int) : Bool := tyOk t && hasV0 t.sizes k v
theorem hasV0_no {ss : List Int} {k v : Int} (h : ixB k ss.length = false) : hasV0 ss k v = false := by unfold hasV0; rw [h, Bool.false_and]
theorem hasV0_yes {ss : List Int} {k v : Int} (h : ixB k ss.length = true) (hk : k.toNat < ss.length) : hasV0 ss k v = ixB v ss[k.toNat] := by
  unfold hasV0; rw [h, Bool.true_and, List.getD_eq_getElem?_getD, List.getElem?_eq_getElem hk]; rfl
theorem tyOk_sizes {t : Ty} (h : tyOk t = true) : sizesOk t.sizes = true := by
  unfold tyOk at h
  simp only [Bool.and_eq_true] at h
  exact h.1.1

set_option maxRecDepth 100000 in
set_option maxHeartbeats 1000000 in
theorem l1Has_any (lo hi : Nat) (sv cv : Value) (t : Ty) (k v : Int) (w : World) (hv : TyAt w lo hi sv cv t) (hB : hi ≤ w.heap.size) (hok : sizesOk t.sizes = true) :
    Calls Tryz.prog 87 #[.agg #[sv, cv], .int .i64 k, .int .i64 v] w fun e w' => e = .returned (.bool (hasV0 t.sizes k v)) ∧ Below w.heap.size w w' := by
  obtain ⟨A, cap, rfl, hl1, hm1, hi1⟩ := hv.1.form
  obtain ⟨B, bap, rfl, hl2, hm2, _⟩ := hv.2.form
  obtain ⟨g1, g5, hall⟩ := sizesOk_of hok
  have h3 : Below w.heap.size w (w.alloc (.cells #[.slice A t.sizes.length cap, .slice B t.cos.length bap] 33)) := by go_grown
  clear hv
  by_cases ha : 0 ≤ k ∧ k < t.sizes.length
  · have hA := ixB_yes ha.1 ha.2
    have hlt : k.toNat < t.sizes.length := by omega
    have hfin := Lib.hid (hasV0_yes (v := v) hA hlt)
    obtain ⟨b, off, rfl, _, _, c0, _⟩ := (hi1.below h3 hB).at_ hlt
    have hsz := hall _ hlt
    have hA2 : inB k 0 ((t.sizes.length : Int) - 1) = true := by rw [inB_ix]; exact hA
    have hk0 := ha.1
    have hk1 := ha.2
    clear hA hall hi1 ha
    have H3 := Lib.hid h3
    clear h3
    go_enter Tryz.func87, Tryz.ntmps87
    go_wp2_with (go_at_call 49; refine (l1In_any _ _ _ _).mono ?_; rintro e w' ⟨rfl, rfl⟩)
    go_ret
    exact ⟨ret_bool (by rw [hfin.out, inB_ix]), H3.out⟩
  · have hA := ixB_no ha
    have hfin := Lib.hid (hasV0_no (v := v) hA)
    have hA2 : inB k 0 ((t.sizes.length : Int) - 1) = false := by rw [inB_ix]; exact hA
    clear hA ha
    go_enter Tryz.func87, Tryz.ntmps87
    go_wp2_with (go_at_call 49; refine (l1In_any _ _ _ _).mono ?_; rintro e w' ⟨rfl, rfl⟩)
    go_ret
    exact ⟨ret_bool hfin.out.symm, h3⟩

end Go.Proofs.YtnmbjmocnafekaaGreatDoor

namespace Go.Proofs.YtnmbjmocnafekaaGreatDoor
open Go.RowKit

/-- A world of a class. -/
structure InC (D : World → Prop) where
  val : World
  inD : D val
/-- A region that draws its order, every operation of which yields one value in every world of a class and leaves a world of the class: one walk serves every order. -/
theorem wp_region_class {P : Program} (D : World → Prop) {id : Nat} {Q : Exit → Act → World → Prop} {a : Act} {w : World} {l : List Oper} (hm : P.follows .mixedOrders = true) (hB : Region.lexB .any l.toArray = true) (hD : D w.drew)
    (h : wpQuiet P l.toArray (fun w' => ∃ x : InC D, w' = x.val) (fun a' => ∀ w', (∃ x : InC D, w' = x.val) → Q .normal a' w') l a) : (Code.region id l.toArray true).wp P Q a w :=
  wp_region_quiet (C := fun w' => ∃ x : InC D, w' = x.val) hm hB ⟨⟨_, hD⟩, rfl⟩ (by simpa using h)

theorem lookOf_in {zs : List Int} {v : Int} (h0 : 0 ≤ v) (h : v.toNat < zs.length) : lookOf zs v = zs[v.toNat] := by
  unfold lookOf
  rw [if_pos ⟨h0, by omega⟩, List.getD_eq_getElem?_getD, List.getElem?_eq_getElem h]; rfl

/-- Are the types valid, and is there such a coercion? -/
def hasC (t : Ty) (i : Int) : Bool := tyOk t && ixB i t.cos.length
theorem hasC_of {t : Ty} {i : Int} (h : hasC t i = true) : tyOk t = true ∧ 0 ≤ i ∧ i < t.cos.length ∧ i.toNat < t.cos.length := by
  simp only [hasC, Bool.and_eq_true, ixB, decide_eq_true_eq] at h
  exact ⟨h.1, h.2.1, h.2.2, by omega⟩
theorem hasC_co {t : Ty} {i : Int} (h : hasC t i = true) (hi : i.toNat < t.cos.length) : coOk t.sizes t.cos[i.toNat] = true := by
  have h1 := (hasC_of h).1
  simp only [tyOk, Bool.and_eq_true, List.all_eq_true] at h1
  exact h1.2 _ (List.getElem_mem hi)
/-- What a coercion makes of a value. -/
def applyV (t : Ty) (i v : Int) : Int := if hasC t i = true then lookOf (t.cos.getD i.toNat default).map v else -1
theorem applyV_no {t : Ty} {i v : Int} (h : hasC t i = false) : applyV t i v = -1 := by unfold applyV; rw [h]; rfl
theorem applyV_yes {t : Ty} {i v : Int} (h : hasC t i = true) (hi : i.toNat < t.cos.length) : applyV t i v = lookOf t.cos[i.toNat].map v := by
  unfold applyV; rw [if_pos h, List.getD_eq_getElem?_getD, List.getElem?_eq_getElem hi]; rfl

end Go.Proofs.YtnmbjmocnafekaaGreatDoor

namespace Go.Proofs.YtnmbjmocnafekaaGreatDoor
open Go.RowKit

/-- The type to which a row of coercions leads from a type, if it is a way. -/
def wayEnd (cs : List Co) : Int → List Int → Option Int
  | k, [] => some k
  | k, i :: is => if ixB i cs.length = true ∧ (cs.getD i.toNat default).src = k then wayEnd cs (cs.getD i.toNat default).dst is else none
/-- What the maps of a row of coercions make of a value. -/
def goV (cs : List Co) : Int → List Int → Int
  | v, [] => v
  | v, i :: is => goV cs (lookOf (cs.getD i.toNat default).map v) is

theorem drop_get {zs : List Int} {j : Nat} (hj : j < zs.length) : zs.drop j = zs[j] :: zs.drop (j + 1) := List.drop_eq_getElem_cons hj
theorem getD_at {cs : List Co} {i : Nat} (hi : i < cs.length) : cs.getD i default = cs[i] := by rw [List.getD_eq_getElem?_getD, List.getElem?_eq_getElem hi]; rfl

theorem wayEnd_yes {cs : List Co} {k : Int} {zs : List Int} {j : Nat} (hj : j < zs.length) (h0 : 0 ≤ zs[j]) (hi : zs[j].toNat < cs.length) (hs : cs[zs[j].toNat].src = k) :
    wayEnd cs k (zs.drop j) = wayEnd cs cs[zs[j].toNat].dst (zs.drop (j + 1)) := by
  rw [drop_get hj, wayEnd, getD_at hi, if_pos ⟨ixB_yes h0 (by omega), hs⟩]
theorem wayEnd_out {cs : List Co} {k : Int} {zs : List Int} {j : Nat} (hj : j < zs.length) (h : ixB zs[j] cs.length = false) : wayEnd cs k (zs.drop j) = none := by
  rw [drop_get hj, wayEnd, if_neg (fun hh => by rw [h] at hh; exact absurd hh.1 (by simp))]
theorem wayEnd_other {cs : List Co} {k : Int} {zs : List Int} {j : Nat} (hj : j < zs.length) (hi : zs[j].toNat < cs.length) (hs : ¬ cs[zs[j].toNat].src = k) : wayEnd cs k (zs.drop j) = none := by
  rw [drop_get hj, wayEnd, getD_at hi, if_neg (fun hh => hs hh.2)]
theorem wayEnd_done (cs : List Co) (k : Int) (zs : List Int) : wayEnd cs k (zs.drop zs.length) = some k := by rw [List.drop_length]; rfl
theorem goV_step {cs : List Co} {v : Int} {zs : List Int} {j : Nat} (hj : j < zs.length) (hi : zs[j].toNat < cs.length) : goV cs v (zs.drop j) = goV cs (lookOf cs[zs[j].toNat].map v) (zs.drop (j + 1)) := by
  rw [drop_get hj, goV, getD_at hi]
theorem goV_done (cs : List Co) (v : Int) (zs : List Int) : goV cs v (zs.drop zs.length) = v := by rw [List.drop_length]; rfl

/-- A row that is a way still is one when its first coercion is gone; that coercion begins with the type. -/
theorem wayEnd_some {cs : List Co} {k : Int} {zs : List Int} {j : Nat} (hj : j < zs.length) (h : (wayEnd cs k (zs.drop j)).isSome = true) :
    0 ≤ zs[j] ∧ zs[j] < cs.length ∧ ∃ hi : zs[j].toNat < cs.length, cs[zs[j].toNat].src = k ∧ (wayEnd cs cs[zs[j].toNat].dst (zs.drop (j + 1))).isSome = true := by
  rw [drop_get hj, wayEnd] at h
  split at h
  case isTrue hh =>
    obtain ⟨h1, h2⟩ := hh
    simp only [ixB, decide_eq_true_eq] at h1
    have hi : zs[j].toNat < cs.length := by omega
    rw [getD_at hi] at h2 h
    exact ⟨h1.1, h1.2, hi, h2, h⟩
  case isFalse => simp at h

/-- A value of a type. -/
def ValOf (ss : List Int) (k v : Int) : Prop := 0 ≤ k ∧ k < ss.length ∧ 0 ≤ v ∧ v < ss.getD k.toNat 0
/-- The coercion i of valid types, and a value of its type. -/
theorem tyOk_co {t : Ty} (h : tyOk t = true) {i : Nat} (hi : i < t.cos.length) : coOk t.sizes t.cos[i] = true := by
  simp only [tyOk, Bool.and_eq_true, List.all_eq_true] at h
  exact h.2 _ (List.getElem_mem hi)
theorem tyOk_few {t : Ty} (h : tyOk t = true) : t.cos.length ≤ 8 := by
  simp only [tyOk, Bool.and_eq_true, decide_eq_true_eq] at h
  exact h.1.2
theorem valOf_step {t : Ty} (h : tyOk t = true) {i : Nat} (hi : i < t.cos.length) {v : Int} (hv : ValOf t.sizes t.cos[i].src v) :
    0 ≤ v ∧ v < t.cos[i].map.length ∧ t.cos[i].map.length ≤ 4 ∧ ∃ hn : v.toNat < t.cos[i].map.length, lookOf t.cos[i].map v = t.cos[i].map[v.toNat] ∧ ValOf t.sizes t.cos[i].dst (lookOf t.cos[i].map v) := by
  obtain ⟨h1, h2, h3, h4, h5⟩ := coOk_of (tyOk_co h hi)
  obtain ⟨g1, g2, g3, g4⟩ := hv
  have hs : t.cos[i].src.toNat < t.sizes.length := by omega
  have hsz := (sizesOk_of (tyOk_sizes h)).2.2 _ hs
  have e : t.sizes.getD t.cos[i].src.toNat 0 = t.sizes[t.cos[i].src.toNat] := by rw [List.getD_eq_getElem?_getD, List.getElem?_eq_getElem hs]; rfl
  have hn : v.toNat < t.cos[i].map.length := by omega
  have hl := lookOf_in g3 hn
  obtain ⟨h6, h7⟩ := h5 _ hn
  exact ⟨g3, by omega, by omega, hn, hl, by omega, h3, by omega, by omega⟩
theorem valOf_hasV0 {ss : List Int} {k v : Int} : hasV0 ss k v = true ↔ ValOf ss k v := by
  simp only [hasV0, ixB, Bool.and_eq_true, decide_eq_true_eq, ValOf]
  exact ⟨fun h => ⟨h.1.1, h.1.2, h.2.1, h.2.2⟩, fun h => ⟨⟨h.1, h.2.1⟩, h.2.2.1, h.2.2.2⟩⟩

/-- What GoWay answers. -/
def goWayV (t : Ty) (k : Int) (zs : List Int) (v : Int) : Int := if hasV t k v = true ∧ (wayEnd t.cos k zs).isSome = true then goV t.cos v zs else -1
/-- The end of a way, -1 if it is none. -/
def endV (t : Ty) (k : Int) (zs : List Int) : Int := (wayEnd t.cos k zs).getD (-1)
theorem wayEnd_ge {t : Ty} (h : tyOk t = true) : ∀ (zs : List Int) (k e : Int), 0 ≤ k → wayEnd t.cos k zs = some e → 0 ≤ e := by
  intro zs
  induction zs with
  | nil => intro k e hk he; simp only [wayEnd, Option.some.injEq] at he; omega
  | cons i is ih =>
    intro k e hk he
    rw [wayEnd] at he
    split at he
    case isTrue hh =>
      have h1 := hh.1
      simp only [ixB, decide_eq_true_eq] at h1
      have hi : i.toNat < t.cos.length := by omega
      rw [getD_at hi] at he
      have := coOk_of (tyOk_co h hi)
      exact ih _ _ (by omega) he
    case isFalse => cases he
theorem endV_neg {t : Ty} (h : tyOk t = true) {zs : List Int} {k : Int} (hk : 0 ≤ k) : decide (endV t k zs < 0) = !(wayEnd t.cos k zs).isSome := by
  unfold endV
  cases he : wayEnd t.cos k zs with
  | none => rfl
  | some e =>
    have := wayEnd_ge h zs k e hk he
    simp
    omega
end Go.Proofs.YtnmbjmocnafekaaGreatDoor

