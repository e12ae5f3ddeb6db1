/-
  The contract of the model's TypesValid.
-/
import Derived.Test.YtplpnammboofiaaValid
namespace Go.Proofs.Ytplpnammboofiaa
open Go.RowKit

set_option maxRecDepth 100000 in
set_option maxHeartbeats 2000000 in
theorem specValid_any (lo hi : Nat) (sv cv : Value) (t : Ty) (w : World) (hv : TyAt w lo hi sv cv t) (hB : hi ≤ w.heap.size) :
    Calls Try.prog 35 #[.agg #[sv, cv]] w fun e w' => e = .returned (.bool (tyOk t)) ∧ Below w.heap.size w w' := by
  obtain ⟨A, cap, rfl, hl1, hm1, hi1⟩ := hv.1.form
  obtain ⟨B, bap, rfl, hl2, hm2, hc1⟩ := hv.2.form
  unfold maxLen at hm1 hm2
  have h3 : Below w.heap.size w (w.alloc (.cells #[.slice A t.sizes.length cap, .slice B t.cos.length bap] 26)) := by go_grown
  clear hv
  by_cases ha : 1 ≤ t.sizes.length ∧ t.sizes.length ≤ 5
  · have hA : inB (t.sizes.length : Int) 1 5 = true := inB_yes (by omega) (by omega)
    by_cases hb : t.cos.length ≤ 8
    · have hd : decide ((8 : Int) < (t.cos.length : Int)) = false := by simp; omega
      have Hc1 := Lib.hid hc1
      have Hi1 := Lib.hid hi1
      have H3 := Lib.hid h3
      clear hc1 hi1 h3
      go_enter Try.func35, Try.ntmps35
      go_wp2_with (go_at_call 74; refine (l1In_any _ _ _ _).mono ?_; rintro e w' ⟨rfl, rfl⟩; rw [hA])
      clear hd hA
      go_loop [21] (fun i => ∃ k : Nat, k ≤ t.sizes.length ∧ i = .int .i64 k ∧ Hid (∀ j, j < k → ∀ (hj : j < t.sizes.length), inB t.sizes[j] 1 4 = true)) (fun i => t.sizes.length - (intOf i).toNat)
      case atStart => exact ⟨0, Nat.zero_le _, rfl, fun j hj => absurd hj (by omega)⟩
      case round =>
        obtain ⟨k, hk, rfl, hok2⟩ := hrel
        by_cases hkl : k < t.sizes.length
        · obtain ⟨b3, off3, rfl, _, _, c3, _⟩ := (Hi1.out.below H3.out hB).at_ hkl
          by_cases hin : inB t.sizes[k] 1 4 = true
          · have hin' := Lib.hid hin
            go_wp2_with (go_at_call 74; refine (l1In_any _ _ _ _).mono ?_; rintro e w' ⟨rfl, rfl⟩; rw [hin])
            go_round
            case rel =>
              refine ⟨k + 1, by omega, by go_num, fun j hj hjl => ?_⟩
              by_cases ej : j = k
              · subst ej; exact hin'.out
              · exact hok2.out j (by omega) hjl
            case measure => simp [intOf]; omega
          · have hinf : inB t.sizes[k] 1 4 = false := by simpa using hin
            have hfin : Hid (tyOk t = false) := tyOk_false1 (by
              unfold sizesOk
              rw [all_false_of k hkl hinf, Bool.and_false])
            clear hin
            go_wp2_with (go_at_call 74; refine (l1In_any _ _ _ _).mono ?_; rintro e w' ⟨rfl, rfl⟩; rw [hinf])
            go_ret
            exact ⟨ret_bool hfin.out.symm, H3.out⟩
        · obtain rfl : k = t.sizes.length := by omega
          have hsz : Hid (sizesOk t.sizes = true) := by
            show sizesOk t.sizes = true
            unfold sizesOk
            rw [all_true_of fun j hj => hok2.out j hj hj]
            simp [ha]
          go_wp2
          have hb8 := Lib.hid (tyOk_of hsz.out hb)
          clear hok2
          obtain ⟨wo, hwo⟩ : ∃ wo : World, wo = w.alloc (.cells #[.slice A t.sizes.length cap, .slice B t.cos.length bap] 26) := ⟨_, rfl⟩
          have hcells : wo.cell? ⟨w.heap.size, 0, none⟩ = some (.slice A t.sizes.length cap) ∧ wo.cell? ⟨w.heap.size, 1, none⟩ = some (.slice B t.cos.length bap) ∧ wo.heap.size = w.heap.size + 1 ∧ Below w.heap.size w wo := by
            subst hwo
            exact ⟨by simp [go_sem], by simp [go_sem], by simp, H3.out⟩
          rw [← hwo]
          clear hwo H3
          have Hwo := Lib.hid hcells
          clear hcells
          go_loopw [32] (fun i wr => ∃ k : Nat, k ≤ t.cos.length ∧ i = .int .i64 k ∧ Below (w.heap.size + 1) wo wr ∧ Hid (∀ j, j < k → ∀ (hj : j < t.cos.length), coOk t.sizes t.cos[j] = true)) (fun i _ => t.cos.length - (intOf i).toNat)
          case atStart => exact ⟨0, Nat.zero_le _, rfl, Below.refl _ _, fun j hj => absurd hj (by omega)⟩
          case round =>
            obtain ⟨k, hk, rfl, hbr, hok2⟩ := hrel
            have hbo : Below w.heap.size w wr := Hwo.out.2.2.2.trans (hbr.mono (by omega))
            have q0 : wr.cell? ⟨w.heap.size, 0, none⟩ = some (.slice A t.sizes.length cap) := (hbr.cell (p := ⟨w.heap.size, 0, none⟩) (by dsimp only; omega)).trans Hwo.out.1
            have q1 : wr.cell? ⟨w.heap.size, 1, none⟩ = some (.slice B t.cos.length bap) := (hbr.cell (p := ⟨w.heap.size, 1, none⟩) (by dsimp only; omega)).trans Hwo.out.2.1
            have hsr : w.heap.size + 1 ≤ wr.heap.size := by have := hbr.size; rw [Hwo.out.2.2.1] at this; exact this
            have hlr : w.heap.size < wr.heap.size := by omega
            by_cases hkl : k < t.cos.length
            · obtain ⟨b4, off4, A2, cap2, rfl, _, _, c0, c1, c2, _, _, hs4, hd4, hz4⟩ := (Hc1.out.below hbo hB).at_ hkl
              have hi4 := Hi1.out.below hbo hB
              have Hz4 := Lib.hid hz4
              have Hi4 := Lib.hid hi4
              have Hbr := Lib.hid hbr
              have Hbo := Lib.hid hbo
              clear hz4 hi4 hbr hbo
              by_cases hin : coOk t.sizes t.cos[k] = true
              · have hin' := Lib.hid hin
                go_wp2_with fail
                refine (l1Map_any lo hi lo hi _ _ _ _ t.sizes t.cos[k] (wr.alloc (.cells #[.int .i64 t.cos[k].src, .int .i64 t.cos[k].dst, .slice A2 t.cos[k].map.length cap2] 28)) (Hi4.out.below ((Below.refl _ _).alloc (Nat.le_refl _) _) (by omega)) ⟨rfl, rfl, hs4, hd4, Hz4.out.below ((Below.refl _ _).alloc (Nat.le_refl _) _) (by omega)⟩ (by simp; omega) (by simp; omega) hsz.out).mono ?_
                rintro e w' ⟨rfl, hbb⟩
                have Hbb := Lib.hid hbb
                clear hbb
                rw [hin]
                go_wp2
                go_roundw
                case rel =>
                  refine ⟨k + 1, by omega, by go_num, (Hbr.out.alloc (by omega) _).trans (Hbb.out.mono (by simp; omega)), fun j hj hjl => ?_⟩
                  by_cases ej : j = k
                  · subst ej; exact hin'.out
                  · exact hok2.out j (by omega) hjl
                case measure => simp [intOf]; omega
              · have hinf : coOk t.sizes t.cos[k] = false := by simpa using hin
                have hfin : Hid (tyOk t = false) := by
                  show tyOk t = false
                  rw [hb8.out]
                  exact all_false_of k hkl hinf
                clear hin
                go_wp2_with fail
                refine (l1Map_any lo hi lo hi _ _ _ _ t.sizes t.cos[k] (wr.alloc (.cells #[.int .i64 t.cos[k].src, .int .i64 t.cos[k].dst, .slice A2 t.cos[k].map.length cap2] 28)) (Hi4.out.below ((Below.refl _ _).alloc (Nat.le_refl _) _) (by omega)) ⟨rfl, rfl, hs4, hd4, Hz4.out.below ((Below.refl _ _).alloc (Nat.le_refl _) _) (by omega)⟩ (by simp; omega) (by simp; omega) hsz.out).mono ?_
                rintro e w' ⟨rfl, hbb⟩
                have Hbb := Lib.hid hbb
                clear hbb
                rw [hinf]
                go_wp2
                go_ret
                exact ⟨ret_bool hfin.out.symm, (Hbo.out.alloc (by omega) _).trans (Hbb.out.mono (by simp; omega))⟩
            · obtain rfl : k = t.cos.length := by omega
              have hfin : Hid (tyOk t = true) := by
                show tyOk t = true
                rw [hb8.out]
                exact all_true_of fun j hj => hok2.out j hj hj
              have Hbo := Lib.hid hbo
              clear hbo hbr
              go_wp2
              go_ret
              exact ⟨ret_bool hfin.out.symm, Hbo.out⟩
    · have hfin : Hid (tyOk t = false) := tyOk_false2 hb
      go_enter Try.func35, Try.ntmps35
      go_wp2_with (go_at_call 74; refine (l1In_any _ _ _ _).mono ?_; rintro e w' ⟨rfl, rfl⟩; rw [hA])
      go_ret
      exact ⟨ret_bool hfin.out.symm, h3⟩
  · have hA : inB (t.sizes.length : Int) 1 5 = false := by
      by_cases h0 : 1 ≤ t.sizes.length
      · exact inB_high (by omega)
      · exact inB_low (by omega)
    have hfin : Hid (tyOk t = false) := tyOk_false1 (by unfold sizesOk; simp [ha])
    go_enter Try.func35, Try.ntmps35
    go_wp2_with (go_at_call 74; refine (l1In_any _ _ _ _).mono ?_; rintro e w' ⟨rfl, rfl⟩; rw [hA])
    go_ret
    exact ⟨ret_bool hfin.out.symm, h3⟩
end Go.Proofs.Ytplpnammboofiaa
