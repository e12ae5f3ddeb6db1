/-
  The contract of the model's IsInjective.
-/
import Derived.Test.YtpifdkcgpefcaaaInj
namespace Go.Proofs.Ytpifdkcgpefcaaa
open Go.RowKit

theorem mem_take_of {zs : List Int} {k j : Nat} (hj : j < k) (hk : k < zs.length) (h : zs[j]'(by omega) = zs[k]) : zs[k] ∈ zs.take k := by
  rw [← h]
  have : (zs.take k)[j]'(by rw [List.length_take]; omega) = zs[j]'(by omega) := by simp
  rw [← this]
  exact List.getElem_mem _
theorem not_mem_take {zs : List Int} {k : Nat} (hk : k < zs.length) (h : ∀ j, j < k → ∀ (hj : j < zs.length), zs[j] ≠ zs[k]) : zs[k] ∉ zs.take k := by
  intro hm
  obtain ⟨j, hj, e⟩ := List.getElem_of_mem hm
  rw [List.length_take] at hj
  rw [List.getElem_take] at e
  exact h j (by omega) (by omega) e

set_option maxRecDepth 100000 in
set_option maxHeartbeats 4000000 in
theorem specInj_any (lo hi : Nat) (sv cv : Value) (t : Ty) (i : Int) (w : World) (hv : TyAt w lo hi sv cv t) (hB : hi ≤ w.heap.size) :
    Calls Try.prog 16 #[.agg #[sv, cv], .int .i64 i] w fun e w' => e = .returned (.bool (injB t i)) ∧ Below w.heap.size w w' := by
  obtain ⟨A, cap, rfl, hl1, hm1, _⟩ := hv.1.form
  obtain ⟨B, bap, rfl, hl2, hm2, hc1⟩ := hv.2.form
  have h3 : Below w.heap.size w (w.alloc (.cells #[.slice A t.sizes.length cap, .slice B t.cos.length bap] 26)) := by go_grown
  have hv3 := Lib.hid (hv.below h3 hB)
  have Hc1 := Lib.hid hc1
  clear hv hc1
  go_enter Try.func16, Try.ntmps16
  go_wp2_with fail
  refine (l1Coercion_any lo hi _ _ t i _ hv3.out (by simp; omega)).mono ?_
  rintro e w1 ⟨rfl, hb1⟩
  have H1 := Lib.hid (box2 (hb1.mono (by simp)))
  obtain ⟨q0, q1, hl, _⟩ := box2 (hb1.mono (by simp))
  clear hb1
  by_cases hok : hasC t i = true
  · obtain ⟨hty, hi0, hi1, hlt⟩ := hasC_of hok
    have hfin := Lib.hid (injB_yes hok hlt)
    obtain ⟨b, off, A2, cap2, rfl, hlo, hhi, c0, c1, c2, h5, h6, hs, hd, hz⟩ := (Hc1.out.below H1.out.2.2.2 hB).at_ hlt
    have Hz := Lib.hid hz
    unfold maxLen at h6
    rw [hok]
    generalize hzs : t.cos[i.toNat].map = zs at *
    clear hok hty hz hzs
    go_wp2
    go_loop [20] (fun x => ∃ k : Nat, k ≤ zs.length ∧ x = .int .i64 k ∧ Hid ((zs.take k).Nodup)) (fun x => zs.length - (intOf x).toNat)
    case atStart => exact ⟨0, Nat.zero_le _, rfl, by show List.Nodup _; simp⟩
    case round =>
      obtain ⟨k, hk, rfl, hnd⟩ := hrel
      by_cases hkl : k < zs.length
      · obtain ⟨b3, off3, rfl, _, _, e0, _⟩ := Hz.out.at_ hkl
        go_wp2
        go_loop [34] (fun x => ∃ j : Nat, j ≤ k ∧ x = .int .i64 j ∧ Hid (∀ m, m < j → ∀ (hm : m < zs.length), zs[m] ≠ zs[k])) (fun x => k - (intOf x).toNat)
        case atStart => exact ⟨0, Nat.zero_le _, rfl, fun m hm => absurd hm (by omega)⟩
        case round =>
          obtain ⟨j, hj, rfl, hne⟩ := hrel
          by_cases hjk : j < k
          · have hjl : j < zs.length := by omega
            obtain ⟨b4, off4, e4, _, _, e1, _⟩ := Hz.out.at_ hjl
            injection e4 with e4
            injection e4 with e4 e5
            subst e4 e5
            by_cases heq : zs[k] = zs[j]
            · have hfin2 : Hid (injB t i = false) := by
                show injB t i = false
                rw [hfin.out]
                exact decide_eq_false (not_nodup_of hkl (mem_take_of hjk hkl heq.symm))
              have htest : (zs[k] == zs[j]) = true := by simpa using heq
              clear heq
              go_wp2
              go_ret
              exact ⟨ret_bool hfin2.out.symm, H1.out.2.2.2⟩
            · have htest : (zs[k] == zs[j]) = false := by simpa using heq
              have Heq := Lib.hid heq
              clear heq
              go_wp2
              go_round
              case rel =>
                refine ⟨j + 1, by omega, by go_num, fun m hm hml => ?_⟩
                by_cases e : m = j
                · subst e; exact fun h => Heq.out h.symm
                · exact hne.out m (by omega) hml
              case measure => simp [intOf]; omega
          · obtain rfl : j = k := by omega
            have hnd2 : Hid ((zs.take (j + 1)).Nodup) := (nodup_take_succ hkl).2 ⟨hnd.out, not_mem_take hkl hne.out⟩
            go_wp2
            go_round
            case rel => exact ⟨j + 1, by omega, by go_num, hnd2.out⟩
            case measure => simp [intOf]; omega
      · obtain rfl : k = zs.length := by omega
        have hfin2 : Hid (injB t i = true) := by
          show injB t i = true
          rw [hfin.out]
          have := hnd.out
          rw [List.take_length] at this
          exact decide_eq_true this
        go_wp2
        go_ret
        exact ⟨ret_bool hfin2.out.symm, H1.out.2.2.2⟩
  · have hokf : hasC t i = false := by simpa using hok
    have hfin := Lib.hid (injB_no hokf)
    rw [hokf]
    clear hok hokf
    go_wp2
    go_ret
    exact ⟨ret_bool hfin.out.symm, H1.out.2.2.2⟩
end Go.Proofs.Ytpifdkcgpefcaaa
