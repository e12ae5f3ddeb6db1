/-
  The contracts of the program's functions that ask whether types are valid.
-/
import Derived.Test.YtplpnammboofiaaValid
namespace Go.Proofs.Ytplpnammboofiaa
open Go.RowKit

def ixB (i n : Int) : Bool := decide (0 ≤ i ∧ i < n)
theorem ixB_yes {i n : Int} (h1 : 0 ≤ i) (h2 : i < n) : ixB i n = true := by simp [ixB, h1, h2]
theorem ixB_low {i n : Int} (h1 : ¬ 0 ≤ i) : ixB i n = false := by simp [ixB, h1]
theorem ixB_high {i n : Int} (h1 : ¬ i < n) : ixB i n = false := by simp [ixB, h1]
theorem ixB_no {i n : Int} (h : ¬ (0 ≤ i ∧ i < n)) : ixB i n = false := by simp [ixB]; omega

theorem isIndex_any (i n : Int) (w : World) : Calls Try.prog 61 #[.int .i64 i, .int .i64 n] w fun e w' => e = .returned (.bool (ixB i n)) ∧ w = w' := by
  by_cases h1 : 0 ≤ i
  · by_cases h2 : i < n
    · have H := Lib.hid (ixB_yes h1 h2)
      go_enter Try.func61, Try.ntmps61
      go_wp2
      go_ret
      exact ⟨ret_bool H.out.symm, rfl⟩
    · have H := Lib.hid (ixB_high h2)
      go_enter Try.func61, Try.ntmps61
      go_wp2
      go_ret
      exact ⟨ret_bool H.out.symm, rfl⟩
  · have H := Lib.hid (ixB_low (n := n) h1)
    go_enter Try.func61, Try.ntmps61
    go_wp2
    go_ret
    exact ⟨ret_bool H.out.symm, rfl⟩

set_option maxHeartbeats 1000000 in
theorem sizesValid_any (lo hi : Nat) (v : Value) (ss : List Int) (w : World) (hv : IntsAt w lo hi v ss) (_hB : hi ≤ w.heap.size) :
    Calls Try.prog 47 #[v] w fun e w' => e = .returned (.bool (sizesOk ss)) ∧ w = w' := by
  obtain ⟨A, cap, rfl, hl1, hm1, hi1⟩ := hv.form
  unfold maxLen at hm1
  clear hv
  by_cases ha : 1 ≤ ss.length
  · by_cases hb : ss.length ≤ 5
    · have d1 : decide ((ss.length : Int) < 1) = false := by simp; omega
      have d2 : decide ((5 : Int) < (ss.length : Int)) = false := by simp; omega
      have Hi1 := Lib.hid hi1
      clear hi1
      go_enter Try.func47, Try.ntmps47
      go_wp2
      clear d1 d2
      go_loop [15] (fun i => ∃ k : Nat, k ≤ ss.length ∧ i = .int .i64 k ∧ Hid (∀ j, j < k → ∀ (hj : j < ss.length), inB ss[j] 1 4 = true)) (fun i => ss.length - (intOf i).toNat)
      case atStart => exact ⟨0, Nat.zero_le _, rfl, fun j hj => absurd hj (by omega)⟩
      case round =>
        obtain ⟨k, hk, rfl, hok2⟩ := hrel
        by_cases hkl : k < ss.length
        · obtain ⟨b3, off3, rfl, _, _, c3, _⟩ := Hi1.out.at_ hkl
          by_cases h1 : 1 ≤ ss[k]
          · by_cases h4 : ss[k] ≤ 4
            · have hin' := Lib.hid (inB_yes h1 h4)
              go_wp2
              go_round
              case rel =>
                refine ⟨k + 1, by omega, by go_num, fun j hj hjl => ?_⟩
                by_cases ej : j = k
                · subst ej; exact hin'.out
                · exact hok2.out j (by omega) hjl
              case measure => simp [intOf]; omega
            · have hfin : Hid (sizesOk ss = false) := by
                show sizesOk ss = false
                unfold sizesOk
                rw [all_false_of (p := fun n => inB n 1 4) k hkl (inB_high h4), Bool.and_false]
              go_wp2
              go_ret
              exact ⟨ret_bool hfin.out.symm, rfl⟩
          · have hfin : Hid (sizesOk ss = false) := by
              show sizesOk ss = false
              unfold sizesOk
              rw [all_false_of (p := fun n => inB n 1 4) k hkl (inB_low h1), Bool.and_false]
            go_wp2
            go_ret
            exact ⟨ret_bool hfin.out.symm, rfl⟩
        · obtain rfl : k = ss.length := by omega
          have hfin : Hid (sizesOk ss = true) := by
            show sizesOk ss = true
            unfold sizesOk
            rw [all_true_of fun j hj => hok2.out j hj hj]
            simp [ha, hb]
          go_wp2
          go_ret
          exact ⟨ret_bool hfin.out.symm, rfl⟩
    · have hfin : Hid (sizesOk ss = false) := by
        show sizesOk ss = false
        unfold sizesOk
        simp [hb]
      go_enter Try.func47, Try.ntmps47
      go_wp2
      go_ret
      exact ⟨ret_bool hfin.out.symm, rfl⟩
  · have hfin : Hid (sizesOk ss = false) := by
      show sizesOk ss = false
      unfold sizesOk
      simp [ha]
    go_enter Try.func47, Try.ntmps47
    go_wp2
    go_ret
    exact ⟨ret_bool hfin.out.symm, rfl⟩

set_option maxRecDepth 100000 in
set_option maxHeartbeats 2000000 in
theorem fits_no (lo hi lo' hi' : Nat) (sv x y z : Value) (ss : List Int) (c : Co) (w : World) (hv : IntsAt w lo hi sv ss) (hc : CoAt w lo' hi' x y z c) (hB : hi ≤ w.heap.size) (_hB' : hi' ≤ w.heap.size) (hok : sizesOk ss = true) (hno : coHead ss c = false) :
    Calls Try.prog 48 #[.agg #[x, y, z], sv] w fun e w' => e = .returned (.bool false) ∧ Below w.heap.size w w' := by
  obtain ⟨h1, h5, hall⟩ := sizesOk_of hok
  obtain ⟨rfl, rfl, hs, hd, hz⟩ := hc
  obtain ⟨A, cap, rfl, _, _, hi1⟩ := hv.form
  obtain ⟨A', cap', rfl, hl2, hm2, hi2⟩ := hz.form
  unfold I64 at hs hd
  unfold maxLen at hm2
  have h3 : Below w.heap.size w (w.alloc (.cells #[.int .i64 c.src, .int .i64 c.dst, .slice A' c.map.length cap'] 28)) := by go_grown
  by_cases ha : 0 ≤ c.src ∧ c.src < ss.length
  · have hA := ixB_yes ha.1 ha.2
    by_cases hb : 0 ≤ c.dst ∧ c.dst < ss.length
    · have hB2 := ixB_yes hb.1 hb.2
      by_cases hlt' : c.src < c.dst
      · have hlt : c.src.toNat < ss.length := by omega
        obtain ⟨b, off, rfl, _, hbh, c0, _⟩ := (hi1.below h3 hB).at_ hlt
        have hne : ((c.map.length : Int) != ss[c.src.toNat]) = true := by
          have : ¬ (c.map.length : Int) = ss[c.src.toNat] := by
            intro e
            simp only [coHead, decide_eq_false_iff_not] at hno
            apply hno
            rw [List.getD_eq_getElem?_getD, List.getElem?_eq_getElem hlt]
            exact ⟨ha.1, by omega, by omega, e⟩
          simpa using this
        have hsi := ha.1
        have hsi2 := ha.2
        go_enter Try.func48, Try.ntmps48
        go_wp2_with (go_at_call 61; refine (isIndex_any _ _ _).mono ?_; rintro e w' ⟨rfl, rfl⟩)
        go_quiet (fail)
        go_wp2
        go_ret
        exact ⟨rfl, below_drewN h3 _⟩
      · go_enter Try.func48, Try.ntmps48
        go_wp2_with (go_at_call 61; refine (isIndex_any _ _ _).mono ?_; rintro e w' ⟨rfl, rfl⟩)
        go_ret
        exact ⟨rfl, h3⟩
    · have hB2 := ixB_no hb
      go_enter Try.func48, Try.ntmps48
      go_wp2_with (go_at_call 61; refine (isIndex_any _ _ _).mono ?_; rintro e w' ⟨rfl, rfl⟩)
      go_ret
      exact ⟨rfl, h3⟩
  · have hA := ixB_no ha
    go_enter Try.func48, Try.ntmps48
    go_wp2_with (go_at_call 61; refine (isIndex_any _ _ _).mono ?_; rintro e w' ⟨rfl, rfl⟩)
    go_ret
    exact ⟨rfl, h3⟩
end Go.Proofs.Ytplpnammboofiaa
