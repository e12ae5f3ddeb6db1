/-
  The contracts of the functions that mark a result's memory and look whether the marks hold: numbers in one slice.
-/
import Derived.Test.YtilcahidmoaakaaRows
import Derived.Test.YtilcahidmoaakaaOwn
import Derived.Outline
import Derived.Handy
namespace Go.Proofs.Ytilcahidmoaakaa
open Go.RowKit

set_option maxHeartbeats 800000 in
theorem markIntS_any (g : Nat) (v : Value) (zs : List Int) (k0 : Int) (w : World) (hv : OwnI w 3 g v zs) (h0 : 0 ≤ k0) (h1 : k0 + zs.length ≤ 1000000000) :
    Calls Try.prog 27 #[v, .int .i64 k0] w fun e w' => e = .returned (.int .i64 (k0 + zs.length)) ∧ Kept (fun k => 0 < zs.length → k ≠ g) w w' ∧ OwnI w' 3 g v (markL k0 zs.length) ∧ w'.heap.size = w.heap.size := by
  obtain ⟨A, cap, rfl, hc, hm, hnil, hrow⟩ := hv
  generalize hn : zs.length = n at *
  unfold maxLen at hm
  by_cases hz : n = 0
  · subst hz
    go_enter Try.func27, Try.ntmps27
    go_wp2
    refine wp_loop_rounds 1 ?_
    rw [rounds_succ]
    go_wp2
    go_ret
    exact ⟨ret_int (by simp), Kept.refl _ _, ⟨A, cap, by rw [markL_len], by rw [markL_len]; omega, by unfold maxLen; omega, fun _ => by simp [markL], fun h => absurd h (by rw [markL_len]; omega)⟩, rfl⟩
  · obtain ⟨rfl, rest, hr⟩ := hrow (by omega)
    have Hr : Hid (Row w g 3 ((List.range 0).map (fun i : Nat => Value.int .i64 (k0 + (i : Int))) ++ (zs.map (Value.int .i64) ++ rest).drop 0)) := by
      show Row _ _ _ _
      simpa using hr
    have hlen : n ≤ (zs.map (Value.int .i64) ++ rest).length := by simp; omega
    generalize zs.map (Value.int .i64) ++ rest = ys at Hr hlen hr
    clear hr hrow hnil hn
    go_enter Try.func27, Try.ntmps27
    go_wp2
    go_loopw [1, 5] (fun q i wr => ∃ j : Nat, j ≤ n ∧ i = .int .i64 j ∧ q = .int .i64 (k0 + j) ∧ Hid (Kept (fun k => 0 < n → k ≠ g) w wr) ∧ Hid (wr.heap.size = w.heap.size) ∧ Hid (Row wr g 3 ((List.range j).map (fun i : Nat => Value.int .i64 (k0 + (i : Int))) ++ ys.drop j))) (fun _ i _ => n - (intOf i).toNat)
    case atStart => exact ⟨0, Nat.zero_le _, rfl, by go_num, Kept.refl _ _, rfl, Hr.out⟩
    case round =>
      obtain ⟨j, hj, rfl, rfl, hk, hs, hrw⟩ := hrel
      by_cases hlt : j < n
      · have hl2 : ((List.range j).map (fun i : Nat => Value.int .i64 (k0 + (i : Int))) ++ ys.drop j).length = ys.length := by simp; omega
        have c1 := hrw.out.cell_some (i := j) (by rw [hl2]; omega)
        have f1 := hrw.out.frozen j
        have hset := hrw.out.set_ j (.int .i64 (k0 + (j : Int)))
        rw [remark_step (fun i : Nat => Value.int .i64 (k0 + (i : Int))) ys j (by omega)] at hset
        generalize ((List.range j).map (fun i : Nat => Value.int .i64 (k0 + (i : Int))) ++ ys.drop j)[j]'(by rw [hl2]; omega) = u at c1
        have Hset := Lib.hid hset
        clear hset hl2
        go_wp2
        go_roundw
        case rel => exact ⟨j + 1, by omega, by go_num, by go_num, hk.out.setCell (fun h => h (by omega) rfl) _, by show _ = _; simpa [World.setCell] using hs.out, Hset.out⟩
        case measure => simp [intOf]; omega
      · obtain rfl : j = n := by omega
        go_wp2
        go_ret
        refine ⟨rfl, hk.out, ⟨_, _, by rw [markL_len], by rw [markL_len]; exact hc, by unfold maxLen; omega, fun h => by rw [markL_len] at h; omega, fun _ => ⟨rfl, ys.drop j, ?_⟩⟩, hs.out⟩
        have := hrw.out
        unfold markL
        rw [List.map_map]
        exact this

set_option maxHeartbeats 800000 in
/-- The marks hold. -/
theorem heldIntS_any (lo hi : Nat) (v : Value) (n : Nat) (k0 : Int) (w : World) (hv : IntsAt w lo hi v (markL k0 n)) (_hB : hi ≤ w.heap.size) (h0 : 0 ≤ k0) (h1 : k0 + n ≤ 1000000000) :
    Calls Try.prog 28 #[v, .int .i64 k0] w fun e w' => e = .returned (.int .i64 (k0 + n)) ∧ w = w' := by
  obtain ⟨A, cap, rfl, hl, hm, hz⟩ := hv.form
  have hn := markL_len k0 n
  rw [hn] at hl hz
  unfold maxLen at hm
  have Hz := Lib.hid hz
  have Hn := Lib.hid hn
  clear hz hv
  rw [hn]
  clear hn
  go_enter Try.func28, Try.ntmps28
  go_wp2
  go_loop [1, 5] (fun q i => ∃ j : Nat, j ≤ n ∧ i = .int .i64 j ∧ q = .int .i64 (k0 + j)) (fun _ i => n - (intOf i).toNat)
  case atStart => exact ⟨0, Nat.zero_le _, rfl, by go_num⟩
  case round =>
    obtain ⟨j, hj, rfl, rfl⟩ := hrel
    by_cases hlt : j < n
    · obtain ⟨b, off, rfl, _, _, c0, _⟩ := Hz.out.at_ (k := j) (by rw [Hn.out]; exact hlt)
      rw [markL_get] at c0
      have hbne : (k0 + (j : Int) != k0 + (j : Int)) = false := by simp
      go_wp2
      go_round
      case rel => exact ⟨j + 1, by omega, by go_num, by go_num⟩
      case measure => simp [intOf]; omega
    · obtain rfl : j = n := by omega
      go_wp2
      go_ret
      exact ⟨rfl, rfl⟩
end Go.Proofs.Ytilcahidmoaakaa
