/-
  The contract of the laws' ovSame: whether two lists of numbers are the same.
-/
import Derived.Test.YtplpnammboofiaaJ1
import Derived.Test.YtplpnammboofiaaJ2
import Derived.Lib.MinMax
import Derived.BigQuiet
namespace Go.Proofs.Ytplpnammboofiaa
open Go.RowKit

theorem list_ne_of {zs ys : List Int} {k : Nat} (h1 : k < zs.length) (h2 : k < ys.length) (h : zs[k] ≠ ys[k]) : decide (zs = ys) = false := by
  apply decide_eq_false
  intro e
  subst e
  exact h rfl

set_option maxRecDepth 100000 in
set_option maxHeartbeats 1000000 in
theorem ovSame_any (lo hi lo' hi' : Nat) (v v' : Value) (zs ys : List Int) (w : World) (hv : IntsAt w lo hi v zs) (hv' : IntsAt w lo' hi' v' ys) (hB : hi ≤ w.heap.size) (hB' : hi' ≤ w.heap.size) (hl0 : zs.length ≤ 1048576) (_hl0' : ys.length ≤ 1048576) :
    Calls Try.prog 20 #[v, v'] w fun e w' => e = .returned (.bool (decide (zs = ys))) ∧ Below w.heap.size w w' := by
  obtain ⟨A, cap, rfl, hl, hm, hz⟩ := hv.form
  obtain ⟨A', cap', rfl, hl', hm', hz'⟩ := hv'.form
  have Hz := Lib.hid hz
  have Hz' := Lib.hid hz'
  have hmin : Hid (∃ m : Nat, m = min zs.length ys.length) := ⟨_, rfl⟩
  obtain ⟨m, hmm⟩ := hmin.out
  have hmi : min ((zs.length : Nat) : Int) ((ys.length : Nat) : Int) = ((m : Nat) : Int) := by omega
  have hm1 : m ≤ zs.length := by omega
  have hm2 : m ≤ ys.length := by omega
  have HMM := Lib.hid hmm
  clear hz hz' hv hv' hmm hmin
  go_enter Try.func20, Try.ntmps20
  go_wp2
  go_loopw [5, 11] (fun _ i wr => ∃ k : Nat, k ≤ m ∧ i = .int .i64 k ∧ Hid (Below w.heap.size w wr) ∧ Hid (zs.take k = ys.take k)) (fun _ i _ => m - (intOf i).toNat)
  case atStart => exact ⟨0, Nat.zero_le _, rfl, Lib.hid (Below.refl _ _), Lib.hid rfl⟩
  case round =>
    obtain ⟨k, hk, rfl, hb, heq⟩ := hrel
    have hk1 : IntKind.i64.wrap ((k : Int) + 1) = (k : Int) + 1 := by rw [IntKind.wrap_i64]; omega
    by_cases hlt : k < m
    · have h1 : k < zs.length := by omega
      have h2 : k < ys.length := by omega
      obtain ⟨b, off, rfl, _, _, c0, _⟩ := (Hz.out.below hb.out hB).at_ h1
      obtain ⟨b', off', rfl, _, _, c0', _⟩ := (Hz'.out.below hb.out hB').at_ h2
      by_cases he : zs[k] = ys[k]
      · have hne : (zs[k] != ys[k]) = false := by simp [he]
        have HT : Hid (zs.take (k + 1) = ys.take (k + 1)) := by
          show _ = _
          rw [List.take_succ_eq_append_getElem h1, List.take_succ_eq_append_getElem h2, heq.out, he]
        rw [he] at c0
        go_wp2
        go_quiet (fail)
        go_wp2
        go_roundw
        case rel => exact ⟨k + 1, by omega, by go_num, Lib.hid (below_drewN hb.out _), HT⟩
        case measure => simp [intOf]; omega
      · have hne : (zs[k] != ys[k]) = true := by simp [he]
        have HF := Lib.hid (list_ne_of h1 h2 he)
        go_wp2
        go_quiet (fail)
        go_wp2
        try rw [Exit.noGoto_ret]
        refine bodyPost_ret (v := .bool false) (by simp [results, Try.results20, go_sem]) rfl ?_
        exact ⟨by rw [HF.out], below_drewN hb.out _⟩
    · obtain ⟨k2, hk2⟩ : ∃ k2 : Nat, k2 = k := ⟨_, rfl⟩
      have hkm : k = m := by omega
      have HE : Hid (decide (zs = ys) = (((zs.length : Nat) : Int) == ((ys.length : Nat) : Int))) := by
        show _ = _
        by_cases hll : zs.length = ys.length
        · have h1 := heq.out
          rw [hkm, List.take_of_length_le (by have := HMM.out; omega), List.take_of_length_le (by have := HMM.out; omega)] at h1
          rw [h1]; simp
        · have : zs ≠ ys := fun e => hll (by rw [e])
          have h2 : ((zs.length : Nat) : Int) ≠ ((ys.length : Nat) : Int) := by omega
          rw [decide_eq_false this]
          exact (beq_eq_false_iff_ne.2 h2).symm
      clear hk2
      go_wp2
      refine bodyPost_ret (v := .bool (((zs.length : Nat) : Int) == ((ys.length : Nat) : Int))) (by simp [results, Try.results20, go_sem]) rfl ?_
      exact ⟨by rw [HE.out], hb.out⟩
end Go.Proofs.Ytplpnammboofiaa

