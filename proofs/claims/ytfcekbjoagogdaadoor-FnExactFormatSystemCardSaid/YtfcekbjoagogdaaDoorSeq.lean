/-
  The contract of slices.Equal at slices of ints.
-/
import Derived.Test.YtfcekbjoagogdaaDoorMem
import Derived.Test.YtfcekbjoagogdaaDoorRows
import Derived.Outline
import Derived.Handy
import Derived.BigQuiet
import Derived.Deep.QuietTactic
namespace Go.Proofs.YtfcekbjoagogdaaDoor
open Go.RowKit

set_option maxRecDepth 100000 in
set_option maxHeartbeats 2000000 in
theorem slicesEqual_any (lo hi lo2 hi2 : Nat) (xv yv : Value) (xs ys : List Int) (w : World) (hx : IntsAt w lo hi xv xs) (hy : IntsAt w lo2 hi2 yv ys) (_hB : hi ≤ w.heap.size) (_hB2 : hi2 ≤ w.heap.size) :
    Calls Tryd.prog 111 #[xv, yv] w fun e w' => e = .returned (.bool (decide (xs = ys))) ∧ ∃ m, w' = w.drewN m := by
  obtain ⟨X, xap, rfl, hlx, hmx, hx1⟩ := hx.form
  obtain ⟨Y, yap, rfl, hly, hmy, hy1⟩ := hy.form
  unfold maxLen at hmx hmy
  have Hx := Lib.hid hx1
  have Hy := Lib.hid hy1
  clear hx hy hx1 hy1
  by_cases hl : xs.length = ys.length
  · have hd : ((xs.length : Int) != (ys.length : Int)) = false := by simp [hl]
    go_enter Tryd.func111, Tryd.ntmps111
    go_wp2
    clear hd
    have Hl := Lib.hid hl
    clear hl
    go_loopw [13] (fun i wr => ∃ j : Nat, j ≤ ys.length ∧ i = .int .i64 j ∧ Hid (∃ m, wr = w.drewN m) ∧ Hid (∀ k, ∀ (h1 : k < xs.length) (h2 : k < ys.length), k < j → xs[k] = ys[k])) (fun i _ => ys.length - (intOf i).toNat)
    case atStart => exact ⟨0, Nat.zero_le _, rfl, ⟨0, rfl⟩, fun k _ _ h => absurd h (by omega)⟩
    case round =>
      obtain ⟨j, hj, rfl, hb, hpre⟩ := hrel
      by_cases hlt2 : j < ys.length
      · have hlt : j < xs.length := by have := Hl.out; omega
        obtain ⟨b, off, rfl, _, _, c0, _⟩ := (show IntsAt wr lo hi _ xs from by obtain ⟨m, rfl⟩ := hb.out; exact Hx.out).at_ (k := j) hlt
        obtain ⟨b', off', rfl, _, _, c0', _⟩ := (show IntsAt wr lo2 hi2 _ ys from by obtain ⟨m, rfl⟩ := hb.out; exact Hy.out).at_ (k := j) hlt2
        have hi1 : (j : Int) < (xs.length : Int) := by omega
        have hi2' : (j : Int) < (ys.length : Int) := by omega
        by_cases he : xs[j] = ys[j]
        · have htest : (xs[j] != ys[j]) = false := by simpa using he
          have hpre2 : Hid (∀ k, ∀ (h1 : k < xs.length) (h2 : k < ys.length), k < j + 1 → xs[k] = ys[k]) := fun k h1 h2 h => by
            by_cases e : k = j
            · subst e; exact he
            · exact hpre.out k h1 h2 (by omega)
          clear he
          go_wp2
          go_quiet (fail)
          go_wp2
          go_roundw
          case rel => exact ⟨j + 1, by omega, by go_num, (by show ∃ m, _ = _; obtain ⟨m, rfl⟩ := hb.out; exact ⟨_, World.drewN_drewN ..⟩), hpre2⟩
          case measure => simp [intOf]; omega
        · have htest : (xs[j] != ys[j]) = true := by simpa using he
          have hno : Hid (decide (xs = ys) = false) := by show _ = _; exact decide_eq_false fun e => he (by subst e; rfl)
          clear he
          go_wp2
          go_quiet (fail)
          go_wp2
          go_ret
          exact ⟨ret_bool hno.out.symm, by obtain ⟨m, rfl⟩ := hb.out; exact ⟨_, World.drewN_drewN ..⟩⟩
      · obtain rfl : j = ys.length := by omega
        have hyes : Hid (decide (xs = ys) = true) := by show _ = _; exact decide_eq_true (List.ext_getElem Hl.out fun k h1 h2 => hpre.out k h1 h2 h2)
        go_wp2
        go_ret
        exact ⟨ret_bool hyes.out.symm, hb.out⟩
  · have hno : Hid (decide (xs = ys) = false) := by show _ = _; exact decide_eq_false fun e => hl (by rw [e])
    have hd : ((xs.length : Int) != (ys.length : Int)) = true := by simp; omega
    go_enter Tryd.func111, Tryd.ntmps111
    go_wp2
    go_ret
    exact ⟨ret_bool hno.out.symm, ⟨0, rfl⟩⟩
theorem slicesEqual_quiet (lo hi lo2 hi2 : Nat) (xv yv : Value) (xs ys : List Int) (w : World) (n : Nat) (b : Bool) (hb : decide (xs = ys) = b) (hx : IntsAt w lo hi xv xs) (hy : IntsAt w lo2 hi2 yv ys) (hB : hi ≤ w.heap.size) (hB2 : hi2 ≤ w.heap.size) :
    Calls Tryd.prog 111 #[xv, yv] (w.drewN n) fun e w' => e = .returned (.bool b) ∧ ∃ m, w' = w.drewN m :=
  (slicesEqual_any lo hi lo2 hi2 xv yv xs ys (w.drewN n) hx hy hB hB2).mono fun _ _ ⟨h1, m, h2⟩ => ⟨hb ▸ h1, n + m, h2.trans (World.drewN_drewN ..)⟩
end Go.Proofs.YtfcekbjoagogdaaDoor
