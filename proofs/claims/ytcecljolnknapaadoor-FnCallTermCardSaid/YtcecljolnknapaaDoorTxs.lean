/-
  The contract of the model's text of a number of one digit.
-/
import Derived.Test.YtcecljolnknapaaDoorTxd
namespace Go.Proofs.YtcecljolnknapaaDoor
open Go.RowKit

set_option maxRecDepth 100000 in
set_option maxHeartbeats 2000000 in
theorem specDec_any (z : Int) (hz : Dig z) (w : World) :
    Calls Tryd.prog 63 #[.int .i64 z] w fun e w' => e = .returned (.string (str (dg z))) ∧ Below w.heap.size w w' := by
  obtain ⟨h0, h9⟩ := hz
  have hb : Below w.heap.size w w := Below.refl _ _
  have c1 : decide (z < -9223372036854775807) = false := by simp; omega
  have c2 : decide (z < 0) = false := by simp; omega
  have c3 : decide (9 < z) = false := by simp; omega
  have hk : Hid ((convert 37 9 (.slice (some ⟨w.heap.size, 0, none⟩) 1 1)).run Tryd.prog (w.alloc (.cells #[.int .u8 (48 + z)] 5)) = .ok (.string (str (dg z))) (w.alloc (.cells #[.int .u8 (48 + z)] 5))) :=
    run_convert_bytes_back (P := Tryd.prog) _ 37 9 5 ⟨w.heap.size, 0, none⟩ 1 (dg z) Tryd.underlying37 Tryd.underlying5 Tryd.underlying9 fun j hj => by
      obtain rfl : j = 0 := by simp [dg] at hj; omega
      have e : ((dg z)[0].toNat : Int) = 48 + z := by
        have : (dg z)[0] = UInt8.ofNat (48 + z.toNat) := rfl
        rw [this, UInt8.toNat_ofNat']
        omega
      rw [e]
      simp [go_sem]
  go_enter Tryd.func63, Tryd.ntmps63
  go_wp2
  go_loop [0, 3] (fun n o => n = .int .i64 z ∧ o = .string ⟨#[]⟩) (fun _ _ => 0)
  case atStart => exact ⟨rfl, rfl⟩
  case round =>
    obtain ⟨rfl, rfl⟩ := hrel
    go_wp2
    rw [hk.out]
    go_wp2
    go_ret
    exact ⟨rfl, (Below.refl _ w).alloc (Nat.le_refl _) _⟩

/-- The text of the first k numbers, as the model's loop makes it. -/
theorem numsTo_step (zs : List Int) (k : Nat) : (if 0 < k then numsTo zs k ++ [32] else numsTo zs k) ++ dg (zs.getD k 0) = numsTo zs (k + 1) := by
  rcases Nat.eq_zero_or_pos k with rfl | h
  · rfl
  · rw [if_pos h, numsTo_succ zs h]

end Go.Proofs.YtcecljolnknapaaDoor
