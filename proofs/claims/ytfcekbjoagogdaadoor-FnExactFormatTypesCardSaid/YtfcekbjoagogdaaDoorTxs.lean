/-
  The contract of the model's text of a number of one digit.
-/
import Derived.Test.YtfcekbjoagogdaaDoorTxd
namespace Go.Proofs.YtfcekbjoagogdaaDoor
open Go.RowKit

set_option maxRecDepth 100000 in
set_option maxHeartbeats 2000000 in
theorem specDec_any (z : Int) (hz : Dig z) (w : World) :
    Calls Tryd.prog 32 #[.int .i64 z] w fun e w' => e = .returned (.string (str (dg z))) ∧ Below w.heap.size w w' := by
  obtain ⟨h0, h9⟩ := hz
  have hb : Below w.heap.size w w := Below.refl _ _
  have c1 : decide (z < -9223372036854775807) = false := by simp; omega
  have c2 : decide (z < 0) = false := by simp; omega
  have c3 : decide (9 < z) = false := by simp; omega
  have hk : Hid ((convert 64 9 (.slice (some ⟨w.heap.size, 0, none⟩) 1 1)).run Tryd.prog (w.alloc (.cells #[.int .u8 (48 + z)] 5)) = .ok (.string (str (dg z))) (w.alloc (.cells #[.int .u8 (48 + z)] 5))) :=
    run_convert_bytes_back (P := Tryd.prog) _ 64 9 5 ⟨w.heap.size, 0, none⟩ 1 (dg z) Tryd.underlying64 Tryd.underlying5 Tryd.underlying9 fun j hj => by
      obtain rfl : j = 0 := by simp [dg] at hj; omega
      have e : ((dg z)[0].toNat : Int) = 48 + z := by
        have : (dg z)[0] = UInt8.ofNat (48 + z.toNat) := rfl
        rw [this, UInt8.toNat_ofNat']
        omega
      rw [e]
      simp [go_sem]
  go_enter Tryd.func32, Tryd.ntmps32
  go_wp2
  go_loop [0, 3] (fun n o => n = .int .i64 z ∧ o = .string ⟨#[]⟩) (fun _ _ => 0)
  case atStart => exact ⟨rfl, rfl⟩
  case round =>
    obtain ⟨rfl, rfl⟩ := hrel
    go_wp2
    rw [hk.out]
    go_wp2
    go_ret
    exact ⟨rfl, (Below.refl _ w).alloc (Nat.le_refl _) _⟩

/-- The text of the first k numbers, as the model's loop makes it. -/
theorem numsTo_step (zs : List Int) (k : Nat) : (if 0 < k then numsTo zs k ++ [32] else numsTo zs k) ++ dg (zs.getD k 0) = numsTo zs (k + 1) := by
  rcases Nat.eq_zero_or_pos k with rfl | h
  · rfl
  · rw [if_pos h, numsTo_succ zs h]

set_option maxRecDepth 100000 in
set_option maxHeartbeats 2000000 in
theorem specNums_any (lo hi : Nat) (v : Value) (zs : List Int) (w : World) (hv : IntsAt w lo hi v zs) (hB : hi ≤ w.heap.size) (hd : ∀ z ∈ zs, Dig z) (hn : zs.length ≤ 1048576) :
    Calls Tryd.prog 31 #[v] w fun e w' => e = .returned (.string (str (numsT zs))) ∧ Below w.heap.size w w' := by
  obtain ⟨A, cap, rfl, hl1, hm1, hi1⟩ := hv.form
  have Hi1 := Lib.hid hi1
  clear hi1 hv
  go_enter Tryd.func31, Tryd.ntmps31
  go_wp2
  go_loopw [3, 8] (fun o i wr => ∃ k : Nat, k ≤ zs.length ∧ i = .int .i64 k ∧ o = .string (str (numsTo zs k)) ∧ Hid (Below w.heap.size w wr)) (fun _ i _ => zs.length - (intOf i).toNat)
  case atStart => exact ⟨0, Nat.zero_le _, rfl, rfl, Below.refl _ _⟩
  case round =>
    obtain ⟨k, hk, rfl, rfl, hbr⟩ := hrel
    by_cases hkl : k < zs.length
    · obtain ⟨b3, off3, rfl, _, _, c3, _⟩ := (Hi1.out.below hbr.out hB).at_ hkl
      have hlen := numsTo_len zs k
      have e : zs.getD k 0 = zs[k] := by rw [List.getD_eq_getElem?_getD, List.getElem?_eq_getElem hkl]; rfl
      have hz : Hid (Dig zs[k]) := hd _ (List.getElem_mem hkl)
      have hs1 := str_size (numsTo zs k)
      by_cases h0 : 0 < k
      · have es := numsTo_step zs k
        rw [if_pos h0, e] at es
        have Es := Lib.hid es
        clear es
        have sp : (str (numsTo zs k) ++ (⟨#[32]⟩ : ByteArray)) = str (numsTo zs k ++ [32]) := str_append _ _
        have q1 : ¬ 9223372036854775807 < (str (numsTo zs k)).size + (⟨#[32]⟩ : ByteArray).size := by
          have : (⟨#[32]⟩ : ByteArray).size = 1 := rfl
          omega
        have q2 : ¬ 9223372036854775807 < (str (numsTo zs k ++ [32])).size + (str (dg zs[k])).size := by
          rw [str_size, str_size, List.length_append]
          simp [dg]
          omega
        go_wp2_with fail
        refine (specDec_any zs[k] hz.out wr).mono ?_
        rintro e w2 ⟨rfl, hb2⟩
        have Hb2 := Lib.hid (hbr.out.trans (hb2.mono hbr.out.size))
        clear hb2 hbr
        go_wp2
        rw [str_append, Es.out]
        go_roundw
        case rel => exact ⟨k + 1, by omega, by go_num, rfl, Hb2.out⟩
        case measure => simp [intOf]; omega
      · have es := numsTo_step zs k
        rw [if_neg h0, e] at es
        have Es := Lib.hid es
        clear es
        have q2 : ¬ 9223372036854775807 < (str (numsTo zs k)).size + (str (dg zs[k])).size := by
          rw [str_size, str_size]
          simp [dg]
          omega
        go_wp2_with fail
        refine (specDec_any zs[k] hz.out wr).mono ?_
        rintro e w2 ⟨rfl, hb2⟩
        have Hb2 := Lib.hid (hbr.out.trans (hb2.mono hbr.out.size))
        clear hb2 hbr
        go_wp2
        rw [str_append, Es.out]
        go_roundw
        case rel => exact ⟨k + 1, by omega, by go_num, rfl, Hb2.out⟩
        case measure => simp [intOf]; omega
    · obtain rfl : k = zs.length := by omega
      go_wp2
      go_ret
      exact ⟨rfl, hbr.out⟩
end Go.Proofs.YtfcekbjoagogdaaDoor
