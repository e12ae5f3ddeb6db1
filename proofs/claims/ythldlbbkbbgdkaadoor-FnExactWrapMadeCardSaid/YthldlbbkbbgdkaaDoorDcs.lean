/-
  The contract of the model's text of a number, for every number.
-/
import Derived.Test.YthldlbbkbbgdkaaDoorWrd
namespace Go.Proofs.YthldlbbkbbgdkaaDoor
open Go.RowKit

theorem decDigits_big {n : Nat} (h : ¬ n < 10) : Lib.decDigits n = Lib.decDigits (n / 10) ++ [UInt8.ofNat (48 + n % 10)] := by
  rw [Lib.decDigits, dif_neg h]

set_option maxRecDepth 100000 in
set_option maxHeartbeats 2000000 in
/-- A number that is not negative. -/
theorem specDec_nat (z : Nat) (hz : (z : Int) ≤ 9223372036854775807) (w : World) :
    Calls Tryd.prog 23 #[.int .i64 z] w fun e w' => e = .returned (.string (str (Lib.decDigits z))) ∧ Below w.heap.size w w' := by
  have c1 : decide ((z : Int) < -9223372036854775807) = false := by simp <;> omega
  have c2 : decide ((z : Int) < 0) = false := by simp <;> omega
  have hconv : ∀ (v : World) (d : Nat), d ≤ 9 → (convert 52 9 (.slice (some ⟨v.heap.size, 0, none⟩) 1 1)).run Tryd.prog (v.alloc (.cells #[.int .u8 (48 + (d : Int))] 5)) = .ok (.string (str [UInt8.ofNat (48 + d)])) (v.alloc (.cells #[.int .u8 (48 + (d : Int))] 5)) := fun v d hd =>
    run_convert_bytes_back (P := Tryd.prog) _ 52 9 5 ⟨v.heap.size, 0, none⟩ 1 [UInt8.ofNat (48 + d)] Tryd.underlying52 Tryd.underlying5 Tryd.underlying9 fun j hj => by
      obtain rfl : j = 0 := by simp at hj; omega
      have e : (([UInt8.ofNat (48 + d)] : List UInt8)[0].toNat : Int) = 48 + d := by
        show ((UInt8.ofNat (48 + d)).toNat : Int) = _
        rw [UInt8.toNat_ofNat']
        omega
      rw [e]
      simp [go_sem]
  have HC := Lib.hid hconv
  clear hconv
  go_enter Tryd.func23, Tryd.ntmps23
  go_wp2
  go_loopw [0, 3] (fun n o wr => ∃ (k : Nat) (r : List UInt8), n = .int .i64 k ∧ k ≤ z ∧ o = .string (str r) ∧ r.length ≤ 20 ∧ Hid (Lib.decDigits z = Lib.decDigits k ++ r) ∧ Hid (Below w.heap.size w wr)) (fun n _ _ => (intOf n).toNat)
  case atStart => exact ⟨z, [], rfl, Nat.le_refl _, rfl, by simp, by show _ = _; simp, Below.refl _ _⟩
  case round =>
    obtain ⟨k, r, rfl, hkz, rfl, hrl, hdg, hbr⟩ := hrel
    have hdl : (Lib.decDigits z).length ≤ 20 := by
      have := itoa_len (z := (z : Int)) (by omega)
      unfold Lib.itoa at this
      rw [if_neg (by omega), Int.toNat_natCast] at this
      omega
    have hsp : (Lib.decDigits z).length = (Lib.decDigits k).length + r.length := by rw [hdg.out]; simp
    have hszr := str_size r
    have n1 : ¬ 9223372036854775807 < 1 + r.length := by omega
    clear hdl hsp
    by_cases h9 : 9 < k
    · have c3 : decide ((9 : Int) < (k : Int)) = true := by simp <;> omega
      have e1 : Int.tmod (k : Int) 10 = ((k % 10 : Nat) : Int) := by rw [Int.tmod_eq_emod_of_nonneg (by omega)]; rfl
      have e2 : Int.tdiv (k : Int) 10 = ((k / 10 : Nat) : Int) := by rw [Int.tdiv_eq_ediv_of_nonneg (by omega)]; rfl
      have hc1 : (convert 52 9 (.slice (some ⟨wr.heap.size, 0, none⟩) 1 1)).run Tryd.prog (wr.alloc (.cells #[.int .u8 (48 + (k : Int) % 10)] 5)) = .ok (.string (str [UInt8.ofNat (48 + k % 10)])) (wr.alloc (.cells #[.int .u8 (48 + (k : Int) % 10)] 5)) := by
        have h := HC.out wr (k % 10) (by omega)
        rwa [show ((k % 10 : Nat) : Int) = (k : Int) % 10 by omega] at h
      have hs1 : (str [UInt8.ofNat (48 + k % 10)]).size = 1 := by rw [str_size]; rfl
      have sa : str [UInt8.ofNat (48 + k % 10)] ++ str r = str (UInt8.ofNat (48 + k % 10) :: r) := str_append _ _
      have hdg2 : Hid (Lib.decDigits z = Lib.decDigits (k / 10) ++ UInt8.ofNat (48 + k % 10) :: r) := by
        show _ = _
        rw [hdg.out, decDigits_big (n := k) (by omega)]
        simp
      have hlen2 : Hid ((UInt8.ofNat (48 + k % 10) :: r).length ≤ 20) := by
        show _ ≤ _
        have := itoa_len (z := (z : Int)) (by omega)
        unfold Lib.itoa at this
        rw [if_neg (by omega), Int.toNat_natCast, hdg2.out, List.length_append] at this
        omega
      have hb2 : Hid (Below w.heap.size w (wr.alloc (.cells #[.int .u8 (48 + (k : Int) % 10)] 5))) := hbr.out.alloc hbr.out.size _
      obtain ⟨d8, hd8⟩ : ∃ d, d = UInt8.ofNat (48 + k % 10) := ⟨_, rfl⟩
      rw [← hd8] at hc1 hs1 sa hdg2 hlen2
      clear hd8 hdg hbr
      go_wp2
      go_roundw
      case rel => exact ⟨k / 10, d8 :: r, by go_num, by omega, rfl, hlen2.out, hdg2.out, hb2.out⟩
      case measure => simp [intOf]; omega
    · have c3 : decide ((9 : Int) < (k : Int)) = false := by simp <;> omega
      have hc1 := HC.out wr k (by omega)
      have hs1 : (str [UInt8.ofNat (48 + k)]).size = 1 := by rw [str_size]; rfl
      have sa : str [UInt8.ofNat (48 + k)] ++ str r = str (UInt8.ofNat (48 + k) :: r) := str_append _ _
      have hdg2 : Hid (Lib.decDigits z = UInt8.ofNat (48 + k) :: r) := by
        show _ = _
        rw [hdg.out, Lib.decDigits_one (by omega)]
        rfl
      have hb2 : Hid (Below w.heap.size w (wr.alloc (.cells #[.int .u8 (48 + (k : Int))] 5))) := hbr.out.alloc hbr.out.size _
      obtain ⟨d8, hd8⟩ : ∃ d, d = UInt8.ofNat (48 + k) := ⟨_, rfl⟩
      rw [← hd8] at hc1 hs1 sa hdg2
      clear hd8 hdg hbr
      go_wp2
      go_ret
      exact ⟨by rw [hdg2.out]; rfl, hb2.out⟩

set_option maxRecDepth 100000 in
set_option maxHeartbeats 2000000 in
/-- Every number. -/
theorem specDec_all (z : Int) (hz : I64 z) (w : World) :
    Calls Tryd.prog 23 #[.int .i64 z] w fun e w' => e = .returned (.string (str (Lib.itoa z))) ∧ Below w.heap.size w w' := by
  by_cases hmin : z < -9223372036854775807
  · have ez : z = -9223372036854775808 := by have := hz.1; omega
    subst ez
    have hi : Hid (Lib.itoa (-9223372036854775808) = [45, 57, 50, 50, 51, 51, 55, 50, 48, 51, 54, 56, 53, 52, 55, 55, 53, 56, 48, 56]) := by
      show _ = _
      decide +kernel
    clear hz hmin
    go_enter Tryd.func23, Tryd.ntmps23
    go_wp2
    go_ret
    exact ⟨by rw [hi.out]; rfl, Below.refl _ _⟩
  · by_cases hneg : z < 0
    · obtain ⟨m, rfl⟩ : ∃ m : Nat, z = -(m : Int) := ⟨z.natAbs, by omega⟩
      have hi : Hid (Lib.itoa (-(m : Int)) = 45 :: Lib.decDigits m) := by
        show _ = _
        unfold Lib.itoa
        rw [if_pos hneg]
        congr 2
        omega
      have c1 : ¬ (9223372036854775807 : Int) < (m : Int) := by omega
      have c2 : 0 < m := by omega
      have hm : (m : Int) ≤ 9223372036854775807 := by omega
      have hdl := Lib.hid (itoa_len hz)
      have hl : (Lib.decDigits m).length ≤ 20 := by have := hdl.out; rw [hi.out] at this; simp at this; omega
      have n1 : ¬ 9223372036854775807 < 1 + (Lib.decDigits m).length := by omega
      have hszr := str_size (Lib.decDigits m)
      have sa : (⟨#[45]⟩ : ByteArray) ++ str (Lib.decDigits m) = str (45 :: Lib.decDigits m) := str_append [45] _
      have HD := Lib.hid (specDec_nat m hm)
      clear hz hmin hneg hl
      go_enter Tryd.func23, Tryd.ntmps23
      go_wp2_with fail
      refine (HD.out w).mono ?_
      rintro e w1 ⟨rfl, hb1⟩
      have HB1 := Lib.hid hb1
      clear hb1
      go_wp2
      go_ret
      exact ⟨by rw [hi.out]; rfl, HB1.out⟩
    · obtain ⟨m, rfl⟩ : ∃ m : Nat, z = (m : Int) := ⟨z.toNat, by omega⟩
      have e : Lib.itoa (m : Int) = Lib.decDigits m := by
        unfold Lib.itoa
        rw [if_neg hneg, Int.toNat_natCast]
      rw [e]
      exact specDec_nat m (by have := hz.2; omega) w

set_option maxRecDepth 100000 in
set_option maxHeartbeats 2000000 in
theorem specWrap_any (lo hi : Nat) (m : List UInt8) (v : Value) (zs : List Int) (w : World) (hv : IntsAt w lo hi v zs) (hB : hi ≤ w.heap.size) (hm : m.length ≤ 1048576) (hz : zs.length ≤ 1048576) :
    Calls Tryd.prog 7 #[.string (str m), v] w fun e w' => e = .returned (.string (str (wrT m zs))) ∧ Below w.heap.size w w' := by
  obtain ⟨A, cap, rfl, hl1, hm1, hi1⟩ := hv.form
  have Hi := Lib.hid hi1
  have Hwf : Hid (∀ z ∈ zs, I64 z) := by
    obtain ⟨_, _, _, _, _, h, _⟩ := hv
    exact h
  clear hi1 hv
  go_enter Tryd.func7, Tryd.ntmps7
  go_wp2
  go_loopw [0, 9] (fun t i wr => ∃ k : Nat, k ≤ zs.length ∧ i = .int .i64 k ∧ t = .string (str (wrT m (zs.take k))) ∧ Hid (Below w.heap.size w wr)) (fun _ i _ => zs.length - (intOf i).toNat)
  case atStart => exact ⟨0, Nat.zero_le _, rfl, rfl, Below.refl _ _⟩
  case round =>
    obtain ⟨k, hk, rfl, rfl, hbr⟩ := hrel
    by_cases hkl : k < zs.length
    · obtain ⟨b3, off3, rfl, _, _, c3, i3⟩ := (Hi.out.below hbr.out hB).at_ hkl
      have hil := itoa_len i3
      have hstep := Lib.hid (wrT_take m zs hkl)
      have hwl : (wrT m (zs.take k)).length ≤ m.length + 23 * k := by
        have := wrT_len (m := m) (w := zs.take k) (fun z hz => Hwf.out z (List.mem_of_mem_take hz))
        rw [List.length_take] at this
        omega
      have HD := Lib.hid (specDec_all zs[k] i3)
      obtain ⟨T, hT⟩ : ∃ T, T = wrT m (zs.take k) := ⟨_, rfl⟩
      obtain ⟨D, hD⟩ : ∃ D, D = Lib.itoa zs[k] := ⟨_, rfl⟩
      rw [← hT] at hwl ⊢
      rw [← hD] at hil HD
      have s1 : (⟨#[35]⟩ : ByteArray) ++ str D = str ([35] ++ D) := str_append [35] _
      have s2 : str ([35] ++ D) ++ (⟨#[40]⟩ : ByteArray) = str ([35] ++ D ++ [40]) := str_append _ [40]
      have s3 : str ([35] ++ D ++ [40]) ++ str T = str ([35] ++ D ++ [40] ++ T) := str_append _ _
      have s4 : str ([35] ++ D ++ [40] ++ T) ++ (⟨#[41]⟩ : ByteArray) = str ([35] ++ D ++ [40] ++ T ++ [41]) := str_append _ [41]
      have hfin : Hid ([35] ++ D ++ [40] ++ T ++ [41] = wrT m (zs.take (k + 1))) := by
        show _ = _
        rw [hstep.out, hT, hD]
        rfl
      obtain ⟨L1, l1⟩ : ∃ L, L = [35] ++ D := ⟨_, rfl⟩
      rw [← l1] at s1 s2 s3 s4 hfin
      obtain ⟨L2, l2⟩ : ∃ L, L = L1 ++ [40] := ⟨_, rfl⟩
      rw [← l2] at s2 s3 s4 hfin
      obtain ⟨L3, l3⟩ : ∃ L, L = L2 ++ T := ⟨_, rfl⟩
      rw [← l3] at s3 s4 hfin
      obtain ⟨L4, l4⟩ : ∃ L, L = L3 ++ [41] := ⟨_, rfl⟩
      rw [← l4] at s4 hfin
      have k1 : L1.length = 1 + D.length := by rw [l1]; simp; omega
      have k2 : L2.length = L1.length + 1 := by rw [l2]; simp
      have k3 : L3.length = L2.length + T.length := by rw [l3]; simp
      have n1 : ¬ 9223372036854775807 < 1 + (str D).size := by rw [str_size]; omega
      have n2 : ¬ 9223372036854775807 < (str L1).size + 1 := by rw [str_size]; omega
      have n3 : ¬ 9223372036854775807 < (str L2).size + (str T).size := by rw [str_size, str_size]; omega
      have n4 : ¬ 9223372036854775807 < (str L3).size + 1 := by rw [str_size]; omega
      clear l1 l2 l3 l4 k1 k2 k3 hT hD hstep i3 hwl hil
      go_wp2_with fail
      refine (HD.out wr).mono ?_
      rintro e w1 ⟨rfl, hb1⟩
      have HB1 := Lib.hid (hbr.out.trans (hb1.mono hbr.out.size))
      clear hb1 hbr
      go_wp2
      go_roundw
      case rel => exact ⟨k + 1, by omega, by go_num, by rw [hfin.out], HB1.out⟩
      case measure => simp [intOf]; omega
    · obtain rfl : k = zs.length := by omega
      rw [List.take_length]
      go_wp2
      go_ret
      exact ⟨rfl, hbr.out⟩
end Go.Proofs.YthldlbbkbbgdkaaDoor
