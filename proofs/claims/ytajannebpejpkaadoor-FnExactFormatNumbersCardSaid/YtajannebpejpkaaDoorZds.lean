/-
  The contract of the model's text of a number of any size.
-/
import Derived.Test.YtajannebpejpkaaDoorZd
namespace Go.Proofs.YtajannebpejpkaaDoor
open Go.RowKit

/-- A digit's letter. -/
def dch (m : Nat) : UInt8 := UInt8.ofNat (48 + m)

set_option maxRecDepth 100000 in
set_option maxHeartbeats 4000000 in
theorem specDecP (z : Int) (h0 : 0 ≤ z) (h9 : z ≤ 9223372036854775807) (w : World) :
    Calls Tryd.prog 29 #[.int .i64 z] w fun e w' => e = .returned (.string (str (Lib.decDigits z.toNat))) ∧ Below w.heap.size w w' := by
  obtain ⟨N, rfl⟩ : ∃ N : Nat, z = N := ⟨z.toNat, by omega⟩
  have c1 : decide ((N : Int) < -9223372036854775807) = false := by simp
  have c2 : decide ((N : Int) < 0) = false := by simp
  have hN : (Lib.decDigits N).length ≤ 19 := decLen19 (by omega)
  have HN := Lib.hid hN
  clear hN
  have hk : Hid (∀ (wr : World) (m : Nat), m < 10 → (convert 55 9 (.slice (some ⟨wr.heap.size, 0, none⟩) 1 1)).run Tryd.prog (wr.alloc (.cells #[.int .u8 (48 + (m : Int))] 5)) = .ok (.string (str [dch m])) (wr.alloc (.cells #[.int .u8 (48 + (m : Int))] 5))) := fun wr m hm =>
    run_convert_bytes_back (P := Tryd.prog) _ 55 9 5 ⟨wr.heap.size, 0, none⟩ 1 [dch m] Tryd.underlying55 Tryd.underlying5 Tryd.underlying9 fun j hj => by
      obtain rfl : j = 0 := by simp at hj; omega
      have e : (([dch m] : List UInt8)[0].toNat : Int) = 48 + (m : Int) := by
        show ((UInt8.ofNat (48 + m)).toNat : Int) = _
        rw [UInt8.toNat_ofNat']
        omega
      rw [e]
      simp [go_sem]
  go_enter Tryd.func29, Tryd.ntmps29
  go_wp2_with fail
  go_loopw [0, 3] (fun n o wr => ∃ (m : Nat) (s : List UInt8), n = .int .i64 m ∧ m ≤ N ∧ o = .string (str s) ∧ Hid (Lib.decDigits N = Lib.decDigits m ++ s) ∧ Hid (Below w.heap.size w wr)) (fun n _ _ => (intOf n).toNat)
  case atStart => exact ⟨N, [], rfl, Nat.le_refl _, rfl, (List.append_nil _).symm, Below.refl _ _⟩
  case round =>
    obtain ⟨m, s, rfl, hm, rfl, hd, hb⟩ := hrel
    have hs : s.length ≤ 19 := by
      have h := congrArg List.length hd.out
      have h2 := HN.out
      rw [List.length_append] at h
      omega
    have n1 : ∀ d : UInt8, ¬ 9223372036854775807 < (str [d]).size + (str s).size := fun d => by
      rw [str_size, str_size]
      simp
      omega
    by_cases h10 : m < 10
    · have c3 : decide (9 < (m : Int)) = false := by simp; omega
      have hk2 := Lib.hid (hk.out wr m h10)
      have hn := n1 (dch m)
      have e1 : Hid (str [dch m] ++ str s = str (Lib.decDigits N)) := by
        show _ = _
        rw [str_append, hd.out, dec_digit h10]
        rfl
      clear n1 hd
      go_wp2_with fail
      rw [hk2.out]
      go_wp2_with fail
      rw [e1.out]
      go_ret
      exact ⟨rfl, hb.out.alloc (by have := hb.out.size; omega) _⟩
    · have c3 : decide (9 < (m : Int)) = true := by simp; omega
      have hk1 := hk.out wr (m % 10) (by omega)
      rw [show ((m % 10 : Nat) : Int) = (m : Int) % 10 by omega] at hk1
      have hk2 := Lib.hid hk1
      clear hk1
      have hn := n1 (dch (m % 10))
      have e1 : Hid (str [dch (m % 10)] ++ str s = str (dch (m % 10) :: s)) := str_append _ _
      have e2 : Hid (Lib.decDigits N = Lib.decDigits (m / 10) ++ (dch (m % 10) :: s)) := by
        show _ = _
        rw [hd.out, dec_more h10, List.append_assoc]
        rfl
      clear n1 hd
      go_wp2_with fail
      rw [hk2.out]
      go_wp2_with fail
      rw [e1.out]
      go_roundw
      case rel => exact ⟨m / 10, _, by go_num, by omega, rfl, e2.out, hb.out.alloc (by have := hb.out.size; omega) _⟩
      case measure => simp [intOf]; omega

set_option maxRecDepth 100000 in
set_option maxHeartbeats 4000000 in
theorem specDecZ (z : Int) (hz : I64 z) (w : World) :
    Calls Tryd.prog 29 #[.int .i64 z] w fun e w' => e = .returned (.string (str (Lib.itoa z))) ∧ Below w.heap.size w w' := by
  obtain ⟨h1, h2⟩ := hz
  rcases Int.lt_or_le z 0 with hn | hp
  · by_cases hm : z < -9223372036854775807
    · obtain rfl : z = -9223372036854775808 := by omega
      have e : Hid (str (Lib.itoa (-9223372036854775808)) = ⟨#[45, 57, 50, 50, 51, 51, 55, 50, 48, 51, 54, 56, 53, 52, 55, 55, 53, 56, 48, 56]⟩) := by
        show _ = _
        rw [itoa_neg hn]
        show str (45 :: Lib.decDigits 9223372036854775808) = _
        simp [Lib.decDigits, str]
      go_enter Tryd.func29, Tryd.ntmps29
      go_wp2_with fail
      go_ret
      exact ⟨by rw [e.out]; rfl, Below.refl _ _⟩
    · have c1 : decide (z < -9223372036854775807) = false := by simp; omega
      have c2 : decide (z < 0) = true := by simp; omega
      have hl := Lib.hid (decLen19 (u := (-z).toNat) (by omega))
      have q2 : ¬ 9223372036854775807 < (⟨#[45]⟩ : ByteArray).size + (str (Lib.decDigits (-z).toNat)).size := by
        have h := hl.out
        rw [str_size, show (⟨#[45]⟩ : ByteArray).size = 1 from rfl]
        omega
      have e1 : Hid ((⟨#[45]⟩ : ByteArray) ++ str (Lib.decDigits (-z).toNat) = str (Lib.itoa z)) := by
        show _ = _
        rw [itoa_neg hn]
        exact str_append [45] _
      go_enter Tryd.func29, Tryd.ntmps29
      go_wp2_with fail
      refine (specDecP (-z) (by omega) (by omega) w).mono ?_
      rintro e w2 ⟨rfl, hb2⟩
      have Hb2 := Lib.hid hb2
      clear hb2
      go_wp2_with fail
      rw [e1.out]
      go_ret
      exact ⟨rfl, Hb2.out⟩
  · rw [itoa_nonneg hp]
    exact specDecP z hp h2 w
theorem IntsAt.fits {w : World} {lo hi : Nat} {v : Value} {zs : List Int} (h : IntsAt w lo hi v zs) : ∀ z ∈ zs, I64 z := by
  obtain ⟨_, _, _, _, _, h, _⟩ := h
  exact h

set_option maxRecDepth 100000 in
set_option maxHeartbeats 2000000 in
theorem specNumsZ (lo hi : Nat) (v : Value) (zs : List Int) (w : World) (hv : IntsAt w lo hi v zs) (hB : hi ≤ w.heap.size) (hn : zs.length ≤ 1048576) :
    Calls Tryd.prog 26 #[v] w fun e w' => e = .returned (.string (str (numsZ zs))) ∧ Below w.heap.size w w' := by
  obtain ⟨A, cap, rfl, hl1, hm1, hi1⟩ := hv.form
  have HI : Hid (∀ z ∈ zs, I64 z) := hi1.fits
  have Hi1 := Lib.hid hi1
  clear hi1 hv
  go_enter Tryd.func26, Tryd.ntmps26
  go_wp2
  go_loopw [3, 8] (fun o i wr => ∃ k : Nat, k ≤ zs.length ∧ i = .int .i64 k ∧ o = .string (str (numsZTo zs k)) ∧ Hid (Below w.heap.size w wr)) (fun _ i _ => zs.length - (intOf i).toNat)
  case atStart => exact ⟨0, Nat.zero_le _, rfl, by rw [numsZTo_zero]; rfl, Below.refl _ _⟩
  case round =>
    obtain ⟨k, hk, rfl, rfl, hbr⟩ := hrel
    by_cases hkl : k < zs.length
    · obtain ⟨b3, off3, rfl, _, _, c3, _⟩ := (Hi1.out.below hbr.out hB).at_ hkl
      have hlen := numsZTo_len zs HI.out k hk
      have hz : Hid (I64 zs[k]) := HI.out _ (List.getElem_mem hkl)
      have hzl := itoa_len hz.out
      have hs1 := str_size (numsZTo zs k)
      by_cases h0 : 0 < k
      · have es := numsZ_step zs k hkl
        rw [if_pos h0] at es
        have Es := Lib.hid es
        clear es
        have sp : (str (numsZTo zs k) ++ (⟨#[32]⟩ : ByteArray)) = str (numsZTo zs k ++ [32]) := str_append _ _
        have q1 : ¬ 9223372036854775807 < (str (numsZTo zs k)).size + (⟨#[32]⟩ : ByteArray).size := by
          have : (⟨#[32]⟩ : ByteArray).size = 1 := rfl
          omega
        have q2 : ¬ 9223372036854775807 < (str (numsZTo zs k ++ [32])).size + (str (Lib.itoa zs[k])).size := by
          rw [str_size, str_size, List.length_append, List.length_singleton]
          omega
        go_wp2_with fail
        refine (specDecZ zs[k] hz.out wr).mono ?_
        rintro e w2 ⟨rfl, hb2⟩
        have Hb2 := Lib.hid (hbr.out.trans (hb2.mono hbr.out.size))
        clear hb2 hbr
        go_wp2
        rw [str_append, Es.out]
        go_roundw
        case rel => exact ⟨k + 1, by omega, by go_num, rfl, Hb2.out⟩
        case measure => simp [intOf]; omega
      · have es := numsZ_step zs k hkl
        rw [if_neg h0] at es
        have Es := Lib.hid es
        clear es
        have q2 : ¬ 9223372036854775807 < (str (numsZTo zs k)).size + (str (Lib.itoa zs[k])).size := by
          rw [str_size, str_size]
          omega
        go_wp2_with fail
        refine (specDecZ zs[k] hz.out wr).mono ?_
        rintro e w2 ⟨rfl, hb2⟩
        have Hb2 := Lib.hid (hbr.out.trans (hb2.mono hbr.out.size))
        clear hb2 hbr
        go_wp2
        rw [str_append, Es.out]
        go_roundw
        case rel => exact ⟨k + 1, by omega, by go_num, rfl, Hb2.out⟩
        case measure => simp [intOf]; omega
    · obtain rfl : k = zs.length := by omega
      rw [numsZTo_all]
      go_wp2
      go_ret
      exact ⟨rfl, hbr.out⟩

set_option maxRecDepth 100000 in
set_option maxHeartbeats 2000000 in
theorem specFmtN (lo hi : Nat) (v : Value) (zs : List Int) (w : World) (hv : IntsAt w lo hi v zs) (hB : hi ≤ w.heap.size) (hn : zs.length ≤ 1048576) :
    Calls Tryd.prog 7 #[v] w fun e w' => e = .returned (.string (str (fmtN zs))) ∧ Below w.heap.size w w' := by
  obtain ⟨A, cap, rfl, hl1, hm1, hi1⟩ := hv.form
  have Hi1 := Lib.hid hi1
  clear hi1 hv
  by_cases h0 : zs.length = 0
  · have e : Hid (str (fmtN zs) = ⟨#[45]⟩) := by show str (fmtN zs) = _; unfold fmtN; rw [if_pos h0]; rfl
    go_enter Tryd.func7, Tryd.ntmps7
    go_wp2
    go_ret
    exact ⟨by rw [e.out]; rfl, Below.refl _ _⟩
  · have e : Hid (fmtN zs = numsZ zs) := if_neg h0
    go_enter Tryd.func7, Tryd.ntmps7
    go_wp2_with fail
    refine (specNumsZ lo hi _ zs w Hi1.out hB hn).mono ?_
    rintro e2 w2 ⟨rfl, hb2⟩
    have Hb2 := Lib.hid hb2
    clear hb2
    go_wp2
    go_ret
    exact ⟨by rw [e.out]; rfl, Hb2.out⟩
end Go.Proofs.YtajannebpejpkaaDoor
