/-
  The walk of the law FnSizes.
-/
import Derived.Test.YtcecljolnknapaaDoorDsz
import Derived.Test.YtcecljolnknapaaDoorFsd
import Derived.Test.YtcecljolnknapaaDoorTrs
import Derived.Test.YtcecljolnknapaaDoorSz6
import Derived.Test.YtcecljolnknapaaDoorNmi
import Derived.Test.YtcecljolnknapaaDoorNms6
import Derived.Test.YtcecljolnknapaaDoorTrx
namespace Go.Proofs.YtcecljolnknapaaDoor
open Go.RowKit

set_option maxRecDepth 100000 in
set_option maxHeartbeats 4000000 in
theorem lawFsz_walk (v : Value) (n : Nat) (a : Addr) (W : World) (hE : Ev W n a) (hn : n ≤ W.heap.size) (hv : CodeAt W W.heap.size v) :
    Calls Tryd.prog 12 #[v] W fun e W' => e = .returned (.bool true) ∧ Below W.heap.size W W' := by
  have HD := Lib.hid (drawSize_any v W hv)
  have HEv := Lib.hid hE
  obtain ⟨A, cl, cc, rfl, hcl, hcc, _⟩ := hv
  unfold maxLen at hcc
  clear hE
  by_cases hbig : 1048576 < cl
  · have h1 : (1048576 : Int) < (cl : Int) := by omega
    go_enter Tryd.func12, Tryd.ntmps12
    go_wp2
    go_ret
    exact ⟨rfl, Below.refl _ _⟩
  · have h1 : ¬ (1048576 : Int) < (cl : Int) := by omega
    go_enter Tryd.func12, Tryd.ntmps12
    go_wp2_with fail
    refine HD.out.mono ?_
    rintro e w1 ⟨L, rfl, hL, hb1⟩
    have HB1 := Lib.hid hb1
    clear hb1 HD
    have hL1 : L.length ≤ 1048576 := by omega
    have I1 : Hid (∀ u, Below W.heap.size W u → Calls Tryd.prog 32 #[.string (str L)] u fun e w' => e = .returned (.int .i64 (numP sizeT L)) ∧ Below u.heap.size u w') := fun u hb => implSizeOf_any L n a u (HEv.out.under hb) (Nat.le_trans hn hb.size) hL1
    have I2 : Hid (∀ u, Below W.heap.size W u → Calls Tryd.prog 34 #[.string (str L)] u fun e w' => e = .returned (.int .i64 (numP depthT L)) ∧ Below u.heap.size u w') := fun u hb => implDepthOf_any L n a u (HEv.out.under hb) (Nat.le_trans hn hb.size) hL1
    have I3 : Hid (∀ u, Below W.heap.size W u → Calls Tryd.prog 36 #[.string (str L)] u fun e w' => e = .returned (.string (str (nmV L))) ∧ Below u.heap.size u w') := fun u hb => implNames_any L n a u (HEv.out.under hb) (Nat.le_trans hn hb.size) hL1
    have S1 : Hid (∀ u, Calls Tryd.prog 31 #[.string (str L)] u fun e w' => e = .returned (.int .i64 (numP sizeT L)) ∧ Below u.heap.size u w') := fun u => specSizeOf_any L hL1 u
    have S2 : Hid (∀ u, Calls Tryd.prog 33 #[.string (str L)] u fun e w' => e = .returned (.int .i64 (numP depthT L)) ∧ Below u.heap.size u w') := fun u => specDepthOf_any L hL1 u
    have S3 : Hid (∀ u, Calls Tryd.prog 35 #[.string (str L)] u fun e w' => e = .returned (.string (str (nmV L))) ∧ Below u.heap.size u w') := fun u => specNames_any L hL1 u
    have hfacts : Hid ((parseT L = none ∧ numP sizeT L = -1 ∧ numP depthT L = -1 ∧ nmV L = []) ∨ (∃ s d : Nat, numP sizeT L = s ∧ numP depthT L = d ∧ s = L.count 58 + L.count 40 ∧ d ≤ L.count 40 ∧ (d = 0 ↔ L.count 40 = 0) ∧ (nmV L).length ≤ L.count 40 ∧ (nmV L = [] ↔ L.count 40 = 0))) := by
      cases hp : parseT L with
      | none => exact .inl ⟨rfl, numP_none _ hp, numP_none _ hp, by unfold nmV; rw [hp]; rfl⟩
      | some t =>
        obtain ⟨ho, e, _⟩ := parseT_tmT.1 hp
        obtain ⟨c1, c2, c3, c4⟩ := counts t ho
        have g1 := nmV_len hp
        have g2 := nmV_nil hp
        refine .inr ⟨sizeT t, depthT t, numP_some _ hp, numP_some _ hp, ?_, ?_, ?_, ?_, ?_⟩
        · rw [e]; exact c1
        · rw [e]; exact c3
        · rw [e]; exact c4
        · rw [e, ← c2, ← e]; exact g1
        · rw [g2, c2, e]
    obtain ⟨N, hN⟩ : ∃ N, N = numP sizeT L := ⟨_, rfl⟩
    obtain ⟨D, hD⟩ : ∃ D, D = numP depthT L := ⟨_, rfl⟩
    obtain ⟨X, hX⟩ : ∃ X, X = nmV L := ⟨_, rfl⟩
    rw [← hN] at I1 S1 hfacts
    rw [← hD] at I2 S2 hfacts
    rw [← hX] at I3 S3 hfacts
    clear hN hD hX
    go_wp2_with fail
    refine (I1.out w1 HB1.out).mono ?_
    rintro e w2 ⟨rfl, hb⟩
    have HB2 := Lib.hid (HB1.out.trans (hb.mono HB1.out.size))
    clear hb
    go_wp2_with fail
    refine (I2.out w2 HB2.out).mono ?_
    rintro e w3 ⟨rfl, hb⟩
    have HB3 := Lib.hid (HB2.out.trans (hb.mono HB2.out.size))
    clear hb
    go_wp2_with fail
    refine (I3.out w3 HB3.out).mono ?_
    rintro e w4 ⟨rfl, hb⟩
    have HB4 := Lib.hid (HB3.out.trans (hb.mono HB3.out.size))
    clear hb
    rcases hfacts.out with ⟨_, rfl, rfl, rfl⟩ | ⟨s, d, rfl, rfl, hs, hd, hd0, hx, hx0⟩
    · have e0 : str [] = (⟨#[]⟩ : ByteArray) := rfl
      rw [e0] at I3 S3
      clear hfacts I1 I2 I3
      go_wp2_with fail
      refine (S1.out w4).mono ?_
      rintro e w5 ⟨rfl, hb⟩
      have HB5 := Lib.hid (HB4.out.trans (hb.mono HB4.out.size))
      clear hb
      go_wp2_with fail
      refine (S2.out w5).mono ?_
      rintro e w6 ⟨rfl, hb⟩
      have HB6 := Lib.hid (HB5.out.trans (hb.mono HB5.out.size))
      clear hb
      go_wp2_with fail
      refine (S3.out w6).mono ?_
      rintro e w7 ⟨rfl, hb⟩
      have HB7 := Lib.hid (HB6.out.trans (hb.mono HB6.out.size))
      clear hb
      go_wp2_with fail
      refine (S1.out w7).mono ?_
      rintro e w8 ⟨rfl, hb⟩
      have HB8 := Lib.hid (HB7.out.trans (hb.mono HB7.out.size))
      clear hb
      go_wp2_with fail
      refine (S2.out w8).mono ?_
      rintro e w9 ⟨rfl, hb⟩
      have HB9 := Lib.hid (HB8.out.trans (hb.mono HB8.out.size))
      clear hb
      go_wp2_with fail
      refine (S3.out w9).mono ?_
      rintro e w10 ⟨rfl, hb⟩
      have HB10 := Lib.hid (HB9.out.trans (hb.mono HB9.out.size))
      clear hb
      go_wp2
      go_ret
      exact ⟨rfl, HB10.out⟩
    · have hsz := str_size L
      have hcl40 : L.count 40 ≤ L.length := List.count_le_length
      have hcl58 : L.count 58 ≤ L.length := List.count_le_length
      have hs0 : ¬ (s : Int) < 0 := by omega
      have HSs := Lib.hid hs
      have hsl : s ≤ 300 := by omega
      clear hs
      clear hfacts I1 I2 I3
      go_wp2_with fail
      refine (S1.out w4).mono ?_
      rintro e w5 ⟨rfl, hb⟩
      have HB5 := Lib.hid (HB4.out.trans (hb.mono HB4.out.size))
      clear hb
      go_wp2_with fail
      refine (S2.out w5).mono ?_
      rintro e w6 ⟨rfl, hb⟩
      have HB6 := Lib.hid (HB5.out.trans (hb.mono HB5.out.size))
      clear hb
      go_wp2_with fail
      refine (S3.out w6).mono ?_
      rintro e w7 ⟨rfl, hb⟩
      have HB7 := Lib.hid (HB6.out.trans (hb.mono HB6.out.size))
      clear hb
      clear S1 S2 S3
      go_wp2_with fail
      go_loopw [7, 8, 68] (fun l c i wr => ∃ k : Nat, k ≤ L.length ∧ i = .int .i64 k ∧ wr = w7 ∧ ∃ p r : Nat, l = .int .i64 p ∧ c = .int .i64 r ∧ p ≤ k ∧ r ≤ k ∧ Hid (p = (L.take k).count 58 ∧ r = (L.take k).count 40)) (fun _ _ i _ => L.length - (intOf i).toNat)
      case atStart => exact ⟨0, Nat.zero_le _, rfl, rfl, 0, 0, rfl, rfl, Nat.le_refl _, Nat.le_refl _, by show _ ∧ _; simp⟩
      case round =>
        obtain ⟨k, hk, rfl, rfl, p, r, rfl, rfl, hpk, hrk, hpr⟩ := hrel
        by_cases hkl : k < L.length
        · have hby := cut_byte L k hkl
          have st1 := Lib.hid (count_step 58 hkl)
          have st2 := Lib.hid (count_step 40 hkl)
          obtain ⟨b, hb⟩ : ∃ b, b = L[k] := ⟨_, rfl⟩
          rw [← hb] at hby st1 st2
          have q1 : ((b.toNat : Int) == 58) = decide (b = 58) := cut_eq b 58
          have q2 : ((b.toNat : Int) == 40) = decide (b = 40) := cut_eq b 40
          clear hb
          by_cases h58 : b = 58
          · have hpr2 : Hid (p + 1 = (L.take (k + 1)).count 58 ∧ r = (L.take (k + 1)).count 40) := by
              show _ ∧ _
              rw [st1.out, st2.out, if_pos h58, if_neg (by rw [h58]; decide), ← hpr.out.1, ← hpr.out.2]
              exact ⟨rfl, rfl⟩
            rw [show decide (b = 58) = true by simpa using h58] at q1
            clear st1 st2 q2 h58
            go_wp2
            go_roundw
            case rel => exact ⟨k + 1, by omega, by go_num, trivial, p + 1, r, by go_num, rfl, by omega, by omega, hpr2.out⟩
            case measure => simp [intOf]; omega
          · rw [show decide (b = 58) = false by simpa using h58] at q1
            by_cases h40 : b = 40
            · have hpr2 : Hid (p = (L.take (k + 1)).count 58 ∧ r + 1 = (L.take (k + 1)).count 40) := by
                show _ ∧ _
                rw [st1.out, st2.out, if_neg h58, if_pos h40, ← hpr.out.1, ← hpr.out.2]
                exact ⟨rfl, rfl⟩
              rw [show decide (b = 40) = true by simpa using h40] at q2
              clear st1 st2 h58 h40
              go_wp2
              go_roundw
              case rel => exact ⟨k + 1, by omega, by go_num, trivial, p, r + 1, rfl, by go_num, by omega, by omega, hpr2.out⟩
              case measure => simp [intOf]; omega
            · have hpr2 : Hid (p = (L.take (k + 1)).count 58 ∧ r = (L.take (k + 1)).count 40) := by
                show _ ∧ _
                rw [st1.out, st2.out, if_neg h58, if_neg h40, ← hpr.out.1, ← hpr.out.2]
                exact ⟨rfl, rfl⟩
              rw [show decide (b = 40) = false by simpa using h40] at q2
              clear st1 st2 h58 h40
              go_wp2
              go_roundw
              case rel => exact ⟨k + 1, by omega, by go_num, trivial, p, r, rfl, rfl, by omega, by omega, hpr2.out⟩
              case measure => simp [intOf]; omega
        · have hke : k = L.length := by omega
          have hpr3 := hpr.out
          rw [hke, List.take_length] at hpr3
          obtain ⟨hp3, hr3⟩ := hpr3
          have hki : ¬ ((k : Int) < (L.length : Int)) := by omega
          have hw : IntKind.i64.wrap ((p : Int) + (r : Int)) = (p : Int) + (r : Int) := by rw [IntKind.wrap_i64]; omega
          have hsum : ((s : Int) == (p : Int) + (r : Int)) = true := by have := HSs.out; simp; omega
          have hdr : (d : Int) ≤ (r : Int) := by omega
          have hsx := str_size X
          have hxr : (X.length : Int) ≤ (r : Int) := by omega
          rw [← hr3] at hd0 hx0
          have HX0 := Lib.hid hx0
          have HD0 := Lib.hid hd0
          clear hpr hx0 hd0 hp3 hr3
          by_cases hr0 : r = 0
          · have hd00 := HD0.out.2 hr0
            have hxe := HX0.out.2 hr0
            have hsum0 : ((s : Int) == (p : Int)) = true := by have h := hsum; simp only [beq_iff_eq] at h ⊢; omega
            subst hr0
            subst hd00
            subst hxe
            have e0 : str [] = (⟨#[]⟩ : ByteArray) := rfl
            rw [e0]
            go_wp2
            go_ret
            exact ⟨rfl, HB7.out⟩
          · have hd00 : ((d : Int) == 0) = false := by have := fun h => hr0 (HD0.out.1 h); simp; omega
            have hr00 : ((r : Int) == 0) = false := by simp; omega
            obtain ⟨c, X', hXc⟩ : ∃ c X', X = c :: X' := by
              cases X with
              | nil => exact absurd (HX0.out.1 rfl) hr0
              | cons c X' => exact ⟨c, X', rfl⟩
            subst hXc
            have e1 : (str (c :: X')).toList = c :: X' := str_toList _
            have hxr2 : (X'.length : Int) + 1 ≤ (r : Int) := by simpa using hxr
            go_wp2
            go_ret
            exact ⟨ret_bool (by simp), HB7.out⟩
end Go.Proofs.YtcecljolnknapaaDoor
