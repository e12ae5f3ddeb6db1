/-
  The walk of the law FnExactPartsOf.
-/
import Derived.Test.YtcecljolnknapaaDoorPti
namespace Go.Proofs.YtcecljolnknapaaDoor
open Go.RowKit

set_option maxRecDepth 100000 in
set_option maxHeartbeats 2000000 in
theorem lawPao_walk (s : ByteArray) (n : Nat) (a : Addr) (W : World) (hE : Ev W n a) (hn : n ≤ W.heap.size) (hmax : s.size ≤ 9223372036854775807) :
    Calls Tryd.prog 5 #[.string s] W fun e W' => e = .returned (.bool true) ∧ Below W.heap.size W W' := by
  obtain ⟨L, hL⟩ : ∃ L, s = str L := ⟨s.data.toList, (str_list s).symm⟩
  subst hL
  have hsz := str_size L
  rw [hsz] at hmax
  by_cases hbig : 1048576 < L.length
  · have h1 : (1048576 : Int) < (L.length : Int) := by omega
    clear hE
    go_enter Tryd.func5, Tryd.ntmps5
    go_wp2
    go_ret
    exact ⟨rfl, Below.refl _ _⟩
  · have h1 : ¬ (1048576 : Int) < (L.length : Int) := by omega
    have hL1 : L.length ≤ 1048576 := by omega
    have HEv := Lib.hid hE
    have HS := Lib.hid (specParts_any L hL1 W)
    have HI : Hid (∀ w1 : World, n ≤ w1.heap.size → Ev w1 n a → Calls Tryd.prog 21 #[.string (str L)] w1 fun e w' => ∃ v, e = .returned v ∧ w'.ownsRow w1.heap.size 9 1 v (partsP L).length (strVs (partsP L)) ∧ Below w1.heap.size w1 w') := fun w1 hw hE => implParts_any L n a w1 hE hw hL1
    have h2 := partsP_two L
    obtain ⟨ps, hps⟩ : ∃ ps, ps = partsP L := ⟨_, rfl⟩
    rw [← hps] at HS HI h2
    clear hE hps
    go_enter Tryd.func5, Tryd.ntmps5
    go_wp2_with fail
    refine HS.out.mono ?_
    rintro e w1 ⟨v0, rfl, ho0, hb1⟩
    have HS0 := Lib.hid (strsAt_own ho0)
    have HB1 := Lib.hid hb1
    obtain ⟨A0, C0, rfl⟩ := own_slice' ho0
    clear ho0 hb1
    go_wp2_with fail
    refine (HI.out w1 (Nat.le_trans hn HB1.out.size) (HEv.out.under HB1.out)).mono ?_
    rintro e w2 ⟨v1, rfl, ho1, hb2⟩
    obtain ⟨g, hg, hr1⟩ := rowS_own ho1 hb2.size
    have HS1 := Lib.hid (strsAt_own ho1)
    have HR1 := Lib.hid hr1
    have HB2 := Lib.hid hb2
    obtain ⟨A1, C1, rfl⟩ := own_slice' ho1
    clear ho1 hb2 hr1
    go_wp2_with fail
    refine (eqStrs_any _ _ ps ps w2 HS1.out (HS0.out.below HB2.out) (by omega)).mono ?_
    rintro e w3 ⟨he, hb3⟩
    rw [show decide (ps = ps) = true by simp] at he
    subst he
    have HB3 := Lib.hid (HB2.out.trans (hb3.mono HB2.out.size))
    have HR3 := Lib.hid (HR1.out.keep hb3)
    clear hb3 HR1 HB2
    go_wp2_with fail
    refine (markStrs_any g _ ps.length _ 1 w3 HR3.out (by decide) (by omega)).mono ?_
    rintro e w4 ⟨rfl, hk4, hr4⟩
    have HB4 : Hid (Below w1.heap.size w1 w4) := HB3.out.trans (hk4.below hg HB3.out.size)
    have HE4 : Hid (Ev w4 n a) := ((HEv.out.under (HB1.out.trans (HB3.out.mono HB1.out.size))).keep hk4 (Nat.le_trans (Nat.le_trans hn HB1.out.size) hg))
    have HR4 := Lib.hid hr4
    clear hk4 hr4 HR3 HB3
    go_wp2_with fail
    refine (heldStrs_any g _ ps.length 1 w4 HR4.out (by decide) (by omega)).mono ?_
    rintro e w5 ⟨rfl, hb5⟩
    have HB5 := Lib.hid (HB4.out.trans (hb5.mono HB4.out.size))
    have HE5 := Lib.hid (HE4.out.under hb5)
    have HR5 := Lib.hid (HR4.out.keep hb5)
    have hs5 := HB5.out.size
    clear hb5 HB4 HE4 HR4
    have hz1 : ¬ (1 + (ps.length : Int)) < 0 := by omega
    go_wp2_with fail
    refine (HI.out w5 (Nat.le_trans (Nat.le_trans hn HB1.out.size) hs5) HE5.out).mono ?_
    rintro e w6 ⟨v2, rfl, ho2, hb6⟩
    have HS2 := Lib.hid (strsAt_own ho2)
    have HB6 := Lib.hid (HB5.out.trans (hb6.mono hs5))
    have HR6 := Lib.hid (HR5.out.keep hb6)
    obtain ⟨A2, C2, rfl⟩ := own_slice' ho2
    clear ho2 hb6 HB5 HR5
    go_wp2_with fail
    refine (eqStrs_any _ _ ps ps w6 HS2.out (HS0.out.below HB6.out) (by omega)).mono ?_
    rintro e w7 ⟨he, hb7⟩
    rw [show decide (ps = ps) = true by simp] at he
    subst he
    have HB7 := Lib.hid (HB6.out.trans (hb7.mono HB6.out.size))
    have HR7 := Lib.hid (HR6.out.keep hb7)
    clear hb7 HB6 HR6
    go_wp2_with fail
    refine (heldStrs_any g _ ps.length 1 w7 HR7.out (by decide) (by omega)).mono ?_
    rintro e w8 ⟨rfl, hb8⟩
    have HB8 := Lib.hid (HB1.out.trans ((HB7.out.trans (hb8.mono HB7.out.size)).mono HB1.out.size))
    clear hb8
    go_wp2
    go_ret
    exact ⟨rfl, HB8.out⟩
end Go.Proofs.YtcecljolnknapaaDoor
