/-
  FnExactWrapMade: the walk of the law.
-/
import Derived.Test.YthldlbbkbbgdkaaDoorSz
import Derived.Test.YthldlbbkbbgdkaaDoorTo
import Derived.Test.YthldlbbkbbgdkaaDoorEq
import Derived.Test.YthldlbbkbbgdkaaDoorWri
import Derived.Test.YthldlbbkbbgdkaaDoorDcs
import Derived.Deep.RegionHeld3
namespace Go.Proofs.YthldlbbkbbgdkaaDoor
open Go.RowKit

set_option maxRecDepth 100000 in
set_option maxHeartbeats 4000000 in
theorem lawWrp_walk (s : ByteArray) (rv : Value) (zs : List Int) (n : Nat) (w : World) (hr : IntsAt w 0 w.heap.size rv zs) (ht : Tab w n) (hn : n ≤ w.heap.size) (hmax : s.size ≤ 9223372036854775807) :
    Calls Tryd.prog 3 #[.string s, rv] w fun e w' => e = .returned (.bool true) ∧ Below w.heap.size w w' := by
  obtain ⟨L, hL⟩ : ∃ L, s = str L := ⟨s.data.toList, (str_list s).symm⟩
  subst hL
  have hsz := str_size L
  rw [hsz] at hmax
  obtain ⟨R, rap, rfl, hl3, hm3, _⟩ := hr.form
  unfold maxLen at hm3
  have Hr := Lib.hid hr
  have Hwf := Lib.hid (IntsAt.wf7 hr)
  have HT := Lib.hid ht
  clear hr ht
  by_cases hbig : 1048576 < L.length
  · have h1 : (1048576 : Int) < (L.length : Int) := by omega
    go_enter Tryd.func3, Tryd.ntmps3
    go_wp2
    go_ret
    exact ⟨rfl, Below.refl _ _⟩
  have h1 : ¬ (1048576 : Int) < (L.length : Int) := by omega
  have hL1 : L.length ≤ 1048576 := by omega
  by_cases hz : 1048576 < zs.length
  · have h2 : (1048576 : Int) < (zs.length : Int) := by omega
    go_enter Tryd.func3, Tryd.ntmps3
    go_wp2
    go_ret
    exact ⟨rfl, Below.refl _ _⟩
  have h2 : ¬ (1048576 : Int) < (zs.length : Int) := by omega
  have hzl : zs.length ≤ 1048576 := by omega
  clear hbig hz
  go_enter Tryd.func3, Tryd.ntmps3
  go_wp2_with fail
  refine (toIntS_any 0 w.heap.size _ zs _ Hr.out (Nat.le_refl _) hzl).mono ?_
  rintro e w1 ⟨rfl, hb1, hs1, hr1⟩
  have HB1 := Lib.hid hb1
  have HI1 := Lib.hid (hr1.ints (lo := w.heap.size) (hi := w.heap.size + 1) (cap := zs.length) Hwf.out (Nat.le_refl _) (by omega) (Nat.le_refl _) (by unfold maxLen; omega))
  clear hb1 hr1
  go_wp2_with fail
  refine (specWrap_any _ _ L _ zs w1 HI1.out (by omega) hL1 hzl).mono ?_
  rintro e w2 ⟨rfl, hb2⟩
  have hs2 : w.heap.size ≤ w1.heap.size := by omega
  have HB2 := Lib.hid (HB1.out.trans (hb2.mono hs2))
  clear hb2 HB1 HI1
  have hs22 := HB2.out.size
  go_wp2_with fail
  refine (toIntS_any 0 w.heap.size _ zs w2 (Hr.out.below HB2.out (Nat.le_refl _)) hs22 hzl).mono ?_
  rintro e w3 ⟨rfl, hb3, hs3, hr3⟩
  have HB3 := Lib.hid (HB2.out.trans (hb3.mono hs22))
  have HI3 := Lib.hid (hr3.ints (lo := w2.heap.size) (hi := w2.heap.size + 1) (cap := zs.length) Hwf.out (Nat.le_refl _) (by omega) (Nat.le_refl _) (by unfold maxLen; omega))
  clear hb3 hr3 HB2
  have hs33 := HB3.out.size
  go_wp2_with fail
  refine (implWrap_any _ _ L _ zs n w3 HI3.out (by omega) hL1 hzl (HT.out.below HB3.out hn) (by omega)).mono ?_
  rintro e w4 ⟨rfl, hb4⟩
  have HB4 := Lib.hid (HB3.out.trans (hb4.mono hs33))
  have HI4 := Lib.hid (HI3.out.below hb4 (by omega))
  have hs4 := hb4.size
  clear hb4 HB3 HI3
  have hs44 := HB4.out.size
  go_wp2_with fail
  refine (toIntS_any 0 w.heap.size _ zs w4 (Hr.out.below HB4.out (Nat.le_refl _)) hs44 hzl).mono ?_
  rintro e w5 ⟨rfl, hb5, hs5, hr5⟩
  have HB5 := Lib.hid (HB4.out.trans (hb5.mono hs44))
  have HI45 := Lib.hid (HI4.out.below hb5 (by omega))
  have HI5 := Lib.hid (hr5.ints (lo := w4.heap.size) (hi := w4.heap.size + 1) (cap := zs.length) Hwf.out (Nat.le_refl _) (by omega) (Nat.le_refl _) (by unfold maxLen; omega))
  clear hb5 hr5 HB4 HI4
  go_wp2_with fail
  refine (eqIntS_same _ _ _ _ _ _ zs w5 HI45.out HI5.out (by omega) (by omega)).mono ?_
  rintro e w6 ⟨rfl, hb6⟩
  have HB6 := Lib.hid (HB5.out.trans (hb6.mono (by omega)))
  clear hb6
  go_wp2
  go_ret
  exact ⟨rfl, HB6.out⟩
end Go.Proofs.YthldlbbkbbgdkaaDoor
