/-
  FnExactFormatNumbers: the walk of the law.
-/
import Derived.Test.YtajannebpejpkaaDoorZdi
import Derived.Test.YtajannebpejpkaaDoorTo
import Derived.Test.YtajannebpejpkaaDoorEq
import Derived.Deep.RegionHeld3
namespace Go.Proofs.YtajannebpejpkaaDoor
open Go.RowKit

set_option maxRecDepth 100000 in
set_option maxHeartbeats 2000000 in
theorem lawFn_walk (v : Value) (zs : List Int) (w : World) (hv : IntsAt w 0 w.heap.size v zs) (hT : Tab w.heap.size w) :
    Calls Tryd.prog 3 #[v] w fun e w' => e = .returned (.bool true) ∧ Below w.heap.size w w' := by
  obtain ⟨A, cap, rfl, hl1, hm1, hi⟩ := hv.form
  have Hv := Lib.hid hi
  have HT := Lib.hid hT
  clear hv hi hT
  have hmx : zs.length ≤ maxLen := by omega
  unfold maxLen at hmx
  by_cases hbig : 1048576 < zs.length
  · go_enter Tryd.func3, Tryd.ntmps3
    go_wp2
    go_ret
    exact ⟨rfl, Below.refl _ _⟩
  · have hn : zs.length ≤ 1048576 := by omega
    have HI : Hid (∀ z ∈ zs, I64 z) := Hv.out.fits
    go_enter Tryd.func3, Tryd.ntmps3
    go_wp2_with fail
    refine (toIntS_any 0 w.heap.size _ zs w Hv.out (Nat.le_refl _) hn).mono ?_
    rintro e w1 ⟨rfl, hb1, hs1, hr1⟩
    have hx1 := Lib.hid (hr1.ints HI.out (Nat.zero_le _) (show w.heap.size < w1.heap.size by omega) (Nat.le_refl _) (by unfold maxLen; omega))
    have H1 := Lib.hid hb1
    clear hb1 hr1 hs1
    go_wp2_with fail
    refine (specFmtN 0 w1.heap.size _ zs w1 hx1.out (Nat.le_refl _) hn).mono ?_
    rintro e w2 ⟨rfl, hb2⟩
    have H2 := Lib.hid (H1.out.trans (hb2.mono H1.out.size))
    clear hb2 hx1 H1
    go_wp2_with fail
    refine (toIntS_any 0 w.heap.size _ zs w2 (Hv.out.below H2.out (Nat.le_refl _)) H2.out.size hn).mono ?_
    rintro e w3 ⟨rfl, hb3, hs3, hr3⟩
    have hx3 := Lib.hid (hr3.ints HI.out (Nat.zero_le _) (show w2.heap.size < w3.heap.size by omega) (Nat.le_refl _) (by unfold maxLen; omega))
    have H3 := Lib.hid (H2.out.trans (hb3.mono H2.out.size))
    clear hb3 hr3 hs3 H2
    go_wp2_with fail
    refine (implFmtN 0 w3.heap.size _ zs w3 hx3.out (Nat.le_refl _) hn w.heap.size (HT.out.go H3.out (Nat.le_refl _)) H3.out.size).mono ?_
    rintro e w4 ⟨rfl, hb4⟩
    have H4 := Lib.hid (H3.out.trans (hb4.mono H3.out.size))
    have hx4 := Lib.hid (hx3.out.below hb4 (Nat.le_refl _))
    have h34 := hb4.size
    clear hb4 hx3 H3
    go_wp2_with fail
    refine (toIntS_any 0 w.heap.size _ zs w4 (Hv.out.below H4.out (Nat.le_refl _)) H4.out.size hn).mono ?_
    rintro e w5 ⟨rfl, hb5, hs5, hr5⟩
    have hx5 := Lib.hid (hr5.ints HI.out (Nat.zero_le _) (show w4.heap.size < w5.heap.size by omega) (Nat.le_refl _) (by unfold maxLen; omega))
    have hy5 := Lib.hid (hx4.out.below hb5 h34)
    have H5 := Lib.hid (H4.out.trans (hb5.mono H4.out.size))
    have h45 := hb5.size
    clear hb5 hr5 hs5 H4 hx4
    go_wp2_with fail
    refine (eqIntS_same 0 w3.heap.size 0 w5.heap.size _ _ zs w5 hy5.out hx5.out (by omega) (Nat.le_refl _)).mono ?_
    rintro e w6 ⟨rfl, hb6⟩
    have H6 := Lib.hid (H5.out.trans (hb6.mono H5.out.size))
    clear hb6
    go_wp2
    go_ret
    exact ⟨rfl, H6.out⟩
end Go.Proofs.YtajannebpejpkaaDoor
