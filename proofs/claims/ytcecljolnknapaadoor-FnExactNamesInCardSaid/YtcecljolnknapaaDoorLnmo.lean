/-
  The walk of the law FnExactNamesIn.
-/
import Derived.Test.YtcecljolnknapaaDoorNmi
import Derived.Test.YtcecljolnknapaaDoorTrx
import Derived.Test.YtcecljolnknapaaDoorNms6
namespace Go.Proofs.YtcecljolnknapaaDoor
open Go.RowKit

set_option maxRecDepth 100000 in
set_option maxHeartbeats 1000000 in
theorem lawNmo_walk (s : ByteArray) (n : Nat) (a : Addr) (W : World) (hE : Ev W n a) (hn : n ≤ W.heap.size) (hmax : s.size ≤ 9223372036854775807) :
    Calls Tryd.prog 10 #[.string s] W fun e W' => e = .returned (.bool true) ∧ Below W.heap.size W W' := by
  obtain ⟨L, hL⟩ : ∃ L, s = str L := ⟨s.data.toList, (str_list s).symm⟩
  subst hL
  have hsz := str_size L
  rw [hsz] at hmax
  by_cases hbig : 1048576 < L.length
  · have h1 : (1048576 : Int) < (L.length : Int) := by omega
    clear hE
    go_enter Tryd.func10, Tryd.ntmps10
    go_wp2
    go_ret
    exact ⟨rfl, Below.refl _ _⟩
  · have h1 : ¬ (1048576 : Int) < (L.length : Int) := by omega
    have HS := Lib.hid (specNames_any L (by omega) W)
    have HI : Hid (∀ w1 : World, Below W.heap.size W w1 → Calls Tryd.prog 36 #[.string (str L)] w1 fun e w' => e = .returned (.string (str (nmV L))) ∧ Below w1.heap.size w1 w') := fun w1 hb => implNames_any L n a w1 (hE.under hb) (Nat.le_trans hn hb.size) (by omega)
    clear hE
    go_enter Tryd.func10, Tryd.ntmps10
    go_wp2_with fail
    refine HS.out.mono ?_
    rintro e w1 ⟨rfl, hb1⟩
    have HB1 := Lib.hid hb1
    clear hb1
    go_wp2_with fail
    refine (HI.out _ HB1.out).mono ?_
    rintro e w2 ⟨rfl, hb2⟩
    have HB2 := Lib.hid (HB1.out.trans (hb2.mono HB1.out.size))
    clear hb2
    go_wp2
    go_ret
    exact ⟨rfl, HB2.out⟩
end Go.Proofs.YtcecljolnknapaaDoor
