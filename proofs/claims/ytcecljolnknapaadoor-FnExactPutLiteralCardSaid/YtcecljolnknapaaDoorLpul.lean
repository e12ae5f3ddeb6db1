/-
  The walk of the law FnExactPutLiteral.
-/
import Derived.Test.YtcecljolnknapaaDoorPui
namespace Go.Proofs.YtcecljolnknapaaDoor
open Go.RowKit

set_option maxRecDepth 100000 in
set_option maxHeartbeats 1000000 in
theorem lawPul_walk (s : ByteArray) (i k v : Int) (n : Nat) (a : Addr) (W : World) (hE : Ev W n a) (hn : n ≤ W.heap.size) (hmax : s.size ≤ 9223372036854775807) :
    Calls Tryd.prog 11 #[.string s, .int .i64 i, .int .i64 k, .int .i64 v] W fun e W' => e = .returned (.bool true) ∧ Below W.heap.size W W' := by
  obtain ⟨L, hL⟩ : ∃ L, s = str L := ⟨s.data.toList, (str_list s).symm⟩
  subst hL
  have hsz := str_size L
  rw [hsz] at hmax
  by_cases hbig : 1048576 < L.length
  · have h1 : (1048576 : Int) < (L.length : Int) := by omega
    clear hE
    go_enter Tryd.func11, Tryd.ntmps11
    go_wp2
    go_ret
    exact ⟨rfl, Below.refl _ _⟩
  · have h1 : ¬ (1048576 : Int) < (L.length : Int) := by omega
    have HS := Lib.hid (specPut_any L (by omega) i k v W)
    have HI : Hid (∀ w1 : World, Below W.heap.size W w1 → Calls Tryd.prog 38 #[.string (str L), .int .i64 i, .int .i64 k, .int .i64 v] w1 fun e w' => e = putE (putV L i k v) ∧ Below w1.heap.size w1 w') := fun w1 hb => implPut_any L (by omega) i k v n a w1 (hE.under hb) (Nat.le_trans hn hb.size)
    obtain ⟨P, hP⟩ : ∃ P, P = putV L i k v := ⟨_, rfl⟩
    rw [← hP] at HS HI
    clear hE hP
    go_enter Tryd.func11, Tryd.ntmps11
    go_wp2_with fail
    refine HS.out.mono ?_
    rintro e w1 ⟨rfl, hb1⟩
    have HB1 := Lib.hid hb1
    clear hb1
    go_wp2_with fail
    refine (HI.out _ HB1.out).mono ?_
    rintro e w2 ⟨rfl, hb2⟩
    have HB2 := Lib.hid (HB1.out.trans (hb2.mono HB1.out.size))
    clear hb2
    go_wp2
    go_ret
    exact ⟨rfl, HB2.out⟩
end Go.Proofs.YtcecljolnknapaaDoor
