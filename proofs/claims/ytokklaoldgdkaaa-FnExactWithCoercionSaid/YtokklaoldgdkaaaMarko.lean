/-
  The contract of markCoercion.
-/
import Derived.Test.YtokklaoldgdkaaaMark
namespace Go.Proofs.Ytokklaoldgdkaaa
open Go.RowKit

set_option maxHeartbeats 400000 in
theorem markCoercion_any (g : Nat) (x y : Int) (v : Value) (zs : List Int) (k0 : Int) (w : World) (hv : OwnI w 3 g v zs) (hg : 0 < zs.length → g < w.heap.size) (h0 : 0 ≤ k0) (h1 : k0 + zs.length ≤ 1000000000) :
    Calls Try.prog 38 #[.agg #[.int .i64 x, .int .i64 y, v], .int .i64 k0] w fun e w' => e = .returned (.int .i64 (k0 + zs.length)) ∧ Kept (fun k => 0 < zs.length → k ≠ g) w w' ∧ OwnI w' 3 g v (markL k0 zs.length) := by
  have hv' := hv
  obtain ⟨A, cap, rfl, hc, hm, hnil, hrow⟩ := hv'
  have H := Lib.hid (hv.keep (w' := w.alloc (.cells #[.int .i64 x, .int .i64 y, .slice A zs.length cap] 52)) fun h => Below.heap_alloc w _ g (hg (by simpa using h)))
  clear hv hrow
  go_enter Try.func38, Try.ntmps38
  go_wp2_with fail
  refine (markIntS_any g _ zs k0 _ H.out h0 h1).mono ?_
  rintro e w1 ⟨rfl, hk, ho, _⟩
  have K0 : Kept (fun k => 0 < zs.length → k ≠ g) w (w.alloc (.cells #[.int .i64 x, .int .i64 y, .slice A zs.length cap] 52)) := (Kept.refl _ _).alloc _
  have hs0 : w.heap.size ≤ (w.alloc (.cells #[.int .i64 x, .int .i64 y, .slice A zs.length cap] 52)).heap.size := by simp
  have K1 := Lib.hid (show Kept (fun k => 0 < zs.length → k ≠ g) w w1 from ⟨hk.os.trans K0.os, hk.tape.trans K0.tape, hk.output.trans K0.output, Nat.le_trans K0.size hk.size, fun k h hS => (hk.block k (by omega) hS).trans (K0.block k h hS)⟩)
  have Ho := Lib.hid ho
  clear hk ho K0
  go_wp2
  go_ret
  exact ⟨rfl, K1.out, Ho.out⟩
end Go.Proofs.Ytokklaoldgdkaaa
