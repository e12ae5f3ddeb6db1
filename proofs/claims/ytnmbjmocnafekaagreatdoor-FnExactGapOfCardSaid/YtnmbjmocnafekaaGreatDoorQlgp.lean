/-
  The law's helpers at gaps: eqGap, markGap, heldGap.
-/
import Derived.Test.YtnmbjmocnafekaaGreatDoorG2
import Derived.Test.YtnmbjmocnafekaaGreatDoorG3
import Derived.Test.YtnmbjmocnafekaaGreatDoorQmk
import Derived.Test.YtnmbjmocnafekaaGreatDoorG6
namespace Go.Proofs.YtnmbjmocnafekaaGreatDoor
open Go.RowKit

set_option maxRecDepth 100000 in
set_option maxHeartbeats 1000000 in
theorem eqGap_same (lo hi lo' hi' : Nat) (nm : ByteArray) (v v' : Value) (zs : List Int) (w : World) (hv : IntsAt w lo hi v zs) (hv' : IntsAt w lo' hi' v' zs) (hB : hi ≤ w.heap.size) (hB' : hi' ≤ w.heap.size) :
    Calls Tryz.prog 16 #[.agg #[.string nm, v], .agg #[.string nm, v']] w fun e w' => e = .returned (.bool true) ∧ Below w.heap.size w w' := by
  obtain ⟨A, cap, rfl, _, _, ha⟩ := hv.form
  obtain ⟨A', cap', rfl, _, _, ha'⟩ := hv'.form
  have h3 : Below w.heap.size w ((w.alloc (.cells #[.string nm, .slice A zs.length cap] 41)).alloc (.cells #[.string nm, .slice A' zs.length cap'] 41)) := by go_grown
  have HQ := Lib.hid (eqIntS_same lo hi lo' hi' _ _ zs _ (hv.below h3 hB) (hv'.below h3 hB') (by simp; omega) (by simp; omega))
  have H3 := Lib.hid h3
  clear hv hv' ha ha' h3
  go_enter Tryz.func16, Tryz.ntmps16
  go_wp2_with fail
  refine HQ.out.mono ?_
  clear HQ
  rintro e w1 ⟨rfl, hb⟩
  have HB := Lib.hid (H3.out.trans (hb.mono (by simp; omega)))
  clear hb
  go_wp2
  go_ret
  exact ⟨rfl, HB.out⟩

set_option maxRecDepth 100000 in
set_option maxHeartbeats 1000000 in
theorem markGap_any (g : Nat) (nm : ByteArray) (v : Value) (zs : List Int) (k : Int) (w : World) (hw : OwnI w 3 g v zs) (hg : 0 < zs.length → g < w.heap.size) (hk0 : 0 ≤ k) (hk : k + zs.length ≤ 1000000000) :
    Calls Tryz.prog 18 #[.agg #[.string nm, v], .int .i64 k] w fun e w' => e = .returned (.int .i64 (k + zs.length)) ∧ Kept (fun b => 0 < zs.length → b ≠ g) w w' ∧ OwnI w' 3 g v (markL k zs.length) := by
  obtain ⟨w1, hw1⟩ : ∃ u, u = w.alloc (.cells #[.string nm, v] 41) := ⟨_, rfl⟩
  have hb1 : Below w.heap.size w w1 := by rw [hw1]; exact (Below.refl _ _).alloc (Nat.le_refl _) _
  have r1 : Row w1 w.heap.size 41 [.string nm, v] := by rw [hw1]; exact Row.new _ _ _
  have HM := Lib.hid (markIntS_any g v zs k w1 (hw.keep fun h => hb1.block g (hg h)) hk0 hk)
  have HB := Lib.hid hb1
  have c1 := r1.cell 1
  simp only [List.getElem?_cons_zero, List.getElem?_cons_succ] at c1
  rw [hw1] at c1
  clear hw hb1 r1
  go_enter Tryz.func18, Tryz.ntmps18
  go_wp2_with fail
  rw [← hw1]
  refine HM.out.mono ?_
  clear HM c1 hw1
  rintro e w2 ⟨rfl, hk2, ho2, _⟩
  have HK : Hid (Kept (fun b => 0 < zs.length → b ≠ g) w w2) := kept_trans (kept_of HB.out) hk2
  have HO := Lib.hid ho2
  clear hk2 ho2
  go_wp2
  go_ret
  exact ⟨rfl, HK.out, HO.out⟩

set_option maxRecDepth 100000 in
set_option maxHeartbeats 1000000 in
theorem heldGap_any (lo hi : Nat) (nm : ByteArray) (v : Value) (n : Nat) (k : Int) (w : World) (hv : IntsAt w lo hi v (markL k n)) (hB : hi ≤ w.heap.size) (hk0 : 0 ≤ k) (hk : k + n ≤ 1000000000) :
    Calls Tryz.prog 19 #[.agg #[.string nm, v], .int .i64 k] w fun e w' => e = .returned (.int .i64 (k + n)) ∧ Below w.heap.size w w' := by
  obtain ⟨w1, hw1⟩ : ∃ u, u = w.alloc (.cells #[.string nm, v] 41) := ⟨_, rfl⟩
  have hb1 : Below w.heap.size w w1 := by rw [hw1]; exact (Below.refl _ _).alloc (Nat.le_refl _) _
  have r1 : Row w1 w.heap.size 41 [.string nm, v] := by rw [hw1]; exact Row.new _ _ _
  have HM := Lib.hid (heldIntS_any lo hi v n k w1 (hv.below hb1 hB) (by have := hb1.size; omega) hk0 hk)
  have HB := Lib.hid hb1
  have c1 := r1.cell 1
  simp only [List.getElem?_cons_zero, List.getElem?_cons_succ] at c1
  rw [hw1] at c1
  have hneg : decide (k + (n : Int) < 0) = false := by simp; omega
  clear hv hb1 r1
  go_enter Tryz.func19, Tryz.ntmps19
  go_wp2_with fail
  rw [← hw1]
  refine HM.out.mono ?_
  clear HM c1 hw1
  rintro e w2 ⟨rfl, rfl⟩
  go_wp2
  go_ret
  exact ⟨rfl, HB.out⟩
end Go.Proofs.YtnmbjmocnafekaaGreatDoor

