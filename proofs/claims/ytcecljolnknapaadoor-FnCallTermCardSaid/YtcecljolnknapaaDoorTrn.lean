/-
  The contracts of the program's isFunctionName, strings.Clone, functionName.
-/
import Derived.Test.YtcecljolnknapaaDoorTrl
import Derived.Shelf.Pu.Clone
namespace Go.Proofs.YtcecljolnknapaaDoor
open Go.RowKit

def layC_ren : Go.Shelf.Ren := { f := fun _ => 112, t := fun | 0 => 0 | 3 => 3 | 4 => 4 | 5 => 5 | 9 => 9 | 37 => 37 | 47 => 109 | _ => 0, g := fun _ => 0 }
theorem layC : LaysPu.n25 Tryd.prog layC_ren := {
  mixed := by kernel_rfl
  f25 := Tryd.func112.trans (congrArg some (by kernel_rfl))
  t0 := Tryd.underlying0, a0 := Tryd.isAgg0, z0 := Tryd.sizeOf0, v0 := Tryd.zeroValue0, i0 := by kernel_rfl
  t3 := Tryd.underlying3, a3 := Tryd.isAgg3, z3 := Tryd.sizeOf3, v3 := Tryd.zeroValue3, i3 := by kernel_rfl
  t4 := Tryd.underlying4, a4 := Tryd.isAgg4, z4 := Tryd.sizeOf4, v4 := Tryd.zeroValue4, i4 := by kernel_rfl
  t5 := Tryd.underlying5, a5 := Tryd.isAgg5, z5 := Tryd.sizeOf5, v5 := Tryd.zeroValue5, i5 := by kernel_rfl
  t9 := Tryd.underlying9, a9 := Tryd.isAgg9, z9 := Tryd.sizeOf9, v9 := Tryd.zeroValue9, i9 := by kernel_rfl
  t37 := Tryd.underlying37, a37 := Tryd.isAgg37, z37 := Tryd.sizeOf37, v37 := Tryd.zeroValue37, i37 := by kernel_rfl
  t47 := Tryd.underlying109, a47 := Tryd.isAgg109, z47 := Tryd.sizeOf109, v47 := Tryd.zeroValue109, i47 := by kernel_rfl }

theorem clone_any (s : ByteArray) (w : World) (hs : s.size ≤ 1048576) :
    Calls Tryd.prog 98 #[.string s] w fun e w' => e = .returned (.string s) ∧ Below w.heap.size w w' := by
  have H := Lib.hid (AnyPu.stringslite_Clone layC s w (by omega))
  go_enter Tryd.func98, Tryd.ntmps98
  go_wp2_with (go_at_call 112; refine (show Calls Tryd.prog 112 #[.string s] w _ from H.out).mono ?_; rintro e w1 ⟨rfl, hb⟩)
  go_ret
  exact ⟨rfl, hb⟩

set_option maxRecDepth 100000 in
set_option maxHeartbeats 400000 in
theorem isFn_any (c : UInt8) (w : World) : Calls Tryd.prog 81 #[.string (str [c])] w fun e w' => e = .returned (.bool (isN c)) ∧ w' = w := by
  have hs : (str [c]).size = 1 := rfl
  have hb : ∀ h, (str [c])[0]'h = c := fun _ => rfl
  have hN : isN c = (decide ((102 : Int) ≤ (c.toNat : Int)) && decide ((c.toNat : Int) ≤ 107)) := by
    unfold isN
    congr 1
    · apply decide_eq_decide.2; omega
    · apply decide_eq_decide.2; omega
  have HN := Lib.hid hN
  clear hN
  by_cases h1 : (102 : Int) ≤ (c.toNat : Int)
  · by_cases h2 : (c.toNat : Int) ≤ 107
    · have hv : Hid (isN c = true) := by show _ = _; rw [HN.out]; simp [h1, h2]
      go_enter Tryd.func81, Tryd.ntmps81
      go_wp2
      go_ret
      exact ⟨by rw [hv.out]; rfl, rfl⟩
    · have hv : Hid (isN c = false) := by show _ = _; rw [HN.out]; simp [h2]
      go_enter Tryd.func81, Tryd.ntmps81
      go_wp2
      go_ret
      exact ⟨by rw [hv.out]; rfl, rfl⟩
  · have hv : Hid (isN c = false) := by show _ = _; rw [HN.out]; simp [h1]
    go_enter Tryd.func81, Tryd.ntmps81
    go_wp2
    go_ret
    exact ⟨by rw [hv.out]; rfl, rfl⟩

theorem str_head1 (c : UInt8) (r : List UInt8) : (str (c :: r)).extract 0 1 = str [c] := by
  apply ByteArray.ext
  simp [str, ByteArray.data_extract]

set_option maxRecDepth 100000 in
set_option maxHeartbeats 1000000 in
theorem name_yes (b : Nat) (c : UInt8) (r : List UInt8) (hd : isN c = true) (w : World) (h : Txr b (c :: r) w) (hm : r.length + 1 ≤ 1048576) :
    Calls Tryd.prog 99 #[.pointer (some ⟨b, 0, none⟩)] w fun e w' => e = .returned (.string (str [c])) ∧ Keep b w w' ∧ Txr b r w' := by
  have c0 := h.cell
  have f0 := h.frozen
  have HT := Lib.hid h
  have h1 : (str (c :: r)).toList = c :: r := str_toList _
  have h3 := str_pos c r
  have h4 := str_head1 c r
  have h5 := str_tail c r
  have h6 : (str (c :: r)).size = r.length + 1 := by rw [str_size]; rfl
  rw [h6] at h5 h3
  clear h
  go_enter Tryd.func99, Tryd.ntmps99
  go_wp2_with (go_at_call 81; refine (isFn_any c _).mono ?_; rintro e w1 ⟨rfl, rfl⟩; rw [hd])
  go_ret
  exact ⟨rfl, (Keep.refl b _).setb _, HT.out.set r⟩
end Go.Proofs.YtcecljolnknapaaDoor
