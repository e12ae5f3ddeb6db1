/-
  The contracts of the functions that compare functions and systems: where both sides read as the same data, they return true.
-/
import Derived.Test.YtfcekbjoagogdaaDoorEq
import Derived.Test.YtfcekbjoagogdaaDoorFmem
namespace Go.Proofs.YtfcekbjoagogdaaDoor
open Go.RowKit

set_option maxHeartbeats 800000 in
theorem eqFunction_same (lo hi lo' hi' : Nat) (x a r t x' a' r' t' : Value) (f : Fu) (w : World) (hv : FuAt w lo hi x a r t f) (hv' : FuAt w lo' hi' x' a' r' t' f) (hB : hi ≤ w.heap.size) (hB' : hi' ≤ w.heap.size) :
    Calls Tryd.prog 90 #[.agg #[x, a, r, t], .agg #[x', a', r', t']] w fun e w' => e = .returned (.bool true) ∧ Below w.heap.size w w' := by
  obtain ⟨rfl, rfl, _, _, ha, ht⟩ := hv
  obtain ⟨rfl, rfl, _, _, ha', ht'⟩ := hv'
  obtain ⟨A, cap, rfl, _, _, ha⟩ := ha.form
  obtain ⟨A', cap', rfl, _, _, ha'⟩ := ha'.form
  obtain ⟨B, bap, rfl, _, _, ht⟩ := ht.form
  obtain ⟨B', bap', rfl, _, _, ht'⟩ := ht'.form
  have h3 : Below w.heap.size w ((w.alloc (.cells #[.string f.name, .slice A f.args.length cap, .int .i64 f.res, .slice B f.table.length bap] 84)).alloc (.cells #[.string f.name, .slice A' f.args.length cap', .int .i64 f.res, .slice B' f.table.length bap'] 84)) := by go_grown
  go_enter Tryd.func90, Tryd.ntmps90
  go_wp2_with fail
  refine (eqIntS_same lo hi lo' hi' _ _ f.args _ (ha.below h3 hB) (ha'.below h3 hB') (by simp; omega) (by simp; omega)).mono ?_
  rintro e w1 ⟨rfl, hb⟩
  have hbel := h3.trans (hb.mono (by simp; omega))
  obtain ⟨hcl, hfr⟩ := bcell hb
  have hz1 := hb.size
  simp only [World.size_alloc] at hcl hfr hz1
  have Hbel := Lib.hid hbel
  clear hbel hb h3
  have hz2 : w.heap.size + 1 < w1.heap.size := by omega
  go_wp2_with (go_at_call 41; refine (eqIntS_same lo hi lo' hi' _ _ f.table _ (ht.below Hbel.out hB) (ht'.below Hbel.out hB') (by omega) (by omega)).mono ?_; rintro e w' ⟨rfl, hb2⟩)
  go_ret
  exact ⟨rfl, Hbel.out.trans (hb2.mono (by omega))⟩

set_option maxRecDepth 100000 in
set_option maxHeartbeats 800000 in
theorem eqFunctionS_same (lo hi lo' hi' : Nat) (v v' : Value) (fs : List Fu) (w : World) (hv : FusAt w lo hi v fs) (hv' : FusAt w lo' hi' v' fs) (hB : hi ≤ w.heap.size) (hB' : hi' ≤ w.heap.size) :
    Calls Tryd.prog 58 #[v, v'] w fun e w' => e = .returned (.bool true) ∧ Below w.heap.size w w' := by
  obtain ⟨A, cap, rfl, hl, hm, hz⟩ := hv.form
  obtain ⟨A', cap', rfl, hl', hm', hz'⟩ := hv'.form
  unfold maxLen at hm hm'
  have Hz := Lib.hid hz
  have Hz' := Lib.hid hz'
  clear hz hz' hv hv'
  go_enter Tryd.func58, Tryd.ntmps58
  go_wp2
  go_loopw [5] (fun i wr => ∃ k : Nat, k ≤ fs.length ∧ i = .int .i64 k ∧ Below w.heap.size w wr) (fun i _ => fs.length - (intOf i).toNat)
  case atStart => exact ⟨0, Nat.zero_le _, rfl, Below.refl _ _⟩
  case round =>
    obtain ⟨k, hk, rfl, hb⟩ := hrel
    by_cases hlt : k < fs.length
    · obtain ⟨b, off, B1, p1, B2, p2, rfl, _, _, c0, c1, c2, c3, _, _, _, _, hq⟩ := (Hz.out.below hb hB).at_ hlt
      obtain ⟨b', off', B1', p1', B2', p2', rfl, _, _, c0', c1', c2', c3', _, _, _, _, hq'⟩ := (Hz'.out.below hb hB').at_ hlt
      have hi1 : (k : Int) < (fs.length : Int) := by omega
      have hbs := hb.size
      go_wp2
      go_still_tail 8, (by kernel_rfl)
      change wpList _ _ _ _ _ wr.drew
      have hbd : Below w.heap.size w wr.drew := hb.drew
      go_wp2_with fail
      refine (eqFunction_same lo hi lo' hi' _ _ _ _ _ _ _ _ fs[k] wr.drew hq hq' (Nat.le_trans hB hbd.size) (Nat.le_trans hB' hbd.size)).mono ?_
      rintro e w' ⟨rfl, hb2⟩
      go_wp2
      go_roundw
      case rel => exact ⟨k + 1, by omega, by go_num, hbd.trans (hb2.mono hbd.size)⟩
      case measure => simp [intOf]; omega
    · obtain rfl : k = fs.length := by omega
      go_wp2
      go_ret
      exact ⟨rfl, hb⟩

set_option maxHeartbeats 400000 in
theorem eqSystem_same (lo hi lo' hi' : Nat) (s c v s' c' v' : Value) (y : Sy) (w : World) (hv : SyAt w lo hi s c v y) (hv' : SyAt w lo' hi' s' c' v' y) (hB : hi ≤ w.heap.size) (hB' : hi' ≤ w.heap.size) :
    Calls Tryd.prog 21 #[.agg #[s, c, v], .agg #[s', c', v']] w fun e w' => e = .returned (.bool true) ∧ Below w.heap.size w w' := by
  obtain ⟨hty, hf⟩ := hv
  obtain ⟨hty', hf'⟩ := hv'
  obtain ⟨A, cap, rfl, _, _, hz⟩ := hty.1.form
  obtain ⟨A', cap', rfl, _, _, hz'⟩ := hty'.1.form
  obtain ⟨B, bap, rfl, _, _, hc⟩ := hty.2.form
  obtain ⟨B', bap', rfl, _, _, hc'⟩ := hty'.2.form
  obtain ⟨C, dap, rfl, _, _, hf⟩ := hf.form
  obtain ⟨C', dap', rfl, _, _, hf'⟩ := hf'.form
  have hT : TyAt w lo hi (.slice A y.ty.sizes.length cap) (.slice B y.ty.cos.length bap) y.ty := ⟨hz, hc⟩
  have hT' : TyAt w lo' hi' (.slice A' y.ty.sizes.length cap') (.slice B' y.ty.cos.length bap') y.ty := ⟨hz', hc'⟩
  clear hty hty' hz hz' hc hc'
  have h3 : Below w.heap.size w ((w.alloc (.cells #[.slice A y.ty.sizes.length cap, .slice B y.ty.cos.length bap, .slice C y.fs.length dap] 45)).alloc (.cells #[.slice A' y.ty.sizes.length cap', .slice B' y.ty.cos.length bap', .slice C' y.fs.length dap'] 45)) := by go_grown
  go_enter Tryd.func21, Tryd.ntmps21
  go_wp2_with fail
  refine (eqTypes_same lo hi lo' hi' _ _ _ _ y.ty _ (hT.below h3 hB) (hT'.below h3 hB') (by simp; omega) (by simp; omega)).mono ?_
  rintro e w1 ⟨rfl, hb⟩
  have hbel := h3.trans (hb.mono (by simp; omega))
  obtain ⟨hcl, hfr⟩ := bcell hb
  have hz1 := hb.size
  simp only [World.size_alloc] at hcl hfr hz1
  have Hbel := Lib.hid hbel
  clear hbel hb h3
  have hz2 : w.heap.size + 1 < w1.heap.size := by omega
  go_wp2_with (go_at_call 58; refine (eqFunctionS_same lo hi lo' hi' _ _ y.fs _ (hf.below Hbel.out hB) (hf'.below Hbel.out hB') (by omega) (by omega)).mono ?_; rintro e w' ⟨rfl, hb2⟩)
  go_ret
  exact ⟨rfl, Hbel.out.trans (hb2.mono (by omega))⟩
end Go.Proofs.YtfcekbjoagogdaaDoor
