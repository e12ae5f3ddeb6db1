/-
  The contracts of the functions that compare: where both sides read as the same data, they return true.
-/
import Derived.Test.YthldlbbkbbgdkaaDoorRows
import Derived.Test.YthldlbbkbbgdkaaDoorMem
import Derived.Outline
import Derived.Handy
import Derived.BigQuiet
import Derived.Deep.QuietTactic
import Derived.StillTailTactics
import Derived.Deep.RegionWith
namespace Go.Proofs.YthldlbbkbbgdkaaDoor
open Go.RowKit


set_option maxHeartbeats 800000 in
theorem eqIntS_same (lo hi lo' hi' : Nat) (v v' : Value) (zs : List Int) (w : World) (hv : IntsAt w lo hi v zs) (hv' : IntsAt w lo' hi' v' zs) (hB : hi ≤ w.heap.size) (hB' : hi' ≤ w.heap.size) :
    Calls Tryd.prog 10 #[v, v'] w fun e w' => e = .returned (.bool true) ∧ Below w.heap.size w w' := by
  obtain ⟨A, cap, rfl, hl, hm, hz⟩ := hv.form
  obtain ⟨A', cap', rfl, hl', hm', hz'⟩ := hv'.form
  unfold maxLen at hm hm'
  have Hz := Lib.hid hz
  have Hz' := Lib.hid hz'
  clear hz hz' hv hv'
  go_enter Tryd.func10, Tryd.ntmps10
  go_wp2
  go_loopw [5] (fun i wr => ∃ k : Nat, k ≤ zs.length ∧ i = .int .i64 k ∧ Below w.heap.size w wr) (fun i _ => zs.length - (intOf i).toNat)
  case atStart => exact ⟨0, Nat.zero_le _, rfl, Below.refl _ _⟩
  case round =>
    obtain ⟨k, hk, rfl, hb⟩ := hrel
    by_cases hlt : k < zs.length
    · obtain ⟨b, off, rfl, _, _, c0, _⟩ := (Hz.out.below hb hB).at_ hlt
      obtain ⟨b', off', rfl, _, _, c0', _⟩ := (Hz'.out.below hb hB').at_ hlt
      have hi1 : (k : Int) < (zs.length : Int) := by omega
      go_wp2
      go_quiet (fail)
      go_wp2
      go_roundw
      case rel => exact ⟨k + 1, by omega, by go_num, below_drewN hb _⟩
      case measure => simp [intOf]; omega
    · obtain rfl : k = zs.length := by omega
      go_wp2
      go_ret
      exact ⟨rfl, hb⟩

set_option maxHeartbeats 800000 in
theorem eqCoercion_same (lo hi lo' hi' : Nat) (x y z x' y' z' : Value) (c : Co) (w : World) (hv : CoAt w lo hi x y z c) (hv' : CoAt w lo' hi' x' y' z' c) (hB : hi ≤ w.heap.size) (hB' : hi' ≤ w.heap.size) :
    Calls Tryd.prog 76 #[.agg #[x, y, z], .agg #[x', y', z']] w fun e w' => e = .returned (.bool true) ∧ Below w.heap.size w w' := by
  obtain ⟨rfl, rfl, _, _, hz⟩ := hv
  obtain ⟨rfl, rfl, _, _, hz'⟩ := hv'
  obtain ⟨A, cap, rfl, _, _, hz⟩ := hz.form
  obtain ⟨A', cap', rfl, _, _, hz'⟩ := hz'.form
  have h3 : Below w.heap.size w ((w.alloc (.cells #[.int .i64 c.src, .int .i64 c.dst, .slice A c.map.length cap] 116)).alloc (.cells #[.int .i64 c.src, .int .i64 c.dst, .slice A' c.map.length cap'] 116)) := by go_grown
  go_enter Tryd.func76, Tryd.ntmps76
  go_wp2_with (go_at_call 10; refine (eqIntS_same lo hi lo' hi' _ _ c.map _ (hz.below h3 hB) (hz'.below h3 hB') (by simp; omega) (by simp; omega)).mono ?_; rintro e w' ⟨rfl, hb⟩)
  go_ret
  exact ⟨rfl, h3.trans (hb.mono (by simp; omega))⟩

set_option maxRecDepth 100000 in
set_option maxHeartbeats 800000 in
theorem eqCoercionS_same (lo hi lo' hi' : Nat) (v v' : Value) (cs : List Co) (w : World) (hv : CosAt w lo hi v cs) (hv' : CosAt w lo' hi' v' cs) (hB : hi ≤ w.heap.size) (hB' : hi' ≤ w.heap.size) :
    Calls Tryd.prog 53 #[v, v'] w fun e w' => e = .returned (.bool true) ∧ Below w.heap.size w w' := by
  obtain ⟨A, cap, rfl, hl, hm, hz⟩ := hv.form
  obtain ⟨A', cap', rfl, hl', hm', hz'⟩ := hv'.form
  unfold maxLen at hm hm'
  have Hz := Lib.hid hz
  have Hz' := Lib.hid hz'
  clear hz hz' hv hv'
  go_enter Tryd.func53, Tryd.ntmps53
  go_wp2
  go_loopw [5] (fun i wr => ∃ k : Nat, k ≤ cs.length ∧ i = .int .i64 k ∧ Below w.heap.size w wr) (fun i _ => cs.length - (intOf i).toNat)
  case atStart => exact ⟨0, Nat.zero_le _, rfl, Below.refl _ _⟩
  case round =>
    obtain ⟨k, hk, rfl, hb⟩ := hrel
    by_cases hlt : k < cs.length
    · obtain ⟨b, off, B2, p2, rfl, _, _, c0, c1, c2, _, _, hs, hd, hq⟩ := (Hz.out.below hb hB).at_ hlt
      obtain ⟨b', off', B2', p2', rfl, _, _, c0', c1', c2', _, _, hs', hd', hq'⟩ := (Hz'.out.below hb hB').at_ hlt
      have hi1 : (k : Int) < (cs.length : Int) := by omega
      have hbs := hb.size
      go_wp2
      go_still_tail 8, (by kernel_rfl)
      change wpList _ _ _ _ _ wr.drew
      have hbd : Below w.heap.size w wr.drew := hb.drew
      go_wp2_with fail
      refine (eqCoercion_same lo hi lo' hi' _ _ _ _ _ _ cs[k] wr.drew ⟨rfl, rfl, hs, hd, hq⟩ ⟨rfl, rfl, hs', hd', hq'⟩ (Nat.le_trans hB hbd.size) (Nat.le_trans hB' hbd.size)).mono ?_
      rintro e w' ⟨rfl, hb2⟩
      go_wp2
      go_roundw
      case rel => exact ⟨k + 1, by omega, by go_num, hbd.trans (hb2.mono hbd.size)⟩
      case measure => simp [intOf]; omega
    · obtain rfl : k = cs.length := by omega
      go_wp2
      go_ret
      exact ⟨rfl, hb⟩

set_option maxHeartbeats 400000 in
theorem eqTypes_same (lo hi lo' hi' : Nat) (s c s' c' : Value) (t : Ty) (w : World) (hv : TyAt w lo hi s c t) (hv' : TyAt w lo' hi' s' c' t) (hB : hi ≤ w.heap.size) (hB' : hi' ≤ w.heap.size) :
    Calls Tryd.prog 34 #[.agg #[s, c], .agg #[s', c']] w fun e w' => e = .returned (.bool true) ∧ Below w.heap.size w w' := by
  obtain ⟨A, cap, rfl, _, _, hz⟩ := hv.1.form
  obtain ⟨A', cap', rfl, _, _, hz'⟩ := hv'.1.form
  obtain ⟨B, bap, rfl, _, _, hc⟩ := hv.2.form
  obtain ⟨B', bap', rfl, _, _, hc'⟩ := hv'.2.form
  clear hv hv'
  have h3 : Below w.heap.size w ((w.alloc (.cells #[.slice A t.sizes.length cap, .slice B t.cos.length bap] 38)).alloc (.cells #[.slice A' t.sizes.length cap', .slice B' t.cos.length bap'] 38)) := by go_grown
  go_enter Tryd.func34, Tryd.ntmps34
  go_wp2_with fail
  refine (eqIntS_same lo hi lo' hi' _ _ t.sizes _ (hz.below h3 hB) (hz'.below h3 hB') (by simp; omega) (by simp; omega)).mono ?_
  rintro e w1 ⟨rfl, hb⟩
  have hbel := h3.trans (hb.mono (by simp; omega))
  obtain ⟨hcl, hfr⟩ := bcell hb
  have hz1 := hb.size
  simp only [World.size_alloc] at hcl hfr hz1
  have Hbel := Lib.hid hbel
  clear hbel hb h3
  have hz2 : w.heap.size + 1 < w1.heap.size := by omega
  go_wp2_with (go_at_call 53; refine (eqCoercionS_same lo hi lo' hi' _ _ t.cos _ (hc.below Hbel.out hB) (hc'.below Hbel.out hB') (by omega) (by omega)).mono ?_; rintro e w' ⟨rfl, hb2⟩)
  go_ret
  exact ⟨rfl, Hbel.out.trans (hb2.mono (by omega))⟩
end Go.Proofs.YthldlbbkbbgdkaaDoor
