/-
  The contracts of the functions that compare: where both sides read as the same data, they return true.
  The contracts of the functions that compare functions and systems: where both sides read as the same data, they return true.
  What it is that types are valid, as a Bool function on plain data; the contracts of the model's functions that ask it.
  The texts of numbers, of coercions, of types; plain data only.
  What it is that a function fits types, and that a system is valid; plain data only.
  The contract of the model's TypesValid.
-/
import Derived.Test.YtgkfddhhkjblgaaGreatDoorRows
import Derived.Test.YtgkfddhhkjblgaaGreatDoorB1
import Derived.Outline
import Derived.Handy
import Derived.BigQuiet
import Derived.Deep.QuietTactic
import Derived.StillTailTactics
import Derived.Deep.RegionWith
import Derived.Lib.Join
import Derived.Lib.ItoaNum
namespace Go.Proofs.YtgkfddhhkjblgaaGreatDoor
open Go.RowKit


set_option maxHeartbeats 800000 in
theorem eqIntS_same (lo hi lo' hi' : Nat) (v v' : Value) (zs : List Int) (w : World) (hv : IntsAt w lo hi v zs) (hv' : IntsAt w lo' hi' v' zs) (hB : hi ≤ w.heap.size) (hB' : hi' ≤ w.heap.size) :
    Calls Tryz.prog 27 #[v, v'] w fun e w' => e = .returned (.bool true) ∧ Below w.heap.size w w' := by
  obtain ⟨A, cap, rfl, hl, hm, hz⟩ := hv.form
  obtain ⟨A', cap', rfl, hl', hm', hz'⟩ := hv'.form
  unfold maxLen at hm hm'
  have Hz := Lib.hid hz
  have Hz' := Lib.hid hz'
  clear hz hz' hv hv'
  go_enter Tryz.func27, Tryz.ntmps27
  go_wp2
  go_loopw [5] (fun i wr => ∃ k : Nat, k ≤ zs.length ∧ i = .int .i64 k ∧ Below w.heap.size w wr) (fun i _ => zs.length - (intOf i).toNat)
  case atStart => exact ⟨0, Nat.zero_le _, rfl, Below.refl _ _⟩
  case round =>
    obtain ⟨k, hk, rfl, hb⟩ := hrel
    by_cases hlt : k < zs.length
    · obtain ⟨b, off, rfl, _, _, c0, _⟩ := (Hz.out.below hb hB).at_ hlt
      obtain ⟨b', off', rfl, _, _, c0', _⟩ := (Hz'.out.below hb hB').at_ hlt
      have hi1 : (k : Int) < (zs.length : Int) := by omega
      go_wp2
      go_quiet (fail)
      go_wp2
      go_roundw
      case rel => exact ⟨k + 1, by omega, by go_num, below_drewN hb _⟩
      case measure => simp [intOf]; omega
    · obtain rfl : k = zs.length := by omega
      go_wp2
      go_ret
      exact ⟨rfl, hb⟩

set_option maxHeartbeats 800000 in
theorem eqCoercion_same (lo hi lo' hi' : Nat) (x y z x' y' z' : Value) (c : Co) (w : World) (hv : CoAt w lo hi x y z c) (hv' : CoAt w lo' hi' x' y' z' c) (hB : hi ≤ w.heap.size) (hB' : hi' ≤ w.heap.size) :
    Calls Tryz.prog 121 #[.agg #[x, y, z], .agg #[x', y', z']] w fun e w' => e = .returned (.bool true) ∧ Below w.heap.size w w' := by
  obtain ⟨rfl, rfl, _, _, hz⟩ := hv
  obtain ⟨rfl, rfl, _, _, hz'⟩ := hv'
  obtain ⟨A, cap, rfl, _, _, hz⟩ := hz.form
  obtain ⟨A', cap', rfl, _, _, hz'⟩ := hz'.form
  have h3 : Below w.heap.size w ((w.alloc (.cells #[.int .i64 c.src, .int .i64 c.dst, .slice A c.map.length cap] 172)).alloc (.cells #[.int .i64 c.src, .int .i64 c.dst, .slice A' c.map.length cap'] 172)) := by go_grown
  go_enter Tryz.func121, Tryz.ntmps121
  go_wp2_with (go_at_call 27; refine (eqIntS_same lo hi lo' hi' _ _ c.map _ (hz.below h3 hB) (hz'.below h3 hB') (by simp; omega) (by simp; omega)).mono ?_; rintro e w' ⟨rfl, hb⟩)
  go_ret
  exact ⟨rfl, h3.trans (hb.mono (by simp; omega))⟩

set_option maxRecDepth 100000 in
set_option maxHeartbeats 800000 in
theorem eqCoercionS_same (lo hi lo' hi' : Nat) (v v' : Value) (cs : List Co) (w : World) (hv : CosAt w lo hi v cs) (hv' : CosAt w lo' hi' v' cs) (hB : hi ≤ w.heap.size) (hB' : hi' ≤ w.heap.size) :
    Calls Tryz.prog 81 #[v, v'] w fun e w' => e = .returned (.bool true) ∧ Below w.heap.size w w' := by
  obtain ⟨A, cap, rfl, hl, hm, hz⟩ := hv.form
  obtain ⟨A', cap', rfl, hl', hm', hz'⟩ := hv'.form
  unfold maxLen at hm hm'
  have Hz := Lib.hid hz
  have Hz' := Lib.hid hz'
  clear hz hz' hv hv'
  go_enter Tryz.func81, Tryz.ntmps81
  go_wp2
  go_loopw [5] (fun i wr => ∃ k : Nat, k ≤ cs.length ∧ i = .int .i64 k ∧ Below w.heap.size w wr) (fun i _ => cs.length - (intOf i).toNat)
  case atStart => exact ⟨0, Nat.zero_le _, rfl, Below.refl _ _⟩
  case round =>
    obtain ⟨k, hk, rfl, hb⟩ := hrel
    by_cases hlt : k < cs.length
    · obtain ⟨b, off, B2, p2, rfl, _, _, c0, c1, c2, _, _, hs, hd, hq⟩ := (Hz.out.below hb hB).at_ hlt
      obtain ⟨b', off', B2', p2', rfl, _, _, c0', c1', c2', _, _, hs', hd', hq'⟩ := (Hz'.out.below hb hB').at_ hlt
      have hi1 : (k : Int) < (cs.length : Int) := by omega
      have hbs := hb.size
      go_wp2
      go_still_tail 8, (by kernel_rfl)
      change wpList _ _ _ _ _ wr.drew
      have hbd : Below w.heap.size w wr.drew := hb.drew
      go_wp2_with fail
      refine (eqCoercion_same lo hi lo' hi' _ _ _ _ _ _ cs[k] wr.drew ⟨rfl, rfl, hs, hd, hq⟩ ⟨rfl, rfl, hs', hd', hq'⟩ (Nat.le_trans hB hbd.size) (Nat.le_trans hB' hbd.size)).mono ?_
      rintro e w' ⟨rfl, hb2⟩
      go_wp2
      go_roundw
      case rel => exact ⟨k + 1, by omega, by go_num, hbd.trans (hb2.mono hbd.size)⟩
      case measure => simp [intOf]; omega
    · obtain rfl : k = cs.length := by omega
      go_wp2
      go_ret
      exact ⟨rfl, hb⟩

set_option maxHeartbeats 400000 in
theorem eqTypes_same (lo hi lo' hi' : Nat) (s c s' c' : Value) (t : Ty) (w : World) (hv : TyAt w lo hi s c t) (hv' : TyAt w lo' hi' s' c' t) (hB : hi ≤ w.heap.size) (hB' : hi' ≤ w.heap.size) :
    Calls Tryz.prog 43 #[.agg #[s, c], .agg #[s', c']] w fun e w' => e = .returned (.bool true) ∧ Below w.heap.size w w' := by
  obtain ⟨A, cap, rfl, _, _, hz⟩ := hv.1.form
  obtain ⟨A', cap', rfl, _, _, hz'⟩ := hv'.1.form
  obtain ⟨B, bap, rfl, _, _, hc⟩ := hv.2.form
  obtain ⟨B', bap', rfl, _, _, hc'⟩ := hv'.2.form
  clear hv hv'
  have h3 : Below w.heap.size w ((w.alloc (.cells #[.slice A t.sizes.length cap, .slice B t.cos.length bap] 34)).alloc (.cells #[.slice A' t.sizes.length cap', .slice B' t.cos.length bap'] 34)) := by go_grown
  go_enter Tryz.func43, Tryz.ntmps43
  go_wp2_with fail
  refine (eqIntS_same lo hi lo' hi' _ _ t.sizes _ (hz.below h3 hB) (hz'.below h3 hB') (by simp; omega) (by simp; omega)).mono ?_
  rintro e w1 ⟨rfl, hb⟩
  have hbel := h3.trans (hb.mono (by simp; omega))
  obtain ⟨hcl, hfr⟩ := bcell hb
  have hz1 := hb.size
  simp only [World.size_alloc] at hcl hfr hz1
  have Hbel := Lib.hid hbel
  clear hbel hb h3
  have hz2 : w.heap.size + 1 < w1.heap.size := by omega
  go_wp2_with (go_at_call 81; refine (eqCoercionS_same lo hi lo' hi' _ _ t.cos _ (hc.below Hbel.out hB) (hc'.below Hbel.out hB') (by omega) (by omega)).mono ?_; rintro e w' ⟨rfl, hb2⟩)
  go_ret
  exact ⟨rfl, Hbel.out.trans (hb2.mono (by omega))⟩
end Go.Proofs.YtgkfddhhkjblgaaGreatDoor

namespace Go.Proofs.YtgkfddhhkjblgaaGreatDoor
open Go.RowKit

set_option maxHeartbeats 800000 in
theorem eqFunction_same (lo hi lo' hi' : Nat) (x a r t x' a' r' t' : Value) (f : Fu) (w : World) (hv : FuAt w lo hi x a r t f) (hv' : FuAt w lo' hi' x' a' r' t' f) (hB : hi ≤ w.heap.size) (hB' : hi' ≤ w.heap.size) :
    Calls Tryz.prog 82 #[.agg #[x, a, r, t], .agg #[x', a', r', t']] w fun e w' => e = .returned (.bool true) ∧ Below w.heap.size w w' := by
  obtain ⟨rfl, rfl, _, _, ha, ht⟩ := hv
  obtain ⟨rfl, rfl, _, _, ha', ht'⟩ := hv'
  obtain ⟨A, cap, rfl, _, _, ha⟩ := ha.form
  obtain ⟨A', cap', rfl, _, _, ha'⟩ := ha'.form
  obtain ⟨B, bap, rfl, _, _, ht⟩ := ht.form
  obtain ⟨B', bap', rfl, _, _, ht'⟩ := ht'.form
  have h3 : Below w.heap.size w ((w.alloc (.cells #[.string f.name, .slice A f.args.length cap, .int .i64 f.res, .slice B f.table.length bap] 106)).alloc (.cells #[.string f.name, .slice A' f.args.length cap', .int .i64 f.res, .slice B' f.table.length bap'] 106)) := by go_grown
  go_enter Tryz.func82, Tryz.ntmps82
  go_wp2_with fail
  refine (eqIntS_same lo hi lo' hi' _ _ f.args _ (ha.below h3 hB) (ha'.below h3 hB') (by simp; omega) (by simp; omega)).mono ?_
  rintro e w1 ⟨rfl, hb⟩
  have hbel := h3.trans (hb.mono (by simp; omega))
  obtain ⟨hcl, hfr⟩ := bcell hb
  have hz1 := hb.size
  simp only [World.size_alloc] at hcl hfr hz1
  have Hbel := Lib.hid hbel
  clear hbel hb h3
  have hz2 : w.heap.size + 1 < w1.heap.size := by omega
  go_wp2_with (go_at_call 27; refine (eqIntS_same lo hi lo' hi' _ _ f.table _ (ht.below Hbel.out hB) (ht'.below Hbel.out hB') (by omega) (by omega)).mono ?_; rintro e w' ⟨rfl, hb2⟩)
  go_ret
  exact ⟨rfl, Hbel.out.trans (hb2.mono (by omega))⟩

set_option maxRecDepth 100000 in
set_option maxHeartbeats 800000 in
theorem eqFunctionS_same (lo hi lo' hi' : Nat) (v v' : Value) (fs : List Fu) (w : World) (hv : FusAt w lo hi v fs) (hv' : FusAt w lo' hi' v' fs) (hB : hi ≤ w.heap.size) (hB' : hi' ≤ w.heap.size) :
    Calls Tryz.prog 44 #[v, v'] w fun e w' => e = .returned (.bool true) ∧ Below w.heap.size w w' := by
  obtain ⟨A, cap, rfl, hl, hm, hz⟩ := hv.form
  obtain ⟨A', cap', rfl, hl', hm', hz'⟩ := hv'.form
  unfold maxLen at hm hm'
  have Hz := Lib.hid hz
  have Hz' := Lib.hid hz'
  clear hz hz' hv hv'
  go_enter Tryz.func44, Tryz.ntmps44
  go_wp2
  go_loopw [5] (fun i wr => ∃ k : Nat, k ≤ fs.length ∧ i = .int .i64 k ∧ Below w.heap.size w wr) (fun i _ => fs.length - (intOf i).toNat)
  case atStart => exact ⟨0, Nat.zero_le _, rfl, Below.refl _ _⟩
  case round =>
    obtain ⟨k, hk, rfl, hb⟩ := hrel
    by_cases hlt : k < fs.length
    · obtain ⟨b, off, B1, p1, B2, p2, rfl, _, _, c0, c1, c2, c3, _, _, _, _, hq⟩ := (Hz.out.below hb hB).at_ hlt
      obtain ⟨b', off', B1', p1', B2', p2', rfl, _, _, c0', c1', c2', c3', _, _, _, _, hq'⟩ := (Hz'.out.below hb hB').at_ hlt
      have hi1 : (k : Int) < (fs.length : Int) := by omega
      have hbs := hb.size
      go_wp2
      go_still_tail 8, (by kernel_rfl)
      change wpList _ _ _ _ _ wr.drew
      have hbd : Below w.heap.size w wr.drew := hb.drew
      go_wp2_with fail
      refine (eqFunction_same lo hi lo' hi' _ _ _ _ _ _ _ _ fs[k] wr.drew hq hq' (Nat.le_trans hB hbd.size) (Nat.le_trans hB' hbd.size)).mono ?_
      rintro e w' ⟨rfl, hb2⟩
      go_wp2
      go_roundw
      case rel => exact ⟨k + 1, by omega, by go_num, hbd.trans (hb2.mono hbd.size)⟩
      case measure => simp [intOf]; omega
    · obtain rfl : k = fs.length := by omega
      go_wp2
      go_ret
      exact ⟨rfl, hb⟩

set_option maxHeartbeats 400000 in
theorem eqSystem_same (lo hi lo' hi' : Nat) (s c v s' c' v' : Value) (y : Sy) (w : World) (hv : SyAt w lo hi s c v y) (hv' : SyAt w lo' hi' s' c' v' y) (hB : hi ≤ w.heap.size) (hB' : hi' ≤ w.heap.size) :
    Calls Tryz.prog 14 #[.agg #[s, c, v], .agg #[s', c', v']] w fun e w' => e = .returned (.bool true) ∧ Below w.heap.size w w' := by
  obtain ⟨hty, hf⟩ := hv
  obtain ⟨hty', hf'⟩ := hv'
  obtain ⟨A, cap, rfl, _, _, hz⟩ := hty.1.form
  obtain ⟨A', cap', rfl, _, _, hz'⟩ := hty'.1.form
  obtain ⟨B, bap, rfl, _, _, hc⟩ := hty.2.form
  obtain ⟨B', bap', rfl, _, _, hc'⟩ := hty'.2.form
  obtain ⟨C, dap, rfl, _, _, hf⟩ := hf.form
  obtain ⟨C', dap', rfl, _, _, hf'⟩ := hf'.form
  have hT : TyAt w lo hi (.slice A y.ty.sizes.length cap) (.slice B y.ty.cos.length bap) y.ty := ⟨hz, hc⟩
  have hT' : TyAt w lo' hi' (.slice A' y.ty.sizes.length cap') (.slice B' y.ty.cos.length bap') y.ty := ⟨hz', hc'⟩
  clear hty hty' hz hz' hc hc'
  have h3 : Below w.heap.size w ((w.alloc (.cells #[.slice A y.ty.sizes.length cap, .slice B y.ty.cos.length bap, .slice C y.fs.length dap] 37)).alloc (.cells #[.slice A' y.ty.sizes.length cap', .slice B' y.ty.cos.length bap', .slice C' y.fs.length dap'] 37)) := by go_grown
  go_enter Tryz.func14, Tryz.ntmps14
  go_wp2_with fail
  refine (eqTypes_same lo hi lo' hi' _ _ _ _ y.ty _ (hT.below h3 hB) (hT'.below h3 hB') (by simp; omega) (by simp; omega)).mono ?_
  rintro e w1 ⟨rfl, hb⟩
  have hbel := h3.trans (hb.mono (by simp; omega))
  obtain ⟨hcl, hfr⟩ := bcell hb
  have hz1 := hb.size
  simp only [World.size_alloc] at hcl hfr hz1
  have Hbel := Lib.hid hbel
  clear hbel hb h3
  have hz2 : w.heap.size + 1 < w1.heap.size := by omega
  go_wp2_with (go_at_call 44; refine (eqFunctionS_same lo hi lo' hi' _ _ y.fs _ (hf.below Hbel.out hB) (hf'.below Hbel.out hB') (by omega) (by omega)).mono ?_; rintro e w' ⟨rfl, hb2⟩)
  go_ret
  exact ⟨rfl, Hbel.out.trans (hb2.mono (by omega))⟩
end Go.Proofs.YtgkfddhhkjblgaaGreatDoor

namespace Go.Proofs.YtgkfddhhkjblgaaGreatDoor
open Go.RowKit

/-- Does n lie between two numbers? -/
def inB (n lo hi : Int) : Bool := decide (lo ≤ n ∧ n ≤ hi)
theorem inB_yes {n lo hi : Int} (h1 : lo ≤ n) (h2 : n ≤ hi) : inB n lo hi = true := by simp [inB, h1, h2]
theorem inB_low {n lo hi : Int} (h1 : ¬ lo ≤ n) : inB n lo hi = false := by simp [inB, h1]
theorem inB_high {n lo hi : Int} (h1 : ¬ n ≤ hi) : inB n lo hi = false := by simp [inB, h1]
theorem inB_iff {n lo hi : Int} : inB n lo hi = true ↔ lo ≤ n ∧ n ≤ hi := by simp [inB]

theorem l1In_any (n lo hi : Int) (w : World) : Calls Tryz.prog 45 #[.int .i64 n, .int .i64 lo, .int .i64 hi] w fun e w' => e = .returned (.bool (inB n lo hi)) ∧ w = w' := by
  by_cases h1 : lo ≤ n
  · by_cases h2 : n ≤ hi
    · have H := Lib.hid (inB_yes h1 h2)
      go_enter Tryz.func45, Tryz.ntmps45
      go_wp2
      go_ret
      exact ⟨ret_bool H.out.symm, rfl⟩
    · have H := Lib.hid (inB_high (lo := lo) h2)
      go_enter Tryz.func45, Tryz.ntmps45
      go_wp2
      go_ret
      exact ⟨ret_bool H.out.symm, rfl⟩
  · have H := Lib.hid (inB_low (hi := hi) h1)
    go_enter Tryz.func45, Tryz.ntmps45
    go_wp2
    go_ret
    exact ⟨ret_bool H.out.symm, rfl⟩

/-- The sizes are valid. -/
def sizesOk (ss : List Int) : Bool := decide (1 ≤ ss.length ∧ ss.length ≤ 5) && ss.all fun n => inB n 1 4
theorem sizesOk_of {ss : List Int} (h : sizesOk ss = true) : 1 ≤ ss.length ∧ ss.length ≤ 5 ∧ ∀ k, ∀ (hk : k < ss.length), 1 ≤ ss[k] ∧ ss[k] ≤ 4 := by
  simp only [sizesOk, Bool.and_eq_true, decide_eq_true_eq, List.all_eq_true] at h
  exact ⟨h.1.1, h.1.2, fun k hk => inB_iff.1 (h.2 _ (List.getElem_mem hk))⟩

/-- All but the map's numbers of a coercion are right: for valid sizes. -/
def coHead (ss : List Int) (c : Co) : Bool := decide (0 ≤ c.src ∧ c.src < c.dst ∧ c.dst < ss.length ∧ (c.map.length : Int) = ss.getD c.src.toNat 0)
def coOk (ss : List Int) (c : Co) : Bool := coHead ss c && c.map.all fun z => inB z 0 (ss.getD c.dst.toNat 0 - 1)
def tyOk (t : Ty) : Bool := sizesOk t.sizes && decide (t.cos.length ≤ 8) && t.cos.all fun c => coOk t.sizes c
theorem coOk_of {ss : List Int} {c : Co} (h : coOk ss c = true) : 0 ≤ c.src ∧ c.src < c.dst ∧ c.dst < ss.length ∧ (c.map.length : Int) = ss.getD c.src.toNat 0 ∧ ∀ k, ∀ (hk : k < c.map.length), 0 ≤ c.map[k] ∧ c.map[k] ≤ ss.getD c.dst.toNat 0 - 1 := by
  simp only [coOk, coHead, Bool.and_eq_true, decide_eq_true_eq, List.all_eq_true] at h
  exact ⟨h.1.1, h.1.2.1, h.1.2.2.1, h.1.2.2.2, fun k hk => inB_iff.1 (h.2 _ (List.getElem_mem hk))⟩

/-- One element fails; all elements pass. -/
theorem all_false_of {α : Type} {l : List α} {p : α → Bool} (k : Nat) (hk : k < l.length) (h : p l[k] = false) : l.all p = false := by
  rw [List.all_eq_false]
  exact ⟨l[k], List.getElem_mem hk, by simp [h]⟩
theorem all_true_of {α : Type} {l : List α} {p : α → Bool} (h : ∀ j, ∀ (hj : j < l.length), p l[j] = true) : l.all p = true := by
  rw [List.all_eq_true]
  intro x hx
  obtain ⟨i, hi, rfl⟩ := List.getElem_of_mem hx
  exact h i hi

theorem wrapIn (x : Int) (h1 : -9223372036854775808 ≤ x) (h2 : x ≤ 9223372036854775807) : IntKind.i64.wrap x = x := IntWalk.i64_in x (by omega)

set_option maxRecDepth 100000 in
set_option maxHeartbeats 1000000 in
/-- The head of a coercion is wrong: the model says no. -/
theorem l1Map_no (lo hi lo' hi' : Nat) (sv x y z : Value) (ss : List Int) (c : Co) (w : World) (hv : IntsAt w lo hi sv ss) (hc : CoAt w lo' hi' x y z c) (hB : hi ≤ w.heap.size) (_hB' : hi' ≤ w.heap.size) (hok : sizesOk ss = true) (hno : coHead ss c = false) :
    Calls Tryz.prog 128 #[sv, .agg #[x, y, z]] w fun e w' => e = .returned (.bool false) ∧ Below w.heap.size w w' := by
  obtain ⟨h1, h5, hall⟩ := sizesOk_of hok
  obtain ⟨rfl, rfl, hs, hd, hz⟩ := hc
  obtain ⟨A, cap, rfl, _, _, hi1⟩ := hv.form
  obtain ⟨A', cap', rfl, hl2, hm2, hi2⟩ := hz.form
  unfold I64 at hs hd
  unfold maxLen at hm2
  have h3 : Below w.heap.size w (w.alloc (.cells #[.int .i64 c.src, .int .i64 c.dst, .slice A' c.map.length cap'] 172)) := by go_grown
  have hwr := wrapIn ((ss.length : Int) - 1) (by omega) (by omega)
  by_cases ha : 1 ≤ c.dst ∧ c.dst ≤ (ss.length : Int) - 1
  · have hA := inB_yes ha.1 ha.2
    have hwr2 := wrapIn (c.dst - 1) (by omega) (by omega)
    by_cases hb : 0 ≤ c.src ∧ c.src ≤ c.dst - 1
    · have hB2 := inB_yes hb.1 hb.2
      have hlt : c.src.toNat < ss.length := by omega
      obtain ⟨b, off, rfl, _, hbh, c0, _⟩ := (hi1.below h3 hB).at_ hlt
      have hne : ((c.map.length : Int) == ss[c.src.toNat]) = false := by
        have : ¬ (c.map.length : Int) = ss[c.src.toNat] := by
          intro e
          simp only [coHead, decide_eq_false_iff_not] at hno
          apply hno
          rw [List.getD_eq_getElem?_getD, List.getElem?_eq_getElem hlt]
          exact ⟨hb.1, by omega, by omega, e⟩
        simpa using this
      go_enter Tryz.func128, Tryz.ntmps128
      go_wp2_with fail
      go_quiet ((first | (go_at_call 45; exact quiet_eq (l1In_any _ _ _ _))))
      go_wp2
      go_ret
      exact ⟨rfl, below_drewN h3 _⟩
    · have hB2 : inB c.src 0 (c.dst - 1) = false := by
        by_cases h0 : 0 ≤ c.src
        · exact inB_high (fun h => hb ⟨h0, h⟩)
        · exact inB_low h0
      go_enter Tryz.func128, Tryz.ntmps128
      go_wp2_with fail
      go_quiet ((first | (go_at_call 45; exact quiet_eq (l1In_any _ _ _ _))))
      go_wp2
      go_ret
      exact ⟨rfl, below_drewN h3 _⟩
  · have hA : inB c.dst 1 ((ss.length : Int) - 1) = false := by
      by_cases h0 : 1 ≤ c.dst
      · exact inB_high (fun h => ha ⟨h0, h⟩)
      · exact inB_low h0
    go_enter Tryz.func128, Tryz.ntmps128
    go_wp2_with fail
    go_quiet ((first | (go_at_call 45; exact quiet_eq (l1In_any _ _ _ _))))
    go_wp2
    go_ret
    exact ⟨rfl, below_drewN h3 _⟩

set_option maxRecDepth 100000 in
set_option maxHeartbeats 2000000 in
/-- The head of a coercion is right: the model looks at the map's numbers. -/
theorem l1Map_yes (lo hi lo' hi' : Nat) (sv x y z : Value) (ss : List Int) (c : Co) (w : World) (hv : IntsAt w lo hi sv ss) (hc : CoAt w lo' hi' x y z c) (hB : hi ≤ w.heap.size) (hB' : hi' ≤ w.heap.size) (hok : sizesOk ss = true) (hyes : coHead ss c = true) :
    Calls Tryz.prog 128 #[sv, .agg #[x, y, z]] w fun e w' => e = .returned (.bool (coOk ss c)) ∧ Below w.heap.size w w' := by
  obtain ⟨h1, h5, hall⟩ := sizesOk_of hok
  obtain ⟨rfl, rfl, hs, hd, hz⟩ := hc
  obtain ⟨A, cap, rfl, _, _, hi1⟩ := hv.form
  obtain ⟨A', cap', rfl, hl2, hm2, hi2⟩ := hz.form
  unfold I64 at hs hd
  unfold maxLen at hm2
  have hyes' := hyes
  simp only [coHead, decide_eq_true_eq] at hyes'
  obtain ⟨e1, e2, e3, e4⟩ := hyes'
  have h3 : Below w.heap.size w (w.alloc (.cells #[.int .i64 c.src, .int .i64 c.dst, .slice A' c.map.length cap'] 172)) := by go_grown
  have hwr := wrapIn ((ss.length : Int) - 1) (by omega) (by omega)
  have hA := inB_yes (n := c.dst) (lo := 1) (hi := (ss.length : Int) - 1) (by omega) (by omega)
  have hwr2 := wrapIn (c.dst - 1) (by omega) (by omega)
  have hB2 := inB_yes (n := c.src) (lo := 0) (hi := c.dst - 1) (by omega) (by omega)
  have hlt : c.src.toNat < ss.length := by omega
  have hlt2 : c.dst.toNat < ss.length := by omega
  obtain ⟨b, off, rfl, _, hbh, c0, _⟩ := (hi1.below h3 hB).at_ hlt
  rw [List.getD_eq_getElem?_getD, List.getElem?_eq_getElem hlt] at e4
  have hne : ((c.map.length : Int) != ss[c.src.toNat]) = false := by simpa using e4
  have hyz := Lib.hid hyes
  have h4 := Lib.hid e4
  clear hyes e4
  go_enter Tryz.func128, Tryz.ntmps128
  go_wp2_with fail
  go_quiet ((first | (go_at_call 45; exact quiet_eq (l1In_any _ _ _ _))))
  go_wp2
  clear hA hB2 hne hwr hwr2 c0
  obtain ⟨b2, off2, eb2, _, hbh2, c02, _⟩ := (hi1.below h3 hB).at_ hlt2
  injection eb2 with eb2
  injection eb2 with eb2 eo2
  subst eb2 eo2
  have hsz := hall _ hlt2
  have Hi2 := Lib.hid (hi2.below h3 hB')
  have H3 := Lib.hid h3
  clear hi1 hi2 hv hz h3 hall
  go_loop [37] (fun i => ∃ k : Nat, k ≤ c.map.length ∧ i = .int .i64 k ∧ Hid (∀ j, j < k → ∀ (hj : j < c.map.length), inB c.map[j] 0 (ss.getD c.dst.toNat 0 - 1) = true)) (fun i => c.map.length - (intOf i).toNat)
  case atStart => exact ⟨0, Nat.zero_le _, rfl, fun j hj => absurd hj (by omega)⟩
  case round =>
    obtain ⟨k, hk, rfl, hok2⟩ := hrel
    by_cases hkl : k < c.map.length
    · obtain ⟨b3, off3, rfl, _, _, c3, _⟩ := Hi2.out.at_ hkl
      by_cases hin : inB c.map[k] 0 (ss[c.dst.toNat] - 1) = true
      · have hin' : Hid (inB c.map[k] 0 (ss.getD c.dst.toNat 0 - 1) = true) := by
          rw [List.getD_eq_getElem?_getD, List.getElem?_eq_getElem hlt2]; exact hin
        go_wp2_with (go_at_call 45; refine (l1In_any _ _ _ _).mono ?_; rintro e w' ⟨rfl, rfl⟩; rw [hin])
        go_round
        case rel =>
          refine ⟨k + 1, by omega, by go_num, fun j hj hjl => ?_⟩
          by_cases ej : j = k
          · subst ej; exact hin'.out
          · exact hok2.out j (by omega) hjl
        case measure => simp [intOf]; omega
      · have hinf : inB c.map[k] 0 (ss[c.dst.toNat] - 1) = false := by simpa using hin
        have hfin : Hid (coOk ss c = false) := by
          unfold coOk
          rw [hyz.out, Bool.true_and]
          refine all_false_of k hkl ?_
          rw [List.getD_eq_getElem?_getD, List.getElem?_eq_getElem hlt2]; exact hinf
        clear hin
        go_wp2_with (go_at_call 45; refine (l1In_any _ _ _ _).mono ?_; rintro e w' ⟨rfl, rfl⟩; rw [hinf])
        go_ret
        exact ⟨ret_bool hfin.out.symm, below_drewN H3.out _⟩
    · obtain rfl : k = c.map.length := by omega
      have hfin : Hid (coOk ss c = true) := by
        unfold coOk
        rw [hyz.out, Bool.true_and]
        exact all_true_of fun j hj => hok2.out j hj hj
      go_wp2
      go_ret
      exact ⟨ret_bool hfin.out.symm, below_drewN H3.out _⟩

theorem l1Map_any (lo hi lo' hi' : Nat) (sv x y z : Value) (ss : List Int) (c : Co) (w : World) (hv : IntsAt w lo hi sv ss) (hc : CoAt w lo' hi' x y z c) (hB : hi ≤ w.heap.size) (hB' : hi' ≤ w.heap.size) (hok : sizesOk ss = true) :
    Calls Tryz.prog 128 #[sv, .agg #[x, y, z]] w fun e w' => e = .returned (.bool (coOk ss c)) ∧ Below w.heap.size w w' := by
  by_cases h : coHead ss c = true
  · exact l1Map_yes lo hi lo' hi' sv x y z ss c w hv hc hB hB' hok h
  · have hf : coHead ss c = false := by simpa using h
    have e : coOk ss c = false := by unfold coOk; rw [hf, Bool.false_and]
    rw [e]
    exact l1Map_no lo hi lo' hi' sv x y z ss c w hv hc hB hB' hok hf

theorem tyOk_false1 {t : Ty} (h : sizesOk t.sizes = false) : tyOk t = false := by unfold tyOk; rw [h, Bool.false_and, Bool.false_and]
theorem tyOk_false2 {t : Ty} (h : ¬ t.cos.length ≤ 8) : tyOk t = false := by unfold tyOk; simp [h]
theorem tyOk_of {t : Ty} (h1 : sizesOk t.sizes = true) (h2 : t.cos.length ≤ 8) : tyOk t = t.cos.all fun c => coOk t.sizes c := by unfold tyOk; simp [h1, h2]
end Go.Proofs.YtgkfddhhkjblgaaGreatDoor

namespace Go.Proofs.YtgkfddhhkjblgaaGreatDoor
open Go.RowKit

/-- Bytes as a Go string. -/
def str (l : List UInt8) : ByteArray := ⟨l.toArray⟩
theorem str_append (a b : List UInt8) : str a ++ str b = str (a ++ b) := by
  unfold str
  apply ByteArray.ext
  simp [ByteArray.data_append]
theorem str_size (l : List UInt8) : (str l).size = l.length := by simp [str, ByteArray.size]
theorem str_list (s : ByteArray) : str s.data.toList = s := by cases s; simp [str]
theorem str_inj {a b : List UInt8} (h : str a = str b) : a = b := by
  unfold str at h
  injection h with h
  simpa using h

/-- A number of one digit. -/
def dg (z : Int) : List UInt8 := [UInt8.ofNat (48 + z.toNat)]
def Dig (z : Int) : Prop := 0 ≤ z ∧ z ≤ 9
theorem dg_dec {n : Nat} (h : n ≤ 9) : Lib.decDigits n = dg (n : Int) := by
  rw [Lib.decDigits, dif_pos (by omega)]
  rfl
/-- Numbers with single spaces between them: of the first k, and of all. -/
def numsTo (zs : List Int) : Nat → List UInt8
  | 0 => []
  | 1 => dg (zs.getD 0 0)
  | k + 2 => numsTo zs (k + 1) ++ [32] ++ dg (zs.getD (k + 1) 0)
def numsT (zs : List Int) : List UInt8 := numsTo zs zs.length
theorem numsTo_one (zs : List Int) : numsTo zs 1 = dg (zs.getD 0 0) := rfl
theorem numsTo_succ (zs : List Int) {k : Nat} (h : 0 < k) : numsTo zs (k + 1) = numsTo zs k ++ [32] ++ dg (zs.getD k 0) := by
  match k, h with
  | k + 1, _ => rfl
theorem numsTo_len (zs : List Int) : ∀ k, (numsTo zs k).length ≤ 2 * k
  | 0 => Nat.le_refl _
  | 1 => by simp [numsTo, dg]
  | k + 2 => by
    have := numsTo_len zs (k + 1)
    simp only [numsTo, List.length_append, dg, List.length_cons, List.length_nil]
    omega
theorem numsT_len (zs : List Int) : (numsT zs).length ≤ 2 * zs.length := numsTo_len zs zs.length
theorem join_numsTo (zs : List Int) : ∀ k, k ≤ zs.length → Lib.join ((zs.take k).map dg) [32] = numsTo zs k
  | 0, _ => rfl
  | 1, h => by
    have e : zs.take 1 = [zs[0]] := by
      rw [List.take_succ_eq_append_getElem (by omega)]
      simp
    rw [e, numsTo_one, List.getD_eq_getElem?_getD, List.getElem?_eq_getElem (by omega)]
    exact Lib.join_one _ _
  | k + 2, h => by
    have ih := join_numsTo zs (k + 1) (by omega)
    have hk : k + 1 < zs.length := by omega
    rw [numsTo, ← ih]
    match zs, hk with
    | z :: l, hk =>
      have hk' : k < l.length := by simpa using hk
      simp only [List.take_succ_cons, List.map_cons, Lib.join_cons]
      have e := Lib.joinTail_take_succ [32] (l.map dg) k (dg l[k]) (by simp [hk'])
      rw [← List.map_take, ← List.map_take] at e
      rw [e]
      have e2 : (z :: l).getD (k + 1) 0 = l[k] := by
        rw [List.getD_eq_getElem?_getD, List.getElem?_cons_succ, List.getElem?_eq_getElem hk']
        rfl
      rw [e2]
      simp [List.append_assoc]
theorem join_numsT (zs : List Int) : Lib.join (zs.map dg) [32] = numsT zs := by
  have := join_numsTo zs zs.length (Nat.le_refl _)
  rwa [List.take_length] at this

/-- The text of a coercion. -/
def coT (c : Co) : List UInt8 := dg c.src ++ [62] ++ dg c.dst ++ [58] ++ numsT c.map
/-- The text of types: with the first k coercions, and with all. -/
def tyTo (t : Ty) : Nat → List UInt8
  | 0 => numsT t.sizes
  | k + 1 => tyTo t k ++ [59] ++ coT (t.cos.getD k default)
def tyT (t : Ty) : List UInt8 := tyTo t t.cos.length
def fmtTy (t : Ty) : List UInt8 := if tyOk t = true then tyT t else []
theorem coT_len (c : Co) : (coT c).length ≤ 4 + 2 * c.map.length := by
  have := numsT_len c.map
  simp only [coT, List.length_append, dg, List.length_cons, List.length_nil]
  omega
/-- What valid types have: few numbers, all of one digit. -/
structure TyDigs (t : Ty) : Prop where
  sizes : ∀ z ∈ t.sizes, Dig z
  few : t.sizes.length ≤ 5
  cos : t.cos.length ≤ 8
  each : ∀ j, ∀ (hj : j < t.cos.length), Dig t.cos[j].src ∧ Dig t.cos[j].dst ∧ (∀ z ∈ t.cos[j].map, Dig z) ∧ t.cos[j].map.length ≤ 9
theorem tyTo_len {t : Ty} (h : TyDigs t) : ∀ k, k ≤ t.cos.length → (tyTo t k).length ≤ 10 + 23 * k
  | 0, _ => by
    have := numsT_len t.sizes
    have := h.few
    show (numsT t.sizes).length ≤ _
    omega
  | k + 1, hk => by
    have h1 := tyTo_len h k (by omega)
    have h2 := coT_len (t.cos.getD k default)
    have h3 := (h.each k (by omega)).2.2.2
    have e : t.cos.getD k default = t.cos[k] := by rw [List.getD_eq_getElem?_getD, List.getElem?_eq_getElem (by omega)]; rfl
    rw [e] at h2
    show (tyTo t k ++ [59] ++ coT (t.cos.getD k default)).length ≤ _
    rw [e]
    simp only [List.length_append, List.length_cons, List.length_nil]
    omega
theorem tyDigs {t : Ty} (h : tyOk t = true) : TyDigs t := by
  simp only [tyOk, Bool.and_eq_true, decide_eq_true_eq] at h
  obtain ⟨⟨h1, h2⟩, h3⟩ := h
  obtain ⟨_, g2, g3⟩ := sizesOk_of h1
  have one : ∀ k : Nat, k < t.sizes.length → 1 ≤ t.sizes.getD k 0 ∧ t.sizes.getD k 0 ≤ 4 := fun k hk => by
    rw [List.getD_eq_getElem?_getD, List.getElem?_eq_getElem hk]
    exact g3 k hk
  refine ⟨fun z hz => ?_, g2, h2, fun j hj => ?_⟩
  · obtain ⟨k, hk, rfl⟩ := List.getElem_of_mem hz
    have := g3 k hk
    unfold Dig
    omega
  · obtain ⟨c1, c2, c3, c4, c5⟩ := coOk_of (List.all_eq_true.1 h3 _ (List.getElem_mem hj))
    have e1 := one t.cos[j].src.toNat (by omega)
    have e2 := one t.cos[j].dst.toNat (by omega)
    refine ⟨by unfold Dig; omega, by unfold Dig; omega, fun z hz => ?_, by omega⟩
    obtain ⟨k, hk, rfl⟩ := List.getElem_of_mem hz
    have := c5 k hk
    unfold Dig
    omega
end Go.Proofs.YtgkfddhhkjblgaaGreatDoor

namespace Go.Proofs.YtgkfddhhkjblgaaGreatDoor
open Go.RowKit

/-- A name that a function can have. -/
def NameOk (s : ByteArray) : Prop := ∃ b : UInt8, s = ⟨#[b]⟩ ∧ 102 ≤ b.toNat ∧ b.toNat ≤ 107

/-- How many results a function with some types of arguments has: over the first k arguments. -/
def cellsTo (ss args : List Int) : Nat → Int
  | 0 => 1
  | k + 1 => cellsTo ss args k * ss.getD (args.getD k 0).toNat 0
def cellsI (ss args : List Int) : Int := cellsTo ss args args.length

/-- A function fits some sizes. -/
structure FuOk (ss : List Int) (f : Fu) : Prop where
  name : NameOk f.name
  few : f.args.length ≤ 2
  args : ∀ j, ∀ (hj : j < f.args.length), 0 ≤ f.args[j] ∧ f.args[j] < ss.length
  res : 0 ≤ f.res ∧ f.res < ss.length
  len : (f.table.length : Int) = cellsI ss f.args
  table : ∀ j, ∀ (hj : j < f.table.length), 0 ≤ f.table[j] ∧ f.table[j] < ss.getD f.res.toNat 0

/-- No two functions have the same name and the same types of arguments. -/
def Differ (fs : List Fu) : Prop := ∀ i k : Nat, i < fs.length → k < i → ¬ ((fs.getD i default).name = (fs.getD k default).name ∧ (fs.getD i default).args = (fs.getD k default).args)

structure SyOk (y : Sy) : Prop where
  ty : tyOk y.ty = true
  few : y.fs.length ≤ 8
  each : ∀ i, ∀ (hi : i < y.fs.length), FuOk y.ty.sizes y.fs[i]
  differ : Differ y.fs

open Classical in
noncomputable def fuB (ss : List Int) (f : Fu) : Bool := decide (FuOk ss f)
open Classical in
noncomputable def syB (y : Sy) : Bool := decide (SyOk y)
theorem fuB_yes {ss : List Int} {f : Fu} (h : FuOk ss f) : fuB ss f = true := by unfold fuB; exact @decide_eq_true _ (Classical.propDecidable _) h
theorem fuB_no {ss : List Int} {f : Fu} (h : ¬ FuOk ss f) : fuB ss f = false := by unfold fuB; exact @decide_eq_false _ (Classical.propDecidable _) h
theorem fuB_iff {ss : List Int} {f : Fu} : fuB ss f = true ↔ FuOk ss f := by unfold fuB; exact @decide_eq_true_iff _ (Classical.propDecidable _)
theorem syB_yes {y : Sy} (h : SyOk y) : syB y = true := by unfold syB; exact @decide_eq_true _ (Classical.propDecidable _) h
theorem syB_no {y : Sy} (h : ¬ SyOk y) : syB y = false := by unfold syB; exact @decide_eq_false _ (Classical.propDecidable _) h
theorem syB_iff {y : Sy} : syB y = true ↔ SyOk y := by unfold syB; exact @decide_eq_true_iff _ (Classical.propDecidable _)

/-- With valid sizes and two arguments at most, the product is small. -/
theorem cellsTo_small {ss args : List Int} (hok : sizesOk ss = true) (ha : ∀ j, ∀ (hj : j < args.length), 0 ≤ args[j] ∧ args[j] < ss.length) (hf : args.length ≤ 2) : ∀ k, k ≤ args.length → 1 ≤ cellsTo ss args k ∧ cellsTo ss args k ≤ 16 := by
  obtain ⟨_, _, hall⟩ := sizesOk_of hok
  have one : ∀ k, k < args.length → 1 ≤ ss.getD (args.getD k 0).toNat 0 ∧ ss.getD (args.getD k 0).toNat 0 ≤ 4 := fun k hk => by
    obtain ⟨h0, h1⟩ := ha k hk
    have e : args.getD k 0 = args[k] := by rw [List.getD_eq_getElem?_getD, List.getElem?_eq_getElem hk]; rfl
    have hlt : args[k].toNat < ss.length := by omega
    rw [e, List.getD_eq_getElem?_getD, List.getElem?_eq_getElem hlt]
    exact hall _ hlt
  intro k hk
  match k, hk with
  | 0, _ => exact ⟨by show (1 : Int) ≤ 1; omega, by show (1 : Int) ≤ 16; omega⟩
  | 1, hk =>
    have := one 0 (by omega)
    show 1 ≤ 1 * ss.getD (args.getD 0 0).toNat 0 ∧ 1 * ss.getD (args.getD 0 0).toNat 0 ≤ 16
    rw [Int.one_mul]
    omega
  | 2, hk =>
    have h0 := one 0 (by omega)
    have h1 := one 1 (by omega)
    show 1 ≤ 1 * ss.getD (args.getD 0 0).toNat 0 * ss.getD (args.getD 1 0).toNat 0 ∧ 1 * ss.getD (args.getD 0 0).toNat 0 * ss.getD (args.getD 1 0).toNat 0 ≤ 16
    rw [Int.one_mul]
    generalize ss.getD (args.getD 0 0).toNat 0 = p at *
    generalize ss.getD (args.getD 1 0).toNat 0 = q at *
    have hp : p = 1 ∨ p = 2 ∨ p = 3 ∨ p = 4 := by omega
    rcases hp with rfl | rfl | rfl | rfl <;> omega
  | k + 3, hk => omega
end Go.Proofs.YtgkfddhhkjblgaaGreatDoor

namespace Go.Proofs.YtgkfddhhkjblgaaGreatDoor
open Go.RowKit

set_option maxRecDepth 100000 in
set_option maxHeartbeats 2000000 in
theorem specValid_any (lo hi : Nat) (sv cv : Value) (t : Ty) (w : World) (hv : TyAt w lo hi sv cv t) (hB : hi ≤ w.heap.size) :
    Calls Tryz.prog 103 #[.agg #[sv, cv]] w fun e w' => e = .returned (.bool (tyOk t)) ∧ Below w.heap.size w w' := by
  obtain ⟨A, cap, rfl, hl1, hm1, hi1⟩ := hv.1.form
  obtain ⟨B, bap, rfl, hl2, hm2, hc1⟩ := hv.2.form
  unfold maxLen at hm1 hm2
  have h3 : Below w.heap.size w (w.alloc (.cells #[.slice A t.sizes.length cap, .slice B t.cos.length bap] 34)) := by go_grown
  clear hv
  by_cases ha : 1 ≤ t.sizes.length ∧ t.sizes.length ≤ 5
  · have hA : inB (t.sizes.length : Int) 1 5 = true := inB_yes (by omega) (by omega)
    by_cases hb : t.cos.length ≤ 8
    · have hd : decide ((8 : Int) < (t.cos.length : Int)) = false := by simp; omega
      have Hc1 := Lib.hid hc1
      have Hi1 := Lib.hid hi1
      have H3 := Lib.hid h3
      clear hc1 hi1 h3
      go_enter Tryz.func103, Tryz.ntmps103
      go_wp2_with (go_at_call 45; refine (l1In_any _ _ _ _).mono ?_; rintro e w' ⟨rfl, rfl⟩; rw [hA])
      clear hd hA
      go_loop [21] (fun i => ∃ k : Nat, k ≤ t.sizes.length ∧ i = .int .i64 k ∧ Hid (∀ j, j < k → ∀ (hj : j < t.sizes.length), inB t.sizes[j] 1 4 = true)) (fun i => t.sizes.length - (intOf i).toNat)
      case atStart => exact ⟨0, Nat.zero_le _, rfl, fun j hj => absurd hj (by omega)⟩
      case round =>
        obtain ⟨k, hk, rfl, hok2⟩ := hrel
        by_cases hkl : k < t.sizes.length
        · obtain ⟨b3, off3, rfl, _, _, c3, _⟩ := (Hi1.out.below H3.out hB).at_ hkl
          by_cases hin : inB t.sizes[k] 1 4 = true
          · have hin' := Lib.hid hin
            go_wp2_with (go_at_call 45; refine (l1In_any _ _ _ _).mono ?_; rintro e w' ⟨rfl, rfl⟩; rw [hin])
            go_round
            case rel =>
              refine ⟨k + 1, by omega, by go_num, fun j hj hjl => ?_⟩
              by_cases ej : j = k
              · subst ej; exact hin'.out
              · exact hok2.out j (by omega) hjl
            case measure => simp [intOf]; omega
          · have hinf : inB t.sizes[k] 1 4 = false := by simpa using hin
            have hfin : Hid (tyOk t = false) := tyOk_false1 (by
              unfold sizesOk
              rw [all_false_of k hkl hinf, Bool.and_false])
            clear hin
            go_wp2_with (go_at_call 45; refine (l1In_any _ _ _ _).mono ?_; rintro e w' ⟨rfl, rfl⟩; rw [hinf])
            go_ret
            exact ⟨ret_bool hfin.out.symm, H3.out⟩
        · obtain rfl : k = t.sizes.length := by omega
          have hsz : Hid (sizesOk t.sizes = true) := by
            show sizesOk t.sizes = true
            unfold sizesOk
            rw [all_true_of fun j hj => hok2.out j hj hj]
            simp [ha]
          go_wp2
          have hb8 := Lib.hid (tyOk_of hsz.out hb)
          clear hok2
          obtain ⟨wo, hwo⟩ : ∃ wo : World, wo = w.alloc (.cells #[.slice A t.sizes.length cap, .slice B t.cos.length bap] 34) := ⟨_, rfl⟩
          have hcells : wo.cell? ⟨w.heap.size, 0, none⟩ = some (.slice A t.sizes.length cap) ∧ wo.cell? ⟨w.heap.size, 1, none⟩ = some (.slice B t.cos.length bap) ∧ wo.heap.size = w.heap.size + 1 ∧ Below w.heap.size w wo := by
            subst hwo
            exact ⟨by simp [go_sem], by simp [go_sem], by simp, H3.out⟩
          rw [← hwo]
          clear hwo H3
          have Hwo := Lib.hid hcells
          clear hcells
          go_loopw [32] (fun i wr => ∃ k : Nat, k ≤ t.cos.length ∧ i = .int .i64 k ∧ Below (w.heap.size + 1) wo wr ∧ Hid (∀ j, j < k → ∀ (hj : j < t.cos.length), coOk t.sizes t.cos[j] = true)) (fun i _ => t.cos.length - (intOf i).toNat)
          case atStart => exact ⟨0, Nat.zero_le _, rfl, Below.refl _ _, fun j hj => absurd hj (by omega)⟩
          case round =>
            obtain ⟨k, hk, rfl, hbr, hok2⟩ := hrel
            have hbo : Below w.heap.size w wr := Hwo.out.2.2.2.trans (hbr.mono (by omega))
            have q0 : wr.cell? ⟨w.heap.size, 0, none⟩ = some (.slice A t.sizes.length cap) := (hbr.cell (p := ⟨w.heap.size, 0, none⟩) (by dsimp only; omega)).trans Hwo.out.1
            have q1 : wr.cell? ⟨w.heap.size, 1, none⟩ = some (.slice B t.cos.length bap) := (hbr.cell (p := ⟨w.heap.size, 1, none⟩) (by dsimp only; omega)).trans Hwo.out.2.1
            have hsr : w.heap.size + 1 ≤ wr.heap.size := by have := hbr.size; rw [Hwo.out.2.2.1] at this; exact this
            have hlr : w.heap.size < wr.heap.size := by omega
            by_cases hkl : k < t.cos.length
            · obtain ⟨b4, off4, A2, cap2, rfl, _, _, c0, c1, c2, _, _, hs4, hd4, hz4⟩ := (Hc1.out.below hbo hB).at_ hkl
              have hi4 := Hi1.out.below hbo hB
              have Hz4 := Lib.hid hz4
              have Hi4 := Lib.hid hi4
              have Hbr := Lib.hid hbr
              have Hbo := Lib.hid hbo
              clear hz4 hi4 hbr hbo
              by_cases hin : coOk t.sizes t.cos[k] = true
              · have hin' := Lib.hid hin
                go_wp2_with fail
                refine (l1Map_any lo hi lo hi _ _ _ _ t.sizes t.cos[k] (wr.alloc (.cells #[.int .i64 t.cos[k].src, .int .i64 t.cos[k].dst, .slice A2 t.cos[k].map.length cap2] 172)) (Hi4.out.below ((Below.refl _ _).alloc (Nat.le_refl _) _) (by omega)) ⟨rfl, rfl, hs4, hd4, Hz4.out.below ((Below.refl _ _).alloc (Nat.le_refl _) _) (by omega)⟩ (by simp; omega) (by simp; omega) hsz.out).mono ?_
                rintro e w' ⟨rfl, hbb⟩
                have Hbb := Lib.hid hbb
                clear hbb
                rw [hin]
                go_wp2
                go_roundw
                case rel =>
                  refine ⟨k + 1, by omega, by go_num, (Hbr.out.alloc (by omega) _).trans (Hbb.out.mono (by simp; omega)), fun j hj hjl => ?_⟩
                  by_cases ej : j = k
                  · subst ej; exact hin'.out
                  · exact hok2.out j (by omega) hjl
                case measure => simp [intOf]; omega
              · have hinf : coOk t.sizes t.cos[k] = false := by simpa using hin
                have hfin : Hid (tyOk t = false) := by
                  show tyOk t = false
                  rw [hb8.out]
                  exact all_false_of k hkl hinf
                clear hin
                go_wp2_with fail
                refine (l1Map_any lo hi lo hi _ _ _ _ t.sizes t.cos[k] (wr.alloc (.cells #[.int .i64 t.cos[k].src, .int .i64 t.cos[k].dst, .slice A2 t.cos[k].map.length cap2] 172)) (Hi4.out.below ((Below.refl _ _).alloc (Nat.le_refl _) _) (by omega)) ⟨rfl, rfl, hs4, hd4, Hz4.out.below ((Below.refl _ _).alloc (Nat.le_refl _) _) (by omega)⟩ (by simp; omega) (by simp; omega) hsz.out).mono ?_
                rintro e w' ⟨rfl, hbb⟩
                have Hbb := Lib.hid hbb
                clear hbb
                rw [hinf]
                go_wp2
                go_ret
                exact ⟨ret_bool hfin.out.symm, (Hbo.out.alloc (by omega) _).trans (Hbb.out.mono (by simp; omega))⟩
            · obtain rfl : k = t.cos.length := by omega
              have hfin : Hid (tyOk t = true) := by
                show tyOk t = true
                rw [hb8.out]
                exact all_true_of fun j hj => hok2.out j hj hj
              have Hbo := Lib.hid hbo
              clear hbo hbr
              go_wp2
              go_ret
              exact ⟨ret_bool hfin.out.symm, Hbo.out⟩
    · have hfin : Hid (tyOk t = false) := tyOk_false2 hb
      go_enter Tryz.func103, Tryz.ntmps103
      go_wp2_with (go_at_call 45; refine (l1In_any _ _ _ _).mono ?_; rintro e w' ⟨rfl, rfl⟩; rw [hA])
      go_ret
      exact ⟨ret_bool hfin.out.symm, h3⟩
  · have hA : inB (t.sizes.length : Int) 1 5 = false := by
      by_cases h0 : 1 ≤ t.sizes.length
      · exact inB_high (by omega)
      · exact inB_low (by omega)
    have hfin : Hid (tyOk t = false) := tyOk_false1 (by unfold sizesOk; simp [ha])
    go_enter Tryz.func103, Tryz.ntmps103
    go_wp2_with (go_at_call 45; refine (l1In_any _ _ _ _).mono ?_; rintro e w' ⟨rfl, rfl⟩; rw [hA])
    go_ret
    exact ⟨ret_bool hfin.out.symm, h3⟩
end Go.Proofs.YtgkfddhhkjblgaaGreatDoor

