/-
  The contracts of l4Has and hasFunctions.
-/
import Derived.Test.YtfcekbjoagogdaaDoorSsv
import Derived.Test.YtfcekbjoagogdaaDoorIsv
namespace Go.Proofs.YtfcekbjoagogdaaDoor
open Go.RowKit
attribute [local go_sem] Oper.semAt_some

/-- A valid system has a function. -/
noncomputable def hasFB (y : Sy) (i : Int) : Bool := syB y && ixB i y.fs.length
theorem hasFB_of {y : Sy} {i : Int} (h : hasFB y i = true) : SyOk y ∧ 0 ≤ i ∧ i < y.fs.length ∧ i.toNat < y.fs.length := by
  simp only [hasFB, Bool.and_eq_true, ixB, decide_eq_true_eq] at h
  exact ⟨syB_iff.1 h.1, h.2.1, h.2.2, by omega⟩

set_option maxRecDepth 100000 in
set_option maxHeartbeats 2000000 in
theorem l4Has_any (lo hi : Nat) (sv cv fv : Value) (y : Sy) (i : Int) (w : World) (hv : SyAt w lo hi sv cv fv y) (hB : hi ≤ w.heap.size) :
    Calls Tryd.prog 53 #[.agg #[sv, cv, fv], .int .i64 i] w fun e w' => e = .returned (.bool (hasFB y i)) ∧ Below w.heap.size w w' := by
  obtain ⟨A, cap, rfl, hl1, hm1, hi1⟩ := hv.1.1.form
  obtain ⟨B, bap, rfl, hl2, hm2, hc1⟩ := hv.1.2.form
  obtain ⟨F, fap, rfl, hl3, hm3, hf1⟩ := hv.2.form
  unfold maxLen at hm3
  have h3 : Below w.heap.size w (w.alloc (.cells #[.slice A y.ty.sizes.length cap, .slice B y.ty.cos.length bap, .slice F y.fs.length fap] 45)) := by go_grown
  have hwr := wrapIn ((y.fs.length : Int) - 1) (by omega) (by omega)
  have H1 := Lib.hid (Below.refl (w.heap.size + 1) (w.alloc (.cells #[.slice A y.ty.sizes.length cap, .slice B y.ty.cos.length bap, .slice F y.fs.length fap] 45)))
  clear hi1 hc1 hf1
  go_enter Tryd.func53, Tryd.ntmps53
  go_wp2_with fail
  refine (specSysValid_any lo hi _ _ _ y _ (hv.below h3 hB) (by simp; omega)).mono ?_
  rintro e w1 ⟨rfl, hb1⟩
  have H2 := Lib.hid (H1.out.trans (hb1.mono (by simp)))
  obtain ⟨q0, q1, q2, hl, hB1⟩ := box3 H2.out
  have HB1 := Lib.hid hB1
  clear hb1 h3 hB1 H1
  by_cases hs : syB y = true
  · have H : Hid (hasFB y i = ixB i y.fs.length) := by show _ = _; unfold hasFB; rw [hs, Bool.true_and]
    rw [hs]
    clear hs
    go_wp2_with (go_at_call 69; refine (l1In_any _ _ _ _).mono ?_; rintro e w' ⟨rfl, rfl⟩)
    go_ret
    exact ⟨ret_bool (by rw [H.out, inB_ix]), HB1.out⟩
  · have hsf : syB y = false := by simpa using hs
    have H : Hid (hasFB y i = false) := by show _ = _; unfold hasFB; rw [hsf, Bool.false_and]
    rw [hsf]
    clear hs
    go_wp2
    go_ret
    exact ⟨ret_bool H.out.symm, HB1.out⟩

set_option maxRecDepth 100000 in
set_option maxHeartbeats 2000000 in
theorem hasFunctions_any (lo hi lo' hi' : Nat) (sv cv fv v : Value) (y : Sy) (zs : List Int) (w : World) (hv : SyAt w lo hi sv cv fv y) (hz : IntsAt w lo' hi' v zs) (hB : hi ≤ w.heap.size) (hB' : hi' ≤ w.heap.size) :
    Calls Tryd.prog 56 #[.agg #[sv, cv, fv], v] w fun e w' => e = .returned (.bool (syB y && allIx zs y.fs.length)) ∧ Below w.heap.size w w' := by
  obtain ⟨A, cap, rfl, hl1, hm1, hi1⟩ := hv.1.1.form
  obtain ⟨B, bap, rfl, hl2, hm2, hc1⟩ := hv.1.2.form
  obtain ⟨F, fap, rfl, hl3, hm3, hf1⟩ := hv.2.form
  obtain ⟨Z, zap, rfl, hl4, hm4, hz1⟩ := hz.form
  unfold maxLen at hm3
  have h3 : Below w.heap.size w (w.alloc (.cells #[.slice A y.ty.sizes.length cap, .slice B y.ty.cos.length bap, .slice F y.fs.length fap] 45)) := by go_grown
  have H1 := Lib.hid (Below.refl (w.heap.size + 1) (w.alloc (.cells #[.slice A y.ty.sizes.length cap, .slice B y.ty.cos.length bap, .slice F y.fs.length fap] 45)))
  have Hz := Lib.hid hz1
  clear hi1 hc1 hf1 hz hz1
  go_enter Tryd.func56, Tryd.ntmps56
  go_wp2_with fail
  refine (implSysValid_any lo hi _ _ _ y _ (hv.below h3 hB) (by simp; omega)).mono ?_
  rintro e w1 ⟨rfl, hb1⟩
  have H2 := Lib.hid (H1.out.trans (hb1.mono (by simp)))
  obtain ⟨q0, q1, q2, hl, hB1⟩ := box3 H2.out
  have HB1 := Lib.hid hB1
  clear hb1 h3 hB1 H1
  by_cases hs : syB y = true
  · have H : Hid ((syB y && allIx zs y.fs.length) = allIx zs y.fs.length) := by show _ = _; rw [hs, Bool.true_and]
    rw [hs]
    clear hs
    go_wp2_with (go_at_call 88; refine (areIndices_any lo' hi' _ zs _ _ (Hz.out.below HB1.out hB')).mono ?_; rintro e w' ⟨rfl, rfl⟩)
    go_ret
    exact ⟨ret_bool H.out.symm, HB1.out⟩
  · have hsf : syB y = false := by simpa using hs
    rw [hsf]
    clear hs
    go_wp2
    go_ret
    exact ⟨ret_bool (by rw [hsf, Bool.false_and]), HB1.out⟩

end Go.Proofs.YtfcekbjoagogdaaDoor
