/-
  The contract of the program's CallFunction.
-/
import Derived.Test.YtilcahidmoaakaaCaller
namespace Go.Proofs.Ytilcahidmoaakaa
open Go.RowKit
attribute [local go_sem] Oper.semAt_some

/-- What CallFunction returns. -/
noncomputable def callV (y : Sy) (i : Int) (vs : List Int) : Int := if hasFB y i = true then resV (tsOf y.ty.sizes (y.fs.getD i.toNat default).args) (y.fs.getD i.toNat default).table vs else -1
theorem callV_yes {y : Sy} {i : Int} {vs : List Int} (h : hasFB y i = true) : callV y i vs = resV (tsOf y.ty.sizes (y.fs.getD i.toNat default).args) (y.fs.getD i.toNat default).table vs := by unfold callV; exact if_pos h
theorem callV_no {y : Sy} {i : Int} {vs : List Int} (h : ¬ hasFB y i = true) : callV y i vs = -1 := by unfold callV; exact if_neg h

set_option maxRecDepth 100000 in
set_option maxHeartbeats 4000000 in
theorem implCall_any (lo hi lo1 hi1 : Nat) (sv cv fv vv : Value) (y : Sy) (i : Int) (vs : List Int) (w : World) (hv : SyAt w lo hi sv cv fv y) (hz : IntsAt w lo1 hi1 vv vs) (hB : hi ≤ w.heap.size) (hB1 : hi1 ≤ w.heap.size) (hi64 : I64 i) :
    Calls Try.prog 22 #[.agg #[sv, cv, fv], .int .i64 i, vv] w fun e w' => e = .returned (.int .i64 (callV y i vs)) ∧ Below w.heap.size w w' := by
  obtain ⟨A, cap, rfl, hl1, hm1, hi1'⟩ := hv.1.1.form
  obtain ⟨B, bap, rfl, hl2, hm2, hc1⟩ := hv.1.2.form
  obtain ⟨F, fap, rfl, hl3, hm3, hf1⟩ := hv.2.form
  obtain ⟨Z, zap, rfl, hl4, hm4, hz1⟩ := hz.form
  have h3 : Below w.heap.size w ((w.alloc (.cells #[.slice A y.ty.sizes.length cap, .slice B y.ty.cos.length bap, .slice F y.fs.length fap] 36)).alloc (.cells #[.int .i64 i] 3)) := by go_grown
  have hrz : Row ((w.alloc (.cells #[.slice A y.ty.sizes.length cap, .slice B y.ty.cos.length bap, .slice F y.fs.length fap] 36)).alloc (.cells #[.int .i64 i] 3)) (w.heap.size + 1) 3 ([i].map (Value.int .i64)) := by
    have h := Row.new (w.alloc (.cells #[.slice A y.ty.sizes.length cap, .slice B y.ty.cos.length bap, .slice F y.fs.length fap] 36)) 3 ([i].map (Value.int .i64))
    rwa [World.size_alloc] at h
  have hzi := Lib.hid (hrz.ints (lo := w.heap.size + 1) (hi := w.heap.size + 1 + 1) (cap := 1) (by intro z hz; simp at hz; rw [hz]; exact hi64) (Nat.le_refl _) (by omega) (by simp) (by unfold maxLen; omega))
  have H1 := Lib.hid ((Below.refl (w.heap.size + 1) (w.alloc (.cells #[.slice A y.ty.sizes.length cap, .slice B y.ty.cos.length bap, .slice F y.fs.length fap] 36))).alloc (by simp) (.cells #[.int .i64 i] 3))
  have Hv := Lib.hid hv
  have Hz := Lib.hid hz1
  clear hi1' hc1 hf1 hv hrz hz hz1
  have HE : Hid ((syB y && allIx [i] (y.fs.length : Int)) = hasFB y i) := by
    show _ = _
    unfold hasFB
    simp [allIx]
  go_enter Try.func22, Try.ntmps22
  go_wp2_with fail
  refine (hasFunctions_any lo hi _ _ _ _ _ _ y [i] _ (Hv.out.below h3 hB) hzi.out (by simp; omega) (by simp)).mono ?_
  rintro e w1 ⟨rfl, hb1⟩
  have H2 := Lib.hid (H1.out.trans (hb1.mono (by simp)))
  obtain ⟨q0, q1, q2, hl, hB1'⟩ := box3 H2.out
  have HB1 := Lib.hid hB1'
  clear hb1 h3 hB1' H1 hzi
  rw [HE.out]
  by_cases c : hasFB y i = true
  · have C := Lib.hid c
    rw [c]
    clear c
    go_wp2_with fail
    refine (caller_any lo hi _ _ _ y i _ (Hv.out.below HB1.out hB) (by omega) C.out).mono ?_
    rintro e w2 ⟨tv, rv, rfl, hb2, ht2, hr2⟩
    have Hb2 := Lib.hid (HB1.out.trans (hb2.mono (by omega)))
    have Ht2 := Lib.hid ht2
    have Hr2 := Lib.hid hr2
    have hs12 := hb2.size
    clear hb2 ht2 hr2
    go_wp2_with fail
    obtain ⟨hsy, _, _, hilt⟩ := hasFB_of C.out
    have hfo := hsy.each _ hilt
    rw [getD_of hilt] at Ht2 Hr2
    refine (result_any _ _ lo hi lo1 hi1 _ _ _ _ _ vs _ Ht2.out Hr2.out (Hz.out.below Hb2.out hB1) (Nat.le_refl _) (by omega) (by omega) (by rw [tsOf_len]; exact hfo.few) (tsOf_bound (tyOk_sizes hsy.ty) hfo.args) (by rw [tsOf_len, prodTo_cells _ _ _ (Nat.le_refl _)]; exact hfo.len)).mono ?_
    rintro e w3 ⟨rfl, hb3⟩
    have Hb3 := Lib.hid (Hb2.out.trans (hb3.mono (by omega)))
    have H : Hid (callV y i vs = resV (tsOf y.ty.sizes y.fs[i.toNat].args) y.fs[i.toNat].table vs) := by show _ = _; rw [callV_yes C.out, getD_of hilt]
    clear hb3 hsy hfo
    go_wp2
    go_ret
    exact ⟨ret_int H.out.symm, Hb3.out⟩
  · have H : Hid (callV y i vs = -1) := callV_no c
    have cf : hasFB y i = false := by simpa using c
    rw [cf]
    clear c
    go_wp2
    go_ret
    exact ⟨ret_int H.out.symm, HB1.out⟩
end Go.Proofs.Ytilcahidmoaakaa
