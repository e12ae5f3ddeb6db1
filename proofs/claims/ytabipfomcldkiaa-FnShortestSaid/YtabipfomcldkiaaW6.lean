/-
  The contract of ShortestWay, the model's face.
-/
import Derived.Test.YtabipfomcldkiaaW5
namespace Go.Proofs.Ytabipfomcldkiaa
open Go.RowKit
attribute [local go_sem] Oper.semAt_some

set_option maxRecDepth 100000 in
set_option maxHeartbeats 1000000 in
theorem specShort_any (lo hi : Nat) (sv cv : Value) (t : Ty) (a b : Int) (w : World) (hv : TyAt w lo hi sv cv t) (hB : hi ≤ w.heap.size) :
    Calls Try.prog 35 #[.agg #[sv, cv], .int .i64 a, .int .i64 b] w fun e w' => ∃ v, e = .returned (.tuple #[v, .bool (canC t a b)]) ∧ Below w.heap.size w w' ∧ IntsAt w' w.heap.size w'.heap.size v (shortV t a b) := by
  obtain ⟨A, cap, rfl, hl1, hm1, _⟩ := hv.1.form
  obtain ⟨B, bap, rfl, hl2, hm2, _⟩ := hv.2.form
  have h3 : Below w.heap.size w (w.alloc (.cells #[.slice A t.sizes.length cap, .slice B t.cos.length bap] 26)) := by go_grown
  have hv3 := Lib.hid (hv.below h3 hB)
  have Hv := Lib.hid hv
  clear hv
  go_enter Try.func35, Try.ntmps35
  go_wp2_with fail
  refine (l2Types_any lo hi _ _ t a b _ hv3.out (by simp; omega)).mono ?_
  rintro e w1 ⟨rfl, hb1⟩
  have H1 := Lib.hid (box2 (hb1.mono (by simp)))
  obtain ⟨q0, q1, hl, _⟩ := box2 (hb1.mono (by simp))
  clear hb1
  by_cases hok : typesB t a b = true
  · have Hok := Lib.hid hok
    rw [hok]
    clear hok
    go_wp2_with fail
    refine (l2Shortest_any lo hi _ _ t a b _ (Hv.out.below H1.out.2.2.2 hB) (by omega) Hok.out).mono ?_
    rintro e w2 ⟨v, rfl, hb2, hi2⟩
    have H2 := Lib.hid (H1.out.2.2.2.trans (hb2.mono (by omega)))
    have Hi2 := Lib.hid (hi2.more (lo' := w.heap.size) (hi' := w2.heap.size) (by omega) (Nat.le_refl _))
    clear hb2 hi2
    go_wp2
    refine bodyPost_ret (v := .tuple #[v, .bool (canC t a b)]) (by simp [results, Try.results35, go_sem]) rfl ?_
    exact ⟨_, rfl, H2.out, Hi2.out⟩
  · have hokf : typesB t a b = false := by simpa using hok
    have hno := Lib.hid (shortV_no hokf)
    have hc : Hid (canC t a b = false) := by show _ = _; unfold canC; rw [hokf, Bool.false_and]
    rw [hokf]
    clear hok
    go_wp2
    refine bodyPost_ret (v := .tuple #[.slice (some ⟨w1.heap.size, 0, none⟩) 0 0, .bool false]) (by simp [results, Try.results35, go_sem]) rfl ?_
    refine ⟨_, by rw [hc.out], H1.out.2.2.2.alloc (by omega) _, ?_⟩
    rw [hno.out]
    exact ⟨_, 0, rfl, Nat.le_refl _, Nat.zero_le _, fun z hz => absurd hz (by simp), fun h => absurd h (by simp)⟩
end Go.Proofs.Ytabipfomcldkiaa

