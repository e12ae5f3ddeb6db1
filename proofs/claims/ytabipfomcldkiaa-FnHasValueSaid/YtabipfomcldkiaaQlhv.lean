/-
  The walk of the law FnHasValue.
-/
import Derived.Test.YtabipfomcldkiaaQdhv
import Derived.Test.YtabipfomcldkiaaQosm
import Derived.Test.YtabipfomcldkiaaH5
import Derived.Test.YtabipfomcldkiaaH6
namespace Go.Proofs.Ytabipfomcldkiaa
open Go.RowKit
attribute [local go_sem] Oper.semAt_some

theorem cFrom_mem {t : Ty} {k i : Int} (h : i ∈ cFrom t k) : tyOk t = true ∧ ∃ q : Nat, i = (q : Int) ∧ ∃ hq : q < t.cos.length, t.cos[q].src = k := by
  unfold cFrom at h
  by_cases ht : tyOk t = true
  · rw [if_pos ht] at h
    unfold cfr at h
    obtain ⟨q, hq, rfl⟩ := List.mem_map.1 h
    obtain ⟨h1, h2⟩ := List.mem_filter.1 hq
    have hl := List.mem_range.1 h1
    refine ⟨ht, q, rfl, hl, ?_⟩
    have h3 := of_decide_eq_true h2
    rw [List.getD_eq_getElem?_getD, List.getElem?_eq_getElem hl] at h3
    exact h3
  · rw [if_neg ht] at h
    exact absurd h (by simp)
theorem cFrom_len (t : Ty) (k : Int) : (cFrom t k).length ≤ t.cos.length := by
  unfold cFrom
  by_cases ht : tyOk t = true
  · rw [if_pos ht]; exact cfr_le _ _ _
  · rw [if_neg ht]; simp
theorem coOk_at {t : Ty} (h : tyOk t = true) {i : Nat} (hi : i < t.cos.length) : coOk t.sizes t.cos[i] = true := by
  simp only [tyOk, Bool.and_eq_true, List.all_eq_true] at h
  exact h.2 _ (List.getElem_mem hi)
/-- A coercion makes something of just the values of its type. -/
theorem apply_has {t : Ty} {k i z : Int} (h : i ∈ cFrom t k) : decide (0 ≤ applyV t i z) = hasV t k z := by
  obtain ⟨ht, q, rfl, hq, hs⟩ := cFrom_mem h
  obtain ⟨c1, c2, c3, c4, c5⟩ := coOk_of (coOk_at ht hq)
  have hc : hasC t (q : Int) = true := by unfold hasC; rw [ht]; simp [ixB]; omega
  rw [applyV_yes hc (by simpa using hq)]
  have e : t.cos[(q : Int).toNat]'(by simpa using hq) = t.cos[q] := by simp
  rw [e]
  rw [hs] at c1 c2 c4
  have hkl : ixB k t.sizes.length = true := by unfold ixB; apply decide_eq_true; omega
  unfold hasV hasV0
  rw [ht, hkl, Bool.true_and, Bool.true_and, ← c4]
  unfold lookOf ixB
  by_cases hz : 0 ≤ z ∧ z < (t.cos[q].map.length : Int)
  · rw [if_pos hz, decide_eq_true hz]
    have hl : z.toNat < t.cos[q].map.length := by omega
    have := (c5 z.toNat hl).1
    rw [List.getD_eq_getElem?_getD, List.getElem?_eq_getElem hl]
    exact decide_eq_true this
  · rw [if_neg hz, decide_eq_false hz]
    decide
theorem has_less {t : Ty} {k z : Int} (h : hasV t k z = true) : tyOk t = true ∧ 0 ≤ z ∧ z ≤ 4 ∧ (z ≠ 0 → hasV t k (z - 1) = true) := by
  unfold hasV hasV0 at h ⊢
  simp only [Bool.and_eq_true] at h
  obtain ⟨h1, h2, h3⟩ := h
  have h3' := of_decide_eq_true (show decide (0 ≤ z ∧ z < t.sizes.getD k.toNat 0) = true from h3)
  have h2' := of_decide_eq_true (show decide (0 ≤ k ∧ k < (t.sizes.length : Int)) = true from h2)
  have hs := (sizesOk_of (tyOk_sizes h1)).2.2 k.toNat (by omega)
  have e : t.sizes.getD k.toNat 0 = t.sizes[k.toNat]'(by omega) := by rw [List.getD_eq_getElem?_getD, List.getElem?_eq_getElem (by omega)]; rfl
  rw [e] at h3'
  refine ⟨h1, h3'.1, by omega, fun h0 => ?_⟩
  rw [h1, h2, e]
  show decide (0 ≤ z - 1 ∧ z - 1 < _) = true
  apply decide_eq_true
  omega

set_option maxRecDepth 100000 in
set_option maxHeartbeats 2000000 in
theorem lawHv_walk (v : Value) (w : World) (h : CodeAt w w.heap.size v) :
    Calls Try.prog 5 #[v] w fun e w' => e = .returned (.bool true) ∧ Below w.heap.size w w' := by
  have HC := Lib.hid h
  obtain ⟨a, n, c, rfl, hnc, hcm, _⟩ := h
  unfold maxLen at hcm
  by_cases hbig : (1048576 : Int) < (n : Int)
  · go_enter Try.func5, Try.ntmps5
    go_wp2
    go_ret
    exact ⟨rfl, Below.refl _ _⟩
  go_enter Try.func5, Try.ntmps5
  go_wp2_with fail
  refine (drawHas_any _ w HC.out).mono ?_
  rintro e w1 ⟨sv, cv, t, k, z, rfl, hb1, hv1, hd1, hk64, hz64⟩
  have hbk := hd1.bulk
  obtain ⟨A, cap, rfl, _, _, _⟩ := hv1.1.form
  obtain ⟨C, cbp, rfl, _, _, _⟩ := hv1.2.form
  have HB1 := Lib.hid hb1
  have HV1 := Lib.hid hv1
  have HD := Lib.hid hd1
  have hs1 := hb1.size
  clear hb1 hv1 hd1 HC
  go_wp2_with fail
  obtain ⟨w2, hw2⟩ : ∃ u, u = w1.alloc (.cells #[.slice A t.sizes.length cap, .slice C t.cos.length cbp] 26) := ⟨_, rfl⟩
  rw [← hw2]
  have hb12 : Below w1.heap.size w1 w2 := by rw [hw2]; exact (Below.refl _ _).alloc (Nat.le_refl _) _
  have hs2 : w1.heap.size < w2.heap.size := by rw [hw2]; simp
  have HT2 : Hid (Row w2 w1.heap.size 26 [.slice A t.sizes.length cap, .slice C t.cos.length cbp]) := by rw [hw2]; exact Row.new w1 26 _
  have HV2 := Lib.hid (HV1.out.below hb12 (Nat.le_refl _))
  have HB2 := Lib.hid (HB1.out.trans (hb12.mono (by omega)))
  clear hw2 hb12 HV1 HB1
  refine (implHas_any w.heap.size w1.heap.size _ _ t k z w2 HV2.out (by omega)).mono ?_
  rintro e w3 ⟨rfl, hb3⟩
  have hs3 := hb3.size
  have HT3 := Lib.hid (HT2.out.below hb3 (by omega))
  have HV3 := Lib.hid (HV2.out.below hb3 (by omega))
  have HB3 := Lib.hid (HB2.out.trans (hb3.mono (by omega)))
  clear hb3 HT2 HV2 HB2
  have t0 := HT3.out.cell 0
  have t1 := HT3.out.cell 1
  simp only [List.getElem?_cons_zero, List.getElem?_cons_succ] at t0 t1
  go_wp2_with fail
  refine (implFrom_any w.heap.size w1.heap.size _ _ t k w3 HV3.out (by omega) hbk).mono ?_
  rintro e w4 ⟨lv, rfl, hb4, how4⟩
  obtain ⟨VA, VC, rfl⟩ := owns_form how4
  have hs4 := hb4.size
  have HT4 := Lib.hid (HT3.out.below hb4 (by omega))
  have HV4 := Lib.hid (HV3.out.below hb4 (by omega))
  have HB4 := Lib.hid (HB3.out.trans (hb4.mono (by omega)))
  have hlw : ∀ y ∈ cFrom t k, I64 y := fun y hy => by
    obtain ⟨_, q, rfl, hq, _⟩ := cFrom_mem hy
    have := HD.out.2.1
    unfold I64; omega
  have HL4 := Lib.hid (ownsRow.intsAt (lo := w3.heap.size) (hi := w4.heap.size) how4 hlw (Nat.le_refl _) (Nat.le_refl _))
  have hll : (cFrom t k).length ≤ 20 := by have := cFrom_len t k; have := HD.out.2.1; omega
  clear hb4 how4 HT3 HV3 HB3 t0 t1
  have t0 := HT4.out.cell 0
  have t1 := HT4.out.cell 1
  simp only [List.getElem?_cons_zero, List.getElem?_cons_succ] at t0 t1
  go_wp2_with fail
  refine (specHas_any w.heap.size w1.heap.size _ _ t k z w4 HV4.out (by omega)).mono ?_
  rintro e w5 ⟨rfl, hb5⟩
  have hs5 := hb5.size
  have HT5 := Lib.hid (HT4.out.below hb5 (by omega))
  have HV5 := Lib.hid (HV4.out.below hb5 (by omega))
  have HL5 := Lib.hid (HL4.out.below hb5 (Nat.le_refl _))
  have HB5 := Lib.hid (HB4.out.trans (hb5.mono (by omega)))
  have hbn : (hasV t k z != hasV t k z) = false := by simp
  clear hb5 HT4 HV4 HB4 HL4 t0 t1
  have t0 := HT5.out.cell 0
  have t1 := HT5.out.cell 1
  simp only [List.getElem?_cons_zero, List.getElem?_cons_succ] at t0 t1
  go_wp2_with fail
  refine (specFrom_any w.heap.size w1.heap.size _ _ t k w5 HV5.out (by omega) hbk).mono ?_
  rintro e w6 ⟨lv2, rfl, hb6, how6⟩
  obtain ⟨VA2, VC2, rfl⟩ := owns_form how6
  have hs6 := hb6.size
  have HT6 := Lib.hid (HT5.out.below hb6 (by omega))
  have HV6 := Lib.hid (HV5.out.below hb6 (by omega))
  have HL6 := Lib.hid (HL5.out.below hb6 (by omega))
  have HB6 := Lib.hid (HB5.out.trans (hb6.mono (by omega)))
  have HM6 := Lib.hid (ownsRow.intsAt (lo := w5.heap.size) (hi := w6.heap.size) how6 hlw (Nat.le_refl _) (Nat.le_refl _))
  clear hb6 how6 HT5 HV5 HB5 HL5 t0 t1
  go_wp2_with fail
  refine (ovSame_any _ _ _ _ _ _ (cFrom t k) (cFrom t k) w6 HL6.out HM6.out (by omega) (Nat.le_refl _) (by omega) (by omega)).mono ?_
  rintro e w7 ⟨rfl, hb7⟩
  have hdt : decide (cFrom t k = cFrom t k) = true := decide_eq_true rfl
  rw [hdt]
  have hs7 := hb7.size
  have HT7 := Lib.hid (HT6.out.below hb7 (by omega))
  have HV7 := Lib.hid (HV6.out.below hb7 (by omega))
  have HL7 := Lib.hid (HL6.out.below hb7 (by omega))
  have HB7 := Lib.hid (HB6.out.trans (hb7.mono (by omega)))
  clear hb7 HT6 HV6 HB6 HL6 HM6
  obtain ⟨L, hL⟩ : ∃ L, L = cFrom t k := ⟨_, rfl⟩
  have HMEM : Hid (∀ i ∈ L, i ∈ cFrom t k) := fun i hi => by rw [hL] at hi; exact hi
  rw [← hL] at HL7 hll ⊢
  clear hL
  go_wp2
  go_loopw [9, 42] (fun _ i wr => ∃ j : Nat, j ≤ L.length ∧ i = .int .i64 j ∧ Hid (Below w7.heap.size w7 wr)) (fun _ i _ => L.length - (intOf i).toNat)
  case atStart => exact ⟨0, Nat.zero_le _, rfl, Lib.hid (Below.refl _ _)⟩
  case round =>
    obtain ⟨j, hj, rfl, hb⟩ := hrel
    have hsr := hb.out.size
    have hwJ : IntKind.i64.wrap ((j : Int) + 1) = (j : Int) + 1 := by rw [IntKind.wrap_i64]; omega
    have HTr := Lib.hid (HT7.out.below hb.out (by omega))
    have t0 := HTr.out.cell 0
    have t1 := HTr.out.cell 1
    simp only [List.getElem?_cons_zero, List.getElem?_cons_succ] at t0 t1
    by_cases hlt : j < L.length
    · obtain ⟨lb, lo, rfl, _, _, c0, _⟩ := (HL7.out.below hb.out (by omega)).at_ hlt
      have hmem := HMEM.out _ (List.getElem_mem hlt)
      have hah := apply_has (z := z) hmem
      obtain ⟨htok, q, hq, hql, hqs⟩ := cFrom_mem hmem
      rw [hq] at c0 hah
      have HV8 := Lib.hid (HV7.out.below hb.out (by omega))
      have HQ := Lib.hid hqs
      have HAH := Lib.hid hah
      clear hmem hah hq htok hqs
      go_wp2_with fail
      refine (implApply_any w.heap.size w1.heap.size _ _ t (q : Int) z wr HV8.out (by omega)).mono ?_
      rintro e w8 ⟨rfl, hb8⟩
      have hs8 := hb8.size
      have HB8 := Lib.hid (hb.out.trans (hb8.mono hb.out.size))
      have hT8 := HTr.out.below hb8 (by omega)
      have u1 := hT8.cell 1
      simp only [List.getElem?_cons_zero, List.getElem?_cons_succ] at u1
      obtain ⟨cb, co, Am, capm, rfl, _, _, e0, _⟩ := (HV8.out.2.below hb8 (by omega)).at_ hql
      rw [HQ.out] at e0
      have hge : decide ((0 : Int) ≤ applyV t (q : Int) z) = hasV t k z := HAH.out
      have hne : (decide ((0 : Int) ≤ applyV t (q : Int) z) != hasV t k z) = false := by rw [hge]; simp
      have hkk : (k != k) = false := by simp
      have hqi : (q : Int) < (t.cos.length : Int) := by omega
      clear hb8 hT8 hge
      go_wp2
      refine ⟨⟨j + 1, by omega, by go_num, Lib.hid HB8.out⟩, ?_⟩
      simp [intOf]
      omega
    · obtain ⟨j2, hj2⟩ : ∃ j2 : Nat, j2 = j := ⟨_, rfl⟩
      subst hj2
      have HV8 := Lib.hid (HV7.out.below hb.out (by omega))
      have HBr := Lib.hid (HB7.out.trans (hb.out.mono (by have := HB7.out.size; omega)))
      by_cases hh : hasV t k z = true
      · obtain ⟨htok, hz0, hz4, hless⟩ := has_less hh
        have HH := Lib.hid hh
        have HLs := Lib.hid hless
        rw [hh]
        clear hh hless
        go_wp2_with fail
        refine (implValid_any w.heap.size w1.heap.size _ _ t wr HV8.out (by omega)).mono ?_
        rintro e w9 ⟨rfl, hb9⟩
        rw [htok]
        have hs9 := hb9.size
        have HB9 := Lib.hid (HBr.out.trans (hb9.mono (by have := HBr.out.size; omega)))
        have HT9 := Lib.hid (HTr.out.below hb9 (by omega))
        have HV9 := Lib.hid (HV8.out.below hb9 (by omega))
        clear hb9 t0 t1
        have t0 := HT9.out.cell 0
        have t1 := HT9.out.cell 1
        simp only [List.getElem?_cons_zero, List.getElem?_cons_succ] at t0 t1
        by_cases hz : z = 0
        · subst hz
          go_wp2
          go_ret
          exact ⟨rfl, HB9.out⟩
        · have hzz : (z == 0) = false := by simpa using hz
          have hwz : IntKind.i64.wrap (z - 1) = z - 1 := by rw [IntKind.wrap_i64]; omega
          have hl1 := Lib.hid (HLs.out hz)
          go_wp2_with fail
          refine (implHas_any w.heap.size w1.heap.size _ _ t k (z - 1) w9 HV9.out (by omega)).mono ?_
          rintro e w10 ⟨rfl, hb10⟩
          rw [hl1.out]
          have HB10 := Lib.hid (HB9.out.trans (hb10.mono (by have := HB9.out.size; omega)))
          clear hb10
          go_wp2
          go_ret
          exact ⟨rfl, HB10.out⟩
      · have hhf : hasV t k z = false := by simpa using hh
        rw [hhf]
        clear hh
        go_wp2
        go_ret
        exact ⟨rfl, HBr.out⟩
end Go.Proofs.Ytabipfomcldkiaa

