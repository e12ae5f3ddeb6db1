/-
  The walk of the law FnShortest.
-/
import Derived.Test.YtabipfomcldkiaaQdsw
import Derived.Test.YtabipfomcldkiaaQosm
import Derived.Test.YtabipfomcldkiaaW1
import Derived.Test.YtabipfomcldkiaaQcollw
import Derived.Test.YtabipfomcldkiaaQshorti
import Derived.Test.YtabipfomcldkiaaW6
namespace Go.Proofs.Ytabipfomcldkiaa
open Go.RowKit
attribute [local go_sem] Oper.semAt_some

theorem waysS_wf (t : Ty) (a b : Int) : ∀ y ∈ waysV t a b, (∀ z ∈ y, I64 z) ∧ y.length ≤ 5 := by
  intro y hy
  by_cases h : typesB t a b = true
  · rw [waysV_yes h] at hy
    have ht : tyOk t = true := by unfold typesB at h; simp only [Bool.and_eq_true] at h; exact h.1.1
    exact short_wf ht a b y hy
  · rw [waysV_no (by simpa using h)] at hy
    exact absurd hy (by simp)
theorem waysS_at {t : Ty} {a b : Int} {w : World} {base : Nat} {v : Value} (h : SSOut w base v (waysV t a b)) : SSAt w base w.heap.size v (waysV t a b) := by
  obtain ⟨g, gs, xs, h1, h2, h3⟩ := h
  have e : (List.range (waysV t a b).length).map (fun i => (waysV t a b).getD i []) = waysV t a b := by
    apply List.ext_getElem
    · simp
    · intro i h1 h2
      simp only [List.getElem_map, List.getElem_range]
      rw [List.getD_eq_getElem?_getD, List.getElem?_eq_getElem h2]
      rfl
  have h4 := h1.ss (lo := base) (hi := w.heap.size) (fun i hi => by
    rw [List.getD_eq_getElem?_getD, List.getElem?_eq_getElem hi]
    exact (waysS_wf t a b _ (List.getElem_mem hi)).1) h2 h3
  rwa [e] at h4

/-- The first one of the shortest: none is shorter, and those before it are longer. -/
theorem short_first' : ∀ (n : Nat) (s : List (List Int)), s.length = n → ∀ y, shortO s = some y → ∀ j, ∀ hj : j < s.length, y.length ≤ s[j].length ∧ (y ∉ s.take (j + 1) → y.length < s[j].length) := by
  intro n
  induction n with
  | zero => intro s hs y _ j hj; omega
  | succ n ihn =>
    intro s0 hs0
    have hne : s0 ≠ [] := fun e => by rw [e] at hs0; simp at hs0
    obtain ⟨s, z, rfl⟩ : ∃ s z, s0 = s ++ [z] := ⟨s0.dropLast, s0.getLast hne, (List.dropLast_concat_getLast hne).symm⟩
    have hsn : s.length = n := by simpa using hs0
    have ih := ihn s hsn
    intro y hy j hj
    rw [shortO_snoc] at hy
    by_cases hs : s = []
    · subst hs
      rw [shortO_nil] at hy
      have e : z = y := by simpa [pickS] using hy
      have hj0 : j = 0 := by simp at hj; omega
      subst hj0
      subst e
      exact ⟨by simp, fun h => absurd (by simp) h⟩
    · obtain ⟨y0, h0⟩ := shortO_some s hs
      rw [h0] at hy
      have hm := shortO_mem s y0 h0
      have ih0 := ih y0 h0
      by_cases hjs : j < s.length
      · have e1 : (s ++ [z])[j] = s[j] := List.getElem_append_left hjs
        have e2 : (s ++ [z]).take (j + 1) = s.take (j + 1) := List.take_append_of_le_length (by omega)
        rw [e1, e2]
        have h1 := ih0 j hjs
        by_cases hz : z.length < y0.length
        · have e : z = y := by simpa [pickS, hz] using hy
          subst e
          exact ⟨by omega, fun _ => by omega⟩
        · have e : y0 = y := by simpa [pickS, hz] using hy
          subst e
          exact h1
      · have hje : j = s.length := by simp at hj; omega
        subst hje
        have e1 : (s ++ [z])[s.length]'hj = z := by simp
        have e2 : (s ++ [z]).take (s.length + 1) = s ++ [z] := List.take_of_length_le (by simp)
        rw [e1, e2]
        by_cases hz : z.length < y0.length
        · have e : z = y := by simpa [pickS, hz] using hy
          subst e
          exact ⟨Nat.le_refl _, fun h => absurd (by simp) h⟩
        · have e : y0 = y := by simpa [pickS, hz] using hy
          subst e
          exact ⟨by omega, fun h => absurd (List.mem_append_left _ hm) h⟩
theorem short_first (s : List (List Int)) : ∀ y, shortO s = some y → ∀ j, ∀ hj : j < s.length, y.length ≤ s[j].length ∧ (y ∉ s.take (j + 1) → y.length < s[j].length) := short_first' _ s rfl
theorem shortW {t : Ty} {a b : Int} (h : canC t a b = true) : shortV t a b ∈ waysV t a b ∧ ∀ j, ∀ hj : j < (waysV t a b).length, (shortV t a b).length ≤ (waysV t a b)[j].length ∧ (shortV t a b ∉ (waysV t a b).take (j + 1) → (shortV t a b).length < (waysV t a b)[j].length) := by
  unfold canC at h
  simp only [Bool.and_eq_true] at h
  obtain ⟨h1, h2⟩ := h
  have hne : waysOf t a b ≠ [] := by
    intro e
    unfold canB at h2
    rw [e] at h2
    simp at h2
  obtain ⟨y, hy⟩ := shortO_some _ hne
  have e1 : shortV t a b = y := by rw [shortV_yes h1, hy]; rfl
  have e2 : waysV t a b = waysOf t a b := waysV_yes h1
  rw [e1]
  have hm := shortO_mem _ y hy
  have hf := short_first _ y hy
  revert hm hf
  rw [← e2]
  exact fun hm hf => ⟨hm, hf⟩
/-- What a round of the law asks. -/
theorem short_round {s : List Int} {L : List (List Int)} {j : Nat} (hj : j < L.length) (h : s.length ≤ L[j].length ∧ (s ∉ L.take (j + 1) → s.length < L[j].length)) :
    (decide (s ∈ L.take j) || decide (L[j] = s)) = decide (s ∈ L.take (j + 1)) ∧ ((L[j].length : Int) < (s.length : Int)) = False ∧ (decide (s ∈ L.take (j + 1)) = false → ((L[j].length : Int) == (s.length : Int)) = false) := by
  refine ⟨?_, ?_, fun hd => ?_⟩
  · have e := List.take_succ_eq_append_getElem hj
    by_cases h1 : s ∈ L.take j
    · have h2 : s ∈ L.take (j + 1) := by rw [e]; exact List.mem_append_left _ h1
      rw [decide_eq_true h1, decide_eq_true h2]
      rfl
    · by_cases h2 : L[j] = s
      · have h3 : s ∈ L.take (j + 1) := by rw [e]; exact List.mem_append_right _ (List.mem_singleton.2 h2.symm)
        rw [decide_eq_true h2, decide_eq_true h3, Bool.or_true]
      · have h3 : ¬ s ∈ L.take (j + 1) := fun h => by
          rw [e] at h
          rcases List.mem_append.1 h with h | h
          · exact h1 h
          · exact h2 (List.mem_singleton.1 h).symm
        rw [decide_eq_false h1, decide_eq_false h2, decide_eq_false h3]
        rfl
  · apply eq_false
    have := h.1
    omega
  · have h1 := h.2 (of_decide_eq_false hd)
    apply beq_eq_false_iff_ne.2
    omega

set_option maxRecDepth 100000 in
set_option maxHeartbeats 2000000 in
theorem lawSw_walk (v : Value) (w : World) (h : CodeAt w w.heap.size v) :
    Calls Try.prog 7 #[v] w fun e w' => e = .returned (.bool true) ∧ Below w.heap.size w w' := by
  have HC := Lib.hid h
  obtain ⟨a, n, c, rfl, hnc, hcm, _⟩ := h
  unfold maxLen at hcm
  by_cases hbig : (1048576 : Int) < (n : Int)
  · go_enter Try.func7, Try.ntmps7
    go_wp2
    go_ret
    exact ⟨rfl, Below.refl _ _⟩
  go_enter Try.func7, Try.ntmps7
  go_wp2_with fail
  refine (drawShort_any _ w HC.out).mono ?_
  rintro e w1 ⟨sv, cv, t, k, z, rfl, hb1, hv1, hd1, hk64, hz64⟩
  obtain ⟨A, cap, rfl, _, _, _⟩ := hv1.1.form
  obtain ⟨C, cbp, rfl, _, _, _⟩ := hv1.2.form
  have HB1 := Lib.hid hb1
  have HV1 := Lib.hid hv1
  have hs1 := hb1.size
  clear hb1 hv1 hd1 HC
  go_wp2_with fail
  obtain ⟨w2, hw2⟩ : ∃ u, u = w1.alloc (.cells #[.slice A t.sizes.length cap, .slice C t.cos.length cbp] 26) := ⟨_, rfl⟩
  rw [← hw2]
  have hb12 : Below w1.heap.size w1 w2 := by rw [hw2]; exact (Below.refl _ _).alloc (Nat.le_refl _) _
  have hs2 : w1.heap.size < w2.heap.size := by rw [hw2]; simp
  have HT2 : Hid (Row w2 w1.heap.size 26 [.slice A t.sizes.length cap, .slice C t.cos.length cbp]) := by rw [hw2]; exact Row.new w1 26 _
  have HV2 := Lib.hid (HV1.out.below hb12 (Nat.le_refl _))
  have HB2 := Lib.hid (HB1.out.trans (hb12.mono (by omega)))
  clear hw2 hb12 HV1 HB1
  refine (implShort_any w.heap.size w1.heap.size _ _ t k z w2 HV2.out (by omega) hk64 hz64).mono ?_
  rintro e w3 ⟨lv, rfl, hb3, how3⟩
  obtain ⟨VA, VC, rfl⟩ := owns_form how3
  have hs3 := hb3.size
  have HT3 := Lib.hid (HT2.out.below hb3 (by omega))
  have HV3 := Lib.hid (HV2.out.below hb3 (by omega))
  have HB3 := Lib.hid (HB2.out.trans (hb3.mono (by omega)))
  have hsw := shortV_wf t k z
  have HS3 := Lib.hid (ownsRow.intsAt (lo := w2.heap.size) (hi := w3.heap.size) how3 hsw.1 (Nat.le_refl _) (Nat.le_refl _))
  clear hb3 how3 HT2 HV2 HB2
  have t0 := HT3.out.cell 0
  have t1 := HT3.out.cell 1
  simp only [List.getElem?_cons_zero, List.getElem?_cons_succ] at t0 t1
  go_wp2_with fail
  refine (specShort_any w.heap.size w1.heap.size _ _ t k z w3 HV3.out (by omega)).mono ?_
  rintro e w4 ⟨lv2, rfl, hb4, how4⟩
  obtain ⟨VA2, VC2, rfl, _, _, _⟩ := how4.form
  have hs4 := hb4.size
  have HT4 := Lib.hid (HT3.out.below hb4 (by omega))
  have HV4 := Lib.hid (HV3.out.below hb4 (by omega))
  have HB4 := Lib.hid (HB3.out.trans (hb4.mono (by omega)))
  have HS4 := Lib.hid (HS3.out.below hb4 (Nat.le_refl _))
  have HM4 := Lib.hid how4
  have hl5 := hsw.2
  clear hb4 how4 HT3 HV3 HB3 HS3 t0 t1 hsw
  have t0 := HT4.out.cell 0
  have t1 := HT4.out.cell 1
  simp only [List.getElem?_cons_zero, List.getElem?_cons_succ] at t0 t1
  go_wp2_with fail
  refine (ovSame_any _ _ _ _ _ _ (shortV t k z) (shortV t k z) w4 HS4.out HM4.out (by omega) (Nat.le_refl _) (by omega) (by omega)).mono ?_
  rintro e w5 ⟨rfl, hb5⟩
  have hdt : decide (shortV t k z = shortV t k z) = true := decide_eq_true rfl
  rw [hdt]
  have hs5 := hb5.size
  have HT5 := Lib.hid (HT4.out.below hb5 (by omega))
  have HV5 := Lib.hid (HV4.out.below hb5 (by omega))
  have HB5 := Lib.hid (HB4.out.trans (hb5.mono (by omega)))
  have HS5 := Lib.hid (HS4.out.below hb5 (by omega))
  have HM5 := Lib.hid (HM4.out.below hb5 (Nat.le_refl _))
  have hcn : (canC t k z != canC t k z) = false := by simp
  clear hb5 HT4 HV4 HB4 HS4 HM4 t0 t1
  have t0 := HT5.out.cell 0
  have t1 := HT5.out.cell 1
  simp only [List.getElem?_cons_zero, List.getElem?_cons_succ] at t0 t1
  by_cases hc : canC t k z = true
  · obtain ⟨hmem, hsh⟩ := shortW hc
    have HMEM := Lib.hid hmem
    have HSH := Lib.hid hsh
    rw [hc] at hcn ⊢
    clear hc hmem hsh
    go_wp2_with fail
    refine (implWays_any w.heap.size w1.heap.size _ _ t k z w5 HV5.out (by omega) hk64 hz64).mono ?_
    rintro e w6 ⟨wv, rfl, hb6, hout⟩
    have hwl := waysS_wf t k z
    have hss := waysS_at hout
    obtain ⟨WA, WC, rfl, hwn, hwm, _⟩ := hss.form
    have HW6 := Lib.hid hss
    have HWF := Lib.hid hwl
    have hs6 := hb6.size
    have HB6 := Lib.hid (HB5.out.trans (hb6.mono (by omega)))
    have HS6 := Lib.hid (HS5.out.below hb6 (by omega))
    unfold maxLen at hwm
    clear hb6 hout hss hwl HT5 HV5 HB5 HS5 t0 t1 HM5
    obtain ⟨L, hL⟩ : ∃ L, L = waysV t k z := ⟨_, rfl⟩
    obtain ⟨s, hs⟩ : ∃ s, s = shortV t k z := ⟨_, rfl⟩
    rw [← hL] at HW6 HWF hwn HMEM HSH ⊢
    rw [← hs] at HS6 hl5 HMEM HSH ⊢
    clear hL hs hdt
    go_wp2
    go_loopw [12, 14, 68] (fun iv _ i wr => ∃ j : Nat, j ≤ L.length ∧ i = .int .i64 j ∧ iv = .bool (decide (s ∈ L.take j)) ∧ Hid (Below w6.heap.size w6 wr)) (fun _ _ i _ => L.length - (intOf i).toNat)
    case atStart => exact ⟨0, Nat.zero_le _, rfl, by simp, Lib.hid (Below.refl _ _)⟩
    case round =>
      obtain ⟨j, hj, rfl, rfl, hb⟩ := hrel
      have hsr := hb.out.size
      by_cases hlt : j < L.length
      · have hwJ : IntKind.i64.wrap ((j : Int) + 1) = (j : Int) + 1 := by rw [IntKind.wrap_i64]; omega
        obtain ⟨lb, lo, A2, c2, rfl, _, _, c0, hz2⟩ := (HW6.out.below hb.out (Nat.le_refl _)).at_ hlt
        have hrd := short_round hlt (HSH.out j hlt)
        have hwlj := (HWF.out _ (List.getElem_mem hlt)).2
        have HZ2 := Lib.hid hz2
        have HS7 := Lib.hid (HS6.out.below hb.out (by omega))
        obtain ⟨r1, r2, r3⟩ := hrd
        have R1 := Lib.hid r1
        have R3 := Lib.hid r3
        clear hz2 r1 r3
        by_cases h1 : s ∈ L.take j
        · have e0 : decide (s ∈ L.take j) = true := decide_eq_true h1
          have e1 : decide (s ∈ L.take (j + 1)) = true := by rw [← R1.out, e0]; rfl
          have E1 := Lib.hid e1
          rw [e0]
          clear e0 e1 h1
          go_wp2
          refine ⟨⟨j + 1, by omega, by go_num, by rw [E1.out], Lib.hid hb.out⟩, ?_⟩
          simp [intOf]
          omega
        · have e0 : decide (s ∈ L.take j) = false := decide_eq_false h1
          have e2 : decide (L[j] = s) = decide (s ∈ L.take (j + 1)) := by rw [← R1.out, e0, Bool.false_or]
          have E2 := Lib.hid e2
          rw [e0]
          clear e0 e2 h1
          go_wp2_with fail
          refine (ovSame_any _ _ _ _ _ _ L[j] s wr HZ2.out HS7.out (by omega) (by omega) (by omega) (by omega)).mono ?_
          rintro e w8 ⟨rfl, hb8⟩
          rw [E2.out]
          have HB8 := Lib.hid (hb.out.trans (hb8.mono hb.out.size))
          clear hb8
          by_cases h2 : s ∈ L.take (j + 1)
          · have e1 : decide (s ∈ L.take (j + 1)) = true := decide_eq_true h2
            have E1 := Lib.hid e1
            rw [e1]
            clear e1 h2
            go_wp2
            refine ⟨⟨j + 1, by omega, by go_num, by rw [E1.out], Lib.hid HB8.out⟩, ?_⟩
            simp [intOf]
            omega
          · have e1 : decide (s ∈ L.take (j + 1)) = false := decide_eq_false h2
            have E1 := Lib.hid e1
            have r3 := R3.out e1
            rw [e1]
            clear e1 h2
            go_wp2
            refine ⟨⟨j + 1, by omega, by go_num, by rw [E1.out], Lib.hid HB8.out⟩, ?_⟩
            simp [intOf]
            omega
      · obtain ⟨j2, hj2⟩ : ∃ j2 : Nat, j2 = j := ⟨_, rfl⟩
        have hjl : j = L.length := by omega
        have hin : decide (s ∈ L.take j) = true := by
          rw [hjl, List.take_of_length_le (Nat.le_refl _)]
          exact decide_eq_true HMEM.out
        rw [hin]
        have HBr := Lib.hid (HB6.out.trans (hb.out.mono (by have := HB6.out.size; omega)))
        clear hin hj2
        go_wp2
        go_ret
        exact ⟨rfl, HBr.out⟩
  · have hcf : canC t k z = false := by simpa using hc
    rw [hcf] at hcn ⊢
    clear hc
    have hcc : (false == false) = true := rfl
    go_wp2_with fail
    refine (ovSame_any _ _ _ _ _ _ (shortV t k z) (shortV t k z) w5 HS5.out HM5.out (by omega) (by omega) (by omega) (by omega)).mono ?_
    rintro e w6 ⟨rfl, hb6⟩
    rw [show decide (shortV t k z = shortV t k z) = true from decide_eq_true rfl]
    have HB6 := Lib.hid (HB5.out.trans (hb6.mono (by omega)))
    clear hb6
    go_wp2
    go_ret
    exact ⟨rfl, HB6.out⟩
end Go.Proofs.Ytabipfomcldkiaa

