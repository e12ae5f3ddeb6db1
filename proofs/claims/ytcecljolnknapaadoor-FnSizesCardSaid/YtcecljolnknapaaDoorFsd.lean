/-
  How many colons, brackets and names a term has: plain data only.
-/
import Derived.Test.YtcecljolnknapaaDoorNmd
namespace Go.Proofs.YtcecljolnknapaaDoor
open Go.RowKit

theorem dg_count {z : Int} (h : Dig z) : (dg z).count 58 = 0 ∧ (dg z).count 40 = 0 := by
  have hd := isD_of (isD_dg h).1
  constructor
  · rw [List.count_eq_zero]
    intro hm
    simp only [dg, List.mem_singleton] at hm
    rw [← hm] at hd
    revert hd
    decide
  · rw [List.count_eq_zero]
    intro hm
    simp only [dg, List.mem_singleton] at hm
    rw [← hm] at hd
    revert hd
    decide
theorem name_count {n : UInt8} (h : isN n = true) : [n].count 58 = 0 ∧ [n].count 40 = 0 := by
  have hn := isN_of h
  constructor
  · rw [List.count_eq_zero]
    intro hm
    simp only [List.mem_singleton] at hm
    rw [← hm] at hn
    revert hn
    decide
  · rw [List.count_eq_zero]
    intro hm
    simp only [List.mem_singleton] at hm
    rw [← hm] at hn
    revert hn
    decide
/-- Literals have colons, calls have brackets. -/
theorem counts : ∀ (t : Tm), TmOk t → sizeT t = (tmT t).count 58 + (tmT t).count 40 ∧ (nmsT t).length = (tmT t).count 40 ∧ depthT t ≤ (tmT t).count 40 ∧ (depthT t = 0 ↔ (tmT t).count 40 = 0)
  | .lit k v, h => by
    have h1 := dg_count h.1
    have h2 := dg_count h.2
    have c1 : (tmT (.lit k v)).count 58 = 1 := by simp only [tmT, List.count_append, h1.1, h2.1]; rfl
    have c2 : (tmT (.lit k v)).count 40 = 0 := by simp only [tmT, List.count_append, h1.2, h2.2]; rfl
    rw [c1, c2]
    exact ⟨rfl, rfl, Nat.le_refl _, by simp [depthT]⟩
  | .c0 n, h => by
    have h1 := name_count (show isN n = true from h)
    have e : tmT (.c0 n) = [n] ++ [40, 41] := rfl
    have c1 : (tmT (.c0 n)).count 58 = 0 := by rw [e, List.count_append, h1.1]; rfl
    have c2 : (tmT (.c0 n)).count 40 = 1 := by rw [e, List.count_append, h1.2]; rfl
    rw [c1, c2]
    exact ⟨rfl, rfl, Nat.le_refl _, by simp [depthT]⟩
  | .c1 n a, h => by
    have h1 := name_count h.1
    obtain ⟨i1, i2, i3, i4⟩ := counts a h.2
    have e : tmT (.c1 n a) = [n] ++ ([40] ++ (tmT a ++ [41])) := by simp [tmT]
    have c1 : (tmT (.c1 n a)).count 58 = (tmT a).count 58 := by
      rw [e, List.count_append, List.count_append, List.count_append, h1.1, show ([40] : List UInt8).count 58 = 0 from rfl, show ([41] : List UInt8).count 58 = 0 from rfl]
      omega
    have c2 : (tmT (.c1 n a)).count 40 = (tmT a).count 40 + 1 := by
      rw [e, List.count_append, List.count_append, List.count_append, h1.2, show ([40] : List UInt8).count 40 = 1 from rfl, show ([41] : List UInt8).count 40 = 0 from rfl]
      omega
    rw [c1, c2]
    simp only [sizeT, nmsT, depthT, List.length_cons]
    refine ⟨by omega, by omega, by omega, ?_⟩
    constructor <;> intro h <;> omega
  | .c2 n a b, h => by
    have h1 := name_count h.1
    obtain ⟨i1, i2, i3, i4⟩ := counts a h.2.1
    obtain ⟨j1, j2, j3, j4⟩ := counts b h.2.2
    have e : tmT (.c2 n a b) = [n] ++ ([40] ++ (tmT a ++ ([44] ++ (tmT b ++ [41])))) := by simp [tmT]
    have c1 : (tmT (.c2 n a b)).count 58 = (tmT a).count 58 + (tmT b).count 58 := by
      rw [e, List.count_append, List.count_append, List.count_append, List.count_append, List.count_append, h1.1, show ([40] : List UInt8).count 58 = 0 from rfl, show ([41] : List UInt8).count 58 = 0 from rfl, show ([44] : List UInt8).count 58 = 0 from rfl]
      omega
    have c2 : (tmT (.c2 n a b)).count 40 = (tmT a).count 40 + (tmT b).count 40 + 1 := by
      rw [e, List.count_append, List.count_append, List.count_append, List.count_append, List.count_append, h1.2, show ([40] : List UInt8).count 40 = 1 from rfl, show ([41] : List UInt8).count 40 = 0 from rfl, show ([44] : List UInt8).count 40 = 0 from rfl]
      omega
    rw [c1, c2]
    simp only [sizeT, nmsT, depthT, List.length_cons, List.length_append]
    refine ⟨by omega, by omega, by omega, ?_⟩
    constructor <;> intro h <;> omega
theorem nmV_len {L : List UInt8} {t : Tm} (h : parseT L = some t) : (nmV L).length ≤ (nmsT t).length := by
  have hs := names_same h
  rw [srt_map] at hs
  obtain ⟨us, h1, _, _⟩ := compact_up (srt_up (nmsT t)) (srt (nmsT t)).length (Nat.le_refl _)
  have hc : Lib.compact ((srt (nmsT t)).map one) = us.map one := by
    unfold Lib.compact
    rw [List.length_map]
    exact h1
  rw [hc, join_none] at hs
  rw [← hs]
  have h2 := congrArg List.length h1
  rw [List.length_map] at h2
  rw [← h2]
  unfold Lib.compactUpTo
  rw [List.length_map]
  refine Nat.le_trans (List.length_filter_le _ _) ?_
  rw [List.length_range, srt_len]
  exact Nat.le_refl _
theorem nmV_nil {L : List UInt8} {t : Tm} (h : parseT L = some t) : nmV L = [] ↔ (nmsT t).length = 0 := by
  constructor
  · intro hn
    cases hm : nmsT t with
    | nil => rfl
    | cons c r =>
      exfalso
      obtain ⟨ho, e, _⟩ := parseT_tmT.1 h
      have hc := (nmsT_mem t ho c).1 (by rw [hm]; simp)
      have : c ∈ nmV L := by
        unfold nmV
        rw [h, if_pos (show (some t).isSome = true from rfl), List.mem_filter, letters_mem]
        exact ⟨hc.1, by rw [e]; simpa using hc.2⟩
      rw [hn] at this
      cases this
  · intro hn
    have := nmV_len h
    exact List.eq_nil_of_length_eq_zero (by omega)
theorem count_step (c : UInt8) {L : List UInt8} {k : Nat} (hk : k < L.length) : (L.take (k + 1)).count c = (L.take k).count c + (if L[k] = c then 1 else 0) := by
  rw [List.take_succ_eq_append_getElem hk, List.count_append]
  congr 1
  by_cases h : L[k] = c
  · rw [if_pos h, h]; simp
  · rw [if_neg h, List.count_eq_zero]
    simpa using fun e => h e.symm
end Go.Proofs.YtcecljolnknapaaDoor
