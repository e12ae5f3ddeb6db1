/-
  A map from arrays of four numbers to how often each has come.
-/
import Derived.Test.YtokklaoldgdkaaaKey
namespace Go.Proofs.Ytokklaoldgdkaaa
open Go.RowKit Go.Maps

/-- How often x stands in s. -/
def cntI (s : List (List Int)) (x : List Int) : Int := ((s.filter fun y => decide (y = x)).length : Int)
theorem cntI_snoc_same (s : List (List Int)) (x : List Int) : cntI (s ++ [x]) x = cntI s x + 1 := by simp [cntI, List.filter_append]
theorem cntI_snoc_other {s : List (List Int)} {x y : List Int} (h : x ≠ y) : cntI (s ++ [x]) y = cntI s y := by simp [cntI, List.filter_append, h]
theorem cntI_le (s : List (List Int)) (x : List Int) : 0 ≤ cntI s x ∧ cntI s x ≤ s.length := by
  unfold cntI
  have := List.length_filter_le (fun y => decide (y = x)) s
  omega
theorem cntI_wf {s : List (List Int)} (h : s.length < 40000) (x : List Int) : I64 (cntI s x) ∧ I64 (cntI s x + 1) := by
  have := cntI_le s x
  unfold I64
  omega

/-- D holds for each list of s how often it stands there, and nothing else. -/
structure Cnt (s : List (List Int)) (D : DataW Unit) : Prop where
  four : ∀ x ∈ s, Four x
  at_ : ∀ x, Four x → D.atKey (kI x) (.lit (.int .i64 0)) = .lit (.int .i64 (cntI s x))
  has : ∀ x, Four x → (Maps.has D (kI x) = true ↔ x ∈ s)
  only : ∀ kl, Maps.has D kl = true → ∃ x ∈ s, kl = kI x

theorem Cnt.nil : Cnt [] (.map []) := by
  refine ⟨fun x h => absurd h (by simp), fun x _ => rfl, fun x _ => ⟨fun h => ?_, fun h => absurd h (by simp)⟩, fun kl h => ?_⟩
  · cases h
  · cases h
theorem Cnt.snoc {s : List (List Int)} {D : DataW Unit} {x : List Int} (h : Cnt s D) (hD : IsMap D) (hx : Four x) : Cnt (s ++ [x]) (D.put (kI x) (.lit (.int .i64 (cntI s x + 1)))) := by
  have hk := kI_key hx
  refine ⟨fun y hy => ?_, fun y hy => ?_, fun y hy => ?_, fun kl hkl => ?_⟩
  · rcases List.mem_append.1 hy with hy | hy
    · exact h.four y hy
    · simp only [List.mem_singleton] at hy; exact hy ▸ hx
  · by_cases e : x = y
    · subst e
      rw [atKey_put_same hD hk, cntI_snoc_same]
    · rw [atKey_put_other (fun e2 => e (kI_inj hy hx e2).symm), h.at_ y hy, cntI_snoc_other e]
  · by_cases e : x = y
    · subst e
      rw [has_put_same hD hk]
      simp
    · rw [has_put_other (fun e2 => e (kI_inj hy hx e2).symm), h.has y hy, List.mem_append, List.mem_singleton]
      exact ⟨.inl, fun h2 => h2.elim id fun h3 => absurd h3.symm e⟩
  · by_cases e : kl = kI x
    · exact ⟨x, by simp, e⟩
    · rw [has_put_other e] at hkl
      obtain ⟨y, hy, e2⟩ := h.only kl hkl
      exact ⟨y, List.mem_append_left _ hy, e2⟩
end Go.Proofs.Ytokklaoldgdkaaa
