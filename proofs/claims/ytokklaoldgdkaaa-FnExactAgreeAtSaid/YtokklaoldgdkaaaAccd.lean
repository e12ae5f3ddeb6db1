/-
  A set of numbers as a map's datum.
-/
import Derived.Test.YtokklaoldgdkaaaKey
namespace Go.Proofs.Ytokklaoldgdkaaa
open Go.RowKit Go.Maps

/-- The numbers of acc as a set. -/
def accD (acc : List Int) : DataW Unit := setOf (.lit (.bool true)) (acc.map (Lit.int .i64))
theorem acc_keys (acc : List Int) : ∀ x ∈ acc.map (Lit.int .i64), WideAt.IsKeyLit x := fun x hx => by
  obtain ⟨z, _, rfl⟩ := List.mem_map.1 hx
  trivial
theorem acc_has (acc : List Int) (x : Int) : Maps.has (accD acc) (.int .i64 x) = true ↔ x ∈ acc := by
  unfold accD
  rw [has_setOf _ _ _ (acc_keys acc), List.any_eq_true]
  constructor
  · rintro ⟨y, hy, e⟩
    obtain ⟨z, hz, rfl⟩ := List.mem_map.1 hy
    have := WideAt.sameKey_eq e
    simp only [Lit.int.injEq, true_and] at this
    exact this ▸ hz
  · intro h
    exact ⟨_, List.mem_map.2 ⟨x, h, rfl⟩, WideAt.sameKey_self trivial⟩
theorem acc_size (acc : List Int) : Maps.size (accD acc) ≤ 1 ↔ ∀ x ∈ acc, ∀ y ∈ acc, x = y := by
  have hsz : Maps.size (accD acc) = ((acc.map (Lit.int .i64)).foldl addKey []).length := size_setOf _ _ (acc_keys acc)
  have key : ∀ (xs : List Int) (L : List Lit), (∀ l ∈ L, ∃ z, l = .int .i64 z) → L.Pairwise (· ≠ ·) → ((xs.map (Lit.int .i64)).foldl addKey L).Pairwise (· ≠ ·) ∧ ∀ z : Int, Lit.int .i64 z ∈ (xs.map (Lit.int .i64)).foldl addKey L ↔ (Lit.int .i64 z ∈ L ∨ z ∈ xs) := by
    intro xs
    induction xs with
    | nil => intro L _ hp; exact ⟨hp, fun z => by simp⟩
    | cons x xs ih =>
      intro L hL hp
      simp only [List.map_cons, List.foldl_cons]
      by_cases hx : L.any (fun y => y.sameKey (.int .i64 x)) = true
      · have e : addKey L (.int .i64 x) = L := by unfold addKey; rw [if_pos hx]
        rw [e]
        obtain ⟨h1, h2⟩ := ih L hL hp
        refine ⟨h1, fun z => ?_⟩
        rw [h2 z]
        obtain ⟨y, hy, e2⟩ := List.any_eq_true.1 hx
        have hmem : Lit.int .i64 x ∈ L := WideAt.sameKey_eq e2 ▸ hy
        simp only [List.mem_cons]
        constructor
        · rintro (h | h)
          · exact .inl h
          · exact .inr (.inr h)
        · rintro (h | h | h)
          · exact .inl h
          · exact .inl (h ▸ hmem)
          · exact .inr h
      · have e : addKey L (.int .i64 x) = L ++ [.int .i64 x] := by unfold addKey; rw [if_neg hx]
        rw [e]
        have hn : Lit.int .i64 x ∉ L := fun h => hx (List.any_eq_true.2 ⟨_, h, WideAt.sameKey_self trivial⟩)
        obtain ⟨h1, h2⟩ := ih (L ++ [.int .i64 x]) (fun l hl => by
          rcases List.mem_append.1 hl with h | h
          · exact hL l h
          · simp only [List.mem_singleton] at h; exact ⟨x, h⟩) (by
          rw [List.pairwise_append]
          exact ⟨hp, by simp, fun a ha b hb => by simp only [List.mem_singleton] at hb; subst hb; exact fun e => hn (e ▸ ha)⟩)
        refine ⟨h1, fun z => ?_⟩
        rw [h2 z]
        simp only [List.mem_append, Lit.int.injEq, true_and, List.mem_cons, or_assoc, List.not_mem_nil, false_or]
  obtain ⟨h1, h2⟩ := key acc [] (fun _ h => absurd h (by simp)) List.Pairwise.nil
  rw [hsz]
  have hints : ∀ (xs : List Int) (L : List Lit), (∀ l ∈ L, ∃ z, l = .int .i64 z) → ∀ l ∈ (xs.map (Lit.int .i64)).foldl addKey L, ∃ z, l = .int .i64 z := by
    intro xs
    induction xs with
    | nil => intro L hL; exact hL
    | cons x xs ih =>
      intro L hL
      simp only [List.map_cons, List.foldl_cons]
      refine ih _ fun l hl => ?_
      unfold addKey at hl
      split at hl
      · exact hL l hl
      · rcases List.mem_append.1 hl with h | h
        · exact hL l h
        · simp only [List.mem_singleton] at h; exact ⟨x, h⟩
  have h3 := hints acc [] (fun _ h => absurd h (by simp))
  generalize (acc.map (Lit.int .i64)).foldl addKey [] = M at h1 h2 h3
  constructor
  · intro hle x hx y hy
    have mx := (h2 x).2 (.inr hx)
    have my := (h2 y).2 (.inr hy)
    match M, hle, mx, my with
    | [m], _, mx, my =>
      simp only [List.mem_singleton] at mx my
      have := mx.trans my.symm
      simpa using this
  · intro hall
    match M, h1, h2, h3 with
    | [], _, _, _ => simp
    | [_], _, _, _ => simp
    | p :: q :: r, h1, h2, h3 =>
      obtain ⟨x, rfl⟩ := h3 p (by simp)
      obtain ⟨y, rfl⟩ := h3 q (by simp)
      have hx : x ∈ acc := by simpa using (h2 x).1 (by simp)
      have hy : y ∈ acc := by simpa using (h2 y).1 (by simp)
      have hne := (List.pairwise_cons.1 h1).1 (.int .i64 y) (by simp)
      exact absurd (by rw [hall x hx y hy]) hne
end Go.Proofs.Ytokklaoldgdkaaa
