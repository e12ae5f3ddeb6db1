/-
  What ways make of all values, as plain data: images, agreement, redundancy. Nothing here speaks of the program.
-/
import Derived.Test.YtokklaoldgdkaaaShort
namespace Go.Proofs.Ytokklaoldgdkaaa
open Go.RowKit

theorem waysJ_mem {cs : List Co} {n : Nat} {k goal : Int} {j : Nat} {z : List Int} : z ∈ waysJ cs n k goal j ↔ ∃ i, i < j ∧ (cs.getD i default).src = k ∧ ∃ y, y ∈ waysF cs n (cs.getD i default).dst goal ∧ (i : Int) :: y = z := by
  unfold waysJ
  simp only [List.mem_flatMap, List.mem_range]
  constructor
  · rintro ⟨i, hi, hz⟩
    split at hz
    case isTrue hs =>
      obtain ⟨y, hy, e⟩ := List.mem_map.1 hz
      exact ⟨i, hi, hs, y, hy, e⟩
    case isFalse => simp at hz
  · rintro ⟨i, hi, hs, y, hy, e⟩
    exact ⟨i, hi, by rw [if_pos hs]; exact List.mem_map.2 ⟨y, hy, e⟩⟩

/-- All ways lead to the goal. -/
theorem waysF_end {cs : List Co} : ∀ (n : Nat) (k goal : Int), ∀ z ∈ waysF cs n k goal, wayEnd cs k z = some goal := by
  intro n
  induction n with
  | zero => intro k goal z hz; simp [waysF] at hz
  | succ n ih =>
    intro k goal z hz
    by_cases h : k = goal
    · subst h; rw [waysF_eq] at hz; simp at hz; subst hz; rfl
    · rw [waysF_ne h] at hz
      obtain ⟨i, hi, hs, y, hy, rfl⟩ := waysJ_mem.1 hz
      rw [wayEnd, show ((i : Int)).toNat = i from Int.toNat_natCast i, if_pos ⟨ixB_yes (by omega) (by omega), hs⟩]
      exact ih _ _ y hy
theorem waysOf_end {t : Ty} {a b : Int} {z : List Int} (h : z ∈ waysOf t a b) : wayEnd t.cos a z = some b := waysF_end 5 a b z h

/-- No way is there twice. -/
theorem waysF_nodup {cs : List Co} : ∀ (n : Nat) (k goal : Int), (waysF cs n k goal).Pairwise (· ≠ ·) := by
  intro n
  induction n with
  | zero => intro k goal; simp [waysF]
  | succ n ih =>
    intro k goal
    by_cases h : k = goal
    · subst h; rw [waysF_eq]; simp
    · rw [waysF_ne h]
      have key : ∀ j, j ≤ cs.length → (waysJ cs n k goal j).Pairwise (· ≠ ·) := by
        intro j
        induction j with
        | zero => intro _; simp [waysJ_zero]
        | succ j ihj =>
          intro hj
          by_cases hs : cs[j].src = k
          · rw [waysJ_hit (by omega) hs, List.pairwise_append]
            refine ⟨ihj (by omega), ?_, fun a ha b hb e => ?_⟩
            · rw [List.pairwise_map]
              exact (ih _ _).imp fun hab e => hab (List.cons.inj e).2
            · obtain ⟨i, hi, _, y, _, rfl⟩ := waysJ_mem.1 ha
              obtain ⟨y2, _, rfl⟩ := List.mem_map.1 hb
              have := (List.cons.inj e).1
              omega
          · rw [waysJ_miss (by omega) hs]
            exact ihj (by omega)
      exact key _ (Nat.le_refl _)

/-- A coercion by itself is a way. -/
theorem waysOf_one {t : Ty} (h : tyOk t = true) {i : Nat} (hi : i < t.cos.length) : [(i : Int)] ∈ waysOf t t.cos[i].src t.cos[i].dst := by
  obtain ⟨h1, h2, h3, _⟩ := coOk_of (tyOk_co h hi)
  show _ ∈ waysF t.cos (4 + 1) _ _
  rw [waysF_ne (by omega)]
  exact waysJ_mem.2 ⟨i, hi, by rw [getD_at hi], [], by rw [getD_at hi]; show _ ∈ waysF t.cos (3 + 1) _ _; rw [waysF_eq]; simp, rfl⟩

/-- What a way makes of each of the four numbers, -1 of those that are no value. -/
def imgAt (t : Ty) (k : Int) (z : List Int) (v : Nat) : Int := if (v : Int) < t.sizes.getD k.toNat 0 then goV t.cos (v : Int) z else -1
def imgV (t : Ty) (k : Int) (z : List Int) : List Int := [imgAt t k z 0, imgAt t k z 1, imgAt t k z 2, imgAt t k z 3]
theorem imgAt_in {t : Ty} {k : Int} {z : List Int} {v : Nat} (h : (v : Int) < t.sizes.getD k.toNat 0) : imgAt t k z v = goV t.cos (v : Int) z := if_pos h
theorem imgAt_out {t : Ty} {k : Int} {z : List Int} {v : Nat} (h : ¬ (v : Int) < t.sizes.getD k.toNat 0) : imgAt t k z v = -1 := if_neg h
theorem imgAt_wf {t : Ty} (h : tyOk t = true) {k : Int} {z : List Int} {v : Nat} (hk : 0 ≤ k) (hk2 : k < t.sizes.length) (hz : (wayEnd t.cos k z).isSome = true) : I64 (imgAt t k z v) := by
  by_cases hv : (v : Int) < t.sizes.getD k.toNat 0
  · rw [imgAt_in hv]
    obtain ⟨q, hq⟩ := goV_val h z k (v : Int) ⟨hk, hk2, by omega, hv⟩ hz
    exact valOf_I64 h hq
  · rw [imgAt_out hv]; unfold I64; omega
theorem sizes_four {t : Ty} (h : tyOk t = true) {k : Int} (hk : 0 ≤ k) (hk2 : k < t.sizes.length) : t.sizes.getD k.toNat 0 ≤ 4 := by
  have hs : k.toNat < t.sizes.length := by omega
  have := (sizesOk_of (tyOk_sizes h)).2.2 _ hs
  rw [List.getD_eq_getElem?_getD, List.getElem?_eq_getElem hs]
  simp only [Option.getD_some]
  omega
/-- Two ways make the same of all values just if their images are one. -/
theorem imgV_eq {t : Ty} (h : tyOk t = true) {k : Int} (hk : 0 ≤ k) (hk2 : k < t.sizes.length) {y z : List Int} : imgV t k y = imgV t k z ↔ ∀ v : Nat, (v : Int) < t.sizes.getD k.toNat 0 → goV t.cos (v : Int) y = goV t.cos (v : Int) z := by
  have h4 := sizes_four h hk hk2
  constructor
  · intro e v hv
    simp only [imgV, List.cons.injEq, and_true] at e
    obtain ⟨e0, e1, e2, e3⟩ := e
    have hlt : v < 4 := by omega
    rw [← imgAt_in (z := y) hv, ← imgAt_in (z := z) hv]
    rcases (by omega : v = 0 ∨ v = 1 ∨ v = 2 ∨ v = 3) with rfl | rfl | rfl | rfl <;> assumption
  · intro e
    have key : ∀ v : Nat, imgAt t k y v = imgAt t k z v := fun v => by
      by_cases hv : (v : Int) < t.sizes.getD k.toNat 0
      · rw [imgAt_in hv, imgAt_in hv, e v hv]
      · rw [imgAt_out hv, imgAt_out hv]
    simp only [imgV, key]

/-- Do all ways make the same of a value? -/
def sameB (t : Ty) (a b v : Int) : Bool := (waysOf t a b).all fun z => goV t.cos v z == goV t.cos v ((waysOf t a b).headD [])
def agreeV (t : Ty) (a b v : Int) : Bool := typesB t a b && (hasV0 t.sizes a v && sameB t a b v)
/-- Does another way make the same as a coercion? -/
def redB (t : Ty) (i : Nat) (c : Co) : Bool := (waysOf t c.src c.dst).any fun z => !(decide (z = [(i : Int)])) && decide (mapL t.cos z (t.sizes.getD c.src.toNat 0).toNat = c.map)
end Go.Proofs.Ytokklaoldgdkaaa
