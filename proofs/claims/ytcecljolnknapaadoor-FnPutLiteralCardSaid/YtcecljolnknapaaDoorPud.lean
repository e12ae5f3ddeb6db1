/-
  Literals put into texts: as data; plain data only.
-/
import Derived.Test.YtcecljolnknapaaDoorTmg
namespace Go.Proofs.YtcecljolnknapaaDoor
open Go.RowKit

/-- The place of the colon with the index i, from a place and an index on. -/
def findC (i : Int) : List UInt8 → Nat → Int → Option Nat
  | [], _, _ => none
  | c :: r, k, n => if c = 58 then (if n = i then some k else findC i r (k + 1) (n + 1)) else findC i r (k + 1) n
theorem findC_past (i : Int) : ∀ (l : List UInt8) (k : Nat) (n : Int), i < n → findC i l k n = none
  | [], _, _, _ => rfl
  | c :: r, k, n, h => by
    rw [findC]
    split
    · rw [if_neg (by omega)]
      exact findC_past i r _ _ (by omega)
    · exact findC_past i r _ _ h
theorem findC_at (i : Int) : ∀ (l : List UInt8) (k : Nat) (n : Int) (p : Nat), findC i l k n = some p → k ≤ p ∧ l[p - k]? = some 58
  | [], _, _, _, h => by cases h
  | c :: r, k, n, p, h => by
    rw [findC] at h
    split at h
    · rename_i hc
      split at h
      · injection h with h
        subst h
        exact ⟨Nat.le_refl _, by simp [hc]⟩
      · obtain ⟨h1, h2⟩ := findC_at i r _ _ p h
        refine ⟨by omega, ?_⟩
        rw [show p - k = (p - (k + 1)) + 1 by omega]
        exact h2
    · obtain ⟨h1, h2⟩ := findC_at i r _ _ p h
      refine ⟨by omega, ?_⟩
      rw [show p - k = (p - (k + 1)) + 1 by omega]
      exact h2
def inDig (z : Int) : Bool := decide (0 ≤ z ∧ z ≤ 9)
theorem inDig_of {z : Int} (h : inDig z = true) : Dig z := by simpa [inDig, Dig] using h
/-- A literal put in, if the text is a term and the numbers are digits. -/
def putV (L : List UInt8) (i k v : Int) : Option (List UInt8) :=
  if ((parseT L).isSome && inDig k && inDig v) = true then (findC i L 0 0).map fun p => L.take (p - 1) ++ (dg k ++ [58] ++ dg v) ++ L.drop (p + 2) else none

/-- Every colon of a term stands between two signs. -/
theorem colon_in : ∀ (t : Tm), TmOk t → ∀ p : Nat, (tmT t)[p]? = some 58 → 1 ≤ p ∧ p + 2 ≤ (tmT t).length
  | .lit k v, h, p, hp => by
    have e : tmT (.lit k v) = [UInt8.ofNat (48 + k.toNat), 58, UInt8.ofNat (48 + v.toNat)] := rfl
    rw [e] at hp ⊢
    match p, hp with
    | 0, hp =>
      exfalso
      have h1 := isD_of (isD_dg h.1).1
      simp only [List.getElem?_cons_zero, Option.some.injEq] at hp
      rw [hp] at h1
      revert h1
      decide
    | 1, hp => simp
    | 2, hp =>
      exfalso
      have h1 := isD_of (isD_dg h.2).1
      simp only [List.getElem?_cons_succ, List.getElem?_cons_zero, Option.some.injEq] at hp
      rw [hp] at h1
      revert h1
      decide
    | p + 3, hp => simp at hp
  | .c0 n, h, p, hp => by
    exfalso
    have hn : n ≠ 58 := by rintro rfl; exact absurd h (by unfold TmOk; decide)
    match p, hp with
    | 0, hp => simp [tmT] at hp; exact hn hp
    | 1, hp => simp [tmT] at hp
    | 2, hp => simp [tmT] at hp
    | p + 3, hp => simp [tmT] at hp
  | .c1 n a, h, p, hp => by
    have hn : n ≠ 58 := by rintro rfl; exact absurd h.1 (by decide)
    have e : tmT (.c1 n a) = n :: 40 :: (tmT a ++ [41]) := by simp [tmT]
    rw [e] at hp ⊢
    match p, hp with
    | 0, hp => simp at hp; exact absurd hp hn
    | 1, hp => simp at hp
    | p + 2, hp =>
      simp only [List.getElem?_cons_succ] at hp
      simp only [List.length_cons, List.length_append, List.length_nil]
      by_cases hl : p < (tmT a).length
      · rw [List.getElem?_append_left hl] at hp
        have := colon_in a h.2 p hp
        omega
      · rw [List.getElem?_append_right (by omega)] at hp
        exfalso
        cases hq : p - (tmT a).length with
        | zero => rw [hq] at hp; simp at hp
        | succ q => rw [hq] at hp; simp at hp
  | .c2 n a b, h, p, hp => by
    have hn : n ≠ 58 := by rintro rfl; exact absurd h.1 (by decide)
    have e : tmT (.c2 n a b) = n :: 40 :: (tmT a ++ (44 :: (tmT b ++ [41]))) := by simp [tmT]
    rw [e] at hp ⊢
    match p, hp with
    | 0, hp => simp at hp; exact absurd hp hn
    | 1, hp => simp at hp
    | p + 2, hp =>
      simp only [List.getElem?_cons_succ] at hp
      simp only [List.length_cons, List.length_append, List.length_nil]
      by_cases hl : p < (tmT a).length
      · rw [List.getElem?_append_left hl] at hp
        have := colon_in a h.2.1 p hp
        omega
      · rw [List.getElem?_append_right (by omega)] at hp
        cases hq : p - (tmT a).length with
        | zero => rw [hq] at hp; simp at hp
        | succ q =>
          rw [hq] at hp
          simp only [List.getElem?_cons_succ] at hp
          by_cases hl2 : q < (tmT b).length
          · rw [List.getElem?_append_left hl2] at hp
            have := colon_in b h.2.2 q hp
            omega
          · rw [List.getElem?_append_right (by omega)] at hp
            exfalso
            cases hq2 : q - (tmT b).length with
            | zero => rw [hq2] at hp; simp at hp
            | succ q2 => rw [hq2] at hp; simp at hp
theorem findC_in {L : List UInt8} (h : (parseT L).isSome = true) {i : Int} {p : Nat} (hp : findC i L 0 0 = some p) : 1 ≤ p ∧ p + 2 ≤ L.length := by
  obtain ⟨t, ht⟩ := Option.isSome_iff_exists.1 h
  obtain ⟨ho, e, _⟩ := parseT_tmT.1 ht
  have h2 := (findC_at i L 0 0 p hp).2
  rw [Nat.sub_zero, e] at h2
  rw [e]
  exact colon_in t ho p h2
/-- All signs of a term are ASCII. -/
theorem ascii_T : ∀ (t : Tm), TmOk t → ∀ c ∈ tmT t, c.toNat < 128
  | .lit k v, h, c, hc => by
    have e : tmT (.lit k v) = [UInt8.ofNat (48 + k.toNat), 58, UInt8.ofNat (48 + v.toNat)] := rfl
    rw [e] at hc
    have h1 := isD_of (isD_dg h.1).1
    have h2 := isD_of (isD_dg h.2).1
    simp only [List.mem_cons, List.not_mem_nil, or_false] at hc
    rcases hc with rfl | rfl | rfl
    · omega
    · decide
    · omega
  | .c0 n, h, c, hc => by
    have h1 := isN_of (show isN n = true from h)
    simp only [tmT, List.mem_cons, List.not_mem_nil, or_false] at hc
    rcases hc with rfl | rfl | rfl
    · omega
    · decide
    · decide
  | .c1 n a, h, c, hc => by
    have h1 := isN_of h.1
    simp only [tmT, List.mem_cons, List.mem_append, List.not_mem_nil, or_false] at hc
    rcases hc with ((rfl | rfl) | hc) | rfl
    · omega
    · decide
    · exact ascii_T a h.2 c hc
    · decide
  | .c2 n a b, h, c, hc => by
    have h1 := isN_of h.1
    simp only [tmT, List.mem_cons, List.mem_append, List.not_mem_nil, or_false] at hc
    rcases hc with ((((rfl | rfl) | hc) | rfl) | hc) | rfl
    · omega
    · decide
    · exact ascii_T a h.2.1 c hc
    · decide
    · exact ascii_T b h.2.2 c hc
    · decide
end Go.Proofs.YtcecljolnknapaaDoor
