/-
  Where a term ends: as data (what the model's reader says of a text); plain data only.
-/
import Derived.Test.YtcecljolnknapaaDoorTmd
namespace Go.Proofs.YtcecljolnknapaaDoor
open Go.RowKit

/-- What is left behind at most k further arguments and the bracket. -/
def endArgs (rd : List UInt8 → Option (Tm × List UInt8)) : Nat → List UInt8 → Option (List UInt8)
  | 0, _ => none
  | k + 1, l => match rd l with
    | none => none
    | some (_, []) => none
    | some (_, c :: r) => if c = 41 then some r else if c = 44 then endArgs rd k r else none
/-- What is left behind the term that a text begins with. -/
def endT (f : Nat) (l : List UInt8) : Option (List UInt8) := (rdTm f l).map fun p => p.2
theorem endT_short {f : Nat} {l : List UInt8} (h : l.length < 3) : endT f l = none := by
  unfold endT
  cases e : rdTm f l with
  | none => rfl
  | some p => obtain ⟨t, r⟩ := p; have := rdTm_len e; omega
theorem endT_lit {f : Nat} (a c : UInt8) (r : List UInt8) : endT (f + 1) (a :: 58 :: c :: r) = if (isD a && isD c) = true then some r else none := by
  unfold endT
  cases ha : isN a with
  | true =>
    have hd : isD a = false := by
      cases hd : isD a with
      | false => rfl
      | true => rw [isN_not hd] at ha; cases ha
    rw [rdTm_name f _ ha, hd]
    simp [rdCall, rdTake]
  | false =>
    rw [rdTm_lit f _ ha]
    cases hd : isD a with
    | false => simp [rdLit, rdDigit, hd]
    | true =>
      cases hc : isD c with
      | false => simp [rdLit, rdDigit, rdTake, hd, hc]
      | true => simp [rdLit, rdDigit, rdTake, hd, hc]
theorem endT_other {f : Nat} (a b : UInt8) (r : List UInt8) (hb : b ≠ 58) (h : (isN a && decide (b = 40)) = false) : endT f (a :: b :: r) = none := by
  unfold endT
  cases f with
  | zero => rfl
  | succ f =>
    cases ha : isN a with
    | true =>
      have hb : ¬ b = 40 := by simpa [ha] using h
      rw [rdTm_name f _ ha]
      simp [rdCall, rdTake, hb]
    | false =>
      rw [rdTm_lit f _ ha]
      cases hd : isD a with
      | false => simp [rdLit, rdDigit, hd]
      | true => simp [rdLit, rdDigit, rdTake, hd, hb]
theorem endT_call {f : Nat} (a d : UInt8) (r : List UInt8) (ha : isN a = true) : endT (f + 1) (a :: 40 :: d :: r) = if d = 41 then some r else endArgs (rdTm f) 2 (d :: r) := by
  unfold endT
  rw [rdTm_name f _ ha, rdCall, rdTake_cons]
  simp only [Option.bind_some]
  by_cases hd : d = 41
  · subst hd
    rw [rdArgs, if_pos (by simp [hasB]), if_pos rfl]
    simp [rdTake]
  · rw [rdArgs, if_neg (by simp [hasB, hd]), if_neg hd, endArgs]
    cases h1 : rdTm f (d :: r) with
    | none => rfl
    | some p =>
      obtain ⟨t, r1⟩ := p
      simp only [Option.bind_some]
      cases r1 with
      | nil => simp [hasB, rdTake]
      | cons c r1 =>
        by_cases h44 : c = 44
        · subst h44
          simp only [hasB, decide_true, if_true, rdTake_cons, Option.bind_some]
          rw [if_neg (by decide), endArgs]
          cases h2 : rdTm f r1 with
          | none => rfl
          | some q =>
            obtain ⟨t2, r2⟩ := q
            simp only [Option.map_some, Option.bind_some]
            cases r2 with
            | nil => rfl
            | cons c2 r2 =>
              by_cases h41 : c2 = 41
              · subst h41; simp [rdTake]
              · simp [rdTake, h41, endArgs]
        · rw [if_neg (by simp [hasB, h44])]
          by_cases h41 : c = 41
          · subst h41; simp [rdTake]
          · simp [rdTake, h41, h44]
/-- The index behind the term that begins at an index, or -1. -/
def endZ (L : List UInt8) (o : Option (List UInt8)) : Int := match o with
  | none => -1
  | some r => (L.length : Int) - (r.length : Int)
theorem endT_suffix {f : Nat} {l r : List UInt8} (h : endT f l = some r) : r.length + 3 ≤ l.length ∧ l.drop (l.length - r.length) = r := by
  unfold endT at h
  simp only [Option.map_eq_some_iff] at h
  obtain ⟨⟨t, r'⟩, h, rfl⟩ := h
  refine ⟨rdTm_len h, ?_⟩
  obtain ⟨_, e⟩ := rdTm_eq f h
  rw [e]
  simp
theorem parseT_some {l : List UInt8} : (parseT l).isSome = (decide (l.length ≤ 60) && decide (endT l.length l = some [])) := by
  unfold parseT endT
  by_cases hl : l.length ≤ 60
  · rw [if_pos hl]
    cases h : rdTm l.length l with
    | none => simp
    | some p =>
      obtain ⟨t, r⟩ := p
      cases r with
      | nil => simp [hl]
      | cons c r => simp
  · simp [hl]
end Go.Proofs.YtcecljolnknapaaDoor
