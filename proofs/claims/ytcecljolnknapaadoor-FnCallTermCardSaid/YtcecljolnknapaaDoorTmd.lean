/-
  Terms as data: their texts, and how a reader reads them from the left; plain data only.
-/
import Derived.Test.YtcecljolnknapaaDoorPrd
namespace Go.Proofs.YtcecljolnknapaaDoor
open Go.RowKit

inductive Tm where
  | lit (k v : Int) : Tm
  | c0 (n : UInt8) : Tm
  | c1 (n : UInt8) (a : Tm) : Tm
  | c2 (n : UInt8) (a b : Tm) : Tm

/-- The name of a function. -/
def isN (c : UInt8) : Bool := decide (102 ≤ c.toNat) && decide (c.toNat ≤ 107)
theorem isN_of {c : UInt8} (h : isN c = true) : 102 ≤ c.toNat ∧ c.toNat ≤ 107 := by simpa [isN] using h
theorem isD_of {c : UInt8} (h : isD c = true) : 48 ≤ c.toNat ∧ c.toNat ≤ 57 := by simpa [isD] using h
def mkCall (n : UInt8) : List Tm → Tm
  | [] => .c0 n
  | [a] => .c1 n a
  | a :: b :: _ => .c2 n a b
def rdLit (l : List UInt8) : Option (Tm × List UInt8) :=
  (rdDigit l).bind fun a => (rdTake 58 a.2).bind fun r => (rdDigit r).map fun b => (.lit a.1 b.1, b.2)
def rdArgs (rd : List UInt8 → Option (Tm × List UInt8)) (l : List UInt8) : Option (List Tm × List UInt8) :=
  if hasB 41 l = true then some ([], l)
  else (rd l).bind fun p => if hasB 44 p.2 = true then (rdTake 44 p.2).bind fun r => (rd r).map fun q => ([p.1, q.1], q.2) else some ([p.1], p.2)
def rdCall (rd : List UInt8 → Option (Tm × List UInt8)) (c : UInt8) (l : List UInt8) : Option (Tm × List UInt8) :=
  (rdTake 40 l).bind fun r => (rdArgs rd r).bind fun p => (rdTake 41 p.2).map fun r2 => (mkCall c p.1, r2)
def rdTm : Nat → List UInt8 → Option (Tm × List UInt8)
  | 0, _ => none
  | _ + 1, [] => none
  | f + 1, c :: l => if isN c = true then rdCall (rdTm f) c l else rdLit (c :: l)

def tmT : Tm → List UInt8
  | .lit k v => dg k ++ [58] ++ dg v
  | .c0 n => [n, 40, 41]
  | .c1 n a => [n, 40] ++ tmT a ++ [41]
  | .c2 n a b => [n, 40] ++ tmT a ++ [44] ++ tmT b ++ [41]
def TmOk : Tm → Prop
  | .lit k v => Dig k ∧ Dig v
  | .c0 n => isN n = true
  | .c1 n a => isN n = true ∧ TmOk a
  | .c2 n a b => isN n = true ∧ TmOk a ∧ TmOk b
def partsT : Tm → List Tm
  | .lit _ _ => []
  | .c0 _ => []
  | .c1 _ a => [a]
  | .c2 _ a b => [a, b]

theorem rdTm_nil (f : Nat) : rdTm f [] = none := by cases f <;> rfl
theorem rdTm_name (f : Nat) {c : UInt8} (l : List UInt8) (h : isN c = true) : rdTm (f + 1) (c :: l) = rdCall (rdTm f) c l := by rw [rdTm, if_pos h]
theorem rdTm_lit (f : Nat) {c : UInt8} (l : List UInt8) (h : isN c = false) : rdTm (f + 1) (c :: l) = rdLit (c :: l) := by rw [rdTm, if_neg (by simp [h])]

theorem dg_val {c : UInt8} (h : isD c = true) : dg (valD c) = [c] := by
  have h := isD_of h
  unfold dg valD
  have e : 48 + ((c.toNat : Int) - 48).toNat = c.toNat := by omega
  rw [e]
  simp
theorem rdDigit_eq {l r : List UInt8} {z : Int} (h : rdDigit l = some (z, r)) : Dig z ∧ l = dg z ++ r := by
  refine ⟨rdDigit_dig h, ?_⟩
  match l, h with
  | c :: l, h =>
    simp only [rdDigit] at h
    split at h
    · rename_i hc
      simp only [Option.some.injEq, Prod.mk.injEq] at h
      rw [← h.1, dg_val hc, ← h.2]
      rfl
    · cases h
theorem rdTake_eq {s : UInt8} {l r : List UInt8} (h : rdTake s l = some r) : l = s :: r := by
  match l, h with
  | c :: l, h =>
    simp only [rdTake] at h
    split at h
    · rename_i hc
      simp only [Option.some.injEq] at h
      rw [hc, h]
    · cases h
theorem rdTake_cons (s : UInt8) (l : List UInt8) : rdTake s (s :: l) = some l := by simp [rdTake]
theorem isD_dg {z : Int} (h : Dig z) : isD (UInt8.ofNat (48 + z.toNat)) = true ∧ valD (UInt8.ofNat (48 + z.toNat)) = z := by
  unfold Dig at h
  have e : (UInt8.ofNat (48 + z.toNat)).toNat = 48 + z.toNat := by
    rw [UInt8.toNat_ofNat']
    omega
  unfold isD valD
  rw [e]
  simp only [Bool.and_eq_true, decide_eq_true_eq]
  omega
theorem rdDigit_dg {z : Int} (h : Dig z) (r : List UInt8) : rdDigit (dg z ++ r) = some (z, r) := by
  have hd := isD_dg h
  show rdDigit (UInt8.ofNat (48 + z.toNat) :: r) = _
  rw [rdDigit, if_pos hd.1, hd.2]

/-- What is read is the text of what it is read as. -/
theorem rdTm_eq : ∀ (f : Nat) {l r : List UInt8} {t : Tm}, rdTm f l = some (t, r) → TmOk t ∧ l = tmT t ++ r
  | 0, l, r, t, h => by cases h
  | f + 1, [], r, t, h => by cases h
  | f + 1, c :: l, r, t, h => by
    cases hc : isN c with
    | false =>
      rw [rdTm_lit f l hc] at h
      unfold rdLit at h
      simp only [Option.bind_eq_some_iff, Option.map_eq_some_iff] at h
      obtain ⟨⟨k, l1⟩, h1, l2, h2, ⟨v, l3⟩, h3, h4⟩ := h
      obtain ⟨d1, e1⟩ := rdDigit_eq h1
      have e2 := rdTake_eq h2
      obtain ⟨d3, e3⟩ := rdDigit_eq h3
      injection h4 with h4 h5
      subst h4; subst h5
      dsimp only at e2 e3
      subst e3; subst e2
      exact ⟨⟨d1, d3⟩, by rw [e1]; simp [tmT]⟩
    | true =>
      rw [rdTm_name f l hc] at h
      unfold rdCall at h
      simp only [Option.bind_eq_some_iff, Option.map_eq_some_iff] at h
      obtain ⟨l1, h1, ⟨ts, l2⟩, h2, l3, h3, h4⟩ := h
      have e1 := rdTake_eq h1
      have e3 := rdTake_eq h3
      injection h4 with h4 h5
      subst h4; subst h5
      dsimp only at e3 h2 ⊢
      unfold rdArgs at h2
      split at h2
      · injection h2 with h2
        injection h2 with h2 h5
        subst h2; subst h5
        exact ⟨hc, by rw [e1, e3]; rfl⟩
      · simp only [Option.bind_eq_some_iff] at h2
        obtain ⟨⟨a, la⟩, h6, h7⟩ := h2
        obtain ⟨o6, e6⟩ := rdTm_eq f h6
        dsimp only at h7
        split at h7
        · simp only [Option.bind_eq_some_iff, Option.map_eq_some_iff] at h7
          obtain ⟨lb, h8, ⟨b, lc⟩, h9, h10⟩ := h7
          have e8 := rdTake_eq h8
          obtain ⟨o9, e9⟩ := rdTm_eq f h9
          injection h10 with h10 h11
          subst h10; subst h11
          dsimp only at e3
          exact ⟨⟨hc, o6, o9⟩, by rw [e1, e6, e8, e9, e3]; simp [mkCall, tmT]⟩
        · injection h7 with h7
          injection h7 with h7 h8
          subst h7; subst h8
          exact ⟨⟨hc, o6⟩, by rw [e1, e6, e3]; simp [mkCall, tmT]⟩

theorem tmT_first {t : Tm} (h : TmOk t) (r : List UInt8) : ∃ c l, tmT t ++ r = c :: l ∧ 2 ≤ l.length ∧ (isN c = true ∨ isD c = true) := by
  cases t with
  | lit k v => exact ⟨_, _, rfl, by simp [dg], .inr (isD_dg h.1).1⟩
  | c0 n => exact ⟨n, _, rfl, by simp, .inl h⟩
  | c1 n a => exact ⟨n, _, rfl, by simp; omega, .inl h.1⟩
  | c2 n a b => exact ⟨n, _, rfl, by simp; omega, .inl h.1⟩
theorem isN_not {c : UInt8} (h : isD c = true) : isN c = false := by
  have := isD_of h
  unfold isN
  simp only [Bool.and_eq_false_iff, decide_eq_false_iff_not]
  omega
theorem hasB_41 {t : Tm} (h : TmOk t) (r : List UInt8) : hasB 41 (tmT t ++ r) = false := by
  obtain ⟨c, l, e, _, hc⟩ := tmT_first h r
  rw [e]
  show decide (c = 41) = false
  rw [decide_eq_false_iff_not]
  rintro rfl
  rcases hc with hc | hc <;> exact absurd hc (by decide)
theorem tmT_len {t : Tm} (h : TmOk t) : 3 ≤ (tmT t).length := by
  obtain ⟨c, l, e, hl, _⟩ := tmT_first h []
  rw [List.append_nil] at e
  rw [e]
  simp only [List.length_cons]
  omega
/-- The text of a term is read as the term. -/
theorem rdTm_tmT : ∀ (f : Nat) {t : Tm} (r : List UInt8), TmOk t → (tmT t).length ≤ f → rdTm f (tmT t ++ r) = some (t, r)
  | 0, t, r, h, hl => by have := tmT_len h; omega
  | f + 1, .lit k v, r, h, hl => by
    have hd := isD_dg h.1
    have e : tmT (.lit k v) ++ r = UInt8.ofNat (48 + k.toNat) :: ([58] ++ dg v ++ r) := by simp [tmT, dg]
    rw [e, rdTm_lit f _ (isN_not hd.1)]
    have e2 : UInt8.ofNat (48 + k.toNat) :: ([58] ++ dg v ++ r) = dg k ++ ([58] ++ dg v ++ r) := rfl
    unfold rdLit
    rw [e2, rdDigit_dg h.1]
    have e3 : [58] ++ dg v ++ r = (58 : UInt8) :: (dg v ++ r) := by simp
    simp only [Option.bind_some]
    rw [e3, rdTake_cons]
    simp only [Option.bind_some]
    rw [rdDigit_dg h.2]
    rfl
  | f + 1, .c0 n, r, h, hl => by
    have e : tmT (.c0 n) ++ r = n :: 40 :: 41 :: r := rfl
    rw [e, rdTm_name f _ h]
    unfold rdCall
    rw [rdTake_cons]
    simp only [Option.bind_some]
    rw [rdArgs, if_pos (by simp [hasB])]
    simp only [Option.bind_some]
    rw [rdTake_cons]
    rfl
  | f + 1, .c1 n a, r, h, hl => by
    have e : tmT (.c1 n a) ++ r = n :: 40 :: (tmT a ++ (41 :: r)) := by simp [tmT]
    have hl2 : (tmT a).length ≤ f := by
      simp only [tmT, List.length_append, List.length_cons, List.length_nil] at hl
      omega
    rw [e, rdTm_name f _ h.1]
    unfold rdCall
    rw [rdTake_cons]
    simp only [Option.bind_some]
    rw [rdArgs, if_neg (by rw [hasB_41 h.2]; simp), rdTm_tmT f _ h.2 hl2]
    simp only [Option.bind_some]
    rw [if_neg (by simp [hasB])]
    simp only [Option.bind_some]
    rw [rdTake_cons]
    rfl
  | f + 1, .c2 n a b, r, h, hl => by
    have e : tmT (.c2 n a b) ++ r = n :: 40 :: (tmT a ++ (44 :: (tmT b ++ (41 :: r)))) := by simp [tmT]
    have hl2 : (tmT a).length ≤ f ∧ (tmT b).length ≤ f := by
      simp only [tmT, List.length_append, List.length_cons, List.length_nil] at hl
      omega
    rw [e, rdTm_name f _ h.1]
    unfold rdCall
    rw [rdTake_cons]
    simp only [Option.bind_some]
    rw [rdArgs, if_neg (by rw [hasB_41 h.2.1]; simp), rdTm_tmT f _ h.2.1 hl2.1]
    simp only [Option.bind_some]
    rw [if_pos (by simp [hasB]), rdTake_cons]
    simp only [Option.bind_some]
    rw [rdTm_tmT f _ h.2.2 hl2.2]
    simp only [Option.map_some, Option.bind_some]
    rw [rdTake_cons]
    rfl
theorem rdTm_len {f : Nat} {l r : List UInt8} {t : Tm} (h : rdTm f l = some (t, r)) : r.length + 3 ≤ l.length := by
  obtain ⟨ho, e⟩ := rdTm_eq f h
  have := tmT_len ho
  rw [e, List.length_append]
  omega
/-- With enough fuel it does not matter how much. -/
theorem rdTm_fuel {f g : Nat} {l : List UInt8} (hf : l.length ≤ f) (hg : l.length ≤ g) : rdTm f l = rdTm g l := by
  have key : ∀ {f g : Nat} {p : Tm × List UInt8}, l.length ≤ g → rdTm f l = some p → rdTm g l = some p := by
    intro f g p hg h
    obtain ⟨t, r⟩ := p
    obtain ⟨ho, e⟩ := rdTm_eq f h
    have hl : (tmT t).length ≤ g := by rw [e, List.length_append] at hg; omega
    rw [e]
    exact rdTm_tmT g r ho hl
  cases h : rdTm f l with
  | some p => exact (key hg h).symm
  | none =>
    cases h2 : rdTm g l with
    | none => rfl
    | some p => rw [key hf h2] at h; cases h

/-- What a text is read as, if it is a term. -/
def parseT (l : List UInt8) : Option Tm :=
  if l.length ≤ 60 then (match rdTm l.length l with
    | some (t, []) => some t
    | _ => none) else none
theorem parseT_tmT {l : List UInt8} {t : Tm} : parseT l = some t ↔ TmOk t ∧ l = tmT t ∧ l.length ≤ 60 := by
  unfold parseT
  constructor
  · intro h
    split at h
    · rename_i hl
      split at h
      · rename_i t' he
        injection h with h
        subst h
        obtain ⟨ho, e⟩ := rdTm_eq _ he
        rw [List.append_nil] at e
        exact ⟨ho, e, hl⟩
      · cases h
    · cases h
  · rintro ⟨ho, rfl, hl⟩
    rw [if_pos hl]
    have := rdTm_tmT (tmT t).length [] ho (Nat.le_refl _)
    rw [List.append_nil] at this
    rw [this]
end Go.Proofs.YtcecljolnknapaaDoor
