/-
  A region that draws its order, each of whose operations sets one slot to one value: what holds by what has been done.
  A region that draws its order, some of whose operations, a chain, turn the world one after the other: what holds by what has been done.
-/
import Derived.Test.YtdemcoghgnnheaaGreatDoorK7
import Derived.Test.YtdemcoghgnnheaaGreatDoorK1
namespace Go.Proofs.YtdemcoghgnnheaaGreatDoor
open Go.RowKit

theorem det_yes {c : Bool} {A B : Prop} (h : c = true) (ha : A) : if c = true then A else B := by rw [if_pos h]; exact ha
/-- Vs: what the slots hold in the end; xs: what they hold now; f: which operations have been done. -/
structure Det (N : Nat) (w0 : World) (Vs : List Value) (f : Nat → Bool) (xs : List Value) (u : World) : Prop where
  bel : Below N w0 u
  len : xs.length = Vs.length
  at_ : ∀ k, f k = true → xs[k]? = Vs[k]?
section
variable {N : Nat} {w0 u : World} {Vs xs : List Value} {f : Nat → Bool}
theorem Det.start (_hN : N ≤ w0.heap.size) (hl : xs.length = Vs.length) : Det N w0 Vs (fun _ => false) xs w0.drew :=
  ⟨(Below.refl _ _).drew, hl, fun k h => by cases h⟩
theorem Det.step (h : Det N w0 Vs f xs u) (i : Nat) {v : Value} (hv : Vs[i]? = some v) {u' : World} (hb : Below N u u') : Det N w0 Vs (fun k => decide (k = i) || f k) (xs.set i v) u' := by
  refine ⟨h.bel.trans hb, by rw [List.length_set]; exact h.len, fun k hk => ?_⟩
  by_cases e : k = i
  · subst e
    have hl : k < xs.length := by
      rw [h.len]
      exact (List.getElem?_eq_some_iff.1 hv).1
    rw [List.getElem?_set_self hl, hv]
  · rw [List.getElem?_set_ne (fun e' => e e'.symm)]
    exact h.at_ k (by simpa [e] using hk)
theorem Det.same (h : Det N w0 Vs f xs u) (i : Nat) {v : Value} (hv : Vs[i]? = some v) : Det N w0 Vs (fun k => decide (k = i) || f k) (xs.set i v) u := h.step i hv (Below.refl _ _)
theorem Det.get (h : Det N w0 Vs f xs u) (k : Nat) (hk : f k = true) {x v : Value} (hx : xs[k]? = some x) (hv : Vs[k]? = some v) : x = v := by
  have := h.at_ k hk
  rw [hx, hv] at this
  exact Option.some.inj this
theorem Det.all (h : Det N w0 Vs f xs u) {n : Nat} (hn : Vs.length = n) (hall : ∀ k, k < n → f k = true) : xs = Vs := by
  apply List.ext_getElem? fun k => ?_
  by_cases hk : k < n
  · exact h.at_ k (hall k hk)
  · rw [List.getElem?_eq_none (by rw [h.len]; omega), List.getElem?_eq_none (by omega)]
end
end Go.Proofs.YtdemcoghgnnheaaGreatDoor

namespace Go.Proofs.YtdemcoghgnnheaaGreatDoor
open Go.RowKit

/-- Each slot that has been set holds what it is to hold. -/
structure DetQ (Ps : List (Value → Prop)) (f : Nat → Bool) (xs : List Value) : Prop where
  len : xs.length = Ps.length
  at_ : ∀ k x P, f k = true → xs[k]? = some x → Ps[k]? = some P → P x
theorem DetQ.start {Ps : List (Value → Prop)} {xs : List Value} (h : xs.length = Ps.length) : DetQ Ps (fun _ => false) xs := ⟨h, fun _ _ _ h => by cases h⟩
theorem DetQ.step {Ps : List (Value → Prop)} {f : Nat → Bool} {xs : List Value} (h : DetQ Ps f xs) (i : Nat) {v : Value} {P : Value → Prop} (hP : Ps[i]? = some P) (hv : P v) : DetQ Ps (fun k => decide (k = i) || f k) (xs.set i v) := by
  refine ⟨by rw [List.length_set]; exact h.len, fun k x Q hk hx hQ => ?_⟩
  by_cases e : k = i
  · subst e
    have hl : k < xs.length := by rw [h.len]; exact (List.getElem?_eq_some_iff.1 hP).1
    rw [List.getElem?_set_self hl] at hx
    injection hx with hx
    subst hx
    rw [hP] at hQ
    injection hQ with hQ
    subst hQ
    exact hv
  · rw [List.getElem?_set_ne (fun e' => e e'.symm)] at hx
    exact h.at_ k x Q (by simpa [e] using hk) hx hQ
theorem DetQ.get {Ps : List (Value → Prop)} {f : Nat → Bool} {xs : List Value} (h : DetQ Ps f xs) (k : Nat) (hk : f k = true) {x : Value} {P : Value → Prop} (hx : xs[k]? = some x) (hP : Ps[k]? = some P) : P x := h.at_ k x P hk hx hP

/-- The operations cs are done one after the other; W j: what holds of the world behind the first j of them. -/
structure Ch (dn : Nat → Bool) (cs : List Nat) (W : Nat → World → Prop) (u : World) : Prop where
  ex : ∃ j, j ≤ cs.length ∧ (∀ i, ∀ (h : i < cs.length), dn cs[i] = decide (i < j)) ∧ W j u
section
variable {dn : Nat → Bool} {cs : List Nat} {W W' : Nat → World → Prop} {u u' : World}
theorem Ch.start (h : W 0 u) : Ch (fun _ => false) cs W u := ⟨0, Nat.zero_le _, fun i _ => by simp, h⟩
theorem Ch.other (h : Ch dn cs W u) (i : Nat) (hi : i ∉ cs) : Ch (fun k => decide (k = i) || dn k) cs W u := by
  obtain ⟨j, hj, hd, hw⟩ := h.ex
  refine ⟨j, hj, fun k hk => ?_, hw⟩
  have hne : cs[k] ≠ i := fun e => hi (by rw [← e]; exact List.getElem_mem hk)
  simp [hne, hd k hk]
theorem Ch.at_ (h : Ch dn cs W u) (j : Nat) (hj : j < cs.length) (hn : dn cs[j] = false) (hp : ∀ i, i + 1 = j → ∀ (hi : i < cs.length), dn cs[i] = true) : W j u := by
  obtain ⟨j0, hj0, hd, hw⟩ := h.ex
  have h1 := hd j hj
  rw [hn] at h1
  have h2 : ¬ j < j0 := by simpa using h1.symm
  have h3 : j0 = j := by
    cases j with
    | zero => omega
    | succ k =>
      have h4 := hd k (by omega)
      rw [hp k rfl (by omega)] at h4
      have h5 : k < j0 := by simpa using h4.symm
      omega
  rw [← h3]
  exact hw
theorem Ch.next (h : Ch dn cs W u) (j : Nat) (hj : j < cs.length) (hn : dn cs[j] = false) (hp : ∀ i, i + 1 = j → ∀ (hi : i < cs.length), dn cs[i] = true) (hnd : cs.Nodup) (hw' : W' (j + 1) u') : Ch (fun k => decide (k = cs[j]) || dn k) cs W' u' := by
  obtain ⟨j0, hj0, hd, hw⟩ := h.ex
  have h1 := hd j hj
  rw [hn] at h1
  have h2 : ¬ j < j0 := by simpa using h1.symm
  have h3 : j0 = j := by
    cases j with
    | zero => omega
    | succ k =>
      have h4 := hd k (by omega)
      rw [hp k rfl (by omega)] at h4
      have h5 : k < j0 := by simpa using h4.symm
      omega
  subst h3
  refine ⟨j0 + 1, by omega, fun i hi => ?_, hw'⟩
  by_cases e : i = j0
  · subst e; simp
  · have hne : cs[i] ≠ cs[j0] := fun e2 => e ((List.getElem_inj hnd).1 e2)
    simp only [hne, decide_false, Bool.false_or, hd i hi]
    have : (i < j0) ↔ (i < j0 + 1) := by omega
    simp [this]
theorem Ch.early (h : Ch dn cs W u) (m : Nat) (hm : m < cs.length) (hn : dn cs[m] = false) : ∃ j, j ≤ m ∧ W j u := by
  obtain ⟨j0, hj0, hd, hw⟩ := h.ex
  have h1 := hd m hm
  rw [hn] at h1
  have h2 : ¬ m < j0 := by simpa using h1.symm
  exact ⟨j0, by omega, hw⟩
theorem Ch.all (h : Ch dn cs W u) (hall : ∀ i, ∀ (h : i < cs.length), dn cs[i] = true) : W cs.length u := by
  obtain ⟨j0, hj0, hd, hw⟩ := h.ex
  have h3 : j0 = cs.length := by
    rcases Nat.lt_or_ge j0 cs.length with h' | h'
    · have h4 := hd j0 h'
      rw [hall j0 h'] at h4
      simp at h4
    · omega
  rw [← h3]
  exact hw
end
end Go.Proofs.YtdemcoghgnnheaaGreatDoor

