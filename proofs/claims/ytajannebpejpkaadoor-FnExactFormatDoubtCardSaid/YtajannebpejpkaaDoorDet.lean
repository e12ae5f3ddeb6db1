/-
  A region that draws its order, each of whose operations sets one slot to one value: what holds by what has been done.
-/
import Derived.Test.YtajannebpejpkaaDoorRinv
import Derived.Test.YtajannebpejpkaaDoorMem
namespace Go.Proofs.YtajannebpejpkaaDoor
open Go.RowKit

theorem det_yes {c : Bool} {A B : Prop} (h : c = true) (ha : A) : if c = true then A else B := by rw [if_pos h]; exact ha
/-- Vs: what the slots hold in the end; xs: what they hold now; f: which operations have been done. -/
structure Det (N : Nat) (w0 : World) (Vs : List Value) (f : Nat → Bool) (xs : List Value) (u : World) : Prop where
  bel : Below N w0 u
  len : xs.length = Vs.length
  at_ : ∀ k, f k = true → xs[k]? = Vs[k]?
section
variable {N : Nat} {w0 u : World} {Vs xs : List Value} {f : Nat → Bool}
theorem Det.start (_hN : N ≤ w0.heap.size) (hl : xs.length = Vs.length) : Det N w0 Vs (fun _ => false) xs w0.drew :=
  ⟨(Below.refl _ _).drew, hl, fun k h => by cases h⟩
theorem Det.step (h : Det N w0 Vs f xs u) (i : Nat) {v : Value} (hv : Vs[i]? = some v) {u' : World} (hb : Below N u u') : Det N w0 Vs (fun k => decide (k = i) || f k) (xs.set i v) u' := by
  refine ⟨h.bel.trans hb, by rw [List.length_set]; exact h.len, fun k hk => ?_⟩
  by_cases e : k = i
  · subst e
    have hl : k < xs.length := by
      rw [h.len]
      exact (List.getElem?_eq_some_iff.1 hv).1
    rw [List.getElem?_set_self hl, hv]
  · rw [List.getElem?_set_ne (fun e' => e e'.symm)]
    exact h.at_ k (by simpa [e] using hk)
theorem Det.same (h : Det N w0 Vs f xs u) (i : Nat) {v : Value} (hv : Vs[i]? = some v) : Det N w0 Vs (fun k => decide (k = i) || f k) (xs.set i v) u := h.step i hv (Below.refl _ _)
theorem Det.get (h : Det N w0 Vs f xs u) (k : Nat) (hk : f k = true) {x v : Value} (hx : xs[k]? = some x) (hv : Vs[k]? = some v) : x = v := by
  have := h.at_ k hk
  rw [hx, hv] at this
  exact Option.some.inj this
theorem Det.all (h : Det N w0 Vs f xs u) {n : Nat} (hn : Vs.length = n) (hall : ∀ k, k < n → f k = true) : xs = Vs := by
  apply List.ext_getElem? fun k => ?_
  by_cases hk : k < n
  · exact h.at_ k (hall k hk)
  · rw [List.getElem?_eq_none (by rw [h.len]; omega), List.getElem?_eq_none (by omega)]
end
end Go.Proofs.YtajannebpejpkaaDoor
