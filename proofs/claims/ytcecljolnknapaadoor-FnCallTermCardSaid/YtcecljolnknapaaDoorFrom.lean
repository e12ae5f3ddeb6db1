/-
  The contracts of CoercionsFrom, the program's and the model's.
-/
import Derived.Test.YtcecljolnknapaaDoorSv
import Derived.Test.YtcecljolnknapaaDoorIt
import Derived.Test.YtcecljolnknapaaDoorTo
namespace Go.Proofs.YtcecljolnknapaaDoor
open Go.RowKit

/-- The indices, below j, of the coercions that begin with a type. -/
def cfr (cs : List Co) (k : Int) (j : Nat) : List Int := ((List.range j).filter fun i => decide ((cs.getD i default).src = k)).map fun i : Nat => (i : Int)
theorem cfr_zero (cs : List Co) (k : Int) : cfr cs k 0 = [] := rfl
theorem cfr_hit {cs : List Co} {k : Int} {j : Nat} (hj : j < cs.length) (h : cs[j].src = k) : cfr cs k (j + 1) = cfr cs k j ++ [(j : Int)] := by
  unfold cfr
  rw [List.range_succ, List.filter_append, List.map_append]
  have e : (cs[j]?.getD default).src = k := by rw [List.getElem?_eq_getElem hj]; exact h
  simp [e]
theorem cfr_miss {cs : List Co} {k : Int} {j : Nat} (hj : j < cs.length) (h : ¬ cs[j].src = k) : cfr cs k (j + 1) = cfr cs k j := by
  unfold cfr
  rw [List.range_succ, List.filter_append, List.map_append]
  have e : ¬ (cs[j]?.getD default).src = k := by rw [List.getElem?_eq_getElem hj]; exact h
  simp [e]
theorem cfr_le (cs : List Co) (k : Int) (j : Nat) : (cfr cs k j).length ≤ j := by
  unfold cfr
  rw [List.length_map]
  have := List.length_filter_le (fun i => decide ((cs.getD i default).src = k)) (List.range j)
  simpa using this
theorem cfr_wf (cs : List Co) (k : Int) (j : Nat) (hj : j ≤ 1048576) : ∀ z ∈ cfr cs k j, I64 z := by
  intro z hz
  unfold cfr at hz
  obtain ⟨i, hi, rfl⟩ := List.mem_map.1 hz
  have := List.mem_range.1 (List.mem_filter.1 hi).1
  unfold I64
  omega
def cFrom (t : Ty) (k : Int) : List Int := if tyOk t = true then cfr t.cos k t.cos.length else []

def accF (t : Ty) (q : Int) (j : Nat) : List Int := if tyOk t = true then cfr t.cos q j else []
theorem accF_le (t : Ty) (q : Int) (j : Nat) : (accF t q j).length ≤ j := by
  unfold accF
  split
  · exact cfr_le _ _ _
  · simp
theorem ownsRow_cast {w : World} {base : Nat} {t : TypeId} {v : Value} {n n' : Nat} {xs xs' : List Value} (h : w.ownsRow base t 1 v n xs) (hn : n = n') (hx : xs = xs') : w.ownsRow base t 1 v n' xs' := by subst hn; subst hx; exact h

theorem ownsRow_base {w : World} {base base' : Nat} {t : TypeId} {v : Value} {n : Nat} {xs : List Value} (h : w.ownsRow base t 1 v n xs) (hb : base' ≤ base) : w.ownsRow base' t 1 v n xs := by
  obtain ⟨h1, h2 | ⟨g, cap, cur, e, hg, r⟩⟩ := h
  · exact ⟨h1, .inl h2⟩
  · exact ⟨h1, .inr ⟨g, cap, cur, e, by omega, r⟩⟩
theorem ownsRow_below {w w' : World} {base B : Nat} {t : TypeId} {v : Value} {n : Nat} {xs : List Value} (h : w.ownsRow base t 1 v n xs) (hb : Below B w w') (hB : w.heap.size ≤ B) : w'.ownsRow base t 1 v n xs := by
  obtain ⟨h1, h2 | ⟨g, cap, cur, e, hg, hh, r⟩⟩ := h
  · exact ⟨h1, .inl h2⟩
  · have hlt : g < w.heap.size := by
      rcases Nat.lt_or_ge g w.heap.size with hlt | hge
      · exact hlt
      · rw [Array.getElem?_eq_none hge] at hh; cases hh
    exact ⟨h1, .inr ⟨g, cap, cur, e, hg, (hb.block g (by omega)).trans hh, r⟩⟩
end Go.Proofs.YtcecljolnknapaaDoor
