/-
  Types of the call's own, as the laws' marking wants them.
-/
import Derived.Test.YtplpnammboofiaaIwith
import Derived.Test.YtplpnammboofiaaMarkt
namespace Go.Proofs.Ytplpnammboofiaa
open Go.RowKit

theorem slAt_own {w : World} {base n size : Nat} {e : TypeId} {v : Value} {xs : List Value} (d : Nat) (h : w.ownsRow base e size v n xs) (_hz : 0 < size) : SlAt w e (v.ownBlock.getD d) v n xs ∧ (0 < n → v.ownBlock = some (v.ownBlock.getD d) ∧ base ≤ v.ownBlock.getD d ∧ v.ownBlock.getD d < w.heap.size) := by
  have hlt := owns_lt h
  obtain ⟨h1, ⟨rfl, rfl⟩ | ⟨g, cap, cur, rfl, hb, hh, hc, hm, hsz, htk⟩⟩ := h
  · exact ⟨⟨none, 0, rfl, Nat.le_refl _, Nat.zero_le _, fun _ => List.eq_nil_of_length_eq_zero (by simpa using h1), fun h0 => absurd h0 (by omega)⟩, fun h0 => absurd h0 (by omega)⟩
  · have hr : Row w g e (xs ++ cur.toList.drop (n * size)) := by
      rw [← htk, List.take_append_drop]
      simpa [Row] using hh
    exact ⟨⟨_, _, rfl, hc, hm, fun e0 => List.eq_nil_of_length_eq_zero (by rw [h1, e0]; simp), fun _ => ⟨rfl, _, hr⟩⟩, fun _ => ⟨rfl, hlt g rfl⟩⟩

theorem TyOwned.own {w : World} {base : Nat} {v l : Value} {t : Ty} (h : TyOwned w base v l t) : ∃ (gs gc : Nat) (m : Nat → Nat) (mv : Nat → Value), OwnTy w 3 28 gs gc m mv v l t.sizes t.cos.length (fun i => t.cos.getD i default) ∧
    ∀ k, OwnTy.uses gs gc m t.sizes t.cos.length (fun i => t.cos.getD i default) k → base ≤ k ∧ k < w.heap.size := by
  obtain ⟨C, hC, hv, hvC, xs, m, mv, hl, hm⟩ := h
  obtain ⟨s1, s2⟩ := slAt_own 0 hv (by omega)
  obtain ⟨c1, c2⟩ := slAt_own C hl (by omega)
  have hgc : C ≤ l.ownBlock.getD C := by
    cases e : l.ownBlock with
    | none => exact Nat.le_refl _
    | some g => have := (owns_lt hl g e).1; simp only [Option.getD_some]; omega
  have hne : ∀ i, i < t.cos.length → 0 < (t.cos.getD i default).map.length → m i ≠ l.ownBlock.getD C := by
    intro i hi h0 e
    obtain ⟨a1, a2, a3, _⟩ := hm.away i hi h0
    cases e2 : l.ownBlock with
    | none => rw [e2] at e; simp only [Option.getD_none] at e; omega
    | some g => rw [e2] at e a3; simp only [Option.getD_some] at e; exact a3 (by rw [e])
  refine ⟨v.ownBlock.getD 0, l.ownBlock.getD C, m, mv, ⟨s1, ⟨xs, c1, hl.1, hm.cells, hm.own⟩, fun i hi h0 => ⟨hne i hi h0, (hm.away i hi h0).2.2.2⟩, fun h0 => ?_⟩, fun k hk => ?_⟩
  · have h1 := hvC _ (s2 h0).1
    exact ⟨by omega, fun i hi hl0 => by have := (hm.away i hi hl0).1; omega⟩
  · rcases hk with ⟨h0, rfl⟩ | ⟨h0, rfl⟩ | ⟨i, hi, h0, rfl⟩
    · exact ⟨(s2 h0).2.1, (s2 h0).2.2⟩
    · have := c2 h0
      exact ⟨by omega, this.2.2⟩
    · have := hm.away i hi h0
      exact ⟨by omega, this.2.1⟩

theorem TyOwned.tyAt {w : World} {base : Nat} {v l : Value} {t : Ty} (h : TyOwned w base v l t) (hs : ∀ z ∈ t.sizes, I64 z) (hw : ∀ i, i < t.cos.length → I64 (t.cos.getD i default).src ∧ I64 (t.cos.getD i default).dst ∧ ∀ z ∈ (t.cos.getD i default).map, I64 z) : TyAt w base w.heap.size v l t := by
  obtain ⟨gs, gc, m, mv, h1, h2⟩ := h.own
  have := h1.tyAt hs hw h2
  rw [range_getD] at this
  exact this
end Go.Proofs.Ytplpnammboofiaa
