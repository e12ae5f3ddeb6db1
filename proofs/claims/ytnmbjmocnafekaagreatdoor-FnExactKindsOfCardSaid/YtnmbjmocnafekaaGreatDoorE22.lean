/-
  A slice of slices, in new memory, that reads as lists of numbers: below, and with one more.
-/
import Derived.Test.YtnmbjmocnafekaaGreatDoorE10
import Derived.Test.YtnmbjmocnafekaaGreatDoorE8
namespace Go.Proofs.YtnmbjmocnafekaaGreatDoor
open Go.RowKit

theorem WaysAt.below {w w' : World} {base : Nat} {p : Value} {zss : List (List Int)} (h : WaysAt w base p zss) (hb : Below w.heap.size w w') : WaysAt w' base p zss := by
  obtain ⟨xs, S, ho, hr, hS⟩ := h
  refine ⟨xs, S, ownsRow_below ho hb (Nat.le_refl _), fun i hi => ?_, fun b hSb => ?_⟩
  · obtain ⟨x, hx, hin⟩ := hr i hi
    exact ⟨x, hx, hin.keep fun b hSb => hb.block b (hS b hSb).2.1⟩
  · obtain ⟨h1, h2, h3⟩ := hS b hSb
    exact ⟨h1, Nat.lt_of_lt_of_le h2 hb.size, h3⟩
theorem rows_push {w w1 w2 : World} {base : Nat} {p p' x : Value} {zss : List (List Int)} {z : List Int} {xs : List Value} {S : Nat → Prop} (o : Obj) (ho : w.ownsRow base 22 1 p zss.length xs) (hr : ∀ i, ∀ (h : i < zss.length), ∃ x, xs[i]? = some x ∧ IntsIn w S x zss[i]) (hS : ∀ b, S b → base ≤ b ∧ b < w.heap.size ∧ some b ≠ p.ownBlock)
    (hb1 : Below w.heap.size w w1) (hx : IntsAt w1 w.heap.size w1.heap.size x z) (hp : Pushed (w1.alloc o) w2 base 22 p p' zss.length xs x) (hbase : base ≤ w.heap.size) : WaysAt w2 base p' (zss ++ [z]) := by
  have hs1 := hb1.size
  have hs2 := hp.grown.size
  rw [World.size_alloc] at hs2
  have hal : ∀ b, b < w1.heap.size → (w1.alloc o).heap[b]? = w1.heap[b]? := fun b hb => ((Below.refl w1.heap.size w1).alloc (Nat.le_refl _) o).block b hb
  have hpl := owns_lt ho
  have hkeep : ∀ b, b < w1.heap.size → some b ≠ p.ownBlock → w2.heap[b]? = w1.heap[b]? := fun b hb hne => (hp.grown.block b (by rw [World.size_alloc]; omega) hne).trans (hal b hb)
  have hnew : ∀ b, w.heap.size ≤ b → some b ≠ p.ownBlock := fun b hb e => by have := (hpl b e.symm).2; omega
  have hlen : xs.length = zss.length := by have := ho.1; omega
  refine ⟨xs ++ [x], fun b => S b ∨ (w.heap.size ≤ b ∧ b < w1.heap.size), ownsRow_cast hp.own (by simp) rfl, fun i hi => ?_, fun b hb => ?_⟩
  · rw [List.length_append, List.length_singleton] at hi
    by_cases hin : i < zss.length
    · obtain ⟨u, hu, hI⟩ := hr i hin
      refine ⟨u, by rw [List.getElem?_append_left (by omega)]; exact hu, ?_⟩
      rw [List.getElem_append_left hin]
      exact (hI.keep fun b hSb => (hkeep b (Nat.lt_of_lt_of_le (hS b hSb).2.1 hs1) (hS b hSb).2.2).trans (hb1.block b (hS b hSb).2.1)).more fun b h => .inl h
    · obtain rfl : i = zss.length := by omega
      refine ⟨x, by rw [← hlen]; simp, ?_⟩
      rw [List.getElem_append_right (Nat.le_refl _)]
      simp only [Nat.sub_self, List.getElem_cons_zero]
      obtain ⟨A, cap, e, h1, h2, h3, h4⟩ := hx
      refine ⟨A, cap, e, h1, h2, h3, fun h0 => ?_⟩
      obtain ⟨b, off, hA, hb1', hb2', hc⟩ := h4 h0
      exact ⟨b, off, hA, .inr ⟨hb1', hb2'⟩, fun k hk => (World.cell?_of_block (w := w1) (hkeep b hb2' (hnew b hb1'))).trans (hc k hk)⟩
  · have hlt : base ≤ b ∧ b < w1.heap.size ∧ some b ≠ p.ownBlock := by
      rcases hb with hb | hb
      · obtain ⟨h1, h2, h3⟩ := hS b hb
        exact ⟨h1, by omega, h3⟩
      · exact ⟨by omega, hb.2, hnew b hb.1⟩
    refine ⟨hlt.1, by omega, fun e => ?_⟩
    rcases hp.at_ with h | ⟨g, h, hg, _⟩
    · exact hlt.2.2 (e.trans h)
    · rw [h] at e
      injection e with e
      rw [World.size_alloc] at hg
      omega
theorem waysAt_nil {w : World} {base g : Nat} (h : w.ownsRow base 22 1 (.slice (some ⟨g, 0, none⟩) 0 0) 0 []) : WaysAt w base (.slice (some ⟨g, 0, none⟩) 0 0) [] :=
  ⟨[], fun _ => False, h, fun i hi => absurd hi (by simp), fun _ h => h.elim⟩
end Go.Proofs.YtnmbjmocnafekaaGreatDoor

