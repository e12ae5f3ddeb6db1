/-
  What holds in the law's regions that call a function of a system and a coercion, copied from the law's arguments: by what has been done.
  The contract of markCoercion.
-/
import Derived.Test.YtplncocfbajefaaD7
import Derived.Test.YtplncocfbajefaaD4
import Derived.Test.YtplncocfbajefaaD6
import Derived.Test.YtplncocfbajefaaD3
namespace Go.Proofs.Ytplncocfbajefaa
open Go.RowKit

/-- The call's result: D, kept where the blocks from lo on and below hi are kept. -/
structure WCFacts (D : World → Nat → Nat → Value → Value → Value → Prop) (N : Nat) (w0 : World) (tv cv : Value) (t : Sy) (co : Co) (ok : Bool) (f : Nat → Bool) (x6 x7 x27 x28 x29 x30 x31 x32 x33 x34 : Value) (u : World) : Prop where
  bel : Below N w0 u
  a0 : f 0 = true → x28 = tv
  a1 : f 1 = true → f 4 = false → ∃ s l g, x29 = .agg #[s, l, g] ∧ ∃ lo hi, N ≤ lo ∧ hi ≤ u.heap.size ∧ SyAt u lo hi s l g t
  a2 : f 2 = true → x30 = cv
  a3 : f 3 = true → f 4 = false → ∃ x y z, x31 = .agg #[x, y, z] ∧ ∃ lo hi, N ≤ lo ∧ hi ≤ u.heap.size ∧ CoAt u lo hi x y z co
  a4 : f 4 = true → ∃ v l g, x32 = .tuple #[.agg #[v, l, g], .bool ok] ∧ ∃ lo hi, N ≤ lo ∧ hi ≤ u.heap.size ∧ D u lo hi v l g ∧ ∀ q, x6 = .pointer (some ⟨q, 0, none⟩) → f 8 = true → q < lo ∨ hi ≤ q
  a5 : f 5 = true → x27 = x32
  a6 : f 6 = true → ∃ v l g, x33 = .agg #[v, l, g] ∧ x32 = .tuple #[.agg #[v, l, g], .bool ok]
  a7 : f 7 = true → x34 = .bool ok
  a8 : f 8 = true → f 9 = false → ∃ q, N ≤ q ∧ x6 = .pointer (some ⟨q, 0, none⟩) ∧ Row u q 38 [.slice none 0 0, .slice none 0 0, .slice none 0 0]
  a9 : f 9 = true → ∃ q v l g, N ≤ q ∧ x6 = .pointer (some ⟨q, 0, none⟩) ∧ x33 = .agg #[v, l, g] ∧ Row u q 38 [v, l, g]
  aa : f 10 = true → x7 = .bool ok

section
variable {D : World → Nat → Nat → Value → Value → Value → Prop} {N : Nat} {w0 u : World} {tv cv : Value} {t : Sy} {co : Co} {ok : Bool} {f : Nat → Bool} {x6 x7 x27 x28 x29 x30 x31 x32 x33 x34 : Value}

theorem WCFacts.grow {u' : World} (hD : ∀ (w w' : World) (lo hi : Nat) (v l g : Value), D w lo hi v l g → (∀ k, lo ≤ k → k < hi → w'.heap[k]? = w.heap[k]?) → D w' lo hi v l g)
    (h : WCFacts D N w0 tv cv t co ok f x6 x7 x27 x28 x29 x30 x31 x32 x33 x34 u) (hN : N ≤ u.heap.size) (hb : Below u.heap.size u u') : WCFacts D N w0 tv cv t co ok f x6 x7 x27 x28 x29 x30 x31 x32 x33 x34 u' where
  bel := h.bel.trans (hb.mono hN)
  a0 := h.a0
  a1 := fun h1 h2 => by
    obtain ⟨s, l, g, e, lo, hi, h3, h4, h5⟩ := h.a1 h1 h2
    exact ⟨s, l, g, e, lo, hi, h3, Nat.le_trans h4 hb.size, h5.below hb h4⟩
  a2 := h.a2
  a3 := fun h1 h2 => by
    obtain ⟨x, y, z, e, lo, hi, h3, h4, h5⟩ := h.a3 h1 h2
    exact ⟨x, y, z, e, lo, hi, h3, Nat.le_trans h4 hb.size, h5.keep fun k _ hk => hb.block k (by omega)⟩
  a4 := fun h1 => by
    obtain ⟨v, l, g, e, lo, hi, h3, h4, h5, h6⟩ := h.a4 h1
    exact ⟨v, l, g, e, lo, hi, h3, Nat.le_trans h4 hb.size, hD _ _ _ _ _ _ _ h5 fun k _ hk => hb.block k (by omega), h6⟩
  a5 := h.a5
  a6 := h.a6
  a7 := h.a7
  a8 := fun h1 h2 => by
    obtain ⟨q, h3, h4, h5⟩ := h.a8 h1 h2
    exact ⟨q, h3, h4, h5.below hb h5.lt⟩
  a9 := fun h1 => by
    obtain ⟨q, v, l, g, h3, h4, h5, h6⟩ := h.a9 h1
    exact ⟨q, v, l, g, h3, h4, h5, h6.below hb h6.lt⟩
  aa := h.aa
theorem WCFacts.s0 (h : WCFacts D N w0 tv cv t co ok f x6 x7 x27 x28 x29 x30 x31 x32 x33 x34 u) : WCFacts D N w0 tv cv t co ok (fun k => decide (k = 0) || f k) x6 x7 x27 tv x29 x30 x31 x32 x33 x34 u where
  bel := h.bel
  a0 := fun _ => rfl
  a1 := fun e e2 => h.a1 (by simpa using e) (by simpa using e2)
  a2 := fun e => h.a2 (by simpa using e)
  a3 := fun e e2 => h.a3 (by simpa using e) (by simpa using e2)
  a4 := fun e => by
    obtain ⟨v, l, g, e2, lo, hi, h3, h4, h5, h6⟩ := h.a4 (by simpa using e)
    exact ⟨v, l, g, e2, lo, hi, h3, h4, h5, fun q hq h8 => h6 q hq (by simpa using h8)⟩
  a5 := fun e => h.a5 (by simpa using e)
  a6 := fun e => h.a6 (by simpa using e)
  a7 := fun e => h.a7 (by simpa using e)
  a8 := fun e e2 => h.a8 (by simpa using e) (by simpa using e2)
  a9 := fun e => h.a9 (by simpa using e)
  aa := fun e => h.aa (by simpa using e)
theorem WCFacts.s1 (h : WCFacts D N w0 tv cv t co ok f x6 x7 x27 x28 x29 x30 x31 x32 x33 x34 u) {s l g : Value} {lo hi : Nat} (h1 : N ≤ lo) (h2 : hi ≤ u.heap.size) (hr : SyAt u lo hi s l g t) : WCFacts D N w0 tv cv t co ok (fun k => decide (k = 1) || f k) x6 x7 x27 x28 (.agg #[s, l, g]) x30 x31 x32 x33 x34 u where
  bel := h.bel
  a0 := fun e => h.a0 (by simpa using e)
  a1 := fun _ _ => ⟨s, l, g, rfl, lo, hi, h1, h2, hr⟩
  a2 := fun e => h.a2 (by simpa using e)
  a3 := fun e e2 => h.a3 (by simpa using e) (by simpa using e2)
  a4 := fun e => by
    obtain ⟨v, l, g, e2, lo, hi, h3, h4, h5, h6⟩ := h.a4 (by simpa using e)
    exact ⟨v, l, g, e2, lo, hi, h3, h4, h5, fun q hq h8 => h6 q hq (by simpa using h8)⟩
  a5 := fun e => h.a5 (by simpa using e)
  a6 := fun e => h.a6 (by simpa using e)
  a7 := fun e => h.a7 (by simpa using e)
  a8 := fun e e2 => h.a8 (by simpa using e) (by simpa using e2)
  a9 := fun e => h.a9 (by simpa using e)
  aa := fun e => h.aa (by simpa using e)
theorem WCFacts.s2 (h : WCFacts D N w0 tv cv t co ok f x6 x7 x27 x28 x29 x30 x31 x32 x33 x34 u) : WCFacts D N w0 tv cv t co ok (fun k => decide (k = 2) || f k) x6 x7 x27 x28 x29 cv x31 x32 x33 x34 u where
  bel := h.bel
  a0 := fun e => h.a0 (by simpa using e)
  a1 := fun e e2 => h.a1 (by simpa using e) (by simpa using e2)
  a2 := fun _ => rfl
  a3 := fun e e2 => h.a3 (by simpa using e) (by simpa using e2)
  a4 := fun e => by
    obtain ⟨v, l, g, e2, lo, hi, h3, h4, h5, h6⟩ := h.a4 (by simpa using e)
    exact ⟨v, l, g, e2, lo, hi, h3, h4, h5, fun q hq h8 => h6 q hq (by simpa using h8)⟩
  a5 := fun e => h.a5 (by simpa using e)
  a6 := fun e => h.a6 (by simpa using e)
  a7 := fun e => h.a7 (by simpa using e)
  a8 := fun e e2 => h.a8 (by simpa using e) (by simpa using e2)
  a9 := fun e => h.a9 (by simpa using e)
  aa := fun e => h.aa (by simpa using e)
theorem WCFacts.s3 (h : WCFacts D N w0 tv cv t co ok f x6 x7 x27 x28 x29 x30 x31 x32 x33 x34 u) {x y z : Value} {lo hi : Nat} (h1 : N ≤ lo) (h2 : hi ≤ u.heap.size) (hr : CoAt u lo hi x y z co) : WCFacts D N w0 tv cv t co ok (fun k => decide (k = 3) || f k) x6 x7 x27 x28 x29 x30 (.agg #[x, y, z]) x32 x33 x34 u where
  bel := h.bel
  a0 := fun e => h.a0 (by simpa using e)
  a1 := fun e e2 => h.a1 (by simpa using e) (by simpa using e2)
  a2 := fun e => h.a2 (by simpa using e)
  a3 := fun _ _ => ⟨x, y, z, rfl, lo, hi, h1, h2, hr⟩
  a4 := fun e => by
    obtain ⟨v, l, g, e2, lo, hi, h3, h4, h5, h6⟩ := h.a4 (by simpa using e)
    exact ⟨v, l, g, e2, lo, hi, h3, h4, h5, fun q hq h8 => h6 q hq (by simpa using h8)⟩
  a5 := fun e => h.a5 (by simpa using e)
  a6 := fun e => h.a6 (by simpa using e)
  a7 := fun e => h.a7 (by simpa using e)
  a8 := fun e e2 => h.a8 (by simpa using e) (by simpa using e2)
  a9 := fun e => h.a9 (by simpa using e)
  aa := fun e => h.aa (by simpa using e)
theorem WCFacts.s4 (h : WCFacts D N w0 tv cv t co ok f x6 x7 x27 x28 x29 x30 x31 x32 x33 x34 u) {v l g : Value} {lo hi : Nat} (h1 : N ≤ lo) (h2 : hi ≤ u.heap.size) (hr : D u lo hi v l g) (hq : ∀ q, x6 = .pointer (some ⟨q, 0, none⟩) → f 8 = true → q < lo ∨ hi ≤ q) (hf5 : f 5 = false) (hf6 : f 6 = false) : WCFacts D N w0 tv cv t co ok (fun k => decide (k = 4) || f k) x6 x7 x27 x28 x29 x30 x31 (.tuple #[.agg #[v, l, g], .bool ok]) x33 x34 u where
  bel := h.bel
  a0 := fun e => h.a0 (by simpa using e)
  a1 := fun _ e2 => by simp at e2
  a2 := fun e => h.a2 (by simpa using e)
  a3 := fun _ e2 => by simp at e2
  a4 := fun _ => ⟨v, l, g, rfl, lo, hi, h1, h2, hr, fun q e e8 => hq q e (by simpa using e8)⟩
  a5 := fun e => by simp [hf5] at e
  a6 := fun e => by simp [hf6] at e
  a7 := fun e => h.a7 (by simpa using e)
  a8 := fun e e2 => h.a8 (by simpa using e) (by simpa using e2)
  a9 := fun e => h.a9 (by simpa using e)
  aa := fun e => h.aa (by simpa using e)
theorem WCFacts.s5 (h : WCFacts D N w0 tv cv t co ok f x6 x7 x27 x28 x29 x30 x31 x32 x33 x34 u) : WCFacts D N w0 tv cv t co ok (fun k => decide (k = 5) || f k) x6 x7 x32 x28 x29 x30 x31 x32 x33 x34 u where
  bel := h.bel
  a0 := fun e => h.a0 (by simpa using e)
  a1 := fun e e2 => h.a1 (by simpa using e) (by simpa using e2)
  a2 := fun e => h.a2 (by simpa using e)
  a3 := fun e e2 => h.a3 (by simpa using e) (by simpa using e2)
  a4 := fun e => by
    obtain ⟨v, l, g, e2, lo, hi, h3, h4, h5, h6⟩ := h.a4 (by simpa using e)
    exact ⟨v, l, g, e2, lo, hi, h3, h4, h5, fun q hq h8 => h6 q hq (by simpa using h8)⟩
  a5 := fun _ => rfl
  a6 := fun e => h.a6 (by simpa using e)
  a7 := fun e => h.a7 (by simpa using e)
  a8 := fun e e2 => h.a8 (by simpa using e) (by simpa using e2)
  a9 := fun e => h.a9 (by simpa using e)
  aa := fun e => h.aa (by simpa using e)
theorem WCFacts.s6 (h : WCFacts D N w0 tv cv t co ok f x6 x7 x27 x28 x29 x30 x31 x32 x33 x34 u) {v l g : Value} (hx : x32 = .tuple #[.agg #[v, l, g], .bool ok]) (hf9 : f 9 = false) : WCFacts D N w0 tv cv t co ok (fun k => decide (k = 6) || f k) x6 x7 x27 x28 x29 x30 x31 x32 (.agg #[v, l, g]) x34 u where
  bel := h.bel
  a0 := fun e => h.a0 (by simpa using e)
  a1 := fun e e2 => h.a1 (by simpa using e) (by simpa using e2)
  a2 := fun e => h.a2 (by simpa using e)
  a3 := fun e e2 => h.a3 (by simpa using e) (by simpa using e2)
  a4 := fun e => by
    obtain ⟨v, l, g, e2, lo, hi, h3, h4, h5, h6⟩ := h.a4 (by simpa using e)
    exact ⟨v, l, g, e2, lo, hi, h3, h4, h5, fun q hq h8 => h6 q hq (by simpa using h8)⟩
  a5 := fun e => h.a5 (by simpa using e)
  a6 := fun _ => ⟨v, l, g, rfl, hx⟩
  a7 := fun e => h.a7 (by simpa using e)
  a8 := fun e e2 => h.a8 (by simpa using e) (by simpa using e2)
  a9 := fun e => by simp [hf9] at e
  aa := fun e => h.aa (by simpa using e)
theorem WCFacts.s7 (h : WCFacts D N w0 tv cv t co ok f x6 x7 x27 x28 x29 x30 x31 x32 x33 x34 u) : WCFacts D N w0 tv cv t co ok (fun k => decide (k = 7) || f k) x6 x7 x27 x28 x29 x30 x31 x32 x33 (.bool ok) u where
  bel := h.bel
  a0 := fun e => h.a0 (by simpa using e)
  a1 := fun e e2 => h.a1 (by simpa using e) (by simpa using e2)
  a2 := fun e => h.a2 (by simpa using e)
  a3 := fun e e2 => h.a3 (by simpa using e) (by simpa using e2)
  a4 := fun e => by
    obtain ⟨v, l, g, e2, lo, hi, h3, h4, h5, h6⟩ := h.a4 (by simpa using e)
    exact ⟨v, l, g, e2, lo, hi, h3, h4, h5, fun q hq h8 => h6 q hq (by simpa using h8)⟩
  a5 := fun e => h.a5 (by simpa using e)
  a6 := fun e => h.a6 (by simpa using e)
  a7 := fun _ => rfl
  a8 := fun e e2 => h.a8 (by simpa using e) (by simpa using e2)
  a9 := fun e => h.a9 (by simpa using e)
  aa := fun e => h.aa (by simpa using e)
theorem WCFacts.s8 (h : WCFacts D N w0 tv cv t co ok f x6 x7 x27 x28 x29 x30 x31 x32 x33 x34 u) {b : Nat} (hb : N ≤ b) (hr : Row u b 38 [.slice none 0 0, .slice none 0 0, .slice none 0 0]) (hf9 : f 9 = false) (hh : f 4 = true → ∃ v l g, x32 = .tuple #[.agg #[v, l, g], .bool ok] ∧ ∃ lo hi, N ≤ lo ∧ hi ≤ b ∧ D u lo hi v l g) : WCFacts D N w0 tv cv t co ok (fun k => decide (k = 8) || f k) (.pointer (some ⟨b, 0, none⟩)) x7 x27 x28 x29 x30 x31 x32 x33 x34 u where
  bel := h.bel
  a0 := fun e => h.a0 (by simpa using e)
  a1 := fun e e2 => h.a1 (by simpa using e) (by simpa using e2)
  a2 := fun e => h.a2 (by simpa using e)
  a3 := fun e e2 => h.a3 (by simpa using e) (by simpa using e2)
  a4 := fun e => by
    obtain ⟨v, l, g, e2, lo, hi, h3, h4, h5⟩ := hh (by simpa using e)
    refine ⟨v, l, g, e2, lo, hi, h3, by have := hr.lt; omega, h5, fun q hq _ => ?_⟩
    simp only [Value.pointer.injEq, Option.some.injEq, Addr.mk.injEq] at hq
    omega
  a5 := fun e => h.a5 (by simpa using e)
  a6 := fun e => h.a6 (by simpa using e)
  a7 := fun e => h.a7 (by simpa using e)
  a8 := fun _ _ => ⟨b, hb, rfl, hr⟩
  a9 := fun e => by simp [hf9] at e
  aa := fun e => h.aa (by simpa using e)
theorem WCFacts.s10 (h : WCFacts D N w0 tv cv t co ok f x6 x7 x27 x28 x29 x30 x31 x32 x33 x34 u) : WCFacts D N w0 tv cv t co ok (fun k => decide (k = 10) || f k) x6 (.bool ok) x27 x28 x29 x30 x31 x32 x33 x34 u where
  bel := h.bel
  a0 := fun e => h.a0 (by simpa using e)
  a1 := fun e e2 => h.a1 (by simpa using e) (by simpa using e2)
  a2 := fun e => h.a2 (by simpa using e)
  a3 := fun e e2 => h.a3 (by simpa using e) (by simpa using e2)
  a4 := fun e => by
    obtain ⟨v, l, g, e2, lo, hi, h3, h4, h5, h6⟩ := h.a4 (by simpa using e)
    exact ⟨v, l, g, e2, lo, hi, h3, h4, h5, fun q hq h8 => h6 q hq (by simpa using h8)⟩
  a5 := fun e => h.a5 (by simpa using e)
  a6 := fun e => h.a6 (by simpa using e)
  a7 := fun e => h.a7 (by simpa using e)
  a8 := fun e e2 => h.a8 (by simpa using e) (by simpa using e2)
  a9 := fun e => h.a9 (by simpa using e)
  aa := fun _ => rfl
theorem WCFacts.s9 {q : Nat} {v l g : Value} (hD : ∀ (w w' : World) (lo hi : Nat) (v l g : Value), D w lo hi v l g → (∀ k, lo ≤ k → k < hi → w'.heap[k]? = w.heap[k]?) → D w' lo hi v l g)
    (h : WCFacts D N w0 tv cv t co ok f (.pointer (some ⟨q, 0, none⟩)) x7 x27 x28 x29 x30 x31 x32 (.agg #[v, l, g]) x34 u) (hf4 : f 4 = true) (hf8 : f 8 = true) (hN : N ≤ q) (hr : Row u q 38 [.slice none 0 0, .slice none 0 0, .slice none 0 0]) :
    WCFacts D N w0 tv cv t co ok (fun k => decide (k = 9) || f k) (.pointer (some ⟨q, 0, none⟩)) x7 x27 x28 x29 x30 x31 x32 (.agg #[v, l, g]) x34 (((u.setCell ⟨q, 0, none⟩ v).setCell ⟨q, 1, none⟩ l).setCell ⟨q, 2, none⟩ g) where
  bel := ((h.bel.setCell (by dsimp only; omega) _).setCell (by dsimp only; omega) _).setCell (by dsimp only; omega) _
  a0 := fun e => h.a0 (by simpa using e)
  a1 := fun _ e2 => by simp [hf4] at e2
  a2 := fun e => h.a2 (by simpa using e)
  a3 := fun _ e2 => by simp [hf4] at e2
  a4 := fun e => by
    obtain ⟨v1, l1, g1, e2, lo, hi, h3, h4, h5, h6⟩ := h.a4 (by simpa using e)
    have hq := h6 q rfl hf8
    exact ⟨v1, l1, g1, e2, lo, hi, h3, by simpa [World.setCell] using h4, hD _ _ _ _ _ _ _ h5 fun k hk1 hk2 => (Below.heap_setCell _ _ _ _ (by dsimp only; omega)).trans ((Below.heap_setCell _ _ _ _ (by dsimp only; omega)).trans (Below.heap_setCell _ _ _ _ (by dsimp only; omega))), fun q' e8 _ => h6 q' e8 hf8⟩
  a5 := fun e => h.a5 (by simpa using e)
  a6 := fun e => h.a6 (by simpa using e)
  a7 := fun e => h.a7 (by simpa using e)
  a8 := fun _ e2 => by simp at e2
  a9 := fun _ => ⟨q, v, l, g, hN, rfl, rfl, ((hr.set_ 0 v).set_ 1 l).set_ 2 g⟩
  aa := fun e => h.aa (by simpa using e)
end
end Go.Proofs.Ytplncocfbajefaa

namespace Go.Proofs.Ytplncocfbajefaa
open Go.RowKit

set_option maxHeartbeats 400000 in
theorem markCoercion_any (g : Nat) (x y : Int) (v : Value) (zs : List Int) (k0 : Int) (w : World) (hv : OwnI w 3 g v zs) (hg : 0 < zs.length → g < w.heap.size) (h0 : 0 ≤ k0) (h1 : k0 + zs.length ≤ 1000000000) :
    Calls Try.prog 14 #[.agg #[.int .i64 x, .int .i64 y, v], .int .i64 k0] w fun e w' => e = .returned (.int .i64 (k0 + zs.length)) ∧ Kept (fun k => 0 < zs.length → k ≠ g) w w' ∧ OwnI w' 3 g v (markL k0 zs.length) := by
  have hv' := hv
  obtain ⟨A, cap, rfl, hc, hm, hnil, hrow⟩ := hv'
  have H := Lib.hid (hv.keep (w' := w.alloc (.cells #[.int .i64 x, .int .i64 y, .slice A zs.length cap] 42)) fun h => Below.heap_alloc w _ g (hg (by simpa using h)))
  clear hv hrow
  go_enter Try.func14, Try.ntmps14
  go_wp2_with fail
  refine (markIntS_any g _ zs k0 _ H.out h0 h1).mono ?_
  rintro e w1 ⟨rfl, hk, ho, _⟩
  have K0 : Kept (fun k => 0 < zs.length → k ≠ g) w (w.alloc (.cells #[.int .i64 x, .int .i64 y, .slice A zs.length cap] 42)) := (Kept.refl _ _).alloc _
  have hs0 : w.heap.size ≤ (w.alloc (.cells #[.int .i64 x, .int .i64 y, .slice A zs.length cap] 42)).heap.size := by simp
  have K1 := Lib.hid (show Kept (fun k => 0 < zs.length → k ≠ g) w w1 from ⟨hk.os.trans K0.os, hk.tape.trans K0.tape, hk.output.trans K0.output, Nat.le_trans K0.size hk.size, fun k h hS => (hk.block k (by omega) hS).trans (K0.block k h hS)⟩)
  have Ho := Lib.hid ho
  clear hk ho K0
  go_wp2
  go_ret
  exact ⟨rfl, K1.out, Ho.out⟩
end Go.Proofs.Ytplncocfbajefaa

