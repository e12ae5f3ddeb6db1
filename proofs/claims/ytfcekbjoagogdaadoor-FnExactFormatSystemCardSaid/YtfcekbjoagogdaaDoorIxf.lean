/-
  What holds in a region that appends an index to a map's slice: by what has been done.
-/
import Derived.Test.YtfcekbjoagogdaaDoorGrp
import Derived.Test.YtfcekbjoagogdaaDoorRinv
import Derived.Deep.AppendLies
namespace Go.Proofs.YtfcekbjoagogdaaDoor
open Go.RowKit Go.Maps
open Go.ChangeShapes (lits)

/-- W: the world where the region begins; B: the map's block; p5: the function's box; v, zs: what stands at the name; f: which operations have been done; the letters: what their slots hold. -/
structure IxF (W : World) (B p5 k : Nat) (nm : ByteArray) (v : Value) (zs : List Int) (fin : World → Prop) (f : Nat → Bool) (x14 x15 x16 x17 x18 x19 x20 x21 x22 x23 : Value) (u : World) : Prop where
  c10 : f 10 = true → ∀ j, j < 10 → f j = true
  c9 : f 9 = true → f 6 = true ∧ f 8 = true
  size : W.heap.size ≤ u.heap.size
  pre : f 9 = false → W.grownBy u none
  post : f 9 = true → f 10 = false → W.grownBy u v.ownBlock ∧ u.ownsInts (B + 1) 3 .i64 x23 (zs ++ [(k : Int)]) ∧ (x23.ownBlock = v.ownBlock ∨ ∃ g, x23.ownBlock = some g ∧ W.heap.size ≤ g)
  fin : f 10 = true → fin u
  a0 : f 0 = true → x14 = .map (some B)
  a1 : f 1 = true → x15 = .pointer (some ⟨p5, 0, none⟩)
  a2 : f 2 = true → x16 = .string nm
  a3 : f 3 = true → x17 = .map (some B)
  a4 : f 4 = true → x18 = .pointer (some ⟨p5, 0, none⟩)
  a5 : f 5 = true → x19 = .string nm
  a6 : f 6 = true → x20 = v
  a7 : f 7 = true → x21 = .int .i64 (k : Int)
  a8 : f 8 = true → f 9 = false → ∃ p, W.heap.size ≤ p ∧ x22 = .slice (some ⟨p, 0, none⟩) 1 1 ∧ Row u p 3 [.int .i64 (k : Int)]

section
variable {W u : World} {B p5 k : Nat} {nm : ByteArray} {v : Value} {zs : List Int} {fin : World → Prop} {f : Nat → Bool} {x14 x15 x16 x17 x18 x19 x20 x21 x22 x23 : Value}

/-- Blocks that stood when the region began, other than v's row, stand as they did until the map is written. -/
theorem IxF.block (h : IxF W B p5 k nm v zs fin f x14 x15 x16 x17 x18 x19 x20 x21 x22 x23 u) (h10 : f 10 = false) {j : Nat} (hj : j < W.heap.size) (hv : v.ownBlock ≠ some j) : u.heap[j]? = W.heap[j]? := by
  cases h9 : f 9 with
  | false => exact (h.pre h9).block j hj (by simp)
  | true => exact (h.post h9 h10).1.block j hj (fun e => hv e.symm)
theorem IxF.not10 (h : IxF W B p5 k nm v zs fin f x14 x15 x16 x17 x18 x19 x20 x21 x22 x23 u) {i : Nat} (hi : f i = false) (hlt : i < 11) : f 10 = false := by
  cases h10 : f 10 with
  | false => rfl
  | true =>
    rcases Nat.lt_or_ge i 10 with h1 | h1
    · rw [h.c10 h10 i h1] at hi; cases hi
    · obtain rfl : i = 10 := by omega
      rw [hi] at h10; cases h10

theorem IxF.s0 (h : IxF W B p5 k nm v zs fin f x14 x15 x16 x17 x18 x19 x20 x21 x22 x23 u) (hfi : f 0 = false) : IxF W B p5 k nm v zs fin (fun k => decide (k = 0) || f k) (.map (some B)) x15 x16 x17 x18 x19 x20 x21 x22 x23 u where
  c10 := fun e => absurd (show f 10 = true by simpa using e) (by rw [h.not10 hfi (by omega)]; decide)
  c9 := fun e => by have := h.c9 (by simpa using e); simp [this]
  size := h.size
  pre := fun e => h.pre (by simpa using e)
  post := fun e e2 => h.post (by simpa using e) (by simpa using e2)
  fin := fun e => h.fin (by simpa using e)
  a0 := fun _ => rfl
  a1 := fun e => h.a1 (by simpa using e)
  a2 := fun e => h.a2 (by simpa using e)
  a3 := fun e => h.a3 (by simpa using e)
  a4 := fun e => h.a4 (by simpa using e)
  a5 := fun e => h.a5 (by simpa using e)
  a6 := fun e => h.a6 (by simpa using e)
  a7 := fun e => h.a7 (by simpa using e)
  a8 := fun e e2 => h.a8 (by simpa using e) (by simpa using e2)
theorem IxF.s1 (h : IxF W B p5 k nm v zs fin f x14 x15 x16 x17 x18 x19 x20 x21 x22 x23 u) (hfi : f 1 = false) : IxF W B p5 k nm v zs fin (fun k => decide (k = 1) || f k) x14 (.pointer (some ⟨p5, 0, none⟩)) x16 x17 x18 x19 x20 x21 x22 x23 u where
  c10 := fun e => absurd (show f 10 = true by simpa using e) (by rw [h.not10 hfi (by omega)]; decide)
  c9 := fun e => by have := h.c9 (by simpa using e); simp [this]
  size := h.size
  pre := fun e => h.pre (by simpa using e)
  post := fun e e2 => h.post (by simpa using e) (by simpa using e2)
  fin := fun e => h.fin (by simpa using e)
  a0 := fun e => h.a0 (by simpa using e)
  a1 := fun _ => rfl
  a2 := fun e => h.a2 (by simpa using e)
  a3 := fun e => h.a3 (by simpa using e)
  a4 := fun e => h.a4 (by simpa using e)
  a5 := fun e => h.a5 (by simpa using e)
  a6 := fun e => h.a6 (by simpa using e)
  a7 := fun e => h.a7 (by simpa using e)
  a8 := fun e e2 => h.a8 (by simpa using e) (by simpa using e2)
theorem IxF.s2 (h : IxF W B p5 k nm v zs fin f x14 x15 x16 x17 x18 x19 x20 x21 x22 x23 u) (hfi : f 2 = false) : IxF W B p5 k nm v zs fin (fun k => decide (k = 2) || f k) x14 x15 (.string nm) x17 x18 x19 x20 x21 x22 x23 u where
  c10 := fun e => absurd (show f 10 = true by simpa using e) (by rw [h.not10 hfi (by omega)]; decide)
  c9 := fun e => by have := h.c9 (by simpa using e); simp [this]
  size := h.size
  pre := fun e => h.pre (by simpa using e)
  post := fun e e2 => h.post (by simpa using e) (by simpa using e2)
  fin := fun e => h.fin (by simpa using e)
  a0 := fun e => h.a0 (by simpa using e)
  a1 := fun e => h.a1 (by simpa using e)
  a2 := fun _ => rfl
  a3 := fun e => h.a3 (by simpa using e)
  a4 := fun e => h.a4 (by simpa using e)
  a5 := fun e => h.a5 (by simpa using e)
  a6 := fun e => h.a6 (by simpa using e)
  a7 := fun e => h.a7 (by simpa using e)
  a8 := fun e e2 => h.a8 (by simpa using e) (by simpa using e2)
theorem IxF.s3 (h : IxF W B p5 k nm v zs fin f x14 x15 x16 x17 x18 x19 x20 x21 x22 x23 u) (hfi : f 3 = false) : IxF W B p5 k nm v zs fin (fun k => decide (k = 3) || f k) x14 x15 x16 (.map (some B)) x18 x19 x20 x21 x22 x23 u where
  c10 := fun e => absurd (show f 10 = true by simpa using e) (by rw [h.not10 hfi (by omega)]; decide)
  c9 := fun e => by have := h.c9 (by simpa using e); simp [this]
  size := h.size
  pre := fun e => h.pre (by simpa using e)
  post := fun e e2 => h.post (by simpa using e) (by simpa using e2)
  fin := fun e => h.fin (by simpa using e)
  a0 := fun e => h.a0 (by simpa using e)
  a1 := fun e => h.a1 (by simpa using e)
  a2 := fun e => h.a2 (by simpa using e)
  a3 := fun _ => rfl
  a4 := fun e => h.a4 (by simpa using e)
  a5 := fun e => h.a5 (by simpa using e)
  a6 := fun e => h.a6 (by simpa using e)
  a7 := fun e => h.a7 (by simpa using e)
  a8 := fun e e2 => h.a8 (by simpa using e) (by simpa using e2)
theorem IxF.s4 (h : IxF W B p5 k nm v zs fin f x14 x15 x16 x17 x18 x19 x20 x21 x22 x23 u) (hfi : f 4 = false) : IxF W B p5 k nm v zs fin (fun k => decide (k = 4) || f k) x14 x15 x16 x17 (.pointer (some ⟨p5, 0, none⟩)) x19 x20 x21 x22 x23 u where
  c10 := fun e => absurd (show f 10 = true by simpa using e) (by rw [h.not10 hfi (by omega)]; decide)
  c9 := fun e => by have := h.c9 (by simpa using e); simp [this]
  size := h.size
  pre := fun e => h.pre (by simpa using e)
  post := fun e e2 => h.post (by simpa using e) (by simpa using e2)
  fin := fun e => h.fin (by simpa using e)
  a0 := fun e => h.a0 (by simpa using e)
  a1 := fun e => h.a1 (by simpa using e)
  a2 := fun e => h.a2 (by simpa using e)
  a3 := fun e => h.a3 (by simpa using e)
  a4 := fun _ => rfl
  a5 := fun e => h.a5 (by simpa using e)
  a6 := fun e => h.a6 (by simpa using e)
  a7 := fun e => h.a7 (by simpa using e)
  a8 := fun e e2 => h.a8 (by simpa using e) (by simpa using e2)
theorem IxF.s5 (h : IxF W B p5 k nm v zs fin f x14 x15 x16 x17 x18 x19 x20 x21 x22 x23 u) (hfi : f 5 = false) : IxF W B p5 k nm v zs fin (fun k => decide (k = 5) || f k) x14 x15 x16 x17 x18 (.string nm) x20 x21 x22 x23 u where
  c10 := fun e => absurd (show f 10 = true by simpa using e) (by rw [h.not10 hfi (by omega)]; decide)
  c9 := fun e => by have := h.c9 (by simpa using e); simp [this]
  size := h.size
  pre := fun e => h.pre (by simpa using e)
  post := fun e e2 => h.post (by simpa using e) (by simpa using e2)
  fin := fun e => h.fin (by simpa using e)
  a0 := fun e => h.a0 (by simpa using e)
  a1 := fun e => h.a1 (by simpa using e)
  a2 := fun e => h.a2 (by simpa using e)
  a3 := fun e => h.a3 (by simpa using e)
  a4 := fun e => h.a4 (by simpa using e)
  a5 := fun _ => rfl
  a6 := fun e => h.a6 (by simpa using e)
  a7 := fun e => h.a7 (by simpa using e)
  a8 := fun e e2 => h.a8 (by simpa using e) (by simpa using e2)
theorem IxF.s6 (h : IxF W B p5 k nm v zs fin f x14 x15 x16 x17 x18 x19 x20 x21 x22 x23 u) (hfi : f 6 = false) : IxF W B p5 k nm v zs fin (fun k => decide (k = 6) || f k) x14 x15 x16 x17 x18 x19 v x21 x22 x23 u where
  c10 := fun e => absurd (show f 10 = true by simpa using e) (by rw [h.not10 hfi (by omega)]; decide)
  c9 := fun e => by have := h.c9 (by simpa using e); simp [this]
  size := h.size
  pre := fun e => h.pre (by simpa using e)
  post := fun e e2 => h.post (by simpa using e) (by simpa using e2)
  fin := fun e => h.fin (by simpa using e)
  a0 := fun e => h.a0 (by simpa using e)
  a1 := fun e => h.a1 (by simpa using e)
  a2 := fun e => h.a2 (by simpa using e)
  a3 := fun e => h.a3 (by simpa using e)
  a4 := fun e => h.a4 (by simpa using e)
  a5 := fun e => h.a5 (by simpa using e)
  a6 := fun _ => rfl
  a7 := fun e => h.a7 (by simpa using e)
  a8 := fun e e2 => h.a8 (by simpa using e) (by simpa using e2)
theorem IxF.s7 (h : IxF W B p5 k nm v zs fin f x14 x15 x16 x17 x18 x19 x20 x21 x22 x23 u) (hfi : f 7 = false) : IxF W B p5 k nm v zs fin (fun k => decide (k = 7) || f k) x14 x15 x16 x17 x18 x19 x20 (.int .i64 (k : Int)) x22 x23 u where
  c10 := fun e => absurd (show f 10 = true by simpa using e) (by rw [h.not10 hfi (by omega)]; decide)
  c9 := fun e => by have := h.c9 (by simpa using e); simp [this]
  size := h.size
  pre := fun e => h.pre (by simpa using e)
  post := fun e e2 => h.post (by simpa using e) (by simpa using e2)
  fin := fun e => h.fin (by simpa using e)
  a0 := fun e => h.a0 (by simpa using e)
  a1 := fun e => h.a1 (by simpa using e)
  a2 := fun e => h.a2 (by simpa using e)
  a3 := fun e => h.a3 (by simpa using e)
  a4 := fun e => h.a4 (by simpa using e)
  a5 := fun e => h.a5 (by simpa using e)
  a6 := fun e => h.a6 (by simpa using e)
  a7 := fun _ => rfl
  a8 := fun e e2 => h.a8 (by simpa using e) (by simpa using e2)
theorem IxF.s8 (h : IxF W B p5 k nm v zs fin f x14 x15 x16 x17 x18 x19 x20 x21 x22 x23 u) (hfi : f 8 = false) : IxF W B p5 k nm v zs fin (fun k => decide (k = 8) || f k) x14 x15 x16 x17 x18 x19 x20 x21 (.slice (some ⟨u.heap.size, 0, none⟩) 1 1) x23 (u.alloc (.cells #[.int .i64 (k : Int)] 3)) where
  c10 := fun e => absurd (show f 10 = true by simpa using e) (by rw [h.not10 hfi (by omega)]; decide)
  c9 := fun e => by have := (h.c9 (by simpa using e)).2; rw [hfi] at this; cases this
  size := by have := h.size; simp; omega
  pre := fun e => (h.pre (by simpa using e)).trans (World.grownBy_alloc _ _ _)
  post := fun e _ => by have := (h.c9 (by simpa using e)).2; rw [hfi] at this; cases this
  fin := fun e => absurd (show f 10 = true by simpa using e) (by rw [h.not10 hfi (by omega)]; decide)
  a0 := fun e => h.a0 (by simpa using e)
  a1 := fun e => h.a1 (by simpa using e)
  a2 := fun e => h.a2 (by simpa using e)
  a3 := fun e => h.a3 (by simpa using e)
  a4 := fun e => h.a4 (by simpa using e)
  a5 := fun e => h.a5 (by simpa using e)
  a6 := fun e => h.a6 (by simpa using e)
  a7 := fun e => h.a7 (by simpa using e)
  a8 := fun _ _ => ⟨u.heap.size, h.size, rfl, Row.new u _ _⟩
theorem IxF.s9 (h : IxF W B p5 k nm v zs fin f x14 x15 x16 x17 x18 x19 x20 x21 x22 x23 u) (hfi : f 9 = false) (h6 : f 6 = true) (h8 : f 8 = true) {v' : Value} {u' : World} (hg : u.grownBy u' v.ownBlock) (hown : u'.ownsInts (B + 1) 3 .i64 v' (zs ++ [(k : Int)])) (hloc : v'.ownBlock = v.ownBlock ∨ v'.ownBlock = some u.heap.size) :
    IxF W B p5 k nm v zs fin (fun k => decide (k = 9) || f k) x14 x15 x16 x17 x18 x19 x20 x21 x22 v' u' where
  c10 := fun e => absurd (show f 10 = true by simpa using e) (by rw [h.not10 hfi (by omega)]; decide)
  c9 := fun _ => by simp [h6, h8]
  size := Nat.le_trans h.size hg.size
  pre := fun e => by simp at e
  post := fun _ _ => by
    have hp := h.pre hfi
    refine ⟨⟨hg.os.trans hp.os, hg.tape.trans hp.tape, hg.output.trans hp.output, Nat.le_trans hp.size hg.size, fun i hi hne => (hg.block i (by have := h.size; omega) hne).trans (hp.block i hi (by simp))⟩, hown, hloc.imp id fun e => ⟨_, e, h.size⟩⟩
  fin := fun e => absurd (show f 10 = true by simpa using e) (by rw [h.not10 hfi (by omega)]; decide)
  a0 := fun e => h.a0 (by simpa using e)
  a1 := fun e => h.a1 (by simpa using e)
  a2 := fun e => h.a2 (by simpa using e)
  a3 := fun e => h.a3 (by simpa using e)
  a4 := fun e => h.a4 (by simpa using e)
  a5 := fun e => h.a5 (by simpa using e)
  a6 := fun e => h.a6 (by simpa using e)
  a7 := fun e => h.a7 (by simpa using e)
  a8 := fun _ e => by simp at e
theorem IxF.s10 (h : IxF W B p5 k nm v zs fin f x14 x15 x16 x17 x18 x19 x20 x21 x22 x23 u) (hall : ∀ j, j < 10 → f j = true) {u' : World} (hs : u.heap.size ≤ u'.heap.size) (hfin : fin u') :
    IxF W B p5 k nm v zs fin (fun k => decide (k = 10) || f k) x14 x15 x16 x17 x18 x19 x20 x21 x22 x23 u' where
  c10 := fun _ j hj => by simp [hall j hj]
  c9 := fun _ => by simp [hall 6 (by omega), hall 8 (by omega)]
  size := Nat.le_trans h.size hs
  pre := fun e => by simp [hall 9 (by omega)] at e
  post := fun _ e => by simp at e
  fin := fun _ => hfin
  a0 := fun e => h.a0 (by simpa using e)
  a1 := fun e => h.a1 (by simpa using e)
  a2 := fun e => h.a2 (by simpa using e)
  a3 := fun e => h.a3 (by simpa using e)
  a4 := fun e => h.a4 (by simpa using e)
  a5 := fun e => h.a5 (by simpa using e)
  a6 := fun e => h.a6 (by simpa using e)
  a7 := fun e => h.a7 (by simpa using e)
  a8 := fun _ e => by simp [hall 9 (by omega)] at e
end
end Go.Proofs.YtfcekbjoagogdaaDoor
