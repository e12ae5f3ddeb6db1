/-
  What holds in a region that appends an index to a map's slice: by what has been done.
  The contract of the program's indicesByName: a map from names to ascending indices.
  The contract of slices.Equal at slices of ints.
  The contract of the program's callsDiffer.
-/
import Derived.Test.YtplncocfbajefaaD8
import Derived.Test.YtplncocfbajefaaD7
import Derived.Deep.AppendLies
import Derived.Test.YtplncocfbajefaaD2
import Derived.Maps.GroupsBeside
import Derived.Outline
import Derived.Handy
import Derived.Test.YtplncocfbajefaaD1
import Derived.Test.YtplncocfbajefaaRows
import Derived.BigQuiet
import Derived.Deep.QuietTactic
import Derived.Sort.KeysCollected
namespace Go.Proofs.Ytplncocfbajefaa
open Go.RowKit Go.Maps
open Go.ChangeShapes (lits)

/-- W: the world where the region begins; B: the map's block; p5: the function's box; v, zs: what stands at the name; f: which operations have been done; the letters: what their slots hold. -/
structure IxF (W : World) (B p5 k : Nat) (nm : ByteArray) (v : Value) (zs : List Int) (fin : World → Prop) (f : Nat → Bool) (x14 x15 x16 x17 x18 x19 x20 x21 x22 x23 : Value) (u : World) : Prop where
  c10 : f 10 = true → ∀ j, j < 10 → f j = true
  c9 : f 9 = true → f 6 = true ∧ f 8 = true
  size : W.heap.size ≤ u.heap.size
  pre : f 9 = false → W.grownBy u none
  post : f 9 = true → f 10 = false → W.grownBy u v.ownBlock ∧ u.ownsInts (B + 1) 3 .i64 x23 (zs ++ [(k : Int)]) ∧ (x23.ownBlock = v.ownBlock ∨ ∃ g, x23.ownBlock = some g ∧ W.heap.size ≤ g)
  fin : f 10 = true → fin u
  a0 : f 0 = true → x14 = .map (some B)
  a1 : f 1 = true → x15 = .pointer (some ⟨p5, 0, none⟩)
  a2 : f 2 = true → x16 = .string nm
  a3 : f 3 = true → x17 = .map (some B)
  a4 : f 4 = true → x18 = .pointer (some ⟨p5, 0, none⟩)
  a5 : f 5 = true → x19 = .string nm
  a6 : f 6 = true → x20 = v
  a7 : f 7 = true → x21 = .int .i64 (k : Int)
  a8 : f 8 = true → f 9 = false → ∃ p, W.heap.size ≤ p ∧ x22 = .slice (some ⟨p, 0, none⟩) 1 1 ∧ Row u p 3 [.int .i64 (k : Int)]

section
variable {W u : World} {B p5 k : Nat} {nm : ByteArray} {v : Value} {zs : List Int} {fin : World → Prop} {f : Nat → Bool} {x14 x15 x16 x17 x18 x19 x20 x21 x22 x23 : Value}

/-- Blocks that stood when the region began, other than v's row, stand as they did until the map is written. -/
theorem IxF.block (h : IxF W B p5 k nm v zs fin f x14 x15 x16 x17 x18 x19 x20 x21 x22 x23 u) (h10 : f 10 = false) {j : Nat} (hj : j < W.heap.size) (hv : v.ownBlock ≠ some j) : u.heap[j]? = W.heap[j]? := by
  cases h9 : f 9 with
  | false => exact (h.pre h9).block j hj (by simp)
  | true => exact (h.post h9 h10).1.block j hj (fun e => hv e.symm)
theorem IxF.not10 (h : IxF W B p5 k nm v zs fin f x14 x15 x16 x17 x18 x19 x20 x21 x22 x23 u) {i : Nat} (hi : f i = false) (hlt : i < 11) : f 10 = false := by
  cases h10 : f 10 with
  | false => rfl
  | true =>
    rcases Nat.lt_or_ge i 10 with h1 | h1
    · rw [h.c10 h10 i h1] at hi; cases hi
    · obtain rfl : i = 10 := by omega
      rw [hi] at h10; cases h10

theorem IxF.s0 (h : IxF W B p5 k nm v zs fin f x14 x15 x16 x17 x18 x19 x20 x21 x22 x23 u) (hfi : f 0 = false) : IxF W B p5 k nm v zs fin (fun k => decide (k = 0) || f k) (.map (some B)) x15 x16 x17 x18 x19 x20 x21 x22 x23 u where
  c10 := fun e => absurd (show f 10 = true by simpa using e) (by rw [h.not10 hfi (by omega)]; decide)
  c9 := fun e => by have := h.c9 (by simpa using e); simp [this]
  size := h.size
  pre := fun e => h.pre (by simpa using e)
  post := fun e e2 => h.post (by simpa using e) (by simpa using e2)
  fin := fun e => h.fin (by simpa using e)
  a0 := fun _ => rfl
  a1 := fun e => h.a1 (by simpa using e)
  a2 := fun e => h.a2 (by simpa using e)
  a3 := fun e => h.a3 (by simpa using e)
  a4 := fun e => h.a4 (by simpa using e)
  a5 := fun e => h.a5 (by simpa using e)
  a6 := fun e => h.a6 (by simpa using e)
  a7 := fun e => h.a7 (by simpa using e)
  a8 := fun e e2 => h.a8 (by simpa using e) (by simpa using e2)
theorem IxF.s1 (h : IxF W B p5 k nm v zs fin f x14 x15 x16 x17 x18 x19 x20 x21 x22 x23 u) (hfi : f 1 = false) : IxF W B p5 k nm v zs fin (fun k => decide (k = 1) || f k) x14 (.pointer (some ⟨p5, 0, none⟩)) x16 x17 x18 x19 x20 x21 x22 x23 u where
  c10 := fun e => absurd (show f 10 = true by simpa using e) (by rw [h.not10 hfi (by omega)]; decide)
  c9 := fun e => by have := h.c9 (by simpa using e); simp [this]
  size := h.size
  pre := fun e => h.pre (by simpa using e)
  post := fun e e2 => h.post (by simpa using e) (by simpa using e2)
  fin := fun e => h.fin (by simpa using e)
  a0 := fun e => h.a0 (by simpa using e)
  a1 := fun _ => rfl
  a2 := fun e => h.a2 (by simpa using e)
  a3 := fun e => h.a3 (by simpa using e)
  a4 := fun e => h.a4 (by simpa using e)
  a5 := fun e => h.a5 (by simpa using e)
  a6 := fun e => h.a6 (by simpa using e)
  a7 := fun e => h.a7 (by simpa using e)
  a8 := fun e e2 => h.a8 (by simpa using e) (by simpa using e2)
theorem IxF.s2 (h : IxF W B p5 k nm v zs fin f x14 x15 x16 x17 x18 x19 x20 x21 x22 x23 u) (hfi : f 2 = false) : IxF W B p5 k nm v zs fin (fun k => decide (k = 2) || f k) x14 x15 (.string nm) x17 x18 x19 x20 x21 x22 x23 u where
  c10 := fun e => absurd (show f 10 = true by simpa using e) (by rw [h.not10 hfi (by omega)]; decide)
  c9 := fun e => by have := h.c9 (by simpa using e); simp [this]
  size := h.size
  pre := fun e => h.pre (by simpa using e)
  post := fun e e2 => h.post (by simpa using e) (by simpa using e2)
  fin := fun e => h.fin (by simpa using e)
  a0 := fun e => h.a0 (by simpa using e)
  a1 := fun e => h.a1 (by simpa using e)
  a2 := fun _ => rfl
  a3 := fun e => h.a3 (by simpa using e)
  a4 := fun e => h.a4 (by simpa using e)
  a5 := fun e => h.a5 (by simpa using e)
  a6 := fun e => h.a6 (by simpa using e)
  a7 := fun e => h.a7 (by simpa using e)
  a8 := fun e e2 => h.a8 (by simpa using e) (by simpa using e2)
theorem IxF.s3 (h : IxF W B p5 k nm v zs fin f x14 x15 x16 x17 x18 x19 x20 x21 x22 x23 u) (hfi : f 3 = false) : IxF W B p5 k nm v zs fin (fun k => decide (k = 3) || f k) x14 x15 x16 (.map (some B)) x18 x19 x20 x21 x22 x23 u where
  c10 := fun e => absurd (show f 10 = true by simpa using e) (by rw [h.not10 hfi (by omega)]; decide)
  c9 := fun e => by have := h.c9 (by simpa using e); simp [this]
  size := h.size
  pre := fun e => h.pre (by simpa using e)
  post := fun e e2 => h.post (by simpa using e) (by simpa using e2)
  fin := fun e => h.fin (by simpa using e)
  a0 := fun e => h.a0 (by simpa using e)
  a1 := fun e => h.a1 (by simpa using e)
  a2 := fun e => h.a2 (by simpa using e)
  a3 := fun _ => rfl
  a4 := fun e => h.a4 (by simpa using e)
  a5 := fun e => h.a5 (by simpa using e)
  a6 := fun e => h.a6 (by simpa using e)
  a7 := fun e => h.a7 (by simpa using e)
  a8 := fun e e2 => h.a8 (by simpa using e) (by simpa using e2)
theorem IxF.s4 (h : IxF W B p5 k nm v zs fin f x14 x15 x16 x17 x18 x19 x20 x21 x22 x23 u) (hfi : f 4 = false) : IxF W B p5 k nm v zs fin (fun k => decide (k = 4) || f k) x14 x15 x16 x17 (.pointer (some ⟨p5, 0, none⟩)) x19 x20 x21 x22 x23 u where
  c10 := fun e => absurd (show f 10 = true by simpa using e) (by rw [h.not10 hfi (by omega)]; decide)
  c9 := fun e => by have := h.c9 (by simpa using e); simp [this]
  size := h.size
  pre := fun e => h.pre (by simpa using e)
  post := fun e e2 => h.post (by simpa using e) (by simpa using e2)
  fin := fun e => h.fin (by simpa using e)
  a0 := fun e => h.a0 (by simpa using e)
  a1 := fun e => h.a1 (by simpa using e)
  a2 := fun e => h.a2 (by simpa using e)
  a3 := fun e => h.a3 (by simpa using e)
  a4 := fun _ => rfl
  a5 := fun e => h.a5 (by simpa using e)
  a6 := fun e => h.a6 (by simpa using e)
  a7 := fun e => h.a7 (by simpa using e)
  a8 := fun e e2 => h.a8 (by simpa using e) (by simpa using e2)
theorem IxF.s5 (h : IxF W B p5 k nm v zs fin f x14 x15 x16 x17 x18 x19 x20 x21 x22 x23 u) (hfi : f 5 = false) : IxF W B p5 k nm v zs fin (fun k => decide (k = 5) || f k) x14 x15 x16 x17 x18 (.string nm) x20 x21 x22 x23 u where
  c10 := fun e => absurd (show f 10 = true by simpa using e) (by rw [h.not10 hfi (by omega)]; decide)
  c9 := fun e => by have := h.c9 (by simpa using e); simp [this]
  size := h.size
  pre := fun e => h.pre (by simpa using e)
  post := fun e e2 => h.post (by simpa using e) (by simpa using e2)
  fin := fun e => h.fin (by simpa using e)
  a0 := fun e => h.a0 (by simpa using e)
  a1 := fun e => h.a1 (by simpa using e)
  a2 := fun e => h.a2 (by simpa using e)
  a3 := fun e => h.a3 (by simpa using e)
  a4 := fun e => h.a4 (by simpa using e)
  a5 := fun _ => rfl
  a6 := fun e => h.a6 (by simpa using e)
  a7 := fun e => h.a7 (by simpa using e)
  a8 := fun e e2 => h.a8 (by simpa using e) (by simpa using e2)
theorem IxF.s6 (h : IxF W B p5 k nm v zs fin f x14 x15 x16 x17 x18 x19 x20 x21 x22 x23 u) (hfi : f 6 = false) : IxF W B p5 k nm v zs fin (fun k => decide (k = 6) || f k) x14 x15 x16 x17 x18 x19 v x21 x22 x23 u where
  c10 := fun e => absurd (show f 10 = true by simpa using e) (by rw [h.not10 hfi (by omega)]; decide)
  c9 := fun e => by have := h.c9 (by simpa using e); simp [this]
  size := h.size
  pre := fun e => h.pre (by simpa using e)
  post := fun e e2 => h.post (by simpa using e) (by simpa using e2)
  fin := fun e => h.fin (by simpa using e)
  a0 := fun e => h.a0 (by simpa using e)
  a1 := fun e => h.a1 (by simpa using e)
  a2 := fun e => h.a2 (by simpa using e)
  a3 := fun e => h.a3 (by simpa using e)
  a4 := fun e => h.a4 (by simpa using e)
  a5 := fun e => h.a5 (by simpa using e)
  a6 := fun _ => rfl
  a7 := fun e => h.a7 (by simpa using e)
  a8 := fun e e2 => h.a8 (by simpa using e) (by simpa using e2)
theorem IxF.s7 (h : IxF W B p5 k nm v zs fin f x14 x15 x16 x17 x18 x19 x20 x21 x22 x23 u) (hfi : f 7 = false) : IxF W B p5 k nm v zs fin (fun k => decide (k = 7) || f k) x14 x15 x16 x17 x18 x19 x20 (.int .i64 (k : Int)) x22 x23 u where
  c10 := fun e => absurd (show f 10 = true by simpa using e) (by rw [h.not10 hfi (by omega)]; decide)
  c9 := fun e => by have := h.c9 (by simpa using e); simp [this]
  size := h.size
  pre := fun e => h.pre (by simpa using e)
  post := fun e e2 => h.post (by simpa using e) (by simpa using e2)
  fin := fun e => h.fin (by simpa using e)
  a0 := fun e => h.a0 (by simpa using e)
  a1 := fun e => h.a1 (by simpa using e)
  a2 := fun e => h.a2 (by simpa using e)
  a3 := fun e => h.a3 (by simpa using e)
  a4 := fun e => h.a4 (by simpa using e)
  a5 := fun e => h.a5 (by simpa using e)
  a6 := fun e => h.a6 (by simpa using e)
  a7 := fun _ => rfl
  a8 := fun e e2 => h.a8 (by simpa using e) (by simpa using e2)
theorem IxF.s8 (h : IxF W B p5 k nm v zs fin f x14 x15 x16 x17 x18 x19 x20 x21 x22 x23 u) (hfi : f 8 = false) : IxF W B p5 k nm v zs fin (fun k => decide (k = 8) || f k) x14 x15 x16 x17 x18 x19 x20 x21 (.slice (some ⟨u.heap.size, 0, none⟩) 1 1) x23 (u.alloc (.cells #[.int .i64 (k : Int)] 3)) where
  c10 := fun e => absurd (show f 10 = true by simpa using e) (by rw [h.not10 hfi (by omega)]; decide)
  c9 := fun e => by have := (h.c9 (by simpa using e)).2; rw [hfi] at this; cases this
  size := by have := h.size; simp; omega
  pre := fun e => (h.pre (by simpa using e)).trans (World.grownBy_alloc _ _ _)
  post := fun e _ => by have := (h.c9 (by simpa using e)).2; rw [hfi] at this; cases this
  fin := fun e => absurd (show f 10 = true by simpa using e) (by rw [h.not10 hfi (by omega)]; decide)
  a0 := fun e => h.a0 (by simpa using e)
  a1 := fun e => h.a1 (by simpa using e)
  a2 := fun e => h.a2 (by simpa using e)
  a3 := fun e => h.a3 (by simpa using e)
  a4 := fun e => h.a4 (by simpa using e)
  a5 := fun e => h.a5 (by simpa using e)
  a6 := fun e => h.a6 (by simpa using e)
  a7 := fun e => h.a7 (by simpa using e)
  a8 := fun _ _ => ⟨u.heap.size, h.size, rfl, Row.new u _ _⟩
theorem IxF.s9 (h : IxF W B p5 k nm v zs fin f x14 x15 x16 x17 x18 x19 x20 x21 x22 x23 u) (hfi : f 9 = false) (h6 : f 6 = true) (h8 : f 8 = true) {v' : Value} {u' : World} (hg : u.grownBy u' v.ownBlock) (hown : u'.ownsInts (B + 1) 3 .i64 v' (zs ++ [(k : Int)])) (hloc : v'.ownBlock = v.ownBlock ∨ v'.ownBlock = some u.heap.size) :
    IxF W B p5 k nm v zs fin (fun k => decide (k = 9) || f k) x14 x15 x16 x17 x18 x19 x20 x21 x22 v' u' where
  c10 := fun e => absurd (show f 10 = true by simpa using e) (by rw [h.not10 hfi (by omega)]; decide)
  c9 := fun _ => by simp [h6, h8]
  size := Nat.le_trans h.size hg.size
  pre := fun e => by simp at e
  post := fun _ _ => by
    have hp := h.pre hfi
    refine ⟨⟨hg.os.trans hp.os, hg.tape.trans hp.tape, hg.output.trans hp.output, Nat.le_trans hp.size hg.size, fun i hi hne => (hg.block i (by have := h.size; omega) hne).trans (hp.block i hi (by simp))⟩, hown, hloc.imp id fun e => ⟨_, e, h.size⟩⟩
  fin := fun e => absurd (show f 10 = true by simpa using e) (by rw [h.not10 hfi (by omega)]; decide)
  a0 := fun e => h.a0 (by simpa using e)
  a1 := fun e => h.a1 (by simpa using e)
  a2 := fun e => h.a2 (by simpa using e)
  a3 := fun e => h.a3 (by simpa using e)
  a4 := fun e => h.a4 (by simpa using e)
  a5 := fun e => h.a5 (by simpa using e)
  a6 := fun e => h.a6 (by simpa using e)
  a7 := fun e => h.a7 (by simpa using e)
  a8 := fun _ e => by simp at e
theorem IxF.s10 (h : IxF W B p5 k nm v zs fin f x14 x15 x16 x17 x18 x19 x20 x21 x22 x23 u) (hall : ∀ j, j < 10 → f j = true) {u' : World} (hs : u.heap.size ≤ u'.heap.size) (hfin : fin u') :
    IxF W B p5 k nm v zs fin (fun k => decide (k = 10) || f k) x14 x15 x16 x17 x18 x19 x20 x21 x22 x23 u' where
  c10 := fun _ j hj => by simp [hall j hj]
  c9 := fun _ => by simp [hall 6 (by omega), hall 8 (by omega)]
  size := Nat.le_trans h.size hs
  pre := fun e => by simp [hall 9 (by omega)] at e
  post := fun _ e => by simp at e
  fin := fun _ => hfin
  a0 := fun e => h.a0 (by simpa using e)
  a1 := fun e => h.a1 (by simpa using e)
  a2 := fun e => h.a2 (by simpa using e)
  a3 := fun e => h.a3 (by simpa using e)
  a4 := fun e => h.a4 (by simpa using e)
  a5 := fun e => h.a5 (by simpa using e)
  a6 := fun e => h.a6 (by simpa using e)
  a7 := fun e => h.a7 (by simpa using e)
  a8 := fun _ e => by simp [hall 9 (by omega)] at e
end
end Go.Proofs.Ytplncocfbajefaa

namespace Go.Proofs.Ytplncocfbajefaa
open Go.RowKit Go.Maps
open Go.ChangeShapes (lits)

theorem if_go {c : Bool} {A B : Prop} (h : c = true) (ha : A) : if c = true then A else B := by rw [if_pos h]; exact ha
theorem zeroInts (u : World) : (zeroValue 22).run Try.prog u = .ok (.slice none 0 0) u := by kernel_rfl
theorem groups_of_heap {w w' : World} {k e : TypeId} {base b n : Nat} {D : DataW Unit} (h : w.ownsGroups Try.prog k base e .i64 b n D) (hg : w.grownBy w' none) : w'.ownsGroups Try.prog k base e .i64 b n D :=
  h.kept hg (by simp) fun es clock _ x _ => by cases x.val.ownBlock <;> simp

set_option maxRecDepth 100000 in
set_option maxHeartbeats 4000000 in
theorem indicesByName_any (lo hi : Nat) (v : Value) (fs : List Fu) (w : World) (hv : FusAt w lo hi v fs) (hB : hi ≤ w.heap.size) (hlen : fs.length ≤ 1048576) :
    Calls Try.prog 81 #[v] w fun e w' => ∃ D : DataW Unit, e = .returned (.map (some w.heap.size)) ∧ Below w.heap.size w w' ∧ Grp fs fs.length D ∧ w'.ownsGroups Try.prog 9 (w.heap.size + 1) 3 .i64 w.heap.size fs.length D := by
  obtain ⟨F, cap, rfl, hl1, hm1, hv1⟩ := hv.form
  unfold maxLen at hm1
  have hmm := @run_makeMap Try.prog
  obtain ⟨i0, hi0, hz0, hz1, hz2⟩ := info_parts Try.infoInt
  have Hv := Lib.hid hv1
  clear hv hv1
  go_enter Try.func81, Try.ntmps81
  go_wp2
  go_loopw [9] (fun i wr => ∃ k : Nat, k ≤ fs.length ∧ i = .int .i64 k ∧ Hid (∃ D : DataW Unit, Grp fs k D ∧ wr.ownsGroups Try.prog 9 (w.heap.size + 1) 3 .i64 w.heap.size k D) ∧ Hid (Below w.heap.size w wr) ∧ w.heap.size + 1 ≤ wr.heap.size) (fun i _ => fs.length - (intOf i).toNat)
  case atStart => exact ⟨0, Nat.zero_le _, rfl, ⟨.map [], Grp.start fs, World.ownsGroups_made _ _ _ _ _⟩, (Below.refl _ _).alloc (Nat.le_refl _) _, by simp⟩
  case round =>
    obtain ⟨k, hk, rfl, hD, hb, hws⟩ := hrel
    by_cases hlt : k < fs.length
    · obtain ⟨b, off, A1, cap1, A2, cap2, rfl, hlo, hhi, c0, c1, c2, c3, _, _, _, _, hfu⟩ := (Hv.out.below hb.out hB).at_ hlt
      have hsn : Hid (fs[k].name.size ≤ maxLen) := hfu.2.2.1
      have hnm : Hid ((fs.getD k default).name = fs[k].name) := by show _ = _; rw [List.getD_eq_getElem?_getD, List.getElem?_eq_getElem hlt]; rfl
      clear hfu
      generalize fs[k].name = nm at *
      generalize fs[k].args.length = an at *
      generalize fs[k].table.length = tn at *
      generalize fs[k].res = rn at *
      go_wp2_with fail
      obtain ⟨D, hgrp, hown⟩ := hD.out
      obtain ⟨W, hW⟩ : ∃ W, W = (wr.alloc (.cells #[.string nm, .slice A1 an cap1, .int .i64 rn, .slice A2 tn cap2] 79)) := ⟨_, rfl⟩
      have hbox : Row W wr.heap.size 79 [.string nm, .slice A1 an cap1, .int .i64 rn, .slice A2 tn cap2] := by rw [hW]; exact Row.new wr _ _
      have hWs : wr.heap.size < W.heap.size := hbox.lt
      have hWb : Below w.heap.size w W := by rw [hW]; exact hb.out.alloc (by omega) _
      have hWo : W.drew.ownsGroups Try.prog 9 (w.heap.size + 1) 3 .i64 w.heap.size k D := by
        refine groups_of_heap hown ?_
        rw [hW]
        exact ⟨rfl, rfl, rfl, by show wr.heap.size ≤ (wr.alloc _).heap.size; simp, fun j hj _ => Below.heap_alloc wr _ j hj⟩
      rw [← hW]
      clear hW
      obtain ⟨v, zs, hlook, hat, hoi, hzl, hback⟩ := groups_look hWo lawStr Try.underlying104 zeroInts (by unfold maxLen; omega) (kN_key hsn.out)
      obtain ⟨hzs, hgrp2⟩ := hgrp.step hnm.out hsn.out hoi hat
      have hvB : v.ownBlock ≠ some w.heap.size := fun e => by have := (hoi.1.lt _ e).1; omega
      have hvP : v.ownBlock ≠ some wr.heap.size := fun e => by
        obtain ⟨_, ⟨rfl, _⟩ | ⟨g', cap', cur, rfl, _, hh, _⟩⟩ := hoi.1
        · simp [Value.ownBlock] at e
        · simp only [Value.ownBlock, Option.some.injEq] at e
          subst e
          have hb2 : W.drew.heap[wr.heap.size]? = _ := hbox
          rw [hb2] at hh
          simp only [Option.some.injEq, Obj.cells.injEq] at hh
          exact absurd hh.2.1 (by decide)
      have hvlt : ∀ g, v.ownBlock = some g → g < W.heap.size := fun g e => (hoi.1.lt g e).2
      have Hlook := Lib.hid hlook
      have Hoi := Lib.hid hoi
      have Hback := Lib.hid hback
      have Hgrp2 := Lib.hid hgrp2
      have Hbox := Lib.hid hbox
      have HWb := Lib.hid hWb
      have HvB := Lib.hid hvB
      have HvP := Lib.hid hvP
      have Hvlt := Lib.hid hvlt
      have HwfK : Hid ((Lit.int .i64 (k : Int)).wf = true) := WalkArith.wf_i64 (by omega)
      have Hi0 := Lib.hid hi0
      have Hz0 := Lib.hid hz0
      have Hz1 := Lib.hid hz1
      have Hz2 := Lib.hid hz2
      clear hlook hoi hback hgrp2 hbox hWb hvB hvP hvlt hWo hgrp hown hat hzs c0 c1 c2 c3 hD hb hi0 hz0 hz1 hz2
      refine wp_region_inv (by kernel_rfl) (fun f x u => ∃ x14 x15 x16 x17 x18 x19 x20 x21 x22 x23, x = ⟨#[.slice (some ⟨b, off, none⟩) fs.length cap, undef, .map none, .map (some w.heap.size), .int .i64 (k : Nat), .pointer (some ⟨wr.heap.size, 0, none⟩), .map (some w.heap.size), .slice (some ⟨b, off, none⟩) fs.length cap, .int .i64 (fs.length : Nat), .int .i64 (k : Nat), .bool true, .int .i64 (k : Nat), .pointer (some ⟨b, off + k * 4, none⟩), .agg #[.string nm, .slice A1 an cap1, .int .i64 rn, .slice A2 tn cap2], x14, x15, x16, x17, x18, x19, x20, x21, x22, x23, u24, undef], []⟩ ∧ IxF W.drew w.heap.size wr.heap.size k nm v zs (fun u => (∃ D : DataW Unit, Grp fs (k + 1) D ∧ u.ownsGroups Try.prog 9 (w.heap.size + 1) 3 .i64 w.heap.size (k + 1) D) ∧ Below w.heap.size w u) f x14 x15 x16 x17 x18 x19 x20 x21 x22 x23 u) (of_decide_eq_true (by kernel_rfl)) ⟨_, _, _, _, _, _, _, _, _, _, rfl, ⟨nofun, nofun, Nat.le_refl _, fun _ => ⟨rfl, rfl, rfl, Nat.le_refl _, fun _ _ _ => rfl⟩, nofun, nofun, nofun, nofun, nofun, nofun, nofun, nofun, nofun, nofun, nofun⟩⟩ ?_ ?_
      · rintro f x u q o ho hfi hdep ⟨x14, x15, x16, x17, x18, x19, x20, x21, x22, x23, rfl, hF⟩
        have hil : q < 11 := by have := (Array.getElem?_eq_some_iff.1 ho).1; simpa using this
        have h10 := hF.not10 hfi hil
        have hsz : W.heap.size ≤ u.heap.size := hF.size
        have cP : u.cell? ⟨wr.heap.size, 0, none⟩ = some (.string nm) := by
          have hb2 : u.heap[wr.heap.size]? = W.drew.heap[wr.heap.size]? := hF.block h10 hWs HvP.out
          exact (World.cell?_of_block (w := W.drew) hb2).trans (Hbox.out.cell 0)
        have hB : u.heap[w.heap.size]? = W.drew.heap[w.heap.size]? := hF.block h10 (by show _ < W.heap.size; omega) HvB.out
        have hlk := Hlook.out u hB
        clear hB
        obtain rfl | rfl | rfl | rfl | rfl | rfl | rfl | rfl | rfl | rfl | rfl : q = 0 ∨ q = 1 ∨ q = 2 ∨ q = 3 ∨ q = 4 ∨ q = 5 ∨ q = 6 ∨ q = 7 ∨ q = 8 ∨ q = 9 ∨ q = 10 := by omega
        all_goals
          obtain rfl := Option.some.inj ho
          refine wpOp_step ho fun K hK => ?_
          simp [Region.binds] at hdep
          clear ho
        · refine if_go rfl ?_
          have HF := Lib.hid hF
          clear hF
          unfold Oper.wp
          go_simp
          exact hK _ _ ⟨_, _, _, _, _, _, _, _, _, _, rfl, HF.out.s0 hfi⟩
        · refine if_go rfl ?_
          have HF := Lib.hid hF
          clear hF
          unfold Oper.wp
          go_simp
          exact hK _ _ ⟨_, _, _, _, _, _, _, _, _, _, rfl, HF.out.s1 hfi⟩
        · have d1 : f 1 = true := by simp [hdep]
          obtain rfl := hF.a1 d1
          refine if_go rfl ?_
          have HF := Lib.hid hF
          clear hF
          unfold Oper.wp
          go_simp
          exact hK _ _ ⟨_, _, _, _, _, _, _, _, _, _, rfl, HF.out.s2 hfi⟩
        · refine if_go rfl ?_
          have HF := Lib.hid hF
          clear hF
          unfold Oper.wp
          go_simp
          exact hK _ _ ⟨_, _, _, _, _, _, _, _, _, _, rfl, HF.out.s3 hfi⟩
        · refine if_go rfl ?_
          have HF := Lib.hid hF
          clear hF
          unfold Oper.wp
          go_simp
          exact hK _ _ ⟨_, _, _, _, _, _, _, _, _, _, rfl, HF.out.s4 hfi⟩
        · have d4 : f 4 = true := by simp [hdep]
          obtain rfl := hF.a4 d4
          refine if_go rfl ?_
          have HF := Lib.hid hF
          clear hF
          unfold Oper.wp
          go_simp
          exact hK _ _ ⟨_, _, _, _, _, _, _, _, _, _, rfl, HF.out.s5 hfi⟩
        · have d3 : f 3 = true := by simp [hdep]
          obtain rfl := hF.a3 d3
          have d5 : f 5 = true := by simp [hdep]
          obtain rfl := hF.a5 d5
          refine if_go rfl ?_
          have HF := Lib.hid hF
          clear hF
          unfold Oper.wp
          go_simp
          exact hK _ _ ⟨_, _, _, _, _, _, _, _, _, _, rfl, HF.out.s6 hfi⟩
        · refine if_go rfl ?_
          have HF := Lib.hid hF
          clear hF
          unfold Oper.wp
          go_simp
          exact hK _ _ ⟨_, _, _, _, _, _, _, _, _, _, rfl, HF.out.s7 hfi⟩
        · have d7 : f 7 = true := by simp [hdep]
          obtain rfl := hF.a7 d7
          refine if_go rfl ?_
          have HF := Lib.hid hF
          clear hF
          unfold Oper.wp
          go_simp
          exact hK _ _ ⟨_, _, _, _, _, _, _, _, _, _, rfl, HF.out.s8 hfi⟩
        · have d6 : f 6 = true := by simp [hdep]
          have d8 : f 8 = true := by simp [hdep]
          obtain rfl := hF.a6 d6
          obtain ⟨p, hp, rfl, hrow⟩ := hF.a8 d8 hfi
          have hpre := hF.pre hfi
          have hou : u.ownsInts (w.heap.size + 1) 3 .i64 x20 zs := Hoi.out.kept hpre (by cases x20.ownBlock <;> simp)
          refine step_append_lies u rfl (.tmp 20) (.tmp 22) 22 rfl (w.heap.size + 1) 3 i0 (.int .i64 0) 1 8 Try.underlying22 Hi0.out Hz0.out Hz1.out Hz2.out rfl (by decide) x20 zs.length _ rfl hou.1 ⟨p, 0, none⟩ 1 1 [.int .i64 (k : Int)] rfl rfl (World.news_of_block hrow) (by simp [Value.oneCell']) (by omega) (by unfold maxLen; omega) (by omega) (by omega) u.heap.size rfl ?_
          intro g cap' u' ho' hg' hloc' hlt'
          exact hK _ _ ⟨_, _, _, _, _, _, _, _, _, _, rfl, hF.s9 hfi d6 d8 hg' (hou.appended ho' HwfK.out) (hloc'.imp (fun e => e.symm) (fun e => by rw [e]; rfl))⟩
        · have hall : ∀ j, j < 10 → f j = true := fun j hj => by
            obtain rfl | rfl | rfl | rfl | rfl | rfl | rfl | rfl | rfl | rfl : j = 0 ∨ j = 1 ∨ j = 2 ∨ j = 3 ∨ j = 4 ∨ j = 5 ∨ j = 6 ∨ j = 7 ∨ j = 8 ∨ j = 9 := by omega
            all_goals simp [hdep]
          obtain rfl := hF.a0 (hall 0 (by omega))
          obtain rfl := hF.a2 (hall 2 (by omega))
          obtain ⟨hgr, hox, hlc⟩ := hF.post (hall 9 (by omega)) hfi
          obtain ⟨u2, hrun, hown2, hgr2⟩ := Hback.out u x23 (zs ++ [(k : Int)]) hgr hox (by simp; omega) hlc
          have hD2 := hox.datum_pos (H := Unit) (by simp)
          rw [hD2] at hown2
          have hfin : Hid ((∃ D : DataW Unit, Grp fs (k + 1) D ∧ u2.ownsGroups Try.prog 9 (w.heap.size + 1) 3 .i64 w.heap.size (k + 1) D) ∧ Below w.heap.size w u2) := by
            refine ⟨⟨_, Hgrp2.out, hown2⟩, ⟨hgr2.os.trans (hgr.os.trans HWb.out.os), hgr2.tape.trans (hgr.tape.trans HWb.out.tape), hgr2.output.trans (hgr.output.trans HWb.out.output), Nat.le_trans HWb.out.size (Nat.le_trans hgr.size hgr2.size), fun j hj => ?_⟩⟩
            have hjW : j < W.heap.size := Nat.lt_of_lt_of_le hj HWb.out.size
            exact (hgr2.block j (by omega) (by simp; omega)).trans ((hgr.block j hjW (fun e => by have := (Hoi.out.1.lt j e.symm).1; omega)).trans (HWb.out.block j hj))
          have hs2 := hgr2.size
          refine if_go rfl ?_
          have HF := Lib.hid hF
          clear hF hown2 hgr2 hgr hox hlc hD2 hlk
          unfold Oper.wp
          go_simp
          exact hK _ _ ⟨_, _, _, _, _, _, _, _, _, _, rfl, HF.out.s10 hall hs2 hfin.out⟩
      · rintro f x u hall ⟨x14, x15, x16, x17, x18, x19, x20, x21, x22, x23, rfl, hF⟩
        have hfin := Lib.hid (hF.fin (hall 10 (by simp)))
        have hus : w.heap.size + 1 ≤ u.heap.size := Nat.le_trans (by show _ ≤ W.heap.size; omega) hF.size
        clear hF hall
        go_wp2
        go_roundw
        case rel => exact ⟨k + 1, by omega, by go_num, hfin.out.1, hfin.out.2, hus⟩
        case measure => simp [intOf]; omega
    · obtain rfl : k = fs.length := by omega
      go_wp2
      go_ret
      obtain ⟨D, h1, h2⟩ := hD.out
      exact ⟨D, rfl, hb.out, h1, h2⟩
end Go.Proofs.Ytplncocfbajefaa

namespace Go.Proofs.Ytplncocfbajefaa
open Go.RowKit

set_option maxRecDepth 100000 in
set_option maxHeartbeats 2000000 in
theorem slicesEqual_any (lo hi lo2 hi2 : Nat) (xv yv : Value) (xs ys : List Int) (w : World) (hx : IntsAt w lo hi xv xs) (hy : IntsAt w lo2 hi2 yv ys) (_hB : hi ≤ w.heap.size) (_hB2 : hi2 ≤ w.heap.size) :
    Calls Try.prog 82 #[xv, yv] w fun e w' => e = .returned (.bool (decide (xs = ys))) ∧ ∃ m, w' = w.drewN m := by
  obtain ⟨X, xap, rfl, hlx, hmx, hx1⟩ := hx.form
  obtain ⟨Y, yap, rfl, hly, hmy, hy1⟩ := hy.form
  unfold maxLen at hmx hmy
  have Hx := Lib.hid hx1
  have Hy := Lib.hid hy1
  clear hx hy hx1 hy1
  by_cases hl : xs.length = ys.length
  · have hd : ((xs.length : Int) != (ys.length : Int)) = false := by simp [hl]
    go_enter Try.func82, Try.ntmps82
    go_wp2
    clear hd
    have Hl := Lib.hid hl
    clear hl
    go_loopw [13] (fun i wr => ∃ j : Nat, j ≤ ys.length ∧ i = .int .i64 j ∧ Hid (∃ m, wr = w.drewN m) ∧ Hid (∀ k, ∀ (h1 : k < xs.length) (h2 : k < ys.length), k < j → xs[k] = ys[k])) (fun i _ => ys.length - (intOf i).toNat)
    case atStart => exact ⟨0, Nat.zero_le _, rfl, ⟨0, rfl⟩, fun k _ _ h => absurd h (by omega)⟩
    case round =>
      obtain ⟨j, hj, rfl, hb, hpre⟩ := hrel
      by_cases hlt2 : j < ys.length
      · have hlt : j < xs.length := by have := Hl.out; omega
        obtain ⟨b, off, rfl, _, _, c0, _⟩ := (show IntsAt wr lo hi _ xs from by obtain ⟨m, rfl⟩ := hb.out; exact Hx.out).at_ (k := j) hlt
        obtain ⟨b', off', rfl, _, _, c0', _⟩ := (show IntsAt wr lo2 hi2 _ ys from by obtain ⟨m, rfl⟩ := hb.out; exact Hy.out).at_ (k := j) hlt2
        have hi1 : (j : Int) < (xs.length : Int) := by omega
        have hi2' : (j : Int) < (ys.length : Int) := by omega
        by_cases he : xs[j] = ys[j]
        · have htest : (xs[j] != ys[j]) = false := by simpa using he
          have hpre2 : Hid (∀ k, ∀ (h1 : k < xs.length) (h2 : k < ys.length), k < j + 1 → xs[k] = ys[k]) := fun k h1 h2 h => by
            by_cases e : k = j
            · subst e; exact he
            · exact hpre.out k h1 h2 (by omega)
          clear he
          go_wp2
          go_quiet (fail)
          go_wp2
          go_roundw
          case rel => exact ⟨j + 1, by omega, by go_num, (by show ∃ m, _ = _; obtain ⟨m, rfl⟩ := hb.out; exact ⟨_, World.drewN_drewN ..⟩), hpre2⟩
          case measure => simp [intOf]; omega
        · have htest : (xs[j] != ys[j]) = true := by simpa using he
          have hno : Hid (decide (xs = ys) = false) := by show _ = _; exact decide_eq_false fun e => he (by subst e; rfl)
          clear he
          go_wp2
          go_quiet (fail)
          go_wp2
          go_ret
          exact ⟨ret_bool hno.out.symm, by obtain ⟨m, rfl⟩ := hb.out; exact ⟨_, World.drewN_drewN ..⟩⟩
      · obtain rfl : j = ys.length := by omega
        have hyes : Hid (decide (xs = ys) = true) := by show _ = _; exact decide_eq_true (List.ext_getElem Hl.out fun k h1 h2 => hpre.out k h1 h2 h2)
        go_wp2
        go_ret
        exact ⟨ret_bool hyes.out.symm, hb.out⟩
  · have hno : Hid (decide (xs = ys) = false) := by show _ = _; exact decide_eq_false fun e => hl (by rw [e])
    have hd : ((xs.length : Int) != (ys.length : Int)) = true := by simp; omega
    go_enter Try.func82, Try.ntmps82
    go_wp2
    go_ret
    exact ⟨ret_bool hno.out.symm, ⟨0, rfl⟩⟩
theorem slicesEqual_quiet (lo hi lo2 hi2 : Nat) (xv yv : Value) (xs ys : List Int) (w : World) (n : Nat) (b : Bool) (hb : decide (xs = ys) = b) (hx : IntsAt w lo hi xv xs) (hy : IntsAt w lo2 hi2 yv ys) (hB : hi ≤ w.heap.size) (hB2 : hi2 ≤ w.heap.size) :
    Calls Try.prog 82 #[xv, yv] (w.drewN n) fun e w' => e = .returned (.bool b) ∧ ∃ m, w' = w.drewN m :=
  (slicesEqual_any lo hi lo2 hi2 xv yv xs ys (w.drewN n) hx hy hB hB2).mono fun _ _ ⟨h1, m, h2⟩ => ⟨hb ▸ h1, n + m, h2.trans (World.drewN_drewN ..)⟩
end Go.Proofs.Ytplncocfbajefaa

namespace Go.Proofs.Ytplncocfbajefaa
open Go.RowKit Go.Maps
open Go.ChangeShapes (lits)

theorem ints_of_owns {w : World} {base : Nat} {v : Value} {zs : List Int} (h : w.ownsInts base 3 .i64 v zs) : IntsAt w base w.heap.size v zs := by
  obtain ⟨g, ho, hg⟩ := OwnI.of_owns h.1
  exact ho.ints (fun z hz => by have := h.2 z hz; simpa [Lit.wf, IntKind.min, IntKind.max, IntKind.signed, IntKind.bits, I64] using this) hg

/-- What is left when nothing else than the iterator has turned. -/
theorem ranges_of_heap {w w' : World} {k : TypeId} {R : Value → Option (DataW Unit × List MemPlace)} {b r n cnt : Nat} {D : DataW Unit} {left : Lit → Bool} (h : w.ranges Try.prog k R b r n D left cnt) (hh : w'.heap = w.heap) : w'.ranges Try.prog k R b r n D left cnt := by
  obtain ⟨es, clock, since, seen, c0, h1, h2, h3, h4, h5, h6⟩ := h
  exact ⟨es, clock, since, seen, c0, by rw [hh]; exact h1, h2, h3, h4, by rw [hh]; exact h5, h6⟩

set_option maxRecDepth 100000 in
set_option maxHeartbeats 4000000 in
theorem callsDiffer_any (lo hi : Nat) (v : Value) (fs : List Fu) (w : World) (hv : FusAt w lo hi v fs) (hB : hi ≤ w.heap.size) (hlen : fs.length ≤ 1048576) :
    Calls Try.prog 68 #[v] w fun e w' => e = .returned (.bool (differB fs)) ∧ Below w.heap.size w w' := by
  obtain ⟨F, cap, rfl, hl1, hm1, hv1⟩ := hv.form
  unfold maxLen at hm1
  have Hv := Lib.hid hv1
  clear hv hv1
  go_enter Try.func68, Try.ntmps68
  go_wp2_with fail
  refine (indicesByName_any lo hi _ fs w Hv.out hB hlen).mono ?_
  rintro e w1 ⟨D, rfl, hb1, hgrp, hown⟩
  have hmap : w1.ownsMap Try.prog 9 (rowElem w1 (w.heap.size + 1) 3 .i64) w.heap.size fs.length D := by
    obtain ⟨es, clock, h1, h2, h3, h4, _⟩ := hown
    exact ⟨es, clock, h1, h2, h3, h4⟩
  have Hgrp := Lib.hid hgrp
  have Hb1 := Lib.hid hb1
  clear hgrp hb1 hown
  go_wp2_with (first | (at_range; refine wpList_range_own _ rfl _ 104 rfl 9 22 lawStr Try.underlying104 _ w.heap.size fs.length D rfl hmap ?_; intro w2 hrg2 hg2 hs2) | go_in)
  go_frame
  have Hrg2 := Lib.hid hrg2
  have Hg2 := Lib.hid hg2
  clear hrg2 hg2 hs2 hmap
  go_loopw [12] (fun _ wr => ∃ left cnt, Hid (wr.ranges Try.prog 9 (rowElem w1 (w.heap.size + 1) 3 .i64) w.heap.size w1.heap.size fs.length D left cnt) ∧ Hid (Below w1.heap.size w1 wr) ∧
    Hid (∀ nm : ByteArray, nm.size ≤ maxLen → left (kN nm) = false → Parts fs (idxs fs fs.length nm))) (fun _ wr => wr.rangeLeft w.heap.size w1.heap.size)
  case atStart =>
    refine ⟨Maps.has D, Maps.size D, Hrg2.out, ⟨Hg2.out.os, Hg2.out.tape, Hg2.out.output, Hg2.out.size, fun k hk => Hg2.out.block k hk (by simp)⟩, fun nm hs hl a b ha _ => ?_⟩
    have hno : ¬ idxs fs fs.length nm ≠ [] := fun h => by rw [(Hgrp.out.has nm hs).2 h] at hl; cases hl
    have hnil : idxs fs fs.length nm = [] := Classical.not_not.1 hno
    rw [hnil] at ha
    cases ha
  case round =>
    obtain ⟨left, cnt, hrg, hb, hparts⟩ := hrel
    go_wp2_with (first | (at_next; refine wpList_next_ranges wr rfl _ rfl 9 lawStr (rowElem w1 (w.heap.size + 1) 3 .i64) encStr (fun v : Value => v) (fun key kl hk => by obtain ⟨x, hx, _⟩ := Maps.keyOf_str Try.underlying9 hk; exact ⟨x, hx⟩) (fun v y _ => ⟨v, rfl⟩) w.heap.size w1.heap.size fs.length D left cnt rfl hrg.out ?_ ?_) | go_in)
    · intro hc0 hl0
      have hyes : Hid (differB fs = true) := by
        show _ = _
        refine differB_yes (differ_of_parts fun nm hne => ?_)
        have hs : nm.size ≤ maxLen := by
          rcases hx : idxs fs fs.length nm with _ | ⟨z, r⟩
          · exact absurd hx hne
          · obtain ⟨i, hi, hn, _⟩ := idxs_mem.1 (show z ∈ idxs fs fs.length nm by rw [hx]; simp)
            obtain ⟨_, _, _, _, _, _, _, _, _, _, _, _, _, _, _, _, _, hfu⟩ := Hv.out.at_ hi
            rw [getD_of hi] at hn
            rw [← hn]; exact hfu.2.2.1
        exact hparts.out nm hs (hl0 _)
      have hbw := Lib.hid (Hb1.out.trans (hb.out.mono Hb1.out.size))
      clear hl0 hparts hrg hb
      go_wp2
      go_ret
      exact ⟨ret_bool hyes.out.symm, hbw.out⟩
    · intro x c kl yd yp w3 cnt2 hkey hlk hv hat hrg3 hlt hg3 hs3 hen
      obtain ⟨x', ex, rfl, hxl⟩ := Maps.keyOf_str Try.underlying9 hkey
      obtain rfl : x = x' := encStr_inj ex
      clear ex hkey
      have hkn : Lit.string x = kN ⟨x.toArray⟩ := by simp [kN]
      rw [hkn] at hat hlk hrg3
      have hsx : (⟨x.toArray⟩ : ByteArray).size ≤ maxLen := by simpa [ByteArray.size] using hxl
      obtain ⟨zs, ho, hyd⟩ := rowElem_inv hv
      have hyd1 : yd = rowDatum .i64 c zs := congrArg Prod.fst hyd
      have hzs := Hgrp.out.look hsx ho ((hat .nil).trans hyd1)
      have hzi := ints_of_owns ho
      have hb3 : Below w1.heap.size w1 w3 := ⟨hg3.os.trans hb.out.os, hg3.tape.trans hb.out.tape, hg3.output.trans hb.out.output, Nat.le_trans hb.out.size hg3.size, fun k hk => (hg3.block k (Nat.lt_of_lt_of_le hk hb.out.size) (by simp; omega)).trans (hb.out.block k hk)⟩
      obtain ⟨Z, zap, rfl, hlz, hmz, hz1⟩ := hzi.form
      have hz3 := Lib.hid (hz1.below hb3 (Nat.le_refl _))
      have hb03 : Hid (Below w.heap.size w w3) := Hb1.out.trans (hb3.mono Hb1.out.size)
      have hmeas : Hid (w3.rangeLeft w.heap.size w1.heap.size < wr.rangeLeft w.heap.size w1.heap.size) := by show _ < _; rw [hrg3.left_eq, hrg.out.left_eq]; exact hlt
      have Hzs := Lib.hid hzs
      have Hrg3 := Lib.hid hrg3
      have Hb3 := Lib.hid hb3
      have hparts2 : Hid (Parts fs (idxs fs fs.length ⟨x.toArray⟩) → ∀ nm : ByteArray, nm.size ≤ maxLen → (left (kN nm) && !(kN nm).sameKey (kN ⟨x.toArray⟩)) = false → Parts fs (idxs fs fs.length nm)) := by
        intro hP nm hs h
        by_cases e : kN nm = kN ⟨x.toArray⟩
        · rw [kN_inj e]; exact hP
        · rw [sameKey_ne e] at h
          exact hparts.out nm hs (by simpa using h)
      unfold maxLen at hmz
      clear hat hlk hv hyd hyd1 hzi ho hg3 hs3 hb3 hz1 hrg3 hzs hparts hrg hb hkn hsx hxl hlt
      generalize (⟨x.toArray⟩ : ByteArray) = nm at *
      go_wp2
      go_loopw [18] (fun i wm => ∃ n : Nat, n ≤ zs.length ∧ i = .int .i64 n ∧ Hid (∃ m, wm = w3.drewN m) ∧ Hid (∀ a b : Nat, a < n → b < a → (fs.getD (zs.getD a 0).toNat default).args ≠ (fs.getD (zs.getD b 0).toNat default).args)) (fun i _ => zs.length - (intOf i).toNat)
      case atStart => exact ⟨0, Nat.zero_le _, rfl, ⟨0, rfl⟩, fun a b h => absurd h (by omega)⟩
      case round =>
        obtain ⟨n, hn, rfl, hwm, hpre⟩ := hrel
        by_cases hln : n < zs.length
        · obtain ⟨gz, oz, rfl, _, _, cz, _⟩ := (show IntsAt wr _ _ _ zs from by obtain ⟨m, rfl⟩ := hwm.out; exact hz3.out).at_ (k := n) hln
          obtain ⟨i, hi, hni, ei⟩ := idxs_mem.1 (show zs[n] ∈ idxs fs fs.length nm by rw [← Hzs.out]; exact List.getElem_mem hln)
          rw [ei] at cz
          have Hei := Lib.hid ei
          have hlnI : (n : Int) < (zs.length : Int) := by omega
          clear ei
          go_wp2
          go_loopw [27] (fun q wi => ∃ j : Nat, j ≤ n ∧ q = .int .i64 j ∧ Hid (∃ m, wi = w3.drewN m) ∧ Hid (∀ b : Nat, b < j → (fs.getD (zs.getD n 0).toNat default).args ≠ (fs.getD (zs.getD b 0).toNat default).args)) (fun q _ => n - (intOf q).toNat)
          case atStart => exact ⟨0, Nat.zero_le _, rfl, hwm.out, fun b h => absurd h (by omega)⟩
          case round =>
            obtain ⟨j, hj, rfl, hwi, hpre2⟩ := hrel
            by_cases hlj : j < n
            · have hljz : j < zs.length := by omega
              obtain ⟨gz', oz', eZ, _, _, cz2, _⟩ := (show IntsAt wr _ _ _ zs from by obtain ⟨m, rfl⟩ := hwi.out; exact hz3.out).at_ (k := j) hljz
              obtain ⟨rfl, rfl⟩ : gz = gz' ∧ oz = oz' := by simpa using eZ
              obtain ⟨k, hk, hnk, ek⟩ := idxs_mem.1 (show zs[j] ∈ idxs fs fs.length nm by rw [← Hzs.out]; exact List.getElem_mem hljz)
              rw [ek] at cz2
              have Hek := Lib.hid ek
              clear ek eZ
              have hbw : Below w.heap.size w wr := by obtain ⟨m, rfl⟩ := hwi.out; exact below_drewN hb03.out m
              obtain ⟨b, off, A1, cap1, A2, cap2, rfl, _, _, c0, c1, c2, c3, _, _, _, _, hfi⟩ := (Hv.out.below hbw hB).at_ hi
              obtain ⟨b', off', A1', cap1', A2', cap2', eF, _, _, d0, d1, d2, d3, _, _, _, _, hfk⟩ := (Hv.out.below hbw hB).at_ hk
              obtain ⟨rfl, rfl⟩ : b = b' ∧ off = off' := by simpa using eF
              have hai := Lib.hid hfi.2.2.2.2.1
              have hak := Lib.hid hfk.2.2.2.2.1
              have hBw := Lib.hid (Nat.le_trans hB hbw.size)
              have Hgn : Hid ((fs.getD (zs.getD n 0).toNat default).args = fs[i].args) := by show _ = _; rw [getD_of hln, Hei.out, Int.toNat_natCast, getD_of hi]
              have Hgj : Hid ((fs.getD (zs.getD j 0).toNat default).args = fs[k].args) := by show _ = _; rw [getD_of hljz, Hek.out, Int.toNat_natCast, getD_of hk]
              have hljI : (j : Int) < (n : Int) := by omega
              have hiI : (i : Int) < (fs.length : Int) := by omega
              have hkI : (k : Int) < (fs.length : Int) := by omega
              clear hfi hfk eF c0 c2 c3 d0 d2 d3 hni hnk hbw
              by_cases he : fs[i].args = fs[k].args
              · have htest : Hid (decide (fs[i].args = fs[k].args) = true) := decide_eq_true he
                have hno : Hid (differB fs = false) := by
                  show _ = _
                  refine differB_no (not_differ (nm := nm) (a := n) (b := j) (by rw [← Hzs.out]; exact hln) hlj ?_)
                  rw [← Hzs.out, Hgn.out, Hgj.out]; exact he
                clear he
                go_wp2
                go_quiet ((first | (go_at_call 82; exact slicesEqual_quiet _ _ _ _ _ _ fs[i].args fs[k].args _ _ _ htest.out hai.out hak.out hBw.out hBw.out)))
                go_wp2
                go_ret
                exact ⟨ret_bool hno.out.symm, by obtain ⟨m, rfl⟩ := hwi.out; exact below_drewN (below_drewN hb03.out m) _⟩
              · have htest : Hid (decide (fs[i].args = fs[k].args) = false) := decide_eq_false he
                have hpre3 : Hid (∀ b : Nat, b < j + 1 → (fs.getD (zs.getD n 0).toNat default).args ≠ (fs.getD (zs.getD b 0).toNat default).args) := fun b hb => by
                  by_cases e : b = j
                  · subst e; rw [Hgn.out, Hgj.out]; exact he
                  · exact hpre2.out b (by omega)
                clear he
                go_wp2
                go_quiet ((first | (go_at_call 82; exact slicesEqual_quiet _ _ _ _ _ _ fs[i].args fs[k].args _ _ _ htest.out hai.out hak.out hBw.out hBw.out)))
                go_wp2
                go_roundw
                case rel => exact ⟨j + 1, by omega, by go_num, (by show ∃ m, _ = _; obtain ⟨m, rfl⟩ := hwi.out; exact ⟨_, World.drewN_drewN ..⟩), hpre3⟩
                case measure => simp [intOf]; omega
            · obtain rfl : j = n := by omega
              have hpre3 : Hid (∀ a b : Nat, a < j + 1 → b < a → (fs.getD (zs.getD a 0).toNat default).args ≠ (fs.getD (zs.getD b 0).toNat default).args) := fun a b ha hb => by
                by_cases e : a = j
                · subst e; exact hpre2.out b hb
                · exact hpre.out a b (by omega) hb
              go_wp2
              go_roundw
              case rel => exact ⟨j + 1, by omega, by go_num, hwi.out, hpre3⟩
              case measure => simp [intOf]; omega
        · obtain rfl : n = zs.length := by omega
          have hP : Hid (∀ m : ByteArray, m.size ≤ maxLen → (left (kN m) && !(kN m).sameKey (kN nm)) = false → Parts fs (idxs fs fs.length m)) := hparts2.out (by rw [← Hzs.out]; exact fun a b ha hb => hpre.out a b ha hb)
          have hrgw : Hid (wr.ranges Try.prog 9 (rowElem w1 (w.heap.size + 1) 3 .i64) w.heap.size w1.heap.size fs.length D (fun z => left z && !z.sameKey (kN nm)) cnt2) := by obtain ⟨m, rfl⟩ := hwm.out; exact ranges_of_heap Hrg3.out rfl
          have hbw : Hid (Below w1.heap.size w1 wr) := by obtain ⟨m, rfl⟩ := hwm.out; exact below_drewN Hb3.out m
          have hme : Hid (wr.rangeLeft w.heap.size w1.heap.size = w3.rangeLeft w.heap.size w1.heap.size) := by obtain ⟨m, rfl⟩ := hwm.out; rfl
          go_wp2
          go_roundw
          case rel => exact ⟨_, _, hrgw, hbw, hP⟩
          case measure => have h1 := hme.out; have h2 := hmeas.out; omega
end Go.Proofs.Ytplncocfbajefaa

