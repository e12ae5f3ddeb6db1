/-
  A region that draws its order, by an invariant over what has been done: one obligation for each operation.
  What holds in a region that appends an index to a map's slice: by what has been done.
  The contract of the program's indicesByName: a map from names to ascending indices.
  The contract of slices.Equal at slices of ints.
  The contract of the program's callsDiffer.
  The contract of the program's SystemValid.
  All ways from a type to another one, as plain data. Nothing here speaks of the program.
  The model's finder in memory: its way so far and what it has found.
  The contract of the model's finder: all ways from a type, found behind what was found.
-/
import Derived.WalkKit
import Derived.Test.YtdemcoghgnnheaaGreatDoorK6
import Derived.Deep.AppendLies
import Derived.Test.YtdemcoghgnnheaaGreatDoorK1
import Derived.Maps.GroupsBeside
import Derived.Outline
import Derived.Handy
import Derived.Test.YtdemcoghgnnheaaGreatDoorRows
import Derived.BigQuiet
import Derived.Deep.QuietTactic
import Derived.Sort.KeysCollected
import Derived.Test.YtdemcoghgnnheaaGreatDoorK4
import Derived.Test.YtdemcoghgnnheaaGreatDoorK5
import Derived.Test.YtdemcoghgnnheaaGreatDoorK2
import Derived.Deep.RegionLaw
namespace Go.Proofs.YtdemcoghgnnheaaGreatDoor
open Go.RowKit

section
variable {P : Program} {ops : Array Oper} {Q : Exit → Act → World → Prop}

def openCount : List Bool → Nat
  | [] => 0
  | b :: bs => (if b then 0 else 1) + openCount bs
theorem openCount_set : ∀ (l : List Bool) (i : Nat), l[i]? = some false → openCount (l.set i true) + 1 = openCount l := by
  intro l
  induction l with
  | nil => intro i h; simp at h
  | cons b bs ih =>
    intro i h
    cases i with
    | zero =>
      simp at h
      subst h
      simp [openCount]
      omega
    | succ i =>
      simp at h
      have := ih i h
      simp only [List.set_cons_succ, openCount]
      omega
theorem openCount_zero : ∀ (l : List Bool), openCount l = 0 → ∀ b ∈ l, b = true := by
  intro l
  induction l with
  | nil => intro _ b hb; cases hb
  | cons c cs ih =>
    intro h b hb
    cases c with
    | false => simp [openCount] at h
    | true =>
      simp only [openCount, if_true, Nat.zero_add] at h
      rcases List.mem_cons.1 hb with rfl | hb
      · rfl
      · exact ih h b hb

/-- What may come up: it has not been done, and all that binds it has. -/
theorem ready_of {listed : Array Bool} {i : Nat} (h : i ∈ Region.ready .any ops listed) : i < ops.size ∧ listed.getD i true = false ∧ ∃ o, ops[i]? = some o ∧ ∀ e ∈ o.after, Region.binds .any e = true → listed.getD e.on false = true := by
  unfold Region.ready at h
  rw [List.mem_filter] at h
  obtain ⟨h1, h2⟩ := h
  have h1 := List.mem_range.1 h1
  simp only [Bool.and_eq_true, Bool.not_eq_true'] at h2
  obtain ⟨h2, h3⟩ := h2
  refine ⟨h1, h2, ops[i], Array.getElem?_eq_getElem h1, fun e he hb => ?_⟩
  rw [Array.getElem?_eq_getElem h1] at h3
  simp only [Option.map_some, Option.getD_some] at h3
  rw [Array.all_eq_true'] at h3
  have := h3 e he
  simpa [hb] using this
theorem ready_mk {listed : Array Bool} {i : Nat} (h1 : i < ops.size) (h2 : listed.getD i true = false) (h3 : ∀ e ∈ ops[i].after, Region.binds .any e = true → listed.getD e.on false = true) : i ∈ Region.ready .any ops listed := by
  unfold Region.ready
  rw [List.mem_filter]
  refine ⟨List.mem_range.2 h1, ?_⟩
  simp only [Bool.and_eq_true, Bool.not_eq_true']
  refine ⟨h2, ?_⟩
  rw [Array.getElem?_eq_getElem h1]
  simp only [Option.map_some, Option.getD_some]
  rw [Array.all_eq_true']
  intro e he
  cases hb : Region.binds .any e with
  | false => simp
  | true => simp [h3 e he hb]
theorem all_done {listed : Array Bool} (hs : listed.size = ops.size) (hd : ∀ i, ∀ (h : i < ops.size), ∀ e ∈ ops[i].after, Region.binds .any e = true → e.on < i) (hr : Region.ready .any ops listed = []) : ∀ i, i < ops.size → listed.getD i false = true := by
  intro i
  induction i using Nat.strongRecOn with
  | _ i ih =>
    intro hi
    have hl : i < listed.size := by omega
    by_cases h : listed.getD i true = true
    · simpa [Array.getD, hl] using h
    · have hf : listed.getD i true = false := by simpa using h
      have hm := ready_mk (listed := listed) hi hf fun e he hb => ih e.on (hd i hi e he hb) (by have := hd i hi e he hb; omega)
      rw [hr] at hm
      cases hm

theorem wpAny_inv (Inv : (Nat → Bool) → Act → World → Prop) (hd : ∀ i, ∀ (h : i < ops.size), ∀ e ∈ ops[i].after, Region.binds .any e = true → e.on < i)
    (hstep : ∀ (f : Nat → Bool) a w i o, ops[i]? = some o → f i = false → (∀ e ∈ o.after, Region.binds .any e = true → f e.on = true) → Inv f a w → wpOp P ops Q i (Inv fun k => decide (k = i) || f k) a w)
    (hend : ∀ f a w, (∀ k, k < ops.size → f k = true) → Inv f a w → Q .normal a w) :
    ∀ (fuel : Nat) (listed : Array Bool) (a : Act) (w : World), listed.size = ops.size → openCount listed.toList ≤ fuel → Inv (fun k => listed.getD k false) a w → wpAny P .any ops Q fuel listed a w := by
  intro fuel
  induction fuel with
  | zero =>
    intro listed a w hs hf hI
    have hall := openCount_zero listed.toList (by omega)
    have hr : Region.ready .any ops listed = [] := by
      rw [List.eq_nil_iff_forall_not_mem]
      intro i hi
      obtain ⟨h1, h2, _⟩ := ready_of hi
      have hl : i < listed.size := by omega
      have h3 : listed[i] = false := by simpa [Array.getD, hl] using h2
      have h4 := hall listed[i] (by simp)
      rw [h3] at h4
      cases h4
    exact ⟨hr, hend _ a w (all_done hs hd hr) hI⟩
  | succ fuel ih =>
    intro listed a w hs hf hI
    refine ⟨fun hr => hend _ a w (all_done hs hd hr) hI, fun i hi => ?_⟩
    obtain ⟨h1, h2, o, ho, h3⟩ := ready_of hi
    have hl : i < listed.size := by omega
    have h4 : listed[i] = false := by simpa [Array.getD, hl] using h2
    refine wpOp_mono (fun a' w' hI' => ih (listed.setIfInBounds i true) a' w' (by simpa using hs) ?_ ?_) (hstep _ a w i o ho (by simp [Array.getD, hl, h4]) h3 hI)
    · have := openCount_set listed.toList i (by simp [hl, h4])
      simp only [Array.toList_setIfInBounds]
      omega
    · have e : (fun k => decide (k = i) || listed.getD k false) = fun k => (listed.setIfInBounds i true).getD k false := by
        funext k
        by_cases hk : k = i
        · subst hk
          simp [Array.getD, hl]
        · have hk' : ¬ i = k := fun h => hk h.symm
          by_cases hkl : k < listed.size
          · simp [Array.getD, hk, hk', hkl]
          · simp [Array.getD, hk, hkl]
      rw [← e]
      exact hI'

/-- A region that draws its order, by an invariant over what has been done. -/
theorem wp_region_inv {id : Nat} {a : Act} {w : World} (hm : P.follows .mixedOrders = true) (Inv : (Nat → Bool) → Act → World → Prop) (hd : ∀ i, ∀ (h : i < ops.size), ∀ e ∈ ops[i].after, Region.binds .any e = true → e.on < i)
    (h0 : Inv (fun _ => false) a w.drew)
    (hstep : ∀ (f : Nat → Bool) a w i o, ops[i]? = some o → f i = false → (∀ e ∈ o.after, Region.binds .any e = true → f e.on = true) → Inv f a w → wpOp P ops Q i (Inv fun k => decide (k = i) || f k) a w)
    (hend : ∀ f a w, (∀ k, k < ops.size → f k = true) → Inv f a w → Q .normal a w) : (Code.region id ops true).wp P Q a w := by
  refine wp_region_any hm (wpAny_inv Inv hd hstep hend _ _ a _ (by simp) ?_ ?_)
  · have key : ∀ n, openCount (List.replicate n false) = n := by
      intro n
      induction n with
      | zero => rfl
      | succ n ih => simp only [List.replicate_succ, openCount, ih]; simp; omega
    rw [Array.toList_replicate, key]
    exact Nat.le_refl _
  · have e : (fun k => (Array.replicate ops.size false).getD k false) = fun _ => false := by
      funext k
      by_cases hk : k < ops.size
      · simp [Array.getD, hk]
      · simp [Array.getD, hk]
    rw [e]
    exact h0
/-- The same, where the invariant may name the frame that the region begins with. -/
theorem wp_region_inv_at {id : Nat} {a : Act} {w : World} (hm : P.follows .mixedOrders = true) (Inv : Act → (Nat → Bool) → Act → World → Prop) (hd : ∀ i, ∀ (h : i < ops.size), ∀ e ∈ ops[i].after, Region.binds .any e = true → e.on < i)
    (h0 : Inv a (fun _ => false) a w.drew)
    (hstep : ∀ (f : Nat → Bool) a' w i o, ops[i]? = some o → f i = false → (∀ e ∈ o.after, Region.binds .any e = true → f e.on = true) → Inv a f a' w → wpOp P ops Q i (Inv a fun k => decide (k = i) || f k) a' w)
    (hend : ∀ f a' w, (∀ k, k < ops.size → f k = true) → Inv a f a' w → Q .normal a' w) : (Code.region id ops true).wp P Q a w :=
  wp_region_inv hm (Inv a) hd h0 hstep hend
end
end Go.Proofs.YtdemcoghgnnheaaGreatDoor

namespace Go.Proofs.YtdemcoghgnnheaaGreatDoor
open Go.RowKit Go.Maps
open Go.ChangeShapes (lits)

/-- W: the world where the region begins; B: the map's block; p5: the function's box; v, zs: what stands at the name; f: which operations have been done; the letters: what their slots hold. -/
structure IxF (W : World) (B p5 k : Nat) (nm : ByteArray) (v : Value) (zs : List Int) (fin : World → Prop) (f : Nat → Bool) (x14 x15 x16 x17 x18 x19 x20 x21 x22 x23 : Value) (u : World) : Prop where
  c10 : f 10 = true → ∀ j, j < 10 → f j = true
  c9 : f 9 = true → f 6 = true ∧ f 8 = true
  size : W.heap.size ≤ u.heap.size
  pre : f 9 = false → W.grownBy u none
  post : f 9 = true → f 10 = false → W.grownBy u v.ownBlock ∧ u.ownsInts (B + 1) 3 .i64 x23 (zs ++ [(k : Int)]) ∧ (x23.ownBlock = v.ownBlock ∨ ∃ g, x23.ownBlock = some g ∧ W.heap.size ≤ g)
  fin : f 10 = true → fin u
  a0 : f 0 = true → x14 = .map (some B)
  a1 : f 1 = true → x15 = .pointer (some ⟨p5, 0, none⟩)
  a2 : f 2 = true → x16 = .string nm
  a3 : f 3 = true → x17 = .map (some B)
  a4 : f 4 = true → x18 = .pointer (some ⟨p5, 0, none⟩)
  a5 : f 5 = true → x19 = .string nm
  a6 : f 6 = true → x20 = v
  a7 : f 7 = true → x21 = .int .i64 (k : Int)
  a8 : f 8 = true → f 9 = false → ∃ p, W.heap.size ≤ p ∧ x22 = .slice (some ⟨p, 0, none⟩) 1 1 ∧ Row u p 3 [.int .i64 (k : Int)]

section
variable {W u : World} {B p5 k : Nat} {nm : ByteArray} {v : Value} {zs : List Int} {fin : World → Prop} {f : Nat → Bool} {x14 x15 x16 x17 x18 x19 x20 x21 x22 x23 : Value}

/-- Blocks that stood when the region began, other than v's row, stand as they did until the map is written. -/
theorem IxF.block (h : IxF W B p5 k nm v zs fin f x14 x15 x16 x17 x18 x19 x20 x21 x22 x23 u) (h10 : f 10 = false) {j : Nat} (hj : j < W.heap.size) (hv : v.ownBlock ≠ some j) : u.heap[j]? = W.heap[j]? := by
  cases h9 : f 9 with
  | false => exact (h.pre h9).block j hj (by simp)
  | true => exact (h.post h9 h10).1.block j hj (fun e => hv e.symm)
theorem IxF.not10 (h : IxF W B p5 k nm v zs fin f x14 x15 x16 x17 x18 x19 x20 x21 x22 x23 u) {i : Nat} (hi : f i = false) (hlt : i < 11) : f 10 = false := by
  cases h10 : f 10 with
  | false => rfl
  | true =>
    rcases Nat.lt_or_ge i 10 with h1 | h1
    · rw [h.c10 h10 i h1] at hi; cases hi
    · obtain rfl : i = 10 := by omega
      rw [hi] at h10; cases h10

theorem IxF.s0 (h : IxF W B p5 k nm v zs fin f x14 x15 x16 x17 x18 x19 x20 x21 x22 x23 u) (hfi : f 0 = false) : IxF W B p5 k nm v zs fin (fun k => decide (k = 0) || f k) (.map (some B)) x15 x16 x17 x18 x19 x20 x21 x22 x23 u where
  c10 := fun e => absurd (show f 10 = true by simpa using e) (by rw [h.not10 hfi (by omega)]; decide)
  c9 := fun e => by have := h.c9 (by simpa using e); simp [this]
  size := h.size
  pre := fun e => h.pre (by simpa using e)
  post := fun e e2 => h.post (by simpa using e) (by simpa using e2)
  fin := fun e => h.fin (by simpa using e)
  a0 := fun _ => rfl
  a1 := fun e => h.a1 (by simpa using e)
  a2 := fun e => h.a2 (by simpa using e)
  a3 := fun e => h.a3 (by simpa using e)
  a4 := fun e => h.a4 (by simpa using e)
  a5 := fun e => h.a5 (by simpa using e)
  a6 := fun e => h.a6 (by simpa using e)
  a7 := fun e => h.a7 (by simpa using e)
  a8 := fun e e2 => h.a8 (by simpa using e) (by simpa using e2)
theorem IxF.s1 (h : IxF W B p5 k nm v zs fin f x14 x15 x16 x17 x18 x19 x20 x21 x22 x23 u) (hfi : f 1 = false) : IxF W B p5 k nm v zs fin (fun k => decide (k = 1) || f k) x14 (.pointer (some ⟨p5, 0, none⟩)) x16 x17 x18 x19 x20 x21 x22 x23 u where
  c10 := fun e => absurd (show f 10 = true by simpa using e) (by rw [h.not10 hfi (by omega)]; decide)
  c9 := fun e => by have := h.c9 (by simpa using e); simp [this]
  size := h.size
  pre := fun e => h.pre (by simpa using e)
  post := fun e e2 => h.post (by simpa using e) (by simpa using e2)
  fin := fun e => h.fin (by simpa using e)
  a0 := fun e => h.a0 (by simpa using e)
  a1 := fun _ => rfl
  a2 := fun e => h.a2 (by simpa using e)
  a3 := fun e => h.a3 (by simpa using e)
  a4 := fun e => h.a4 (by simpa using e)
  a5 := fun e => h.a5 (by simpa using e)
  a6 := fun e => h.a6 (by simpa using e)
  a7 := fun e => h.a7 (by simpa using e)
  a8 := fun e e2 => h.a8 (by simpa using e) (by simpa using e2)
theorem IxF.s2 (h : IxF W B p5 k nm v zs fin f x14 x15 x16 x17 x18 x19 x20 x21 x22 x23 u) (hfi : f 2 = false) : IxF W B p5 k nm v zs fin (fun k => decide (k = 2) || f k) x14 x15 (.string nm) x17 x18 x19 x20 x21 x22 x23 u where
  c10 := fun e => absurd (show f 10 = true by simpa using e) (by rw [h.not10 hfi (by omega)]; decide)
  c9 := fun e => by have := h.c9 (by simpa using e); simp [this]
  size := h.size
  pre := fun e => h.pre (by simpa using e)
  post := fun e e2 => h.post (by simpa using e) (by simpa using e2)
  fin := fun e => h.fin (by simpa using e)
  a0 := fun e => h.a0 (by simpa using e)
  a1 := fun e => h.a1 (by simpa using e)
  a2 := fun _ => rfl
  a3 := fun e => h.a3 (by simpa using e)
  a4 := fun e => h.a4 (by simpa using e)
  a5 := fun e => h.a5 (by simpa using e)
  a6 := fun e => h.a6 (by simpa using e)
  a7 := fun e => h.a7 (by simpa using e)
  a8 := fun e e2 => h.a8 (by simpa using e) (by simpa using e2)
theorem IxF.s3 (h : IxF W B p5 k nm v zs fin f x14 x15 x16 x17 x18 x19 x20 x21 x22 x23 u) (hfi : f 3 = false) : IxF W B p5 k nm v zs fin (fun k => decide (k = 3) || f k) x14 x15 x16 (.map (some B)) x18 x19 x20 x21 x22 x23 u where
  c10 := fun e => absurd (show f 10 = true by simpa using e) (by rw [h.not10 hfi (by omega)]; decide)
  c9 := fun e => by have := h.c9 (by simpa using e); simp [this]
  size := h.size
  pre := fun e => h.pre (by simpa using e)
  post := fun e e2 => h.post (by simpa using e) (by simpa using e2)
  fin := fun e => h.fin (by simpa using e)
  a0 := fun e => h.a0 (by simpa using e)
  a1 := fun e => h.a1 (by simpa using e)
  a2 := fun e => h.a2 (by simpa using e)
  a3 := fun _ => rfl
  a4 := fun e => h.a4 (by simpa using e)
  a5 := fun e => h.a5 (by simpa using e)
  a6 := fun e => h.a6 (by simpa using e)
  a7 := fun e => h.a7 (by simpa using e)
  a8 := fun e e2 => h.a8 (by simpa using e) (by simpa using e2)
theorem IxF.s4 (h : IxF W B p5 k nm v zs fin f x14 x15 x16 x17 x18 x19 x20 x21 x22 x23 u) (hfi : f 4 = false) : IxF W B p5 k nm v zs fin (fun k => decide (k = 4) || f k) x14 x15 x16 x17 (.pointer (some ⟨p5, 0, none⟩)) x19 x20 x21 x22 x23 u where
  c10 := fun e => absurd (show f 10 = true by simpa using e) (by rw [h.not10 hfi (by omega)]; decide)
  c9 := fun e => by have := h.c9 (by simpa using e); simp [this]
  size := h.size
  pre := fun e => h.pre (by simpa using e)
  post := fun e e2 => h.post (by simpa using e) (by simpa using e2)
  fin := fun e => h.fin (by simpa using e)
  a0 := fun e => h.a0 (by simpa using e)
  a1 := fun e => h.a1 (by simpa using e)
  a2 := fun e => h.a2 (by simpa using e)
  a3 := fun e => h.a3 (by simpa using e)
  a4 := fun _ => rfl
  a5 := fun e => h.a5 (by simpa using e)
  a6 := fun e => h.a6 (by simpa using e)
  a7 := fun e => h.a7 (by simpa using e)
  a8 := fun e e2 => h.a8 (by simpa using e) (by simpa using e2)
theorem IxF.s5 (h : IxF W B p5 k nm v zs fin f x14 x15 x16 x17 x18 x19 x20 x21 x22 x23 u) (hfi : f 5 = false) : IxF W B p5 k nm v zs fin (fun k => decide (k = 5) || f k) x14 x15 x16 x17 x18 (.string nm) x20 x21 x22 x23 u where
  c10 := fun e => absurd (show f 10 = true by simpa using e) (by rw [h.not10 hfi (by omega)]; decide)
  c9 := fun e => by have := h.c9 (by simpa using e); simp [this]
  size := h.size
  pre := fun e => h.pre (by simpa using e)
  post := fun e e2 => h.post (by simpa using e) (by simpa using e2)
  fin := fun e => h.fin (by simpa using e)
  a0 := fun e => h.a0 (by simpa using e)
  a1 := fun e => h.a1 (by simpa using e)
  a2 := fun e => h.a2 (by simpa using e)
  a3 := fun e => h.a3 (by simpa using e)
  a4 := fun e => h.a4 (by simpa using e)
  a5 := fun _ => rfl
  a6 := fun e => h.a6 (by simpa using e)
  a7 := fun e => h.a7 (by simpa using e)
  a8 := fun e e2 => h.a8 (by simpa using e) (by simpa using e2)
theorem IxF.s6 (h : IxF W B p5 k nm v zs fin f x14 x15 x16 x17 x18 x19 x20 x21 x22 x23 u) (hfi : f 6 = false) : IxF W B p5 k nm v zs fin (fun k => decide (k = 6) || f k) x14 x15 x16 x17 x18 x19 v x21 x22 x23 u where
  c10 := fun e => absurd (show f 10 = true by simpa using e) (by rw [h.not10 hfi (by omega)]; decide)
  c9 := fun e => by have := h.c9 (by simpa using e); simp [this]
  size := h.size
  pre := fun e => h.pre (by simpa using e)
  post := fun e e2 => h.post (by simpa using e) (by simpa using e2)
  fin := fun e => h.fin (by simpa using e)
  a0 := fun e => h.a0 (by simpa using e)
  a1 := fun e => h.a1 (by simpa using e)
  a2 := fun e => h.a2 (by simpa using e)
  a3 := fun e => h.a3 (by simpa using e)
  a4 := fun e => h.a4 (by simpa using e)
  a5 := fun e => h.a5 (by simpa using e)
  a6 := fun _ => rfl
  a7 := fun e => h.a7 (by simpa using e)
  a8 := fun e e2 => h.a8 (by simpa using e) (by simpa using e2)
theorem IxF.s7 (h : IxF W B p5 k nm v zs fin f x14 x15 x16 x17 x18 x19 x20 x21 x22 x23 u) (hfi : f 7 = false) : IxF W B p5 k nm v zs fin (fun k => decide (k = 7) || f k) x14 x15 x16 x17 x18 x19 x20 (.int .i64 (k : Int)) x22 x23 u where
  c10 := fun e => absurd (show f 10 = true by simpa using e) (by rw [h.not10 hfi (by omega)]; decide)
  c9 := fun e => by have := h.c9 (by simpa using e); simp [this]
  size := h.size
  pre := fun e => h.pre (by simpa using e)
  post := fun e e2 => h.post (by simpa using e) (by simpa using e2)
  fin := fun e => h.fin (by simpa using e)
  a0 := fun e => h.a0 (by simpa using e)
  a1 := fun e => h.a1 (by simpa using e)
  a2 := fun e => h.a2 (by simpa using e)
  a3 := fun e => h.a3 (by simpa using e)
  a4 := fun e => h.a4 (by simpa using e)
  a5 := fun e => h.a5 (by simpa using e)
  a6 := fun e => h.a6 (by simpa using e)
  a7 := fun _ => rfl
  a8 := fun e e2 => h.a8 (by simpa using e) (by simpa using e2)
theorem IxF.s8 (h : IxF W B p5 k nm v zs fin f x14 x15 x16 x17 x18 x19 x20 x21 x22 x23 u) (hfi : f 8 = false) : IxF W B p5 k nm v zs fin (fun k => decide (k = 8) || f k) x14 x15 x16 x17 x18 x19 x20 x21 (.slice (some ⟨u.heap.size, 0, none⟩) 1 1) x23 (u.alloc (.cells #[.int .i64 (k : Int)] 3)) where
  c10 := fun e => absurd (show f 10 = true by simpa using e) (by rw [h.not10 hfi (by omega)]; decide)
  c9 := fun e => by have := (h.c9 (by simpa using e)).2; rw [hfi] at this; cases this
  size := by have := h.size; simp; omega
  pre := fun e => (h.pre (by simpa using e)).trans (World.grownBy_alloc _ _ _)
  post := fun e _ => by have := (h.c9 (by simpa using e)).2; rw [hfi] at this; cases this
  fin := fun e => absurd (show f 10 = true by simpa using e) (by rw [h.not10 hfi (by omega)]; decide)
  a0 := fun e => h.a0 (by simpa using e)
  a1 := fun e => h.a1 (by simpa using e)
  a2 := fun e => h.a2 (by simpa using e)
  a3 := fun e => h.a3 (by simpa using e)
  a4 := fun e => h.a4 (by simpa using e)
  a5 := fun e => h.a5 (by simpa using e)
  a6 := fun e => h.a6 (by simpa using e)
  a7 := fun e => h.a7 (by simpa using e)
  a8 := fun _ _ => ⟨u.heap.size, h.size, rfl, Row.new u _ _⟩
theorem IxF.s9 (h : IxF W B p5 k nm v zs fin f x14 x15 x16 x17 x18 x19 x20 x21 x22 x23 u) (hfi : f 9 = false) (h6 : f 6 = true) (h8 : f 8 = true) {v' : Value} {u' : World} (hg : u.grownBy u' v.ownBlock) (hown : u'.ownsInts (B + 1) 3 .i64 v' (zs ++ [(k : Int)])) (hloc : v'.ownBlock = v.ownBlock ∨ v'.ownBlock = some u.heap.size) :
    IxF W B p5 k nm v zs fin (fun k => decide (k = 9) || f k) x14 x15 x16 x17 x18 x19 x20 x21 x22 v' u' where
  c10 := fun e => absurd (show f 10 = true by simpa using e) (by rw [h.not10 hfi (by omega)]; decide)
  c9 := fun _ => by simp [h6, h8]
  size := Nat.le_trans h.size hg.size
  pre := fun e => by simp at e
  post := fun _ _ => by
    have hp := h.pre hfi
    refine ⟨⟨hg.os.trans hp.os, hg.tape.trans hp.tape, hg.output.trans hp.output, Nat.le_trans hp.size hg.size, fun i hi hne => (hg.block i (by have := h.size; omega) hne).trans (hp.block i hi (by simp))⟩, hown, hloc.imp id fun e => ⟨_, e, h.size⟩⟩
  fin := fun e => absurd (show f 10 = true by simpa using e) (by rw [h.not10 hfi (by omega)]; decide)
  a0 := fun e => h.a0 (by simpa using e)
  a1 := fun e => h.a1 (by simpa using e)
  a2 := fun e => h.a2 (by simpa using e)
  a3 := fun e => h.a3 (by simpa using e)
  a4 := fun e => h.a4 (by simpa using e)
  a5 := fun e => h.a5 (by simpa using e)
  a6 := fun e => h.a6 (by simpa using e)
  a7 := fun e => h.a7 (by simpa using e)
  a8 := fun _ e => by simp at e
theorem IxF.s10 (h : IxF W B p5 k nm v zs fin f x14 x15 x16 x17 x18 x19 x20 x21 x22 x23 u) (hall : ∀ j, j < 10 → f j = true) {u' : World} (hs : u.heap.size ≤ u'.heap.size) (hfin : fin u') :
    IxF W B p5 k nm v zs fin (fun k => decide (k = 10) || f k) x14 x15 x16 x17 x18 x19 x20 x21 x22 x23 u' where
  c10 := fun _ j hj => by simp [hall j hj]
  c9 := fun _ => by simp [hall 6 (by omega), hall 8 (by omega)]
  size := Nat.le_trans h.size hs
  pre := fun e => by simp [hall 9 (by omega)] at e
  post := fun _ e => by simp at e
  fin := fun _ => hfin
  a0 := fun e => h.a0 (by simpa using e)
  a1 := fun e => h.a1 (by simpa using e)
  a2 := fun e => h.a2 (by simpa using e)
  a3 := fun e => h.a3 (by simpa using e)
  a4 := fun e => h.a4 (by simpa using e)
  a5 := fun e => h.a5 (by simpa using e)
  a6 := fun e => h.a6 (by simpa using e)
  a7 := fun e => h.a7 (by simpa using e)
  a8 := fun _ e => by simp [hall 9 (by omega)] at e
end
end Go.Proofs.YtdemcoghgnnheaaGreatDoor

namespace Go.Proofs.YtdemcoghgnnheaaGreatDoor
open Go.RowKit Go.Maps
open Go.ChangeShapes (lits)

theorem if_go {c : Bool} {A B : Prop} (h : c = true) (ha : A) : if c = true then A else B := by rw [if_pos h]; exact ha
theorem zeroInts (u : World) : (zeroValue 22).run Tryz.prog u = .ok (.slice none 0 0) u := by kernel_rfl
theorem groups_of_heap {w w' : World} {k e : TypeId} {base b n : Nat} {D : DataW Unit} (h : w.ownsGroups Tryz.prog k base e .i64 b n D) (hg : w.grownBy w' none) : w'.ownsGroups Tryz.prog k base e .i64 b n D :=
  h.kept hg (by simp) fun es clock _ x _ => by cases x.val.ownBlock <;> simp

set_option maxRecDepth 100000 in
set_option maxHeartbeats 4000000 in
theorem indicesByName_any (lo hi : Nat) (v : Value) (fs : List Fu) (w : World) (hv : FusAt w lo hi v fs) (hB : hi ≤ w.heap.size) (hlen : fs.length ≤ 1048576) :
    Calls Tryz.prog 159 #[v] w fun e w' => ∃ D : DataW Unit, e = .returned (.map (some w.heap.size)) ∧ Below w.heap.size w w' ∧ Grp fs fs.length D ∧ w'.ownsGroups Tryz.prog 9 (w.heap.size + 1) 3 .i64 w.heap.size fs.length D := by
  obtain ⟨F, cap, rfl, hl1, hm1, hv1⟩ := hv.form
  unfold maxLen at hm1
  have hmm := @run_makeMap Tryz.prog
  obtain ⟨i0, hi0, hz0, hz1, hz2⟩ := info_parts Tryz.infoInt
  have Hv := Lib.hid hv1
  clear hv hv1
  go_enter Tryz.func159, Tryz.ntmps159
  go_wp2
  go_loopw [9] (fun i wr => ∃ k : Nat, k ≤ fs.length ∧ i = .int .i64 k ∧ Hid (∃ D : DataW Unit, Grp fs k D ∧ wr.ownsGroups Tryz.prog 9 (w.heap.size + 1) 3 .i64 w.heap.size k D) ∧ Hid (Below w.heap.size w wr) ∧ w.heap.size + 1 ≤ wr.heap.size) (fun i _ => fs.length - (intOf i).toNat)
  case atStart => exact ⟨0, Nat.zero_le _, rfl, ⟨.map [], Grp.start fs, World.ownsGroups_made _ _ _ _ _⟩, (Below.refl _ _).alloc (Nat.le_refl _) _, by simp⟩
  case round =>
    obtain ⟨k, hk, rfl, hD, hb, hws⟩ := hrel
    by_cases hlt : k < fs.length
    · obtain ⟨b, off, A1, cap1, A2, cap2, rfl, hlo, hhi, c0, c1, c2, c3, _, _, _, _, hfu⟩ := (Hv.out.below hb.out hB).at_ hlt
      have hsn : Hid (fs[k].name.size ≤ maxLen) := hfu.2.2.1
      have hnm : Hid ((fs.getD k default).name = fs[k].name) := by show _ = _; rw [List.getD_eq_getElem?_getD, List.getElem?_eq_getElem hlt]; rfl
      clear hfu
      generalize fs[k].name = nm at *
      generalize fs[k].args.length = an at *
      generalize fs[k].table.length = tn at *
      generalize fs[k].res = rn at *
      go_wp2_with fail
      obtain ⟨D, hgrp, hown⟩ := hD.out
      obtain ⟨W, hW⟩ : ∃ W, W = (wr.alloc (.cells #[.string nm, .slice A1 an cap1, .int .i64 rn, .slice A2 tn cap2] 110)) := ⟨_, rfl⟩
      have hbox : Row W wr.heap.size 110 [.string nm, .slice A1 an cap1, .int .i64 rn, .slice A2 tn cap2] := by rw [hW]; exact Row.new wr _ _
      have hWs : wr.heap.size < W.heap.size := hbox.lt
      have hWb : Below w.heap.size w W := by rw [hW]; exact hb.out.alloc (by omega) _
      have hWo : W.drew.ownsGroups Tryz.prog 9 (w.heap.size + 1) 3 .i64 w.heap.size k D := by
        refine groups_of_heap hown ?_
        rw [hW]
        exact ⟨rfl, rfl, rfl, by show wr.heap.size ≤ (wr.alloc _).heap.size; simp, fun j hj _ => Below.heap_alloc wr _ j hj⟩
      rw [← hW]
      clear hW
      obtain ⟨v, zs, hlook, hat, hoi, hzl, hback⟩ := groups_look hWo lawStr Tryz.underlying219 zeroInts (by unfold maxLen; omega) (kN_key hsn.out)
      obtain ⟨hzs, hgrp2⟩ := hgrp.step hnm.out hsn.out hoi hat
      have hvB : v.ownBlock ≠ some w.heap.size := fun e => by have := (hoi.1.lt _ e).1; omega
      have hvP : v.ownBlock ≠ some wr.heap.size := fun e => by
        obtain ⟨_, ⟨rfl, _⟩ | ⟨g', cap', cur, rfl, _, hh, _⟩⟩ := hoi.1
        · simp [Value.ownBlock] at e
        · simp only [Value.ownBlock, Option.some.injEq] at e
          subst e
          have hb2 : W.drew.heap[wr.heap.size]? = _ := hbox
          rw [hb2] at hh
          simp only [Option.some.injEq, Obj.cells.injEq] at hh
          exact absurd hh.2.1 (by decide)
      have hvlt : ∀ g, v.ownBlock = some g → g < W.heap.size := fun g e => (hoi.1.lt g e).2
      have Hlook := Lib.hid hlook
      have Hoi := Lib.hid hoi
      have Hback := Lib.hid hback
      have Hgrp2 := Lib.hid hgrp2
      have Hbox := Lib.hid hbox
      have HWb := Lib.hid hWb
      have HvB := Lib.hid hvB
      have HvP := Lib.hid hvP
      have Hvlt := Lib.hid hvlt
      have HwfK : Hid ((Lit.int .i64 (k : Int)).wf = true) := WalkArith.wf_i64 (by omega)
      have Hi0 := Lib.hid hi0
      have Hz0 := Lib.hid hz0
      have Hz1 := Lib.hid hz1
      have Hz2 := Lib.hid hz2
      clear hlook hoi hback hgrp2 hbox hWb hvB hvP hvlt hWo hgrp hown hat hzs c0 c1 c2 c3 hD hb hi0 hz0 hz1 hz2
      refine wp_region_inv (by kernel_rfl) (fun f x u => ∃ x14 x15 x16 x17 x18 x19 x20 x21 x22 x23, x = ⟨#[.slice (some ⟨b, off, none⟩) fs.length cap, undef, .map none, .map (some w.heap.size), .int .i64 (k : Nat), .pointer (some ⟨wr.heap.size, 0, none⟩), .map (some w.heap.size), .slice (some ⟨b, off, none⟩) fs.length cap, .int .i64 (fs.length : Nat), .int .i64 (k : Nat), .bool true, .int .i64 (k : Nat), .pointer (some ⟨b, off + k * 4, none⟩), .agg #[.string nm, .slice A1 an cap1, .int .i64 rn, .slice A2 tn cap2], x14, x15, x16, x17, x18, x19, x20, x21, x22, x23, u24, undef], []⟩ ∧ IxF W.drew w.heap.size wr.heap.size k nm v zs (fun u => (∃ D : DataW Unit, Grp fs (k + 1) D ∧ u.ownsGroups Tryz.prog 9 (w.heap.size + 1) 3 .i64 w.heap.size (k + 1) D) ∧ Below w.heap.size w u) f x14 x15 x16 x17 x18 x19 x20 x21 x22 x23 u) (of_decide_eq_true (by kernel_rfl)) ⟨_, _, _, _, _, _, _, _, _, _, rfl, ⟨nofun, nofun, Nat.le_refl _, fun _ => ⟨rfl, rfl, rfl, Nat.le_refl _, fun _ _ _ => rfl⟩, nofun, nofun, nofun, nofun, nofun, nofun, nofun, nofun, nofun, nofun, nofun⟩⟩ ?_ ?_
      · rintro f x u q o ho hfi hdep ⟨x14, x15, x16, x17, x18, x19, x20, x21, x22, x23, rfl, hF⟩
        have hil : q < 11 := by have := (Array.getElem?_eq_some_iff.1 ho).1; simpa using this
        have h10 := hF.not10 hfi hil
        have hsz : W.heap.size ≤ u.heap.size := hF.size
        have cP : u.cell? ⟨wr.heap.size, 0, none⟩ = some (.string nm) := by
          have hb2 : u.heap[wr.heap.size]? = W.drew.heap[wr.heap.size]? := hF.block h10 hWs HvP.out
          exact (World.cell?_of_block (w := W.drew) hb2).trans (Hbox.out.cell 0)
        have hB : u.heap[w.heap.size]? = W.drew.heap[w.heap.size]? := hF.block h10 (by show _ < W.heap.size; omega) HvB.out
        have hlk := Hlook.out u hB
        clear hB
        obtain rfl | rfl | rfl | rfl | rfl | rfl | rfl | rfl | rfl | rfl | rfl : q = 0 ∨ q = 1 ∨ q = 2 ∨ q = 3 ∨ q = 4 ∨ q = 5 ∨ q = 6 ∨ q = 7 ∨ q = 8 ∨ q = 9 ∨ q = 10 := by omega
        all_goals
          obtain rfl := Option.some.inj ho
          refine wpOp_step ho fun K hK => ?_
          simp [Region.binds] at hdep
          clear ho
        · refine if_go rfl ?_
          have HF := Lib.hid hF
          clear hF
          unfold Oper.wp
          go_simp
          exact hK _ _ ⟨_, _, _, _, _, _, _, _, _, _, rfl, HF.out.s0 hfi⟩
        · refine if_go rfl ?_
          have HF := Lib.hid hF
          clear hF
          unfold Oper.wp
          go_simp
          exact hK _ _ ⟨_, _, _, _, _, _, _, _, _, _, rfl, HF.out.s1 hfi⟩
        · have d1 : f 1 = true := by simp [hdep]
          obtain rfl := hF.a1 d1
          refine if_go rfl ?_
          have HF := Lib.hid hF
          clear hF
          unfold Oper.wp
          go_simp
          exact hK _ _ ⟨_, _, _, _, _, _, _, _, _, _, rfl, HF.out.s2 hfi⟩
        · refine if_go rfl ?_
          have HF := Lib.hid hF
          clear hF
          unfold Oper.wp
          go_simp
          exact hK _ _ ⟨_, _, _, _, _, _, _, _, _, _, rfl, HF.out.s3 hfi⟩
        · refine if_go rfl ?_
          have HF := Lib.hid hF
          clear hF
          unfold Oper.wp
          go_simp
          exact hK _ _ ⟨_, _, _, _, _, _, _, _, _, _, rfl, HF.out.s4 hfi⟩
        · have d4 : f 4 = true := by simp [hdep]
          obtain rfl := hF.a4 d4
          refine if_go rfl ?_
          have HF := Lib.hid hF
          clear hF
          unfold Oper.wp
          go_simp
          exact hK _ _ ⟨_, _, _, _, _, _, _, _, _, _, rfl, HF.out.s5 hfi⟩
        · have d3 : f 3 = true := by simp [hdep]
          obtain rfl := hF.a3 d3
          have d5 : f 5 = true := by simp [hdep]
          obtain rfl := hF.a5 d5
          refine if_go rfl ?_
          have HF := Lib.hid hF
          clear hF
          unfold Oper.wp
          go_simp
          exact hK _ _ ⟨_, _, _, _, _, _, _, _, _, _, rfl, HF.out.s6 hfi⟩
        · refine if_go rfl ?_
          have HF := Lib.hid hF
          clear hF
          unfold Oper.wp
          go_simp
          exact hK _ _ ⟨_, _, _, _, _, _, _, _, _, _, rfl, HF.out.s7 hfi⟩
        · have d7 : f 7 = true := by simp [hdep]
          obtain rfl := hF.a7 d7
          refine if_go rfl ?_
          have HF := Lib.hid hF
          clear hF
          unfold Oper.wp
          go_simp
          exact hK _ _ ⟨_, _, _, _, _, _, _, _, _, _, rfl, HF.out.s8 hfi⟩
        · have d6 : f 6 = true := by simp [hdep]
          have d8 : f 8 = true := by simp [hdep]
          obtain rfl := hF.a6 d6
          obtain ⟨p, hp, rfl, hrow⟩ := hF.a8 d8 hfi
          have hpre := hF.pre hfi
          have hou : u.ownsInts (w.heap.size + 1) 3 .i64 x20 zs := Hoi.out.kept hpre (by cases x20.ownBlock <;> simp)
          refine step_append_lies u rfl (.tmp 20) (.tmp 22) 22 rfl (w.heap.size + 1) 3 i0 (.int .i64 0) 1 8 Tryz.underlying22 Hi0.out Hz0.out Hz1.out Hz2.out rfl (by decide) x20 zs.length _ rfl hou.1 ⟨p, 0, none⟩ 1 1 [.int .i64 (k : Int)] rfl rfl (World.news_of_block hrow) (by simp [Value.oneCell']) (by omega) (by unfold maxLen; omega) (by omega) (by omega) u.heap.size rfl ?_
          intro g cap' u' ho' hg' hloc' hlt'
          exact hK _ _ ⟨_, _, _, _, _, _, _, _, _, _, rfl, hF.s9 hfi d6 d8 hg' (hou.appended ho' HwfK.out) (hloc'.imp (fun e => e.symm) (fun e => by rw [e]; rfl))⟩
        · have hall : ∀ j, j < 10 → f j = true := fun j hj => by
            obtain rfl | rfl | rfl | rfl | rfl | rfl | rfl | rfl | rfl | rfl : j = 0 ∨ j = 1 ∨ j = 2 ∨ j = 3 ∨ j = 4 ∨ j = 5 ∨ j = 6 ∨ j = 7 ∨ j = 8 ∨ j = 9 := by omega
            all_goals simp [hdep]
          obtain rfl := hF.a0 (hall 0 (by omega))
          obtain rfl := hF.a2 (hall 2 (by omega))
          obtain ⟨hgr, hox, hlc⟩ := hF.post (hall 9 (by omega)) hfi
          obtain ⟨u2, hrun, hown2, hgr2⟩ := Hback.out u x23 (zs ++ [(k : Int)]) hgr hox (by simp; omega) hlc
          have hD2 := hox.datum_pos (H := Unit) (by simp)
          rw [hD2] at hown2
          have hfin : Hid ((∃ D : DataW Unit, Grp fs (k + 1) D ∧ u2.ownsGroups Tryz.prog 9 (w.heap.size + 1) 3 .i64 w.heap.size (k + 1) D) ∧ Below w.heap.size w u2) := by
            refine ⟨⟨_, Hgrp2.out, hown2⟩, ⟨hgr2.os.trans (hgr.os.trans HWb.out.os), hgr2.tape.trans (hgr.tape.trans HWb.out.tape), hgr2.output.trans (hgr.output.trans HWb.out.output), Nat.le_trans HWb.out.size (Nat.le_trans hgr.size hgr2.size), fun j hj => ?_⟩⟩
            have hjW : j < W.heap.size := Nat.lt_of_lt_of_le hj HWb.out.size
            exact (hgr2.block j (by omega) (by simp; omega)).trans ((hgr.block j hjW (fun e => by have := (Hoi.out.1.lt j e.symm).1; omega)).trans (HWb.out.block j hj))
          have hs2 := hgr2.size
          refine if_go rfl ?_
          have HF := Lib.hid hF
          clear hF hown2 hgr2 hgr hox hlc hD2 hlk
          unfold Oper.wp
          go_simp
          exact hK _ _ ⟨_, _, _, _, _, _, _, _, _, _, rfl, HF.out.s10 hall hs2 hfin.out⟩
      · rintro f x u hall ⟨x14, x15, x16, x17, x18, x19, x20, x21, x22, x23, rfl, hF⟩
        have hfin := Lib.hid (hF.fin (hall 10 (by simp)))
        have hus : w.heap.size + 1 ≤ u.heap.size := Nat.le_trans (by show _ ≤ W.heap.size; omega) hF.size
        clear hF hall
        go_wp2
        go_roundw
        case rel => exact ⟨k + 1, by omega, by go_num, hfin.out.1, hfin.out.2, hus⟩
        case measure => simp [intOf]; omega
    · obtain rfl : k = fs.length := by omega
      go_wp2
      go_ret
      obtain ⟨D, h1, h2⟩ := hD.out
      exact ⟨D, rfl, hb.out, h1, h2⟩
end Go.Proofs.YtdemcoghgnnheaaGreatDoor

namespace Go.Proofs.YtdemcoghgnnheaaGreatDoor
open Go.RowKit

set_option maxRecDepth 100000 in
set_option maxHeartbeats 2000000 in
theorem slicesEqual_any (lo hi lo2 hi2 : Nat) (xv yv : Value) (xs ys : List Int) (w : World) (hx : IntsAt w lo hi xv xs) (hy : IntsAt w lo2 hi2 yv ys) (_hB : hi ≤ w.heap.size) (_hB2 : hi2 ≤ w.heap.size) :
    Calls Tryz.prog 160 #[xv, yv] w fun e w' => e = .returned (.bool (decide (xs = ys))) ∧ ∃ m, w' = w.drewN m := by
  obtain ⟨X, xap, rfl, hlx, hmx, hx1⟩ := hx.form
  obtain ⟨Y, yap, rfl, hly, hmy, hy1⟩ := hy.form
  unfold maxLen at hmx hmy
  have Hx := Lib.hid hx1
  have Hy := Lib.hid hy1
  clear hx hy hx1 hy1
  by_cases hl : xs.length = ys.length
  · have hd : ((xs.length : Int) != (ys.length : Int)) = false := by simp [hl]
    go_enter Tryz.func160, Tryz.ntmps160
    go_wp2
    clear hd
    have Hl := Lib.hid hl
    clear hl
    go_loopw [13] (fun i wr => ∃ j : Nat, j ≤ ys.length ∧ i = .int .i64 j ∧ Hid (∃ m, wr = w.drewN m) ∧ Hid (∀ k, ∀ (h1 : k < xs.length) (h2 : k < ys.length), k < j → xs[k] = ys[k])) (fun i _ => ys.length - (intOf i).toNat)
    case atStart => exact ⟨0, Nat.zero_le _, rfl, ⟨0, rfl⟩, fun k _ _ h => absurd h (by omega)⟩
    case round =>
      obtain ⟨j, hj, rfl, hb, hpre⟩ := hrel
      by_cases hlt2 : j < ys.length
      · have hlt : j < xs.length := by have := Hl.out; omega
        obtain ⟨b, off, rfl, _, _, c0, _⟩ := (show IntsAt wr lo hi _ xs from by obtain ⟨m, rfl⟩ := hb.out; exact Hx.out).at_ (k := j) hlt
        obtain ⟨b', off', rfl, _, _, c0', _⟩ := (show IntsAt wr lo2 hi2 _ ys from by obtain ⟨m, rfl⟩ := hb.out; exact Hy.out).at_ (k := j) hlt2
        have hi1 : (j : Int) < (xs.length : Int) := by omega
        have hi2' : (j : Int) < (ys.length : Int) := by omega
        by_cases he : xs[j] = ys[j]
        · have htest : (xs[j] != ys[j]) = false := by simpa using he
          have hpre2 : Hid (∀ k, ∀ (h1 : k < xs.length) (h2 : k < ys.length), k < j + 1 → xs[k] = ys[k]) := fun k h1 h2 h => by
            by_cases e : k = j
            · subst e; exact he
            · exact hpre.out k h1 h2 (by omega)
          clear he
          go_wp2
          go_quiet (fail)
          go_wp2
          go_roundw
          case rel => exact ⟨j + 1, by omega, by go_num, (by show ∃ m, _ = _; obtain ⟨m, rfl⟩ := hb.out; exact ⟨_, World.drewN_drewN ..⟩), hpre2⟩
          case measure => simp [intOf]; omega
        · have htest : (xs[j] != ys[j]) = true := by simpa using he
          have hno : Hid (decide (xs = ys) = false) := by show _ = _; exact decide_eq_false fun e => he (by subst e; rfl)
          clear he
          go_wp2
          go_quiet (fail)
          go_wp2
          go_ret
          exact ⟨ret_bool hno.out.symm, by obtain ⟨m, rfl⟩ := hb.out; exact ⟨_, World.drewN_drewN ..⟩⟩
      · obtain rfl : j = ys.length := by omega
        have hyes : Hid (decide (xs = ys) = true) := by show _ = _; exact decide_eq_true (List.ext_getElem Hl.out fun k h1 h2 => hpre.out k h1 h2 h2)
        go_wp2
        go_ret
        exact ⟨ret_bool hyes.out.symm, hb.out⟩
  · have hno : Hid (decide (xs = ys) = false) := by show _ = _; exact decide_eq_false fun e => hl (by rw [e])
    have hd : ((xs.length : Int) != (ys.length : Int)) = true := by simp; omega
    go_enter Tryz.func160, Tryz.ntmps160
    go_wp2
    go_ret
    exact ⟨ret_bool hno.out.symm, ⟨0, rfl⟩⟩
theorem slicesEqual_quiet (lo hi lo2 hi2 : Nat) (xv yv : Value) (xs ys : List Int) (w : World) (n : Nat) (b : Bool) (hb : decide (xs = ys) = b) (hx : IntsAt w lo hi xv xs) (hy : IntsAt w lo2 hi2 yv ys) (hB : hi ≤ w.heap.size) (hB2 : hi2 ≤ w.heap.size) :
    Calls Tryz.prog 160 #[xv, yv] (w.drewN n) fun e w' => e = .returned (.bool b) ∧ ∃ m, w' = w.drewN m :=
  (slicesEqual_any lo hi lo2 hi2 xv yv xs ys (w.drewN n) hx hy hB hB2).mono fun _ _ ⟨h1, m, h2⟩ => ⟨hb ▸ h1, n + m, h2.trans (World.drewN_drewN ..)⟩
end Go.Proofs.YtdemcoghgnnheaaGreatDoor

namespace Go.Proofs.YtdemcoghgnnheaaGreatDoor
open Go.RowKit Go.Maps
open Go.ChangeShapes (lits)

theorem ints_of_owns {w : World} {base : Nat} {v : Value} {zs : List Int} (h : w.ownsInts base 3 .i64 v zs) : IntsAt w base w.heap.size v zs := by
  obtain ⟨g, ho, hg⟩ := OwnI.of_owns h.1
  exact ho.ints (fun z hz => by have := h.2 z hz; simpa [Lit.wf, IntKind.min, IntKind.max, IntKind.signed, IntKind.bits, I64] using this) hg

/-- What is left when nothing else than the iterator has turned. -/
theorem ranges_of_heap {w w' : World} {k : TypeId} {R : Value → Option (DataW Unit × List MemPlace)} {b r n cnt : Nat} {D : DataW Unit} {left : Lit → Bool} (h : w.ranges Tryz.prog k R b r n D left cnt) (hh : w'.heap = w.heap) : w'.ranges Tryz.prog k R b r n D left cnt := by
  obtain ⟨es, clock, since, seen, c0, h1, h2, h3, h4, h5, h6⟩ := h
  exact ⟨es, clock, since, seen, c0, by rw [hh]; exact h1, h2, h3, h4, by rw [hh]; exact h5, h6⟩

set_option maxRecDepth 100000 in
set_option maxHeartbeats 4000000 in
theorem callsDiffer_any (lo hi : Nat) (v : Value) (fs : List Fu) (w : World) (hv : FusAt w lo hi v fs) (hB : hi ≤ w.heap.size) (hlen : fs.length ≤ 1048576) :
    Calls Tryz.prog 121 #[v] w fun e w' => e = .returned (.bool (differB fs)) ∧ Below w.heap.size w w' := by
  obtain ⟨F, cap, rfl, hl1, hm1, hv1⟩ := hv.form
  unfold maxLen at hm1
  have Hv := Lib.hid hv1
  clear hv hv1
  go_enter Tryz.func121, Tryz.ntmps121
  go_wp2_with fail
  refine (indicesByName_any lo hi _ fs w Hv.out hB hlen).mono ?_
  rintro e w1 ⟨D, rfl, hb1, hgrp, hown⟩
  have hmap : w1.ownsMap Tryz.prog 9 (rowElem w1 (w.heap.size + 1) 3 .i64) w.heap.size fs.length D := by
    obtain ⟨es, clock, h1, h2, h3, h4, _⟩ := hown
    exact ⟨es, clock, h1, h2, h3, h4⟩
  have Hgrp := Lib.hid hgrp
  have Hb1 := Lib.hid hb1
  clear hgrp hb1 hown
  go_wp2_with (first | (at_range; refine wpList_range_own _ rfl _ 219 rfl 9 22 lawStr Tryz.underlying219 _ w.heap.size fs.length D rfl hmap ?_; intro w2 hrg2 hg2 hs2) | go_in)
  go_frame
  have Hrg2 := Lib.hid hrg2
  have Hg2 := Lib.hid hg2
  clear hrg2 hg2 hs2 hmap
  go_loopw [12] (fun _ wr => ∃ left cnt, Hid (wr.ranges Tryz.prog 9 (rowElem w1 (w.heap.size + 1) 3 .i64) w.heap.size w1.heap.size fs.length D left cnt) ∧ Hid (Below w1.heap.size w1 wr) ∧
    Hid (∀ nm : ByteArray, nm.size ≤ maxLen → left (kN nm) = false → Parts fs (idxs fs fs.length nm))) (fun _ wr => wr.rangeLeft w.heap.size w1.heap.size)
  case atStart =>
    refine ⟨Maps.has D, Maps.size D, Hrg2.out, ⟨Hg2.out.os, Hg2.out.tape, Hg2.out.output, Hg2.out.size, fun k hk => Hg2.out.block k hk (by simp)⟩, fun nm hs hl a b ha _ => ?_⟩
    have hno : ¬ idxs fs fs.length nm ≠ [] := fun h => by rw [(Hgrp.out.has nm hs).2 h] at hl; cases hl
    have hnil : idxs fs fs.length nm = [] := Classical.not_not.1 hno
    rw [hnil] at ha
    cases ha
  case round =>
    obtain ⟨left, cnt, hrg, hb, hparts⟩ := hrel
    go_wp2_with (first | (at_next; refine wpList_next_ranges wr rfl _ rfl 9 lawStr (rowElem w1 (w.heap.size + 1) 3 .i64) encStr (fun v : Value => v) (fun key kl hk => by obtain ⟨x, hx, _⟩ := Maps.keyOf_str Tryz.underlying9 hk; exact ⟨x, hx⟩) (fun v y _ => ⟨v, rfl⟩) w.heap.size w1.heap.size fs.length D left cnt rfl hrg.out ?_ ?_) | go_in)
    · intro hc0 hl0
      have hyes : Hid (differB fs = true) := by
        show _ = _
        refine differB_yes (differ_of_parts fun nm hne => ?_)
        have hs : nm.size ≤ maxLen := by
          rcases hx : idxs fs fs.length nm with _ | ⟨z, r⟩
          · exact absurd hx hne
          · obtain ⟨i, hi, hn, _⟩ := idxs_mem.1 (show z ∈ idxs fs fs.length nm by rw [hx]; simp)
            obtain ⟨_, _, _, _, _, _, _, _, _, _, _, _, _, _, _, _, _, hfu⟩ := Hv.out.at_ hi
            rw [getD_of hi] at hn
            rw [← hn]; exact hfu.2.2.1
        exact hparts.out nm hs (hl0 _)
      have hbw := Lib.hid (Hb1.out.trans (hb.out.mono Hb1.out.size))
      clear hl0 hparts hrg hb
      go_wp2
      go_ret
      exact ⟨ret_bool hyes.out.symm, hbw.out⟩
    · intro x c kl yd yp w3 cnt2 hkey hlk hv hat hrg3 hlt hg3 hs3 hen
      obtain ⟨x', ex, rfl, hxl⟩ := Maps.keyOf_str Tryz.underlying9 hkey
      obtain rfl : x = x' := encStr_inj ex
      clear ex hkey
      have hkn : Lit.string x = kN ⟨x.toArray⟩ := by simp [kN]
      rw [hkn] at hat hlk hrg3
      have hsx : (⟨x.toArray⟩ : ByteArray).size ≤ maxLen := by simpa [ByteArray.size] using hxl
      obtain ⟨zs, ho, hyd⟩ := rowElem_inv hv
      have hyd1 : yd = rowDatum .i64 c zs := congrArg Prod.fst hyd
      have hzs := Hgrp.out.look hsx ho ((hat .nil).trans hyd1)
      have hzi := ints_of_owns ho
      have hb3 : Below w1.heap.size w1 w3 := ⟨hg3.os.trans hb.out.os, hg3.tape.trans hb.out.tape, hg3.output.trans hb.out.output, Nat.le_trans hb.out.size hg3.size, fun k hk => (hg3.block k (Nat.lt_of_lt_of_le hk hb.out.size) (by simp; omega)).trans (hb.out.block k hk)⟩
      obtain ⟨Z, zap, rfl, hlz, hmz, hz1⟩ := hzi.form
      have hz3 := Lib.hid (hz1.below hb3 (Nat.le_refl _))
      have hb03 : Hid (Below w.heap.size w w3) := Hb1.out.trans (hb3.mono Hb1.out.size)
      have hmeas : Hid (w3.rangeLeft w.heap.size w1.heap.size < wr.rangeLeft w.heap.size w1.heap.size) := by show _ < _; rw [hrg3.left_eq, hrg.out.left_eq]; exact hlt
      have Hzs := Lib.hid hzs
      have Hrg3 := Lib.hid hrg3
      have Hb3 := Lib.hid hb3
      have hparts2 : Hid (Parts fs (idxs fs fs.length ⟨x.toArray⟩) → ∀ nm : ByteArray, nm.size ≤ maxLen → (left (kN nm) && !(kN nm).sameKey (kN ⟨x.toArray⟩)) = false → Parts fs (idxs fs fs.length nm)) := by
        intro hP nm hs h
        by_cases e : kN nm = kN ⟨x.toArray⟩
        · rw [kN_inj e]; exact hP
        · rw [sameKey_ne e] at h
          exact hparts.out nm hs (by simpa using h)
      unfold maxLen at hmz
      clear hat hlk hv hyd hyd1 hzi ho hg3 hs3 hb3 hz1 hrg3 hzs hparts hrg hb hkn hsx hxl hlt
      generalize (⟨x.toArray⟩ : ByteArray) = nm at *
      go_wp2
      go_loopw [18] (fun i wm => ∃ n : Nat, n ≤ zs.length ∧ i = .int .i64 n ∧ Hid (∃ m, wm = w3.drewN m) ∧ Hid (∀ a b : Nat, a < n → b < a → (fs.getD (zs.getD a 0).toNat default).args ≠ (fs.getD (zs.getD b 0).toNat default).args)) (fun i _ => zs.length - (intOf i).toNat)
      case atStart => exact ⟨0, Nat.zero_le _, rfl, ⟨0, rfl⟩, fun a b h => absurd h (by omega)⟩
      case round =>
        obtain ⟨n, hn, rfl, hwm, hpre⟩ := hrel
        by_cases hln : n < zs.length
        · obtain ⟨gz, oz, rfl, _, _, cz, _⟩ := (show IntsAt wr _ _ _ zs from by obtain ⟨m, rfl⟩ := hwm.out; exact hz3.out).at_ (k := n) hln
          obtain ⟨i, hi, hni, ei⟩ := idxs_mem.1 (show zs[n] ∈ idxs fs fs.length nm by rw [← Hzs.out]; exact List.getElem_mem hln)
          rw [ei] at cz
          have Hei := Lib.hid ei
          have hlnI : (n : Int) < (zs.length : Int) := by omega
          clear ei
          go_wp2
          go_loopw [27] (fun q wi => ∃ j : Nat, j ≤ n ∧ q = .int .i64 j ∧ Hid (∃ m, wi = w3.drewN m) ∧ Hid (∀ b : Nat, b < j → (fs.getD (zs.getD n 0).toNat default).args ≠ (fs.getD (zs.getD b 0).toNat default).args)) (fun q _ => n - (intOf q).toNat)
          case atStart => exact ⟨0, Nat.zero_le _, rfl, hwm.out, fun b h => absurd h (by omega)⟩
          case round =>
            obtain ⟨j, hj, rfl, hwi, hpre2⟩ := hrel
            by_cases hlj : j < n
            · have hljz : j < zs.length := by omega
              obtain ⟨gz', oz', eZ, _, _, cz2, _⟩ := (show IntsAt wr _ _ _ zs from by obtain ⟨m, rfl⟩ := hwi.out; exact hz3.out).at_ (k := j) hljz
              obtain ⟨rfl, rfl⟩ : gz = gz' ∧ oz = oz' := by simpa using eZ
              obtain ⟨k, hk, hnk, ek⟩ := idxs_mem.1 (show zs[j] ∈ idxs fs fs.length nm by rw [← Hzs.out]; exact List.getElem_mem hljz)
              rw [ek] at cz2
              have Hek := Lib.hid ek
              clear ek eZ
              have hbw : Below w.heap.size w wr := by obtain ⟨m, rfl⟩ := hwi.out; exact below_drewN hb03.out m
              obtain ⟨b, off, A1, cap1, A2, cap2, rfl, _, _, c0, c1, c2, c3, _, _, _, _, hfi⟩ := (Hv.out.below hbw hB).at_ hi
              obtain ⟨b', off', A1', cap1', A2', cap2', eF, _, _, d0, d1, d2, d3, _, _, _, _, hfk⟩ := (Hv.out.below hbw hB).at_ hk
              obtain ⟨rfl, rfl⟩ : b = b' ∧ off = off' := by simpa using eF
              have hai := Lib.hid hfi.2.2.2.2.1
              have hak := Lib.hid hfk.2.2.2.2.1
              have hBw := Lib.hid (Nat.le_trans hB hbw.size)
              have Hgn : Hid ((fs.getD (zs.getD n 0).toNat default).args = fs[i].args) := by show _ = _; rw [getD_of hln, Hei.out, Int.toNat_natCast, getD_of hi]
              have Hgj : Hid ((fs.getD (zs.getD j 0).toNat default).args = fs[k].args) := by show _ = _; rw [getD_of hljz, Hek.out, Int.toNat_natCast, getD_of hk]
              have hljI : (j : Int) < (n : Int) := by omega
              have hiI : (i : Int) < (fs.length : Int) := by omega
              have hkI : (k : Int) < (fs.length : Int) := by omega
              clear hfi hfk eF c0 c2 c3 d0 d2 d3 hni hnk hbw
              by_cases he : fs[i].args = fs[k].args
              · have htest : Hid (decide (fs[i].args = fs[k].args) = true) := decide_eq_true he
                have hno : Hid (differB fs = false) := by
                  show _ = _
                  refine differB_no (not_differ (nm := nm) (a := n) (b := j) (by rw [← Hzs.out]; exact hln) hlj ?_)
                  rw [← Hzs.out, Hgn.out, Hgj.out]; exact he
                clear he
                go_wp2
                go_quiet ((first | (go_at_call 160; exact slicesEqual_quiet _ _ _ _ _ _ fs[i].args fs[k].args _ _ _ htest.out hai.out hak.out hBw.out hBw.out)))
                go_wp2
                go_ret
                exact ⟨ret_bool hno.out.symm, by obtain ⟨m, rfl⟩ := hwi.out; exact below_drewN (below_drewN hb03.out m) _⟩
              · have htest : Hid (decide (fs[i].args = fs[k].args) = false) := decide_eq_false he
                have hpre3 : Hid (∀ b : Nat, b < j + 1 → (fs.getD (zs.getD n 0).toNat default).args ≠ (fs.getD (zs.getD b 0).toNat default).args) := fun b hb => by
                  by_cases e : b = j
                  · subst e; rw [Hgn.out, Hgj.out]; exact he
                  · exact hpre2.out b (by omega)
                clear he
                go_wp2
                go_quiet ((first | (go_at_call 160; exact slicesEqual_quiet _ _ _ _ _ _ fs[i].args fs[k].args _ _ _ htest.out hai.out hak.out hBw.out hBw.out)))
                go_wp2
                go_roundw
                case rel => exact ⟨j + 1, by omega, by go_num, (by show ∃ m, _ = _; obtain ⟨m, rfl⟩ := hwi.out; exact ⟨_, World.drewN_drewN ..⟩), hpre3⟩
                case measure => simp [intOf]; omega
            · obtain rfl : j = n := by omega
              have hpre3 : Hid (∀ a b : Nat, a < j + 1 → b < a → (fs.getD (zs.getD a 0).toNat default).args ≠ (fs.getD (zs.getD b 0).toNat default).args) := fun a b ha hb => by
                by_cases e : a = j
                · subst e; exact hpre2.out b hb
                · exact hpre.out a b (by omega) hb
              go_wp2
              go_roundw
              case rel => exact ⟨j + 1, by omega, by go_num, hwi.out, hpre3⟩
              case measure => simp [intOf]; omega
        · obtain rfl : n = zs.length := by omega
          have hP : Hid (∀ m : ByteArray, m.size ≤ maxLen → (left (kN m) && !(kN m).sameKey (kN nm)) = false → Parts fs (idxs fs fs.length m)) := hparts2.out (by rw [← Hzs.out]; exact fun a b ha hb => hpre.out a b ha hb)
          have hrgw : Hid (wr.ranges Tryz.prog 9 (rowElem w1 (w.heap.size + 1) 3 .i64) w.heap.size w1.heap.size fs.length D (fun z => left z && !z.sameKey (kN nm)) cnt2) := by obtain ⟨m, rfl⟩ := hwm.out; exact ranges_of_heap Hrg3.out rfl
          have hbw : Hid (Below w1.heap.size w1 wr) := by obtain ⟨m, rfl⟩ := hwm.out; exact below_drewN Hb3.out m
          have hme : Hid (wr.rangeLeft w.heap.size w1.heap.size = w3.rangeLeft w.heap.size w1.heap.size) := by obtain ⟨m, rfl⟩ := hwm.out; rfl
          go_wp2
          go_roundw
          case rel => exact ⟨_, _, hrgw, hbw, hP⟩
          case measure => have h1 := hme.out; have h2 := hmeas.out; omega
end Go.Proofs.YtdemcoghgnnheaaGreatDoor

namespace Go.Proofs.YtdemcoghgnnheaaGreatDoor
open Go.RowKit

set_option maxRecDepth 100000 in
set_option maxHeartbeats 4000000 in
theorem implSysValid_any (lo hi : Nat) (sv cv fv : Value) (y : Sy) (w : World) (hv : SyAt w lo hi sv cv fv y) (hB : hi ≤ w.heap.size) :
    Calls Tryz.prog 79 #[.agg #[sv, cv, fv]] w fun e w' => e = .returned (.bool (syB y)) ∧ Below w.heap.size w w' := by
  obtain ⟨hty, hfs⟩ := hv
  obtain ⟨A, cap, rfl, hl1, hm1, hi1⟩ := hty.1.form
  obtain ⟨B, bap, rfl, hl2, hm2, hc1⟩ := hty.2.form
  obtain ⟨F, fap, rfl, hl3, hm3, hf1⟩ := hfs.form
  unfold maxLen at hm1 hm2 hm3
  have h3 : Below w.heap.size w (w.alloc (.cells #[.slice A y.ty.sizes.length cap, .slice B y.ty.cos.length bap, .slice F y.fs.length fap] 37)) := by go_grown
  have Hty := Lib.hid (show TyAt w lo hi (.slice A y.ty.sizes.length cap) (.slice B y.ty.cos.length bap) y.ty from ⟨hi1, hc1⟩)
  have Hf1 := Lib.hid hf1
  clear hty hfs hi1 hc1 hf1
  have H1 := Lib.hid (Below.refl (w.heap.size + 1) (w.alloc (.cells #[.slice A y.ty.sizes.length cap, .slice B y.ty.cos.length bap, .slice F y.fs.length fap] 37)))
  go_enter Tryz.func79, Tryz.ntmps79
  go_wp2_with fail
  refine (implValid_any lo hi _ _ y.ty _ (Hty.out.below h3 hB) (by simp; omega)).mono ?_
  rintro e w1 ⟨rfl, hb1⟩
  have H2 := Lib.hid (H1.out.trans (hb1.mono (by simp)))
  obtain ⟨q0, q1, q2, hl, hB1⟩ := box3 H2.out
  have HB1 := Lib.hid hB1
  clear hb1 h3 hB1 H1
  by_cases c1 : tyOk y.ty = true
  case neg =>
    have H : Hid (syB y = false) := syB_no fun h => c1 h.ty
    have c1f : tyOk y.ty = false := by simpa using c1
    rw [c1f]
    clear c1
    go_wp2
    go_ret
    exact ⟨ret_bool H.out.symm, HB1.out⟩
  have hok := Lib.hid (tyOk_sizes c1)
  have C1 := Lib.hid c1
  rw [c1]
  clear c1
  by_cases c2 : y.fs.length ≤ 8
  case neg =>
    have H : Hid (syB y = false) := syB_no fun h => c2 h.few
    have hd : decide ((8 : Int) < (y.fs.length : Int)) = true := by simp; omega
    go_wp2
    go_ret
    exact ⟨ret_bool H.out.symm, HB1.out⟩
  have hd : decide ((8 : Int) < (y.fs.length : Int)) = false := by simp; omega
  have C2 := Lib.hid c2
  go_wp2
  clear hd
  go_loopw [18] (fun i wr => ∃ k : Nat, k ≤ y.fs.length ∧ i = .int .i64 k ∧ Hid (Below (w.heap.size + 1) w1 wr) ∧ Hid (∀ j, j < k → ∀ (hj : j < y.fs.length), FuOk y.ty.sizes y.fs[j])) (fun i _ => y.fs.length - (intOf i).toNat)
  case atStart => exact ⟨0, Nat.zero_le _, rfl, Below.refl _ _, fun j hj => absurd hj (by omega)⟩
  case round =>
    obtain ⟨k, hk, rfl, hbr, hok2⟩ := hrel
    have hbo : Below w.heap.size w wr := HB1.out.trans (hbr.out.mono (by omega))
    have hcl : ∀ o, wr.cell? ⟨w.heap.size, o, none⟩ = w1.cell? ⟨w.heap.size, o, none⟩ := fun o => hbr.out.cell (p := ⟨w.heap.size, o, none⟩) (by dsimp only; omega)
    have p0 := (hcl 0).trans q0
    have p1 := (hcl 1).trans q1
    have p2 := (hcl 2).trans q2
    have hlr : w.heap.size < wr.heap.size := Nat.lt_of_lt_of_le hl hbr.out.size
    clear hcl
    by_cases hkl : k < y.fs.length
    · obtain ⟨b, off, A1, cap1, A2, cap2, rfl, _, _, d0, d1, d2, d3, _, _, _, _, hfu⟩ := (Hf1.out.below hbo hB).at_ hkl
      have Hfu := Lib.hid hfu
      have Hi4 := Lib.hid (Hty.out.1.below hbo hB)
      have Hbo := Lib.hid hbo
      clear hfu hbo
      by_cases hin : fuB y.ty.sizes y.fs[k] = true
      · have hin' := Lib.hid (fuB_iff.1 hin)
        go_wp2_with fail
        refine (fitsFu_any lo hi lo hi _ _ _ _ _ y.ty.sizes y.fs[k] (wr.alloc (.cells #[.string y.fs[k].name, .slice A1 y.fs[k].args.length cap1, .int .i64 y.fs[k].res, .slice A2 y.fs[k].table.length cap2] 110)) (Hi4.out.below ((Below.refl _ _).alloc (Nat.le_refl _) _) (by omega)) (Hfu.out.below ((Below.refl _ _).alloc (Nat.le_refl _) _) (by omega)) (by simp; omega) (by simp; omega) hok.out).mono ?_
        rintro e w' ⟨rfl, hbb⟩
        have Hbb := Lib.hid hbb
        clear hbb
        rw [hin]
        go_wp2
        go_roundw
        case rel =>
          refine ⟨k + 1, by omega, by go_num, (hbr.out.alloc (by omega) _).trans (Hbb.out.mono (by simp; omega)), fun j hj hjl => ?_⟩
          by_cases ej : j = k
          · subst ej; exact hin'.out
          · exact hok2.out j (by omega) hjl
        case measure => simp [intOf]; omega
      · have hinf : fuB y.ty.sizes y.fs[k] = false := by simpa using hin
        have H : Hid (syB y = false) := syB_no fun h => hin (fuB_yes (h.each k hkl))
        clear hin
        go_wp2_with fail
        refine (fitsFu_any lo hi lo hi _ _ _ _ _ y.ty.sizes y.fs[k] (wr.alloc (.cells #[.string y.fs[k].name, .slice A1 y.fs[k].args.length cap1, .int .i64 y.fs[k].res, .slice A2 y.fs[k].table.length cap2] 110)) (Hi4.out.below ((Below.refl _ _).alloc (Nat.le_refl _) _) (by omega)) (Hfu.out.below ((Below.refl _ _).alloc (Nat.le_refl _) _) (by omega)) (by simp; omega) (by simp; omega) hok.out).mono ?_
        rintro e w' ⟨rfl, hbb⟩
        have Hbb := Lib.hid hbb
        clear hbb
        rw [hinf]
        go_wp2
        go_ret
        exact ⟨ret_bool H.out.symm, (Hbo.out.alloc (by omega) _).trans (Hbb.out.mono (by simp; omega))⟩
    · obtain rfl : k = y.fs.length := by omega
      have H : Hid (differB y.fs = syB y) := by
        show _ = _
        rw [Bool.eq_iff_iff, differB_iff, syB_iff]
        exact ⟨fun h => ⟨C1.out, C2.out, fun i hi => hok2.out i hi hi, h⟩, fun h => h.differ⟩
      have Hbo := Lib.hid hbo
      clear hbo
      go_wp2_with fail
      refine (callsDiffer_any lo hi _ y.fs _ (Hf1.out.below Hbo.out hB) (by omega) (by omega)).mono ?_
      rintro e w' ⟨rfl, hbb⟩
      have Hbb := Lib.hid hbb
      clear hbb
      go_wp2
      go_ret
      exact ⟨ret_bool H.out, Hbo.out.trans (Hbb.out.mono (by omega))⟩
end Go.Proofs.YtdemcoghgnnheaaGreatDoor

namespace Go.Proofs.YtdemcoghgnnheaaGreatDoor
open Go.RowKit

/-- All ways from k to goal of at most n - 1 coercions, in order. -/
def waysF (cs : List Co) : Nat → Int → Int → List (List Int)
  | 0, _, _ => []
  | n + 1, k, goal => if k = goal then [[]] else (List.range cs.length).flatMap fun i => if (cs.getD i default).src = k then (waysF cs n (cs.getD i default).dst goal).map fun z => (i : Int) :: z else []
/-- Those of them that begin with one of the first j coercions. -/
def waysJ (cs : List Co) (n : Nat) (k goal : Int) (j : Nat) : List (List Int) :=
  (List.range j).flatMap fun i => if (cs.getD i default).src = k then (waysF cs n (cs.getD i default).dst goal).map fun z => (i : Int) :: z else []
theorem waysF_eq (cs : List Co) (n : Nat) (k : Int) : waysF cs (n + 1) k k = [[]] := by rw [waysF, if_pos rfl]
theorem waysF_ne {cs : List Co} {n : Nat} {k goal : Int} (h : ¬ k = goal) : waysF cs (n + 1) k goal = waysJ cs n k goal cs.length := by rw [waysF, if_neg h]; rfl
theorem waysJ_zero (cs : List Co) (n : Nat) (k goal : Int) : waysJ cs n k goal 0 = [] := rfl
theorem waysJ_hit {cs : List Co} {n : Nat} {k goal : Int} {j : Nat} (hj : j < cs.length) (h : cs[j].src = k) : waysJ cs n k goal (j + 1) = waysJ cs n k goal j ++ (waysF cs n cs[j].dst goal).map fun z => (j : Int) :: z := by
  unfold waysJ
  rw [List.range_succ, List.flatMap_append]
  simp only [List.flatMap_cons, List.flatMap_nil, List.append_nil]
  rw [getD_at hj, if_pos h]
theorem waysJ_miss {cs : List Co} {n : Nat} {k goal : Int} {j : Nat} (hj : j < cs.length) (h : ¬ cs[j].src = k) : waysJ cs n k goal (j + 1) = waysJ cs n k goal j := by
  unfold waysJ
  rw [List.range_succ, List.flatMap_append]
  simp only [List.flatMap_cons, List.flatMap_nil, List.append_nil]
  rw [getD_at hj, if_neg h, List.append_nil]
theorem waysJ_mono (cs : List Co) (n : Nat) (k goal : Int) {i j : Nat} (h : i ≤ j) : (waysJ cs n k goal i).length ≤ (waysJ cs n k goal j).length := by
  unfold waysJ
  obtain ⟨d, rfl⟩ := Nat.exists_eq_add_of_le h
  rw [List.range_add, List.flatMap_append, List.length_append]
  omega
theorem waysF_len {cs : List Co} (h8 : cs.length ≤ 8) : ∀ (n : Nat) (k goal : Int), (waysF cs n k goal).length ≤ 8 ^ n := by
  intro n
  induction n with
  | zero => intro k goal; simp [waysF]
  | succ n ih =>
    intro k goal
    by_cases h : k = goal
    · subst h; rw [waysF_eq]; simp; exact Nat.one_le_pow _ _ (by omega)
    · rw [waysF_ne h]
      have key : ∀ j, j ≤ cs.length → (waysJ cs n k goal j).length ≤ j * 8 ^ n := by
        intro j
        induction j with
        | zero => intro _; simp [waysJ_zero]
        | succ j ihj =>
          intro hj
          have h1 := ihj (by omega)
          by_cases hs : cs[j].src = k
          · rw [waysJ_hit (by omega) hs, List.length_append, List.length_map, Nat.succ_mul]
            have := ih cs[j].dst goal
            omega
          · rw [waysJ_miss (by omega) hs, Nat.succ_mul]
            exact Nat.le_trans h1 (Nat.le_add_right _ _)
      have h2 := key cs.length (Nat.le_refl _)
      have h3 : cs.length * 8 ^ n ≤ 8 * 8 ^ n := Nat.mul_le_mul_right _ h8
      rw [Nat.pow_succ, Nat.mul_comm (8 ^ n) 8]
      omega
/-- All ways in valid types. -/
def waysOf (t : Ty) (a b : Int) : List (List Int) := waysF t.cos 5 a b
theorem waysOf_len {t : Ty} (h : tyOk t = true) (a b : Int) : (waysOf t a b).length ≤ 32768 := waysF_len (tyOk_few h) 5 a b
theorem waysF_wf {cs : List Co} (h8 : cs.length ≤ 8) : ∀ (n : Nat) (k goal : Int), ∀ z ∈ waysF cs n k goal, ∀ i ∈ z, I64 i := by
  intro n
  induction n with
  | zero => intro k goal z hz; simp [waysF] at hz
  | succ n ih =>
    intro k goal z hz
    by_cases h : k = goal
    · subst h; rw [waysF_eq] at hz; simp at hz; subst hz; simp
    · rw [waysF_ne h] at hz
      unfold waysJ at hz
      obtain ⟨i, hi, hz⟩ := List.mem_flatMap.1 hz
      have hi := List.mem_range.1 hi
      split at hz
      · obtain ⟨y, hy, rfl⟩ := List.mem_map.1 hz
        intro q hq
        rcases List.mem_cons.1 hq with rfl | hq
        · unfold I64; omega
        · exact ih _ _ y hy q hq
      · simp at hz
theorem waysF_short {cs : List Co} : ∀ (n : Nat) (k goal : Int), ∀ z ∈ waysF cs n k goal, z.length < n := by
  intro n
  induction n with
  | zero => intro k goal z hz; simp [waysF] at hz
  | succ n ih =>
    intro k goal z hz
    by_cases h : k = goal
    · subst h; rw [waysF_eq] at hz; simp at hz; subst hz; simp
    · rw [waysF_ne h] at hz
      unfold waysJ at hz
      obtain ⟨i, hi, hz⟩ := List.mem_flatMap.1 hz
      split at hz
      · obtain ⟨y, hy, rfl⟩ := List.mem_map.1 hz
        have := ih _ _ y hy
        simp
        omega
      · simp at hz

theorem step_append_ints {w : World} {ops : Array Oper} {o : Oper} {a : Act} {K : Act → World → Prop} {Q : Exit → Act → World → Prop} {E : Prop} (hgd : o.guard = none) (s x : Operand)
    (ho : o.op = .call { callee := .builtin .append, args := #[s, x], argTypes := #[22, 22] })
    (base : Nat) (v : Value) (n : Nat) (xs : List Value) (hs : a.eval s = v) (hown : w.ownsRow base 3 1 v n xs) (lo hi : Nat) (A : Option Addr) (m c : Nat) (zs : List Int) (hx : a.eval x = .slice A m c)
    (hz : IntsAt w lo hi (.slice A m c) zs) (hm : zs.length = m) (h63 : n + m ≤ 2097152) (hbase : base ≤ w.heap.size)
    (h : ∀ VA VC w', w'.ownsRow base 3 1 (.slice VA (n + m) VC) (n + m) (xs ++ zs.map (Value.int .i64)) → w.grownBy w' v.ownBlock → K (a.put o.dst (.slice VA (n + m) VC)) w') :
    if Region.wanted o (yielded ops a.tmps) = true then Oper.wp Tryz.prog o a w K Q else E := by
  have hw : Region.wanted o (yielded ops a.tmps) = true := by simp [Region.wanted, hgd]
  rw [if_pos hw]
  obtain ⟨i0, hi0, hz0, hz1, hz2⟩ := info_parts Tryz.infoInt
  subst hm
  rcases A with _ | ad
  · have hn : zs = [] := by
      rcases zs with _ | ⟨z, zs⟩
      · rfl
      · obtain ⟨b, off, e, _⟩ := hz.at_ (k := 0) (by simp)
        cases e
    subst hn
    obtain ⟨VA, VC, rfl⟩ := owns_form hown
    rw [List.length_nil] at hx
    have hrun := run_append_owned_none' (P := Tryz.prog) (w := w) base 22 o.type 3 i0 1 Tryz.underlying22 hi0 _ _ _ c hown
    have := h VA VC w (by simpa using hown) ⟨rfl, rfl, rfl, Nat.le_refl _, fun _ _ _ => rfl⟩
    unfold Oper.wp
    have this2 : K (a.put o.dst (.slice VA n VC)) w := by simpa using this
    simp [execOp, ho, resolve, invoke, builtin, hs, hx, hrun, Result.andThen]
    exact this2
  · refine wp_append_own w s x 22 ho base 3 i0 (.int .i64 0) 1 8 Tryz.underlying22 hi0 hz0 hz1 hz2 rfl (by decide) _ _ _ hs hown ad zs.length c (zs.map (Value.int .i64)) hx (by simp) hz.cells (ints_oneCell' zs) (by unfold maxLen; omega) (by omega) hbase ?_
    intro v' w2 hown2 hgrow _
    obtain ⟨VA, VC, rfl⟩ := owns_form hown2
    exact h VA VC w2 hown2 hgrow
end Go.Proofs.YtdemcoghgnnheaaGreatDoor

namespace Go.Proofs.YtdemcoghgnnheaaGreatDoor
open Go.RowKit

theorem owns_ne_row {w : World} {base g : Nat} {e t : TypeId} {v : Value} {n : Nat} {xs ys : List Value} (h : w.ownsRow base e 1 v n xs) (hr : Row w g t ys) (hne : e ≠ t) : v.ownBlock ≠ some g := by
  intro hv
  obtain ⟨_, ⟨rfl, _⟩ | ⟨g', cap, cur, rfl, hb, hh, _⟩⟩ := h
  · simp [Value.ownBlock] at hv
  · simp only [Value.ownBlock, Option.some.injEq] at hv
    subst hv
    unfold Row at hr
    rw [hr] at hh
    simp only [Option.some.injEq, Obj.cells.injEq] at hh
    exact hne hh.2.1.symm
theorem owns_ne_owns {w : World} {base base' : Nat} {e e' : TypeId} {v v' : Value} {n n' : Nat} {xs xs' : List Value} (h : w.ownsRow base e 1 v n xs) (h' : w.ownsRow base' e' 1 v' n' xs') (hne : e ≠ e') : ∀ b, v.ownBlock = some b → v'.ownBlock ≠ some b := by
  intro b hv hv'
  obtain ⟨_, ⟨rfl, _⟩ | ⟨g, cap, cur, rfl, hb, hh, _⟩⟩ := h
  · simp [Value.ownBlock] at hv
  obtain ⟨_, ⟨rfl, _⟩ | ⟨g', cap', cur', rfl, hb', hh', _⟩⟩ := h'
  · simp [Value.ownBlock] at hv'
  simp only [Value.ownBlock, Option.some.injEq] at hv hv'
  subst hv
  subst hv'
  rw [hh] at hh'
  simp only [Option.some.injEq, Obj.cells.injEq] at hh'
  exact hne hh'.2.1

/-- The pieces of a finder in memory: the value of the way, of what was found, the cells of the latter, the blocks in which the found ways lie. -/
structure FP (sv cv : Value) (goal : Int) (base g : Nat) (way : List Int) (outs : List (List Int)) (w : World) (wv ov : Value) (xs : List Value) (S : Nat → Prop) : Prop where
  row : Row w g 185 [sv, cv, .int .i64 goal, wv, ov]
  le : base ≤ g
  fway : w.ownsRow base 3 1 wv way.length (way.map (Value.int .i64))
  fouts : w.ownsRow base 22 1 ov outs.length xs
  ints : ∀ i, ∀ (h : i < outs.length), ∃ x, xs[i]? = some x ∧ IntsIn w S x outs[i]
  set : ∀ b, S b → base ≤ b ∧ b < w.heap.size ∧ b ≠ g ∧ some b ≠ wv.ownBlock ∧ some b ≠ ov.ownBlock
def FS (sv cv : Value) (goal : Int) (base g : Nat) (way : List Int) (outs : List (List Int)) (w : World) : Prop := ∃ wv ov xs S, FP sv cv goal base g way outs w wv ov xs S

section
variable {sv cv wv ov : Value} {goal : Int} {base g : Nat} {way : List Int} {outs : List (List Int)} {w w' w6 w7 : World} {xs : List Value} {S : Nat → Prop}
theorem FP.ne1 (h : FP sv cv goal base g way outs w wv ov xs S) : wv.ownBlock ≠ some g := owns_ne_row h.fway h.row (by decide)
theorem FP.ne2 (h : FP sv cv goal base g way outs w wv ov xs S) : ov.ownBlock ≠ some g := owns_ne_row h.fouts h.row (by decide)
theorem FP.ne3 (h : FP sv cv goal base g way outs w wv ov xs S) : ∀ b, wv.ownBlock = some b → ov.ownBlock ≠ some b := owns_ne_owns h.fway h.fouts (by decide)
theorem FP.keep (h : FP sv cv goal base g way outs w wv ov xs S) (hs : w.heap.size ≤ w'.heap.size) (hk : ∀ k, base ≤ k → k < w.heap.size → w'.heap[k]? = w.heap[k]?) : FP sv cv goal base g way outs w' wv ov xs S where
  row := h.row.keep (hk g h.le h.row.lt)
  le := h.le
  fway := ownsRow_keep h.fway hk
  fouts := ownsRow_keep h.fouts hk
  ints := fun i hi => by
    obtain ⟨x, hx, hz⟩ := h.ints i hi
    exact ⟨x, hx, hz.keep fun b hb => hk b (h.set b hb).1 (h.set b hb).2.1⟩
  set := fun b hb => by
    obtain ⟨h1, h2, h3⟩ := h.set b hb
    exact ⟨h1, by omega, h3⟩
theorem FS.keep (h : FS sv cv goal base g way outs w) (hs : w.heap.size ≤ w'.heap.size) (hk : ∀ k, base ≤ k → k < w.heap.size → w'.heap[k]? = w.heap[k]?) : FS sv cv goal base g way outs w' := by
  obtain ⟨wv, ov, xs, S, h⟩ := h
  exact ⟨wv, ov, xs, S, h.keep hs hk⟩
theorem heap_set_ne (w : World) (g i : Nat) (u : Value) (k : Nat) (h : k ≠ g) : (w.setCell ⟨g, i, none⟩ u).heap[k]? = w.heap[k]? := Below.heap_setCell w ⟨g, i, none⟩ u k h

theorem FP.pushWay {wv' : Value} {i : Int} (h : FP sv cv goal base g way outs w wv ov xs S) (hp : Pushed w w' base 3 wv wv' way.length (way.map (Value.int .i64)) (.int .i64 i)) :
    FP sv cv goal base g (way ++ [i]) outs (w'.setCell ⟨g, 3, none⟩ wv') wv' ov xs S := by
  have hg := h.row.lt
  have hgr : w'.heap[g]? = w.heap[g]? := hp.grown.block g hg (fun e => h.ne1 e.symm)
  have hne' : wv'.ownBlock ≠ some g := by
    rcases hp.at_ with e | ⟨g', e, h1, _⟩
    · rw [e]; exact h.ne1
    · rw [e]; intro h2; simp only [Option.some.injEq] at h2; omega
  refine ⟨(h.row.keep hgr).set_ 3 wv', h.le, ?_, ?_, fun j hj => ?_, fun b hb => ?_⟩
  · refine ownsRow_keep1 (w := w') ?_ fun b hb => heap_set_ne _ _ _ _ _ (fun e => hne' (by rw [hb, e]))
    rw [List.length_append, List.map_append]
    exact hp.own
  · refine ownsRow_keep1 h.fouts fun b hb => (heap_set_ne _ _ _ _ _ (fun e => h.ne2 (by rw [hb, e]))).trans (hp.grown.block b (owns_lt h.fouts b hb).2 fun e => h.ne3 b e.symm hb)
  · obtain ⟨x, hx, hz⟩ := h.ints j hj
    refine ⟨x, hx, hz.keep fun b hb => ?_⟩
    obtain ⟨_, h2, h3, h4, _⟩ := h.set b hb
    exact (heap_set_ne _ _ _ _ _ h3).trans (hp.grown.block b h2 h4)
  · obtain ⟨h1, h2, h3, h4, h5⟩ := h.set b hb
    refine ⟨h1, by have := hp.grown.size; simp [World.setCell]; omega, h3, ?_, h5⟩
    rcases hp.at_ with e | ⟨g', e, h6, _⟩
    · rw [e]; exact h4
    · rw [e]; intro h7; simp only [Option.some.injEq] at h7; omega

theorem FP.pushOut {ov' x : Value} (h : FP sv cv goal base g way outs w wv ov xs S) (hs : w.heap.size ≤ w6.heap.size) (hk : ∀ k, k < w.heap.size → w6.heap[k]? = w.heap[k]?) (hx : IntsIn w6 (fun b => w.heap.size ≤ b ∧ b < w6.heap.size) x way)
    (hp : Pushed w6 w7 base 22 ov ov' outs.length xs x) : FS sv cv goal base g way (outs ++ [way]) (w7.setCell ⟨g, 4, none⟩ ov') := by
  have hg := h.row.lt
  have h6 := h.keep hs (fun k _ hkk => hk k hkk)
  have hgr : w7.heap[g]? = w6.heap[g]? := hp.grown.block g h6.row.lt (fun e => h6.ne2 e.symm)
  have hne' : ov'.ownBlock ≠ some g := by
    rcases hp.at_ with e | ⟨g', e, h1, _⟩
    · rw [e]; exact h6.ne2
    · rw [e]; intro h2; simp only [Option.some.injEq] at h2; omega
  have hwl := owns_lt h.fway
  have hbl := owns_lt h.fouts
  have hsz := hp.grown.size
  have hxl := h.fouts.1
  refine ⟨wv, ov', xs ++ [x], fun b => S b ∨ (w.heap.size ≤ b ∧ b < w6.heap.size), (h6.row.keep hgr).set_ 4 ov', h.le, ?_, ?_, fun j hj => ?_, fun b hb => ?_⟩
  · refine ownsRow_keep1 h6.fway fun b hb => (heap_set_ne _ _ _ _ _ (fun e => h.ne1 (by rw [hb, e]))).trans (hp.grown.block b (owns_lt h6.fway b hb).2 fun e => h.ne3 b hb e.symm)
  · refine ownsRow_keep1 (w := w7) ?_ fun b hb => heap_set_ne _ _ _ _ _ (fun e => hne' (by rw [hb, e]))
    rw [List.length_append]
    exact hp.own
  · have kept : ∀ b, (S b ∨ (w.heap.size ≤ b ∧ b < w6.heap.size)) → (w7.setCell ⟨g, 4, none⟩ ov').heap[b]? = w6.heap[b]? := by
      intro b hb
      rcases hb with hb | hb
      · obtain ⟨_, h2, h3, h4, h5⟩ := h.set b hb
        exact (heap_set_ne _ _ _ _ _ h3).trans (hp.grown.block b (by omega) h5)
      · refine (heap_set_ne _ _ _ _ _ (by omega)).trans (hp.grown.block b hb.2 fun e => ?_)
        have := (hbl b e.symm).2
        omega
    by_cases hjl : j < outs.length
    · obtain ⟨y, hy, hz⟩ := h6.ints j hjl
      refine ⟨y, ?_, ?_⟩
      · rw [List.getElem?_append_left (by rw [hxl]; omega)]; exact hy
      · rw [List.getElem_append_left hjl]
        exact (hz.more fun b hb => Or.inl hb).keep kept
    · obtain rfl : j = outs.length := by simp at hj; omega
      refine ⟨x, ?_, ?_⟩
      · rw [List.getElem?_append_right (by rw [hxl]; omega), hxl]; simp
      · have e : (outs ++ [way])[outs.length] = way := by simp
        rw [e]
        exact (hx.more fun b hb => Or.inr hb).keep kept
  · have h5' : b < (w7.setCell ⟨g, 4, none⟩ ov').heap.size ↔ b < w7.heap.size := by simp [World.setCell]
    rcases hb with hb | hb
    · obtain ⟨h1, h2, h3, h4, h5⟩ := h.set b hb
      refine ⟨h1, h5'.2 (by omega), h3, h4, ?_⟩
      rcases hp.at_ with e | ⟨g', e, h6, _⟩
      · rw [e]; exact h5
      · rw [e]; intro h7; simp only [Option.some.injEq] at h7; omega
    · have hle := h.le
      refine ⟨by omega, h5'.2 (by omega), by omega, ?_, ?_⟩
      · intro e
        have := (hwl b e.symm).2
        omega
      · rcases hp.at_ with e | ⟨g', e, h6, _⟩
        · rw [e]; intro e2
          have := (hbl b e2.symm).2
          omega
        · rw [e]; intro h7; simp only [Option.some.injEq] at h7; omega

theorem IntsAt.in_ {w : World} {lo hi : Nat} {v : Value} {zs : List Int} (h : IntsAt w lo hi v zs) : IntsIn w (fun b => lo ≤ b ∧ b < hi) v zs := by
  obtain ⟨A, cap, e, h1, h2, h3, h4⟩ := h
  refine ⟨A, cap, e, h1, h2, h3, fun h0 => ?_⟩
  obtain ⟨b, off, hA, hl, hh, hc⟩ := h4 h0
  exact ⟨b, off, hA, ⟨hl, hh⟩, hc⟩
theorem FP.belowOut {ov' x u : Value} {j : Nat} (h : FP sv cv goal base g way outs w wv ov xs S) (ho : w6.os = w.os ∧ w6.tape = w.tape ∧ w6.output = w.output) (hbs : base ≤ w.heap.size) (hs : w.heap.size ≤ w6.heap.size) (hk : ∀ k, k < w.heap.size → w6.heap[k]? = w.heap[k]?)
    (hp : Pushed w6 w7 base 22 ov ov' outs.length xs x) : Below base w (w7.setCell ⟨g, j, none⟩ u) := by
  have hb : Below base w w7 := ⟨hp.grown.os.trans ho.1, hp.grown.tape.trans ho.2.1, hp.grown.output.trans ho.2.2, Nat.le_trans hs hp.grown.size, fun k hk2 => (hp.grown.block k (by omega) (fun e => by have := (owns_lt h.fouts k e.symm).1; omega)).trans (hk k (by omega))⟩
  exact hb.setCell h.le _

theorem FP.pop {i : Int} {g2 cap : Nat} (h : FP sv cv goal base g (way ++ [i]) outs w (.slice (some ⟨g2, 0, none⟩) (way.length + 1) cap) ov xs S) :
    FS sv cv goal base g way outs (w.setCell ⟨g, 3, none⟩ (.slice (some ⟨g2, 0, none⟩) way.length cap)) := by
  have hne : g2 ≠ g := fun e => h.ne1 (by rw [← e]; rfl)
  refine ⟨.slice (some ⟨g2, 0, none⟩) way.length cap, ov, xs, S, h.row.set_ 3 _, h.le, ?_, ?_, fun j hj => ?_, fun b hb => ?_⟩
  · have hw := h.fway
    rw [List.length_append, List.map_append] at hw
    exact ownsRow_keep1 (owns_shrink (x := .int .i64 i) hw) fun b hb => heap_set_ne _ _ _ _ _ (fun e => by simp only [Value.ownBlock, Option.some.injEq] at hb; omega)
  · exact ownsRow_keep1 h.fouts fun b hb => heap_set_ne _ _ _ _ _ (fun e => h.ne2 (by rw [hb, e]))
  · obtain ⟨x, hx, hz⟩ := h.ints j hj
    exact ⟨x, hx, hz.keep fun b hb => heap_set_ne _ _ _ _ _ (h.set b hb).2.2.1⟩
  · obtain ⟨h1, h2, h3, h4, h5⟩ := h.set b hb
    exact ⟨h1, by simpa [World.setCell] using h2, h3, h4, h5⟩
end
end Go.Proofs.YtdemcoghgnnheaaGreatDoor

namespace Go.Proofs.YtdemcoghgnnheaaGreatDoor
open Go.RowKit

theorem Tryz.infoIntS : (Tryz.prog.info? 22).map (fun i => (i.zero, i.size, i.bytes)) = some (some (.slice none 0 0), 1, 24) := by kernel_rfl

set_option maxRecDepth 100000 in
set_option maxHeartbeats 4000000 in
theorem from_any (lo hi : Nat) (sv cv : Value) (t : Ty) (goal : Int) (base g : Nat) (hok : tyOk t = true) (hB : hi ≤ base) : ∀ (n : Nat) (k : Int) (way : List Int) (outs : List (List Int)) (w : World), TyAt w lo hi sv cv t → base ≤ w.heap.size →
    0 ≤ k → k < t.sizes.length → t.sizes.length ≤ k.toNat + n → way.length + n ≤ 20 → (∀ z ∈ way, I64 z) → outs.length + (waysF t.cos n k goal).length ≤ 1000000 → FS sv cv goal base g way outs w →
    Calls Tryz.prog 127 #[.pointer (some ⟨g, 0, none⟩), .int .i64 k] w fun e w' => e = .returned (.tuple #[]) ∧ Below base w w' ∧ FS sv cv goal base g way (outs ++ (waysF t.cos n k goal).map (way ++ ·)) w' := by
  intro n
  induction n with
  | zero => intro k way outs w _ _ h1 h2 h3; omega
  | succ n ih =>
    intro k way outs w hv hbs hk0 hk1 hkn hwn hwf hon hfs
    obtain ⟨A, cap, rfl, hl1, hm1, _⟩ := hv.1.form
    obtain ⟨B, bap, rfl, hl2, hm2, hc1⟩ := hv.2.form
    obtain ⟨wv, ov, xs, S, hfp⟩ := hfs
    have hfew := tyOk_few hok
    have c0 := hfp.row.cell 0
    have c1 := hfp.row.cell 1
    have c2 := hfp.row.cell 2
    have c3 := hfp.row.cell 3
    have c4 := hfp.row.cell 4
    have f3 := hfp.row.frozen 3
    have f4 := hfp.row.frozen 4
    simp only [List.getElem?_cons_zero, List.getElem?_cons_succ] at c0 c1 c2 c3 c4
    obtain ⟨i0, hi0, hz0, hz1, hz2⟩ := info_parts Tryz.infoInt
    obtain ⟨i1, hi1, hy0, hy1, hy2⟩ := info_parts Tryz.infoIntS
    have Hfp := Lib.hid hfp
    have Hv := Lib.hid hv
    have Hc1 := Lib.hid hc1
    have Ih := Lib.hid ih
    have Hwf := Lib.hid hwf
    have hgw := hfp.row.lt
    have hgb := hfp.le
    by_cases hkg : k = goal
    · have Hways := Lib.hid (show waysF t.cos (n + 1) k goal = [[]] by rw [hkg]; exact waysF_eq _ _ _)
      have htest : (k == goal) = true := by simpa using hkg
      have hlo : outs.length ≤ 1000000 := by omega
      have Hz0 := Lib.hid (ownsRow.intsAt (lo := base) (hi := w.heap.size) hfp.fway hwf (Nat.le_refl _) (Nat.le_refl _))
      obtain ⟨WA, WC, hwv⟩ := owns_form hfp.fway
      rw [hwv] at c3 Hz0 Hfp
      obtain ⟨OA, OC, hov⟩ := owns_form hfp.fouts
      rw [hov] at c4 Hfp
      clear hv hc1 hfp ih hwf hkg hwv hov
      go_enter Tryz.func127, Tryz.ntmps127
      go_upto_region 1 with fail
      clear Ih Hc1 c0 c1 c2 Hv
      have K0 : Hid (w.drew.cell? ⟨g, 3, none⟩ = some (.slice WA way.length WC) ∧ w.drew.cell? ⟨g, 4, none⟩ = some (.slice OA outs.length OC)) := ⟨c3, c4⟩
      have hk1 : ∀ k, k < w.heap.size → (w.drew.alloc (.cells #[] 3)).heap[k]? = w.heap[k]? := fun k hk => Below.heap_alloc w.drew _ k hk
      have Hk1 := Lib.hid hk1
      have K1 : Hid ((w.drew.alloc (.cells #[] 3)).cell? ⟨g, 3, none⟩ = some (.slice WA way.length WC) ∧ (w.drew.alloc (.cells #[] 3)).cell? ⟨g, 4, none⟩ = some (.slice OA outs.length OC)) := ⟨(World.cell?_of_block (w := w) (hk1 g hgw)).trans c3, (World.cell?_of_block (w := w) (hk1 g hgw)).trans c4⟩
      have hlit := World.ownsRow_lit (base := w.heap.size) (e := 3) (size := 1) w.drew #[] 0 (Nat.le_refl _) (by unfold maxLen; omega) rfl
      have Hlit := Lib.hid hlit
      clear hk1 hlit
      have k14 := K1.out.2
      have k04 := K0.out.2
      have k13 := K1.out.1
      have k03 := K0.out.1
      go_region_law
        (first
          | (refine step_append_ints rfl (.tmp 17) (.tmp 21) rfl w.heap.size _ 0 _ rfl Hlit.out base w.heap.size WA way.length WC way rfl (Hz0.out.keep fun k _ hk => Hk1.out k hk) rfl (by omega) (by simp) ?_
             intro VA VC w5 hown5 hgrow5
             simp only [Nat.zero_add, List.nil_append] at hown5
             have hg5 : (w.drew.alloc (.cells #[] 3)).grownBy w5 (some w.heap.size) := hgrow5
             have hs5 : w.heap.size + 1 ≤ w5.heap.size := by have := hg5.size; rw [World.size_alloc] at this; exact this
             have hk5 : ∀ k, k < w.heap.size → w5.heap[k]? = w.heap[k]? := fun k hk => (hg5.block k (by rw [World.size_alloc]; exact Nat.lt_succ_of_lt hk) (by intro e; simp only [Option.some.injEq] at e; omega)).trans (Hk1.out k hk)
             have hos5 : w5.os = w.os ∧ w5.tape = w.tape ∧ w5.output = w.output := ⟨hg5.os, hg5.tape, hg5.output⟩
             have hk6 : ∀ k, k < w.heap.size → (w5.alloc (.cells #[.slice VA way.length VC] 22)).heap[k]? = w.heap[k]? := fun k hk => (Below.heap_alloc w5 _ k (by omega)).trans (hk5 k hk)
             have K5 : Hid (w5.cell? ⟨g, 3, none⟩ = some (.slice WA way.length WC) ∧ w5.cell? ⟨g, 4, none⟩ = some (.slice OA outs.length OC)) := ⟨(World.cell?_of_block (w := w) (hk5 g hgw)).trans c3, (World.cell?_of_block (w := w) (hk5 g hgw)).trans c4⟩
             have K6 : Hid ((w5.alloc (.cells #[.slice VA way.length VC] 22)).cell? ⟨g, 3, none⟩ = some (.slice WA way.length WC) ∧ (w5.alloc (.cells #[.slice VA way.length VC] 22)).cell? ⟨g, 4, none⟩ = some (.slice OA outs.length OC)) := ⟨(World.cell?_of_block (w := w) (hk6 g hgw)).trans c3, (World.cell?_of_block (w := w) (hk6 g hgw)).trans c4⟩
             have k54 := K5.out.2
             have k64 := K6.out.2
             have Hk6 := Lib.hid hk6
             have Hos5 := Lib.hid hos5
             have Hown5 := Lib.hid hown5
             clear hk5 hk6 hgrow5 hg5 hown5 hos5)
          | (refine step_push (by simp [Region.wanted]) (.tmp 16) (.tmp 23) 129 rfl i1 (.slice none 0 0) 24 Tryz.underlying129 hi1 hy0 hy1 hy2 rfl rfl (ownsRow_keep Hfp.out.fouts fun k _ hk => Hk6.out k hk) ⟨w5.heap.size, 0, none⟩ 1 (.slice VA way.length VC) rfl (by simp [go_sem]) rfl (by unfold maxLen; omega) (by omega) (by simp; omega) ?_
             intro v7 w7 hp7
             obtain ⟨g7, cap7, rfl⟩ := hp7.form
             have r7 := (Hfp.out.row.keep (Hk6.out g hgw)).keep (hp7.grown.block g (by simp; omega) (fun e => Hfp.out.ne2 e.symm))
             have p3 : w7.cell? ⟨g, 3, none⟩ = some (.slice WA way.length WC) := r7.cell 3
             have p4 : w7.cell? ⟨g, 4, none⟩ = some (.slice OA outs.length OC) := r7.cell 4
             have pf4 : w7.frozen? ⟨g, 4, none⟩ = false := r7.frozen 4
             have K7 := Lib.hid (show w7.cell? ⟨g, 3, none⟩ = some (.slice WA way.length WC) ∧ w7.cell? ⟨g, 4, none⟩ = some (.slice OA outs.length OC) from ⟨p3, p4⟩)
             have Hp7 := Lib.hid hp7
             clear hp7 r7))
      all_goals
        have hx6 : IntsIn (w5.alloc (.cells #[.slice VA way.length VC] 22)) (fun b => w.heap.size ≤ b ∧ b < (w5.alloc (.cells #[.slice VA way.length VC] 22)).heap.size) (.slice VA way.length VC) way :=
          ((ownsRow.intsAt (lo := w.heap.size) (hi := w5.heap.size) Hown5.out Hwf.out (Nat.le_refl _) (Nat.le_refl _)).keep fun k _ hk => Below.heap_alloc w5 _ k hk).in_.more fun b hb => ⟨hb.1, by simp; omega⟩
        have hend := Lib.hid (Hfp.out.pushOut (by simp; omega) Hk6.out hx6 Hp7.out)
        have hbel := Lib.hid (Hfp.out.belowOut (w6 := w5.alloc (.cells #[.slice VA way.length VC] 22)) (j := 4) (u := .slice (some ⟨g7, 0, none⟩) (outs.length + 1) cap7) Hos5.out hbs (by simp; omega) Hk6.out Hp7.out)
        clear hx6 k04 k14 k03 k13 k54 k64
        go_wp2
        refine bodyPost_ret (results_none rfl _ _ _) rfl ?_
        exact ⟨rfl, hbel.out, by rw [Hways.out]; simpa using hend.out⟩
    · have hwj := Lib.hid (waysF_ne (cs := t.cos) (n := n) hkg)
      have htest : (k == goal) = false := by simpa using hkg
      have hon2 : outs.length + (waysJ t.cos n k goal t.cos.length).length ≤ 1000000 := by rw [← hwj.out]; exact hon
      have hfs0 := Lib.hid (show FS (.slice A t.sizes.length cap) (.slice B t.cos.length bap) goal base g way outs w from ⟨wv, ov, xs, S, hfp⟩)
      clear hv hc1 hfp ih hwf hkg hon Hfp c0 c3 c4 f3 f4
      go_enter Tryz.func127, Tryz.ntmps127
      go_wp2
      go_loopw [33] (fun i wr => ∃ j : Nat, j ≤ t.cos.length ∧ i = .int .i64 j ∧ Hid (Below base w wr) ∧ Hid (FS (.slice A t.sizes.length cap) (.slice B t.cos.length bap) goal base g way (outs ++ (waysJ t.cos n k goal j).map (way ++ ·)) wr)) (fun i _ => t.cos.length - (intOf i).toNat)
      case atStart => exact ⟨0, Nat.zero_le _, rfl, Below.refl _ _, by show FS _ _ _ _ _ _ _ _; rw [waysJ_zero]; simpa using hfs0.out⟩
      case round =>
        obtain ⟨j, hj, rfl, hb, hfs⟩ := hrel
        have hbsz := hb.out.size
        by_cases hlt : j < t.cos.length
        · obtain ⟨b, off, A2, cap2, rfl, hlo, hhi, d0, d1, d2, h5, h6, hsI, hdI, hz2'⟩ := (Hc1.out.below hb.out hB).at_ hlt
          clear hz2' hsI hdI
          by_cases hq : t.cos[j].src = k
          · have hh := Lib.hid (waysJ_hit (n := n) (goal := goal) hlt hq)
            have hco := coOk_of (tyOk_co hok hlt)
            have hdst : 0 ≤ t.cos[j].dst ∧ t.cos[j].dst < t.sizes.length ∧ t.sizes.length ≤ t.cos[j].dst.toNat + n := by omega
            have hmono := waysJ_mono t.cos n k goal (show j + 1 ≤ t.cos.length from hlt)
            have hlen3 : (outs ++ (waysJ t.cos n k goal j).map (way ++ ·)).length + (waysF t.cos n t.cos[j].dst goal).length ≤ 1000000 := by
              have e := congrArg List.length hh.out
              rw [List.length_append, List.length_map] at e
              rw [List.length_append, List.length_map]
              omega
            have htq : (t.cos[j].src != k) = false := by simpa using hq
            obtain ⟨wv2, ov2, xs2, S2, hfp2⟩ := hfs.out
            have p3 := hfp2.row.cell 3
            have pf3 := hfp2.row.frozen 3
            simp only [List.getElem?_cons_zero, List.getElem?_cons_succ] at p3
            have hgr := hfp2.row.lt
            have hfp3 := hfp2.keep (w' := (wr.alloc (.cells #[.int .i64 t.cos[j].src, .int .i64 t.cos[j].dst, .slice A2 t.cos[j].map.length cap2] 138)).alloc (.cells #[.int .i64 j] 3)) (by simp; omega) (fun k _ hk => (Below.heap_alloc _ _ k (by simp; omega)).trans (Below.heap_alloc _ _ k hk))
            have Hfp3 := Lib.hid hfp3
            have Hco := Lib.hid hco
            have Hlen3 := Lib.hid hlen3
            have Hwl := Lib.hid (owns_lt hfp2.fway)
            have Hdst := Lib.hid hdst
            clear hfp2 hfp3 hco hq hlen3 hmono hdst
            go_wp2_with (at_builtin; refine wpList_push rfl (.tmp 46) (.tmp 48) 22 rfl i0 (.int .i64 0) 8 Tryz.underlying22 hi0 hz0 hz1 hz2 rfl rfl Hfp3.out.fway ⟨wr.heap.size + 1, 0, none⟩ 1 (.int .i64 j) rfl (by simp [go_sem]) rfl (by unfold maxLen; omega) (by omega) (by simp; omega) ?_)
            intro v5 w5 hp5
            obtain ⟨g5, cap5, rfl⟩ := hp5.form
            have r5 := Hfp3.out.row.keep (hp5.grown.block g (by simp; omega) (fun e => Hfp3.out.ne1 e.symm))
            have e3 : w5.cell? ⟨g, 3, none⟩ = some wv2 := r5.cell 3
            have ef3 : w5.frozen? ⟨g, 3, none⟩ = false := r5.frozen 3
            have hs5 : wr.heap.size + 2 ≤ w5.heap.size := by have := hp5.grown.size; simpa using this
            have hf5 := Hfp3.out.pushWay hp5
            have e1 : w5.cell? ⟨wr.heap.size, 1, none⟩ = some (.int .i64 t.cos[j].dst) := (hp5.grown.cell_far ⟨wr.heap.size, 1, none⟩ (by simp; omega) (fun e => by have := (Hwl.out _ e.symm).2; dsimp only at this; omega)).trans (by simp [go_sem])
            have hb6 := (((hb.out.alloc (by omega) (.cells #[.int .i64 t.cos[j].src, .int .i64 t.cos[j].dst, .slice A2 t.cos[j].map.length cap2] 138)).alloc (by simp; omega) (.cells #[.int .i64 j] 3)).grown hp5.grown (by simp; omega) (fun k hk => (owns_lt Hfp3.out.fway k hk).1)).setCell (p := ⟨g, 3, none⟩) hgb (.slice (some ⟨g5, 0, none⟩) (way.length + 1) cap5)
            have e1' : (w5.setCell ⟨g, 3, none⟩ (.slice (some ⟨g5, 0, none⟩) (way.length + 1) cap5)).cell? ⟨wr.heap.size, 1, none⟩ = some (.int .i64 t.cos[j].dst) := (World.cell?_of_block (w := w5) (heap_set_ne _ _ _ _ _ (by dsimp only; omega))).trans e1
            have hs6 : (w5.setCell ⟨g, 3, none⟩ (.slice (some ⟨g5, 0, none⟩) (way.length + 1) cap5)).heap.size = w5.heap.size := by simp [World.setCell]
            have Hb6 := Lib.hid hb6
            have Hf5 := Lib.hid hf5
            clear hp5 r5 hf5 hb6
            go_wp2_with fail
            refine (Ih.out t.cos[j].dst (way ++ [(j : Int)]) _ _ (Hv.out.below Hb6.out hB) (by rw [hs6]; omega) Hdst.out.1 Hdst.out.2.1 Hdst.out.2.2 (by rw [List.length_append, List.length_singleton]; omega) (fun z hz => by
              rcases List.mem_append.1 hz with h | h
              · exact Hwf.out z h
              · simp at h; subst h; unfold I64; omega) Hlen3.out ⟨_, _, _, _, Hf5.out⟩).mono ?_
            rintro e w7 ⟨rfl, hb7, hfs7⟩
            have Hb7 := Lib.hid (Hb6.out.trans hb7)
            obtain ⟨wv7, ov7, xs7, S7, hfp7⟩ := hfs7
            obtain ⟨g7, cap7, rfl⟩ : ∃ g7 cap7, wv7 = .slice (some ⟨g7, 0, none⟩) (way.length + 1) cap7 := by
              obtain ⟨_, ⟨_, h0⟩ | ⟨g7, cap7, _, e, _⟩⟩ := hfp7.fway
              · rw [List.length_append, List.length_singleton] at h0; omega
              · rw [List.length_append, List.length_singleton] at e; exact ⟨g7, cap7, e⟩
            have hc7 : way.length + 1 ≤ cap7 := by
              obtain ⟨_, ⟨h0, _⟩ | ⟨g8, cap8, _, e, _, _, h1, _⟩⟩ := hfp7.fway
              · cases h0
              · rw [List.length_append, List.length_singleton] at e h1
                simp only [Value.slice.injEq] at e
                omega
            have z3 : w7.cell? ⟨g, 3, none⟩ = some (.slice (some ⟨g7, 0, none⟩) (way.length + 1) cap7) := hfp7.row.cell 3
            have zf3 : w7.frozen? ⟨g, 3, none⟩ = false := hfp7.row.frozen 3
            have hpop := Lib.hid (FP.pop hfp7)
            clear hb7 hfp7 e1 e1' e3 ef3 p3 pf3 d0 d1 d2
            go_upto_region 8 with fail
            go_region
            have hlist : (outs ++ (waysJ t.cos n k goal j).map (way ++ ·)) ++ (waysF t.cos n t.cos[j].dst goal).map ((way ++ [(j : Int)]) ++ ·) = outs ++ (waysJ t.cos n k goal (j + 1)).map (way ++ ·) := by
              rw [hh.out]
              simp [List.map_append, List.append_assoc, Function.comp_def]
            have hfin := hpop.out
            rw [hlist] at hfin
            have Hfin := Lib.hid hfin
            clear hfin hlist
            go_wp2
            go_roundw
            case rel => exact ⟨j + 1, by omega, by go_num, (Hb7.out.setCell hgb _).drew, Hfin.out.keep (Nat.le_refl _) (fun _ _ _ => rfl)⟩
            case measure => simp [intOf]; omega
          · have hh := Lib.hid (waysJ_miss (n := n) (goal := goal) hlt hq)
            have htq : (t.cos[j].src != k) = true := by simpa using hq
            clear hq
            go_wp2
            go_roundw
            case rel => exact ⟨j + 1, by omega, by go_num, hb.out.alloc (by omega) _, by
              show FS _ _ _ _ _ _ _ _
              rw [hh.out]
              exact hfs.out.keep (by simp) (fun k _ hk => Below.heap_alloc _ _ k hk)⟩
            case measure => simp [intOf]; omega
        · obtain rfl : j = t.cos.length := by omega
          go_wp2
          go_end0
          exact ⟨rfl, hb.out, by rw [hwj.out]; exact hfs.out⟩
end Go.Proofs.YtdemcoghgnnheaaGreatDoor

