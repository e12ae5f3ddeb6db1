/-
  A region that draws its order, by an invariant over what has been done: one obligation for each operation.
  What holds in a region that builds types from a copied list of coercions and one more: by what has been done.
-/
import Derived.WalkKit
import Derived.Test.YtplpnammboofiaaJ3
namespace Go.Proofs.Ytplpnammboofiaa
open Go.RowKit

section
variable {P : Program} {ops : Array Oper} {Q : Exit → Act → World → Prop}

def openCount : List Bool → Nat
  | [] => 0
  | b :: bs => (if b then 0 else 1) + openCount bs
theorem openCount_set : ∀ (l : List Bool) (i : Nat), l[i]? = some false → openCount (l.set i true) + 1 = openCount l := by
  intro l
  induction l with
  | nil => intro i h; simp at h
  | cons b bs ih =>
    intro i h
    cases i with
    | zero =>
      simp at h
      subst h
      simp [openCount]
      omega
    | succ i =>
      simp at h
      have := ih i h
      simp only [List.set_cons_succ, openCount]
      omega
theorem openCount_zero : ∀ (l : List Bool), openCount l = 0 → ∀ b ∈ l, b = true := by
  intro l
  induction l with
  | nil => intro _ b hb; cases hb
  | cons c cs ih =>
    intro h b hb
    cases c with
    | false => simp [openCount] at h
    | true =>
      simp only [openCount, if_true, Nat.zero_add] at h
      rcases List.mem_cons.1 hb with rfl | hb
      · rfl
      · exact ih h b hb

/-- What may come up: it has not been done, and all that binds it has. -/
theorem ready_of {listed : Array Bool} {i : Nat} (h : i ∈ Region.ready .any ops listed) : i < ops.size ∧ listed.getD i true = false ∧ ∃ o, ops[i]? = some o ∧ ∀ e ∈ o.after, Region.binds .any e = true → listed.getD e.on false = true := by
  unfold Region.ready at h
  rw [List.mem_filter] at h
  obtain ⟨h1, h2⟩ := h
  have h1 := List.mem_range.1 h1
  simp only [Bool.and_eq_true, Bool.not_eq_true'] at h2
  obtain ⟨h2, h3⟩ := h2
  refine ⟨h1, h2, ops[i], Array.getElem?_eq_getElem h1, fun e he hb => ?_⟩
  rw [Array.getElem?_eq_getElem h1] at h3
  simp only [Option.map_some, Option.getD_some] at h3
  rw [Array.all_eq_true'] at h3
  have := h3 e he
  simpa [hb] using this
theorem ready_mk {listed : Array Bool} {i : Nat} (h1 : i < ops.size) (h2 : listed.getD i true = false) (h3 : ∀ e ∈ ops[i].after, Region.binds .any e = true → listed.getD e.on false = true) : i ∈ Region.ready .any ops listed := by
  unfold Region.ready
  rw [List.mem_filter]
  refine ⟨List.mem_range.2 h1, ?_⟩
  simp only [Bool.and_eq_true, Bool.not_eq_true']
  refine ⟨h2, ?_⟩
  rw [Array.getElem?_eq_getElem h1]
  simp only [Option.map_some, Option.getD_some]
  rw [Array.all_eq_true']
  intro e he
  cases hb : Region.binds .any e with
  | false => simp
  | true => simp [h3 e he hb]
theorem all_done {listed : Array Bool} (hs : listed.size = ops.size) (hd : ∀ i, ∀ (h : i < ops.size), ∀ e ∈ ops[i].after, Region.binds .any e = true → e.on < i) (hr : Region.ready .any ops listed = []) : ∀ i, i < ops.size → listed.getD i false = true := by
  intro i
  induction i using Nat.strongRecOn with
  | _ i ih =>
    intro hi
    have hl : i < listed.size := by omega
    by_cases h : listed.getD i true = true
    · simpa [Array.getD, hl] using h
    · have hf : listed.getD i true = false := by simpa using h
      have hm := ready_mk (listed := listed) hi hf fun e he hb => ih e.on (hd i hi e he hb) (by have := hd i hi e he hb; omega)
      rw [hr] at hm
      cases hm

theorem wpAny_inv (Inv : (Nat → Bool) → Act → World → Prop) (hd : ∀ i, ∀ (h : i < ops.size), ∀ e ∈ ops[i].after, Region.binds .any e = true → e.on < i)
    (hstep : ∀ (f : Nat → Bool) a w i o, ops[i]? = some o → f i = false → (∀ e ∈ o.after, Region.binds .any e = true → f e.on = true) → Inv f a w → wpOp P ops Q i (Inv fun k => decide (k = i) || f k) a w)
    (hend : ∀ f a w, (∀ k, k < ops.size → f k = true) → Inv f a w → Q .normal a w) :
    ∀ (fuel : Nat) (listed : Array Bool) (a : Act) (w : World), listed.size = ops.size → openCount listed.toList ≤ fuel → Inv (fun k => listed.getD k false) a w → wpAny P .any ops Q fuel listed a w := by
  intro fuel
  induction fuel with
  | zero =>
    intro listed a w hs hf hI
    have hall := openCount_zero listed.toList (by omega)
    have hr : Region.ready .any ops listed = [] := by
      rw [List.eq_nil_iff_forall_not_mem]
      intro i hi
      obtain ⟨h1, h2, _⟩ := ready_of hi
      have hl : i < listed.size := by omega
      have h3 : listed[i] = false := by simpa [Array.getD, hl] using h2
      have h4 := hall listed[i] (by simp)
      rw [h3] at h4
      cases h4
    exact ⟨hr, hend _ a w (all_done hs hd hr) hI⟩
  | succ fuel ih =>
    intro listed a w hs hf hI
    refine ⟨fun hr => hend _ a w (all_done hs hd hr) hI, fun i hi => ?_⟩
    obtain ⟨h1, h2, o, ho, h3⟩ := ready_of hi
    have hl : i < listed.size := by omega
    have h4 : listed[i] = false := by simpa [Array.getD, hl] using h2
    refine wpOp_mono (fun a' w' hI' => ih (listed.setIfInBounds i true) a' w' (by simpa using hs) ?_ ?_) (hstep _ a w i o ho (by simp [Array.getD, hl, h4]) h3 hI)
    · have := openCount_set listed.toList i (by simp [hl, h4])
      simp only [Array.toList_setIfInBounds]
      omega
    · have e : (fun k => decide (k = i) || listed.getD k false) = fun k => (listed.setIfInBounds i true).getD k false := by
        funext k
        by_cases hk : k = i
        · subst hk
          simp [Array.getD, hl]
        · have hk' : ¬ i = k := fun h => hk h.symm
          by_cases hkl : k < listed.size
          · simp [Array.getD, hk, hk', hkl]
          · simp [Array.getD, hk, hkl]
      rw [← e]
      exact hI'

/-- A region that draws its order, by an invariant over what has been done. -/
theorem wp_region_inv {id : Nat} {a : Act} {w : World} (hm : P.follows .mixedOrders = true) (Inv : (Nat → Bool) → Act → World → Prop) (hd : ∀ i, ∀ (h : i < ops.size), ∀ e ∈ ops[i].after, Region.binds .any e = true → e.on < i)
    (h0 : Inv (fun _ => false) a w.drew)
    (hstep : ∀ (f : Nat → Bool) a w i o, ops[i]? = some o → f i = false → (∀ e ∈ o.after, Region.binds .any e = true → f e.on = true) → Inv f a w → wpOp P ops Q i (Inv fun k => decide (k = i) || f k) a w)
    (hend : ∀ f a w, (∀ k, k < ops.size → f k = true) → Inv f a w → Q .normal a w) : (Code.region id ops true).wp P Q a w := by
  refine wp_region_any hm (wpAny_inv Inv hd hstep hend _ _ a _ (by simp) ?_ ?_)
  · have key : ∀ n, openCount (List.replicate n false) = n := by
      intro n
      induction n with
      | zero => rfl
      | succ n ih => simp only [List.replicate_succ, openCount, ih]; simp; omega
    rw [Array.toList_replicate, key]
    exact Nat.le_refl _
  · have e : (fun k => (Array.replicate ops.size false).getD k false) = fun _ => false := by
      funext k
      by_cases hk : k < ops.size
      · simp [Array.getD, hk]
      · simp [Array.getD, hk]
    rw [e]
    exact h0
/-- The same, where the invariant may name the frame that the region begins with. -/
theorem wp_region_inv_at {id : Nat} {a : Act} {w : World} (hm : P.follows .mixedOrders = true) (Inv : Act → (Nat → Bool) → Act → World → Prop) (hd : ∀ i, ∀ (h : i < ops.size), ∀ e ∈ ops[i].after, Region.binds .any e = true → e.on < i)
    (h0 : Inv a (fun _ => false) a w.drew)
    (hstep : ∀ (f : Nat → Bool) a' w i o, ops[i]? = some o → f i = false → (∀ e ∈ o.after, Region.binds .any e = true → f e.on = true) → Inv a f a' w → wpOp P ops Q i (Inv a fun k => decide (k = i) || f k) a' w)
    (hend : ∀ f a' w, (∀ k, k < ops.size → f k = true) → Inv a f a' w → Q .normal a' w) : (Code.region id ops true).wp P Q a w :=
  wp_region_inv hm (Inv a) hd h0 hstep hend
end
end Go.Proofs.Ytplpnammboofiaa

namespace Go.Proofs.Ytplpnammboofiaa
open Go.RowKit

/-- T: the types' block; s, l: what it holds; c0, c1, c2: the coercion's cells; f: which operations have been done; the letters: what their slots hold. -/
structure RFacts (lo hi N T : Nat) (w4 : World) (cos : List Co) (s l c0 c1 c2 : Value) (f : Nat → Bool) (x6 x11 x12 x13 x14 x15 x16 x17 x18 x19 x20 : Value) (u : World) : Prop where
  bel : Below N w4 u
  a0 : f 0 = true → x11 = .pointer (some ⟨T, 0, none⟩)
  a1 : f 1 = true → x12 = s
  a2 : f 2 = true → f 5 = false → ∃ b, N ≤ b ∧ x13 = .slice (some ⟨b, 0, none⟩) 0 0 ∧ Row u b 28 []
  a3 : f 3 = true → x14 = .pointer (some ⟨T, 1, none⟩)
  a4 : f 4 = true → x15 = l
  a5 : f 5 = true → f 8 = false → ∃ A c news, x16 = .slice A cos.length c ∧ u.ownsRow N 28 3 x16 cos.length news ∧ CosNews u lo hi news cos
  a6 : f 6 = true → x17 = .agg #[c0, c1, c2]
  a7 : f 7 = true → f 8 = false → ∃ p, N ≤ p ∧ x18 = .slice (some ⟨p, 0, none⟩) 1 1 ∧ Row u p 28 [c0, c1, c2]
  a8 : f 8 = true → ∃ A c news, x19 = .slice A (cos.length + 1) c ∧ u.ownsRow N 28 3 x19 (cos.length + 1) (news ++ [c0, c1, c2]) ∧ CosNews u lo hi news cos
  a9 : f 9 = true → x20 = .agg #[s, x19]
  a10 : f 10 = true → f 11 = false → ∃ q, N ≤ q ∧ x6 = .pointer (some ⟨q, 0, none⟩) ∧ Row u q 26 [.slice none 0 0, .slice none 0 0]
  a11 : f 11 = true → ∃ q, N ≤ q ∧ x6 = .pointer (some ⟨q, 0, none⟩) ∧ Row u q 26 [s, x19]

theorem CosNews.keep {w w' : World} {lo hi : Nat} {news : List Value} {cs : List Co} (h : CosNews w lo hi news cs) (hk : ∀ k, lo ≤ k → k < hi → w'.heap[k]? = w.heap[k]?) : CosNews w' lo hi news cs := by
  obtain ⟨mv, hl, hi2⟩ := h
  exact ⟨mv, hl, fun i hi' => by
    obtain ⟨h0, h1, h2, h3⟩ := hi2 i hi'
    exact ⟨h0, h1, h2, h3.keep hk⟩⟩
theorem row_own_ne {w : World} {base g n : Nat} {v : Value} {xs ys : List Value} (hr : Row w g 26 xs) (ho : w.ownsRow base 28 3 v n ys) : v.ownBlock ≠ some g := by
  intro e
  obtain ⟨_, ⟨rfl, _⟩ | ⟨g', cap, cur, rfl, hb, hh, _⟩⟩ := ho
  · simp [Value.ownBlock] at e
  · simp only [Value.ownBlock, Option.some.injEq] at e
    subst e
    unfold Row at hr
    rw [hr] at hh
    simp only [Option.some.injEq, Obj.cells.injEq] at hh
    exact absurd hh.2.1 (by decide)

section
variable {lo hi N T : Nat} {w4 u : World} {cos : List Co} {s l c0 c1 c2 : Value} {f : Nat → Bool} {x6 x11 x12 x13 x14 x15 x16 x17 x18 x19 x20 : Value}

/-- Blocks that stood stay as they are. -/
theorem RFacts.grow {u' : World} (h : RFacts lo hi N T w4 cos s l c0 c1 c2 f x6 x11 x12 x13 x14 x15 x16 x17 x18 x19 x20 u) (hN : N ≤ u.heap.size) (hh : hi ≤ N) (hb : Below u.heap.size u u') : RFacts lo hi N T w4 cos s l c0 c1 c2 f x6 x11 x12 x13 x14 x15 x16 x17 x18 x19 x20 u' where
  bel := h.bel.trans (hb.mono hN)
  a0 := h.a0
  a1 := h.a1
  a2 := fun h1 h2 => by
    obtain ⟨b, h3, h4, h5⟩ := h.a2 h1 h2
    exact ⟨b, h3, h4, h5.below hb h5.lt⟩
  a3 := h.a3
  a4 := h.a4
  a5 := fun h1 h2 => by
    obtain ⟨A, c, news, h3, h4, h5⟩ := h.a5 h1 h2
    exact ⟨A, c, news, h3, ownsRow_keep h4 fun g _ hg => hb.block g hg, h5.keep fun k _ hk => hb.block k (by omega)⟩
  a6 := h.a6
  a7 := fun h1 h2 => by
    obtain ⟨b, h3, h4, h5⟩ := h.a7 h1 h2
    exact ⟨b, h3, h4, h5.below hb h5.lt⟩
  a8 := fun h1 => by
    obtain ⟨A, c, news, h3, h4, h5⟩ := h.a8 h1
    exact ⟨A, c, news, h3, ownsRow_keep h4 fun g _ hg => hb.block g hg, h5.keep fun k _ hk => hb.block k (by omega)⟩
  a9 := h.a9
  a10 := fun h1 h2 => by
    obtain ⟨b, h3, h4, h5⟩ := h.a10 h1 h2
    exact ⟨b, h3, h4, h5.below hb h5.lt⟩
  a11 := fun h1 => by
    obtain ⟨b, h3, h4, h5⟩ := h.a11 h1
    exact ⟨b, h3, h4, h5.below hb h5.lt⟩

/-- The first append: it may write into the empty list's block. -/
theorem RFacts.append1 {b : Nat} {A : Option Addr} {c : Nat} {u' : World} {news : List Value} (h : RFacts lo hi N T w4 cos s l c0 c1 c2 f x6 x11 x12 x13 x14 x15 x16 x17 x18 x19 x20 u) (hN : N ≤ u.heap.size) (hh : hi ≤ N) (hf8 : f 8 = false) (hf11 : f 11 = false) (hf9 : f 9 = false)
    (hbN : N ≤ b) (hrow : Row u b 28 []) (hg : u.grownBy u' (some b)) (hown : u'.ownsRow N 28 3 (.slice A cos.length c) cos.length news) (hnews : CosNews u lo hi news cos) :
    RFacts lo hi N T w4 cos s l c0 c1 c2 (fun k => decide (k = 5) || f k) x6 x11 x12 x13 x14 x15 (.slice A cos.length c) x17 x18 x19 x20 u' where
  bel := h.bel.trans ⟨hg.os, hg.tape, hg.output, hg.size, fun k hk => hg.block k (by omega) (by intro e; simp only [Option.some.injEq] at e; omega)⟩
  a0 := fun h1 => h.a0 (by simpa using h1)
  a1 := fun h1 => h.a1 (by simpa using h1)
  a2 := fun _ h2 => by simp at h2
  a3 := fun h1 => h.a3 (by simpa using h1)
  a4 := fun h1 => h.a4 (by simpa using h1)
  a5 := fun _ _ => ⟨A, c, news, rfl, hown, hnews.keep fun k _ hk => hg.block k (by omega) (by intro e; simp only [Option.some.injEq] at e; omega)⟩
  a6 := fun h1 => h.a6 (by simpa using h1)
  a7 := fun h1 h2 => by
    obtain ⟨p, h3, h4, h5⟩ := h.a7 (by simpa using h1) hf8
    refine ⟨p, h3, h4, h5.keep (hg.block p h5.lt fun e => ?_)⟩
    simp only [Option.some.injEq] at e
    subst e
    unfold Row at h5 hrow
    rw [h5] at hrow
    simp at hrow
  a8 := fun h1 => by simp [hf8] at h1
  a9 := fun h1 => by simp [hf9] at h1
  a10 := fun h1 _ => by
    obtain ⟨q, h3, h4, h5⟩ := h.a10 (by simpa using h1) hf11
    refine ⟨q, h3, h4, h5.keep (hg.block q h5.lt fun e => ?_)⟩
    simp only [Option.some.injEq] at e
    subst e
    unfold Row at h5 hrow
    rw [h5] at hrow
    simp at hrow
  a11 := fun h1 => by simp [hf11] at h1

/-- The second append: it may write into the list's own block. -/
theorem RFacts.append2 {A : Option Addr} {c : Nat} {u' : World} {news : List Value} (h : RFacts lo hi N T w4 cos s l c0 c1 c2 f x6 x11 x12 x13 x14 x15 x16 x17 x18 x19 x20 u) (hN : N ≤ u.heap.size) (hh : hi ≤ N) (hf11 : f 11 = false) (hf9 : f 9 = false) (hf5 : f 5 = true)
    (hold : u.ownsRow N 28 3 x16 cos.length news) (hg : u.grownBy u' x16.ownBlock) (hown : u'.ownsRow N 28 3 (.slice A (cos.length + 1) c) (cos.length + 1) (news ++ [c0, c1, c2])) (hnews : CosNews u lo hi news cos) :
    RFacts lo hi N T w4 cos s l c0 c1 c2 (fun k => decide (k = 8) || f k) x6 x11 x12 x13 x14 x15 x16 x17 x18 (.slice A (cos.length + 1) c) x20 u' where
  bel := h.bel.trans ⟨hg.os, hg.tape, hg.output, hg.size, fun k hk => hg.block k (by omega) (by intro e; have := owns_lt hold k e.symm; omega)⟩
  a0 := fun h1 => h.a0 (by simpa using h1)
  a1 := fun h1 => h.a1 (by simpa using h1)
  a2 := fun _ h2 => by simp [hf5] at h2
  a3 := fun h1 => h.a3 (by simpa using h1)
  a4 := fun h1 => h.a4 (by simpa using h1)
  a5 := fun _ h2 => by simp at h2
  a6 := fun h1 => h.a6 (by simpa using h1)
  a7 := fun _ h2 => by simp at h2
  a8 := fun _ => ⟨A, c, news, rfl, hown, hnews.keep fun k _ hk => hg.block k (by omega) (by intro e; have := owns_lt hold k e.symm; omega)⟩
  a9 := fun h1 => by simp [hf9] at h1
  a10 := fun h1 _ => by
    obtain ⟨q, h3, h4, h5⟩ := h.a10 (by simpa using h1) hf11
    exact ⟨q, h3, h4, h5.keep (hg.block q h5.lt fun e => row_own_ne h5 hold e.symm)⟩
  a11 := fun h1 => by simp [hf11] at h1
end
end Go.Proofs.Ytplpnammboofiaa

