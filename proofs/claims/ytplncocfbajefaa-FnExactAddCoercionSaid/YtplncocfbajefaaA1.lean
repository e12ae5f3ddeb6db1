/-
  append to an empty list of all coercions of another one, as a step of a region that draws its order.
  What holds in a region that builds types from a copied list of coercions and one more: by what has been done.
  The same, operation by operation.
-/
import Derived.Test.YtplncocfbajefaaD6
import Derived.Test.YtplncocfbajefaaD7
namespace Go.Proofs.Ytplncocfbajefaa
open Go.RowKit

/-- Cells that read as coercions. -/
def CosNews (w : World) (lo hi : Nat) (news : List Value) (cs : List Co) : Prop :=
  ∃ mv : Nat → Value, news.length = cs.length * 3 ∧ ∀ i, ∀ (h : i < cs.length), news[i * 3]? = some (.int .i64 cs[i].src) ∧ news[i * 3 + 1]? = some (.int .i64 cs[i].dst) ∧ news[i * 3 + 2]? = some (mv i) ∧ IntsAt w lo hi (mv i) cs[i].map

theorem cos_news {w : World} {lo hi c : Nat} {ad : Addr} {cs : List Co} (h : CosAt w lo hi (.slice (some ad) cs.length c) cs) :
    ∃ news, CosNews w lo hi news cs ∧ (∀ j u, news[j]? = some u → w.cell? (ad.add j) = some u) ∧ ∀ u ∈ news, u.oneCell' = true := by
  have hat : ∀ i, ∀ (hi' : i < cs.length), ∃ z, w.cell? (ad.add (i * 3)) = some (.int .i64 cs[i].src) ∧ w.cell? (ad.add (i * 3 + 1)) = some (.int .i64 cs[i].dst) ∧ w.cell? (ad.add (i * 3 + 2)) = some z ∧ IntsAt w lo hi z cs[i].map ∧ z.oneCell' = true := by
    intro i hi'
    obtain ⟨b, off, A2, cap2, e, _, _, c0, c1, c2, _, _, _, _, hz⟩ := h.at_ hi'
    injection e with e
    subst e
    refine ⟨_, ?_, ?_, ?_, hz, rfl⟩
    · rw [Go.WideShapes.add_plain, c0]
    · rw [Go.WideShapes.add_plain, ← Nat.add_assoc, c1]
    · rw [Go.WideShapes.add_plain, ← Nat.add_assoc, c2]
  have hsome : ∀ j, j < cs.length * 3 → ∃ u, w.cell? (ad.add j) = some u ∧ u.oneCell' = true := by
    intro j hj
    obtain ⟨z, h0, h1, h2, _, h4⟩ := hat (j / 3) (by omega)
    have hm := Nat.div_add_mod j 3
    have hlt := Nat.mod_lt j (by omega : 3 > 0)
    rcases (by omega : j = j / 3 * 3 ∨ j = j / 3 * 3 + 1 ∨ j = j / 3 * 3 + 2) with e | e | e
    · rw [← e] at h0; exact ⟨_, h0, rfl⟩
    · rw [← e] at h1; exact ⟨_, h1, rfl⟩
    · rw [← e] at h2; exact ⟨_, h2, h4⟩
  have hget : ∀ j, j < cs.length * 3 → ((List.range (cs.length * 3)).map fun j => (w.cell? (ad.add j)).getD undef)[j]? = w.cell? (ad.add j) := by
    intro j hj
    obtain ⟨u, hu, _⟩ := hsome j hj
    rw [List.getElem?_map, List.getElem?_range hj]
    simp [hu]
  refine ⟨(List.range (cs.length * 3)).map fun j => (w.cell? (ad.add j)).getD undef, ⟨fun i => (w.cell? (ad.add (i * 3 + 2))).getD undef, by simp, fun i hi' => ?_⟩, fun j u hj => ?_, fun u hu => ?_⟩
  · obtain ⟨z, h0, h1, h2, h3, _⟩ := hat i hi'
    rw [hget _ (by omega), hget _ (by omega), hget _ (by omega)]
    refine ⟨h0, h1, ?_, ?_⟩
    · simp only [h2, Option.getD_some]
    · simp only [h2, Option.getD_some]; exact h3
  · have hjl : j < cs.length * 3 := by
      have := (List.getElem?_eq_some_iff.1 hj).1
      simpa using this
    rw [hget j hjl] at hj
    exact hj
  · obtain ⟨j, hj, rfl⟩ := List.mem_map.1 hu
    obtain ⟨u, hu', h1⟩ := hsome j (List.mem_range.1 hj)
    simp only [hu', Option.getD_some]
    exact h1

theorem ownsRow_zero {w : World} {base b : Nat} (hb : base ≤ b) (h : w.heap[b]? = some (.cells #[] 42 (0, 0))) : w.ownsRow base 42 3 (.slice (some ⟨b, 0, none⟩) 0 0) 0 [] :=
  ⟨rfl, .inr ⟨b, 0, #[], rfl, hb, h, Nat.le_refl _, by unfold maxLen; omega, rfl, rfl⟩⟩

theorem step_append_cos {w : World} {ops : Array Oper} {o : Oper} {a : Act} {K : Act → World → Prop} {Q : Exit → Act → World → Prop} {E : Prop} (hgd : o.guard = none) (s x : Operand)
    (ho : o.op = .call { callee := .builtin .append, args := #[s, x], argTypes := #[33, 33] }) (base b : Nat) (hs : a.eval s = .slice (some ⟨b, 0, none⟩) 0 0)
    (hb : base ≤ b) (hblk : w.heap[b]? = some (.cells #[] 42 (0, 0))) (lo hi : Nat) (A : Option Addr) (m c : Nat) (cs : List Co) (hx : a.eval x = .slice A m c) (hm : m = cs.length) (hz : CosAt w lo hi (.slice A cs.length c) cs) (hn : m ≤ 1048576) (hbase : base ≤ w.heap.size)
    (h : ∀ VA VC w' news, w'.ownsRow base 42 3 (.slice VA m VC) m news → CosNews w lo hi news cs → w.grownBy w' (some b) → K (a.put o.dst (.slice VA m VC)) w') :
    if Region.wanted o (yielded ops a.tmps) = true then Oper.wp Try.prog o a w K Q else E := by
  have hw : Region.wanted o (yielded ops a.tmps) = true := by simp [Region.wanted, hgd]
  rw [if_pos hw]
  subst hm
  obtain ⟨i0, hi0, hz0, hz1, hz2⟩ := info_parts infoCoercionW
  have hown := ownsRow_zero hb hblk
  rcases A with _ | ad
  · have hcs : cs = [] := by
      rcases cs with _ | ⟨z, zs⟩
      · rfl
      · obtain ⟨b, off, A2, cap2, e, _⟩ := hz.at_ (k := 0) (by simp)
        cases e
    subst hcs
    have hrun := run_append_owned_none' (P := Try.prog) (w := w) base 33 o.type 42 i0 3 Try.underlying33 hi0 _ _ _ c hown
    unfold Oper.wp
    rw [List.length_nil] at hx
    simp [execOp, ho, resolve, invoke, builtin, hs, hx, hrun, Result.andThen]
    exact h _ _ _ [] hown ⟨fun _ => undef, rfl, fun i hi => absurd hi (by simp)⟩ ⟨rfl, rfl, rfl, Nat.le_refl _, fun _ _ _ => rfl⟩
  · obtain ⟨news, hnews, hcells, hone⟩ := cos_news hz
    obtain ⟨mv, hl, hrest⟩ := hnews
    refine wp_append_own w s x 33 ho base 42 i0 _ 3 40 Try.underlying33 hi0 hz0 hz1 hz2 rfl (by omega) _ 0 [] hs hown ad cs.length c news hx hl hcells hone (by unfold maxLen; omega) (by omega) hbase ?_
    intro v' w' h1 h2 _
    obtain ⟨VA, VC, rfl⟩ := owns_form h1
    rw [Nat.zero_add, List.nil_append] at h1
    rw [Nat.zero_add]
    exact h VA VC w' news h1 ⟨mv, hl, hrest⟩ h2
end Go.Proofs.Ytplncocfbajefaa

namespace Go.Proofs.Ytplncocfbajefaa
open Go.RowKit

/-- T: the types' block; s, l: what it holds; c0, c1, c2: the coercion's cells; f: which operations have been done; the letters: what their slots hold. -/
structure RFacts (lo hi N T : Nat) (w4 : World) (cos : List Co) (s l c0 c1 c2 : Value) (f : Nat → Bool) (x6 x11 x12 x13 x14 x15 x16 x17 x18 x19 x20 : Value) (u : World) : Prop where
  bel : Below N w4 u
  a0 : f 0 = true → x11 = .pointer (some ⟨T, 0, none⟩)
  a1 : f 1 = true → x12 = s
  a2 : f 2 = true → f 5 = false → ∃ b, N ≤ b ∧ x13 = .slice (some ⟨b, 0, none⟩) 0 0 ∧ Row u b 42 []
  a3 : f 3 = true → x14 = .pointer (some ⟨T, 1, none⟩)
  a4 : f 4 = true → x15 = l
  a5 : f 5 = true → f 8 = false → ∃ A c news, x16 = .slice A cos.length c ∧ u.ownsRow N 42 3 x16 cos.length news ∧ CosNews u lo hi news cos
  a6 : f 6 = true → x17 = .agg #[c0, c1, c2]
  a7 : f 7 = true → f 8 = false → ∃ p, N ≤ p ∧ x18 = .slice (some ⟨p, 0, none⟩) 1 1 ∧ Row u p 42 [c0, c1, c2]
  a8 : f 8 = true → ∃ A c news, x19 = .slice A (cos.length + 1) c ∧ u.ownsRow N 42 3 x19 (cos.length + 1) (news ++ [c0, c1, c2]) ∧ CosNews u lo hi news cos
  a9 : f 9 = true → x20 = .agg #[s, x19]
  a10 : f 10 = true → f 11 = false → ∃ q, N ≤ q ∧ x6 = .pointer (some ⟨q, 0, none⟩) ∧ Row u q 35 [.slice none 0 0, .slice none 0 0]
  a11 : f 11 = true → ∃ q, N ≤ q ∧ x6 = .pointer (some ⟨q, 0, none⟩) ∧ Row u q 35 [s, x19]

theorem CosNews.keep {w w' : World} {lo hi : Nat} {news : List Value} {cs : List Co} (h : CosNews w lo hi news cs) (hk : ∀ k, lo ≤ k → k < hi → w'.heap[k]? = w.heap[k]?) : CosNews w' lo hi news cs := by
  obtain ⟨mv, hl, hi2⟩ := h
  exact ⟨mv, hl, fun i hi' => by
    obtain ⟨h0, h1, h2, h3⟩ := hi2 i hi'
    exact ⟨h0, h1, h2, h3.keep hk⟩⟩
theorem row_own_ne {w : World} {base g n : Nat} {v : Value} {xs ys : List Value} (hr : Row w g 35 xs) (ho : w.ownsRow base 42 3 v n ys) : v.ownBlock ≠ some g := by
  intro e
  obtain ⟨_, ⟨rfl, _⟩ | ⟨g', cap, cur, rfl, hb, hh, _⟩⟩ := ho
  · simp [Value.ownBlock] at e
  · simp only [Value.ownBlock, Option.some.injEq] at e
    subst e
    unfold Row at hr
    rw [hr] at hh
    simp only [Option.some.injEq, Obj.cells.injEq] at hh
    exact absurd hh.2.1 (by decide)

section
variable {lo hi N T : Nat} {w4 u : World} {cos : List Co} {s l c0 c1 c2 : Value} {f : Nat → Bool} {x6 x11 x12 x13 x14 x15 x16 x17 x18 x19 x20 : Value}

/-- Blocks that stood stay as they are. -/
theorem RFacts.grow {u' : World} (h : RFacts lo hi N T w4 cos s l c0 c1 c2 f x6 x11 x12 x13 x14 x15 x16 x17 x18 x19 x20 u) (hN : N ≤ u.heap.size) (hh : hi ≤ N) (hb : Below u.heap.size u u') : RFacts lo hi N T w4 cos s l c0 c1 c2 f x6 x11 x12 x13 x14 x15 x16 x17 x18 x19 x20 u' where
  bel := h.bel.trans (hb.mono hN)
  a0 := h.a0
  a1 := h.a1
  a2 := fun h1 h2 => by
    obtain ⟨b, h3, h4, h5⟩ := h.a2 h1 h2
    exact ⟨b, h3, h4, h5.below hb h5.lt⟩
  a3 := h.a3
  a4 := h.a4
  a5 := fun h1 h2 => by
    obtain ⟨A, c, news, h3, h4, h5⟩ := h.a5 h1 h2
    exact ⟨A, c, news, h3, ownsRow_keep h4 fun g _ hg => hb.block g hg, h5.keep fun k _ hk => hb.block k (by omega)⟩
  a6 := h.a6
  a7 := fun h1 h2 => by
    obtain ⟨b, h3, h4, h5⟩ := h.a7 h1 h2
    exact ⟨b, h3, h4, h5.below hb h5.lt⟩
  a8 := fun h1 => by
    obtain ⟨A, c, news, h3, h4, h5⟩ := h.a8 h1
    exact ⟨A, c, news, h3, ownsRow_keep h4 fun g _ hg => hb.block g hg, h5.keep fun k _ hk => hb.block k (by omega)⟩
  a9 := h.a9
  a10 := fun h1 h2 => by
    obtain ⟨b, h3, h4, h5⟩ := h.a10 h1 h2
    exact ⟨b, h3, h4, h5.below hb h5.lt⟩
  a11 := fun h1 => by
    obtain ⟨b, h3, h4, h5⟩ := h.a11 h1
    exact ⟨b, h3, h4, h5.below hb h5.lt⟩

/-- The first append: it may write into the empty list's block. -/
theorem RFacts.append1 {b : Nat} {A : Option Addr} {c : Nat} {u' : World} {news : List Value} (h : RFacts lo hi N T w4 cos s l c0 c1 c2 f x6 x11 x12 x13 x14 x15 x16 x17 x18 x19 x20 u) (hN : N ≤ u.heap.size) (hh : hi ≤ N) (hf8 : f 8 = false) (hf11 : f 11 = false) (hf9 : f 9 = false)
    (hbN : N ≤ b) (hrow : Row u b 42 []) (hg : u.grownBy u' (some b)) (hown : u'.ownsRow N 42 3 (.slice A cos.length c) cos.length news) (hnews : CosNews u lo hi news cos) :
    RFacts lo hi N T w4 cos s l c0 c1 c2 (fun k => decide (k = 5) || f k) x6 x11 x12 x13 x14 x15 (.slice A cos.length c) x17 x18 x19 x20 u' where
  bel := h.bel.trans ⟨hg.os, hg.tape, hg.output, hg.size, fun k hk => hg.block k (by omega) (by intro e; simp only [Option.some.injEq] at e; omega)⟩
  a0 := fun h1 => h.a0 (by simpa using h1)
  a1 := fun h1 => h.a1 (by simpa using h1)
  a2 := fun _ h2 => by simp at h2
  a3 := fun h1 => h.a3 (by simpa using h1)
  a4 := fun h1 => h.a4 (by simpa using h1)
  a5 := fun _ _ => ⟨A, c, news, rfl, hown, hnews.keep fun k _ hk => hg.block k (by omega) (by intro e; simp only [Option.some.injEq] at e; omega)⟩
  a6 := fun h1 => h.a6 (by simpa using h1)
  a7 := fun h1 h2 => by
    obtain ⟨p, h3, h4, h5⟩ := h.a7 (by simpa using h1) hf8
    refine ⟨p, h3, h4, h5.keep (hg.block p h5.lt fun e => ?_)⟩
    simp only [Option.some.injEq] at e
    subst e
    unfold Row at h5 hrow
    rw [h5] at hrow
    simp at hrow
  a8 := fun h1 => by simp [hf8] at h1
  a9 := fun h1 => by simp [hf9] at h1
  a10 := fun h1 _ => by
    obtain ⟨q, h3, h4, h5⟩ := h.a10 (by simpa using h1) hf11
    refine ⟨q, h3, h4, h5.keep (hg.block q h5.lt fun e => ?_)⟩
    simp only [Option.some.injEq] at e
    subst e
    unfold Row at h5 hrow
    rw [h5] at hrow
    simp at hrow
  a11 := fun h1 => by simp [hf11] at h1

/-- The second append: it may write into the list's own block. -/
theorem RFacts.append2 {A : Option Addr} {c : Nat} {u' : World} {news : List Value} (h : RFacts lo hi N T w4 cos s l c0 c1 c2 f x6 x11 x12 x13 x14 x15 x16 x17 x18 x19 x20 u) (hN : N ≤ u.heap.size) (hh : hi ≤ N) (hf11 : f 11 = false) (hf9 : f 9 = false) (hf5 : f 5 = true)
    (hold : u.ownsRow N 42 3 x16 cos.length news) (hg : u.grownBy u' x16.ownBlock) (hown : u'.ownsRow N 42 3 (.slice A (cos.length + 1) c) (cos.length + 1) (news ++ [c0, c1, c2])) (hnews : CosNews u lo hi news cos) :
    RFacts lo hi N T w4 cos s l c0 c1 c2 (fun k => decide (k = 8) || f k) x6 x11 x12 x13 x14 x15 x16 x17 x18 (.slice A (cos.length + 1) c) x20 u' where
  bel := h.bel.trans ⟨hg.os, hg.tape, hg.output, hg.size, fun k hk => hg.block k (by omega) (by intro e; have := owns_lt hold k e.symm; omega)⟩
  a0 := fun h1 => h.a0 (by simpa using h1)
  a1 := fun h1 => h.a1 (by simpa using h1)
  a2 := fun _ h2 => by simp [hf5] at h2
  a3 := fun h1 => h.a3 (by simpa using h1)
  a4 := fun h1 => h.a4 (by simpa using h1)
  a5 := fun _ h2 => by simp at h2
  a6 := fun h1 => h.a6 (by simpa using h1)
  a7 := fun _ h2 => by simp at h2
  a8 := fun _ => ⟨A, c, news, rfl, hown, hnews.keep fun k _ hk => hg.block k (by omega) (by intro e; have := owns_lt hold k e.symm; omega)⟩
  a9 := fun h1 => by simp [hf9] at h1
  a10 := fun h1 _ => by
    obtain ⟨q, h3, h4, h5⟩ := h.a10 (by simpa using h1) hf11
    exact ⟨q, h3, h4, h5.keep (hg.block q h5.lt fun e => row_own_ne h5 hold e.symm)⟩
  a11 := fun h1 => by simp [hf11] at h1
end
end Go.Proofs.Ytplncocfbajefaa

namespace Go.Proofs.Ytplncocfbajefaa
open Go.RowKit
section
variable {lo hi N T : Nat} {w4 u : World} {cos : List Co} {s l c0 c1 c2 : Value} {f : Nat → Bool} {x6 x11 x12 x13 x14 x15 x16 x17 x18 x19 x20 : Value}
theorem RFacts.s0 (h : RFacts lo hi N T w4 cos s l c0 c1 c2 f x6 x11 x12 x13 x14 x15 x16 x17 x18 x19 x20 u) : RFacts lo hi N T w4 cos s l c0 c1 c2 (fun k => decide (k = 0) || f k) x6 (.pointer (some ⟨T, 0, none⟩)) x12 x13 x14 x15 x16 x17 x18 x19 x20 u where
  bel := h.bel
  a0 := fun _ => rfl
  a1 := fun e => h.a1 (by simpa using e)
  a2 := fun e e2 => h.a2 (by simpa using e) (by simpa using e2)
  a3 := fun e => h.a3 (by simpa using e)
  a4 := fun e => h.a4 (by simpa using e)
  a5 := fun e e2 => h.a5 (by simpa using e) (by simpa using e2)
  a6 := fun e => h.a6 (by simpa using e)
  a7 := fun e e2 => h.a7 (by simpa using e) (by simpa using e2)
  a8 := fun e => h.a8 (by simpa using e)
  a9 := fun e => h.a9 (by simpa using e)
  a10 := fun e e2 => h.a10 (by simpa using e) (by simpa using e2)
  a11 := fun e => h.a11 (by simpa using e)
theorem RFacts.s1 (h : RFacts lo hi N T w4 cos s l c0 c1 c2 f x6 x11 x12 x13 x14 x15 x16 x17 x18 x19 x20 u) : RFacts lo hi N T w4 cos s l c0 c1 c2 (fun k => decide (k = 1) || f k) x6 x11 s x13 x14 x15 x16 x17 x18 x19 x20 u where
  bel := h.bel
  a0 := fun e => h.a0 (by simpa using e)
  a1 := fun _ => rfl
  a2 := fun e e2 => h.a2 (by simpa using e) (by simpa using e2)
  a3 := fun e => h.a3 (by simpa using e)
  a4 := fun e => h.a4 (by simpa using e)
  a5 := fun e e2 => h.a5 (by simpa using e) (by simpa using e2)
  a6 := fun e => h.a6 (by simpa using e)
  a7 := fun e e2 => h.a7 (by simpa using e) (by simpa using e2)
  a8 := fun e => h.a8 (by simpa using e)
  a9 := fun e => h.a9 (by simpa using e)
  a10 := fun e e2 => h.a10 (by simpa using e) (by simpa using e2)
  a11 := fun e => h.a11 (by simpa using e)
theorem RFacts.s2 (h : RFacts lo hi N T w4 cos s l c0 c1 c2 f x6 x11 x12 x13 x14 x15 x16 x17 x18 x19 x20 u) {b : Nat} (hb : N ≤ b) (hr : Row u b 42 []) : RFacts lo hi N T w4 cos s l c0 c1 c2 (fun k => decide (k = 2) || f k) x6 x11 x12 (.slice (some ⟨b, 0, none⟩) 0 0) x14 x15 x16 x17 x18 x19 x20 u where
  bel := h.bel
  a0 := fun e => h.a0 (by simpa using e)
  a1 := fun e => h.a1 (by simpa using e)
  a2 := fun _ _ => ⟨b, hb, rfl, hr⟩
  a3 := fun e => h.a3 (by simpa using e)
  a4 := fun e => h.a4 (by simpa using e)
  a5 := fun e e2 => h.a5 (by simpa using e) (by simpa using e2)
  a6 := fun e => h.a6 (by simpa using e)
  a7 := fun e e2 => h.a7 (by simpa using e) (by simpa using e2)
  a8 := fun e => h.a8 (by simpa using e)
  a9 := fun e => h.a9 (by simpa using e)
  a10 := fun e e2 => h.a10 (by simpa using e) (by simpa using e2)
  a11 := fun e => h.a11 (by simpa using e)
theorem RFacts.s3 (h : RFacts lo hi N T w4 cos s l c0 c1 c2 f x6 x11 x12 x13 x14 x15 x16 x17 x18 x19 x20 u) : RFacts lo hi N T w4 cos s l c0 c1 c2 (fun k => decide (k = 3) || f k) x6 x11 x12 x13 (.pointer (some ⟨T, 1, none⟩)) x15 x16 x17 x18 x19 x20 u where
  bel := h.bel
  a0 := fun e => h.a0 (by simpa using e)
  a1 := fun e => h.a1 (by simpa using e)
  a2 := fun e e2 => h.a2 (by simpa using e) (by simpa using e2)
  a3 := fun _ => rfl
  a4 := fun e => h.a4 (by simpa using e)
  a5 := fun e e2 => h.a5 (by simpa using e) (by simpa using e2)
  a6 := fun e => h.a6 (by simpa using e)
  a7 := fun e e2 => h.a7 (by simpa using e) (by simpa using e2)
  a8 := fun e => h.a8 (by simpa using e)
  a9 := fun e => h.a9 (by simpa using e)
  a10 := fun e e2 => h.a10 (by simpa using e) (by simpa using e2)
  a11 := fun e => h.a11 (by simpa using e)
theorem RFacts.s4 (h : RFacts lo hi N T w4 cos s l c0 c1 c2 f x6 x11 x12 x13 x14 x15 x16 x17 x18 x19 x20 u) : RFacts lo hi N T w4 cos s l c0 c1 c2 (fun k => decide (k = 4) || f k) x6 x11 x12 x13 x14 l x16 x17 x18 x19 x20 u where
  bel := h.bel
  a0 := fun e => h.a0 (by simpa using e)
  a1 := fun e => h.a1 (by simpa using e)
  a2 := fun e e2 => h.a2 (by simpa using e) (by simpa using e2)
  a3 := fun e => h.a3 (by simpa using e)
  a4 := fun _ => rfl
  a5 := fun e e2 => h.a5 (by simpa using e) (by simpa using e2)
  a6 := fun e => h.a6 (by simpa using e)
  a7 := fun e e2 => h.a7 (by simpa using e) (by simpa using e2)
  a8 := fun e => h.a8 (by simpa using e)
  a9 := fun e => h.a9 (by simpa using e)
  a10 := fun e e2 => h.a10 (by simpa using e) (by simpa using e2)
  a11 := fun e => h.a11 (by simpa using e)
theorem RFacts.s6 (h : RFacts lo hi N T w4 cos s l c0 c1 c2 f x6 x11 x12 x13 x14 x15 x16 x17 x18 x19 x20 u) : RFacts lo hi N T w4 cos s l c0 c1 c2 (fun k => decide (k = 6) || f k) x6 x11 x12 x13 x14 x15 x16 (.agg #[c0, c1, c2]) x18 x19 x20 u where
  bel := h.bel
  a0 := fun e => h.a0 (by simpa using e)
  a1 := fun e => h.a1 (by simpa using e)
  a2 := fun e e2 => h.a2 (by simpa using e) (by simpa using e2)
  a3 := fun e => h.a3 (by simpa using e)
  a4 := fun e => h.a4 (by simpa using e)
  a5 := fun e e2 => h.a5 (by simpa using e) (by simpa using e2)
  a6 := fun _ => rfl
  a7 := fun e e2 => h.a7 (by simpa using e) (by simpa using e2)
  a8 := fun e => h.a8 (by simpa using e)
  a9 := fun e => h.a9 (by simpa using e)
  a10 := fun e e2 => h.a10 (by simpa using e) (by simpa using e2)
  a11 := fun e => h.a11 (by simpa using e)
theorem RFacts.s7 (h : RFacts lo hi N T w4 cos s l c0 c1 c2 f x6 x11 x12 x13 x14 x15 x16 x17 x18 x19 x20 u) {b : Nat} (hb : N ≤ b) (hr : Row u b 42 [c0, c1, c2]) : RFacts lo hi N T w4 cos s l c0 c1 c2 (fun k => decide (k = 7) || f k) x6 x11 x12 x13 x14 x15 x16 x17 (.slice (some ⟨b, 0, none⟩) 1 1) x19 x20 u where
  bel := h.bel
  a0 := fun e => h.a0 (by simpa using e)
  a1 := fun e => h.a1 (by simpa using e)
  a2 := fun e e2 => h.a2 (by simpa using e) (by simpa using e2)
  a3 := fun e => h.a3 (by simpa using e)
  a4 := fun e => h.a4 (by simpa using e)
  a5 := fun e e2 => h.a5 (by simpa using e) (by simpa using e2)
  a6 := fun e => h.a6 (by simpa using e)
  a7 := fun _ _ => ⟨b, hb, rfl, hr⟩
  a8 := fun e => h.a8 (by simpa using e)
  a9 := fun e => h.a9 (by simpa using e)
  a10 := fun e e2 => h.a10 (by simpa using e) (by simpa using e2)
  a11 := fun e => h.a11 (by simpa using e)
theorem RFacts.s9 (h : RFacts lo hi N T w4 cos s l c0 c1 c2 f x6 x11 x12 x13 x14 x15 x16 x17 x18 x19 x20 u) : RFacts lo hi N T w4 cos s l c0 c1 c2 (fun k => decide (k = 9) || f k) x6 x11 x12 x13 x14 x15 x16 x17 x18 x19 (.agg #[s, x19]) u where
  bel := h.bel
  a0 := fun e => h.a0 (by simpa using e)
  a1 := fun e => h.a1 (by simpa using e)
  a2 := fun e e2 => h.a2 (by simpa using e) (by simpa using e2)
  a3 := fun e => h.a3 (by simpa using e)
  a4 := fun e => h.a4 (by simpa using e)
  a5 := fun e e2 => h.a5 (by simpa using e) (by simpa using e2)
  a6 := fun e => h.a6 (by simpa using e)
  a7 := fun e e2 => h.a7 (by simpa using e) (by simpa using e2)
  a8 := fun e => h.a8 (by simpa using e)
  a9 := fun _ => rfl
  a10 := fun e e2 => h.a10 (by simpa using e) (by simpa using e2)
  a11 := fun e => h.a11 (by simpa using e)
theorem RFacts.s10 (h : RFacts lo hi N T w4 cos s l c0 c1 c2 f x6 x11 x12 x13 x14 x15 x16 x17 x18 x19 x20 u) {b : Nat} (hb : N ≤ b) (hr : Row u b 35 [.slice none 0 0, .slice none 0 0]) (hf11 : f 11 = false) : RFacts lo hi N T w4 cos s l c0 c1 c2 (fun k => decide (k = 10) || f k) (.pointer (some ⟨b, 0, none⟩)) x11 x12 x13 x14 x15 x16 x17 x18 x19 x20 u where
  bel := h.bel
  a0 := fun e => h.a0 (by simpa using e)
  a1 := fun e => h.a1 (by simpa using e)
  a2 := fun e e2 => h.a2 (by simpa using e) (by simpa using e2)
  a3 := fun e => h.a3 (by simpa using e)
  a4 := fun e => h.a4 (by simpa using e)
  a5 := fun e e2 => h.a5 (by simpa using e) (by simpa using e2)
  a6 := fun e => h.a6 (by simpa using e)
  a7 := fun e e2 => h.a7 (by simpa using e) (by simpa using e2)
  a8 := fun e => h.a8 (by simpa using e)
  a9 := fun e => h.a9 (by simpa using e)
  a10 := fun _ _ => ⟨b, hb, rfl, hr⟩
  a11 := fun e => by simp [hf11] at e
theorem RFacts.s11 {q : Nat} (h : RFacts lo hi N T w4 cos s l c0 c1 c2 f (.pointer (some ⟨q, 0, none⟩)) x11 x12 x13 x14 x15 x16 x17 x18 x19 x20 u) (_hN : N ≤ u.heap.size) (hh : hi ≤ N) (hf5 : f 5 = true) (hf8 : f 8 = true) (hq : N ≤ q) (hr : Row u q 35 [.slice none 0 0, .slice none 0 0]) :
    RFacts lo hi N T w4 cos s l c0 c1 c2 (fun k => decide (k = 11) || f k) (.pointer (some ⟨q, 0, none⟩)) x11 x12 x13 x14 x15 x16 x17 x18 x19 x20 ((u.setCell ⟨q, 0, none⟩ s).setCell ⟨q, 1, none⟩ x19) where
  bel := (h.bel.setCell (by dsimp only; omega) _).setCell (by dsimp only; omega) _
  a0 := fun e => h.a0 (by simpa using e)
  a1 := fun e => h.a1 (by simpa using e)
  a2 := fun _ e2 => by simp [hf5] at e2
  a3 := fun e => h.a3 (by simpa using e)
  a4 := fun e => h.a4 (by simpa using e)
  a5 := fun _ e2 => by simp [hf8] at e2
  a6 := fun e => h.a6 (by simpa using e)
  a7 := fun _ e2 => by simp [hf8] at e2
  a8 := fun e => by
    obtain ⟨A, c, news, h3, h4, h5⟩ := h.a8 (by simpa using e)
    have hk : ∀ k, k ≠ q → ((u.setCell ⟨q, 0, none⟩ s).setCell ⟨q, 1, none⟩ x19).heap[k]? = u.heap[k]? := fun k hk => (Below.heap_setCell _ _ _ _ hk).trans (Below.heap_setCell _ _ _ _ hk)
    exact ⟨A, c, news, h3, ownsRow_keep1 h4 fun g hg => hk g (fun e => row_own_ne hr h4 (by rw [hg, e])), h5.keep fun k _ hk2 => hk k (by omega)⟩
  a9 := fun e => h.a9 (by simpa using e)
  a10 := fun _ e2 => by simp at e2
  a11 := fun _ => ⟨q, hq, rfl, (hr.set_ 0 s).set_ 1 x19⟩
end
structure RCl (f : Nat → Bool) : Prop where
  c85 : f 8 = true → f 5 = true
  c98 : f 9 = true → f 8 = true
  cb8 : f 11 = true → f 8 = true
  cba : f 11 = true → f 10 = true
section
variable {f : Nat → Bool}
theorem RCl.n8 (h : RCl f) (h5 : f 5 = false) : f 8 = false := by
  by_cases e : f 8 = true
  · rw [h.c85 e] at h5; cases h5
  · simpa using e
theorem RCl.n9 (h : RCl f) (h8 : f 8 = false) : f 9 = false := by
  by_cases e : f 9 = true
  · rw [h.c98 e] at h8; cases h8
  · simpa using e
theorem RCl.nb (h : RCl f) (h8 : f 8 = false) : f 11 = false := by
  by_cases e : f 11 = true
  · rw [h.cb8 e] at h8; cases h8
  · simpa using e
theorem RCl.nb' (h : RCl f) (h8 : f 10 = false) : f 11 = false := by
  by_cases e : f 11 = true
  · rw [h.cba e] at h8; cases h8
  · simpa using e
theorem RCl.u0 (h : RCl f) : RCl (fun k => decide (k = 0) || f k) where
  c85 := fun e => by simp [h.c85 (by simpa using e)]
  c98 := fun e => by simp [h.c98 (by simpa using e)]
  cb8 := fun e => by simp [h.cb8 (by simpa using e)]
  cba := fun e => by simp [h.cba (by simpa using e)]
theorem RCl.u1 (h : RCl f) : RCl (fun k => decide (k = 1) || f k) where
  c85 := fun e => by simp [h.c85 (by simpa using e)]
  c98 := fun e => by simp [h.c98 (by simpa using e)]
  cb8 := fun e => by simp [h.cb8 (by simpa using e)]
  cba := fun e => by simp [h.cba (by simpa using e)]
theorem RCl.u2 (h : RCl f) : RCl (fun k => decide (k = 2) || f k) where
  c85 := fun e => by simp [h.c85 (by simpa using e)]
  c98 := fun e => by simp [h.c98 (by simpa using e)]
  cb8 := fun e => by simp [h.cb8 (by simpa using e)]
  cba := fun e => by simp [h.cba (by simpa using e)]
theorem RCl.u3 (h : RCl f) : RCl (fun k => decide (k = 3) || f k) where
  c85 := fun e => by simp [h.c85 (by simpa using e)]
  c98 := fun e => by simp [h.c98 (by simpa using e)]
  cb8 := fun e => by simp [h.cb8 (by simpa using e)]
  cba := fun e => by simp [h.cba (by simpa using e)]
theorem RCl.u4 (h : RCl f) : RCl (fun k => decide (k = 4) || f k) where
  c85 := fun e => by simp [h.c85 (by simpa using e)]
  c98 := fun e => by simp [h.c98 (by simpa using e)]
  cb8 := fun e => by simp [h.cb8 (by simpa using e)]
  cba := fun e => by simp [h.cba (by simpa using e)]
theorem RCl.u5 (h : RCl f) : RCl (fun k => decide (k = 5) || f k) where
  c85 := fun _ => rfl
  c98 := fun e => by simp [h.c98 (by simpa using e)]
  cb8 := fun e => by simp [h.cb8 (by simpa using e)]
  cba := fun e => by simp [h.cba (by simpa using e)]
theorem RCl.u6 (h : RCl f) : RCl (fun k => decide (k = 6) || f k) where
  c85 := fun e => by simp [h.c85 (by simpa using e)]
  c98 := fun e => by simp [h.c98 (by simpa using e)]
  cb8 := fun e => by simp [h.cb8 (by simpa using e)]
  cba := fun e => by simp [h.cba (by simpa using e)]
theorem RCl.u7 (h : RCl f) : RCl (fun k => decide (k = 7) || f k) where
  c85 := fun e => by simp [h.c85 (by simpa using e)]
  c98 := fun e => by simp [h.c98 (by simpa using e)]
  cb8 := fun e => by simp [h.cb8 (by simpa using e)]
  cba := fun e => by simp [h.cba (by simpa using e)]
theorem RCl.u8 (h : RCl f) (d5 : f 5 = true) : RCl (fun k => decide (k = 8) || f k) where
  c85 := fun _ => by simp [d5]
  c98 := fun _ => rfl
  cb8 := fun _ => rfl
  cba := fun e => by simp [h.cba (by simpa using e)]
theorem RCl.u9 (h : RCl f) (d8 : f 8 = true) : RCl (fun k => decide (k = 9) || f k) where
  c85 := fun e => by simp [h.c85 (by simpa using e)]
  c98 := fun _ => by simp [d8]
  cb8 := fun e => by simp [h.cb8 (by simpa using e)]
  cba := fun e => by simp [h.cba (by simpa using e)]
theorem RCl.u10 (h : RCl f) : RCl (fun k => decide (k = 10) || f k) where
  c85 := fun e => by simp [h.c85 (by simpa using e)]
  c98 := fun e => by simp [h.c98 (by simpa using e)]
  cb8 := fun e => by simp [h.cb8 (by simpa using e)]
  cba := fun _ => rfl
theorem RCl.u11 (h : RCl f) (d8 : f 8 = true) (d10 : f 10 = true) : RCl (fun k => decide (k = 11) || f k) where
  c85 := fun e => by simp [h.c85 (by simpa using e)]
  c98 := fun e => by simp [h.c98 (by simpa using e)]
  cb8 := fun _ => by simp [d8]
  cba := fun _ => by simp [d10]
end
end Go.Proofs.Ytplncocfbajefaa

