/-
  The contracts of the library's AppendSeq and Collect over the iterator of ways, and of the program's WaysOf.
-/
import Derived.Test.YtplpnammboofiaaJ10
namespace Go.Proofs.Ytplpnammboofiaa
open Go.RowKit
attribute [local go_sem] Oper.semAt_some

theorem slAt_of_owns {w : World} {base n : Nat} {e : TypeId} {v : Value} {xs : List Value} (h : w.ownsRow base e 1 v n xs) : SlAt w e (v.ownBlock.getD 0) v n xs ∧ (0 < n → v.ownBlock = some (v.ownBlock.getD 0) ∧ base ≤ v.ownBlock.getD 0 ∧ v.ownBlock.getD 0 < w.heap.size) := by
  have hlt := owns_lt h
  obtain ⟨h1, ⟨rfl, rfl⟩ | ⟨g, cap, cur, rfl, hb, hh, hc, hm, hsz, htk⟩⟩ := h
  · exact ⟨⟨none, 0, rfl, Nat.le_refl _, Nat.zero_le _, fun _ => List.eq_nil_of_length_eq_zero (by simpa using h1), fun h0 => absurd h0 (by omega)⟩, fun h0 => absurd h0 (by omega)⟩
  · have hr : Row w g e (xs ++ cur.toList.drop n) := by
      rw [← htk, Nat.mul_one, List.take_append_drop]
      simpa [Row] using hh
    exact ⟨⟨_, _, rfl, hc, hm, fun e0 => List.eq_nil_of_length_eq_zero (by rw [h1, e0]), fun _ => ⟨rfl, _, hr⟩⟩, fun _ => ⟨rfl, hlt g rfl⟩⟩

/-- The box of the list that grows, and what it holds. -/
structure CIn (n0 d : Nat) (w1 : World) (s : List (List Int)) (O : Nat → Prop) (A : World) (v : Value) (xs : List Value) : Prop where
  r0 : Row A n0 41 [v]
  out : A.ownsRow n0 23 1 v s.length xs
  own : ∀ i, ∀ (h : i < s.length), ∃ x, xs[i]? = some x ∧ A.ownsRow n0 3 1 x s[i].length (s[i].map (Value.int .i64)) ∧ ∀ b, x.ownBlock = some b → ¬ O b ∧ b ≠ d ∧ b ≠ d + 1
  ne : ∀ (i j : Nat) (x y : Value), xs[i]? = some x → xs[j]? = some y → i ≠ j → ∀ b, x.ownBlock = some b → y.ownBlock ≠ some b
  no : ∀ b, v.ownBlock = some b → ¬ O b ∧ b ≠ d ∧ b ≠ d + 1
  no0 : ¬ O n0
  lo : ∀ k, O k → n0 ≤ k
  hi : ∀ k, O k → k < A.heap.size
  below : Below n0 w1 A
section
variable {n0 d : Nat} {w1 A A0 A2 A3 C : World} {s : List (List Int)} {O O' : Nat → Prop} {v : Value} {xs : List Value}
theorem CIn.move (h : CIn n0 d w1 s O A v xs) (hO : ∀ k, O' k → (O k ∨ A.heap.size ≤ k) ∧ k < C.heap.size) (hk : ∀ k, k < A.heap.size → ¬ O k → k ≠ d → k ≠ d + 1 → C.heap[k]? = A.heap[k]?) (hd : n0 < d) (hb : Below n0 w1 C) : CIn n0 d w1 s O' C v xs := by
  have hlow : ∀ b, ¬ O b → b < A.heap.size → ¬ O' b := fun b h1 h2 h3 => by
    rcases (hO b h3).1 with h | h
    · exact h1 h
    · omega
  refine ⟨h.r0.keep (hk n0 h.r0.lt h.no0 (by omega) (by omega)), ownsRow_keep1 h.out fun b hb2 => hk b (owns_lt h.out b hb2).2 (h.no b hb2).1 (h.no b hb2).2.1 (h.no b hb2).2.2, fun i hi => ?_, h.ne, fun b hb2 => ⟨hlow b (h.no b hb2).1 (owns_lt h.out b hb2).2, (h.no b hb2).2⟩, hlow n0 h.no0 h.r0.lt, fun k hk2 => ?_, fun k hk2 => (hO k hk2).2, hb⟩
  · obtain ⟨x, hx, ho, hn⟩ := h.own i hi
    exact ⟨x, hx, ownsRow_keep1 ho fun b hb2 => hk b (owns_lt ho b hb2).2 (hn b hb2).1 (hn b hb2).2.1 (hn b hb2).2.2, fun b hb2 => ⟨hlow b (hn b hb2).1 (owns_lt ho b hb2).2, (hn b hb2).2⟩⟩
  · rcases (hO k hk2).1 with h2 | h2
    · exact h.lo k h2
    · have := h.r0.lt; omega
theorem CIn.push {zs : List Int} {x v' : Value} (h0 : CIn n0 d w1 s O A0 v xs) (hd : n0 < d) (hdl : d + 1 < A0.heap.size) (hbel : Below A0.heap.size A0 A) (hz : A.ownsRow 0 3 1 x zs.length (zs.map (Value.int .i64))) (hzo : ∀ b, x.ownBlock = some b → A0.heap.size ≤ b ∧ ¬ O b ∧ ¬ b < n0)
    (hA2 : Below A.heap.size A A2) (hp : Pushed A2 A3 n0 23 v v' s.length xs x) : CIn n0 d w1 (s ++ [zs]) O (A3.setCell ⟨n0, 0, none⟩ v') v' (xs ++ [x]) ∧ HoldsOn (fun k => O k ∨ k < n0 ∨ k = d ∨ k = d + 1) A (A3.setCell ⟨n0, 0, none⟩ v') := by
  have hs1 := hbel.size
  have hs2 := hA2.size
  have hs3 := hp.grown.size
  have hl0 := h0.r0.lt
  have hvl := owns_lt h0.out
  have hsz : (A3.setCell ⟨n0, 0, none⟩ v').heap.size = A3.heap.size := by simp [World.setCell]
  have hxl := h0.out.1
  have hrow2 : Row A2 n0 41 [v] := (h0.r0.below hbel hl0).below hA2 (by omega)
  have hout2 : A2.ownsRow n0 23 1 v s.length xs := ownsRow_keep1 h0.out fun b hb => (hA2.block b (by have := (hvl b hb).2; omega)).trans (hbel.block b (hvl b hb).2)
  have hvne := owns_ne_row hout2 hrow2 (by decide)
  have hv' : ∀ b, v'.ownBlock = some b → (v.ownBlock = some b) ∨ (A2.heap.size ≤ b ∧ b < A3.heap.size) := by
    intro b hb
    rcases hp.at_ with e | ⟨g', e, h6, h7⟩
    · exact .inl (by rw [← e]; exact hb)
    · rw [e] at hb; simp only [Option.some.injEq] at hb; subst hb; exact .inr ⟨h6, h7⟩
  have hv'0 : v'.ownBlock ≠ some n0 := fun e => (hv' n0 e).elim hvne (fun h => by omega)
  -- blocks that v does not own stay
  have hkeep : ∀ k, k < A2.heap.size → v.ownBlock ≠ some k → k ≠ n0 → (A3.setCell ⟨n0, 0, none⟩ v').heap[k]? = A2.heap[k]? := fun k hk h1 h2 => (heap_set_ne _ _ _ _ _ h2).trans (hp.grown.block k hk (fun e => h1 e.symm))
  have hxs : ∀ (i : Nat) (y : Value), xs[i]? = some y → ∀ b, y.ownBlock = some b → b < A0.heap.size := fun i y hy b hb => by
    have hi : i < s.length := by have := (List.getElem?_eq_some_iff.1 hy).1; omega
    obtain ⟨y', hy', ho, _⟩ := h0.own i hi
    rw [hy] at hy'
    simp only [Option.some.injEq] at hy'
    subst hy'
    exact (owns_lt ho b hb).2
  have hzl := owns_lt hz
  refine ⟨⟨(hrow2.keep (hp.grown.block n0 (by omega) (fun e => hvne e.symm))).set_ 0 v', ?_, fun i hi => ?_, fun i j y y' hy hy' hne b hb => ?_, fun b hb => ?_, h0.no0, h0.lo, fun k hk => by have := h0.hi k hk; rw [hsz]; omega, ?_⟩, ⟨by rw [hsz]; omega, fun k hk hS => ?_⟩⟩
  · refine ownsRow_keep1 (w := A3) ?_ fun b hb => heap_set_ne _ _ _ _ _ (fun e => hv'0 (by rw [hb, e]))
    rw [List.length_append]
    exact hp.own
  · by_cases hil : i < s.length
    · obtain ⟨y, hy, ho, hn⟩ := h0.own i hil
      refine ⟨y, by rw [List.getElem?_append_left (by omega)]; exact hy, ?_, hn⟩
      rw [List.getElem_append_left hil]
      refine ownsRow_keep1 ho fun b hb => ?_
      have hbl := (owns_lt ho b hb).2
      have hb2 : A2.heap[b]? = A0.heap[b]? := (hA2.block b (by omega)).trans (hbel.block b hbl)
      have ho2 : A2.ownsRow n0 3 1 y s[i].length (s[i].map (Value.int .i64)) := ownsRow_keep1 ho fun b' hb' => by
        have := (owns_lt ho b' hb').2
        exact (hA2.block b' (by omega)).trans (hbel.block b' this)
      exact (hkeep b (by omega) (owns_ne_owns ho2 hout2 (by decide) b hb) (fun e => owns_ne_row ho2 hrow2 (by decide) (by rw [hb, e]))).trans hb2
    · obtain rfl : i = s.length := by simp at hi; omega
      refine ⟨x, by rw [List.getElem?_append_right (by omega)]; simp [hxl], ?_, fun b hb => ⟨(hzo b hb).2.1, by have := (hzo b hb).1; omega⟩⟩
      have e : (s ++ [zs])[s.length] = zs := by simp
      rw [e]
      refine ownsRow_keep1 (w := A) ?_ fun b hb => ?_
      · obtain ⟨z1, z2 | ⟨g, cap, cur, rfl, _, r⟩⟩ := hz
        · exact ⟨z1, .inl z2⟩
        · exact ⟨z1, .inr ⟨g, cap, cur, rfl, by have := (hzo g rfl).1; omega, r⟩⟩
      · have hbA := (hzo b hb).1
        have hbl := (hzl b hb).2
        exact (hkeep b (by omega) (fun e => by have := (hvl b e).2; omega) (by omega)).trans (hA2.block b hbl)
  · by_cases h1 : i < xs.length
    · rw [List.getElem?_append_left h1] at hy
      by_cases h2 : j < xs.length
      · rw [List.getElem?_append_left h2] at hy'
        exact h0.ne i j y y' hy hy' hne b hb
      · rw [List.getElem?_append_right (by omega)] at hy'
        have hj : j - xs.length = 0 := by have := (List.getElem?_eq_some_iff.1 hy').1; simp at this; omega
        rw [hj] at hy'
        simp only [List.getElem?_cons_zero, Option.some.injEq] at hy'
        subst hy'
        intro e
        have := hxs i y hy b hb
        have := (hzo b e).1
        omega
    · rw [List.getElem?_append_right (by omega)] at hy
      have hi : i - xs.length = 0 := by have := (List.getElem?_eq_some_iff.1 hy).1; simp at this; omega
      rw [hi] at hy
      simp only [List.getElem?_cons_zero, Option.some.injEq] at hy
      subst hy
      have h2 : j < xs.length := by
        rcases Nat.lt_or_ge j xs.length with h | h
        · exact h
        · rw [List.getElem?_append_right h] at hy'
          have := (List.getElem?_eq_some_iff.1 hy').1
          simp at this
          omega
      rw [List.getElem?_append_left h2] at hy'
      intro e
      have := hxs j y' hy' b e
      have := (hzo b hb).1
      omega
  · rcases hv' b hb with h | h
    · exact h0.no b h
    · exact ⟨fun hO => by have := h0.hi b hO; omega, by omega, by omega⟩
  · have hb2 : Below n0 w1 A2 := (h0.below.trans (hbel.mono (by omega))).trans (hA2.mono (by omega))
    exact (hb2.grown hp.grown (by omega) (fun k hk => (hvl k hk).1)).setCell (Nat.le_refl _) _
  · refine (hkeep k (by omega) (fun e => ?_) (fun e => ?_)).trans (hA2.block k hk)
    · rcases hS with h | h | h | h
      · exact (h0.no k e).1 h
      · have := (hvl k e).1; omega
      · exact (h0.no k e).2.1 h
      · exact (h0.no k e).2.2 h
    · subst e
      rcases hS with h | h | h | h
      · exact h0.no0 h
      · omega
      · omega
      · omega
end

/-- What Collect hands over. -/
def SSOut (w : World) (base : Nat) (v : Value) (zss : List (List Int)) : Prop :=
  ∃ (g : Nat) (gs : Nat → Nat) (xs : List Value), OwnSS w g gs v zss.length (fun i => zss.getD i []) xs ∧ (0 < zss.length → base ≤ g ∧ g < w.heap.size) ∧ ∀ i, i < zss.length → 0 < (zss.getD i []).length → base ≤ gs i ∧ gs i < w.heap.size
theorem CIn.owned {n0 d : Nat} {w1 A : World} {s : List (List Int)} {O : Nat → Prop} {v : Value} {xs : List Value} (h : CIn n0 d w1 s O A v xs) : SSOut A n0 v s := by
  obtain ⟨h1, h2⟩ := slAt_of_owns h.out
  have hxl := h.out.1
  have hgd : ∀ i, ∀ (hi : i < s.length), s.getD i [] = s[i] := fun i hi => by rw [List.getD_eq_getElem?_getD, List.getElem?_eq_getElem hi]; rfl
  refine ⟨v.ownBlock.getD 0, fun i => ((xs.getD i undef).ownBlock).getD 0, xs, ⟨h1, fun i hi => ?_, fun i j hi hj hne h3 h4 e => ?_⟩, fun h0 => (h2 h0).2, fun i hi h0 => ?_⟩
  · obtain ⟨x, hx, ho, _⟩ := h.own i hi
    have e : xs.getD i undef = x := by rw [List.getD_eq_getElem?_getD, hx]; rfl
    rw [hgd i hi, e]
    exact ⟨x, hx, by
      have := (slAt_of_owns ho).1
      exact this⟩
  · obtain ⟨x, hx, ho, _⟩ := h.own i hi
    obtain ⟨y, hy, ho', _⟩ := h.own j hj
    rw [hgd i hi] at h3
    rw [hgd j hj] at h4
    have ex : xs.getD i undef = x := by rw [List.getD_eq_getElem?_getD, hx]; rfl
    have ey : xs.getD j undef = y := by rw [List.getD_eq_getElem?_getD, hy]; rfl
    rw [ex, ey] at e
    have b1 := ((slAt_of_owns ho).2 h3).1
    have b2 := ((slAt_of_owns ho').2 h4).1
    rw [← e] at b2
    exact h.ne i j x y hx hy hne _ b1 b2
  · obtain ⟨x, hx, ho, _⟩ := h.own i hi
    have ex : xs.getD i undef = x := by rw [List.getD_eq_getElem?_getD, hx]; rfl
    rw [hgd i hi] at h0
    show n0 ≤ ((xs.getD i undef).ownBlock).getD 0 ∧ ((xs.getD i undef).ownBlock).getD 0 < A.heap.size
    rw [ex]
    exact ((slAt_of_owns ho).2 h0).2
end Go.Proofs.Ytplpnammboofiaa

