/-
  The model's finder in memory: its way so far and what it has found.
-/
import Derived.Test.YtilcahidmoaakaaWf
namespace Go.Proofs.Ytilcahidmoaakaa
open Go.RowKit

theorem owns_ne_row {w : World} {base g : Nat} {e t : TypeId} {v : Value} {n : Nat} {xs ys : List Value} (h : w.ownsRow base e 1 v n xs) (hr : Row w g t ys) (hne : e ≠ t) : v.ownBlock ≠ some g := by
  intro hv
  obtain ⟨_, ⟨rfl, _⟩ | ⟨g', cap, cur, rfl, hb, hh, _⟩⟩ := h
  · simp [Value.ownBlock] at hv
  · simp only [Value.ownBlock, Option.some.injEq] at hv
    subst hv
    unfold Row at hr
    rw [hr] at hh
    simp only [Option.some.injEq, Obj.cells.injEq] at hh
    exact hne hh.2.1.symm
theorem owns_ne_owns {w : World} {base base' : Nat} {e e' : TypeId} {v v' : Value} {n n' : Nat} {xs xs' : List Value} (h : w.ownsRow base e 1 v n xs) (h' : w.ownsRow base' e' 1 v' n' xs') (hne : e ≠ e') : ∀ b, v.ownBlock = some b → v'.ownBlock ≠ some b := by
  intro b hv hv'
  obtain ⟨_, ⟨rfl, _⟩ | ⟨g, cap, cur, rfl, hb, hh, _⟩⟩ := h
  · simp [Value.ownBlock] at hv
  obtain ⟨_, ⟨rfl, _⟩ | ⟨g', cap', cur', rfl, hb', hh', _⟩⟩ := h'
  · simp [Value.ownBlock] at hv'
  simp only [Value.ownBlock, Option.some.injEq] at hv hv'
  subst hv
  subst hv'
  rw [hh] at hh'
  simp only [Option.some.injEq, Obj.cells.injEq] at hh'
  exact hne hh'.2.1

/-- The pieces of a finder in memory: the value of the way, of what was found, the cells of the latter, the blocks in which the found ways lie. -/
structure FP (sv cv : Value) (goal : Int) (base g : Nat) (way : List Int) (outs : List (List Int)) (w : World) (wv ov : Value) (xs : List Value) (S : Nat → Prop) : Prop where
  row : Row w g 187 [sv, cv, .int .i64 goal, wv, ov]
  le : base ≤ g
  fway : w.ownsRow base 3 1 wv way.length (way.map (Value.int .i64))
  fouts : w.ownsRow base 22 1 ov outs.length xs
  ints : ∀ i, ∀ (h : i < outs.length), ∃ x, xs[i]? = some x ∧ IntsIn w S x outs[i]
  set : ∀ b, S b → base ≤ b ∧ b < w.heap.size ∧ b ≠ g ∧ some b ≠ wv.ownBlock ∧ some b ≠ ov.ownBlock
def FS (sv cv : Value) (goal : Int) (base g : Nat) (way : List Int) (outs : List (List Int)) (w : World) : Prop := ∃ wv ov xs S, FP sv cv goal base g way outs w wv ov xs S

section
variable {sv cv wv ov : Value} {goal : Int} {base g : Nat} {way : List Int} {outs : List (List Int)} {w w' w6 w7 : World} {xs : List Value} {S : Nat → Prop}
theorem FP.ne1 (h : FP sv cv goal base g way outs w wv ov xs S) : wv.ownBlock ≠ some g := owns_ne_row h.fway h.row (by decide)
theorem FP.ne2 (h : FP sv cv goal base g way outs w wv ov xs S) : ov.ownBlock ≠ some g := owns_ne_row h.fouts h.row (by decide)
theorem FP.ne3 (h : FP sv cv goal base g way outs w wv ov xs S) : ∀ b, wv.ownBlock = some b → ov.ownBlock ≠ some b := owns_ne_owns h.fway h.fouts (by decide)
theorem FP.keep (h : FP sv cv goal base g way outs w wv ov xs S) (hs : w.heap.size ≤ w'.heap.size) (hk : ∀ k, base ≤ k → k < w.heap.size → w'.heap[k]? = w.heap[k]?) : FP sv cv goal base g way outs w' wv ov xs S where
  row := h.row.keep (hk g h.le h.row.lt)
  le := h.le
  fway := ownsRow_keep h.fway hk
  fouts := ownsRow_keep h.fouts hk
  ints := fun i hi => by
    obtain ⟨x, hx, hz⟩ := h.ints i hi
    exact ⟨x, hx, hz.keep fun b hb => hk b (h.set b hb).1 (h.set b hb).2.1⟩
  set := fun b hb => by
    obtain ⟨h1, h2, h3⟩ := h.set b hb
    exact ⟨h1, by omega, h3⟩
theorem FS.keep (h : FS sv cv goal base g way outs w) (hs : w.heap.size ≤ w'.heap.size) (hk : ∀ k, base ≤ k → k < w.heap.size → w'.heap[k]? = w.heap[k]?) : FS sv cv goal base g way outs w' := by
  obtain ⟨wv, ov, xs, S, h⟩ := h
  exact ⟨wv, ov, xs, S, h.keep hs hk⟩
theorem heap_set_ne (w : World) (g i : Nat) (u : Value) (k : Nat) (h : k ≠ g) : (w.setCell ⟨g, i, none⟩ u).heap[k]? = w.heap[k]? := Below.heap_setCell w ⟨g, i, none⟩ u k h

theorem FP.pushWay {wv' : Value} {i : Int} (h : FP sv cv goal base g way outs w wv ov xs S) (hp : Pushed w w' base 3 wv wv' way.length (way.map (Value.int .i64)) (.int .i64 i)) :
    FP sv cv goal base g (way ++ [i]) outs (w'.setCell ⟨g, 3, none⟩ wv') wv' ov xs S := by
  have hg := h.row.lt
  have hgr : w'.heap[g]? = w.heap[g]? := hp.grown.block g hg (fun e => h.ne1 e.symm)
  have hne' : wv'.ownBlock ≠ some g := by
    rcases hp.at_ with e | ⟨g', e, h1, _⟩
    · rw [e]; exact h.ne1
    · rw [e]; intro h2; simp only [Option.some.injEq] at h2; omega
  refine ⟨(h.row.keep hgr).set_ 3 wv', h.le, ?_, ?_, fun j hj => ?_, fun b hb => ?_⟩
  · refine ownsRow_keep1 (w := w') ?_ fun b hb => heap_set_ne _ _ _ _ _ (fun e => hne' (by rw [hb, e]))
    rw [List.length_append, List.map_append]
    exact hp.own
  · refine ownsRow_keep1 h.fouts fun b hb => (heap_set_ne _ _ _ _ _ (fun e => h.ne2 (by rw [hb, e]))).trans (hp.grown.block b (owns_lt h.fouts b hb).2 fun e => h.ne3 b e.symm hb)
  · obtain ⟨x, hx, hz⟩ := h.ints j hj
    refine ⟨x, hx, hz.keep fun b hb => ?_⟩
    obtain ⟨_, h2, h3, h4, _⟩ := h.set b hb
    exact (heap_set_ne _ _ _ _ _ h3).trans (hp.grown.block b h2 h4)
  · obtain ⟨h1, h2, h3, h4, h5⟩ := h.set b hb
    refine ⟨h1, by have := hp.grown.size; simp [World.setCell]; omega, h3, ?_, h5⟩
    rcases hp.at_ with e | ⟨g', e, h6, _⟩
    · rw [e]; exact h4
    · rw [e]; intro h7; simp only [Option.some.injEq] at h7; omega

theorem FP.pushOut {ov' x : Value} (h : FP sv cv goal base g way outs w wv ov xs S) (hs : w.heap.size ≤ w6.heap.size) (hk : ∀ k, k < w.heap.size → w6.heap[k]? = w.heap[k]?) (hx : IntsIn w6 (fun b => w.heap.size ≤ b ∧ b < w6.heap.size) x way)
    (hp : Pushed w6 w7 base 22 ov ov' outs.length xs x) : FS sv cv goal base g way (outs ++ [way]) (w7.setCell ⟨g, 4, none⟩ ov') := by
  have hg := h.row.lt
  have h6 := h.keep hs (fun k _ hkk => hk k hkk)
  have hgr : w7.heap[g]? = w6.heap[g]? := hp.grown.block g h6.row.lt (fun e => h6.ne2 e.symm)
  have hne' : ov'.ownBlock ≠ some g := by
    rcases hp.at_ with e | ⟨g', e, h1, _⟩
    · rw [e]; exact h6.ne2
    · rw [e]; intro h2; simp only [Option.some.injEq] at h2; omega
  have hwl := owns_lt h.fway
  have hbl := owns_lt h.fouts
  have hsz := hp.grown.size
  have hxl := h.fouts.1
  refine ⟨wv, ov', xs ++ [x], fun b => S b ∨ (w.heap.size ≤ b ∧ b < w6.heap.size), (h6.row.keep hgr).set_ 4 ov', h.le, ?_, ?_, fun j hj => ?_, fun b hb => ?_⟩
  · refine ownsRow_keep1 h6.fway fun b hb => (heap_set_ne _ _ _ _ _ (fun e => h.ne1 (by rw [hb, e]))).trans (hp.grown.block b (owns_lt h6.fway b hb).2 fun e => h.ne3 b hb e.symm)
  · refine ownsRow_keep1 (w := w7) ?_ fun b hb => heap_set_ne _ _ _ _ _ (fun e => hne' (by rw [hb, e]))
    rw [List.length_append]
    exact hp.own
  · have kept : ∀ b, (S b ∨ (w.heap.size ≤ b ∧ b < w6.heap.size)) → (w7.setCell ⟨g, 4, none⟩ ov').heap[b]? = w6.heap[b]? := by
      intro b hb
      rcases hb with hb | hb
      · obtain ⟨_, h2, h3, h4, h5⟩ := h.set b hb
        exact (heap_set_ne _ _ _ _ _ h3).trans (hp.grown.block b (by omega) h5)
      · refine (heap_set_ne _ _ _ _ _ (by omega)).trans (hp.grown.block b hb.2 fun e => ?_)
        have := (hbl b e.symm).2
        omega
    by_cases hjl : j < outs.length
    · obtain ⟨y, hy, hz⟩ := h6.ints j hjl
      refine ⟨y, ?_, ?_⟩
      · rw [List.getElem?_append_left (by rw [hxl]; omega)]; exact hy
      · rw [List.getElem_append_left hjl]
        exact (hz.more fun b hb => Or.inl hb).keep kept
    · obtain rfl : j = outs.length := by simp at hj; omega
      refine ⟨x, ?_, ?_⟩
      · rw [List.getElem?_append_right (by rw [hxl]; omega), hxl]; simp
      · have e : (outs ++ [way])[outs.length] = way := by simp
        rw [e]
        exact (hx.more fun b hb => Or.inr hb).keep kept
  · have h5' : b < (w7.setCell ⟨g, 4, none⟩ ov').heap.size ↔ b < w7.heap.size := by simp [World.setCell]
    rcases hb with hb | hb
    · obtain ⟨h1, h2, h3, h4, h5⟩ := h.set b hb
      refine ⟨h1, h5'.2 (by omega), h3, h4, ?_⟩
      rcases hp.at_ with e | ⟨g', e, h6, _⟩
      · rw [e]; exact h5
      · rw [e]; intro h7; simp only [Option.some.injEq] at h7; omega
    · have hle := h.le
      refine ⟨by omega, h5'.2 (by omega), by omega, ?_, ?_⟩
      · intro e
        have := (hwl b e.symm).2
        omega
      · rcases hp.at_ with e | ⟨g', e, h6, _⟩
        · rw [e]; intro e2
          have := (hbl b e2.symm).2
          omega
        · rw [e]; intro h7; simp only [Option.some.injEq] at h7; omega

theorem IntsAt.in_ {w : World} {lo hi : Nat} {v : Value} {zs : List Int} (h : IntsAt w lo hi v zs) : IntsIn w (fun b => lo ≤ b ∧ b < hi) v zs := by
  obtain ⟨A, cap, e, h1, h2, h3, h4⟩ := h
  refine ⟨A, cap, e, h1, h2, h3, fun h0 => ?_⟩
  obtain ⟨b, off, hA, hl, hh, hc⟩ := h4 h0
  exact ⟨b, off, hA, ⟨hl, hh⟩, hc⟩
theorem FP.belowOut {ov' x u : Value} {j : Nat} (h : FP sv cv goal base g way outs w wv ov xs S) (ho : w6.os = w.os ∧ w6.tape = w.tape ∧ w6.output = w.output) (hbs : base ≤ w.heap.size) (hs : w.heap.size ≤ w6.heap.size) (hk : ∀ k, k < w.heap.size → w6.heap[k]? = w.heap[k]?)
    (hp : Pushed w6 w7 base 22 ov ov' outs.length xs x) : Below base w (w7.setCell ⟨g, j, none⟩ u) := by
  have hb : Below base w w7 := ⟨hp.grown.os.trans ho.1, hp.grown.tape.trans ho.2.1, hp.grown.output.trans ho.2.2, Nat.le_trans hs hp.grown.size, fun k hk2 => (hp.grown.block k (by omega) (fun e => by have := (owns_lt h.fouts k e.symm).1; omega)).trans (hk k (by omega))⟩
  exact hb.setCell h.le _

theorem FP.pop {i : Int} {g2 cap : Nat} (h : FP sv cv goal base g (way ++ [i]) outs w (.slice (some ⟨g2, 0, none⟩) (way.length + 1) cap) ov xs S) :
    FS sv cv goal base g way outs (w.setCell ⟨g, 3, none⟩ (.slice (some ⟨g2, 0, none⟩) way.length cap)) := by
  have hne : g2 ≠ g := fun e => h.ne1 (by rw [← e]; rfl)
  refine ⟨.slice (some ⟨g2, 0, none⟩) way.length cap, ov, xs, S, h.row.set_ 3 _, h.le, ?_, ?_, fun j hj => ?_, fun b hb => ?_⟩
  · have hw := h.fway
    rw [List.length_append, List.map_append] at hw
    exact ownsRow_keep1 (owns_shrink (x := .int .i64 i) hw) fun b hb => heap_set_ne _ _ _ _ _ (fun e => by simp only [Value.ownBlock, Option.some.injEq] at hb; omega)
  · exact ownsRow_keep1 h.fouts fun b hb => heap_set_ne _ _ _ _ _ (fun e => h.ne2 (by rw [hb, e]))
  · obtain ⟨x, hx, hz⟩ := h.ints j hj
    exact ⟨x, hx, hz.keep fun b hb => heap_set_ne _ _ _ _ _ (h.set b hb).2.2.1⟩
  · obtain ⟨h1, h2, h3, h4, h5⟩ := h.set b hb
    exact ⟨h1, by simpa [World.setCell] using h2, h3, h4, h5⟩
end
end Go.Proofs.Ytilcahidmoaakaa
