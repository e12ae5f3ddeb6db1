/-
  A range over the program's iterator over ways, from the side of the loop: what its own body keeps is enough.
-/
import Derived.Test.YtokklaoldgdkaaaGoa
import Derived.RangeFuncLeaves
import Derived.RangeFuncBound
import Derived.RangeFuncNested
namespace Go.Proofs.Ytokklaoldgdkaaa
open Go.RowKit

theorem puts_keep {A : World} {l k : Nat} {o' : Obj} (h : k ≠ l) : (A.putObj l o').heap[k]? = A.heap[k]? := World.putObj_heap_other h
theorem owns_put {A : World} {base n : Nat} {e : TypeId} {v : Value} {xs : List Value} {l : Nat} {o' : Obj} (h : A.ownsRow base e 1 v n xs) (hlo : ∃ lp, A.heap[l]? = some (.loop lp)) : (A.putObj l o').ownsRow base e 1 v n xs := by
  refine ownsRow_keep1 h fun g hg => puts_keep fun e2 => ?_
  subst e2
  obtain ⟨lp, hlp⟩ := hlo
  obtain ⟨_, ⟨rfl, _⟩ | ⟨g', cap, cur, rfl, hb, hh, _⟩⟩ := h
  · simp [Value.ownBlock] at hg
  · simp only [Value.ownBlock, Option.some.injEq] at hg
    subst hg
    rw [hlp] at hh
    cases hh

theorem owns_no {A : World} {base n b : Nat} {e : TypeId} {v : Value} {xs : List Value} {o : Obj} (h : A.ownsRow base e 1 v n xs) (hv : v.ownBlock = some b) (ho : A.heap[b]? = some o) (hn : ∀ c t f, o ≠ .cells c t f) : False := by
  obtain ⟨_, ⟨rfl, _⟩ | ⟨g', cap, cur, rfl, hb, hh, _⟩⟩ := h
  · simp [Value.ownBlock] at hv
  · simp only [Value.ownBlock, Option.some.injEq] at hv
    subst hv
    rw [hh] at ho
    simp only [Option.some.injEq] at ho
    exact hn _ _ _ ho.symm

theorem below_put {A0 A : World} {l : Nat} {o' : Obj} (h : Below A0.heap.size A0 A) (hl : l < A0.heap.size) : Below (A0.putObj l o').heap.size (A0.putObj l o') (A.putObj l o') := by
  have hs := h.size
  refine ⟨h.os, h.tape, h.output, by simpa using hs, fun k hk => ?_⟩
  have hk2 : k < A0.heap.size := by simpa using hk
  by_cases e : k = l
  · subst e
    rw [World.putObj_heap_same (by omega), World.putObj_heap_same hl]
  · exact (puts_keep e).trans ((h.block k hk2).trans (puts_keep e).symm)

/-- What the body of a round must leave. -/
def bodyEnds (T : Nat → Prop) (d : Nat) (I : List (List Int) → (Nat → Prop) → World → Prop) (Ix : Code → List (List Int) → World → Prop) (s : List (List Int)) (O : Nat → Prop) (A : World) : Exit → Act → World → Prop
  | .normal, _, C => HoldsOn (fun k => O k ∨ T k ∨ k = d ∨ k = d + 1) A C ∧ I s O C
  | .exit id, _, C => HoldsOn (fun k => k = d ∨ k = d + 1) A C ∧ Ix (.exit id) s C
  | _, _, _ => False

theorem range_law {n : Nat} {Q : Exit → Act → World → Prop} {a : Act} {w : World} {g : Operand} {p : Tmp} {assign body : Code} (a₁ : Value → Act)
    (hassign : ∀ (l : Nat) (v : Value) (W : World) (m : Nat) (K : Act → World → Prop), K (a₁ v) W → assign.wpIn (Fence.wide.inRound l) m Try.prog (Exit.then K (fun _ _ _ => False)) { tmps := a.tmps.setIfInBounds p v, defers := [] } W)
    {gf : Nat} {lb : Array Value} (hg : a.eval g = .func (.func gf) #[] lb)
    (eg : ∀ args w, (callFunc gf args).run Try.prog w = .ok (.enter gf args) w) (T : Nat → Prop) (hT : ∀ b, T b → b < w.heap.size) (ways : List (List Int))
    (I : List (List Int) → (Nat → Prop) → World → Prop) (Ix : Code → List (List Int) → World → Prop)
    (hIstep : ∀ s O A C row, I s O A → A.grownBy C row → (∀ r, row = some r → O r) → I s (fun k => O k ∨ (A.heap.size ≤ k ∧ k < C.heap.size)) C)
    (hIgive : ∀ s O O' A, I s O A → (∀ k, O' k → O k) → I s O' A)
    (hIput : ∀ s O A k o', I s O A → w.heap.size ≤ k → k ≤ w.heap.size + 1 → I s O (A.putObj k o'))
    (hIxput : ∀ c s A k o', Ix c s A → w.heap.size ≤ k → k ≤ w.heap.size + 1 → Ix c s (A.putObj k o'))
    (hiter : ∀ l J Jx W1, Client l T (fun z => z ∈ ways) J Jx → Below w.heap.size w W1 → J [] (fun _ => False) W1 →
      Calls Try.prog gf (#[.func (.yield l) #[] #[]] ++ lb) W1 fun e W' => (∃ v, e = .returned v) ∧ ((∃ O', J ways O' W') ∨ (0 < ways.length ∧ ∃ s' O', Jx s' O' W')))
    (h0 : ∀ W1, Below w.heap.size w W1 → I [] (fun _ => False) W1)
    (hbody : ∀ l s v zs O A0 A m, zs ∈ ways → I s O A0 → s.length < 40000 → Below A0.heap.size A0 A → A.ownsRow 0 3 1 v zs.length (zs.map (Value.int .i64)) → (∀ b, v.ownBlock = some b → A0.heap.size ≤ b ∧ ¬ O b ∧ ¬ T b) → (∀ z ∈ zs, I64 z) → w.heap.size + 1 < A0.heap.size →
      body.wpIn (Fence.wide.inRound l) m Try.prog (bodyEnds T w.heap.size I Ix (s ++ [zs]) O A) (a₁ v) A)
    (hdone : ∀ O' W', I ways O' W' → W'.heap[w.heap.size]? = some (.deferred (some [])) → Q .normal { a with defers := { target := .collected w.heap.size, args := #[] } :: a.defers } W')
    (hstop : ∀ c s' W', 0 < ways.length → Ix c s' W' → W'.heap[w.heap.size]? = some (.deferred (some [])) → c.wpIn Fence.wide n Try.prog Q { a with defers := { target := .collected w.heap.size, args := #[] } :: a.defers } W') :
    (Code.rangeFunc g #[p] assign body).wpIn Fence.wide n Try.prog Q a w := by
  have hdd : Fence.wide.depth.isSome = true → 1 ≤ n := fun h => by simp [Fence.wide] at h
  refine wpIn_rangeFunc fun fn _ => ?_
  obtain ⟨W1, hW1⟩ : ∃ W1, W1 = (w.alloc (.deferred (some []))).alloc (.loop { state := .ready, pending := none, fn, tmps := a.tmps, params := #[p], assign, body, defers := w.heap.size }) := ⟨_, rfl⟩
  have hb1 : Below w.heap.size w W1 := by rw [hW1]; exact ((Below.refl _ _).alloc (Nat.le_refl _) _).alloc (by simp) _
  have hs1 : W1.heap.size = w.heap.size + 2 := by rw [hW1, World.size_alloc, World.size_alloc]
  have hl1 : W1.heap[w.heap.size + 1]? = some (.loop { state := .ready, pending := none, fn, tmps := a.tmps, params := #[p], assign, body, defers := w.heap.size }) := by
    rw [hW1]
    have := World.alloc_heap_new (w.alloc (.deferred (some []))) (.loop { state := .ready, pending := none, fn, tmps := a.tmps, params := #[p], assign, body, defers := w.heap.size })
    rwa [World.size_alloc] at this
  have hd1 : W1.heap[w.heap.size]? = some (.deferred (some [])) := by rw [hW1]; exact (Below.heap_alloc _ _ _ (by simp)).trans (World.alloc_heap_new w _)
  -- the client: the loop's own invariant, and the loop's record
  have hclient : Client (w.heap.size + 1) T (fun z => z ∈ ways)
      (fun s O A => I s O A ∧ A.heap[w.heap.size + 1]? = some (.loop { state := .ready, pending := none, fn, tmps := a.tmps, params := #[p], assign, body, defers := w.heap.size }) ∧ A.heap[w.heap.size]? = some (.deferred (some [])) ∧ ¬ O w.heap.size ∧ ¬ O (w.heap.size + 1))
      (fun s _ A => ∃ c, Ix c s A ∧ A.heap[w.heap.size + 1]? = some (.loop { state := .done, pending := some c, fn, tmps := a.tmps, params := #[p], assign, body, defers := w.heap.size }) ∧ A.heap[w.heap.size]? = some (.deferred (some []))) := by
    refine ⟨?_, ?_, ?_⟩
    · rintro s O A C row ⟨hi, hl, hd, n0, n1⟩ hgr hrow
      have hla := (Array.getElem?_eq_some_iff.1 hl).1
      exact ⟨hIstep s O A C row hi hgr hrow, (hgr.block _ hla (fun e => n1 (hrow _ e.symm))).trans hl, (hgr.block _ (by omega) (fun e => n0 (hrow _ e.symm))).trans hd, fun h => h.elim n0 (fun h => by omega), fun h => h.elim n1 (fun h => by omega)⟩
    · rintro s O O' A ⟨hi, hl, hd, n0, n1⟩ hsub
      exact ⟨hIgive s O O' A hi hsub, hl, hd, fun h => n0 (hsub _ h), fun h => n1 (hsub _ h)⟩
    · rintro s v zs O A0 A hzw0 ⟨hi, hl0, hd0, n0, n1⟩ hlen hbel hz hzo hzw m
      have hla0 := (Array.getElem?_eq_some_iff.1 hl0).1
      have hl := (hbel.block _ hla0).trans hl0
      have hd := (hbel.block w.heap.size (by omega)).trans hd0
      have hla := (Array.getElem?_eq_some_iff.1 hl).1
      have etmps : ((#[p] : Array Tmp).zip #[v]).foldl (fun tmps (x : Tmp × Value) => tmps.setIfInBounds x.1 x.2) a.tmps = a.tmps.setIfInBounds p v := by simp
      refine ⟨fn, _, assign, body, run_yield (args := #[v]) hl rfl, roundIn_of_wpIn trivial ?_⟩
      dsimp only
      rw [etmps]
      refine hassign _ v A m _ ⟨_, run_beginRound hl rfl, ?_⟩
      have hI2 := hIput s O A0 (w.heap.size + 1) (.loop { state := .busy, pending := none, fn, tmps := a.tmps, params := #[p], assign, body, defers := w.heap.size }) hi (by omega) (Nat.le_refl _)
      have hz2 := owns_put (o' := .loop { state := .busy, pending := none, fn, tmps := a.tmps, params := #[p], assign, body, defers := w.heap.size }) hz ⟨_, hl⟩
      have hsz : (A.putObj (w.heap.size + 1) (.loop { state := .busy, pending := none, fn, tmps := a.tmps, params := #[p], assign, body, defers := w.heap.size })).heap.size = A.heap.size := by simp
      have hl2 : (A.putObj (w.heap.size + 1) (.loop { state := .busy, pending := none, fn, tmps := a.tmps, params := #[p], assign, body, defers := w.heap.size })).heap[w.heap.size + 1]? = some (.loop { state := .busy, pending := none, fn, tmps := a.tmps, params := #[p], assign, body, defers := w.heap.size }) := World.putObj_heap_same hla
      have hd2 := (puts_keep (A := A) (l := w.heap.size + 1) (k := w.heap.size) (o' := .loop { state := .busy, pending := none, fn, tmps := a.tmps, params := #[p], assign, body, defers := w.heap.size }) (by omega)).trans hd
      have hb2 := below_put (l := w.heap.size + 1) (o' := .loop { state := .busy, pending := none, fn, tmps := a.tmps, params := #[p], assign, body, defers := w.heap.size }) hbel hla0
      refine wpIn_mono (hbody (w.heap.size + 1) s v zs O _ _ m hzw0 hI2 hlen hb2 hz2 (fun b hb => ⟨by rw [show (A0.putObj (w.heap.size + 1) (.loop { state := .busy, pending := none, fn, tmps := a.tmps, params := #[p], assign, body, defers := w.heap.size })).heap.size = A0.heap.size by simp]; exact (hzo b hb).1, (hzo b hb).2⟩) hzw (by simp; exact hla0)) ?_
      intro e a3 C hp
      cases e with
      | normal =>
        obtain ⟨hh, hi3⟩ := hp
        have hl3 := (hh.2 (w.heap.size + 1) (by rw [hsz]; exact hla) (.inr (.inr (.inr rfl)))).trans hl2
        have hd3 := (hh.2 w.heap.size (by rw [hsz]; omega) (.inr (.inr (.inl rfl)))).trans hd2
        have hlc := (Array.getElem?_eq_some_iff.1 hl3).1
        refine ⟨_, _, run_endRound none hl3, .inl ⟨rfl, ⟨hIput _ _ _ _ _ hi3 (by omega) (Nat.le_refl _), World.putObj_heap_same hlc, (puts_keep (by omega)).trans hd3, n0, n1⟩, ⟨by have := hh.1; rw [hsz] at this; simpa using this, fun k hk hS => ?_⟩⟩⟩
        have hne : k ≠ w.heap.size + 1 := by
          rcases hS with h | h
          · intro e; exact n1 (e ▸ h)
          · have := hT k h; omega
        exact (puts_keep hne).trans ((hh.2 k (by rw [hsz]; exact hk) (hS.elim .inl (fun h => .inr (.inl h)))).trans (puts_keep hne))
      | exit id =>
        obtain ⟨hh, hi3⟩ := hp
        have hl3 := (hh.2 (w.heap.size + 1) (by rw [hsz]; exact hla) (.inr rfl)).trans hl2
        have hd3 := (hh.2 w.heap.size (by rw [hsz]; omega) (.inl rfl)).trans hd2
        have hlc := (Array.getElem?_eq_some_iff.1 hl3).1
        exact ⟨_, _, run_endRound (some (.exit id)) hl3, .inr ⟨rfl, .exit id, hIxput _ _ _ _ _ hi3 (by omega) (Nat.le_refl _), World.putObj_heap_same hlc, (puts_keep (by omega)).trans hd3⟩⟩
      | ret => exact hp.elim
      | goto t => exact hp.elim
      | panic ch => exact hp.elim
      | outgrown => exact hp.elim
  refine ⟨w.heap.size + 1, [{ target := .collected w.heap.size, args := #[] }], W1, { target := .fn (.func gf) lb, args := #[.func (.yield (w.heap.size + 1)) #[] #[]] }, W1, gf, #[.func (.yield (w.heap.size + 1)) #[] #[]] ++ lb, W1, ?_, ?_, fun _ _ => trivial, ?_, hdd, ?_⟩
  · rw [hW1]; exact run_enterLoop_outer _ _ _ _ _
  · simp only [resolve, hg]
    simp [go_sem]
  · simp [invoke, go_sem, eg]
  · refine (callsIn_wide.2 (hiter _ _ _ W1 hclient hb1 ⟨h0 W1 hb1, hl1, hd1, fun h => h, fun h => h⟩)).mono ?_
    rintro e W2 ⟨⟨v, rfl⟩, ⟨O', hi, hl, hd, _⟩ | ⟨hpos, s', O', c, hi, hl, hd⟩⟩
    · exact ⟨none, _, run_endLoop hl (by simp), hdone O' _ (hIput _ _ _ _ _ hi (by omega) (Nat.le_refl _)) ((puts_keep (by omega)).trans hd)⟩
    · exact ⟨some c, _, run_endLoop hl (by simp), hstop c s' _ hpos (hIxput _ _ _ _ _ hi (by omega) (Nat.le_refl _)) ((puts_keep (by omega)).trans hd)⟩
end Go.Proofs.Ytokklaoldgdkaaa
