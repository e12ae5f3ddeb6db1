/-
  A range over the program's iterator over ways, from the side of the loop: what its own body keeps is enough.
  The contracts of the program's ways, as an iterator, and of leads.
  The contract of leads.
  The contract of the model's test for a way.
  The contract of CanCoerce, the model's face.
  The contract of the program's CanCoerce.
  The contracts of the functions that compare: where both sides read as the same data, they return true.
  The contracts of the functions that mark a result's memory and look whether the marks hold: numbers in one slice.
  Lists of lists of numbers in memory: as they read, and as the call owns them; the laws' functions over them.
  The contracts of the functions that weigh an argument: they return what is left of the allowance, or -1.
  The contracts of the functions that mark coercions and types, and look whether the marks hold.
  The contracts of the functions that mark types, and look whether the marks hold.
  Small lemmas for the walks of laws whose results are owned.
  Lists of lists of numbers that the call owns: the laws' functions that mark and look for the marks.
-/
import Derived.Test.YtplpnammboofiaaQgoa
import Derived.RangeFuncLeaves
import Derived.RangeFuncBound
import Derived.RangeFuncNested
import Derived.Test.YtplpnammboofiaaJ9
import Derived.Test.YtplpnammboofiaaRows
import Derived.Test.YtplpnammboofiaaJ1
import Derived.Outline
import Derived.Handy
import Derived.BigQuiet
import Derived.Deep.QuietTactic
import Derived.StillTailTactics
import Derived.Deep.RegionWith
import Derived.Test.YtplpnammboofiaaJ2
import Derived.Test.YtplpnammboofiaaJ7
import Derived.Test.YtplpnammboofiaaJ6
import Derived.Deep.RegionHeld3
namespace Go.Proofs.Ytplpnammboofiaa
open Go.RowKit

theorem puts_keep {A : World} {l k : Nat} {o' : Obj} (h : k ≠ l) : (A.putObj l o').heap[k]? = A.heap[k]? := World.putObj_heap_other h
theorem owns_put {A : World} {base n : Nat} {e : TypeId} {v : Value} {xs : List Value} {l : Nat} {o' : Obj} (h : A.ownsRow base e 1 v n xs) (hlo : ∃ lp, A.heap[l]? = some (.loop lp)) : (A.putObj l o').ownsRow base e 1 v n xs := by
  refine ownsRow_keep1 h fun g hg => puts_keep fun e2 => ?_
  subst e2
  obtain ⟨lp, hlp⟩ := hlo
  obtain ⟨_, ⟨rfl, _⟩ | ⟨g', cap, cur, rfl, hb, hh, _⟩⟩ := h
  · simp [Value.ownBlock] at hg
  · simp only [Value.ownBlock, Option.some.injEq] at hg
    subst hg
    rw [hlp] at hh
    cases hh

theorem owns_no {A : World} {base n b : Nat} {e : TypeId} {v : Value} {xs : List Value} {o : Obj} (h : A.ownsRow base e 1 v n xs) (hv : v.ownBlock = some b) (ho : A.heap[b]? = some o) (hn : ∀ c t f, o ≠ .cells c t f) : False := by
  obtain ⟨_, ⟨rfl, _⟩ | ⟨g', cap, cur, rfl, hb, hh, _⟩⟩ := h
  · simp [Value.ownBlock] at hv
  · simp only [Value.ownBlock, Option.some.injEq] at hv
    subst hv
    rw [hh] at ho
    simp only [Option.some.injEq] at ho
    exact hn _ _ _ ho.symm

theorem below_put {A0 A : World} {l : Nat} {o' : Obj} (h : Below A0.heap.size A0 A) (hl : l < A0.heap.size) : Below (A0.putObj l o').heap.size (A0.putObj l o') (A.putObj l o') := by
  have hs := h.size
  refine ⟨h.os, h.tape, h.output, by simpa using hs, fun k hk => ?_⟩
  have hk2 : k < A0.heap.size := by simpa using hk
  by_cases e : k = l
  · subst e
    rw [World.putObj_heap_same (by omega), World.putObj_heap_same hl]
  · exact (puts_keep e).trans ((h.block k hk2).trans (puts_keep e).symm)

/-- What the body of a round must leave. -/
def bodyEnds (T : Nat → Prop) (d : Nat) (I : List (List Int) → (Nat → Prop) → World → Prop) (Ix : Code → List (List Int) → World → Prop) (s : List (List Int)) (O : Nat → Prop) (A : World) : Exit → Act → World → Prop
  | .normal, _, C => HoldsOn (fun k => O k ∨ T k ∨ k = d ∨ k = d + 1) A C ∧ I s O C
  | .exit id, _, C => HoldsOn (fun k => k = d ∨ k = d + 1) A C ∧ Ix (.exit id) s C
  | _, _, _ => False

theorem range_law {n : Nat} {Q : Exit → Act → World → Prop} {a : Act} {w : World} {g : Operand} {p : Tmp} {assign body : Code} (a₁ : Value → Act)
    (hassign : ∀ (l : Nat) (v : Value) (W : World) (m : Nat) (K : Act → World → Prop), K (a₁ v) W → assign.wpIn (Fence.wide.inRound l) m Try.prog (Exit.then K (fun _ _ _ => False)) { tmps := a.tmps.setIfInBounds p v, defers := [] } W)
    {gf : Nat} {lb : Array Value} (hg : a.eval g = .func (.func gf) #[] lb)
    (eg : ∀ args w, (callFunc gf args).run Try.prog w = .ok (.enter gf args) w) (T : Nat → Prop) (hT : ∀ b, T b → b < w.heap.size) (ways : List (List Int))
    (I : List (List Int) → (Nat → Prop) → World → Prop) (Ix : Code → List (List Int) → World → Prop)
    (hIstep : ∀ s O A C row, I s O A → A.grownBy C row → (∀ r, row = some r → O r) → I s (fun k => O k ∨ (A.heap.size ≤ k ∧ k < C.heap.size)) C)
    (hIgive : ∀ s O O' A, I s O A → (∀ k, O' k → O k) → I s O' A)
    (hIput : ∀ s O A k o', I s O A → w.heap.size ≤ k → k ≤ w.heap.size + 1 → I s O (A.putObj k o'))
    (hIxput : ∀ c s A k o', Ix c s A → w.heap.size ≤ k → k ≤ w.heap.size + 1 → Ix c s (A.putObj k o'))
    (hiter : ∀ l J Jx W1, Client l T (fun z => z ∈ ways) J Jx → Below w.heap.size w W1 → J [] (fun _ => False) W1 →
      Calls Try.prog gf (#[.func (.yield l) #[] #[]] ++ lb) W1 fun e W' => (∃ v, e = .returned v) ∧ ((∃ O', J ways O' W') ∨ (0 < ways.length ∧ ∃ s' O', Jx s' O' W')))
    (h0 : ∀ W1, Below w.heap.size w W1 → I [] (fun _ => False) W1)
    (hbody : ∀ l s v zs O A0 A m, zs ∈ ways → I s O A0 → s.length < 40000 → Below A0.heap.size A0 A → A.ownsRow 0 3 1 v zs.length (zs.map (Value.int .i64)) → (∀ b, v.ownBlock = some b → A0.heap.size ≤ b ∧ ¬ O b ∧ ¬ T b) → (∀ z ∈ zs, I64 z) → w.heap.size + 1 < A0.heap.size →
      body.wpIn (Fence.wide.inRound l) m Try.prog (bodyEnds T w.heap.size I Ix (s ++ [zs]) O A) (a₁ v) A)
    (hdone : ∀ O' W', I ways O' W' → W'.heap[w.heap.size]? = some (.deferred (some [])) → Q .normal { a with defers := { target := .collected w.heap.size, args := #[] } :: a.defers } W')
    (hstop : ∀ c s' W', 0 < ways.length → Ix c s' W' → W'.heap[w.heap.size]? = some (.deferred (some [])) → c.wpIn Fence.wide n Try.prog Q { a with defers := { target := .collected w.heap.size, args := #[] } :: a.defers } W') :
    (Code.rangeFunc g #[p] assign body).wpIn Fence.wide n Try.prog Q a w := by
  have hdd : Fence.wide.depth.isSome = true → 1 ≤ n := fun h => by simp [Fence.wide] at h
  refine wpIn_rangeFunc fun fn _ => ?_
  obtain ⟨W1, hW1⟩ : ∃ W1, W1 = (w.alloc (.deferred (some []))).alloc (.loop { state := .ready, pending := none, fn, tmps := a.tmps, params := #[p], assign, body, defers := w.heap.size }) := ⟨_, rfl⟩
  have hb1 : Below w.heap.size w W1 := by rw [hW1]; exact ((Below.refl _ _).alloc (Nat.le_refl _) _).alloc (by simp) _
  have hs1 : W1.heap.size = w.heap.size + 2 := by rw [hW1, World.size_alloc, World.size_alloc]
  have hl1 : W1.heap[w.heap.size + 1]? = some (.loop { state := .ready, pending := none, fn, tmps := a.tmps, params := #[p], assign, body, defers := w.heap.size }) := by
    rw [hW1]
    have := World.alloc_heap_new (w.alloc (.deferred (some []))) (.loop { state := .ready, pending := none, fn, tmps := a.tmps, params := #[p], assign, body, defers := w.heap.size })
    rwa [World.size_alloc] at this
  have hd1 : W1.heap[w.heap.size]? = some (.deferred (some [])) := by rw [hW1]; exact (Below.heap_alloc _ _ _ (by simp)).trans (World.alloc_heap_new w _)
  -- the client: the loop's own invariant, and the loop's record
  have hclient : Client (w.heap.size + 1) T (fun z => z ∈ ways)
      (fun s O A => I s O A ∧ A.heap[w.heap.size + 1]? = some (.loop { state := .ready, pending := none, fn, tmps := a.tmps, params := #[p], assign, body, defers := w.heap.size }) ∧ A.heap[w.heap.size]? = some (.deferred (some [])) ∧ ¬ O w.heap.size ∧ ¬ O (w.heap.size + 1))
      (fun s _ A => ∃ c, Ix c s A ∧ A.heap[w.heap.size + 1]? = some (.loop { state := .done, pending := some c, fn, tmps := a.tmps, params := #[p], assign, body, defers := w.heap.size }) ∧ A.heap[w.heap.size]? = some (.deferred (some []))) := by
    refine ⟨?_, ?_, ?_⟩
    · rintro s O A C row ⟨hi, hl, hd, n0, n1⟩ hgr hrow
      have hla := (Array.getElem?_eq_some_iff.1 hl).1
      exact ⟨hIstep s O A C row hi hgr hrow, (hgr.block _ hla (fun e => n1 (hrow _ e.symm))).trans hl, (hgr.block _ (by omega) (fun e => n0 (hrow _ e.symm))).trans hd, fun h => h.elim n0 (fun h => by omega), fun h => h.elim n1 (fun h => by omega)⟩
    · rintro s O O' A ⟨hi, hl, hd, n0, n1⟩ hsub
      exact ⟨hIgive s O O' A hi hsub, hl, hd, fun h => n0 (hsub _ h), fun h => n1 (hsub _ h)⟩
    · rintro s v zs O A0 A hzw0 ⟨hi, hl0, hd0, n0, n1⟩ hlen hbel hz hzo hzw m
      have hla0 := (Array.getElem?_eq_some_iff.1 hl0).1
      have hl := (hbel.block _ hla0).trans hl0
      have hd := (hbel.block w.heap.size (by omega)).trans hd0
      have hla := (Array.getElem?_eq_some_iff.1 hl).1
      have etmps : ((#[p] : Array Tmp).zip #[v]).foldl (fun tmps (x : Tmp × Value) => tmps.setIfInBounds x.1 x.2) a.tmps = a.tmps.setIfInBounds p v := by simp
      refine ⟨fn, _, assign, body, run_yield (args := #[v]) hl rfl, roundIn_of_wpIn trivial ?_⟩
      dsimp only
      rw [etmps]
      refine hassign _ v A m _ ⟨_, run_beginRound hl rfl, ?_⟩
      have hI2 := hIput s O A0 (w.heap.size + 1) (.loop { state := .busy, pending := none, fn, tmps := a.tmps, params := #[p], assign, body, defers := w.heap.size }) hi (by omega) (Nat.le_refl _)
      have hz2 := owns_put (o' := .loop { state := .busy, pending := none, fn, tmps := a.tmps, params := #[p], assign, body, defers := w.heap.size }) hz ⟨_, hl⟩
      have hsz : (A.putObj (w.heap.size + 1) (.loop { state := .busy, pending := none, fn, tmps := a.tmps, params := #[p], assign, body, defers := w.heap.size })).heap.size = A.heap.size := by simp
      have hl2 : (A.putObj (w.heap.size + 1) (.loop { state := .busy, pending := none, fn, tmps := a.tmps, params := #[p], assign, body, defers := w.heap.size })).heap[w.heap.size + 1]? = some (.loop { state := .busy, pending := none, fn, tmps := a.tmps, params := #[p], assign, body, defers := w.heap.size }) := World.putObj_heap_same hla
      have hd2 := (puts_keep (A := A) (l := w.heap.size + 1) (k := w.heap.size) (o' := .loop { state := .busy, pending := none, fn, tmps := a.tmps, params := #[p], assign, body, defers := w.heap.size }) (by omega)).trans hd
      have hb2 := below_put (l := w.heap.size + 1) (o' := .loop { state := .busy, pending := none, fn, tmps := a.tmps, params := #[p], assign, body, defers := w.heap.size }) hbel hla0
      refine wpIn_mono (hbody (w.heap.size + 1) s v zs O _ _ m hzw0 hI2 hlen hb2 hz2 (fun b hb => ⟨by rw [show (A0.putObj (w.heap.size + 1) (.loop { state := .busy, pending := none, fn, tmps := a.tmps, params := #[p], assign, body, defers := w.heap.size })).heap.size = A0.heap.size by simp]; exact (hzo b hb).1, (hzo b hb).2⟩) hzw (by simp; exact hla0)) ?_
      intro e a3 C hp
      cases e with
      | normal =>
        obtain ⟨hh, hi3⟩ := hp
        have hl3 := (hh.2 (w.heap.size + 1) (by rw [hsz]; exact hla) (.inr (.inr (.inr rfl)))).trans hl2
        have hd3 := (hh.2 w.heap.size (by rw [hsz]; omega) (.inr (.inr (.inl rfl)))).trans hd2
        have hlc := (Array.getElem?_eq_some_iff.1 hl3).1
        refine ⟨_, _, run_endRound none hl3, .inl ⟨rfl, ⟨hIput _ _ _ _ _ hi3 (by omega) (Nat.le_refl _), World.putObj_heap_same hlc, (puts_keep (by omega)).trans hd3, n0, n1⟩, ⟨by have := hh.1; rw [hsz] at this; simpa using this, fun k hk hS => ?_⟩⟩⟩
        have hne : k ≠ w.heap.size + 1 := by
          rcases hS with h | h
          · intro e; exact n1 (e ▸ h)
          · have := hT k h; omega
        exact (puts_keep hne).trans ((hh.2 k (by rw [hsz]; exact hk) (hS.elim .inl (fun h => .inr (.inl h)))).trans (puts_keep hne))
      | exit id =>
        obtain ⟨hh, hi3⟩ := hp
        have hl3 := (hh.2 (w.heap.size + 1) (by rw [hsz]; exact hla) (.inr rfl)).trans hl2
        have hd3 := (hh.2 w.heap.size (by rw [hsz]; omega) (.inl rfl)).trans hd2
        have hlc := (Array.getElem?_eq_some_iff.1 hl3).1
        exact ⟨_, _, run_endRound (some (.exit id)) hl3, .inr ⟨rfl, .exit id, hIxput _ _ _ _ _ hi3 (by omega) (Nat.le_refl _), World.putObj_heap_same hlc, (puts_keep (by omega)).trans hd3⟩⟩
      | ret => exact hp.elim
      | goto t => exact hp.elim
      | panic ch => exact hp.elim
      | outgrown => exact hp.elim
  refine ⟨w.heap.size + 1, [{ target := .collected w.heap.size, args := #[] }], W1, { target := .fn (.func gf) lb, args := #[.func (.yield (w.heap.size + 1)) #[] #[]] }, W1, gf, #[.func (.yield (w.heap.size + 1)) #[] #[]] ++ lb, W1, ?_, ?_, fun _ _ => trivial, ?_, hdd, ?_⟩
  · rw [hW1]; exact run_enterLoop_outer _ _ _ _ _
  · simp only [resolve, hg]
    simp [go_sem]
  · simp [invoke, go_sem, eg]
  · refine (callsIn_wide.2 (hiter _ _ _ W1 hclient hb1 ⟨h0 W1 hb1, hl1, hd1, fun h => h, fun h => h⟩)).mono ?_
    rintro e W2 ⟨⟨v, rfl⟩, ⟨O', hi, hl, hd, _⟩ | ⟨hpos, s', O', c, hi, hl, hd⟩⟩
    · exact ⟨none, _, run_endLoop hl (by simp), hdone O' _ (hIput _ _ _ _ _ hi (by omega) (Nat.le_refl _)) ((puts_keep (by omega)).trans hd)⟩
    · exact ⟨some c, _, run_endLoop hl (by simp), hstop c s' _ hpos (hIxput _ _ _ _ _ hi (by omega) (Nat.le_refl _)) ((puts_keep (by omega)).trans hd)⟩
end Go.Proofs.Ytplpnammboofiaa

namespace Go.Proofs.Ytplpnammboofiaa
open Go.RowKit
attribute [local go_sem] Oper.semAt_some

set_option maxRecDepth 100000 in
set_option maxHeartbeats 1000000 in
theorem ways_any (g : Nat) (a b : Int) (w : World) :
    Calls Try.prog 52 #[.pointer (some ⟨g, 0, none⟩), .int .i64 a, .int .i64 b] w fun e w' => e = .returned (.func (.func 82) #[] #[.pointer (some ⟨w.heap.size, 0, none⟩), .pointer (some ⟨w.heap.size + 1, 0, none⟩), .pointer (some ⟨w.heap.size + 2, 0, none⟩)]) ∧
      ((w.alloc (.cells #[.pointer (some ⟨g, 0, none⟩)] 67)).alloc (.cells #[.int .i64 a] 3)).alloc (.cells #[.int .i64 b] 3) = w' := by
  have hmf : ∀ (fn : Fn) (first cap : Array Value) (w : World), (Instr.makeFunc fn first cap).run Try.prog w = .ok (.func fn first cap) w := fun _ _ _ _ => rfl
  go_enter Try.func52, Try.ntmps52
  go_wp2
  go_ret
  exact ⟨rfl, rfl⟩

set_option maxRecDepth 100000 in
set_option maxHeartbeats 1000000 in
theorem waysIter_any (l g p3 p4 p5 : Nat) (T : Nat → Prop) (J Jx : List (List Int) → (Nat → Prop) → World → Prop) (t : Ty) (a b : Int) (hC : Client l T (fun z => z ∈ waysOf t a b) J Jx) (lo hi : Nat) (sv cv : Value) (w : World) (htb : typesB t a b = true) (hg : T g) (hTy : ∀ k, lo ≤ k → k < hi → T k) (hT : ∀ k, T k → k < w.heap.size)
    (hrow : Row w g 81 [sv, cv]) (hv : TyAt w lo hi sv cv t) (c3 : w.cell? ⟨p3, 0, none⟩ = some (.pointer (some ⟨g, 0, none⟩))) (c4 : w.cell? ⟨p4, 0, none⟩ = some (.int .i64 a)) (c5 : w.cell? ⟨p5, 0, none⟩ = some (.int .i64 b)) (hJ : J [] (fun _ => False) w) :
    Calls Try.prog 82 #[.func (.yield l) #[] #[], .pointer (some ⟨p3, 0, none⟩), .pointer (some ⟨p4, 0, none⟩), .pointer (some ⟨p5, 0, none⟩)] w fun e W' =>
      (∃ v, e = .returned v) ∧ ((∃ O', J (waysOf t a b) O' W') ∨ (0 < (waysOf t a b).length ∧ ∃ s' O', Jx s' O' W')) := by
  obtain ⟨hok, ha0, ha1, hb0, hb1⟩ := typesB_of htb
  have h5 := typesB_len hok
  have hwl : (waysF t.cos 5 a b).length ≤ 32768 := waysOf_len hok a b
  have hgo := goOn_any l w.heap.size g T _ J Jx hC lo hi sv cv t b hok hg hTy 5 a [] (.slice none 0 0) [] (fun _ => False) w (fun y hy => hy) hJ (World.ownsRow_nil _ _ _ _) (fun _ h => h.elim) (fun b h => by simp [Value.ownBlock] at h) hT (fun _ _ h => h) (fun z h => absurd h (by simp)) (by simp) hrow hv ha0 ha1 (by omega) (by simp; omega) (Nat.le_refl _)
  have Hgo := Lib.hid hgo
  clear hC hTy hT hrow hv hJ hgo htb hg
  go_enter Try.func82, Try.ntmps82
  go_wp2_with fail
  refine Hgo.out.mono ?_
  rintro e w7 ⟨bv, rfl, h⟩
  have hfin : (∃ O', J (waysOf t a b) O' w7) ∨ (0 < (waysOf t a b).length ∧ ∃ s' O', Jx s' O' w7) := by
    rcases h with ⟨_, O', _, _, h3, _⟩ | ⟨_, h1, s', O', h2⟩
    · refine .inl ⟨O', ?_⟩
      have e : ([] : List (List Int)) ++ (waysF t.cos 5 a b).map (([] : List Int) ++ ·) = waysOf t a b := by
        simp only [List.nil_append]
        exact List.map_id' _
      rw [← e]
      exact h3
    · exact .inr ⟨h1, s', O', h2⟩
  have Hfin := Lib.hid hfin
  clear h hfin Hgo
  go_wp2
  go_end0
  exact ⟨⟨_, rfl⟩, Hfin.out⟩

end Go.Proofs.Ytplpnammboofiaa

namespace Go.Proofs.Ytplpnammboofiaa
open Go.RowKit
attribute [local go_sem] Oper.semAt_some

set_option maxRecDepth 100000 in
set_option maxHeartbeats 2000000 in
theorem leads_any (lo hi g : Nat) (sv cv : Value) (t : Ty) (a b : Int) (w : World) (hv : TyAt w lo hi sv cv t) (hB : hi ≤ w.heap.size) (hrow : Row w g 81 [sv, cv]) (htb : typesB t a b = true) :
    Calls Try.prog 55 #[.pointer (some ⟨g, 0, none⟩), .int .i64 a, .int .i64 b] w fun e w' => e = .returned (.bool (canB t a b)) ∧ Below w.heap.size w w' := by
  refine (callsIn_wide (n := 5)).1 ?_
  refine callsIn_of_wp_marks Try.func55 rfl trivial ?_ rfl
  simp only [Try.ntmps55, List.size_toArray, List.length_cons, List.length_nil, Nat.reduceAdd, Nat.reduceSub, Array.replicate_succ, Array.replicate_zero, List.push_toArray, List.append_toArray, List.nil_append, List.cons_append]
  gi_wp2_with (refine ⟨trivial, ?_⟩; gi_at_call 52; refine (callsIn_wide.2 (ways_any g a b _)).mono ?_; rintro e w' ⟨rfl, rfl⟩)
  obtain ⟨W0, hW0⟩ : ∃ u, u = (((w.alloc (.cells #[.bool false] 4)).alloc (.cells #[.pointer (some ⟨g, 0, none⟩)] 67)).alloc (.cells #[.int .i64 a] 3)).alloc (.cells #[.int .i64 b] 3) := ⟨_, rfl⟩
  rw [← hW0]
  have hs0 : W0.heap.size = w.heap.size + 4 := by rw [hW0]; simp
  have hb0 : Below w.heap.size w W0 := by rw [hW0]; go_grown
  have rf : Row W0 w.heap.size 4 [.bool false] := by rw [hW0]; exact (((Row.new w 4 [.bool false]).alloc _).alloc _).alloc _
  have r3 : Row W0 (w.heap.size + 1) 67 [.pointer (some ⟨g, 0, none⟩)] := by
    rw [hW0]
    have := Row.new (w.alloc (.cells #[.bool false] 4)) 67 [.pointer (some ⟨g, 0, none⟩)]
    rw [World.size_alloc] at this
    exact (this.alloc _).alloc _
  have r4 : Row W0 (w.heap.size + 1 + 1) 3 [.int .i64 a] := by
    rw [hW0]
    have := Row.new ((w.alloc (.cells #[.bool false] 4)).alloc (.cells #[.pointer (some ⟨g, 0, none⟩)] 67)) 3 [.int .i64 a]
    rw [World.size_alloc, World.size_alloc] at this
    exact this.alloc _
  have r5 : Row W0 (w.heap.size + 1 + 2) 3 [.int .i64 b] := by
    rw [hW0]
    have := Row.new (((w.alloc (.cells #[.bool false] 4)).alloc (.cells #[.pointer (some ⟨g, 0, none⟩)] 67)).alloc (.cells #[.int .i64 a] 3)) 3 [.int .i64 b]
    rw [World.size_alloc, World.size_alloc, World.size_alloc] at this
    exact this
  clear hW0
  refine range_law (fun v => { tmps := #[.pointer (some ⟨g, 0, none⟩), .int .i64 a, .int .i64 b, undef, undef, undef, .bool false, .pointer (some ⟨w.heap.size, 0, none⟩), .pointer (some ⟨g, 0, none⟩), .int .i64 a, .int .i64 b, .func (.func 82) #[] #[.pointer (some ⟨w.heap.size + 1, 0, none⟩), .pointer (some ⟨w.heap.size + 1 + 1, 0, none⟩), .pointer (some ⟨w.heap.size + 1 + 2, 0, none⟩)], v, undef], defers := [] }) (fun _ _ _ _ _ hK => wpIn_skip hK) (gf := 82) (lb := #[.pointer (some ⟨w.heap.size + 1, 0, none⟩), .pointer (some ⟨w.heap.size + 1 + 1, 0, none⟩), .pointer (some ⟨w.heap.size + 1 + 2, 0, none⟩)]) rfl (enters_of Try.func82 (by kernel_rfl) rfl)
    (fun k => k < w.heap.size) (fun k hk => by omega) (waysOf t a b)
    (fun s O A => s = [] ∧ Row A w.heap.size 4 [.bool false] ∧ ¬ O w.heap.size ∧ (∀ k, O k → w.heap.size ≤ k) ∧ Below w.heap.size w A)
    (fun c _ A => c = .exit 0 ∧ Row A w.heap.size 4 [.bool true] ∧ Below w.heap.size w A) ?istep ?igive ?iput ?ixput ?iter ?start ?body ?done ?stop
  case istep =>
    rintro s O A C row ⟨hs, hr, hn, hO, hb⟩ hgr hrw
    refine ⟨hs, hr.keep (hgr.block _ hr.lt (fun e => hn (hrw _ e.symm))), fun h => h.elim hn (fun h => by have := hr.lt; omega), fun k h => h.elim (hO k) (fun h => by have := hb.size; omega), hb.grown hgr hb.size (fun k e => hO k (hrw k e))⟩
  case igive =>
    rintro s O O' A ⟨hs, hr, hn, hO, hb⟩ hsub
    exact ⟨hs, hr, fun h => hn (hsub _ h), fun k h => hO k (hsub k h), hb⟩
  case iput =>
    rintro s O A k o' ⟨hs, hr, hn, hO, hb⟩ h1 h2
    exact ⟨hs, hr.keep (puts_keep (by omega)), hn, hO, hb.grown (grownBy_putObj' A k o') hb.size (fun q e => by simp only [Option.some.injEq] at e; omega)⟩
  case ixput =>
    rintro c s A k o' ⟨hc, hr, hb⟩ h1 h2
    exact ⟨hc, hr.keep (puts_keep (by omega)), hb.grown (grownBy_putObj' A k o') hb.size (fun q e => by simp only [Option.some.injEq] at e; omega)⟩
  case iter =>
    intro l J Jx W1 hC hb1 hJ
    have hbb := hb0.trans (hb1.mono (by omega))
    exact waysIter_any l g (w.heap.size + 1) (w.heap.size + 1 + 1) (w.heap.size + 1 + 2) _ J Jx t a b hC lo hi sv cv W1 htb hrow.lt (fun k _ hk => by omega) (fun k hk => by have := hbb.size; omega) (hrow.below hbb hrow.lt) (hv.below hbb hB)
      ((r3.below hb1 (by omega)).cell 0) ((r4.below hb1 (by omega)).cell 0) ((r5.below hb1 (by omega)).cell 0) hJ
  case start =>
    intro W1 hb1
    exact ⟨rfl, rf.below hb1 (by omega), fun h => h, fun k h => h.elim, hb0.trans (hb1.mono (by omega))⟩
  case body =>
    rintro l s v zs O A0 A m _ ⟨hs, hr0, hn, hO, hb00⟩ _ hbel _ _ _ hlt
    have hr := hr0.below hbel hr0.lt
    have hb := hb00.trans (hbel.mono hb00.size)
    have p0 : A.cell? ⟨w.heap.size, 0, none⟩ = some (.bool false) := hr.cell 0
    have pf : A.frozen? ⟨w.heap.size, 0, none⟩ = false := hr.frozen 0
    have hset := hr.set_ 0 (.bool true)
    have Hset := Lib.hid hset
    have Hb := Lib.hid hb
    clear hset hr hb
    gi_wp2
    refine ⟨⟨by simp [World.setCell], fun k hk hS => ?_⟩, rfl, Hset.out, Hb.out.setCell (Nat.le_refl _) _⟩
    exact heap_set_ne _ _ _ _ _ (by omega)
  case done =>
    rintro O' W' ⟨hs, hr, hn, hO, hb⟩ hK
    have hfin : canB t a b = false := by unfold canB; rw [hs]; rfl
    have p0 : W'.cell? ⟨w.heap.size, 0, none⟩ = some (.bool false) := hr.cell 0
    have Hb := Lib.hid hb
    have HK := Lib.hid hK
    clear hr hb hK
    gi_wp2
    refine ⟨by simp, .inl ⟨_, _, rfl, run_takeDeferred HK.out, ?_⟩⟩
    exact ⟨_, results_tmp rfl _ _ _, by rw [hfin]; rfl, Hb.out.grown (grownBy_putObj' W' _ _) Hb.out.size (fun q e => by simp only [Option.some.injEq] at e; omega)⟩
  case stop =>
    rintro c s' W' hpos ⟨rfl, hr, hb⟩ hK
    have hfin : canB t a b = true := by unfold canB; rw [decide_eq_true_eq]; exact hpos
    have p0 : W'.cell? ⟨w.heap.size, 0, none⟩ = some (.bool true) := hr.cell 0
    have Hb := Lib.hid hb
    have HK := Lib.hid hK
    clear hr hb hK
    gi_wp2
    refine ⟨by simp, .inl ⟨_, _, rfl, run_takeDeferred HK.out, ?_⟩⟩
    exact ⟨_, results_tmp rfl _ _ _, by rw [hfin]; rfl, Hb.out.grown (grownBy_putObj' W' _ _) Hb.out.size (fun q e => by simp only [Option.some.injEq] at e; omega)⟩
end Go.Proofs.Ytplpnammboofiaa

namespace Go.Proofs.Ytplpnammboofiaa
open Go.RowKit
attribute [local go_sem] Oper.semAt_some

set_option maxRecDepth 100000 in
set_option maxHeartbeats 1000000 in
theorem l2Can_any (lo hi : Nat) (sv cv : Value) (t : Ty) (a b : Int) (w : World) (hv : TyAt w lo hi sv cv t) (hB : hi ≤ w.heap.size) (htb : typesB t a b = true) :
    Calls Try.prog 57 #[.agg #[sv, cv], .int .i64 a, .int .i64 b] w fun e w' => e = .returned (.bool (canB t a b)) ∧ Below w.heap.size w w' := by
  obtain ⟨A, cap, rfl, hl1, hm1, _⟩ := hv.1.form
  obtain ⟨B, bap, rfl, hl2, hm2, _⟩ := hv.2.form
  have h3 : Below w.heap.size w (w.alloc (.cells #[.slice A t.sizes.length cap, .slice B t.cos.length bap] 26)) := by go_grown
  have hv3 := Lib.hid (hv.below h3 hB)
  have hwl := waysOf_len (typesB_of htb).1 a b
  clear hv
  go_enter Try.func57, Try.ntmps57
  go_wp2_with fail
  refine (l2Ways_any lo hi _ _ t a b _ hv3.out (by simp; omega) htb).mono ?_
  rintro e w1 ⟨ov, rfl, hb1, hwy⟩
  obtain ⟨xs, S, hown, _⟩ := hwy
  obtain ⟨OA, OC, rfl⟩ := owns_form hown
  have Hb1 := Lib.hid (h3.trans (hb1.mono (by simp)))
  clear hb1 hown
  go_wp2
  go_ret
  refine ⟨ret_bool ?_, Hb1.out⟩
  unfold canB
  rw [decide_eq_decide]
end Go.Proofs.Ytplpnammboofiaa

namespace Go.Proofs.Ytplpnammboofiaa
open Go.RowKit
attribute [local go_sem] Oper.semAt_some

set_option maxRecDepth 100000 in
set_option maxHeartbeats 1000000 in
theorem specCan_any (lo hi : Nat) (sv cv : Value) (t : Ty) (a b : Int) (w : World) (hv : TyAt w lo hi sv cv t) (hB : hi ≤ w.heap.size) :
    Calls Try.prog 19 #[.agg #[sv, cv], .int .i64 a, .int .i64 b] w fun e w' => e = .returned (.bool (canC t a b)) ∧ Below w.heap.size w w' := by
  obtain ⟨A, cap, rfl, hl1, hm1, _⟩ := hv.1.form
  obtain ⟨B, bap, rfl, hl2, hm2, _⟩ := hv.2.form
  have h3 : Below w.heap.size w (w.alloc (.cells #[.slice A t.sizes.length cap, .slice B t.cos.length bap] 26)) := by go_grown
  have hv3 := Lib.hid (hv.below h3 hB)
  have Hv := Lib.hid hv
  clear hv
  go_enter Try.func19, Try.ntmps19
  go_wp2_with fail
  refine (l2Types_any lo hi _ _ t a b _ hv3.out (by simp; omega)).mono ?_
  rintro e w1 ⟨rfl, hb1⟩
  have H1 := Lib.hid (box2 (hb1.mono (by simp)))
  obtain ⟨q0, q1, hl, _⟩ := box2 (hb1.mono (by simp))
  clear hb1
  by_cases hok : typesB t a b = true
  · have hfin : Hid (canC t a b = canB t a b) := by show _ = _; unfold canC; rw [hok, Bool.true_and]
    have Hok := Lib.hid hok
    rw [hok]
    clear hok
    go_wp2_with fail
    refine (l2Can_any lo hi _ _ t a b _ (Hv.out.below H1.out.2.2.2 hB) (by omega) Hok.out).mono ?_
    rintro e w2 ⟨rfl, hb2⟩
    have H2 := Lib.hid (H1.out.2.2.2.trans (hb2.mono (by omega)))
    clear hb2
    go_wp2
    go_ret
    exact ⟨ret_bool hfin.out.symm, H2.out⟩
  · have hokf : typesB t a b = false := by simpa using hok
    have hfin : Hid (canC t a b = false) := by show _ = _; unfold canC; rw [hokf, Bool.false_and]
    rw [hokf]
    clear hok
    go_wp2
    go_ret
    exact ⟨ret_bool hfin.out.symm, H1.out.2.2.2⟩
end Go.Proofs.Ytplpnammboofiaa

namespace Go.Proofs.Ytplpnammboofiaa
open Go.RowKit

set_option maxRecDepth 100000 in
set_option maxHeartbeats 1000000 in
theorem implCan_any (lo hi : Nat) (sv cv : Value) (t : Ty) (a b : Int) (w : World) (hv : TyAt w lo hi sv cv t) (hB : hi ≤ w.heap.size) (ha : I64 a) (hb : I64 b) :
    Calls Try.prog 18 #[.agg #[sv, cv], .int .i64 a, .int .i64 b] w fun e w' => e = .returned (.bool (canC t a b)) ∧ Below w.heap.size w w' := by
  obtain ⟨A, cap, rfl, hl1, hm1, hi1⟩ := hv.1.form
  obtain ⟨B, bap, rfl, hl2, hm2, hc1⟩ := hv.2.form
  have Hv := Lib.hid hv
  clear hv hi1 hc1
  have h4 : Below w.heap.size w ((w.alloc (.cells #[.slice A t.sizes.length cap, .slice B t.cos.length bap] 26)).alloc (.cells #[.int .i64 a, .int .i64 b] 3)) := by go_grown
  have hone := ints_two (w.alloc (.cells #[.slice A t.sizes.length cap, .slice B t.cos.length bap] 26)) a b ha hb 3
  rw [World.size_alloc] at hone
  have H4 := Lib.hid h4
  have Hone := Lib.hid hone
  clear h4 hone
  go_enter Try.func18, Try.ntmps18
  go_wp2_with fail
  refine (finderOf_any lo hi _ _ _ _ _ t [a, b] _ (Hv.out.below H4.out hB) (by simp; omega) Hone.out (by simp only [World.size_alloc]; omega)).mono ?_
  rintro e w1 ⟨p, rfl, hb1, hf1⟩
  rw [findOk_two] at hf1 ⊢
  have H1 := Lib.hid (H4.out.trans (hb1.mono (by simp; omega)))
  have hs1 : w.heap.size ≤ w1.heap.size := H1.out.size
  clear hb1
  by_cases hok : typesB t a b = true
  · obtain ⟨g, rfl, hg, hrow⟩ := hf1 hok
    have Hrow := Lib.hid hrow
    have Hok := Lib.hid hok
    have hfin : Hid (canC t a b = canB t a b) := by show _ = _; unfold canC; rw [hok, Bool.true_and]
    rw [hok]
    clear hrow hok
    go_wp2_with fail
    refine (leads_any lo hi g _ _ t a b _ (Hv.out.below H1.out hB) (by omega) Hrow.out Hok.out).mono ?_
    rintro e w2 ⟨rfl, hb2⟩
    have H2 := Lib.hid (H1.out.trans (hb2.mono hs1))
    clear hb2
    go_wp2
    go_ret
    exact ⟨ret_bool hfin.out.symm, H2.out⟩
  · have hokf : typesB t a b = false := by simpa using hok
    have hfin : Hid (canC t a b = false) := by show _ = _; unfold canC; rw [hokf, Bool.false_and]
    rw [hokf]
    clear hok hf1
    go_wp2
    go_ret
    exact ⟨ret_bool hfin.out.symm, H1.out⟩
end Go.Proofs.Ytplpnammboofiaa

namespace Go.Proofs.Ytplpnammboofiaa
open Go.RowKit


end Go.Proofs.Ytplpnammboofiaa

namespace Go.Proofs.Ytplpnammboofiaa
open Go.RowKit

end Go.Proofs.Ytplpnammboofiaa

namespace Go.Proofs.Ytplpnammboofiaa
open Go.RowKit

/-- The slice v reads as the lists zss. -/
def SSAt (w : World) (lo hi : Nat) (v : Value) (zss : List (List Int)) : Prop :=
  ∃ (A : Option Addr) (cap : Nat), v = .slice A zss.length cap ∧ zss.length ≤ cap ∧ cap ≤ maxLen ∧
    (0 < zss.length → ∃ b off, A = some ⟨b, off, none⟩ ∧ lo ≤ b ∧ b < hi ∧ ∀ k, ∀ (hk : k < zss.length), ∃ x, w.cell? ⟨b, off + k, none⟩ = some x ∧ IntsAt w lo hi x zss[k])
section
variable {w w' : World} {lo hi : Nat} {v : Value} {zss : List (List Int)}
theorem SSAt.keep (h : SSAt w lo hi v zss) (hk : ∀ k, lo ≤ k → k < hi → w'.heap[k]? = w.heap[k]?) : SSAt w' lo hi v zss := by
  obtain ⟨A, cap, e, h1, h2, h3⟩ := h
  refine ⟨A, cap, e, h1, h2, fun h0 => ?_⟩
  obtain ⟨b, off, hA, hl, hh, hc⟩ := h3 h0
  refine ⟨b, off, hA, hl, hh, fun k hkk => ?_⟩
  obtain ⟨x, hx, hz⟩ := hc k hkk
  exact ⟨x, (World.cell?_of_block (w := w) (hk b hl hh)).trans hx, hz.keep hk⟩
theorem SSAt.below {B : Nat} (h : SSAt w lo hi v zss) (hb : Below B w w') (hB : hi ≤ B) : SSAt w' lo hi v zss := h.keep fun k _ hk => hb.block k (by omega)
theorem SSAt.form (h : SSAt w lo hi v zss) : ∃ (A : Option Addr) (cap : Nat), v = .slice A zss.length cap ∧ zss.length ≤ cap ∧ cap ≤ maxLen ∧ SSAt w lo hi (.slice A zss.length cap) zss := by
  obtain ⟨A, cap, rfl, h1, h2, h3⟩ := h
  exact ⟨A, cap, rfl, h1, h2, A, cap, rfl, h1, h2, h3⟩
theorem SSAt.at_ {A : Option Addr} {n cap k : Nat} (h : SSAt w lo hi (.slice A n cap) zss) (hk : k < zss.length) :
    ∃ (b off : Nat) (A2 : Option Addr) (c2 : Nat), A = some ⟨b, off, none⟩ ∧ lo ≤ b ∧ b < hi ∧ w.cell? ⟨b, off + k, none⟩ = some (.slice A2 zss[k].length c2) ∧ IntsAt w lo hi (.slice A2 zss[k].length c2) zss[k] := by
  obtain ⟨A', cap', e, _, _, h3⟩ := h
  injection e with eA
  subst eA
  obtain ⟨b, off, hA, hl, hh, hc⟩ := h3 (by omega)
  obtain ⟨x, hx, hz⟩ := hc k hk
  obtain ⟨A2, c2, rfl, _, _, hz2⟩ := hz.form
  exact ⟨b, off, A2, c2, hA, hl, hh, hx, hz2⟩
end

end Go.Proofs.Ytplpnammboofiaa

namespace Go.Proofs.Ytplpnammboofiaa
open Go.RowKit

/-- What is left of an allowance when n is taken from it; -1 if it is not enough. -/
def subI (left : Int) (n : Nat) : Int := if left - n < 0 then -1 else left - n
theorem subI_neg {left : Int} {n : Nat} (h : left - n < 0) : subI left n = -1 := if_pos h
theorem subI_pos {left : Int} {n : Nat} (h : ¬ left - n < 0) : subI left n = left - n := if_neg h

theorem subI_sub {left : Int} {n m : Nat} (_h : ¬ left - n < 0) : subI (left - n) m = subI left (n + m) := by
  unfold subI
  by_cases h2 : left - n - m < 0
  · rw [if_pos h2, if_pos (by omega)]
  · rw [if_neg h2, if_neg (by omega)]; omega

end Go.Proofs.Ytplpnammboofiaa

namespace Go.Proofs.Ytplpnammboofiaa
open Go.RowKit

end Go.Proofs.Ytplpnammboofiaa

namespace Go.Proofs.Ytplpnammboofiaa
open Go.RowKit

end Go.Proofs.Ytplpnammboofiaa

namespace Go.Proofs.Ytplpnammboofiaa
open Go.RowKit

theorem markL_wf (k : Int) (n : Nat) (h0 : 0 ≤ k) (h1 : k + n ≤ 1000000000) : ∀ z ∈ markL k n, I64 z := by
  intro z hz
  unfold markL at hz
  obtain ⟨i, hi, rfl⟩ := List.mem_map.1 hz
  have := List.mem_range.1 hi
  unfold I64
  omega
theorem lenSum_maps (t : Ty) (n : Nat) (hn : n ≤ t.cos.length) : lenSum (fun j => t.cos.getD j default) n = mapsLen t.cos n := by
  induction n with
  | zero => rfl
  | succ n ih =>
    rw [mapsLen_succ t.cos n (by omega), ← ih (by omega)]
    rfl

theorem newUses {g n : Nat} {ss : List Int} {f : Nat → Co} {k : Nat} (h : OwnTy.uses g (g + 1) (fun j => g + 1 + 1 + 4 * j + 3) ss n f k) : g ≤ k ∧ k < g + 2 + 4 * n := by
  rcases h with ⟨_, rfl⟩ | ⟨_, rfl⟩ | ⟨i, hi, _, rfl⟩
  · omega
  · omega
  · dsimp only; omega

theorem markAt_le {f : Nat → Co} {k0 : Int} {n : Nat} {B : Int} (h : k0 + 2 * (n : Int) + (lenSum f n : Int) ≤ B) : markAt f k0 n ≤ B := h
end Go.Proofs.Ytplpnammboofiaa

namespace Go.Proofs.Ytplpnammboofiaa
open Go.RowKit

def lsum (f : Nat → List Int) : Nat → Nat
  | 0 => 0
  | i + 1 => lsum f i + (f i).length
theorem lsum_mono (f : Nat → List Int) {i j : Nat} (h : i ≤ j) : lsum f i ≤ lsum f j := by
  induction j with
  | zero => obtain rfl : i = 0 := by omega
            exact Nat.le_refl _
  | succ j ih =>
    by_cases e : i = j + 1
    · rw [e]; exact Nat.le_refl _
    · have := ih (by omega)
      show _ ≤ lsum f j + _
      omega
/-- The list lies at the head of block g, its j-th member at the head of block gs j. -/
structure OwnSS (w : World) (g : Nat) (gs : Nat → Nat) (v : Value) (n : Nat) (f : Nat → List Int) (xs : List Value) : Prop where
  out : SlAt w 23 g v n xs
  own : ∀ i, i < n → ∃ x, xs[i]? = some x ∧ OwnI w 3 (gs i) x (f i)
  ne : ∀ i j, i < n → j < n → i ≠ j → 0 < (f i).length → 0 < (f j).length → gs i ≠ gs j
section
variable {w w' : World} {g n : Nat} {gs : Nat → Nat} {v : Value} {f : Nat → List Int} {xs : List Value}
theorem OwnSS.apart (h : OwnSS w g gs v n f xs) {i : Nat} (hi : i < n) (h0 : 0 < (f i).length) : g ≠ gs i := by
  intro e
  obtain ⟨x, _, A, cap, _, _, _, _, h4⟩ := h.own i hi
  obtain ⟨_, rest, hr⟩ := h4 h0
  obtain ⟨B, cap', _, _, _, _, h5⟩ := h.out
  obtain ⟨_, rest', hr'⟩ := h5 (by omega)
  rw [← e] at hr
  unfold Row at hr hr'
  rw [hr] at hr'
  simp only [Option.some.injEq, Obj.cells.injEq] at hr'
  exact absurd hr'.2.1 (by decide)
theorem OwnSS.keep (h : OwnSS w g gs v n f xs) (hk : ∀ k, (k = g ∧ 0 < n ∨ ∃ i, i < n ∧ 0 < (f i).length ∧ k = gs i) → w'.heap[k]? = w.heap[k]?) : OwnSS w' g gs v n f xs :=
  ⟨h.out.keep fun h0 => hk g (.inl ⟨rfl, h0⟩), fun i hi => by
    obtain ⟨x, hx, ho⟩ := h.own i hi
    exact ⟨x, hx, SlAt.keep ho fun h0 => hk (gs i) (.inr ⟨i, hi, h0, rfl⟩)⟩, h.ne⟩
theorem OwnSS.ss {lo hi : Nat} (h : OwnSS w g gs v n f xs) (hw : ∀ i, i < n → ∀ z ∈ f i, I64 z) (hg : 0 < n → lo ≤ g ∧ g < hi) (hgs : ∀ i, i < n → 0 < (f i).length → lo ≤ gs i ∧ gs i < hi) : SSAt w lo hi v ((List.range n).map f) := by
  have e : ((List.range n).map f).length = n := by simp
  obtain ⟨A, cap, rfl, h1, h2, h3, h4⟩ := h.out
  refine ⟨A, cap, by rw [e], by rw [e]; exact h1, h2, fun h0 => ?_⟩
  rw [e] at h0
  obtain ⟨rfl, rest, hr⟩ := h4 h0
  refine ⟨g, 0, rfl, (hg h0).1, (hg h0).2, fun k hk => ?_⟩
  rw [e] at hk
  obtain ⟨x, hx, ho⟩ := h.own k hk
  refine ⟨x, ?_, ?_⟩
  · rw [Nat.zero_add, hr.cell, List.getElem?_append_left (List.getElem?_eq_some_iff.1 hx).1]
    exact hx
  · simp only [List.getElem_map, List.getElem_range]
    exact ho.ints (hw k hk) (hgs k hk)
theorem OwnSS.congr {f' : Nat → List Int} (h : OwnSS w g gs v n f xs) (hf : ∀ i, i < n → f i = f' i) : OwnSS w g gs v n f' xs :=
  ⟨h.out, fun i hi => by rw [← hf i hi]; exact h.own i hi, fun i j hi hj hne h0 h1 => h.ne i j hi hj hne (by rw [hf i hi]; exact h0) (by rw [hf j hj]; exact h1)⟩
theorem OwnSS.cell (h : OwnSS w g gs v n f xs) {i : Nat} (hi : i < n) : ∃ (x : Value) (cap : Nat), v = .slice (some ⟨g, 0, none⟩) n cap ∧ w.cell? ⟨g, i, none⟩ = some x ∧ OwnI w 3 (gs i) x (f i) := by
  obtain ⟨A, cap, rfl, h1, h2, h3, h4⟩ := h.out
  obtain ⟨rfl, rest, hr⟩ := h4 (by omega)
  obtain ⟨x, hx, ho⟩ := h.own i hi
  refine ⟨x, cap, rfl, ?_, ho⟩
  rw [hr.cell, List.getElem?_append_left (List.getElem?_eq_some_iff.1 hx).1]
  exact hx
/-- One member has been marked. -/
theorem OwnSS.marked {j : Nat} {ys : List Int} {x : Value} (h : OwnSS w g gs v n f xs) (hj : j < n) (hx : xs[j]? = some x) (hl : ys.length = (f j).length) (hk : Kept (fun k => 0 < (f j).length → k ≠ gs j) w w') (ho : OwnI w' 3 (gs j) x ys) : OwnSS w' g gs v n (fun i => if i = j then ys else f i) xs := by
  refine ⟨h.out.keep fun h0 => hk.block g (h.out.lt h0) (fun h1 => h.apart hj h1), fun i hi => ?_, fun i i' hi hi' hne h0 h1 => ?_⟩
  · by_cases e : i = j
    · subst e
      exact ⟨x, hx, by rw [if_pos rfl]; exact ho⟩
    · obtain ⟨y, hy, hoy⟩ := h.own i hi
      refine ⟨y, hy, ?_⟩
      rw [if_neg e]
      exact SlAt.keep hoy fun h0 => hk.block (gs i) (SlAt.lt hoy h0) (fun h1 => h.ne i j hi hj e h0 h1)
  · refine h.ne i i' hi hi' hne ?_ ?_
    · by_cases e : i = j
      · subst e; rw [if_pos rfl, hl] at h0; exact h0
      · rw [if_neg e] at h0; exact h0
    · by_cases e : i' = j
      · subst e; rw [if_pos rfl, hl] at h1; exact h1
      · rw [if_neg e] at h1; exact h1
end

def mixS (f : Nat → List Int) (k0 : Int) (j i : Nat) : List Int := if i < j then markL (k0 + (lsum f i : Nat)) (f i).length else f i
theorem mixS_len (f : Nat → List Int) (k0 : Int) (j i : Nat) : (mixS f k0 j i).length = (f i).length := by unfold mixS; split <;> simp [markL_len]

end Go.Proofs.Ytplpnammboofiaa

