/-
  A range over the program's iterator over ways, from the side of the loop: what its own body keeps is enough.
  The contracts of the program's ways, as an iterator, and of leads.
  The contract of leads.
  The contract of the model's test for a way.
  The contract of CanCoerce, the model's face.
  The contract of the program's CanCoerce.
  The contracts of the library's AppendSeq and Collect over the iterator of ways, and of the program's WaysOf.
-/
import Derived.Test.YtabipfomcldkiaaQgoa
import Derived.RangeFuncLeaves
import Derived.RangeFuncBound
import Derived.RangeFuncNested
import Derived.Test.YtabipfomcldkiaaW3
import Derived.Test.YtabipfomcldkiaaW1
namespace Go.Proofs.Ytabipfomcldkiaa
open Go.RowKit

theorem puts_keep {A : World} {l k : Nat} {o' : Obj} (h : k ≠ l) : (A.putObj l o').heap[k]? = A.heap[k]? := World.putObj_heap_other h
theorem owns_put {A : World} {base n : Nat} {e : TypeId} {v : Value} {xs : List Value} {l : Nat} {o' : Obj} (h : A.ownsRow base e 1 v n xs) (hlo : ∃ lp, A.heap[l]? = some (.loop lp)) : (A.putObj l o').ownsRow base e 1 v n xs := by
  refine ownsRow_keep1 h fun g hg => puts_keep fun e2 => ?_
  subst e2
  obtain ⟨lp, hlp⟩ := hlo
  obtain ⟨_, ⟨rfl, _⟩ | ⟨g', cap, cur, rfl, hb, hh, _⟩⟩ := h
  · simp [Value.ownBlock] at hg
  · simp only [Value.ownBlock, Option.some.injEq] at hg
    subst hg
    rw [hlp] at hh
    cases hh

theorem owns_no {A : World} {base n b : Nat} {e : TypeId} {v : Value} {xs : List Value} {o : Obj} (h : A.ownsRow base e 1 v n xs) (hv : v.ownBlock = some b) (ho : A.heap[b]? = some o) (hn : ∀ c t f, o ≠ .cells c t f) : False := by
  obtain ⟨_, ⟨rfl, _⟩ | ⟨g', cap, cur, rfl, hb, hh, _⟩⟩ := h
  · simp [Value.ownBlock] at hv
  · simp only [Value.ownBlock, Option.some.injEq] at hv
    subst hv
    rw [hh] at ho
    simp only [Option.some.injEq] at ho
    exact hn _ _ _ ho.symm

theorem below_put {A0 A : World} {l : Nat} {o' : Obj} (h : Below A0.heap.size A0 A) (hl : l < A0.heap.size) : Below (A0.putObj l o').heap.size (A0.putObj l o') (A.putObj l o') := by
  have hs := h.size
  refine ⟨h.os, h.tape, h.output, by simpa using hs, fun k hk => ?_⟩
  have hk2 : k < A0.heap.size := by simpa using hk
  by_cases e : k = l
  · subst e
    rw [World.putObj_heap_same (by omega), World.putObj_heap_same hl]
  · exact (puts_keep e).trans ((h.block k hk2).trans (puts_keep e).symm)

/-- What the body of a round must leave. -/
def bodyEnds (T : Nat → Prop) (d : Nat) (I : List (List Int) → (Nat → Prop) → World → Prop) (Ix : Code → List (List Int) → World → Prop) (s : List (List Int)) (O : Nat → Prop) (A : World) : Exit → Act → World → Prop
  | .normal, _, C => HoldsOn (fun k => O k ∨ T k ∨ k = d ∨ k = d + 1) A C ∧ I s O C
  | .exit id, _, C => HoldsOn (fun k => k = d ∨ k = d + 1) A C ∧ Ix (.exit id) s C
  | _, _, _ => False

theorem range_law {n : Nat} {Q : Exit → Act → World → Prop} {a : Act} {w : World} {g : Operand} {p : Tmp} {assign body : Code} (a₁ : Value → Act)
    (hassign : ∀ (l : Nat) (v : Value) (W : World) (m : Nat) (K : Act → World → Prop), K (a₁ v) W → assign.wpIn (Fence.wide.inRound l) m Try.prog (Exit.then K (fun _ _ _ => False)) { tmps := a.tmps.setIfInBounds p v, defers := [] } W)
    {gf : Nat} {lb : Array Value} (hg : a.eval g = .func (.func gf) #[] lb)
    (eg : ∀ args w, (callFunc gf args).run Try.prog w = .ok (.enter gf args) w) (T : Nat → Prop) (hT : ∀ b, T b → b < w.heap.size) (ways : List (List Int))
    (I : List (List Int) → (Nat → Prop) → World → Prop) (Ix : Code → List (List Int) → World → Prop)
    (hIstep : ∀ s O A C row, I s O A → A.grownBy C row → (∀ r, row = some r → O r) → I s (fun k => O k ∨ (A.heap.size ≤ k ∧ k < C.heap.size)) C)
    (hIgive : ∀ s O O' A, I s O A → (∀ k, O' k → O k) → I s O' A)
    (hIput : ∀ s O A k o', I s O A → w.heap.size ≤ k → k ≤ w.heap.size + 1 → I s O (A.putObj k o'))
    (hIxput : ∀ c s A k o', Ix c s A → w.heap.size ≤ k → k ≤ w.heap.size + 1 → Ix c s (A.putObj k o'))
    (hiter : ∀ l J Jx W1, Client l T (fun z => z ∈ ways) J Jx → Below w.heap.size w W1 → J [] (fun _ => False) W1 →
      Calls Try.prog gf (#[.func (.yield l) #[] #[]] ++ lb) W1 fun e W' => (∃ v, e = .returned v) ∧ ((∃ O', J ways O' W') ∨ (0 < ways.length ∧ ∃ s' O', Jx s' O' W')))
    (h0 : ∀ W1, Below w.heap.size w W1 → I [] (fun _ => False) W1)
    (hbody : ∀ l s v zs O A0 A m, zs ∈ ways → I s O A0 → s.length < 40000 → Below A0.heap.size A0 A → A.ownsRow 0 3 1 v zs.length (zs.map (Value.int .i64)) → (∀ b, v.ownBlock = some b → A0.heap.size ≤ b ∧ ¬ O b ∧ ¬ T b) → (∀ z ∈ zs, I64 z) → w.heap.size + 1 < A0.heap.size →
      body.wpIn (Fence.wide.inRound l) m Try.prog (bodyEnds T w.heap.size I Ix (s ++ [zs]) O A) (a₁ v) A)
    (hdone : ∀ O' W', I ways O' W' → W'.heap[w.heap.size]? = some (.deferred (some [])) → Q .normal { a with defers := { target := .collected w.heap.size, args := #[] } :: a.defers } W')
    (hstop : ∀ c s' W', 0 < ways.length → Ix c s' W' → W'.heap[w.heap.size]? = some (.deferred (some [])) → c.wpIn Fence.wide n Try.prog Q { a with defers := { target := .collected w.heap.size, args := #[] } :: a.defers } W') :
    (Code.rangeFunc g #[p] assign body).wpIn Fence.wide n Try.prog Q a w := by
  have hdd : Fence.wide.depth.isSome = true → 1 ≤ n := fun h => by simp [Fence.wide] at h
  refine wpIn_rangeFunc fun fn _ => ?_
  obtain ⟨W1, hW1⟩ : ∃ W1, W1 = (w.alloc (.deferred (some []))).alloc (.loop { state := .ready, pending := none, fn, tmps := a.tmps, params := #[p], assign, body, defers := w.heap.size }) := ⟨_, rfl⟩
  have hb1 : Below w.heap.size w W1 := by rw [hW1]; exact ((Below.refl _ _).alloc (Nat.le_refl _) _).alloc (by simp) _
  have hs1 : W1.heap.size = w.heap.size + 2 := by rw [hW1, World.size_alloc, World.size_alloc]
  have hl1 : W1.heap[w.heap.size + 1]? = some (.loop { state := .ready, pending := none, fn, tmps := a.tmps, params := #[p], assign, body, defers := w.heap.size }) := by
    rw [hW1]
    have := World.alloc_heap_new (w.alloc (.deferred (some []))) (.loop { state := .ready, pending := none, fn, tmps := a.tmps, params := #[p], assign, body, defers := w.heap.size })
    rwa [World.size_alloc] at this
  have hd1 : W1.heap[w.heap.size]? = some (.deferred (some [])) := by rw [hW1]; exact (Below.heap_alloc _ _ _ (by simp)).trans (World.alloc_heap_new w _)
  -- the client: the loop's own invariant, and the loop's record
  have hclient : Client (w.heap.size + 1) T (fun z => z ∈ ways)
      (fun s O A => I s O A ∧ A.heap[w.heap.size + 1]? = some (.loop { state := .ready, pending := none, fn, tmps := a.tmps, params := #[p], assign, body, defers := w.heap.size }) ∧ A.heap[w.heap.size]? = some (.deferred (some [])) ∧ ¬ O w.heap.size ∧ ¬ O (w.heap.size + 1))
      (fun s _ A => ∃ c, Ix c s A ∧ A.heap[w.heap.size + 1]? = some (.loop { state := .done, pending := some c, fn, tmps := a.tmps, params := #[p], assign, body, defers := w.heap.size }) ∧ A.heap[w.heap.size]? = some (.deferred (some []))) := by
    refine ⟨?_, ?_, ?_⟩
    · rintro s O A C row ⟨hi, hl, hd, n0, n1⟩ hgr hrow
      have hla := (Array.getElem?_eq_some_iff.1 hl).1
      exact ⟨hIstep s O A C row hi hgr hrow, (hgr.block _ hla (fun e => n1 (hrow _ e.symm))).trans hl, (hgr.block _ (by omega) (fun e => n0 (hrow _ e.symm))).trans hd, fun h => h.elim n0 (fun h => by omega), fun h => h.elim n1 (fun h => by omega)⟩
    · rintro s O O' A ⟨hi, hl, hd, n0, n1⟩ hsub
      exact ⟨hIgive s O O' A hi hsub, hl, hd, fun h => n0 (hsub _ h), fun h => n1 (hsub _ h)⟩
    · rintro s v zs O A0 A hzw0 ⟨hi, hl0, hd0, n0, n1⟩ hlen hbel hz hzo hzw m
      have hla0 := (Array.getElem?_eq_some_iff.1 hl0).1
      have hl := (hbel.block _ hla0).trans hl0
      have hd := (hbel.block w.heap.size (by omega)).trans hd0
      have hla := (Array.getElem?_eq_some_iff.1 hl).1
      have etmps : ((#[p] : Array Tmp).zip #[v]).foldl (fun tmps (x : Tmp × Value) => tmps.setIfInBounds x.1 x.2) a.tmps = a.tmps.setIfInBounds p v := by simp
      refine ⟨fn, _, assign, body, run_yield (args := #[v]) hl rfl, roundIn_of_wpIn trivial ?_⟩
      dsimp only
      rw [etmps]
      refine hassign _ v A m _ ⟨_, run_beginRound hl rfl, ?_⟩
      have hI2 := hIput s O A0 (w.heap.size + 1) (.loop { state := .busy, pending := none, fn, tmps := a.tmps, params := #[p], assign, body, defers := w.heap.size }) hi (by omega) (Nat.le_refl _)
      have hz2 := owns_put (o' := .loop { state := .busy, pending := none, fn, tmps := a.tmps, params := #[p], assign, body, defers := w.heap.size }) hz ⟨_, hl⟩
      have hsz : (A.putObj (w.heap.size + 1) (.loop { state := .busy, pending := none, fn, tmps := a.tmps, params := #[p], assign, body, defers := w.heap.size })).heap.size = A.heap.size := by simp
      have hl2 : (A.putObj (w.heap.size + 1) (.loop { state := .busy, pending := none, fn, tmps := a.tmps, params := #[p], assign, body, defers := w.heap.size })).heap[w.heap.size + 1]? = some (.loop { state := .busy, pending := none, fn, tmps := a.tmps, params := #[p], assign, body, defers := w.heap.size }) := World.putObj_heap_same hla
      have hd2 := (puts_keep (A := A) (l := w.heap.size + 1) (k := w.heap.size) (o' := .loop { state := .busy, pending := none, fn, tmps := a.tmps, params := #[p], assign, body, defers := w.heap.size }) (by omega)).trans hd
      have hb2 := below_put (l := w.heap.size + 1) (o' := .loop { state := .busy, pending := none, fn, tmps := a.tmps, params := #[p], assign, body, defers := w.heap.size }) hbel hla0
      refine wpIn_mono (hbody (w.heap.size + 1) s v zs O _ _ m hzw0 hI2 hlen hb2 hz2 (fun b hb => ⟨by rw [show (A0.putObj (w.heap.size + 1) (.loop { state := .busy, pending := none, fn, tmps := a.tmps, params := #[p], assign, body, defers := w.heap.size })).heap.size = A0.heap.size by simp]; exact (hzo b hb).1, (hzo b hb).2⟩) hzw (by simp; exact hla0)) ?_
      intro e a3 C hp
      cases e with
      | normal =>
        obtain ⟨hh, hi3⟩ := hp
        have hl3 := (hh.2 (w.heap.size + 1) (by rw [hsz]; exact hla) (.inr (.inr (.inr rfl)))).trans hl2
        have hd3 := (hh.2 w.heap.size (by rw [hsz]; omega) (.inr (.inr (.inl rfl)))).trans hd2
        have hlc := (Array.getElem?_eq_some_iff.1 hl3).1
        refine ⟨_, _, run_endRound none hl3, .inl ⟨rfl, ⟨hIput _ _ _ _ _ hi3 (by omega) (Nat.le_refl _), World.putObj_heap_same hlc, (puts_keep (by omega)).trans hd3, n0, n1⟩, ⟨by have := hh.1; rw [hsz] at this; simpa using this, fun k hk hS => ?_⟩⟩⟩
        have hne : k ≠ w.heap.size + 1 := by
          rcases hS with h | h
          · intro e; exact n1 (e ▸ h)
          · have := hT k h; omega
        exact (puts_keep hne).trans ((hh.2 k (by rw [hsz]; exact hk) (hS.elim .inl (fun h => .inr (.inl h)))).trans (puts_keep hne))
      | exit id =>
        obtain ⟨hh, hi3⟩ := hp
        have hl3 := (hh.2 (w.heap.size + 1) (by rw [hsz]; exact hla) (.inr rfl)).trans hl2
        have hd3 := (hh.2 w.heap.size (by rw [hsz]; omega) (.inl rfl)).trans hd2
        have hlc := (Array.getElem?_eq_some_iff.1 hl3).1
        exact ⟨_, _, run_endRound (some (.exit id)) hl3, .inr ⟨rfl, .exit id, hIxput _ _ _ _ _ hi3 (by omega) (Nat.le_refl _), World.putObj_heap_same hlc, (puts_keep (by omega)).trans hd3⟩⟩
      | ret => exact hp.elim
      | goto t => exact hp.elim
      | panic ch => exact hp.elim
      | outgrown => exact hp.elim
  refine ⟨w.heap.size + 1, [{ target := .collected w.heap.size, args := #[] }], W1, { target := .fn (.func gf) lb, args := #[.func (.yield (w.heap.size + 1)) #[] #[]] }, W1, gf, #[.func (.yield (w.heap.size + 1)) #[] #[]] ++ lb, W1, ?_, ?_, fun _ _ => trivial, ?_, hdd, ?_⟩
  · rw [hW1]; exact run_enterLoop_outer _ _ _ _ _
  · simp only [resolve, hg]
    simp [go_sem]
  · simp [invoke, go_sem, eg]
  · refine (callsIn_wide.2 (hiter _ _ _ W1 hclient hb1 ⟨h0 W1 hb1, hl1, hd1, fun h => h, fun h => h⟩)).mono ?_
    rintro e W2 ⟨⟨v, rfl⟩, ⟨O', hi, hl, hd, _⟩ | ⟨hpos, s', O', c, hi, hl, hd⟩⟩
    · exact ⟨none, _, run_endLoop hl (by simp), hdone O' _ (hIput _ _ _ _ _ hi (by omega) (Nat.le_refl _)) ((puts_keep (by omega)).trans hd)⟩
    · exact ⟨some c, _, run_endLoop hl (by simp), hstop c s' _ hpos (hIxput _ _ _ _ _ hi (by omega) (Nat.le_refl _)) ((puts_keep (by omega)).trans hd)⟩
end Go.Proofs.Ytabipfomcldkiaa

namespace Go.Proofs.Ytabipfomcldkiaa
open Go.RowKit
attribute [local go_sem] Oper.semAt_some

set_option maxRecDepth 100000 in
set_option maxHeartbeats 1000000 in
theorem ways_any (g : Nat) (a b : Int) (w : World) :
    Calls Try.prog 67 #[.pointer (some ⟨g, 0, none⟩), .int .i64 a, .int .i64 b] w fun e w' => e = .returned (.func (.func 90) #[] #[.pointer (some ⟨w.heap.size, 0, none⟩), .pointer (some ⟨w.heap.size + 1, 0, none⟩), .pointer (some ⟨w.heap.size + 2, 0, none⟩)]) ∧
      ((w.alloc (.cells #[.pointer (some ⟨g, 0, none⟩)] 72)).alloc (.cells #[.int .i64 a] 3)).alloc (.cells #[.int .i64 b] 3) = w' := by
  have hmf : ∀ (fn : Fn) (first cap : Array Value) (w : World), (Instr.makeFunc fn first cap).run Try.prog w = .ok (.func fn first cap) w := fun _ _ _ _ => rfl
  go_enter Try.func67, Try.ntmps67
  go_wp2
  go_ret
  exact ⟨rfl, rfl⟩

set_option maxRecDepth 100000 in
set_option maxHeartbeats 1000000 in
theorem waysIter_any (l g p3 p4 p5 : Nat) (T : Nat → Prop) (J Jx : List (List Int) → (Nat → Prop) → World → Prop) (t : Ty) (a b : Int) (hC : Client l T (fun z => z ∈ waysOf t a b) J Jx) (lo hi : Nat) (sv cv : Value) (w : World) (htb : typesB t a b = true) (hg : T g) (hTy : ∀ k, lo ≤ k → k < hi → T k) (hT : ∀ k, T k → k < w.heap.size)
    (hrow : Row w g 84 [sv, cv]) (hv : TyAt w lo hi sv cv t) (c3 : w.cell? ⟨p3, 0, none⟩ = some (.pointer (some ⟨g, 0, none⟩))) (c4 : w.cell? ⟨p4, 0, none⟩ = some (.int .i64 a)) (c5 : w.cell? ⟨p5, 0, none⟩ = some (.int .i64 b)) (hJ : J [] (fun _ => False) w) :
    Calls Try.prog 90 #[.func (.yield l) #[] #[], .pointer (some ⟨p3, 0, none⟩), .pointer (some ⟨p4, 0, none⟩), .pointer (some ⟨p5, 0, none⟩)] w fun e W' =>
      (∃ v, e = .returned v) ∧ ((∃ O', J (waysOf t a b) O' W') ∨ (0 < (waysOf t a b).length ∧ ∃ s' O', Jx s' O' W')) := by
  obtain ⟨hok, ha0, ha1, hb0, hb1⟩ := typesB_of htb
  have h5 := typesB_len hok
  have hwl : (waysF t.cos 5 a b).length ≤ 32768 := waysOf_len hok a b
  have hgo := goOn_any l w.heap.size g T _ J Jx hC lo hi sv cv t b hok hg hTy 5 a [] (.slice none 0 0) [] (fun _ => False) w (fun y hy => hy) hJ (World.ownsRow_nil _ _ _ _) (fun _ h => h.elim) (fun b h => by simp [Value.ownBlock] at h) hT (fun _ _ h => h) (fun z h => absurd h (by simp)) (by simp) hrow hv ha0 ha1 (by omega) (by simp; omega) (Nat.le_refl _)
  have Hgo := Lib.hid hgo
  clear hC hTy hT hrow hv hJ hgo htb hg
  go_enter Try.func90, Try.ntmps90
  go_wp2_with fail
  refine Hgo.out.mono ?_
  rintro e w7 ⟨bv, rfl, h⟩
  have hfin : (∃ O', J (waysOf t a b) O' w7) ∨ (0 < (waysOf t a b).length ∧ ∃ s' O', Jx s' O' w7) := by
    rcases h with ⟨_, O', _, _, h3, _⟩ | ⟨_, h1, s', O', h2⟩
    · refine .inl ⟨O', ?_⟩
      have e : ([] : List (List Int)) ++ (waysF t.cos 5 a b).map (([] : List Int) ++ ·) = waysOf t a b := by
        simp only [List.nil_append]
        exact List.map_id' _
      rw [← e]
      exact h3
    · exact .inr ⟨h1, s', O', h2⟩
  have Hfin := Lib.hid hfin
  clear h hfin Hgo
  go_wp2
  go_end0
  exact ⟨⟨_, rfl⟩, Hfin.out⟩

end Go.Proofs.Ytabipfomcldkiaa

namespace Go.Proofs.Ytabipfomcldkiaa
open Go.RowKit
attribute [local go_sem] Oper.semAt_some

set_option maxRecDepth 100000 in
set_option maxHeartbeats 2000000 in
theorem leads_any (lo hi g : Nat) (sv cv : Value) (t : Ty) (a b : Int) (w : World) (hv : TyAt w lo hi sv cv t) (hB : hi ≤ w.heap.size) (hrow : Row w g 84 [sv, cv]) (htb : typesB t a b = true) :
    Calls Try.prog 70 #[.pointer (some ⟨g, 0, none⟩), .int .i64 a, .int .i64 b] w fun e w' => e = .returned (.bool (canB t a b)) ∧ Below w.heap.size w w' := by
  refine (callsIn_wide (n := 5)).1 ?_
  refine callsIn_of_wp_marks Try.func70 rfl trivial ?_ rfl
  simp only [Try.ntmps70, List.size_toArray, List.length_cons, List.length_nil, Nat.reduceAdd, Nat.reduceSub, Array.replicate_succ, Array.replicate_zero, List.push_toArray, List.append_toArray, List.nil_append, List.cons_append]
  gi_wp2_with (refine ⟨trivial, ?_⟩; gi_at_call 67; refine (callsIn_wide.2 (ways_any g a b _)).mono ?_; rintro e w' ⟨rfl, rfl⟩)
  obtain ⟨W0, hW0⟩ : ∃ u, u = (((w.alloc (.cells #[.bool false] 4)).alloc (.cells #[.pointer (some ⟨g, 0, none⟩)] 72)).alloc (.cells #[.int .i64 a] 3)).alloc (.cells #[.int .i64 b] 3) := ⟨_, rfl⟩
  rw [← hW0]
  have hs0 : W0.heap.size = w.heap.size + 4 := by rw [hW0]; simp
  have hb0 : Below w.heap.size w W0 := by rw [hW0]; go_grown
  have rf : Row W0 w.heap.size 4 [.bool false] := by rw [hW0]; exact (((Row.new w 4 [.bool false]).alloc _).alloc _).alloc _
  have r3 : Row W0 (w.heap.size + 1) 72 [.pointer (some ⟨g, 0, none⟩)] := by
    rw [hW0]
    have := Row.new (w.alloc (.cells #[.bool false] 4)) 72 [.pointer (some ⟨g, 0, none⟩)]
    rw [World.size_alloc] at this
    exact (this.alloc _).alloc _
  have r4 : Row W0 (w.heap.size + 1 + 1) 3 [.int .i64 a] := by
    rw [hW0]
    have := Row.new ((w.alloc (.cells #[.bool false] 4)).alloc (.cells #[.pointer (some ⟨g, 0, none⟩)] 72)) 3 [.int .i64 a]
    rw [World.size_alloc, World.size_alloc] at this
    exact this.alloc _
  have r5 : Row W0 (w.heap.size + 1 + 2) 3 [.int .i64 b] := by
    rw [hW0]
    have := Row.new (((w.alloc (.cells #[.bool false] 4)).alloc (.cells #[.pointer (some ⟨g, 0, none⟩)] 72)).alloc (.cells #[.int .i64 a] 3)) 3 [.int .i64 b]
    rw [World.size_alloc, World.size_alloc, World.size_alloc] at this
    exact this
  clear hW0
  refine range_law (fun v => { tmps := #[.pointer (some ⟨g, 0, none⟩), .int .i64 a, .int .i64 b, undef, undef, undef, .bool false, .pointer (some ⟨w.heap.size, 0, none⟩), .pointer (some ⟨g, 0, none⟩), .int .i64 a, .int .i64 b, .func (.func 90) #[] #[.pointer (some ⟨w.heap.size + 1, 0, none⟩), .pointer (some ⟨w.heap.size + 1 + 1, 0, none⟩), .pointer (some ⟨w.heap.size + 1 + 2, 0, none⟩)], v, undef], defers := [] }) (fun _ _ _ _ _ hK => wpIn_skip hK) (gf := 90) (lb := #[.pointer (some ⟨w.heap.size + 1, 0, none⟩), .pointer (some ⟨w.heap.size + 1 + 1, 0, none⟩), .pointer (some ⟨w.heap.size + 1 + 2, 0, none⟩)]) rfl (enters_of Try.func90 (by kernel_rfl) rfl)
    (fun k => k < w.heap.size) (fun k hk => by omega) (waysOf t a b)
    (fun s O A => s = [] ∧ Row A w.heap.size 4 [.bool false] ∧ ¬ O w.heap.size ∧ (∀ k, O k → w.heap.size ≤ k) ∧ Below w.heap.size w A)
    (fun c _ A => c = .exit 0 ∧ Row A w.heap.size 4 [.bool true] ∧ Below w.heap.size w A) ?istep ?igive ?iput ?ixput ?iter ?start ?body ?done ?stop
  case istep =>
    rintro s O A C row ⟨hs, hr, hn, hO, hb⟩ hgr hrw
    refine ⟨hs, hr.keep (hgr.block _ hr.lt (fun e => hn (hrw _ e.symm))), fun h => h.elim hn (fun h => by have := hr.lt; omega), fun k h => h.elim (hO k) (fun h => by have := hb.size; omega), hb.grown hgr hb.size (fun k e => hO k (hrw k e))⟩
  case igive =>
    rintro s O O' A ⟨hs, hr, hn, hO, hb⟩ hsub
    exact ⟨hs, hr, fun h => hn (hsub _ h), fun k h => hO k (hsub k h), hb⟩
  case iput =>
    rintro s O A k o' ⟨hs, hr, hn, hO, hb⟩ h1 h2
    exact ⟨hs, hr.keep (puts_keep (by omega)), hn, hO, hb.grown (grownBy_putObj' A k o') hb.size (fun q e => by simp only [Option.some.injEq] at e; omega)⟩
  case ixput =>
    rintro c s A k o' ⟨hc, hr, hb⟩ h1 h2
    exact ⟨hc, hr.keep (puts_keep (by omega)), hb.grown (grownBy_putObj' A k o') hb.size (fun q e => by simp only [Option.some.injEq] at e; omega)⟩
  case iter =>
    intro l J Jx W1 hC hb1 hJ
    have hbb := hb0.trans (hb1.mono (by omega))
    exact waysIter_any l g (w.heap.size + 1) (w.heap.size + 1 + 1) (w.heap.size + 1 + 2) _ J Jx t a b hC lo hi sv cv W1 htb hrow.lt (fun k _ hk => by omega) (fun k hk => by have := hbb.size; omega) (hrow.below hbb hrow.lt) (hv.below hbb hB)
      ((r3.below hb1 (by omega)).cell 0) ((r4.below hb1 (by omega)).cell 0) ((r5.below hb1 (by omega)).cell 0) hJ
  case start =>
    intro W1 hb1
    exact ⟨rfl, rf.below hb1 (by omega), fun h => h, fun k h => h.elim, hb0.trans (hb1.mono (by omega))⟩
  case body =>
    rintro l s v zs O A0 A m _ ⟨hs, hr0, hn, hO, hb00⟩ _ hbel _ _ _ hlt
    have hr := hr0.below hbel hr0.lt
    have hb := hb00.trans (hbel.mono hb00.size)
    have p0 : A.cell? ⟨w.heap.size, 0, none⟩ = some (.bool false) := hr.cell 0
    have pf : A.frozen? ⟨w.heap.size, 0, none⟩ = false := hr.frozen 0
    have hset := hr.set_ 0 (.bool true)
    have Hset := Lib.hid hset
    have Hb := Lib.hid hb
    clear hset hr hb
    gi_wp2
    refine ⟨⟨by simp [World.setCell], fun k hk hS => ?_⟩, rfl, Hset.out, Hb.out.setCell (Nat.le_refl _) _⟩
    exact heap_set_ne _ _ _ _ _ (by omega)
  case done =>
    rintro O' W' ⟨hs, hr, hn, hO, hb⟩ hK
    have hfin : canB t a b = false := by unfold canB; rw [hs]; rfl
    have p0 : W'.cell? ⟨w.heap.size, 0, none⟩ = some (.bool false) := hr.cell 0
    have Hb := Lib.hid hb
    have HK := Lib.hid hK
    clear hr hb hK
    gi_wp2
    refine ⟨by simp, .inl ⟨_, _, rfl, run_takeDeferred HK.out, ?_⟩⟩
    exact ⟨_, results_tmp rfl _ _ _, by rw [hfin]; rfl, Hb.out.grown (grownBy_putObj' W' _ _) Hb.out.size (fun q e => by simp only [Option.some.injEq] at e; omega)⟩
  case stop =>
    rintro c s' W' hpos ⟨rfl, hr, hb⟩ hK
    have hfin : canB t a b = true := by unfold canB; rw [decide_eq_true_eq]; exact hpos
    have p0 : W'.cell? ⟨w.heap.size, 0, none⟩ = some (.bool true) := hr.cell 0
    have Hb := Lib.hid hb
    have HK := Lib.hid hK
    clear hr hb hK
    gi_wp2
    refine ⟨by simp, .inl ⟨_, _, rfl, run_takeDeferred HK.out, ?_⟩⟩
    exact ⟨_, results_tmp rfl _ _ _, by rw [hfin]; rfl, Hb.out.grown (grownBy_putObj' W' _ _) Hb.out.size (fun q e => by simp only [Option.some.injEq] at e; omega)⟩
end Go.Proofs.Ytabipfomcldkiaa

namespace Go.Proofs.Ytabipfomcldkiaa
open Go.RowKit
attribute [local go_sem] Oper.semAt_some

set_option maxRecDepth 100000 in
set_option maxHeartbeats 1000000 in
theorem l2Can_any (lo hi : Nat) (sv cv : Value) (t : Ty) (a b : Int) (w : World) (hv : TyAt w lo hi sv cv t) (hB : hi ≤ w.heap.size) (htb : typesB t a b = true) :
    Calls Try.prog 72 #[.agg #[sv, cv], .int .i64 a, .int .i64 b] w fun e w' => e = .returned (.bool (canB t a b)) ∧ Below w.heap.size w w' := by
  obtain ⟨A, cap, rfl, hl1, hm1, _⟩ := hv.1.form
  obtain ⟨B, bap, rfl, hl2, hm2, _⟩ := hv.2.form
  have h3 : Below w.heap.size w (w.alloc (.cells #[.slice A t.sizes.length cap, .slice B t.cos.length bap] 26)) := by go_grown
  have hv3 := Lib.hid (hv.below h3 hB)
  have hwl := waysOf_len (typesB_of htb).1 a b
  clear hv
  go_enter Try.func72, Try.ntmps72
  go_wp2_with fail
  refine (l2Ways_any lo hi _ _ t a b _ hv3.out (by simp; omega) htb).mono ?_
  rintro e w1 ⟨ov, rfl, hb1, hwy⟩
  obtain ⟨xs, S, hown, _⟩ := hwy
  obtain ⟨OA, OC, rfl⟩ := owns_form hown
  have Hb1 := Lib.hid (h3.trans (hb1.mono (by simp)))
  clear hb1 hown
  go_wp2
  go_ret
  refine ⟨ret_bool ?_, Hb1.out⟩
  unfold canB
  rw [decide_eq_decide]
end Go.Proofs.Ytabipfomcldkiaa

namespace Go.Proofs.Ytabipfomcldkiaa
open Go.RowKit
attribute [local go_sem] Oper.semAt_some

set_option maxRecDepth 100000 in
set_option maxHeartbeats 1000000 in
theorem specCan_any (lo hi : Nat) (sv cv : Value) (t : Ty) (a b : Int) (w : World) (hv : TyAt w lo hi sv cv t) (hB : hi ≤ w.heap.size) :
    Calls Try.prog 32 #[.agg #[sv, cv], .int .i64 a, .int .i64 b] w fun e w' => e = .returned (.bool (canC t a b)) ∧ Below w.heap.size w w' := by
  obtain ⟨A, cap, rfl, hl1, hm1, _⟩ := hv.1.form
  obtain ⟨B, bap, rfl, hl2, hm2, _⟩ := hv.2.form
  have h3 : Below w.heap.size w (w.alloc (.cells #[.slice A t.sizes.length cap, .slice B t.cos.length bap] 26)) := by go_grown
  have hv3 := Lib.hid (hv.below h3 hB)
  have Hv := Lib.hid hv
  clear hv
  go_enter Try.func32, Try.ntmps32
  go_wp2_with fail
  refine (l2Types_any lo hi _ _ t a b _ hv3.out (by simp; omega)).mono ?_
  rintro e w1 ⟨rfl, hb1⟩
  have H1 := Lib.hid (box2 (hb1.mono (by simp)))
  obtain ⟨q0, q1, hl, _⟩ := box2 (hb1.mono (by simp))
  clear hb1
  by_cases hok : typesB t a b = true
  · have hfin : Hid (canC t a b = canB t a b) := by show _ = _; unfold canC; rw [hok, Bool.true_and]
    have Hok := Lib.hid hok
    rw [hok]
    clear hok
    go_wp2_with fail
    refine (l2Can_any lo hi _ _ t a b _ (Hv.out.below H1.out.2.2.2 hB) (by omega) Hok.out).mono ?_
    rintro e w2 ⟨rfl, hb2⟩
    have H2 := Lib.hid (H1.out.2.2.2.trans (hb2.mono (by omega)))
    clear hb2
    go_wp2
    go_ret
    exact ⟨ret_bool hfin.out.symm, H2.out⟩
  · have hokf : typesB t a b = false := by simpa using hok
    have hfin : Hid (canC t a b = false) := by show _ = _; unfold canC; rw [hokf, Bool.false_and]
    rw [hokf]
    clear hok
    go_wp2
    go_ret
    exact ⟨ret_bool hfin.out.symm, H1.out.2.2.2⟩
end Go.Proofs.Ytabipfomcldkiaa

namespace Go.Proofs.Ytabipfomcldkiaa
open Go.RowKit

set_option maxRecDepth 100000 in
set_option maxHeartbeats 1000000 in
theorem implCan_any (lo hi : Nat) (sv cv : Value) (t : Ty) (a b : Int) (w : World) (hv : TyAt w lo hi sv cv t) (hB : hi ≤ w.heap.size) (ha : I64 a) (hb : I64 b) :
    Calls Try.prog 31 #[.agg #[sv, cv], .int .i64 a, .int .i64 b] w fun e w' => e = .returned (.bool (canC t a b)) ∧ Below w.heap.size w w' := by
  obtain ⟨A, cap, rfl, hl1, hm1, hi1⟩ := hv.1.form
  obtain ⟨B, bap, rfl, hl2, hm2, hc1⟩ := hv.2.form
  have Hv := Lib.hid hv
  clear hv hi1 hc1
  have h4 : Below w.heap.size w ((w.alloc (.cells #[.slice A t.sizes.length cap, .slice B t.cos.length bap] 26)).alloc (.cells #[.int .i64 a, .int .i64 b] 3)) := by go_grown
  have hone := ints_two (w.alloc (.cells #[.slice A t.sizes.length cap, .slice B t.cos.length bap] 26)) a b ha hb 3
  rw [World.size_alloc] at hone
  have H4 := Lib.hid h4
  have Hone := Lib.hid hone
  clear h4 hone
  go_enter Try.func31, Try.ntmps31
  go_wp2_with fail
  refine (finderOf_any lo hi _ _ _ _ _ t [a, b] _ (Hv.out.below H4.out hB) (by simp; omega) Hone.out (by simp only [World.size_alloc]; omega)).mono ?_
  rintro e w1 ⟨p, rfl, hb1, hf1⟩
  rw [findOk_two] at hf1 ⊢
  have H1 := Lib.hid (H4.out.trans (hb1.mono (by simp; omega)))
  have hs1 : w.heap.size ≤ w1.heap.size := H1.out.size
  clear hb1
  by_cases hok : typesB t a b = true
  · obtain ⟨g, rfl, hg, hrow⟩ := hf1 hok
    have Hrow := Lib.hid hrow
    have Hok := Lib.hid hok
    have hfin : Hid (canC t a b = canB t a b) := by show _ = _; unfold canC; rw [hok, Bool.true_and]
    rw [hok]
    clear hrow hok
    go_wp2_with fail
    refine (leads_any lo hi g _ _ t a b _ (Hv.out.below H1.out hB) (by omega) Hrow.out Hok.out).mono ?_
    rintro e w2 ⟨rfl, hb2⟩
    have H2 := Lib.hid (H1.out.trans (hb2.mono hs1))
    clear hb2
    go_wp2
    go_ret
    exact ⟨ret_bool hfin.out.symm, H2.out⟩
  · have hokf : typesB t a b = false := by simpa using hok
    have hfin : Hid (canC t a b = false) := by show _ = _; unfold canC; rw [hokf, Bool.false_and]
    rw [hokf]
    clear hok hf1
    go_wp2
    go_ret
    exact ⟨ret_bool hfin.out.symm, H1.out⟩
end Go.Proofs.Ytabipfomcldkiaa

namespace Go.Proofs.Ytabipfomcldkiaa
open Go.RowKit
attribute [local go_sem] Oper.semAt_some

theorem slAt_of_owns {w : World} {base n : Nat} {e : TypeId} {v : Value} {xs : List Value} (h : w.ownsRow base e 1 v n xs) : SlAt w e (v.ownBlock.getD 0) v n xs ∧ (0 < n → v.ownBlock = some (v.ownBlock.getD 0) ∧ base ≤ v.ownBlock.getD 0 ∧ v.ownBlock.getD 0 < w.heap.size) := by
  have hlt := owns_lt h
  obtain ⟨h1, ⟨rfl, rfl⟩ | ⟨g, cap, cur, rfl, hb, hh, hc, hm, hsz, htk⟩⟩ := h
  · exact ⟨⟨none, 0, rfl, Nat.le_refl _, Nat.zero_le _, fun _ => List.eq_nil_of_length_eq_zero (by simpa using h1), fun h0 => absurd h0 (by omega)⟩, fun h0 => absurd h0 (by omega)⟩
  · have hr : Row w g e (xs ++ cur.toList.drop n) := by
      rw [← htk, Nat.mul_one, List.take_append_drop]
      simpa [Row] using hh
    exact ⟨⟨_, _, rfl, hc, hm, fun e0 => List.eq_nil_of_length_eq_zero (by rw [h1, e0]), fun _ => ⟨rfl, _, hr⟩⟩, fun _ => ⟨rfl, hlt g rfl⟩⟩

/-- The box of the list that grows, and what it holds. -/
structure CIn (n0 d : Nat) (w1 : World) (s : List (List Int)) (O : Nat → Prop) (A : World) (v : Value) (xs : List Value) : Prop where
  r0 : Row A n0 47 [v]
  out : A.ownsRow n0 23 1 v s.length xs
  own : ∀ i, ∀ (h : i < s.length), ∃ x, xs[i]? = some x ∧ A.ownsRow n0 3 1 x s[i].length (s[i].map (Value.int .i64)) ∧ ∀ b, x.ownBlock = some b → ¬ O b ∧ b ≠ d ∧ b ≠ d + 1
  ne : ∀ (i j : Nat) (x y : Value), xs[i]? = some x → xs[j]? = some y → i ≠ j → ∀ b, x.ownBlock = some b → y.ownBlock ≠ some b
  no : ∀ b, v.ownBlock = some b → ¬ O b ∧ b ≠ d ∧ b ≠ d + 1
  no0 : ¬ O n0
  lo : ∀ k, O k → n0 ≤ k
  hi : ∀ k, O k → k < A.heap.size
  below : Below n0 w1 A
section
variable {n0 d : Nat} {w1 A A0 A2 A3 C : World} {s : List (List Int)} {O O' : Nat → Prop} {v : Value} {xs : List Value}
theorem CIn.move (h : CIn n0 d w1 s O A v xs) (hO : ∀ k, O' k → (O k ∨ A.heap.size ≤ k) ∧ k < C.heap.size) (hk : ∀ k, k < A.heap.size → ¬ O k → k ≠ d → k ≠ d + 1 → C.heap[k]? = A.heap[k]?) (hd : n0 < d) (hb : Below n0 w1 C) : CIn n0 d w1 s O' C v xs := by
  have hlow : ∀ b, ¬ O b → b < A.heap.size → ¬ O' b := fun b h1 h2 h3 => by
    rcases (hO b h3).1 with h | h
    · exact h1 h
    · omega
  refine ⟨h.r0.keep (hk n0 h.r0.lt h.no0 (by omega) (by omega)), ownsRow_keep1 h.out fun b hb2 => hk b (owns_lt h.out b hb2).2 (h.no b hb2).1 (h.no b hb2).2.1 (h.no b hb2).2.2, fun i hi => ?_, h.ne, fun b hb2 => ⟨hlow b (h.no b hb2).1 (owns_lt h.out b hb2).2, (h.no b hb2).2⟩, hlow n0 h.no0 h.r0.lt, fun k hk2 => ?_, fun k hk2 => (hO k hk2).2, hb⟩
  · obtain ⟨x, hx, ho, hn⟩ := h.own i hi
    exact ⟨x, hx, ownsRow_keep1 ho fun b hb2 => hk b (owns_lt ho b hb2).2 (hn b hb2).1 (hn b hb2).2.1 (hn b hb2).2.2, fun b hb2 => ⟨hlow b (hn b hb2).1 (owns_lt ho b hb2).2, (hn b hb2).2⟩⟩
  · rcases (hO k hk2).1 with h2 | h2
    · exact h.lo k h2
    · have := h.r0.lt; omega
theorem CIn.push {zs : List Int} {x v' : Value} (h0 : CIn n0 d w1 s O A0 v xs) (hd : n0 < d) (hdl : d + 1 < A0.heap.size) (hbel : Below A0.heap.size A0 A) (hz : A.ownsRow 0 3 1 x zs.length (zs.map (Value.int .i64))) (hzo : ∀ b, x.ownBlock = some b → A0.heap.size ≤ b ∧ ¬ O b ∧ ¬ b < n0)
    (hA2 : Below A.heap.size A A2) (hp : Pushed A2 A3 n0 23 v v' s.length xs x) : CIn n0 d w1 (s ++ [zs]) O (A3.setCell ⟨n0, 0, none⟩ v') v' (xs ++ [x]) ∧ HoldsOn (fun k => O k ∨ k < n0 ∨ k = d ∨ k = d + 1) A (A3.setCell ⟨n0, 0, none⟩ v') := by
  have hs1 := hbel.size
  have hs2 := hA2.size
  have hs3 := hp.grown.size
  have hl0 := h0.r0.lt
  have hvl := owns_lt h0.out
  have hsz : (A3.setCell ⟨n0, 0, none⟩ v').heap.size = A3.heap.size := by simp [World.setCell]
  have hxl := h0.out.1
  have hrow2 : Row A2 n0 47 [v] := (h0.r0.below hbel hl0).below hA2 (by omega)
  have hout2 : A2.ownsRow n0 23 1 v s.length xs := ownsRow_keep1 h0.out fun b hb => (hA2.block b (by have := (hvl b hb).2; omega)).trans (hbel.block b (hvl b hb).2)
  have hvne := owns_ne_row hout2 hrow2 (by decide)
  have hv' : ∀ b, v'.ownBlock = some b → (v.ownBlock = some b) ∨ (A2.heap.size ≤ b ∧ b < A3.heap.size) := by
    intro b hb
    rcases hp.at_ with e | ⟨g', e, h6, h7⟩
    · exact .inl (by rw [← e]; exact hb)
    · rw [e] at hb; simp only [Option.some.injEq] at hb; subst hb; exact .inr ⟨h6, h7⟩
  have hv'0 : v'.ownBlock ≠ some n0 := fun e => (hv' n0 e).elim hvne (fun h => by omega)
  -- blocks that v does not own stay
  have hkeep : ∀ k, k < A2.heap.size → v.ownBlock ≠ some k → k ≠ n0 → (A3.setCell ⟨n0, 0, none⟩ v').heap[k]? = A2.heap[k]? := fun k hk h1 h2 => (heap_set_ne _ _ _ _ _ h2).trans (hp.grown.block k hk (fun e => h1 e.symm))
  have hxs : ∀ (i : Nat) (y : Value), xs[i]? = some y → ∀ b, y.ownBlock = some b → b < A0.heap.size := fun i y hy b hb => by
    have hi : i < s.length := by have := (List.getElem?_eq_some_iff.1 hy).1; omega
    obtain ⟨y', hy', ho, _⟩ := h0.own i hi
    rw [hy] at hy'
    simp only [Option.some.injEq] at hy'
    subst hy'
    exact (owns_lt ho b hb).2
  have hzl := owns_lt hz
  refine ⟨⟨(hrow2.keep (hp.grown.block n0 (by omega) (fun e => hvne e.symm))).set_ 0 v', ?_, fun i hi => ?_, fun i j y y' hy hy' hne b hb => ?_, fun b hb => ?_, h0.no0, h0.lo, fun k hk => by have := h0.hi k hk; rw [hsz]; omega, ?_⟩, ⟨by rw [hsz]; omega, fun k hk hS => ?_⟩⟩
  · refine ownsRow_keep1 (w := A3) ?_ fun b hb => heap_set_ne _ _ _ _ _ (fun e => hv'0 (by rw [hb, e]))
    rw [List.length_append]
    exact hp.own
  · by_cases hil : i < s.length
    · obtain ⟨y, hy, ho, hn⟩ := h0.own i hil
      refine ⟨y, by rw [List.getElem?_append_left (by omega)]; exact hy, ?_, hn⟩
      rw [List.getElem_append_left hil]
      refine ownsRow_keep1 ho fun b hb => ?_
      have hbl := (owns_lt ho b hb).2
      have hb2 : A2.heap[b]? = A0.heap[b]? := (hA2.block b (by omega)).trans (hbel.block b hbl)
      have ho2 : A2.ownsRow n0 3 1 y s[i].length (s[i].map (Value.int .i64)) := ownsRow_keep1 ho fun b' hb' => by
        have := (owns_lt ho b' hb').2
        exact (hA2.block b' (by omega)).trans (hbel.block b' this)
      exact (hkeep b (by omega) (owns_ne_owns ho2 hout2 (by decide) b hb) (fun e => owns_ne_row ho2 hrow2 (by decide) (by rw [hb, e]))).trans hb2
    · obtain rfl : i = s.length := by simp at hi; omega
      refine ⟨x, by rw [List.getElem?_append_right (by omega)]; simp [hxl], ?_, fun b hb => ⟨(hzo b hb).2.1, by have := (hzo b hb).1; omega⟩⟩
      have e : (s ++ [zs])[s.length] = zs := by simp
      rw [e]
      refine ownsRow_keep1 (w := A) ?_ fun b hb => ?_
      · obtain ⟨z1, z2 | ⟨g, cap, cur, rfl, _, r⟩⟩ := hz
        · exact ⟨z1, .inl z2⟩
        · exact ⟨z1, .inr ⟨g, cap, cur, rfl, by have := (hzo g rfl).1; omega, r⟩⟩
      · have hbA := (hzo b hb).1
        have hbl := (hzl b hb).2
        exact (hkeep b (by omega) (fun e => by have := (hvl b e).2; omega) (by omega)).trans (hA2.block b hbl)
  · by_cases h1 : i < xs.length
    · rw [List.getElem?_append_left h1] at hy
      by_cases h2 : j < xs.length
      · rw [List.getElem?_append_left h2] at hy'
        exact h0.ne i j y y' hy hy' hne b hb
      · rw [List.getElem?_append_right (by omega)] at hy'
        have hj : j - xs.length = 0 := by have := (List.getElem?_eq_some_iff.1 hy').1; simp at this; omega
        rw [hj] at hy'
        simp only [List.getElem?_cons_zero, Option.some.injEq] at hy'
        subst hy'
        intro e
        have := hxs i y hy b hb
        have := (hzo b e).1
        omega
    · rw [List.getElem?_append_right (by omega)] at hy
      have hi : i - xs.length = 0 := by have := (List.getElem?_eq_some_iff.1 hy).1; simp at this; omega
      rw [hi] at hy
      simp only [List.getElem?_cons_zero, Option.some.injEq] at hy
      subst hy
      have h2 : j < xs.length := by
        rcases Nat.lt_or_ge j xs.length with h | h
        · exact h
        · rw [List.getElem?_append_right h] at hy'
          have := (List.getElem?_eq_some_iff.1 hy').1
          simp at this
          omega
      rw [List.getElem?_append_left h2] at hy'
      intro e
      have := hxs j y' hy' b e
      have := (hzo b hb).1
      omega
  · rcases hv' b hb with h | h
    · exact h0.no b h
    · exact ⟨fun hO => by have := h0.hi b hO; omega, by omega, by omega⟩
  · have hb2 : Below n0 w1 A2 := (h0.below.trans (hbel.mono (by omega))).trans (hA2.mono (by omega))
    exact (hb2.grown hp.grown (by omega) (fun k hk => (hvl k hk).1)).setCell (Nat.le_refl _) _
  · refine (hkeep k (by omega) (fun e => ?_) (fun e => ?_)).trans (hA2.block k hk)
    · rcases hS with h | h | h | h
      · exact (h0.no k e).1 h
      · have := (hvl k e).1; omega
      · exact (h0.no k e).2.1 h
      · exact (h0.no k e).2.2 h
    · subst e
      rcases hS with h | h | h | h
      · exact h0.no0 h
      · omega
      · omega
      · omega
end

/-- What Collect hands over. -/
def SSOut (w : World) (base : Nat) (v : Value) (zss : List (List Int)) : Prop :=
  ∃ (g : Nat) (gs : Nat → Nat) (xs : List Value), OwnSS w g gs v zss.length (fun i => zss.getD i []) xs ∧ (0 < zss.length → base ≤ g ∧ g < w.heap.size) ∧ ∀ i, i < zss.length → 0 < (zss.getD i []).length → base ≤ gs i ∧ gs i < w.heap.size
theorem CIn.owned {n0 d : Nat} {w1 A : World} {s : List (List Int)} {O : Nat → Prop} {v : Value} {xs : List Value} (h : CIn n0 d w1 s O A v xs) : SSOut A n0 v s := by
  obtain ⟨h1, h2⟩ := slAt_of_owns h.out
  have hxl := h.out.1
  have hgd : ∀ i, ∀ (hi : i < s.length), s.getD i [] = s[i] := fun i hi => by rw [List.getD_eq_getElem?_getD, List.getElem?_eq_getElem hi]; rfl
  refine ⟨v.ownBlock.getD 0, fun i => ((xs.getD i undef).ownBlock).getD 0, xs, ⟨h1, fun i hi => ?_, fun i j hi hj hne h3 h4 e => ?_⟩, fun h0 => (h2 h0).2, fun i hi h0 => ?_⟩
  · obtain ⟨x, hx, ho, _⟩ := h.own i hi
    have e : xs.getD i undef = x := by rw [List.getD_eq_getElem?_getD, hx]; rfl
    rw [hgd i hi, e]
    exact ⟨x, hx, by
      have := (slAt_of_owns ho).1
      exact this⟩
  · obtain ⟨x, hx, ho, _⟩ := h.own i hi
    obtain ⟨y, hy, ho', _⟩ := h.own j hj
    rw [hgd i hi] at h3
    rw [hgd j hj] at h4
    have ex : xs.getD i undef = x := by rw [List.getD_eq_getElem?_getD, hx]; rfl
    have ey : xs.getD j undef = y := by rw [List.getD_eq_getElem?_getD, hy]; rfl
    rw [ex, ey] at e
    have b1 := ((slAt_of_owns ho).2 h3).1
    have b2 := ((slAt_of_owns ho').2 h4).1
    rw [← e] at b2
    exact h.ne i j x y hx hy hne _ b1 b2
  · obtain ⟨x, hx, ho, _⟩ := h.own i hi
    have ex : xs.getD i undef = x := by rw [List.getD_eq_getElem?_getD, hx]; rfl
    rw [hgd i hi] at h0
    show n0 ≤ ((xs.getD i undef).ownBlock).getD 0 ∧ ((xs.getD i undef).ownBlock).getD 0 < A.heap.size
    rw [ex]
    exact ((slAt_of_owns ho).2 h0).2
end Go.Proofs.Ytabipfomcldkiaa

