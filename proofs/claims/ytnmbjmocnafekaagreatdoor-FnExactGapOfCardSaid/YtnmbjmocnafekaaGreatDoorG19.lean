/-
  A range over the program's iterator over ways, from the side of the loop: what its own body keeps is enough.
  The contracts of the program's ways, as an iterator, and of leads.
  The contracts of ShortestWay, the program's and the model's.
  The functions of a name and a number of arguments; plain data only.
  Which functions are applicable to types, and what their arguments cost; plain data only.
  What it is that a function is below another one; plain data only.
  The applicable functions below which no other one is; plain data only.
-/
import Derived.Test.YtnmbjmocnafekaaGreatDoorG18
import Derived.RangeFuncLeaves
import Derived.RangeFuncBound
import Derived.RangeFuncNested
import Derived.Test.YtnmbjmocnafekaaGreatDoorG17
import Derived.BigQuiet
import Derived.Test.YtnmbjmocnafekaaGreatDoorG10
import Derived.Maps.Views
namespace Go.Proofs.YtnmbjmocnafekaaGreatDoor
open Go.RowKit

theorem puts_keep {A : World} {l k : Nat} {o' : Obj} (h : k ≠ l) : (A.putObj l o').heap[k]? = A.heap[k]? := World.putObj_heap_other h
theorem owns_put {A : World} {base n : Nat} {e : TypeId} {v : Value} {xs : List Value} {l : Nat} {o' : Obj} (h : A.ownsRow base e 1 v n xs) (hlo : ∃ lp, A.heap[l]? = some (.loop lp)) : (A.putObj l o').ownsRow base e 1 v n xs := by
  refine ownsRow_keep1 h fun g hg => puts_keep fun e2 => ?_
  subst e2
  obtain ⟨lp, hlp⟩ := hlo
  obtain ⟨_, ⟨rfl, _⟩ | ⟨g', cap, cur, rfl, hb, hh, _⟩⟩ := h
  · simp [Value.ownBlock] at hg
  · simp only [Value.ownBlock, Option.some.injEq] at hg
    subst hg
    rw [hlp] at hh
    cases hh

theorem owns_no {A : World} {base n b : Nat} {e : TypeId} {v : Value} {xs : List Value} {o : Obj} (h : A.ownsRow base e 1 v n xs) (hv : v.ownBlock = some b) (ho : A.heap[b]? = some o) (hn : ∀ c t f, o ≠ .cells c t f) : False := by
  obtain ⟨_, ⟨rfl, _⟩ | ⟨g', cap, cur, rfl, hb, hh, _⟩⟩ := h
  · simp [Value.ownBlock] at hv
  · simp only [Value.ownBlock, Option.some.injEq] at hv
    subst hv
    rw [hh] at ho
    simp only [Option.some.injEq] at ho
    exact hn _ _ _ ho.symm

theorem below_put {A0 A : World} {l : Nat} {o' : Obj} (h : Below A0.heap.size A0 A) (hl : l < A0.heap.size) : Below (A0.putObj l o').heap.size (A0.putObj l o') (A.putObj l o') := by
  have hs := h.size
  refine ⟨h.os, h.tape, h.output, by simpa using hs, fun k hk => ?_⟩
  have hk2 : k < A0.heap.size := by simpa using hk
  by_cases e : k = l
  · subst e
    rw [World.putObj_heap_same (by omega), World.putObj_heap_same hl]
  · exact (puts_keep e).trans ((h.block k hk2).trans (puts_keep e).symm)

/-- What the body of a round must leave. -/
def bodyEnds (T : Nat → Prop) (d : Nat) (I : List (List Int) → (Nat → Prop) → World → Prop) (Ix : Code → List (List Int) → World → Prop) (s : List (List Int)) (O : Nat → Prop) (A : World) : Exit → Act → World → Prop
  | .normal, _, C => HoldsOn (fun k => O k ∨ T k ∨ k = d ∨ k = d + 1) A C ∧ I s O C
  | .exit id, _, C => HoldsOn (fun k => k = d ∨ k = d + 1) A C ∧ Ix (.exit id) s C
  | _, _, _ => False

theorem range_law {n : Nat} {Q : Exit → Act → World → Prop} {a : Act} {w : World} {g : Operand} {p : Tmp} {assign body : Code} (a₁ : Value → Act)
    (hassign : ∀ (l : Nat) (v : Value) (W : World) (m : Nat) (K : Act → World → Prop), K (a₁ v) W → assign.wpIn (Fence.wide.inRound l) m Tryz.prog (Exit.then K (fun _ _ _ => False)) { tmps := a.tmps.setIfInBounds p v, defers := [] } W)
    {gf : Nat} {lb : Array Value} (hg : a.eval g = .func (.func gf) #[] lb)
    (eg : ∀ args w, (callFunc gf args).run Tryz.prog w = .ok (.enter gf args) w) (T : Nat → Prop) (hT : ∀ b, T b → b < w.heap.size) (ways : List (List Int))
    (I : List (List Int) → (Nat → Prop) → World → Prop) (Ix : Code → List (List Int) → World → Prop)
    (hIstep : ∀ s O A C row, I s O A → A.grownBy C row → (∀ r, row = some r → O r) → I s (fun k => O k ∨ (A.heap.size ≤ k ∧ k < C.heap.size)) C)
    (hIgive : ∀ s O O' A, I s O A → (∀ k, O' k → O k) → I s O' A)
    (hIput : ∀ s O A k o', I s O A → w.heap.size ≤ k → k ≤ w.heap.size + 1 → I s O (A.putObj k o'))
    (hIxput : ∀ c s A k o', Ix c s A → w.heap.size ≤ k → k ≤ w.heap.size + 1 → Ix c s (A.putObj k o'))
    (hiter : ∀ l J Jx W1, Client l T (fun z => z ∈ ways) J Jx → Below w.heap.size w W1 → J [] (fun _ => False) W1 →
      Calls Tryz.prog gf (#[.func (.yield l) #[] #[]] ++ lb) W1 fun e W' => (∃ v, e = .returned v) ∧ ((∃ O', J ways O' W') ∨ (0 < ways.length ∧ ∃ s' O', Jx s' O' W')))
    (h0 : ∀ W1, Below w.heap.size w W1 → I [] (fun _ => False) W1)
    (hbody : ∀ l s v zs O A0 A m, zs ∈ ways → I s O A0 → s.length < 40000 → Below A0.heap.size A0 A → A.ownsRow 0 3 1 v zs.length (zs.map (Value.int .i64)) → (∀ b, v.ownBlock = some b → A0.heap.size ≤ b ∧ ¬ O b ∧ ¬ T b) → (∀ z ∈ zs, I64 z) → w.heap.size + 1 < A0.heap.size →
      body.wpIn (Fence.wide.inRound l) m Tryz.prog (bodyEnds T w.heap.size I Ix (s ++ [zs]) O A) (a₁ v) A)
    (hdone : ∀ O' W', I ways O' W' → W'.heap[w.heap.size]? = some (.deferred (some [])) → Q .normal { a with defers := { target := .collected w.heap.size, args := #[] } :: a.defers } W')
    (hstop : ∀ c s' W', 0 < ways.length → Ix c s' W' → W'.heap[w.heap.size]? = some (.deferred (some [])) → c.wpIn Fence.wide n Tryz.prog Q { a with defers := { target := .collected w.heap.size, args := #[] } :: a.defers } W') :
    (Code.rangeFunc g #[p] assign body).wpIn Fence.wide n Tryz.prog Q a w := by
  have hdd : Fence.wide.depth.isSome = true → 1 ≤ n := fun h => by simp [Fence.wide] at h
  refine wpIn_rangeFunc fun fn _ => ?_
  obtain ⟨W1, hW1⟩ : ∃ W1, W1 = (w.alloc (.deferred (some []))).alloc (.loop { state := .ready, pending := none, fn, tmps := a.tmps, params := #[p], assign, body, defers := w.heap.size }) := ⟨_, rfl⟩
  have hb1 : Below w.heap.size w W1 := by rw [hW1]; exact ((Below.refl _ _).alloc (Nat.le_refl _) _).alloc (by simp) _
  have hs1 : W1.heap.size = w.heap.size + 2 := by rw [hW1, World.size_alloc, World.size_alloc]
  have hl1 : W1.heap[w.heap.size + 1]? = some (.loop { state := .ready, pending := none, fn, tmps := a.tmps, params := #[p], assign, body, defers := w.heap.size }) := by
    rw [hW1]
    have := World.alloc_heap_new (w.alloc (.deferred (some []))) (.loop { state := .ready, pending := none, fn, tmps := a.tmps, params := #[p], assign, body, defers := w.heap.size })
    rwa [World.size_alloc] at this
  have hd1 : W1.heap[w.heap.size]? = some (.deferred (some [])) := by rw [hW1]; exact (Below.heap_alloc _ _ _ (by simp)).trans (World.alloc_heap_new w _)
  -- the client: the loop's own invariant, and the loop's record
  have hclient : Client (w.heap.size + 1) T (fun z => z ∈ ways)
      (fun s O A => I s O A ∧ A.heap[w.heap.size + 1]? = some (.loop { state := .ready, pending := none, fn, tmps := a.tmps, params := #[p], assign, body, defers := w.heap.size }) ∧ A.heap[w.heap.size]? = some (.deferred (some [])) ∧ ¬ O w.heap.size ∧ ¬ O (w.heap.size + 1))
      (fun s _ A => ∃ c, Ix c s A ∧ A.heap[w.heap.size + 1]? = some (.loop { state := .done, pending := some c, fn, tmps := a.tmps, params := #[p], assign, body, defers := w.heap.size }) ∧ A.heap[w.heap.size]? = some (.deferred (some []))) := by
    refine ⟨?_, ?_, ?_⟩
    · rintro s O A C row ⟨hi, hl, hd, n0, n1⟩ hgr hrow
      have hla := (Array.getElem?_eq_some_iff.1 hl).1
      exact ⟨hIstep s O A C row hi hgr hrow, (hgr.block _ hla (fun e => n1 (hrow _ e.symm))).trans hl, (hgr.block _ (by omega) (fun e => n0 (hrow _ e.symm))).trans hd, fun h => h.elim n0 (fun h => by omega), fun h => h.elim n1 (fun h => by omega)⟩
    · rintro s O O' A ⟨hi, hl, hd, n0, n1⟩ hsub
      exact ⟨hIgive s O O' A hi hsub, hl, hd, fun h => n0 (hsub _ h), fun h => n1 (hsub _ h)⟩
    · rintro s v zs O A0 A hzw0 ⟨hi, hl0, hd0, n0, n1⟩ hlen hbel hz hzo hzw m
      have hla0 := (Array.getElem?_eq_some_iff.1 hl0).1
      have hl := (hbel.block _ hla0).trans hl0
      have hd := (hbel.block w.heap.size (by omega)).trans hd0
      have hla := (Array.getElem?_eq_some_iff.1 hl).1
      have etmps : ((#[p] : Array Tmp).zip #[v]).foldl (fun tmps (x : Tmp × Value) => tmps.setIfInBounds x.1 x.2) a.tmps = a.tmps.setIfInBounds p v := by simp
      refine ⟨fn, _, assign, body, run_yield (args := #[v]) hl rfl, roundIn_of_wpIn trivial ?_⟩
      dsimp only
      rw [etmps]
      refine hassign _ v A m _ ⟨_, run_beginRound hl rfl, ?_⟩
      have hI2 := hIput s O A0 (w.heap.size + 1) (.loop { state := .busy, pending := none, fn, tmps := a.tmps, params := #[p], assign, body, defers := w.heap.size }) hi (by omega) (Nat.le_refl _)
      have hz2 := owns_put (o' := .loop { state := .busy, pending := none, fn, tmps := a.tmps, params := #[p], assign, body, defers := w.heap.size }) hz ⟨_, hl⟩
      have hsz : (A.putObj (w.heap.size + 1) (.loop { state := .busy, pending := none, fn, tmps := a.tmps, params := #[p], assign, body, defers := w.heap.size })).heap.size = A.heap.size := by simp
      have hl2 : (A.putObj (w.heap.size + 1) (.loop { state := .busy, pending := none, fn, tmps := a.tmps, params := #[p], assign, body, defers := w.heap.size })).heap[w.heap.size + 1]? = some (.loop { state := .busy, pending := none, fn, tmps := a.tmps, params := #[p], assign, body, defers := w.heap.size }) := World.putObj_heap_same hla
      have hd2 := (puts_keep (A := A) (l := w.heap.size + 1) (k := w.heap.size) (o' := .loop { state := .busy, pending := none, fn, tmps := a.tmps, params := #[p], assign, body, defers := w.heap.size }) (by omega)).trans hd
      have hb2 := below_put (l := w.heap.size + 1) (o' := .loop { state := .busy, pending := none, fn, tmps := a.tmps, params := #[p], assign, body, defers := w.heap.size }) hbel hla0
      refine wpIn_mono (hbody (w.heap.size + 1) s v zs O _ _ m hzw0 hI2 hlen hb2 hz2 (fun b hb => ⟨by rw [show (A0.putObj (w.heap.size + 1) (.loop { state := .busy, pending := none, fn, tmps := a.tmps, params := #[p], assign, body, defers := w.heap.size })).heap.size = A0.heap.size by simp]; exact (hzo b hb).1, (hzo b hb).2⟩) hzw (by simp; exact hla0)) ?_
      intro e a3 C hp
      cases e with
      | normal =>
        obtain ⟨hh, hi3⟩ := hp
        have hl3 := (hh.2 (w.heap.size + 1) (by rw [hsz]; exact hla) (.inr (.inr (.inr rfl)))).trans hl2
        have hd3 := (hh.2 w.heap.size (by rw [hsz]; omega) (.inr (.inr (.inl rfl)))).trans hd2
        have hlc := (Array.getElem?_eq_some_iff.1 hl3).1
        refine ⟨_, _, run_endRound none hl3, .inl ⟨rfl, ⟨hIput _ _ _ _ _ hi3 (by omega) (Nat.le_refl _), World.putObj_heap_same hlc, (puts_keep (by omega)).trans hd3, n0, n1⟩, ⟨by have := hh.1; rw [hsz] at this; simpa using this, fun k hk hS => ?_⟩⟩⟩
        have hne : k ≠ w.heap.size + 1 := by
          rcases hS with h | h
          · intro e; exact n1 (e ▸ h)
          · have := hT k h; omega
        exact (puts_keep hne).trans ((hh.2 k (by rw [hsz]; exact hk) (hS.elim .inl (fun h => .inr (.inl h)))).trans (puts_keep hne))
      | exit id =>
        obtain ⟨hh, hi3⟩ := hp
        have hl3 := (hh.2 (w.heap.size + 1) (by rw [hsz]; exact hla) (.inr rfl)).trans hl2
        have hd3 := (hh.2 w.heap.size (by rw [hsz]; omega) (.inl rfl)).trans hd2
        have hlc := (Array.getElem?_eq_some_iff.1 hl3).1
        exact ⟨_, _, run_endRound (some (.exit id)) hl3, .inr ⟨rfl, .exit id, hIxput _ _ _ _ _ hi3 (by omega) (Nat.le_refl _), World.putObj_heap_same hlc, (puts_keep (by omega)).trans hd3⟩⟩
      | ret => exact hp.elim
      | goto t => exact hp.elim
      | panic ch => exact hp.elim
      | outgrown => exact hp.elim
  refine ⟨w.heap.size + 1, [{ target := .collected w.heap.size, args := #[] }], W1, { target := .fn (.func gf) lb, args := #[.func (.yield (w.heap.size + 1)) #[] #[]] }, W1, gf, #[.func (.yield (w.heap.size + 1)) #[] #[]] ++ lb, W1, ?_, ?_, fun _ _ => trivial, ?_, hdd, ?_⟩
  · rw [hW1]; exact run_enterLoop_outer _ _ _ _ _
  · simp only [resolve, hg]
    simp [go_sem]
  · simp [invoke, go_sem, eg]
  · refine (callsIn_wide.2 (hiter _ _ _ W1 hclient hb1 ⟨h0 W1 hb1, hl1, hd1, fun h => h, fun h => h⟩)).mono ?_
    rintro e W2 ⟨⟨v, rfl⟩, ⟨O', hi, hl, hd, _⟩ | ⟨hpos, s', O', c, hi, hl, hd⟩⟩
    · exact ⟨none, _, run_endLoop hl (by simp), hdone O' _ (hIput _ _ _ _ _ hi (by omega) (Nat.le_refl _)) ((puts_keep (by omega)).trans hd)⟩
    · exact ⟨some c, _, run_endLoop hl (by simp), hstop c s' _ hpos (hIxput _ _ _ _ _ hi (by omega) (Nat.le_refl _)) ((puts_keep (by omega)).trans hd)⟩
end Go.Proofs.YtnmbjmocnafekaaGreatDoor

namespace Go.Proofs.YtnmbjmocnafekaaGreatDoor
open Go.RowKit
attribute [local go_sem] Oper.semAt_some

set_option maxRecDepth 100000 in
set_option maxHeartbeats 1000000 in
theorem ways_any (g : Nat) (a b : Int) (w : World) :
    Calls Tryz.prog 135 #[.pointer (some ⟨g, 0, none⟩), .int .i64 a, .int .i64 b] w fun e w' => e = .returned (.func (.func 158) #[] #[.pointer (some ⟨w.heap.size, 0, none⟩), .pointer (some ⟨w.heap.size + 1, 0, none⟩), .pointer (some ⟨w.heap.size + 2, 0, none⟩)]) ∧
      ((w.alloc (.cells #[.pointer (some ⟨g, 0, none⟩)] 96)).alloc (.cells #[.int .i64 a] 3)).alloc (.cells #[.int .i64 b] 3) = w' := by
  have hmf : ∀ (fn : Fn) (first cap : Array Value) (w : World), (Instr.makeFunc fn first cap).run Tryz.prog w = .ok (.func fn first cap) w := fun _ _ _ _ => rfl
  go_enter Tryz.func135, Tryz.ntmps135
  go_wp2
  go_ret
  exact ⟨rfl, rfl⟩

set_option maxRecDepth 100000 in
set_option maxHeartbeats 1000000 in
theorem waysIter_any (l g p3 p4 p5 : Nat) (T : Nat → Prop) (J Jx : List (List Int) → (Nat → Prop) → World → Prop) (t : Ty) (a b : Int) (hC : Client l T (fun z => z ∈ waysOf t a b) J Jx) (lo hi : Nat) (sv cv : Value) (w : World) (htb : typesB t a b = true) (hg : T g) (hTy : ∀ k, lo ≤ k → k < hi → T k) (hT : ∀ k, T k → k < w.heap.size)
    (hrow : Row w g 159 [sv, cv]) (hv : TyAt w lo hi sv cv t) (c3 : w.cell? ⟨p3, 0, none⟩ = some (.pointer (some ⟨g, 0, none⟩))) (c4 : w.cell? ⟨p4, 0, none⟩ = some (.int .i64 a)) (c5 : w.cell? ⟨p5, 0, none⟩ = some (.int .i64 b)) (hJ : J [] (fun _ => False) w) :
    Calls Tryz.prog 158 #[.func (.yield l) #[] #[], .pointer (some ⟨p3, 0, none⟩), .pointer (some ⟨p4, 0, none⟩), .pointer (some ⟨p5, 0, none⟩)] w fun e W' =>
      (∃ v, e = .returned v) ∧ ((∃ O', J (waysOf t a b) O' W') ∨ (0 < (waysOf t a b).length ∧ ∃ s' O', Jx s' O' W')) := by
  obtain ⟨hok, ha0, ha1, hb0, hb1⟩ := typesB_of htb
  have h5 := typesB_len hok
  have hwl : (waysF t.cos 5 a b).length ≤ 32768 := waysOf_len hok a b
  have hgo := goOn_any l w.heap.size g T _ J Jx hC lo hi sv cv t b hok hg hTy 5 a [] (.slice none 0 0) [] (fun _ => False) w (fun y hy => hy) hJ (World.ownsRow_nil _ _ _ _) (fun _ h => h.elim) (fun b h => by simp [Value.ownBlock] at h) hT (fun _ _ h => h) (fun z h => absurd h (by simp)) (by simp) hrow hv ha0 ha1 (by omega) (by simp; omega) (Nat.le_refl _)
  have Hgo := Lib.hid hgo
  clear hC hTy hT hrow hv hJ hgo htb hg
  go_enter Tryz.func158, Tryz.ntmps158
  go_wp2_with fail
  refine Hgo.out.mono ?_
  rintro e w7 ⟨bv, rfl, h⟩
  have hfin : (∃ O', J (waysOf t a b) O' w7) ∨ (0 < (waysOf t a b).length ∧ ∃ s' O', Jx s' O' w7) := by
    rcases h with ⟨_, O', _, _, h3, _⟩ | ⟨_, h1, s', O', h2⟩
    · refine .inl ⟨O', ?_⟩
      have e : ([] : List (List Int)) ++ (waysF t.cos 5 a b).map (([] : List Int) ++ ·) = waysOf t a b := by
        simp only [List.nil_append]
        exact List.map_id' _
      rw [← e]
      exact h3
    · exact .inr ⟨h1, s', O', h2⟩
  have Hfin := Lib.hid hfin
  clear h hfin Hgo
  go_wp2
  go_end0
  exact ⟨⟨_, rfl⟩, Hfin.out⟩

end Go.Proofs.YtnmbjmocnafekaaGreatDoor

namespace Go.Proofs.YtnmbjmocnafekaaGreatDoor
open Go.RowKit
attribute [local go_sem] Oper.semAt_some

/-- The first one of the shortest. -/
def pickS : Option (List Int) → List Int → Option (List Int)
  | none, z => some z
  | some y, z => if z.length < y.length then some z else some y
def shortO (s : List (List Int)) : Option (List Int) := s.foldl pickS none
theorem shortO_nil : shortO [] = none := rfl
theorem shortO_snoc (s : List (List Int)) (z : List Int) : shortO (s ++ [z]) = pickS (shortO s) z := by simp [shortO, List.foldl_append]
theorem pickS_some (y z : List Int) : ∃ x, pickS (some y) z = some x ∧ (x = y ∨ x = z) := by
  by_cases h : z.length < y.length
  · exact ⟨z, by simp [pickS, h], .inr rfl⟩
  · exact ⟨y, by simp [pickS, h], .inl rfl⟩
theorem foldS (s : List (List Int)) : ∀ y, ∃ x, s.foldl pickS (some y) = some x ∧ (x = y ∨ x ∈ s) := by
  induction s with
  | nil => intro y; exact ⟨y, rfl, .inl rfl⟩
  | cons z s ih =>
    intro y
    obtain ⟨u, hu, hor⟩ := pickS_some y z
    obtain ⟨x, hx, hor2⟩ := ih u
    refine ⟨x, by rw [List.foldl_cons, hu]; exact hx, ?_⟩
    rcases hor2 with rfl | h
    · rcases hor with rfl | rfl
      · exact .inl rfl
      · exact .inr (by simp)
    · exact .inr (List.mem_cons_of_mem _ h)
theorem shortO_some (s : List (List Int)) (hs : s ≠ []) : ∃ y, shortO s = some y := by
  cases s with
  | nil => exact absurd rfl hs
  | cons z s =>
    obtain ⟨x, hx, _⟩ := foldS s z
    exact ⟨x, hx⟩
theorem shortO_mem (s : List (List Int)) (y : List Int) (h : shortO s = some y) : y ∈ s := by
  cases s with
  | nil => cases h
  | cons z s =>
    obtain ⟨x, hx, hor⟩ := foldS s z
    have h2 : s.foldl pickS (some z) = some y := h
    rw [hx] at h2
    simp only [Option.some.injEq] at h2
    subst h2
    rcases hor with rfl | h
    · simp
    · exact List.mem_cons_of_mem _ h
def shortV (t : Ty) (a b : Int) : List Int := if typesB t a b = true then (shortO (waysOf t a b)).getD [] else []
theorem shortV_yes {t : Ty} {a b : Int} (h : typesB t a b = true) : shortV t a b = (shortO (waysOf t a b)).getD [] := by unfold shortV; rw [if_pos h]
theorem shortV_no {t : Ty} {a b : Int} (h : typesB t a b = false) : shortV t a b = [] := by unfold shortV; rw [if_neg (by simp [h])]
theorem short_wf {t : Ty} (h : tyOk t = true) (a b : Int) (y : List Int) (hy : y ∈ waysOf t a b) : (∀ z ∈ y, I64 z) ∧ y.length ≤ 5 :=
  ⟨waysF_wf (tyOk_few h) 5 a b y hy, by have := waysF_short 5 a b y hy; omega⟩
theorem shortV_wf (t : Ty) (a b : Int) : (∀ z ∈ shortV t a b, I64 z) ∧ (shortV t a b).length ≤ 5 := by
  by_cases h : typesB t a b = true
  · rw [shortV_yes h]
    cases hs : shortO (waysOf t a b) with
    | none => exact ⟨fun z hz => absurd hz (by simp), by simp⟩
    | some y => exact short_wf (typesB_of h).1 a b y (shortO_mem _ y hs)
  · rw [shortV_no (by simpa using h)]
    exact ⟨fun z hz => absurd hz (by simp), by simp⟩

end Go.Proofs.YtnmbjmocnafekaaGreatDoor

namespace Go.Proofs.YtnmbjmocnafekaaGreatDoor
open Go.RowKit Go.Maps

open Classical in
/-- The indices, below j, of the functions with a name and a number of arguments. -/
noncomputable def nmT (fs : List Fu) (nm : ByteArray) (a : Int) (j : Nat) : List Int := ((List.range j).filter fun i => decide ((fs.getD i default).name = nm ∧ ((fs.getD i default).args.length : Int) = a)).map fun i : Nat => (i : Int)
theorem nmT_hit {fs : List Fu} {nm : ByteArray} {a : Int} {j : Nat} (h : (fs.getD j default).name = nm ∧ ((fs.getD j default).args.length : Int) = a) : nmT fs nm a (j + 1) = nmT fs nm a j ++ [(j : Int)] := by
  unfold nmT
  rw [List.range_succ, List.filter_append, List.map_append]
  rw [List.getD_eq_getElem?_getD] at h
  simp [h.1, h.2]
theorem nmT_miss {fs : List Fu} {nm : ByteArray} {a : Int} {j : Nat} (h : ¬ ((fs.getD j default).name = nm ∧ ((fs.getD j default).args.length : Int) = a)) : nmT fs nm a (j + 1) = nmT fs nm a j := by
  unfold nmT
  rw [List.range_succ, List.filter_append, List.map_append]
  rw [List.getD_eq_getElem?_getD] at h
  have e : decide ((fs[j]?.getD default).name = nm ∧ ((fs[j]?.getD default).args.length : Int) = a) = false := decide_eq_false h
  simp only [List.getD_eq_getElem?_getD, List.filter_cons, List.filter_nil, e]
  simp
theorem nmT_le (fs : List Fu) (nm : ByteArray) (a : Int) (j : Nat) : (nmT fs nm a j).length ≤ j := by
  unfold nmT
  rw [List.length_map]
  exact Nat.le_trans (List.length_filter_le _ _) (by simp)
theorem nmT_wf (fs : List Fu) (nm : ByteArray) (a : Int) (j : Nat) (hj : j ≤ 1048576) : ∀ z ∈ nmT fs nm a j, I64 z := by
  intro z hz
  unfold nmT at hz
  obtain ⟨i, hi, rfl⟩ := List.mem_map.1 hz
  have := List.mem_range.1 (List.mem_filter.1 hi).1
  unfold I64
  omega
/-- What NamedOf returns. -/
noncomputable def namedV (y : Sy) (nm : ByteArray) (a : Int) : List Int := if syB y = true then nmT y.fs nm a y.fs.length else []
noncomputable def accN (y : Sy) (nm : ByteArray) (a : Int) (j : Nat) : List Int := if syB y = true then nmT y.fs nm a j else []
theorem accN_le (y : Sy) (nm : ByteArray) (a : Int) (j : Nat) : (accN y nm a j).length ≤ j := by
  unfold accN
  split
  · exact nmT_le _ _ _ _
  · simp
theorem namedV_le (y : Sy) (nm : ByteArray) (a : Int) : (namedV y nm a).length ≤ y.fs.length := by
  unfold namedV
  split
  · exact nmT_le _ _ _ _
  · simp
theorem namedV_wf (y : Sy) (nm : ByteArray) (a : Int) (hb : y.bulk ≤ 1048576) : ∀ z ∈ namedV y nm a, I64 z := by
  unfold namedV
  split
  · exact nmT_wf _ _ _ _ (by unfold Sy.bulk at hb; omega)
  · intro z hz; exact absurd hz (by simp)

/-- Those of some functions that have a number of arguments. -/
def withA (fs : List Fu) (a : Int) (zs : List Int) : List Int := zs.filter fun z => decide (((fs.getD z.toNat default).args.length : Int) = a)
theorem withA_hit {fs : List Fu} {a : Int} {zs : List Int} {j : Nat} (hj : j < zs.length) (h : ((fs.getD zs[j].toNat default).args.length : Int) = a) : withA fs a (zs.take (j + 1)) = withA fs a (zs.take j) ++ [zs[j]] := by
  unfold withA
  rw [List.take_succ_eq_append_getElem hj, List.filter_append]
  congr 1
  simp only [List.filter_cons, List.filter_nil, decide_eq_true h, if_true]
theorem withA_miss {fs : List Fu} {a : Int} {zs : List Int} {j : Nat} (hj : j < zs.length) (h : ¬ ((fs.getD zs[j].toNat default).args.length : Int) = a) : withA fs a (zs.take (j + 1)) = withA fs a (zs.take j) := by
  unfold withA
  rw [List.take_succ_eq_append_getElem hj, List.filter_append]
  have e : [zs[j]].filter (fun z => decide (((fs.getD z.toNat default).args.length : Int) = a)) = [] := by
    simp only [List.filter_cons, List.filter_nil, decide_eq_false h]
    simp
  rw [e, List.append_nil]
theorem withA_le (fs : List Fu) (a : Int) (zs : List Int) : (withA fs a zs).length ≤ zs.length := List.length_filter_le _ _
theorem withA_idxs (fs : List Fu) (nm : ByteArray) (a : Int) (k : Nat) : withA fs a (idxs fs k nm) = nmT fs nm a k := by
  unfold withA idxs nmT
  rw [List.filter_map, List.filter_filter]
  congr 1
  refine List.filter_congr fun i _ => ?_
  simp only [Function.comp, Int.toNat_natCast]
  rw [Bool.eq_iff_iff]
  simp only [Bool.and_eq_true, decide_eq_true_eq]
  exact ⟨fun h => ⟨h.2, h.1⟩, fun h => ⟨h.2, h.1⟩⟩
end Go.Proofs.YtnmbjmocnafekaaGreatDoor

namespace Go.Proofs.YtnmbjmocnafekaaGreatDoor
open Go.RowKit Go.Maps

/-- Each of some types can be coerced to the one in its place. -/
def ApTo (t : Ty) (ks gs : List Int) : Prop := ks.length = gs.length ∧ ∀ j, j < ks.length → canC t (ks.getD j 0) (gs.getD j 0) = true
open Classical in
noncomputable def apToB (t : Ty) (ks gs : List Int) : Bool := decide (ApTo t ks gs)
theorem apToB_iff {t : Ty} {ks gs : List Int} : apToB t ks gs = true ↔ ApTo t ks gs := by unfold apToB; exact @decide_eq_true_iff _ (Classical.propDecidable _)
theorem apToB_yes {t : Ty} {ks gs : List Int} (h : ApTo t ks gs) : apToB t ks gs = true := apToB_iff.2 h
theorem apToB_no {t : Ty} {ks gs : List Int} (h : ¬ ApTo t ks gs) : apToB t ks gs = false := by
  cases e : apToB t ks gs with
  | false => rfl
  | true => exact absurd (apToB_iff.1 e) h

/-- Those of some functions that are applicable. -/
noncomputable def apsIn (y : Sy) (ks zs : List Int) : List Int := zs.filter fun z => apToB y.ty ks (y.fs.getD z.toNat default).args
theorem apsIn_hit {y : Sy} {ks zs : List Int} {j : Nat} (hj : j < zs.length) (h : ApTo y.ty ks (y.fs.getD zs[j].toNat default).args) : apsIn y ks (zs.take (j + 1)) = apsIn y ks (zs.take j) ++ [zs[j]] := by
  unfold apsIn
  rw [List.take_succ_eq_append_getElem hj, List.filter_append]
  congr 1
  simp only [List.filter_cons, List.filter_nil, apToB_yes h, if_true]
theorem apsIn_miss {y : Sy} {ks zs : List Int} {j : Nat} (hj : j < zs.length) (h : ¬ ApTo y.ty ks (y.fs.getD zs[j].toNat default).args) : apsIn y ks (zs.take (j + 1)) = apsIn y ks (zs.take j) := by
  unfold apsIn
  rw [List.take_succ_eq_append_getElem hj, List.filter_append]
  simp only [List.filter_cons, List.filter_nil, apToB_no h]
  simp
theorem apsIn_le (y : Sy) (ks zs : List Int) : (apsIn y ks zs).length ≤ zs.length := List.length_filter_le _ _
theorem apsIn_sub {y : Sy} {ks zs : List Int} {z : Int} (h : z ∈ apsIn y ks zs) : z ∈ zs ∧ ApTo y.ty ks (y.fs.getD z.toNat default).args := by
  unfold apsIn at h
  have h2 := List.mem_filter.1 h
  exact ⟨h2.1, apToB_iff.1 h2.2⟩
theorem apsIn_mem {y : Sy} {ks zs : List Int} {z : Int} (h : z ∈ zs) (ha : ApTo y.ty ks (y.fs.getD z.toNat default).args) : z ∈ apsIn y ks zs := List.mem_filter.2 ⟨h, apToB_yes ha⟩

theorem nmT_mem {fs : List Fu} {nm : ByteArray} {a : Int} {k : Nat} {z : Int} : z ∈ nmT fs nm a k ↔ ∃ i : Nat, i < k ∧ (fs.getD i default).name = nm ∧ ((fs.getD i default).args.length : Int) = a ∧ z = (i : Int) := by
  unfold nmT
  rw [List.mem_map]
  constructor
  · rintro ⟨i, hi, rfl⟩
    obtain ⟨h1, h2⟩ := List.mem_filter.1 hi
    have h3 := of_decide_eq_true h2
    exact ⟨i, List.mem_range.1 h1, h3.1, h3.2, rfl⟩
  · rintro ⟨i, h1, h2, h3, rfl⟩
    exact ⟨i, List.mem_filter.2 ⟨List.mem_range.2 h1, decide_eq_true ⟨h2, h3⟩⟩, rfl⟩
theorem nmT_asc (fs : List Fu) (nm : ByteArray) (a : Int) (k : Nat) : (nmT fs nm a k).Pairwise (· < ·) := by
  unfold nmT
  rw [List.pairwise_map]
  refine List.Pairwise.imp (fun {a b} h => ?_) (List.Pairwise.filter _ (List.pairwise_lt_range (n := k)))
  show (a : Int) < (b : Int)
  omega
theorem namedV_asc (y : Sy) (nm : ByteArray) (a : Int) : (namedV y nm a).Pairwise (· < ·) := by
  unfold namedV
  split
  · exact nmT_asc _ _ _ _
  · exact List.Pairwise.nil
theorem namedV_mem {y : Sy} {nm : ByteArray} {a z : Int} : z ∈ namedV y nm a ↔ SyOk y ∧ ∃ i : Nat, i < y.fs.length ∧ (y.fs.getD i default).name = nm ∧ ((y.fs.getD i default).args.length : Int) = a ∧ z = (i : Int) := by
  unfold namedV
  split
  · rename_i h
    rw [nmT_mem]
    exact ⟨fun h2 => ⟨syB_iff.1 h, h2⟩, fun h2 => h2.2⟩
  · rename_i h
    exact ⟨fun h2 => absurd h2 (by simp), fun h2 => absurd (syB_yes h2.1) h⟩

/-- The functions with a name that are applicable to types. -/
noncomputable def applicV (y : Sy) (nm : ByteArray) (ks : List Int) : List Int := apsIn y ks (namedV y nm (ks.length : Int))
theorem applicV_asc (y : Sy) (nm : ByteArray) (ks : List Int) : (applicV y nm ks).Pairwise (· < ·) := List.Pairwise.filter _ (namedV_asc _ _ _)
theorem applicV_le (y : Sy) (nm : ByteArray) (ks : List Int) : (applicV y nm ks).length ≤ y.fs.length := Nat.le_trans (apsIn_le _ _ _) (namedV_le _ _ _)
theorem applicV_wf (y : Sy) (nm : ByteArray) (ks : List Int) (hb : y.bulk ≤ 1048576) : ∀ z ∈ applicV y nm ks, I64 z := fun z hz => namedV_wf y nm _ hb z (apsIn_sub hz).1
theorem applicV_mem {y : Sy} {nm : ByteArray} {ks : List Int} {z : Int} : z ∈ applicV y nm ks ↔ SyOk y ∧ ∃ i : Nat, i < y.fs.length ∧ (y.fs.getD i default).name = nm ∧ ApTo y.ty ks (y.fs.getD i default).args ∧ z = (i : Int) := by
  constructor
  · intro h
    obtain ⟨h1, h2⟩ := apsIn_sub h
    obtain ⟨hs, i, hi, hn, _, rfl⟩ := namedV_mem.1 h1
    exact ⟨hs, i, hi, hn, by simpa using h2, rfl⟩
  · rintro ⟨hs, i, hi, hn, ha, rfl⟩
    exact apsIn_mem (namedV_mem.2 ⟨hs, i, hi, hn, by rw [ha.1], rfl⟩) (by simpa using ha)
theorem applicV_no {y : Sy} {nm : ByteArray} {ks : List Int} (h : ¬ SyOk y) : applicV y nm ks = [] := by
  rw [List.eq_nil_iff_forall_not_mem]
  exact fun z hz => h (applicV_mem.1 hz).1

/-- How many coercions the first k arguments take, and all. -/
def costTo (t : Ty) (ks gs : List Int) : Nat → Nat
  | 0 => 0
  | k + 1 => costTo t ks gs k + (shortV t (ks.getD k 0) (gs.getD k 0)).length
def costV (t : Ty) (ks gs : List Int) : Int := (costTo t ks gs ks.length : Int)
theorem costTo_le (t : Ty) (ks gs : List Int) : ∀ k, costTo t ks gs k ≤ 5 * k
  | 0 => Nat.le_refl _
  | k + 1 => by
    have h1 := costTo_le t ks gs k
    have h2 := (shortV_wf t (ks.getD k 0) (gs.getD k 0)).2
    show costTo t ks gs k + (shortV t (ks.getD k 0) (gs.getD k 0)).length ≤ 5 * (k + 1)
    omega

/-- The cost of a function of a system. -/
def costOf (y : Sy) (ks : List Int) (z : Int) : Int := costV y.ty ks (y.fs.getD z.toNat default).args
theorem costOf_bd (y : Sy) (ks : List Int) (z : Int) (h : ks.length ≤ 1048576) : 0 ≤ costOf y ks z ∧ costOf y ks z ≤ 5242880 := by
  have := costTo_le y.ty ks (y.fs.getD z.toNat default).args ks.length
  unfold costOf costV
  omega

/-- D holds the costs of the functions of L, and nothing else. -/
structure Cst (y : Sy) (ks L : List Int) (D : DataW Unit) : Prop where
  map : IsMap D
  has : ∀ z, Maps.has D (.int .i64 z) = true ↔ z ∈ L
  at_ : ∀ z ∈ L, D.atKey (.int .i64 z) (.lit (.int .i64 0)) = .lit (.int .i64 (costOf y ks z))
theorem Cst.nil (y : Sy) (ks : List Int) : Cst y ks [] (.map []) := ⟨isMap_empty, fun z => ⟨fun h => (by cases h), fun h => absurd h (by simp)⟩, fun z h => absurd h (by simp)⟩
theorem intKey (z : Int) : WideAt.IsKeyLit (.int .i64 z) := by simp [WideAt.IsKeyLit]
theorem Cst.step {y : Sy} {ks L : List Int} {D : DataW Unit} (h : Cst y ks L D) (z : Int) : Cst y ks (L ++ [z]) (D.put (.int .i64 z) (.lit (.int .i64 (costOf y ks z)))) := by
  refine ⟨h.map.put _ _, fun x => ?_, fun x hx => ?_⟩
  · by_cases e : x = z
    · subst e
      rw [has_put_same h.map (intKey _)]
      simp
    · rw [has_put_other (fun e2 => e (by injection e2)), h.has x]
      simp [e]
  · by_cases e : x = z
    · subst e
      rw [atKey_put_same h.map (intKey _)]
    · rw [atKey_put_other (fun e2 => e (by injection e2))]
      refine h.at_ x ?_
      simpa [e] using hx
theorem Cst.at_no {y : Sy} {ks L : List Int} {D : DataW Unit} (h : Cst y ks L D) {z : Int} (hz : z ∉ L) (zd : DataW Unit) : D.atKey (.int .i64 z) zd = zd := by
  refine atKey_of_not_has ?_ zd
  cases e : Maps.has D (.int .i64 z) with
  | false => rfl
  | true => exact absurd ((h.has z).1 e) hz

/-- The keys, sorted. -/
theorem sort_asc {l : List Int} (h : l.Pairwise (· < ·)) : l.mergeSort (fun x y => decide (x ≤ y)) = l :=
  List.mergeSort_of_pairwise (h.imp fun {a b} h2 => by simp; omega)
end Go.Proofs.YtnmbjmocnafekaaGreatDoor

namespace Go.Proofs.YtnmbjmocnafekaaGreatDoor
open Go.RowKit

theorem if_yes {c : Bool} {A B : Prop} (h : c = true) (ha : A) : if c = true then A else B := by rw [if_pos h]; exact ha

/-- A function of a valid system is below another one. -/
def BelowP (y : Sy) (i k : Int) : Prop := hasFB y i = true ∧ hasFB y k = true ∧ (y.fs.getD i.toNat default).name = (y.fs.getD k.toNat default).name ∧ FitsTo y.ty (y.fs.getD i.toNat default).args (y.fs.getD k.toNat default).args
open Classical in
noncomputable def belowB (y : Sy) (i k : Int) : Bool := decide (BelowP y i k)
theorem belowB_yes {y : Sy} {i k : Int} (h : BelowP y i k) : belowB y i k = true := by unfold belowB; exact @decide_eq_true _ (Classical.propDecidable _) h
theorem belowB_no {y : Sy} {i k : Int} (h : ¬ BelowP y i k) : belowB y i k = false := by unfold belowB; exact @decide_eq_false _ (Classical.propDecidable _) h
theorem belowB_iff {y : Sy} {i k : Int} : belowB y i k = true ↔ BelowP y i k := by unfold belowB; exact @decide_eq_true_iff _ (Classical.propDecidable _)
end Go.Proofs.YtnmbjmocnafekaaGreatDoor

namespace Go.Proofs.YtnmbjmocnafekaaGreatDoor
open Go.RowKit

/-- The types of the arguments of a function. -/
def argsOf (y : Sy) (z : Int) : List Int := (y.fs.getD z.toNat default).args
theorem argsOf_at {y : Sy} {i : Nat} (h : i < y.fs.length) : argsOf y (i : Int) = y.fs[i].args := by unfold argsOf; rw [Int.toNat_natCast, getD_of h]
noncomputable def leastB (y : Sy) (L : List Int) (i : Int) : Bool := L.all fun k => !(decide (k ≠ i) && fitsToB y.ty (argsOf y k) (argsOf y i))
noncomputable def leastT (y : Sy) (L : List Int) (m : Nat) : List Int := (L.take m).filter fun i => leastB y L i
theorem leastT_zero (y : Sy) (L : List Int) : leastT y L 0 = [] := by simp [leastT]
theorem leastT_hit {y : Sy} {L : List Int} {m : Nat} (hm : m < L.length) (h : leastB y L L[m] = true) : leastT y L (m + 1) = leastT y L m ++ [L[m]] := by
  unfold leastT
  rw [List.take_succ_eq_append_getElem hm, List.filter_append]
  simp [h]
theorem leastT_miss {y : Sy} {L : List Int} {m : Nat} (hm : m < L.length) (h : leastB y L L[m] = false) : leastT y L (m + 1) = leastT y L m := by
  unfold leastT
  rw [List.take_succ_eq_append_getElem hm, List.filter_append]
  simp [h]
theorem leastT_le (y : Sy) (L : List Int) (m : Nat) : (leastT y L m).length ≤ m := by
  unfold leastT
  have h1 := List.length_filter_le (fun k => leastB y L k) (L.take m)
  rw [List.length_take] at h1
  omega
theorem leastB_no {y : Sy} {L : List Int} {i : Int} {m : Nat} (hm : m < L.length) (h1 : L[m] ≠ i) (h2 : fitsToB y.ty (argsOf y L[m]) (argsOf y i) = true) : leastB y L i = false := by
  unfold leastB
  exact all_false_of (p := fun k => !(decide (k ≠ i) && fitsToB y.ty (argsOf y k) (argsOf y i))) m hm (by simp [h1, h2])
theorem leastB_yes {y : Sy} {L : List Int} {i : Int} (h : ∀ m, ∀ (hm : m < L.length), ¬ (L[m] ≠ i ∧ fitsToB y.ty (argsOf y L[m]) (argsOf y i) = true)) : leastB y L i = true := by
  unfold leastB
  refine all_true_of (p := fun k => !(decide (k ≠ i) && fitsToB y.ty (argsOf y k) (argsOf y i))) fun m hm => ?_
  have := h m hm
  by_cases e : L[m] = i
  · simp [e]
  · have : fitsToB y.ty (argsOf y L[m]) (argsOf y i) = false := by
      cases hc : fitsToB y.ty (argsOf y L[m]) (argsOf y i)
      · rfl
      · exact absurd ⟨e, hc⟩ this
    simp [this]
/-- What LeastOf returns. -/
noncomputable def leastV (y : Sy) (nm : ByteArray) (ks : List Int) : List Int := leastT y (applicV y nm ks) (applicV y nm ks).length
theorem leastV_le (y : Sy) (nm : ByteArray) (ks : List Int) : (leastV y nm ks).length ≤ y.fs.length := Nat.le_trans (leastT_le _ _ _) (applicV_le _ _ _)
theorem leastV_wf (y : Sy) (nm : ByteArray) (ks : List Int) (hb : y.bulk ≤ 1048576) : ∀ z ∈ leastV y nm ks, I64 z := by
  intro z hz
  unfold leastV leastT at hz
  exact applicV_wf y nm ks hb z (List.mem_of_mem_take (List.mem_filter.1 hz).1)
theorem applicV_at {y : Sy} {nm : ByteArray} {ks : List Int} {m : Nat} (hm : m < (applicV y nm ks).length) : SyOk y ∧ ∃ i : Nat, (applicV y nm ks)[m] = (i : Int) ∧ ∃ hi : i < y.fs.length, y.fs[i].name = nm ∧ ApTo y.ty ks y.fs[i].args := by
  obtain ⟨hs, i, hi, hn, ha, e⟩ := applicV_mem.1 (List.getElem_mem hm)
  rw [getD_of hi] at hn ha
  exact ⟨hs, i, e, hi, hn, ha⟩
theorem below_fits {y : Sy} {a b : Nat} (hs : SyOk y) (ha : a < y.fs.length) (hb : b < y.fs.length) (hn : y.fs[a].name = y.fs[b].name) : hasFB y (a : Int) = true ∧ hasFB y (b : Int) = true ∧ belowB y (a : Int) (b : Int) = fitsToB y.ty (argsOf y (a : Int)) (argsOf y (b : Int)) := by
  have h1 : ∀ c : Nat, c < y.fs.length → hasFB y (c : Int) = true := fun c hc => by
    unfold hasFB
    rw [syB_yes hs, ixB_yes (by omega) (by omega)]
    rfl
  refine ⟨h1 a ha, h1 b hb, ?_⟩
  rw [Bool.eq_iff_iff, belowB_iff, fitsToB_iff]
  refine ⟨fun h => h.2.2.2, fun h => ⟨h1 a ha, h1 b hb, ?_, h⟩⟩
  rw [Int.toNat_natCast, Int.toNat_natCast, getD_of ha, getD_of hb, hn]
end Go.Proofs.YtnmbjmocnafekaaGreatDoor

