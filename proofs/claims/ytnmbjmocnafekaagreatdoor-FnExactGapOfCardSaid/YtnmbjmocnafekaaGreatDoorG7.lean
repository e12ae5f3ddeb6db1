/-
  An iterator on its way, whatever it yields: what it has, and what a loop within it leaves.
  A region that draws its order, by an invariant over what has been done: one obligation for each operation.
  A region that draws its order, inside a fence, by an invariant over what has been done: one obligation for each operation.
  A region that draws its order, each of whose operations sets one slot to one value: what holds by what has been done.
  A region that draws its order, some of whose operations, a chain, turn the world one after the other: what holds by what has been done.
  The contracts of the model's functions that copy a coercion, and a list of them, and types.
  The contract of the model's function that copies types.
-/
import Derived.Test.YtnmbjmocnafekaaGreatDoorG6
import Derived.WalkKit
import Derived.OrdersIn
import Derived.Test.YtnmbjmocnafekaaGreatDoorG1
import Derived.Test.YtnmbjmocnafekaaGreatDoorG5
namespace Go.Proofs.YtnmbjmocnafekaaGreatDoor
open Go.RowKit

theorem CliG.sub {α : Type} {R R' : α → (Nat → Prop) → World → Array Value → Prop} {full : List α} {l : Nat} {T : Nat → Prop} {J Jx : List α → (Nat → Prop) → World → Prop} (h : CliG R full l T J Jx) (hR : ∀ m O A vs, R' m O A vs → R m O A vs) : CliG R' full l T J Jx :=
  ⟨h.step, h.give, h.stepx, h.givex, fun s m vs O A hj hr hf => h.round s m vs O A hj (hR m O A vs hr) hf⟩

/-- The marks of loops over functions that have ended. -/
def mkD (dl : List Nat) : List Deferred := dl.map fun d => { target := .collected d, args := #[] }

theorem leavesG {F : Fence} {n : Nat} {P : Program} {fn : Func} {tmps : Array Value} {R : Ending → World → Prop} {G : World → Prop} (D : Nat → Prop) (hG : ∀ u d, D d → G u → G (u.putObj d (.deferred none)))
    (hbase : ∀ u, G u → LeavesIn F n P fn tmps R [] .returning u) : ∀ (dl : List Nat) (u : World), dl.Nodup → (∀ d ∈ dl, D d ∧ u.heap[d]? = some (.deferred (some []))) → G u → LeavesInM F n P fn tmps R (mkD dl) .returning u
  | [], u, _, _, hu => hbase u hu
  | d :: dl, u, hn, hd, hu => by
    obtain ⟨h1, h2⟩ := hd d (by simp)
    refine ⟨by simp, .inl ⟨d, _, rfl, run_takeDeferred h2, ?_⟩⟩
    refine leavesG D hG hbase dl _ (List.nodup_cons.1 hn).2 (fun d' hd' => ⟨(hd d' (by simp [hd'])).1, (puts8 ?_).trans (hd d' (by simp [hd'])).2⟩) (hG u d h1 hu)
    intro e
    exact (List.nodup_cons.1 hn).1 (e ▸ hd')

/-- The iterator on its way: w: where it began; s: what it has yielded; O: what it owns; p3: the block that holds the function that takes what is yielded. -/
structure StG {α : Type} (T : Nat → Prop) (J : List α → (Nat → Prop) → World → Prop) (w : World) (p3 : Nat) (ty : TypeId) (yv : Value) (s : List α) (O : Nat → Prop) (dl : List Nat) (u : World) : Prop where
  j : J s O u
  lo : ∀ b, O b → w.heap.size ≤ b ∧ b < u.heap.size
  kp : Kept T w u
  row : Row u p3 ty [yv]
  o3 : O p3
  nd : dl.Nodup
  df : ∀ d ∈ dl, O d ∧ u.heap[d]? = some (.deferred (some []))
section
variable {α : Type} {R : α → (Nat → Prop) → World → Array Value → Prop} {T : Nat → Prop} {J Jx : List α → (Nat → Prop) → World → Prop} {w u u' : World} {l p3 : Nat} {ty : TypeId} {full : List α} {yv : Value} {s s' : List α} {O O' : Nat → Prop} {dl : List Nat}
/-- Where nothing of its own and of T has turned. -/
theorem StG.move (h : StG T J w p3 ty yv s O dl u) (hk : Kept (fun b => O b ∨ T b) u u') (hsub : ∀ b, O b → O' b) (hlo : ∀ b, O' b → w.heap.size ≤ b ∧ b < u'.heap.size) (hj : J s' O' u') : StG T J w p3 ty yv s' O' dl u' :=
  ⟨hj, hlo, kept_trans h.kp ⟨hk.os, hk.tape, hk.output, hk.size, fun b hb ht => hk.block b hb (.inr ht)⟩, h.row.keep (hk.block p3 h.row.lt (.inl h.o3)), hsub _ h.o3, h.nd, fun d hd => ⟨hsub d (h.df d hd).1, (hk.block d (h.lo d (h.df d hd).1).2 (.inl (h.df d hd).1)).trans (h.df d hd).2⟩⟩
/-- New blocks of its own. -/
theorem StG.mine (hC : CliG R full l T J Jx) (h : StG T J w p3 ty yv s O dl u) (hb : Below u.heap.size u u') : StG T J w p3 ty yv s (fun b => O b ∨ (u.heap.size ≤ b ∧ b < u'.heap.size)) dl u' := by
  have hs := hb.size
  have hs2 := h.kp.size
  exact h.move (kept_of hb) (fun b h => .inl h) (fun b h' => h'.elim (fun h2 => ⟨(h.lo b h2).1, by have := (h.lo b h2).2; omega⟩) (fun h2 => ⟨by omega, h2.2⟩)) (hC.step _ _ _ _ h.j (kept_of hb))
/-- Another loop has ended. -/
theorem StG.mark (h : StG T J w p3 ty yv s O dl u) {d : Nat} (hd : O d) (hn : d ∉ dl) (hh : u.heap[d]? = some (.deferred (some []))) : StG T J w p3 ty yv s O (d :: dl) u :=
  ⟨h.j, h.lo, h.kp, h.row, h.o3, List.nodup_cons.2 ⟨hn, h.nd⟩, fun d' hd' => by
    rcases List.mem_cons.1 hd' with e | e
    · subst e; exact ⟨hd, hh⟩
    · exact h.df d' e⟩
end

/-- What holds in a loop over an iterator within the iterator: s0 had come before it began, in the world W2; of what comes there, m stands for g m. -/
structure InG {α β : Type} (T : Nat → Prop) (J : List α → (Nat → Prop) → World → Prop) (g : β → α) (s0 : List α) (O2 : Nat → Prop) (d : Nat) (W2 : World) (s : List β) (O : Nat → Prop) (A : World) : Prop where
  j : J (s0 ++ s.map g) (fun b => O2 b ∨ O b ∨ b = d ∨ b = d + 1) A
  lo : ∀ b, O b → d ≤ b ∧ b < A.heap.size
  sz : d + 1 < A.heap.size
  kp : Kept (fun b => T b ∨ O2 b) W2 A
structure InXG {α : Type} (Jx : List α → (Nat → Prop) → World → Prop) (O2 : Nat → Prop) (d : Nat) (W2 : World) (c : Code) (O : Nat → Prop) (A : World) : Prop where
  ret : c = .ret
  j : ∃ s', Jx s' (fun b => O2 b ∨ O b ∨ b = d ∨ b = d + 1) A
  lo : ∀ b, O b → d ≤ b
  kp : Kept O2 W2 A
section
variable {α β : Type} {R : α → (Nat → Prop) → World → Array Value → Prop} {W2 A C : World} {l d : Nat} {full : List α} {T : Nat → Prop} {J Jx : List α → (Nat → Prop) → World → Prop} {g : β → α} {s0 : List α} {s : List β} {O2 O O' : Nat → Prop} {c : Code}
theorem InG.step (hC : CliG R full l T J Jx) (hd : ∀ b, (T b ∨ O2 b) → b < d) (h : InG T J g s0 O2 d W2 s O A) (hk : Kept (fun k => ¬ O k) A C) : InG T J g s0 O2 d W2 s (fun k => O k ∨ (A.heap.size ≤ k ∧ k < C.heap.size)) C := by
  have hs := hk.size
  have hz := h.sz
  refine ⟨hC.give _ _ _ _ (hC.step _ _ _ _ h.j (kept_sub hk fun k _ hn ho => hn (.inr (.inl ho)))) fun k hk' => ?_, fun b hb => hb.elim (fun h1 => ⟨(h.lo b h1).1, by have := (h.lo b h1).2; omega⟩) (fun h1 => ⟨by omega, h1.2⟩), by omega, kept_trans h.kp (kept_sub hk fun k _ hS ho => by have := (h.lo k ho).1; have := hd k hS; omega)⟩
  rcases hk' with h1 | (h1 | h1) | h1
  · exact .inl (.inl h1)
  · exact .inl (.inr (.inl h1))
  · exact .inr h1
  · exact .inl (.inr (.inr h1))
theorem InG.give (hC : CliG R full l T J Jx) (h : InG T J g s0 O2 d W2 s O A) (hs : ∀ k, O' k → O k) : InG T J g s0 O2 d W2 s O' A :=
  ⟨hC.give _ _ _ _ h.j fun k hk => hk.elim .inl fun h1 => h1.elim (fun h2 => .inr (.inl (hs k h2))) fun h2 => .inr (.inr h2), fun b hb => h.lo b (hs b hb), h.sz, h.kp⟩
theorem InG.put (hC : CliG R full l T J Jx) (hd : ∀ b, (T b ∨ O2 b) → b < d) (h : InG T J g s0 O2 d W2 s O A) {k : Nat} (o : Obj) (h1 : d ≤ k) (h2 : k ≤ d + 1) : InG T J g s0 O2 d W2 s O (A.putObj k o) := by
  have hk2 : k = d ∨ k = d + 1 := by omega
  exact ⟨hC.give _ _ _ _ (hC.step _ _ _ _ h.j (kept_put fun hn => hn (.inr (.inr hk2)))) fun _ hk => .inl hk, fun b hb => by simpa using h.lo b hb, by simpa using h.sz, kept_trans h.kp (kept_put fun hS => by have := hd k hS; omega)⟩
theorem InXG.step (hC : CliG R full l T J Jx) (hd : ∀ b, (T b ∨ O2 b) → b < d) (h : InXG Jx O2 d W2 c O A) (hz : d + 1 < A.heap.size) (hk : Kept (fun k => ¬ O k) A C) : InXG Jx O2 d W2 c (fun k => O k ∨ (A.heap.size ≤ k ∧ k < C.heap.size)) C := by
  obtain ⟨s', hj⟩ := h.j
  refine ⟨h.ret, ⟨s', hC.givex _ _ _ _ (hC.stepx _ _ _ _ hj (kept_sub hk fun k _ hn ho => hn (.inr (.inl ho)))) fun k hk' => ?_⟩, fun b hb => hb.elim (h.lo b) (fun h1 => by omega), kept_trans h.kp (kept_sub hk fun k _ hS ho => by have := h.lo k ho; have := hd k (.inr hS); omega)⟩
  rcases hk' with h1 | (h1 | h1) | h1
  · exact .inl (.inl h1)
  · exact .inl (.inr (.inl h1))
  · exact .inr h1
  · exact .inl (.inr (.inr h1))
theorem InXG.give (hC : CliG R full l T J Jx) (h : InXG Jx O2 d W2 c O A) (hs : ∀ k, O' k → O k) : InXG Jx O2 d W2 c O' A := by
  obtain ⟨s', hj⟩ := h.j
  exact ⟨h.ret, ⟨s', hC.givex _ _ _ _ hj fun k hk => hk.elim .inl fun h1 => h1.elim (fun h2 => .inr (.inl (hs k h2))) fun h2 => .inr (.inr h2)⟩, fun b hb => h.lo b (hs b hb), h.kp⟩
theorem InXG.put (hC : CliG R full l T J Jx) (hd : ∀ b, (T b ∨ O2 b) → b < d) (h : InXG Jx O2 d W2 c O A) {k : Nat} (o : Obj) (h1 : d ≤ k) (h2 : k ≤ d + 1) : InXG Jx O2 d W2 c O (A.putObj k o) := by
  obtain ⟨s', hj⟩ := h.j
  have hk2 : k = d ∨ k = d + 1 := by omega
  exact ⟨h.ret, ⟨s', hC.givex _ _ _ _ (hC.stepx _ _ _ _ hj (kept_put fun hn => hn (.inr (.inr hk2)))) fun _ hk => .inl hk⟩, h.lo, kept_trans h.kp (kept_put fun hS => by have := hd k (.inr hS); omega)⟩
theorem InG.start (hC : CliG R full l T J Jx) (hW : W2.heap.size = d) (hj : J s0 O2 W2) (hb : Below W2.heap.size W2 C) (hs : C.heap.size = W2.heap.size + 2) : InG T J g s0 O2 d W2 [] (fun _ => False) C := by
  subst hW
  refine ⟨?_, fun b h => h.elim, by omega, kept_of hb⟩
  rw [List.map_nil, List.append_nil]
  exact hC.give _ _ _ _ (hC.step _ _ _ _ hj (kept_of hb)) fun k hk => hk.elim .inl fun h1 => h1.elim (fun h2 => h2.elim) fun h2 => .inr (by omega)
/-- What is to be yielded in the world B, behind A, in which new blocks have been made, is not the iterator's own. -/
theorem InG.ready {B : World} (hC : CliG R full l T J Jx) (h : InG T J g s0 O2 d W2 s O A) (hb : Below A.heap.size A B) : J (s0 ++ s.map g) (fun b => O2 b ∨ O b ∨ b = d ∨ b = d + 1) B :=
  hC.give _ _ _ _ (hC.step _ _ _ _ h.j (kept_of hb)) fun _ hk => .inl hk
/-- One more has come. -/
theorem InG.next {m : β} {B : World} (h : InG T J g s0 O2 d W2 s O A) (hb : Below A.heap.size A B) (hk : Kept (fun b => (O2 b ∨ O b ∨ b = d ∨ b = d + 1) ∨ T b) B C) (hj : J ((s0 ++ s.map g) ++ [g m]) (fun b => O2 b ∨ O b ∨ b = d ∨ b = d + 1) C) :
    InG T J g s0 O2 d W2 (s ++ [m]) O C ∧ Kept (fun k => O k ∨ (T k ∨ O2 k) ∨ k = d ∨ k = d + 1) A C := by
  have hs := hk.size
  have hs1 := hb.size
  have hz := h.sz
  refine ⟨⟨?_, fun b hb' => ⟨(h.lo b hb').1, by have := (h.lo b hb').2; omega⟩, by omega, kept_trans h.kp (kept_trans (kept_of hb) (kept_sub hk fun k _ hS => hS.elim .inr fun h3 => .inl (.inl h3)))⟩, kept_trans (kept_of hb) (kept_sub hk fun k _ hS => ?_)⟩
  · rw [List.map_append, List.map_cons, List.map_nil, ← List.append_assoc]
    exact hj
  · rcases hS with h3 | (h3 | h3) | h3
    · exact .inl (.inr (.inl h3))
    · exact .inr h3
    · exact .inl (.inl h3)
    · exact .inl (.inr (.inr h3))
/-- One more has come, and no other one is wanted. -/
theorem InG.nextX {m : β} {B : World} (h : InG T J g s0 O2 d W2 s O A) (hb : Below A.heap.size A B) (hk : Kept (fun b => O2 b ∨ O b ∨ b = d ∨ b = d + 1) B C) (hj : Jx ((s0 ++ s.map g) ++ [g m]) (fun b => O2 b ∨ O b ∨ b = d ∨ b = d + 1) C) :
    InXG Jx O2 d W2 .ret O C ∧ Kept (fun k => O k ∨ k = d ∨ k = d + 1) A C :=
  ⟨⟨rfl, ⟨_, hj⟩, fun b hb' => (h.lo b hb').1, kept_trans (kept_sub h.kp fun _ _ hS => .inr hS) (kept_trans (kept_of hb) (kept_sub hk fun _ _ hS => .inl hS))⟩, kept_trans (kept_of hb) (kept_sub hk fun _ _ hS => .inr hS)⟩
end

/-- What is left when it comes to its end. -/
def FinG {α : Type} (J Jx : List α → (Nat → Prop) → World → Prop) (s : List α) (O : Nat → Prop) (u : World) : Prop := (∃ O', (∀ b, O b → O' b) ∧ J s O' u) ∨ (∃ s' O', (∀ b, O b → O' b) ∧ Jx s' O' u)
theorem FinG.put {α : Type} {R : α → (Nat → Prop) → World → Array Value → Prop} {l : Nat} {full : List α} {T : Nat → Prop} {J Jx : List α → (Nat → Prop) → World → Prop} {s : List α} {O : Nat → Prop} {u : World} (hC : CliG R full l T J Jx) {d : Nat} (hd : O d) (o : Obj) (h : FinG J Jx s O u) : FinG J Jx s O (u.putObj d o) := by
  rcases h with ⟨O', hs, hj⟩ | ⟨s', O', hs, hj⟩
  · exact .inl ⟨O', hs, hC.give _ _ _ _ (hC.step _ _ _ _ hj (kept_put fun h => h (hs d hd))) fun b h => .inl h⟩
  · exact .inr ⟨s', O', hs, hC.givex _ _ _ _ (hC.stepx _ _ _ _ hj (kept_put fun h => h (hs d hd))) fun b h => .inl h⟩
theorem FinG.out {α : Type} {J Jx : List α → (Nat → Prop) → World → Prop} {s : List α} {O : Nat → Prop} {u : World} (h : FinG J Jx s O u) : (∃ O', J s O' u) ∨ (∃ s' O', Jx s' O' u) := by
  rcases h with ⟨O', _, hj⟩ | ⟨s', O', _, hj⟩
  · exact .inl ⟨O', hj⟩
  · exact .inr ⟨s', O', hj⟩

/-- A row of numbers that is yielded: of memory of its own, made since the block base. -/
def RowG (base : Nat) (m : List Int) (O : Nat → Prop) (A : World) (vs : Array Value) : Prop :=
  ∃ v, vs = #[v] ∧ (m = [] → v = .slice none 0 0) ∧ A.ownsRow base 3 1 v m.length (m.map (Value.int .i64)) ∧ (∀ z ∈ m, I64 z) ∧ ∀ b, v.ownBlock = some b → ¬ O b
theorem owns_putL {A : World} {base n : Nat} {e : TypeId} {v : Value} {xs : List Value} {k : Nat} {o' : Obj} {lp : Loop} (h : A.ownsRow base e 1 v n xs) (hlp : A.heap[k]? = some (.loop lp)) : (A.putObj k o').ownsRow base e 1 v n xs := by
  refine ownsRow_keep1 h fun g hg => puts8 fun e2 => ?_
  subst e2
  obtain ⟨_, ⟨rfl, _⟩ | ⟨g', cap, cur, rfl, hb, hh, _⟩⟩ := h
  · simp [Value.ownBlock] at hg
  · simp only [Value.ownBlock, Option.some.injEq] at hg
    subst hg
    rw [hlp] at hh
    cases hh
theorem RowG.put {base : Nat} {m : List Int} {O : Nat → Prop} {A : World} {vs : Array Value} {k : Nat} {o' : Obj} {lp : Loop} (h : RowG base m O A vs) (hlp : A.heap[k]? = some (.loop lp)) : RowG base m O (A.putObj k o') vs := by
  obtain ⟨v, h1, h2, h3, h4, h5⟩ := h
  exact ⟨v, h1, h2, owns_putL h3 hlp, h4, h5⟩
theorem RowG.size {base : Nat} {m : List Int} {O : Nat → Prop} {A : World} {vs : Array Value} (h : RowG base m O A vs) : vs.size = 1 := by
  obtain ⟨v, rfl, _⟩ := h
  rfl
theorem RowG.low {base b' : Nat} {m : List Int} {O : Nat → Prop} {A : World} {vs : Array Value} (h : RowG base m O A vs) (hb : b' ≤ base) : RowG b' m O A vs := by
  obtain ⟨v, h1, h2, h3, h4, h5⟩ := h
  exact ⟨v, h1, h2, ownsRow_lower h3 hb, h4, h5⟩
end Go.Proofs.YtnmbjmocnafekaaGreatDoor

namespace Go.Proofs.YtnmbjmocnafekaaGreatDoor
open Go.RowKit

section
variable {P : Program} {ops : Array Oper} {Q : Exit → Act → World → Prop}

def openCount : List Bool → Nat
  | [] => 0
  | b :: bs => (if b then 0 else 1) + openCount bs
theorem openCount_set : ∀ (l : List Bool) (i : Nat), l[i]? = some false → openCount (l.set i true) + 1 = openCount l := by
  intro l
  induction l with
  | nil => intro i h; simp at h
  | cons b bs ih =>
    intro i h
    cases i with
    | zero =>
      simp at h
      subst h
      simp [openCount]
      omega
    | succ i =>
      simp at h
      have := ih i h
      simp only [List.set_cons_succ, openCount]
      omega
theorem openCount_zero : ∀ (l : List Bool), openCount l = 0 → ∀ b ∈ l, b = true := by
  intro l
  induction l with
  | nil => intro _ b hb; cases hb
  | cons c cs ih =>
    intro h b hb
    cases c with
    | false => simp [openCount] at h
    | true =>
      simp only [openCount, if_true, Nat.zero_add] at h
      rcases List.mem_cons.1 hb with rfl | hb
      · rfl
      · exact ih h b hb

/-- What may come up: it has not been done, and all that binds it has. -/
theorem ready_of {listed : Array Bool} {i : Nat} (h : i ∈ Region.ready .any ops listed) : i < ops.size ∧ listed.getD i true = false ∧ ∃ o, ops[i]? = some o ∧ ∀ e ∈ o.after, Region.binds .any e = true → listed.getD e.on false = true := by
  unfold Region.ready at h
  rw [List.mem_filter] at h
  obtain ⟨h1, h2⟩ := h
  have h1 := List.mem_range.1 h1
  simp only [Bool.and_eq_true, Bool.not_eq_true'] at h2
  obtain ⟨h2, h3⟩ := h2
  refine ⟨h1, h2, ops[i], Array.getElem?_eq_getElem h1, fun e he hb => ?_⟩
  rw [Array.getElem?_eq_getElem h1] at h3
  simp only [Option.map_some, Option.getD_some] at h3
  rw [Array.all_eq_true'] at h3
  have := h3 e he
  simpa [hb] using this
theorem ready_mk {listed : Array Bool} {i : Nat} (h1 : i < ops.size) (h2 : listed.getD i true = false) (h3 : ∀ e ∈ ops[i].after, Region.binds .any e = true → listed.getD e.on false = true) : i ∈ Region.ready .any ops listed := by
  unfold Region.ready
  rw [List.mem_filter]
  refine ⟨List.mem_range.2 h1, ?_⟩
  simp only [Bool.and_eq_true, Bool.not_eq_true']
  refine ⟨h2, ?_⟩
  rw [Array.getElem?_eq_getElem h1]
  simp only [Option.map_some, Option.getD_some]
  rw [Array.all_eq_true']
  intro e he
  cases hb : Region.binds .any e with
  | false => simp
  | true => simp [h3 e he hb]
theorem all_done {listed : Array Bool} (hs : listed.size = ops.size) (hd : ∀ i, ∀ (h : i < ops.size), ∀ e ∈ ops[i].after, Region.binds .any e = true → e.on < i) (hr : Region.ready .any ops listed = []) : ∀ i, i < ops.size → listed.getD i false = true := by
  intro i
  induction i using Nat.strongRecOn with
  | _ i ih =>
    intro hi
    have hl : i < listed.size := by omega
    by_cases h : listed.getD i true = true
    · simpa [Array.getD, hl] using h
    · have hf : listed.getD i true = false := by simpa using h
      have hm := ready_mk (listed := listed) hi hf fun e he hb => ih e.on (hd i hi e he hb) (by have := hd i hi e he hb; omega)
      rw [hr] at hm
      cases hm

theorem wpAny_inv (Inv : (Nat → Bool) → Act → World → Prop) (hd : ∀ i, ∀ (h : i < ops.size), ∀ e ∈ ops[i].after, Region.binds .any e = true → e.on < i)
    (hstep : ∀ (f : Nat → Bool) a w i o, ops[i]? = some o → f i = false → (∀ e ∈ o.after, Region.binds .any e = true → f e.on = true) → Inv f a w → wpOp P ops Q i (Inv fun k => decide (k = i) || f k) a w)
    (hend : ∀ f a w, (∀ k, k < ops.size → f k = true) → Inv f a w → Q .normal a w) :
    ∀ (fuel : Nat) (listed : Array Bool) (a : Act) (w : World), listed.size = ops.size → openCount listed.toList ≤ fuel → Inv (fun k => listed.getD k false) a w → wpAny P .any ops Q fuel listed a w := by
  intro fuel
  induction fuel with
  | zero =>
    intro listed a w hs hf hI
    have hall := openCount_zero listed.toList (by omega)
    have hr : Region.ready .any ops listed = [] := by
      rw [List.eq_nil_iff_forall_not_mem]
      intro i hi
      obtain ⟨h1, h2, _⟩ := ready_of hi
      have hl : i < listed.size := by omega
      have h3 : listed[i] = false := by simpa [Array.getD, hl] using h2
      have h4 := hall listed[i] (by simp)
      rw [h3] at h4
      cases h4
    exact ⟨hr, hend _ a w (all_done hs hd hr) hI⟩
  | succ fuel ih =>
    intro listed a w hs hf hI
    refine ⟨fun hr => hend _ a w (all_done hs hd hr) hI, fun i hi => ?_⟩
    obtain ⟨h1, h2, o, ho, h3⟩ := ready_of hi
    have hl : i < listed.size := by omega
    have h4 : listed[i] = false := by simpa [Array.getD, hl] using h2
    refine wpOp_mono (fun a' w' hI' => ih (listed.setIfInBounds i true) a' w' (by simpa using hs) ?_ ?_) (hstep _ a w i o ho (by simp [Array.getD, hl, h4]) h3 hI)
    · have := openCount_set listed.toList i (by simp [hl, h4])
      simp only [Array.toList_setIfInBounds]
      omega
    · have e : (fun k => decide (k = i) || listed.getD k false) = fun k => (listed.setIfInBounds i true).getD k false := by
        funext k
        by_cases hk : k = i
        · subst hk
          simp [Array.getD, hl]
        · have hk' : ¬ i = k := fun h => hk h.symm
          by_cases hkl : k < listed.size
          · simp [Array.getD, hk, hk', hkl]
          · simp [Array.getD, hk, hkl]
      rw [← e]
      exact hI'

/-- A region that draws its order, by an invariant over what has been done. -/
theorem wp_region_inv {id : Nat} {a : Act} {w : World} (hm : P.follows .mixedOrders = true) (Inv : (Nat → Bool) → Act → World → Prop) (hd : ∀ i, ∀ (h : i < ops.size), ∀ e ∈ ops[i].after, Region.binds .any e = true → e.on < i)
    (h0 : Inv (fun _ => false) a w.drew)
    (hstep : ∀ (f : Nat → Bool) a w i o, ops[i]? = some o → f i = false → (∀ e ∈ o.after, Region.binds .any e = true → f e.on = true) → Inv f a w → wpOp P ops Q i (Inv fun k => decide (k = i) || f k) a w)
    (hend : ∀ f a w, (∀ k, k < ops.size → f k = true) → Inv f a w → Q .normal a w) : (Code.region id ops true).wp P Q a w := by
  refine wp_region_any hm (wpAny_inv Inv hd hstep hend _ _ a _ (by simp) ?_ ?_)
  · have key : ∀ n, openCount (List.replicate n false) = n := by
      intro n
      induction n with
      | zero => rfl
      | succ n ih => simp only [List.replicate_succ, openCount, ih]; simp; omega
    rw [Array.toList_replicate, key]
    exact Nat.le_refl _
  · have e : (fun k => (Array.replicate ops.size false).getD k false) = fun _ => false := by
      funext k
      by_cases hk : k < ops.size
      · simp [Array.getD, hk]
      · simp [Array.getD, hk]
    rw [e]
    exact h0
/-- The same, where the invariant may name the frame that the region begins with. -/
theorem wp_region_inv_at {id : Nat} {a : Act} {w : World} (hm : P.follows .mixedOrders = true) (Inv : Act → (Nat → Bool) → Act → World → Prop) (hd : ∀ i, ∀ (h : i < ops.size), ∀ e ∈ ops[i].after, Region.binds .any e = true → e.on < i)
    (h0 : Inv a (fun _ => false) a w.drew)
    (hstep : ∀ (f : Nat → Bool) a' w i o, ops[i]? = some o → f i = false → (∀ e ∈ o.after, Region.binds .any e = true → f e.on = true) → Inv a f a' w → wpOp P ops Q i (Inv a fun k => decide (k = i) || f k) a' w)
    (hend : ∀ f a' w, (∀ k, k < ops.size → f k = true) → Inv a f a' w → Q .normal a' w) : (Code.region id ops true).wp P Q a w :=
  wp_region_inv hm (Inv a) hd h0 hstep hend
end
end Go.Proofs.YtnmbjmocnafekaaGreatDoor

namespace Go.Proofs.YtnmbjmocnafekaaGreatDoor
open Go.RowKit

section
variable {F : Fence} {n : Nat} {P : Program} {ops : Array Oper} {Q : Exit → Act → World → Prop}
theorem wpOpIn_step8 {i : Nat} {o : Oper} {K : Act → World → Prop} {a : Act} {w : World} (ho : ops[i]? = some o)
    (h : ∀ K' : Act → World → Prop, (∀ a w, K a w → K' a w) → if Region.wanted o (yielded ops a.tmps) = true then o.wpIn F n P a w K' Q else (∀ f, o.about P w a.eval = some f → F.fn f) ∧ K' (a.put o.dst undef) w) : wpOpIn F n P ops Q i K a w := by
  unfold wpOpIn
  rw [ho]
  exact h K fun _ _ h => h

theorem wpAnyIn_inv (Inv : (Nat → Bool) → Act → World → Prop) (hd : ∀ i, ∀ (h : i < ops.size), ∀ e ∈ ops[i].after, Region.binds .any e = true → e.on < i)
    (hstep : ∀ (f : Nat → Bool) a w i o, ops[i]? = some o → f i = false → (∀ e ∈ o.after, Region.binds .any e = true → f e.on = true) → Inv f a w → wpOpIn F n P ops Q i (Inv fun k => decide (k = i) || f k) a w)
    (hend : ∀ f a w, (∀ k, k < ops.size → f k = true) → Inv f a w → Q .normal a w) :
    ∀ (fuel : Nat) (listed : Array Bool) (a : Act) (w : World), listed.size = ops.size → openCount listed.toList ≤ fuel → Inv (fun k => listed.getD k false) a w → wpAnyIn F n P .any ops Q fuel listed a w := by
  intro fuel
  induction fuel with
  | zero =>
    intro listed a w hs hf hI
    have hall := openCount_zero listed.toList (by omega)
    have hr : Region.ready .any ops listed = [] := by
      rw [List.eq_nil_iff_forall_not_mem]
      intro i hi
      obtain ⟨h1, h2, _⟩ := ready_of hi
      have hl : i < listed.size := by omega
      have h3 : listed[i] = false := by simpa [Array.getD, hl] using h2
      have h4 := hall listed[i] (by simp)
      rw [h3] at h4
      cases h4
    exact ⟨hr, hend _ a w (all_done hs hd hr) hI⟩
  | succ fuel ih =>
    intro listed a w hs hf hI
    refine ⟨fun hr => hend _ a w (all_done hs hd hr) hI, fun i hi => ?_⟩
    obtain ⟨h1, h2, o, ho, h3⟩ := ready_of hi
    have hl : i < listed.size := by omega
    have h4 : listed[i] = false := by simpa [Array.getD, hl] using h2
    refine wpOpIn_mono (fun a' w' hI' => ih (listed.setIfInBounds i true) a' w' (by simpa using hs) ?_ ?_) (hstep _ a w i o ho (by simp [Array.getD, hl, h4]) h3 hI)
    · have := openCount_set listed.toList i (by simp [hl, h4])
      simp only [Array.toList_setIfInBounds]
      omega
    · have e : (fun k => decide (k = i) || listed.getD k false) = fun k => (listed.setIfInBounds i true).getD k false := by
        funext k
        by_cases hk : k = i
        · subst hk
          simp [Array.getD, hl]
        · have hk' : ¬ i = k := fun h => hk h.symm
          by_cases hkl : k < listed.size
          · simp [Array.getD, hk, hk', hkl]
          · simp [Array.getD, hk, hkl]
      rw [← e]
      exact hI'

/-- A region that draws its order, by an invariant over what has been done. -/
theorem wpIn_region_inv {id : Nat} {a : Act} {w : World} (hm : P.follows .mixedOrders = true) (Inv : (Nat → Bool) → Act → World → Prop) (hd : ∀ i, ∀ (h : i < ops.size), ∀ e ∈ ops[i].after, Region.binds .any e = true → e.on < i)
    (h0 : Inv (fun _ => false) a w.drew)
    (hstep : ∀ (f : Nat → Bool) a w i o, ops[i]? = some o → f i = false → (∀ e ∈ o.after, Region.binds .any e = true → f e.on = true) → Inv f a w → wpOpIn F n P ops Q i (Inv fun k => decide (k = i) || f k) a w)
    (hend : ∀ f a w, (∀ k, k < ops.size → f k = true) → Inv f a w → Q .normal a w) : (Code.region id ops true).wpIn F n P Q a w := by
  refine wpIn_region_any hm (wpAnyIn_inv Inv hd hstep hend _ _ a _ (by simp) ?_ ?_)
  · have key : ∀ q, openCount (List.replicate q false) = q := by
      intro q
      induction q with
      | zero => rfl
      | succ q ih => simp only [List.replicate_succ, openCount, ih]; simp; omega
    rw [Array.toList_replicate, key]
    exact Nat.le_refl _
  · have e : (fun k => (Array.replicate ops.size false).getD k false) = fun _ => false := by
      funext k
      by_cases hk : k < ops.size
      · simp [Array.getD, hk]
      · simp [Array.getD, hk]
    rw [e]
    exact h0
end
end Go.Proofs.YtnmbjmocnafekaaGreatDoor

namespace Go.Proofs.YtnmbjmocnafekaaGreatDoor
open Go.RowKit

theorem det_yes {c : Bool} {A B : Prop} (h : c = true) (ha : A) : if c = true then A else B := by rw [if_pos h]; exact ha
/-- Vs: what the slots hold in the end; xs: what they hold now; f: which operations have been done. -/
structure Det (N : Nat) (w0 : World) (Vs : List Value) (f : Nat → Bool) (xs : List Value) (u : World) : Prop where
  bel : Below N w0 u
  len : xs.length = Vs.length
  at_ : ∀ k, f k = true → xs[k]? = Vs[k]?
section
variable {N : Nat} {w0 u : World} {Vs xs : List Value} {f : Nat → Bool}
theorem Det.start (_hN : N ≤ w0.heap.size) (hl : xs.length = Vs.length) : Det N w0 Vs (fun _ => false) xs w0.drew :=
  ⟨(Below.refl _ _).drew, hl, fun k h => by cases h⟩
theorem Det.step (h : Det N w0 Vs f xs u) (i : Nat) {v : Value} (hv : Vs[i]? = some v) {u' : World} (hb : Below N u u') : Det N w0 Vs (fun k => decide (k = i) || f k) (xs.set i v) u' := by
  refine ⟨h.bel.trans hb, by rw [List.length_set]; exact h.len, fun k hk => ?_⟩
  by_cases e : k = i
  · subst e
    have hl : k < xs.length := by
      rw [h.len]
      exact (List.getElem?_eq_some_iff.1 hv).1
    rw [List.getElem?_set_self hl, hv]
  · rw [List.getElem?_set_ne (fun e' => e e'.symm)]
    exact h.at_ k (by simpa [e] using hk)
theorem Det.same (h : Det N w0 Vs f xs u) (i : Nat) {v : Value} (hv : Vs[i]? = some v) : Det N w0 Vs (fun k => decide (k = i) || f k) (xs.set i v) u := h.step i hv (Below.refl _ _)
theorem Det.get (h : Det N w0 Vs f xs u) (k : Nat) (hk : f k = true) {x v : Value} (hx : xs[k]? = some x) (hv : Vs[k]? = some v) : x = v := by
  have := h.at_ k hk
  rw [hx, hv] at this
  exact Option.some.inj this
theorem Det.all (h : Det N w0 Vs f xs u) {n : Nat} (hn : Vs.length = n) (hall : ∀ k, k < n → f k = true) : xs = Vs := by
  apply List.ext_getElem? fun k => ?_
  by_cases hk : k < n
  · exact h.at_ k (hall k hk)
  · rw [List.getElem?_eq_none (by rw [h.len]; omega), List.getElem?_eq_none (by omega)]
end
end Go.Proofs.YtnmbjmocnafekaaGreatDoor

namespace Go.Proofs.YtnmbjmocnafekaaGreatDoor
open Go.RowKit

/-- Each slot that has been set holds what it is to hold. -/
structure DetQ (Ps : List (Value → Prop)) (f : Nat → Bool) (xs : List Value) : Prop where
  len : xs.length = Ps.length
  at_ : ∀ k x P, f k = true → xs[k]? = some x → Ps[k]? = some P → P x
theorem DetQ.start {Ps : List (Value → Prop)} {xs : List Value} (h : xs.length = Ps.length) : DetQ Ps (fun _ => false) xs := ⟨h, fun _ _ _ h => by cases h⟩
theorem DetQ.step {Ps : List (Value → Prop)} {f : Nat → Bool} {xs : List Value} (h : DetQ Ps f xs) (i : Nat) {v : Value} {P : Value → Prop} (hP : Ps[i]? = some P) (hv : P v) : DetQ Ps (fun k => decide (k = i) || f k) (xs.set i v) := by
  refine ⟨by rw [List.length_set]; exact h.len, fun k x Q hk hx hQ => ?_⟩
  by_cases e : k = i
  · subst e
    have hl : k < xs.length := by rw [h.len]; exact (List.getElem?_eq_some_iff.1 hP).1
    rw [List.getElem?_set_self hl] at hx
    injection hx with hx
    subst hx
    rw [hP] at hQ
    injection hQ with hQ
    subst hQ
    exact hv
  · rw [List.getElem?_set_ne (fun e' => e e'.symm)] at hx
    exact h.at_ k x Q (by simpa [e] using hk) hx hQ
theorem DetQ.get {Ps : List (Value → Prop)} {f : Nat → Bool} {xs : List Value} (h : DetQ Ps f xs) (k : Nat) (hk : f k = true) {x : Value} {P : Value → Prop} (hx : xs[k]? = some x) (hP : Ps[k]? = some P) : P x := h.at_ k x P hk hx hP

/-- The operations cs are done one after the other; W j: what holds of the world behind the first j of them. -/
structure Ch (dn : Nat → Bool) (cs : List Nat) (W : Nat → World → Prop) (u : World) : Prop where
  ex : ∃ j, j ≤ cs.length ∧ (∀ i, ∀ (h : i < cs.length), dn cs[i] = decide (i < j)) ∧ W j u
section
variable {dn : Nat → Bool} {cs : List Nat} {W W' : Nat → World → Prop} {u u' : World}
theorem Ch.start (h : W 0 u) : Ch (fun _ => false) cs W u := ⟨0, Nat.zero_le _, fun i _ => by simp, h⟩
theorem Ch.other (h : Ch dn cs W u) (i : Nat) (hi : i ∉ cs) : Ch (fun k => decide (k = i) || dn k) cs W u := by
  obtain ⟨j, hj, hd, hw⟩ := h.ex
  refine ⟨j, hj, fun k hk => ?_, hw⟩
  have hne : cs[k] ≠ i := fun e => hi (by rw [← e]; exact List.getElem_mem hk)
  simp [hne, hd k hk]
theorem Ch.at_ (h : Ch dn cs W u) (j : Nat) (hj : j < cs.length) (hn : dn cs[j] = false) (hp : ∀ i, i + 1 = j → ∀ (hi : i < cs.length), dn cs[i] = true) : W j u := by
  obtain ⟨j0, hj0, hd, hw⟩ := h.ex
  have h1 := hd j hj
  rw [hn] at h1
  have h2 : ¬ j < j0 := by simpa using h1.symm
  have h3 : j0 = j := by
    cases j with
    | zero => omega
    | succ k =>
      have h4 := hd k (by omega)
      rw [hp k rfl (by omega)] at h4
      have h5 : k < j0 := by simpa using h4.symm
      omega
  rw [← h3]
  exact hw
theorem Ch.next (h : Ch dn cs W u) (j : Nat) (hj : j < cs.length) (hn : dn cs[j] = false) (hp : ∀ i, i + 1 = j → ∀ (hi : i < cs.length), dn cs[i] = true) (hnd : cs.Nodup) (hw' : W' (j + 1) u') : Ch (fun k => decide (k = cs[j]) || dn k) cs W' u' := by
  obtain ⟨j0, hj0, hd, hw⟩ := h.ex
  have h1 := hd j hj
  rw [hn] at h1
  have h2 : ¬ j < j0 := by simpa using h1.symm
  have h3 : j0 = j := by
    cases j with
    | zero => omega
    | succ k =>
      have h4 := hd k (by omega)
      rw [hp k rfl (by omega)] at h4
      have h5 : k < j0 := by simpa using h4.symm
      omega
  subst h3
  refine ⟨j0 + 1, by omega, fun i hi => ?_, hw'⟩
  by_cases e : i = j0
  · subst e; simp
  · have hne : cs[i] ≠ cs[j0] := fun e2 => e ((List.getElem_inj hnd).1 e2)
    simp only [hne, decide_false, Bool.false_or, hd i hi]
    have : (i < j0) ↔ (i < j0 + 1) := by omega
    simp [this]
theorem Ch.early (h : Ch dn cs W u) (m : Nat) (hm : m < cs.length) (hn : dn cs[m] = false) : ∃ j, j ≤ m ∧ W j u := by
  obtain ⟨j0, hj0, hd, hw⟩ := h.ex
  have h1 := hd m hm
  rw [hn] at h1
  have h2 : ¬ m < j0 := by simpa using h1.symm
  exact ⟨j0, by omega, hw⟩
theorem Ch.all (h : Ch dn cs W u) (hall : ∀ i, ∀ (h : i < cs.length), dn cs[i] = true) : W cs.length u := by
  obtain ⟨j0, hj0, hd, hw⟩ := h.ex
  have h3 : j0 = cs.length := by
    rcases Nat.lt_or_ge j0 cs.length with h' | h'
    · have h4 := hd j0 h'
      rw [hall j0 h'] at h4
      simp at h4
    · omega
  rw [← h3]
  exact hw
end
end Go.Proofs.YtnmbjmocnafekaaGreatDoor

namespace Go.Proofs.YtnmbjmocnafekaaGreatDoor
open Go.RowKit

theorem grown_cell {w w' : World} {g : Nat} (h : w.grownBy w' (some g)) (b o : Nat) (hb : b < w.heap.size) (hne : b ≠ g) : w'.cell? ⟨b, o, none⟩ = w.cell? ⟨b, o, none⟩ :=
  World.cell?_of_block (a := ⟨b, o, none⟩) (h.block b hb (fun e => hne (by injection e)))
theorem grown_frozen {w w' : World} {g : Nat} (h : w.grownBy w' (some g)) (b o : Nat) (hb : b < w.heap.size) (hne : b ≠ g) : w'.frozen? ⟨b, o, none⟩ = w.frozen? ⟨b, o, none⟩ :=
  World.frozen?_of_block (a := ⟨b, o, none⟩) (h.block b hb (fun e => hne (by injection e)))
theorem run_append_owned_none' {P : Program} {w : World} (base : Nat) (t ty e : TypeId) (i : TypeInfo) (size : Nat) (ht : P.underlying t = some (.slice e)) (hi : P.info? e = some i)
    (v : Value) (n : Nat) (xs : List Value) (c : Nat) (hown : w.ownsRow base e size v n xs) :
    (Builtin.append_ #[t, t] ty #[v, .slice none 0 c]).run P w = .ok v w := by
  rcases hown.2 with ⟨rfl, rfl⟩ | ⟨g, cap, cur, rfl, _, _, hnc, _⟩
  · simp [Builtin.append_, run_underlying ht, sizeOf, typeInfo, hi, Builtin.lenOf, Builtin.firstCells]
  · simp [Builtin.append_, run_underlying ht, sizeOf, typeInfo, hi, Builtin.lenOf, Builtin.firstCells, hnc, storeCells]
theorem wpList_append_own_none' {P : Program} {w : World} {ops : Array Oper} {rest : List Oper} {o : Oper} {a : Act} {Q : Exit → Act → World → Prop} (hgd : o.guard = none) (s x : Operand) (t : TypeId)
    (ho : o.op = .call { callee := .builtin .append, args := #[s, x], argTypes := #[t, t] })
    (base : Nat) (e : TypeId) (i : TypeInfo) (size : Nat) (ht : P.underlying t = some (.slice e)) (hi : P.info? e = some i)
    (v : Value) (n : Nat) (xs : List Value) (c : Nat) (hs : a.eval s = v) (hown : w.ownsRow base e size v n xs) (hx : a.eval x = .slice none 0 c)
    (h : wpList P ops Q rest (a.put o.dst v) w) : wpList P ops Q (o :: rest) a w := by
  refine wpList_plain hgd fun K hK => ?_
  have hrun := run_append_owned_none' (P := P) (w := w) base t o.type e i size ht hi v n xs c hown
  unfold Oper.wp
  simp [execOp, ho, resolve, invoke, builtin, hs, hx, hrun, Result.andThen]
  exact hK _ _ h

theorem CosOwned.lit (w : World) (base : Nat) (f : Nat → Co) (hb : base ≤ w.heap.size) : CosOwned (w.alloc (.cells #[] 185)) base (.slice (some ⟨w.heap.size, 0, none⟩) 0 0) f 0 :=
  ⟨[], fun _ => 0, fun _ => .slice none 0 0, World.ownsRow_lit w #[] 0 hb (by unfold maxLen; omega) rfl, fun i hi => absurd hi (by omega), fun i hi => absurd hi (by omega), fun i hi => absurd hi (by omega)⟩

end Go.Proofs.YtnmbjmocnafekaaGreatDoor

namespace Go.Proofs.YtnmbjmocnafekaaGreatDoor
open Go.RowKit

theorem wpList_append_ints {w : World} {ops : Array Oper} {rest : List Oper} {o : Oper} {a : Act} {Q : Exit → Act → World → Prop} (hgd : o.guard = none) (s x : Operand)
    (ho : o.op = .call { callee := .builtin .append, args := #[s, x], argTypes := #[22, 22] })
    (base : Nat) (v : Value) (n : Nat) (xs : List Value) (hs : a.eval s = v) (hown : w.ownsRow base 3 1 v n xs) (lo hi : Nat) (A : Option Addr) (m c : Nat) (zs : List Int) (hx : a.eval x = .slice A m c)
    (hz : IntsAt w lo hi (.slice A m c) zs) (hm : zs.length = m) (h63 : n + m ≤ 2097152) (hbase : base ≤ w.heap.size)
    (h : ∀ VA VC w', w'.ownsRow base 3 1 (.slice VA (n + m) VC) (n + m) (xs ++ zs.map (Value.int .i64)) → w.grownBy w' v.ownBlock → wpList Tryz.prog ops Q rest (a.put o.dst (.slice VA (n + m) VC)) w') : wpList Tryz.prog ops Q (o :: rest) a w := by
  obtain ⟨i0, hi0, hz0, hz1, hz2⟩ := info_parts Tryz.infoInt
  subst hm
  rcases A with _ | ad
  · have hn : zs = [] := by
      rcases zs with _ | ⟨z, zs⟩
      · rfl
      · obtain ⟨b, off, e, _⟩ := hz.at_ (k := 0) (by simp)
        cases e
    subst hn
    obtain ⟨VA, VC, rfl⟩ := owns_form hown
    refine wpList_append_own_none' hgd s x 22 ho base 3 i0 1 Tryz.underlying22 hi0 _ _ _ c hs hown hx ?_
    have := h VA VC w (by simpa using hown) ⟨rfl, rfl, rfl, Nat.le_refl _, fun _ _ _ => rfl⟩
    simpa using this
  · refine wpList_append_own _ hgd s x 22 ho base 3 i0 (.int .i64 0) 1 8 Tryz.underlying22 hi0 hz0 hz1 hz2 rfl (by decide) _ _ _ hs hown ad zs.length c (zs.map (Value.int .i64)) hx (by simp) hz.cells (ints_oneCell' zs) (by unfold maxLen; omega) (by omega) hbase ?_
    intro v' w2 hown2 hgrow _
    obtain ⟨VA, VC, rfl⟩ := owns_form hown2
    exact h VA VC w2 hown2 hgrow

theorem ownsRow.intsAt {w : World} {base : Nat} {v : Value} {zs : List Int} (h : w.ownsRow base 3 1 v zs.length (zs.map (Value.int .i64))) (hw : ∀ z ∈ zs, I64 z) {lo hi : Nat} (hlo : lo ≤ base) (hhi : w.heap.size ≤ hi) : IntsAt w lo hi v zs := by
  obtain ⟨g, ho, hg⟩ := OwnI.of_owns h
  exact ho.ints hw fun h0 => by have := hg h0; omega

/-- Coercions in a row, whose maps read as they should, read as coercions. -/
theorem row_cosAt {w : World} {base lo hi n : Nat} {l : Value} {xs : List Value} {f : Nat → Co} {mv : Nat → Value} (h : w.ownsRow base 185 3 l n xs)
    (hcells : ∀ i, i < n → xs[i * 3]? = some (.int .i64 (f i).src) ∧ xs[i * 3 + 1]? = some (.int .i64 (f i).dst) ∧ xs[i * 3 + 2]? = some (mv i))
    (hmaps : ∀ i, i < n → IntsAt w lo hi (mv i) (f i).map) (hw : ∀ i, i < n → I64 (f i).src ∧ I64 (f i).dst) (hlo : lo ≤ base) (hhi : w.heap.size ≤ hi) : CosAt w lo hi l ((List.range n).map f) := by
  have e : ((List.range n).map f).length = n := by simp
  obtain ⟨hx, ⟨rfl, rfl⟩ | ⟨g, cap, cur, rfl, hb, hh, hc, hm, hs, ht⟩⟩ := h
  · exact ⟨none, 0, rfl, Nat.le_refl _, by unfold maxLen; omega, fun h0 => absurd h0 (by simp)⟩
  · have hlt := owns_lt (⟨hx, .inr ⟨g, cap, cur, rfl, hb, hh, hc, hm, hs, ht⟩⟩ : w.ownsRow base 185 3 (.slice (some ⟨g, 0, none⟩) n cap) n xs) g rfl
    have hcell : ∀ j u, xs[j]? = some u → w.cell? ⟨g, j, none⟩ = some u := fun j u hj => by
      have := World.ownsRow.cells (⟨hx, .inr ⟨g, cap, cur, rfl, hb, hh, hc, hm, hs, ht⟩⟩ : w.ownsRow base 185 3 (.slice (some ⟨g, 0, none⟩) n cap) n xs) (g := g) rfl j u hj
      rw [Go.WideShapes.add_plain] at this
      simpa using this
    refine ⟨_, cap, by rw [e], by rw [e]; exact hc, hm, fun h0 => ⟨g, 0, rfl, by omega, by omega, fun k hk => ?_⟩⟩
    rw [e] at hk
    obtain ⟨a, b, c⟩ := hcells k hk
    obtain ⟨w1, w2⟩ := hw k hk
    rw [List.getD_eq_getElem?_getD, List.getElem?_eq_getElem (by rw [e]; exact hk)]
    simp only [List.getElem_map, List.getElem_range, Option.getD_some]
    refine ⟨_, _, _, ?_, ?_, ?_, rfl, rfl, w1, w2, hmaps k hk⟩
    · rw [Nat.zero_add]; exact hcell _ _ a
    · rw [Nat.zero_add]; exact hcell _ _ b
    · rw [Nat.zero_add]; exact hcell _ _ c

theorem CosOwned.cosAt {w : World} {base : Nat} {l : Value} {f : Nat → Co} {n lo hi : Nat} (h : CosOwned w base l f n) (hw : ∀ i, i < n → I64 (f i).src ∧ I64 (f i).dst ∧ ∀ z ∈ (f i).map, I64 z) (hlo : lo ≤ base) (hhi : w.heap.size ≤ hi) :
    CosAt w lo hi l ((List.range n).map f) := by
  obtain ⟨xs, m, mv, h1, h2⟩ := h
  refine row_cosAt h1 h2.cells (fun i hi => (h2.own i hi).ints (hw i hi).2.2 fun h0 => ?_) (fun i hi => ⟨(hw i hi).1, (hw i hi).2.1⟩) hlo hhi
  have := h2.away i hi h0
  omega
end Go.Proofs.YtnmbjmocnafekaaGreatDoor

