/-
  What holds in the region counts[images]++ of waysMaking: by what has been done.
-/
import Derived.Test.YtokklaoldgdkaaaCnt
namespace Go.Proofs.Ytokklaoldgdkaaa
open Go.RowKit Go.ChangeMaps

/-- The map's block gm when its entry at the key has been laid: what a look-up finds, what the store into the entry leaves. -/
structure Laid (gm len : Nat) (c : Int) (key : Value) (kl : Lit) (D : DataW Unit) (st : Nat) (o1 : Obj) : Prop where
  look : ∀ w2 : World, w2.heap[gm]? = some o1 → (Instr.lookup 86 (.map (some gm)) key false).run Try.prog w2 = .ok (.int .i64 c) w2
  store : ∀ w2 : World, w2.heap[gm]? = some o1 → ∃ w3, (Instr.entryStore 86 (.map (some gm)) (goInt st) (.int .i64 (c + 1))).run Try.prog w2 = .ok () w3 ∧
    w3.ownsMap Try.prog 89 (plainElem Try.prog 3) gm (len + 1) (D.put kl (.lit (.int .i64 (c + 1)))) ∧ w2.grownBy w3 (some gm)

structure WFacts2 (gm gf len : Nat) (k c : Int) (v key : Value) (kl : Lit) (D : DataW Unit) (A : World) (f : Nat → Bool) (x15 x16 x17 x18 x19 x20 x21 x22 x23 : Value) (u : World) : Prop where
  b0 : f 0 = true → x15 = .map (some gm)
  b1 : f 1 = true → x16 = .pointer (some ⟨gf, 0, none⟩)
  b2 : f 2 = true → x17 = .int .i64 k
  b3 : f 3 = true → v = x18
  b4 : f 4 = true → key = x19
  b5 : f 5 = true → x20 = .int .i64 c
  b6 : f 6 = true → x21 = .int .i64 (c + 1)
  w0 : f 4 = false → u = A.drew
  w1 : f 4 = true → f 7 = false → Below A.heap.size A u
  w7 : f 7 = true → f 9 = false → ∃ (st : Nat) (o1 : Obj) (u2 : World) (v0 : Value), Below A.heap.size A u2 ∧ gm < A.heap.size ∧ u = setBlock u2 gm o1 ∧ u.heap[gm]? = some o1 ∧ x22 = .tuple #[v0, goInt st] ∧ (f 8 = true → x23 = goInt st) ∧ Laid gm len c key kl D st o1
  w9 : f 9 = true → u.ownsMap Try.prog 89 (plainElem Try.prog 3) gm (len + 1) (D.put kl (.lit (.int .i64 (c + 1)))) ∧ A.grownBy u (some gm)
  c54 : f 5 = true → f 4 = true
  c74 : f 7 = true → f 4 = true
  c97 : f 9 = true → f 7 = true
  c95 : f 9 = true → f 5 = true
  c98 : f 9 = true → f 8 = true
  c70 : f 7 = true → f 0 = true
  c41 : f 4 = true → f 1 = true
  c42 : f 4 = true → f 2 = true
  c87 : f 8 = true → f 7 = true

section
variable {gm gf len : Nat} {k c : Int} {v key : Value} {kl : Lit} {D : DataW Unit} {A u : World} {f : Nat → Bool} {x15 x16 x17 x18 x19 x20 x21 x22 x23 : Value}

theorem ff_of {a b : Bool} (h : a = true → b = true) (hb : b = false) : a = false := by
  cases a with
  | false => rfl
  | true => rw [h rfl] at hb; cases hb
theorem WFacts2.s0 (h : WFacts2 gm gf len k c v key kl D A f x15 x16 x17 x18 x19 x20 x21 x22 x23 u) : WFacts2 gm gf len k c v key kl D A (fun k => decide (k = 0) || f k) (.map (some gm)) x16 x17 x18 x19 x20 x21 x22 x23 u where
  b0 := fun _ => rfl
  b1 := by simpa using h.b1
  b2 := by simpa using h.b2
  b3 := by simpa using h.b3
  b4 := by simpa using h.b4
  b5 := by simpa using h.b5
  b6 := by simpa using h.b6
  w0 := by simpa using h.w0
  w1 := by simpa using h.w1
  w7 := by simpa using h.w7
  w9 := by simpa using h.w9
  c54 := by simpa using h.c54
  c74 := by simpa using h.c74
  c97 := by simpa using h.c97
  c95 := by simpa using h.c95
  c98 := by simpa using h.c98
  c70 := fun _ => by simp
  c41 := by simpa using h.c41
  c42 := by simpa using h.c42
  c87 := by simpa using h.c87
theorem WFacts2.s1 (h : WFacts2 gm gf len k c v key kl D A f x15 x16 x17 x18 x19 x20 x21 x22 x23 u) : WFacts2 gm gf len k c v key kl D A (fun k => decide (k = 1) || f k) x15 (.pointer (some ⟨gf, 0, none⟩)) x17 x18 x19 x20 x21 x22 x23 u where
  b0 := by simpa using h.b0
  b1 := fun _ => rfl
  b2 := by simpa using h.b2
  b3 := by simpa using h.b3
  b4 := by simpa using h.b4
  b5 := by simpa using h.b5
  b6 := by simpa using h.b6
  w0 := by simpa using h.w0
  w1 := by simpa using h.w1
  w7 := by simpa using h.w7
  w9 := by simpa using h.w9
  c54 := by simpa using h.c54
  c74 := by simpa using h.c74
  c97 := by simpa using h.c97
  c95 := by simpa using h.c95
  c98 := by simpa using h.c98
  c70 := by simpa using h.c70
  c41 := fun _ => by simp
  c42 := by simpa using h.c42
  c87 := by simpa using h.c87
theorem WFacts2.s2 (h : WFacts2 gm gf len k c v key kl D A f x15 x16 x17 x18 x19 x20 x21 x22 x23 u) : WFacts2 gm gf len k c v key kl D A (fun k => decide (k = 2) || f k) x15 x16 (.int .i64 k) x18 x19 x20 x21 x22 x23 u where
  b0 := by simpa using h.b0
  b1 := by simpa using h.b1
  b2 := fun _ => rfl
  b3 := by simpa using h.b3
  b4 := by simpa using h.b4
  b5 := by simpa using h.b5
  b6 := by simpa using h.b6
  w0 := by simpa using h.w0
  w1 := by simpa using h.w1
  w7 := by simpa using h.w7
  w9 := by simpa using h.w9
  c54 := by simpa using h.c54
  c74 := by simpa using h.c74
  c97 := by simpa using h.c97
  c95 := by simpa using h.c95
  c98 := by simpa using h.c98
  c70 := by simpa using h.c70
  c41 := by simpa using h.c41
  c42 := fun _ => by simp
  c87 := by simpa using h.c87
theorem WFacts2.s3 (h : WFacts2 gm gf len k c v key kl D A f x15 x16 x17 x18 x19 x20 x21 x22 x23 u) : WFacts2 gm gf len k c v key kl D A (fun k => decide (k = 3) || f k) x15 x16 x17 v x19 x20 x21 x22 x23 u where
  b0 := by simpa using h.b0
  b1 := by simpa using h.b1
  b2 := by simpa using h.b2
  b3 := fun _ => rfl
  b4 := by simpa using h.b4
  b5 := by simpa using h.b5
  b6 := by simpa using h.b6
  w0 := by simpa using h.w0
  w1 := by simpa using h.w1
  w7 := by simpa using h.w7
  w9 := by simpa using h.w9
  c54 := by simpa using h.c54
  c74 := by simpa using h.c74
  c97 := by simpa using h.c97
  c95 := by simpa using h.c95
  c98 := by simpa using h.c98
  c70 := by simpa using h.c70
  c41 := by simpa using h.c41
  c42 := by simpa using h.c42
  c87 := by simpa using h.c87
theorem WFacts2.s4 (h : WFacts2 gm gf len k c v key kl D A f x15 x16 x17 x18 x19 x20 x21 x22 x23 u) (g1 : f 1 = true) (g2 : f 2 = true) (h4 : f 4 = false) {u2 : World} (hb : Below A.heap.size A u2) : WFacts2 gm gf len k c v key kl D A (fun k => decide (k = 4) || f k) x15 x16 x17 x18 key x20 x21 x22 x23 u2 where
  b0 := by simpa using h.b0
  b1 := by simpa using h.b1
  b2 := by simpa using h.b2
  b3 := by simpa using h.b3
  b4 := fun _ => rfl
  b5 := by simpa using h.b5
  b6 := by simpa using h.b6
  w0 := fun e => by simp at e
  w1 := fun _ _ => hb
  w7 := fun e => by simp [ff_of h.c74 h4] at e
  w9 := fun e => by simp [ff_of h.c97 (ff_of h.c74 h4)] at e
  c54 := fun _ => by simp
  c74 := fun _ => by simp
  c97 := by simpa using h.c97
  c95 := by simpa using h.c95
  c98 := by simpa using h.c98
  c70 := by simpa using h.c70
  c41 := fun _ => by simp [g1]
  c42 := fun _ => by simp [g2]
  c87 := by simpa using h.c87
theorem WFacts2.s5 (h : WFacts2 gm gf len k c v key kl D A f x15 x16 x17 x18 x19 x20 x21 x22 x23 u) (h4 : f 4 = true) : WFacts2 gm gf len k c v key kl D A (fun k => decide (k = 5) || f k) x15 x16 x17 x18 x19 (.int .i64 c) x21 x22 x23 u where
  b0 := by simpa using h.b0
  b1 := by simpa using h.b1
  b2 := by simpa using h.b2
  b3 := by simpa using h.b3
  b4 := by simpa using h.b4
  b5 := fun _ => rfl
  b6 := by simpa using h.b6
  w0 := by simpa using h.w0
  w1 := by simpa using h.w1
  w7 := by simpa using h.w7
  w9 := by simpa using h.w9
  c54 := fun _ => by simp [h4]
  c74 := by simpa using h.c74
  c97 := by simpa using h.c97
  c95 := fun _ => by simp
  c98 := by simpa using h.c98
  c70 := by simpa using h.c70
  c41 := by simpa using h.c41
  c42 := by simpa using h.c42
  c87 := by simpa using h.c87
theorem WFacts2.s6 (h : WFacts2 gm gf len k c v key kl D A f x15 x16 x17 x18 x19 x20 x21 x22 x23 u) : WFacts2 gm gf len k c v key kl D A (fun k => decide (k = 6) || f k) x15 x16 x17 x18 x19 x20 (.int .i64 (c + 1)) x22 x23 u where
  b0 := by simpa using h.b0
  b1 := by simpa using h.b1
  b2 := by simpa using h.b2
  b3 := by simpa using h.b3
  b4 := by simpa using h.b4
  b5 := by simpa using h.b5
  b6 := fun _ => rfl
  w0 := by simpa using h.w0
  w1 := by simpa using h.w1
  w7 := by simpa using h.w7
  w9 := by simpa using h.w9
  c54 := by simpa using h.c54
  c74 := by simpa using h.c74
  c97 := by simpa using h.c97
  c95 := by simpa using h.c95
  c98 := by simpa using h.c98
  c70 := by simpa using h.c70
  c41 := by simpa using h.c41
  c42 := by simpa using h.c42
  c87 := by simpa using h.c87
theorem WFacts2.s7 (h : WFacts2 gm gf len k c v key kl D A f x15 x16 x17 x18 x19 x20 x21 x22 x23 u) (h0 : f 0 = true) (h4 : f 4 = true) (_h7 : f 7 = false) (h8 : f 8 = false) (h9 : f 9 = false) {st : Nat} {o1 : Obj} {v0 : Value} (hgm : gm < A.heap.size) (hb : Below A.heap.size A u) (hh : (setBlock u gm o1).heap[gm]? = some o1) (hl : Laid gm len c key kl D st o1) : WFacts2 gm gf len k c v key kl D A (fun k => decide (k = 7) || f k) x15 x16 x17 x18 x19 x20 x21 (.tuple #[v0, goInt st]) x23 (setBlock u gm o1) where
  b0 := by simpa using h.b0
  b1 := by simpa using h.b1
  b2 := by simpa using h.b2
  b3 := by simpa using h.b3
  b4 := by simpa using h.b4
  b5 := by simpa using h.b5
  b6 := by simpa using h.b6
  w0 := fun e => by simp [h4] at e
  w1 := fun _ e => by simp at e
  w7 := fun _ _ => ⟨st, o1, u, v0, hb, hgm, rfl, hh, rfl, fun e => by simp [h8] at e, hl⟩
  w9 := fun e => by simp [h9] at e
  c54 := by simpa using h.c54
  c74 := fun _ => by simp [h4]
  c97 := fun _ => by simp
  c95 := by simpa using h.c95
  c98 := by simpa using h.c98
  c70 := fun _ => by simp [h0]
  c41 := by simpa using h.c41
  c42 := by simpa using h.c42
  c87 := fun _ => by simp
theorem WFacts2.s8 (h : WFacts2 gm gf len k c v key kl D A f x15 x16 x17 x18 x19 x20 x21 x22 x23 u) (h7 : f 7 = true) (h9 : f 9 = false) {v0 : Value} {st : Nat} (hx : x22 = .tuple #[v0, goInt st]) : WFacts2 gm gf len k c v key kl D A (fun k => decide (k = 8) || f k) x15 x16 x17 x18 x19 x20 x21 x22 (goInt st) u where
  b0 := by simpa using h.b0
  b1 := by simpa using h.b1
  b2 := by simpa using h.b2
  b3 := by simpa using h.b3
  b4 := by simpa using h.b4
  b5 := by simpa using h.b5
  b6 := by simpa using h.b6
  w0 := by simpa using h.w0
  w1 := by simpa using h.w1
  w7 := fun _ _ => by
    obtain ⟨st', o1, u2, v0', h1, h2, h3, h4, h5, _, h7'⟩ := h.w7 h7 h9
    have e := hx.symm.trans h5
    simp only [Value.tuple.injEq, Array.mk.injEq, List.cons.injEq, and_true] at e
    have e2 : (goInt (st : Int)) = goInt (st' : Int) := e.2
    exact ⟨st', o1, u2, v0', h1, h2, h3, h4, h5, fun _ => e2, h7'⟩
  w9 := by simpa using h.w9
  c54 := by simpa using h.c54
  c74 := by simpa using h.c74
  c97 := by simpa using h.c97
  c95 := by simpa using h.c95
  c98 := fun _ => by simp
  c70 := by simpa using h.c70
  c41 := by simpa using h.c41
  c42 := by simpa using h.c42
  c87 := fun _ => by simp [h7]
theorem WFacts2.s9 (h : WFacts2 gm gf len k c v key kl D A f x15 x16 x17 x18 x19 x20 x21 x22 x23 u) (h4 : f 4 = true) (h5 : f 5 = true) (h7 : f 7 = true) (h8 : f 8 = true) {u2 : World} (ho : u2.ownsMap Try.prog 89 (plainElem Try.prog 3) gm (len + 1) (D.put kl (.lit (.int .i64 (c + 1))))) (hg : A.grownBy u2 (some gm)) : WFacts2 gm gf len k c v key kl D A (fun k => decide (k = 9) || f k) x15 x16 x17 x18 x19 x20 x21 x22 x23 u2 where
  b0 := by simpa using h.b0
  b1 := by simpa using h.b1
  b2 := by simpa using h.b2
  b3 := by simpa using h.b3
  b4 := by simpa using h.b4
  b5 := by simpa using h.b5
  b6 := by simpa using h.b6
  w0 := fun e => by simp [h4] at e
  w1 := fun _ e => by simp [h7] at e
  w7 := fun _ e => by simp at e
  w9 := fun _ => ⟨ho, hg⟩
  c54 := by simpa using h.c54
  c74 := by simpa using h.c74
  c97 := fun _ => by simp [h7]
  c95 := fun _ => by simp [h5]
  c98 := fun _ => by simp [h8]
  c70 := by simpa using h.c70
  c41 := by simpa using h.c41
  c42 := by simpa using h.c42
  c87 := by simpa using h.c87
end
theorem wpOpIn_step {F : Fence} {n : Nat} {P : Program} {ops : Array Oper} {Q : Exit → Act → World → Prop} {i : Nat} {o : Oper} {K : Act → World → Prop} {a : Act} {w : World} (ho : ops[i]? = some o) (hg : o.guard = none) (h : ∀ K' : Act → World → Prop, (∀ a w, K a w → K' a w) → o.wpIn F n P a w K' Q) : wpOpIn F n P ops Q i K a w := by
  unfold wpOpIn
  simp only [ho, Region.wanted, hg, if_true]
  exact h K fun _ _ h => h
end Go.Proofs.Ytokklaoldgdkaaa
