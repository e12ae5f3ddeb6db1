/-
  append of one element to a row of the call's own: the new slice lies in the old row or in a new block, and the old slice can be had back.
-/
import Derived.Test.YtilcahidmoaakaaCopyw
import Derived.Test.YtilcahidmoaakaaWay
import Derived.Deep.DeepAppendRoom
import Derived.ArgAppend
namespace Go.Proofs.Ytilcahidmoaakaa
open Go.RowKit

section
variable {w w' : World} {base : Nat} {e : TypeId} {v : Value} {n : Nat} {xs : List Value}
/-- The row without its last element. -/
theorem owns_shrink {g cap : Nat} {x : Value} (h : w.ownsRow base e 1 (.slice (some ⟨g, 0, none⟩) (n + 1) cap) (n + 1) (xs ++ [x])) : w.ownsRow base e 1 (.slice (some ⟨g, 0, none⟩) n cap) n xs := by
  obtain ⟨h1, ⟨h2, _⟩ | ⟨g', cap', cur, hv, hb, hh, hc, hm, hs, ht⟩⟩ := h
  · cases h2
  · simp only [Value.slice.injEq, Option.some.injEq, Addr.mk.injEq, and_true, true_and] at hv
    obtain ⟨rfl, rfl⟩ := hv
    have hl : xs.length = n * 1 := by simp at h1; omega
    refine ⟨hl, .inr ⟨g, cap, cur, rfl, hb, hh, by omega, hm, hs, ?_⟩⟩
    have h2 : (cur.toList.take ((n + 1) * 1)).take (n * 1) = (xs ++ [x]).take (n * 1) := by rw [ht]
    rw [List.take_take, Nat.min_eq_left (by omega), ← hl, List.take_left] at h2
    rw [← hl]
    exact h2
/-- What append of one element leaves: v' owns one element more; with v' still whole, v can be had back. -/
structure Pushed (w w' : World) (base : Nat) (e : TypeId) (v v' : Value) (n : Nat) (xs : List Value) (x : Value) : Prop where
  own : w'.ownsRow base e 1 v' (n + 1) (xs ++ [x])
  grown : w.grownBy w' v.ownBlock
  at_ : v'.ownBlock = v.ownBlock ∨ ∃ g, v'.ownBlock = some g ∧ w.heap.size ≤ g ∧ g < w'.heap.size
  back : ∀ u : World, u.ownsRow base e 1 v' (n + 1) (xs ++ [x]) → (∀ b, v.ownBlock = some b → v'.ownBlock ≠ some b → u.heap[b]? = w'.heap[b]?) → u.ownsRow base e 1 v n xs
  form : ∃ g cap, v' = .slice (some ⟨g, 0, none⟩) (n + 1) cap

theorem run_push {P : Program} (t ty : TypeId) (i : TypeInfo) (z : Value) (bytes : Nat) (ht : P.underlying t = some (.slice e)) (hi : P.info? e = some i) (hz : i.zero = some z) (hsize : i.size = 1) (hby : i.bytes = bytes) (hzs : z.cells.size = 1)
    (hown : w.ownsRow base e 1 v n xs) (a : Addr) (c : Nat) (x : Value) (hx : w.cell? a = some x) (h1 : x.oneCell' = true) (h63 : n + 1 ≤ maxLen) (hbytes : (n + 1) * bytes ≤ 140737488355328) (hbase : base ≤ w.heap.size) :
    ∃ v' w', (Builtin.append_ #[t, t] ty #[v, .slice (some a) 1 c]).run P w = .ok v' w' ∧ Pushed w w' base e v v' n xs x := by
  have hnews : ∀ j u, [x][j]? = some u → w.cell? (a.add j) = some u := fun j u hj => by
    match j, hj with
    | 0, hj => simp at hj; subst hj; simpa [Addr.add] using hx
  have hone : ∀ u ∈ [x], u.oneCell' = true := fun u hu => by simp at hu; subst hu; exact h1
  have fresh : ∀ v' w', w'.ownsRow w.heap.size e 1 v' (n + 1) (xs ++ [x]) → w.grownBy w' none → Pushed w w' base e v v' n xs x := by
    intro v' w' ho hg
    have hlt := owns_lt ho
    obtain ⟨g', cap', hv'⟩ : ∃ g cap, v' = .slice (some ⟨g, 0, none⟩) (n + 1) cap := by
      obtain ⟨_, ⟨_, h⟩ | ⟨g, cap, cur, hv, _⟩⟩ := ho
      · omega
      · exact ⟨g, cap, hv⟩
    refine ⟨ownsRow_lower ho hbase, ⟨hg.os, hg.tape, hg.output, hg.size, fun k hk _ => hg.block k hk (by simp)⟩, .inr ⟨g', by rw [hv']; rfl, hlt g' (by rw [hv']; rfl)⟩, fun u hu hk => ?_, ⟨g', cap', hv'⟩⟩
    refine ownsRow_keep1 hown fun b hb => (hk b hb ?_).trans (hg.block b (owns_lt hown b hb).2 (by simp))
    rw [hv']
    intro h
    simp only [Value.ownBlock, Option.some.injEq] at h
    have h2 := (hlt g' (by rw [hv']; rfl)).1
    have h3 := (owns_lt hown b hb).2
    omega
  obtain ⟨hl, ⟨rfl, rfl⟩ | ⟨g, cap, cur, rfl, hb, hh, hc, hm, hs, htk⟩⟩ := hown
  · obtain rfl : xs = [] := List.eq_nil_of_length_eq_zero (by simpa using hl)
    obtain ⟨v', w', hr, ho, hg, _⟩ := run_append_own (P := P) w w.heap.size t ty e i z 1 bytes ht hi hz hsize hby hzs (by omega) (.slice none 0 0) 0 [] (World.ownsRow_nil w _ e 1) a 1 c [x] rfl hnews hone h63 hbytes (Nat.le_refl _)
    exact ⟨v', w', hr, fresh v' w' ho hg⟩
  · have hown2 : w.ownsRow base e 1 (.slice (some ⟨g, 0, none⟩) n cap) n xs := ⟨hl, .inr ⟨g, cap, cur, rfl, hb, hh, hc, hm, hs, htk⟩⟩
    by_cases hroom : n + 1 ≤ cap
    · obtain ⟨w', hr, ho, hg⟩ := run_append_own_spare (P := P) w base t ty e i 1 ht hi hsize g n cap xs hown2 a 1 c [x] rfl hnews hone hroom
      exact ⟨_, w', hr, ⟨ho, hg, .inl rfl, fun u hu _ => owns_shrink hu, ⟨_, _, rfl⟩⟩⟩
    · obtain ⟨v', w', hr, ho, hg⟩ := run_append_arg_grows (P := P) w t ty e i z 1 bytes ht hi hz hsize hby hzs (by omega) ⟨g, 0, none⟩ n cap xs hl (hown2.cells (g := g) rfl) a 1 c [x] rfl hnews (by omega) h63 hbytes
      exact ⟨v', w', hr, fresh v' w' ho hg⟩

/-- As a step of a region that draws its order. -/
theorem step_push {P : Program} {ops : Array Oper} {o : Oper} {a : Act} {K : Act → World → Prop} {Q : Exit → Act → World → Prop} {E : Prop} (hw : Region.wanted o (yielded ops a.tmps) = true) (s y : Operand) (t : TypeId)
    (hop : o.op = .call { callee := .builtin .append, args := #[s, y], argTypes := #[t, t] }) (i : TypeInfo) (z : Value) (bytes : Nat) (ht : P.underlying t = some (.slice e)) (hi : P.info? e = some i) (hz : i.zero = some z) (hsize : i.size = 1) (hby : i.bytes = bytes) (hzs : z.cells.size = 1)
    (hs : a.eval s = v) (hown : w.ownsRow base e 1 v n xs) (ad : Addr) (c : Nat) (x : Value) (hy : a.eval y = .slice (some ad) 1 c) (hx : w.cell? ad = some x) (h1 : x.oneCell' = true) (h63 : n + 1 ≤ maxLen) (hbytes : (n + 1) * bytes ≤ 140737488355328) (hbase : base ≤ w.heap.size)
    (h : ∀ v' w', Pushed w w' base e v v' n xs x → K (a.put o.dst v') w') :
    if Region.wanted o (yielded ops a.tmps) = true then Oper.wp P o a w K Q else E := by
  rw [if_pos hw]
  obtain ⟨v', w', hr, hp⟩ := run_push (P := P) t o.type i z bytes ht hi hz hsize hby hzs hown ad c x hx h1 h63 hbytes hbase
  unfold Oper.wp execOp
  simp only [hop, resolve, invoke, builtin, Sem.run_bind, Sem.run_pure, Result.andThen_ok, List.map_toArray, List.map_cons, List.map_nil, hs, hy, hr]
  exact h v' w' hp
theorem wpList_push {P : Program} {ops : Array Oper} {rest : List Oper} {o : Oper} {a : Act} {Q : Exit → Act → World → Prop} (hgd : o.guard = none) (s y : Operand) (t : TypeId)
    (hop : o.op = .call { callee := .builtin .append, args := #[s, y], argTypes := #[t, t] }) (i : TypeInfo) (z : Value) (bytes : Nat) (ht : P.underlying t = some (.slice e)) (hi : P.info? e = some i) (hz : i.zero = some z) (hsize : i.size = 1) (hby : i.bytes = bytes) (hzs : z.cells.size = 1)
    (hs : a.eval s = v) (hown : w.ownsRow base e 1 v n xs) (ad : Addr) (c : Nat) (x : Value) (hy : a.eval y = .slice (some ad) 1 c) (hx : w.cell? ad = some x) (h1 : x.oneCell' = true) (h63 : n + 1 ≤ maxLen) (hbytes : (n + 1) * bytes ≤ 140737488355328) (hbase : base ≤ w.heap.size)
    (h : ∀ v' w', Pushed w w' base e v v' n xs x → wpList P ops Q rest (a.put o.dst v') w') : wpList P ops Q (o :: rest) a w := by
  refine wpList_plain hgd fun K hK => ?_
  obtain ⟨v', w', hr, hp⟩ := run_push (P := P) t o.type i z bytes ht hi hz hsize hby hzs hown ad c x hx h1 h63 hbytes hbase
  unfold Oper.wp execOp
  simp only [hop, resolve, invoke, builtin, Sem.run_bind, Sem.run_pure, Result.andThen_ok, List.map_toArray, List.map_cons, List.map_nil, hs, hy, hr]
  exact hK _ _ (h v' w' hp)
end

/-- The slice v reads as the numbers zs; its cells, if any, lie in a block of S. -/
def IntsIn (w : World) (S : Nat → Prop) (v : Value) (zs : List Int) : Prop :=
  ∃ (A : Option Addr) (cap : Nat), v = .slice A zs.length cap ∧ zs.length ≤ cap ∧ cap ≤ maxLen ∧ (∀ z ∈ zs, I64 z) ∧
    (0 < zs.length → ∃ b off, A = some ⟨b, off, none⟩ ∧ S b ∧ ∀ k, k < zs.length → w.cell? ⟨b, off + k, none⟩ = some (.int .i64 (zs.getD k 0)))
theorem IntsIn.keep {w w' : World} {S : Nat → Prop} {v : Value} {zs : List Int} (h : IntsIn w S v zs) (hk : ∀ b, S b → w'.heap[b]? = w.heap[b]?) : IntsIn w' S v zs := by
  obtain ⟨A, cap, e, h1, h2, h3, h4⟩ := h
  refine ⟨A, cap, e, h1, h2, h3, fun h0 => ?_⟩
  obtain ⟨b, off, hA, hS, hc⟩ := h4 h0
  exact ⟨b, off, hA, hS, fun k hkk => (World.cell?_of_block (w := w) (hk b hS)).trans (hc k hkk)⟩
theorem IntsIn.more {w : World} {S S' : Nat → Prop} {v : Value} {zs : List Int} (h : IntsIn w S v zs) (hS : ∀ b, S b → S' b) : IntsIn w S' v zs := by
  obtain ⟨A, cap, e, h1, h2, h3, h4⟩ := h
  refine ⟨A, cap, e, h1, h2, h3, fun h0 => ?_⟩
  obtain ⟨b, off, hA, hb, hc⟩ := h4 h0
  exact ⟨b, off, hA, hS b hb, hc⟩
theorem IntsIn.at {w : World} {S : Nat → Prop} {v : Value} {zs : List Int} {lo hi : Nat} (h : IntsIn w S v zs) (hS : ∀ b, S b → lo ≤ b ∧ b < hi) : IntsAt w lo hi v zs := by
  obtain ⟨A, cap, e, h1, h2, h3, h4⟩ := h
  refine ⟨A, cap, e, h1, h2, h3, fun h0 => ?_⟩
  obtain ⟨b, off, hA, hb, hc⟩ := h4 h0
  exact ⟨b, off, hA, (hS b hb).1, (hS b hb).2, hc⟩
theorem IntsIn.one {w : World} {S : Nat → Prop} {v : Value} {zs : List Int} (h : IntsIn w S v zs) : v.oneCell' = true := by
  obtain ⟨A, cap, rfl, _⟩ := h
  rfl
end Go.Proofs.Ytilcahidmoaakaa
