/-
  The contracts of ApplyCoercion, the program's and the model's.
  Ways as plain data: where a row of coercions leads, and what it makes of a value. Nothing here speaks of the program.
  append of one element to a row of the call's own: the new slice lies in the old row or in a new block, and the old slice can be had back.
  Who takes what an iterator yields, whatever it is; a range over an iterator, from the side of the loop.
-/
import Derived.Test.YtnmbjmocnafekaaGreatDoorG5
import Derived.Deep.RegionHeld3
import Derived.BigQuiet
import Derived.Deep.DeepAppendRoom
import Derived.ArgAppend
import Derived.RangeFuncSeq
import Derived.RangeFuncIn
import Derived.RangeFuncCalls
import Derived.RangeFuncLeaves
import Derived.RangeFuncBound
import Derived.RangeFuncNested
import Derived.Shelf.Abstract
import Derived.OwnWalkIn
import Derived.TacticsInMore
namespace Go.Proofs.YtnmbjmocnafekaaGreatDoor
open Go.RowKit

/-- A world of a class. -/
structure InC (D : World → Prop) where
  val : World
  inD : D val
/-- A region that draws its order, every operation of which yields one value in every world of a class and leaves a world of the class: one walk serves every order. -/
theorem wp_region_class {P : Program} (D : World → Prop) {id : Nat} {Q : Exit → Act → World → Prop} {a : Act} {w : World} {l : List Oper} (hm : P.follows .mixedOrders = true) (hB : Region.lexB .any l.toArray = true) (hD : D w.drew)
    (h : wpQuiet P l.toArray (fun w' => ∃ x : InC D, w' = x.val) (fun a' => ∀ w', (∃ x : InC D, w' = x.val) → Q .normal a' w') l a) : (Code.region id l.toArray true).wp P Q a w :=
  wp_region_quiet (C := fun w' => ∃ x : InC D, w' = x.val) hm hB ⟨⟨_, hD⟩, rfl⟩ (by simpa using h)

theorem lookOf_in {zs : List Int} {v : Int} (h0 : 0 ≤ v) (h : v.toNat < zs.length) : lookOf zs v = zs[v.toNat] := by
  unfold lookOf
  rw [if_pos ⟨h0, by omega⟩, List.getD_eq_getElem?_getD, List.getElem?_eq_getElem h]; rfl

/-- Are the types valid, and is there such a coercion? -/
def hasC (t : Ty) (i : Int) : Bool := tyOk t && ixB i t.cos.length
theorem hasC_of {t : Ty} {i : Int} (h : hasC t i = true) : tyOk t = true ∧ 0 ≤ i ∧ i < t.cos.length ∧ i.toNat < t.cos.length := by
  simp only [hasC, Bool.and_eq_true, ixB, decide_eq_true_eq] at h
  exact ⟨h.1, h.2.1, h.2.2, by omega⟩
theorem hasC_co {t : Ty} {i : Int} (h : hasC t i = true) (hi : i.toNat < t.cos.length) : coOk t.sizes t.cos[i.toNat] = true := by
  have h1 := (hasC_of h).1
  simp only [tyOk, Bool.and_eq_true, List.all_eq_true] at h1
  exact h1.2 _ (List.getElem_mem hi)
/-- What a coercion makes of a value. -/
def applyV (t : Ty) (i v : Int) : Int := if hasC t i = true then lookOf (t.cos.getD i.toNat default).map v else -1
theorem applyV_no {t : Ty} {i v : Int} (h : hasC t i = false) : applyV t i v = -1 := by unfold applyV; rw [h]; rfl
theorem applyV_yes {t : Ty} {i v : Int} (h : hasC t i = true) (hi : i.toNat < t.cos.length) : applyV t i v = lookOf t.cos[i.toNat].map v := by
  unfold applyV; rw [if_pos h, List.getD_eq_getElem?_getD, List.getElem?_eq_getElem hi]; rfl

end Go.Proofs.YtnmbjmocnafekaaGreatDoor

namespace Go.Proofs.YtnmbjmocnafekaaGreatDoor
open Go.RowKit

/-- The type to which a row of coercions leads from a type, if it is a way. -/
def wayEnd (cs : List Co) : Int → List Int → Option Int
  | k, [] => some k
  | k, i :: is => if ixB i cs.length = true ∧ (cs.getD i.toNat default).src = k then wayEnd cs (cs.getD i.toNat default).dst is else none
/-- What the maps of a row of coercions make of a value. -/
def goV (cs : List Co) : Int → List Int → Int
  | v, [] => v
  | v, i :: is => goV cs (lookOf (cs.getD i.toNat default).map v) is

theorem drop_get {zs : List Int} {j : Nat} (hj : j < zs.length) : zs.drop j = zs[j] :: zs.drop (j + 1) := List.drop_eq_getElem_cons hj
theorem getD_at {cs : List Co} {i : Nat} (hi : i < cs.length) : cs.getD i default = cs[i] := by rw [List.getD_eq_getElem?_getD, List.getElem?_eq_getElem hi]; rfl

theorem wayEnd_yes {cs : List Co} {k : Int} {zs : List Int} {j : Nat} (hj : j < zs.length) (h0 : 0 ≤ zs[j]) (hi : zs[j].toNat < cs.length) (hs : cs[zs[j].toNat].src = k) :
    wayEnd cs k (zs.drop j) = wayEnd cs cs[zs[j].toNat].dst (zs.drop (j + 1)) := by
  rw [drop_get hj, wayEnd, getD_at hi, if_pos ⟨ixB_yes h0 (by omega), hs⟩]
theorem wayEnd_out {cs : List Co} {k : Int} {zs : List Int} {j : Nat} (hj : j < zs.length) (h : ixB zs[j] cs.length = false) : wayEnd cs k (zs.drop j) = none := by
  rw [drop_get hj, wayEnd, if_neg (fun hh => by rw [h] at hh; exact absurd hh.1 (by simp))]
theorem wayEnd_other {cs : List Co} {k : Int} {zs : List Int} {j : Nat} (hj : j < zs.length) (hi : zs[j].toNat < cs.length) (hs : ¬ cs[zs[j].toNat].src = k) : wayEnd cs k (zs.drop j) = none := by
  rw [drop_get hj, wayEnd, getD_at hi, if_neg (fun hh => hs hh.2)]
theorem wayEnd_done (cs : List Co) (k : Int) (zs : List Int) : wayEnd cs k (zs.drop zs.length) = some k := by rw [List.drop_length]; rfl
theorem goV_step {cs : List Co} {v : Int} {zs : List Int} {j : Nat} (hj : j < zs.length) (hi : zs[j].toNat < cs.length) : goV cs v (zs.drop j) = goV cs (lookOf cs[zs[j].toNat].map v) (zs.drop (j + 1)) := by
  rw [drop_get hj, goV, getD_at hi]
theorem goV_done (cs : List Co) (v : Int) (zs : List Int) : goV cs v (zs.drop zs.length) = v := by rw [List.drop_length]; rfl

/-- A row that is a way still is one when its first coercion is gone; that coercion begins with the type. -/
theorem wayEnd_some {cs : List Co} {k : Int} {zs : List Int} {j : Nat} (hj : j < zs.length) (h : (wayEnd cs k (zs.drop j)).isSome = true) :
    0 ≤ zs[j] ∧ zs[j] < cs.length ∧ ∃ hi : zs[j].toNat < cs.length, cs[zs[j].toNat].src = k ∧ (wayEnd cs cs[zs[j].toNat].dst (zs.drop (j + 1))).isSome = true := by
  rw [drop_get hj, wayEnd] at h
  split at h
  case isTrue hh =>
    obtain ⟨h1, h2⟩ := hh
    simp only [ixB, decide_eq_true_eq] at h1
    have hi : zs[j].toNat < cs.length := by omega
    rw [getD_at hi] at h2 h
    exact ⟨h1.1, h1.2, hi, h2, h⟩
  case isFalse => simp at h

/-- A value of a type. -/
def ValOf (ss : List Int) (k v : Int) : Prop := 0 ≤ k ∧ k < ss.length ∧ 0 ≤ v ∧ v < ss.getD k.toNat 0
/-- The coercion i of valid types, and a value of its type. -/
theorem tyOk_co {t : Ty} (h : tyOk t = true) {i : Nat} (hi : i < t.cos.length) : coOk t.sizes t.cos[i] = true := by
  simp only [tyOk, Bool.and_eq_true, List.all_eq_true] at h
  exact h.2 _ (List.getElem_mem hi)
theorem tyOk_few {t : Ty} (h : tyOk t = true) : t.cos.length ≤ 8 := by
  simp only [tyOk, Bool.and_eq_true, decide_eq_true_eq] at h
  exact h.1.2
theorem valOf_step {t : Ty} (h : tyOk t = true) {i : Nat} (hi : i < t.cos.length) {v : Int} (hv : ValOf t.sizes t.cos[i].src v) :
    0 ≤ v ∧ v < t.cos[i].map.length ∧ t.cos[i].map.length ≤ 4 ∧ ∃ hn : v.toNat < t.cos[i].map.length, lookOf t.cos[i].map v = t.cos[i].map[v.toNat] ∧ ValOf t.sizes t.cos[i].dst (lookOf t.cos[i].map v) := by
  obtain ⟨h1, h2, h3, h4, h5⟩ := coOk_of (tyOk_co h hi)
  obtain ⟨g1, g2, g3, g4⟩ := hv
  have hs : t.cos[i].src.toNat < t.sizes.length := by omega
  have hsz := (sizesOk_of (tyOk_sizes h)).2.2 _ hs
  have e : t.sizes.getD t.cos[i].src.toNat 0 = t.sizes[t.cos[i].src.toNat] := by rw [List.getD_eq_getElem?_getD, List.getElem?_eq_getElem hs]; rfl
  have hn : v.toNat < t.cos[i].map.length := by omega
  have hl := lookOf_in g3 hn
  obtain ⟨h6, h7⟩ := h5 _ hn
  exact ⟨g3, by omega, by omega, hn, hl, by omega, h3, by omega, by omega⟩
theorem valOf_hasV0 {ss : List Int} {k v : Int} : hasV0 ss k v = true ↔ ValOf ss k v := by
  simp only [hasV0, ixB, Bool.and_eq_true, decide_eq_true_eq, ValOf]
  exact ⟨fun h => ⟨h.1.1, h.1.2, h.2.1, h.2.2⟩, fun h => ⟨⟨h.1, h.2.1⟩, h.2.2.1, h.2.2.2⟩⟩

/-- What GoWay answers. -/
def goWayV (t : Ty) (k : Int) (zs : List Int) (v : Int) : Int := if hasV t k v = true ∧ (wayEnd t.cos k zs).isSome = true then goV t.cos v zs else -1
/-- The end of a way, -1 if it is none. -/
def endV (t : Ty) (k : Int) (zs : List Int) : Int := (wayEnd t.cos k zs).getD (-1)
theorem wayEnd_ge {t : Ty} (h : tyOk t = true) : ∀ (zs : List Int) (k e : Int), 0 ≤ k → wayEnd t.cos k zs = some e → 0 ≤ e := by
  intro zs
  induction zs with
  | nil => intro k e hk he; simp only [wayEnd, Option.some.injEq] at he; omega
  | cons i is ih =>
    intro k e hk he
    rw [wayEnd] at he
    split at he
    case isTrue hh =>
      have h1 := hh.1
      simp only [ixB, decide_eq_true_eq] at h1
      have hi : i.toNat < t.cos.length := by omega
      rw [getD_at hi] at he
      have := coOk_of (tyOk_co h hi)
      exact ih _ _ (by omega) he
    case isFalse => cases he
theorem endV_neg {t : Ty} (h : tyOk t = true) {zs : List Int} {k : Int} (hk : 0 ≤ k) : decide (endV t k zs < 0) = !(wayEnd t.cos k zs).isSome := by
  unfold endV
  cases he : wayEnd t.cos k zs with
  | none => rfl
  | some e =>
    have := wayEnd_ge h zs k e hk he
    simp
    omega
end Go.Proofs.YtnmbjmocnafekaaGreatDoor

namespace Go.Proofs.YtnmbjmocnafekaaGreatDoor
open Go.RowKit

section
variable {w w' : World} {base : Nat} {e : TypeId} {v : Value} {n : Nat} {xs : List Value}
/-- The row without its last element. -/
theorem owns_shrink {g cap : Nat} {x : Value} (h : w.ownsRow base e 1 (.slice (some ⟨g, 0, none⟩) (n + 1) cap) (n + 1) (xs ++ [x])) : w.ownsRow base e 1 (.slice (some ⟨g, 0, none⟩) n cap) n xs := by
  obtain ⟨h1, ⟨h2, _⟩ | ⟨g', cap', cur, hv, hb, hh, hc, hm, hs, ht⟩⟩ := h
  · cases h2
  · simp only [Value.slice.injEq, Option.some.injEq, Addr.mk.injEq, and_true, true_and] at hv
    obtain ⟨rfl, rfl⟩ := hv
    have hl : xs.length = n * 1 := by simp at h1; omega
    refine ⟨hl, .inr ⟨g, cap, cur, rfl, hb, hh, by omega, hm, hs, ?_⟩⟩
    have h2 : (cur.toList.take ((n + 1) * 1)).take (n * 1) = (xs ++ [x]).take (n * 1) := by rw [ht]
    rw [List.take_take, Nat.min_eq_left (by omega), ← hl, List.take_left] at h2
    rw [← hl]
    exact h2
/-- What append of one element leaves: v' owns one element more; with v' still whole, v can be had back. -/
structure Pushed (w w' : World) (base : Nat) (e : TypeId) (v v' : Value) (n : Nat) (xs : List Value) (x : Value) : Prop where
  own : w'.ownsRow base e 1 v' (n + 1) (xs ++ [x])
  grown : w.grownBy w' v.ownBlock
  at_ : v'.ownBlock = v.ownBlock ∨ ∃ g, v'.ownBlock = some g ∧ w.heap.size ≤ g ∧ g < w'.heap.size
  back : ∀ u : World, u.ownsRow base e 1 v' (n + 1) (xs ++ [x]) → (∀ b, v.ownBlock = some b → v'.ownBlock ≠ some b → u.heap[b]? = w'.heap[b]?) → u.ownsRow base e 1 v n xs
  form : ∃ g cap, v' = .slice (some ⟨g, 0, none⟩) (n + 1) cap

theorem run_push {P : Program} (t ty : TypeId) (i : TypeInfo) (z : Value) (bytes : Nat) (ht : P.underlying t = some (.slice e)) (hi : P.info? e = some i) (hz : i.zero = some z) (hsize : i.size = 1) (hby : i.bytes = bytes) (hzs : z.cells.size = 1)
    (hown : w.ownsRow base e 1 v n xs) (a : Addr) (c : Nat) (x : Value) (hx : w.cell? a = some x) (h1 : x.oneCell' = true) (h63 : n + 1 ≤ maxLen) (hbytes : (n + 1) * bytes ≤ 140737488355328) (hbase : base ≤ w.heap.size) :
    ∃ v' w', (Builtin.append_ #[t, t] ty #[v, .slice (some a) 1 c]).run P w = .ok v' w' ∧ Pushed w w' base e v v' n xs x := by
  have hnews : ∀ j u, [x][j]? = some u → w.cell? (a.add j) = some u := fun j u hj => by
    match j, hj with
    | 0, hj => simp at hj; subst hj; simpa [Addr.add] using hx
  have hone : ∀ u ∈ [x], u.oneCell' = true := fun u hu => by simp at hu; subst hu; exact h1
  have fresh : ∀ v' w', w'.ownsRow w.heap.size e 1 v' (n + 1) (xs ++ [x]) → w.grownBy w' none → Pushed w w' base e v v' n xs x := by
    intro v' w' ho hg
    have hlt := owns_lt ho
    obtain ⟨g', cap', hv'⟩ : ∃ g cap, v' = .slice (some ⟨g, 0, none⟩) (n + 1) cap := by
      obtain ⟨_, ⟨_, h⟩ | ⟨g, cap, cur, hv, _⟩⟩ := ho
      · omega
      · exact ⟨g, cap, hv⟩
    refine ⟨ownsRow_lower ho hbase, ⟨hg.os, hg.tape, hg.output, hg.size, fun k hk _ => hg.block k hk (by simp)⟩, .inr ⟨g', by rw [hv']; rfl, hlt g' (by rw [hv']; rfl)⟩, fun u hu hk => ?_, ⟨g', cap', hv'⟩⟩
    refine ownsRow_keep1 hown fun b hb => (hk b hb ?_).trans (hg.block b (owns_lt hown b hb).2 (by simp))
    rw [hv']
    intro h
    simp only [Value.ownBlock, Option.some.injEq] at h
    have h2 := (hlt g' (by rw [hv']; rfl)).1
    have h3 := (owns_lt hown b hb).2
    omega
  obtain ⟨hl, ⟨rfl, rfl⟩ | ⟨g, cap, cur, rfl, hb, hh, hc, hm, hs, htk⟩⟩ := hown
  · obtain rfl : xs = [] := List.eq_nil_of_length_eq_zero (by simpa using hl)
    obtain ⟨v', w', hr, ho, hg, _⟩ := run_append_own (P := P) w w.heap.size t ty e i z 1 bytes ht hi hz hsize hby hzs (by omega) (.slice none 0 0) 0 [] (World.ownsRow_nil w _ e 1) a 1 c [x] rfl hnews hone h63 hbytes (Nat.le_refl _)
    exact ⟨v', w', hr, fresh v' w' ho hg⟩
  · have hown2 : w.ownsRow base e 1 (.slice (some ⟨g, 0, none⟩) n cap) n xs := ⟨hl, .inr ⟨g, cap, cur, rfl, hb, hh, hc, hm, hs, htk⟩⟩
    by_cases hroom : n + 1 ≤ cap
    · obtain ⟨w', hr, ho, hg⟩ := run_append_own_spare (P := P) w base t ty e i 1 ht hi hsize g n cap xs hown2 a 1 c [x] rfl hnews hone hroom
      exact ⟨_, w', hr, ⟨ho, hg, .inl rfl, fun u hu _ => owns_shrink hu, ⟨_, _, rfl⟩⟩⟩
    · obtain ⟨v', w', hr, ho, hg⟩ := run_append_arg_grows (P := P) w t ty e i z 1 bytes ht hi hz hsize hby hzs (by omega) ⟨g, 0, none⟩ n cap xs hl (hown2.cells (g := g) rfl) a 1 c [x] rfl hnews (by omega) h63 hbytes
      exact ⟨v', w', hr, fresh v' w' ho hg⟩

/-- As a step of a region that draws its order. -/
theorem step_push {P : Program} {ops : Array Oper} {o : Oper} {a : Act} {K : Act → World → Prop} {Q : Exit → Act → World → Prop} {E : Prop} (hw : Region.wanted o (yielded ops a.tmps) = true) (s y : Operand) (t : TypeId)
    (hop : o.op = .call { callee := .builtin .append, args := #[s, y], argTypes := #[t, t] }) (i : TypeInfo) (z : Value) (bytes : Nat) (ht : P.underlying t = some (.slice e)) (hi : P.info? e = some i) (hz : i.zero = some z) (hsize : i.size = 1) (hby : i.bytes = bytes) (hzs : z.cells.size = 1)
    (hs : a.eval s = v) (hown : w.ownsRow base e 1 v n xs) (ad : Addr) (c : Nat) (x : Value) (hy : a.eval y = .slice (some ad) 1 c) (hx : w.cell? ad = some x) (h1 : x.oneCell' = true) (h63 : n + 1 ≤ maxLen) (hbytes : (n + 1) * bytes ≤ 140737488355328) (hbase : base ≤ w.heap.size)
    (h : ∀ v' w', Pushed w w' base e v v' n xs x → K (a.put o.dst v') w') :
    if Region.wanted o (yielded ops a.tmps) = true then Oper.wp P o a w K Q else E := by
  rw [if_pos hw]
  obtain ⟨v', w', hr, hp⟩ := run_push (P := P) t o.type i z bytes ht hi hz hsize hby hzs hown ad c x hx h1 h63 hbytes hbase
  unfold Oper.wp execOp
  simp only [hop, resolve, invoke, builtin, Sem.run_bind, Sem.run_pure, Result.andThen_ok, List.map_toArray, List.map_cons, List.map_nil, hs, hy, hr]
  exact h v' w' hp
theorem wpList_push {P : Program} {ops : Array Oper} {rest : List Oper} {o : Oper} {a : Act} {Q : Exit → Act → World → Prop} (hgd : o.guard = none) (s y : Operand) (t : TypeId)
    (hop : o.op = .call { callee := .builtin .append, args := #[s, y], argTypes := #[t, t] }) (i : TypeInfo) (z : Value) (bytes : Nat) (ht : P.underlying t = some (.slice e)) (hi : P.info? e = some i) (hz : i.zero = some z) (hsize : i.size = 1) (hby : i.bytes = bytes) (hzs : z.cells.size = 1)
    (hs : a.eval s = v) (hown : w.ownsRow base e 1 v n xs) (ad : Addr) (c : Nat) (x : Value) (hy : a.eval y = .slice (some ad) 1 c) (hx : w.cell? ad = some x) (h1 : x.oneCell' = true) (h63 : n + 1 ≤ maxLen) (hbytes : (n + 1) * bytes ≤ 140737488355328) (hbase : base ≤ w.heap.size)
    (h : ∀ v' w', Pushed w w' base e v v' n xs x → wpList P ops Q rest (a.put o.dst v') w') : wpList P ops Q (o :: rest) a w := by
  refine wpList_plain hgd fun K hK => ?_
  obtain ⟨v', w', hr, hp⟩ := run_push (P := P) t o.type i z bytes ht hi hz hsize hby hzs hown ad c x hx h1 h63 hbytes hbase
  unfold Oper.wp execOp
  simp only [hop, resolve, invoke, builtin, Sem.run_bind, Sem.run_pure, Result.andThen_ok, List.map_toArray, List.map_cons, List.map_nil, hs, hy, hr]
  exact hK _ _ (h v' w' hp)
end

/-- The slice v reads as the numbers zs; its cells, if any, lie in a block of S. -/
def IntsIn (w : World) (S : Nat → Prop) (v : Value) (zs : List Int) : Prop :=
  ∃ (A : Option Addr) (cap : Nat), v = .slice A zs.length cap ∧ zs.length ≤ cap ∧ cap ≤ maxLen ∧ (∀ z ∈ zs, I64 z) ∧
    (0 < zs.length → ∃ b off, A = some ⟨b, off, none⟩ ∧ S b ∧ ∀ k, k < zs.length → w.cell? ⟨b, off + k, none⟩ = some (.int .i64 (zs.getD k 0)))
theorem IntsIn.keep {w w' : World} {S : Nat → Prop} {v : Value} {zs : List Int} (h : IntsIn w S v zs) (hk : ∀ b, S b → w'.heap[b]? = w.heap[b]?) : IntsIn w' S v zs := by
  obtain ⟨A, cap, e, h1, h2, h3, h4⟩ := h
  refine ⟨A, cap, e, h1, h2, h3, fun h0 => ?_⟩
  obtain ⟨b, off, hA, hS, hc⟩ := h4 h0
  exact ⟨b, off, hA, hS, fun k hkk => (World.cell?_of_block (w := w) (hk b hS)).trans (hc k hkk)⟩
theorem IntsIn.more {w : World} {S S' : Nat → Prop} {v : Value} {zs : List Int} (h : IntsIn w S v zs) (hS : ∀ b, S b → S' b) : IntsIn w S' v zs := by
  obtain ⟨A, cap, e, h1, h2, h3, h4⟩ := h
  refine ⟨A, cap, e, h1, h2, h3, fun h0 => ?_⟩
  obtain ⟨b, off, hA, hb, hc⟩ := h4 h0
  exact ⟨b, off, hA, hS b hb, hc⟩
theorem IntsIn.at {w : World} {S : Nat → Prop} {v : Value} {zs : List Int} {lo hi : Nat} (h : IntsIn w S v zs) (hS : ∀ b, S b → lo ≤ b ∧ b < hi) : IntsAt w lo hi v zs := by
  obtain ⟨A, cap, e, h1, h2, h3, h4⟩ := h
  refine ⟨A, cap, e, h1, h2, h3, fun h0 => ?_⟩
  obtain ⟨b, off, hA, hb, hc⟩ := h4 h0
  exact ⟨b, off, hA, (hS b hb).1, (hS b hb).2, hc⟩
theorem IntsIn.one {w : World} {S : Nat → Prop} {v : Value} {zs : List Int} (h : IntsIn w S v zs) : v.oneCell' = true := by
  obtain ⟨A, cap, rfl, _⟩ := h
  rfl
end Go.Proofs.YtnmbjmocnafekaaGreatDoor

namespace Go.Proofs.YtnmbjmocnafekaaGreatDoor
open Go.RowKit

/-- Who takes what is yielded, of all of 'full'; R m O A vs: the values vs are m in the world A, where the iterator owns the blocks of O. J s O w: the first ones, s, have come; the rounds keep the blocks of O and T. -/
structure CliG {α : Type} (R : α → (Nat → Prop) → World → Array Value → Prop) (full : List α) (l : Nat) (T : Nat → Prop) (J Jx : List α → (Nat → Prop) → World → Prop) : Prop where
  step : ∀ s O A C, J s O A → Kept (fun k => ¬ O k) A C → J s (fun k => O k ∨ (A.heap.size ≤ k ∧ k < C.heap.size)) C
  give : ∀ s O O' A, J s O A → (∀ k, O' k → O k) → J s O' A
  stepx : ∀ s O A C, Jx s O A → Kept (fun k => ¬ O k) A C → Jx s (fun k => O k ∨ (A.heap.size ≤ k ∧ k < C.heap.size)) C
  givex : ∀ s O O' A, Jx s O A → (∀ k, O' k → O k) → Jx s O' A
  round : ∀ s m vs O A, J s O A → R m O A vs → (∃ t, full = s ++ m :: t) →
    ∀ n, YieldAt Fence.wide n Tryz.prog l vs A fun e C => (e = .returned (.bool true) ∧ Kept (fun k => O k ∨ T k) A C ∧ J (s ++ [m]) O C) ∨ (e = .returned (.bool false) ∧ Kept O A C ∧ Jx (s ++ [m]) O C)

theorem kept_of {S : Nat → Prop} {w w' : World} (h : Below w.heap.size w w') : Kept S w w' := ⟨h.os, h.tape, h.output, h.size, fun k hk _ => h.block k hk⟩
theorem kept_sub {S S' : Nat → Prop} {w w' : World} (h : Kept S w w') (hs : ∀ k, k < w.heap.size → S' k → S k) : Kept S' w w' := ⟨h.os, h.tape, h.output, h.size, fun k hk hk' => h.block k hk (hs k hk hk')⟩
theorem kept_trans {S : Nat → Prop} {w w' w'' : World} (h : Kept S w w') (k : Kept S w' w'') : Kept S w w'' := ⟨k.os.trans h.os, k.tape.trans h.tape, k.output.trans h.output, Nat.le_trans h.size k.size, fun i hi hs => (k.block i (Nat.lt_of_lt_of_le hi h.size) hs).trans (h.block i hi hs)⟩
theorem kept_below {S : Nat → Prop} {b : Nat} {w w' : World} (h : Kept S w w') (hs : ∀ k, k < b → S k) (hb : b ≤ w.heap.size) : Below b w w' := ⟨h.os, h.tape, h.output, h.size, fun k hk => h.block k (by omega) (hs k hk)⟩
theorem puts8 {A : World} {l k : Nat} {o' : Obj} (h : k ≠ l) : (A.putObj l o').heap[k]? = A.heap[k]? := World.putObj_heap_other h
theorem kept_put {S : Nat → Prop} {A : World} {l : Nat} {o' : Obj} (h : ¬ S l) : Kept S A (A.putObj l o') := ⟨rfl, rfl, rfl, by simp, fun k _ hk => puts8 fun e => h (e ▸ hk)⟩

/-- What the body of a round must leave. -/
def bodyEndsG {α : Type} (T : Nat → Prop) (d : Nat) (I : List α → (Nat → Prop) → World → Prop) (Ix : Code → List α → (Nat → Prop) → World → Prop) (s : List α) (O : Nat → Prop) (A : World) : Exit → Act → World → Prop
  | .normal, _, C => Kept (fun k => O k ∨ T k ∨ k = d ∨ k = d + 1) A C ∧ I s O C
  | .ret, _, C => Kept (fun k => O k ∨ k = d ∨ k = d + 1) A C ∧ Ix .ret s O C
  | .exit id, _, C => Kept (fun k => O k ∨ k = d ∨ k = d + 1) A C ∧ Ix (.exit id) s O C
  | _, _, _ => False

theorem rangeG_law {α : Type} {R : α → (Nat → Prop) → World → Array Value → Prop} {n : Nat} {Q : Exit → Act → World → Prop} {a : Act} {w : World} {g : Operand} {ps : Array Tmp} {assign body : Code} (a₁ : Array Value → Act)
    (hR : ∀ m O A vs k o' lp, R m O A vs → A.heap[k]? = some (.loop lp) → R m O (A.putObj k o') vs)
    (hsize : ∀ m O A vs, R m O A vs → vs.size = ps.size)
    (hassign : ∀ (l : Nat) (m' : α) (O : Nat → Prop) (vs : Array Value) (W : World) (m : Nat) (K : Act → World → Prop), R m' O W vs → K (a₁ vs) W → assign.wpIn (Fence.wide.inRound l) m Tryz.prog (Exit.then K (fun _ _ _ => False)) { tmps := (ps.zip vs).foldl (fun tmps (x : Tmp × Value) => tmps.setIfInBounds x.1 x.2) a.tmps, defers := [] } W)
    {gf : Nat} {lb : Array Value} (hg : a.eval g = .func (.func gf) #[] lb)
    (eg : ∀ args w, (callFunc gf args).run Tryz.prog w = .ok (.enter gf args) w) (T : Nat → Prop) (hT : ∀ b, T b → b < w.heap.size) (ms : List α)
    (I : List α → (Nat → Prop) → World → Prop) (Ix : Code → List α → (Nat → Prop) → World → Prop)
    (hIstep : ∀ s O A C, I s O A → ¬ O w.heap.size → ¬ O (w.heap.size + 1) → w.heap.size + 1 < A.heap.size → Kept (fun k => ¬ O k) A C → I s (fun k => O k ∨ (A.heap.size ≤ k ∧ k < C.heap.size)) C)
    (hIgive : ∀ s O O' A, I s O A → (∀ k, O' k → O k) → I s O' A)
    (hIput : ∀ s O A k o', I s O A → w.heap.size ≤ k → k ≤ w.heap.size + 1 → I s O (A.putObj k o'))
    (hIxstep : ∀ c s O A C, Ix c s O A → ¬ O w.heap.size → ¬ O (w.heap.size + 1) → w.heap.size + 1 < A.heap.size → Kept (fun k => ¬ O k) A C → Ix c s (fun k => O k ∨ (A.heap.size ≤ k ∧ k < C.heap.size)) C)
    (hIxgive : ∀ c s O O' A, Ix c s O A → (∀ k, O' k → O k) → Ix c s O' A)
    (hIxput : ∀ c s O A k o', Ix c s O A → w.heap.size ≤ k → k ≤ w.heap.size + 1 → Ix c s O (A.putObj k o'))
    (hiter : ∀ l J Jx W1, CliG R ms l T J Jx → Below w.heap.size w W1 → W1.heap.size = w.heap.size + 2 → J [] (fun _ => False) W1 →
      Calls Tryz.prog gf (#[.func (.yield l) #[] #[]] ++ lb) W1 fun e W' => (∃ v, e = .returned v) ∧ ((∃ O', J ms O' W') ∨ (∃ s' O', Jx s' O' W')))
    (h0 : ∀ W1, Below w.heap.size w W1 → W1.heap.size = w.heap.size + 2 → I [] (fun _ => False) W1)
    (hbody : ∀ l s p vs O A m, I s O A → R p O A vs → (∃ t, ms = s ++ p :: t) → ¬ O w.heap.size → ¬ O (w.heap.size + 1) → w.heap.size + 1 < A.heap.size →
      body.wpIn (Fence.wide.inRound l) m Tryz.prog (bodyEndsG T w.heap.size I Ix (s ++ [p]) O A) (a₁ vs) A)
    (hdone : ∀ O' W', I ms O' W' → W'.heap[w.heap.size]? = some (.deferred (some [])) → Q .normal { a with defers := { target := .collected w.heap.size, args := #[] } :: a.defers } W')
    (hstop : ∀ c s' O' W', Ix c s' O' W' → W'.heap[w.heap.size]? = some (.deferred (some [])) → c.wpIn Fence.wide n Tryz.prog Q { a with defers := { target := .collected w.heap.size, args := #[] } :: a.defers } W') :
    (Code.rangeFunc g ps assign body).wpIn Fence.wide n Tryz.prog Q a w := by
  have hdd : Fence.wide.depth.isSome = true → 1 ≤ n := fun h => by simp [Fence.wide] at h
  refine wpIn_rangeFunc fun fn _ => ?_
  obtain ⟨rec, hrec⟩ : ∃ rec : LoopState → Option Code → Loop, rec = fun st pe => { state := st, pending := pe, fn, tmps := a.tmps, params := ps, assign, body, defers := w.heap.size } := ⟨_, rfl⟩
  obtain ⟨W1, hW1⟩ : ∃ W1, W1 = (w.alloc (.deferred (some []))).alloc (.loop (rec .ready none)) := ⟨_, rfl⟩
  have hb1 : Below w.heap.size w W1 := by rw [hW1]; exact ((Below.refl _ _).alloc (Nat.le_refl _) _).alloc (by simp) _
  have hs1 : W1.heap.size = w.heap.size + 2 := by rw [hW1, World.size_alloc, World.size_alloc]
  have hl1 : W1.heap[w.heap.size + 1]? = some (.loop (rec .ready none)) := by
    rw [hW1]
    have := World.alloc_heap_new (w.alloc (.deferred (some []))) (.loop (rec .ready none))
    rwa [World.size_alloc] at this
  have hd1 : W1.heap[w.heap.size]? = some (.deferred (some [])) := by rw [hW1]; exact (Below.heap_alloc _ _ _ (by simp)).trans (World.alloc_heap_new w _)
  have hclient : CliG R ms (w.heap.size + 1) T
      (fun s O A => I s O A ∧ A.heap[w.heap.size + 1]? = some (.loop (rec .ready none)) ∧ A.heap[w.heap.size]? = some (.deferred (some [])) ∧ ¬ O w.heap.size ∧ ¬ O (w.heap.size + 1))
      (fun s O A => ∃ c, Ix c s O A ∧ A.heap[w.heap.size + 1]? = some (.loop (rec .done (some c))) ∧ A.heap[w.heap.size]? = some (.deferred (some [])) ∧ ¬ O w.heap.size ∧ ¬ O (w.heap.size + 1)) := by
    refine ⟨?_, ?_, ?_, ?_, ?_⟩
    · rintro s O A C ⟨hi, hl, hd, n0, n1⟩ hk
      have hla := (Array.getElem?_eq_some_iff.1 hl).1
      exact ⟨hIstep s O A C hi n0 n1 hla hk, (hk.block _ hla n1).trans hl, (hk.block _ (by omega) n0).trans hd, fun h => h.elim n0 (fun h => by omega), fun h => h.elim n1 (fun h => by omega)⟩
    · rintro s O O' A ⟨hi, hl, hd, n0, n1⟩ hsub
      exact ⟨hIgive s O O' A hi hsub, hl, hd, fun h => n0 (hsub _ h), fun h => n1 (hsub _ h)⟩
    · rintro s O A C ⟨c, hi, hl, hd, n0, n1⟩ hk
      have hla := (Array.getElem?_eq_some_iff.1 hl).1
      exact ⟨c, hIxstep c s O A C hi n0 n1 hla hk, (hk.block _ hla n1).trans hl, (hk.block _ (by omega) n0).trans hd, fun h => h.elim n0 (fun h => by omega), fun h => h.elim n1 (fun h => by omega)⟩
    · rintro s O O' A ⟨c, hi, hl, hd, n0, n1⟩ hsub
      exact ⟨c, hIxgive c s O O' A hi hsub, hl, hd, fun h => n0 (hsub _ h), fun h => n1 (hsub _ h)⟩
    · rintro s p vs O A ⟨hi, hl, hd, n0, n1⟩ hRp hlen m
      have hla := (Array.getElem?_eq_some_iff.1 hl).1
      have hy := run_yield (P := Tryz.prog) (args := vs) hl (by rw [hrec]; exact hsize _ _ _ _ hRp)
      rw [hrec] at hy
      refine ⟨fn, _, assign, body, hy, roundIn_of_wpIn trivial ?_⟩
      dsimp only
      refine hassign _ p O vs A m _ hRp ⟨_, run_beginRound hl (by rw [hrec]), ?_⟩
      obtain ⟨A2, hA2⟩ : ∃ A2, A2 = A.putObj (w.heap.size + 1) (.loop { rec .ready none with state := .busy }) := ⟨_, rfl⟩
      rw [← hA2]
      have hsz : A2.heap.size = A.heap.size := by rw [hA2]; simp
      have hI2 : I s O A2 := by rw [hA2]; exact hIput s O A (w.heap.size + 1) _ hi (by omega) (Nat.le_refl _)
      have hl2 : A2.heap[w.heap.size + 1]? = some (.loop { rec .ready none with state := .busy }) := by rw [hA2]; exact World.putObj_heap_same hla
      have hd2 : A2.heap[w.heap.size]? = some (.deferred (some [])) := by rw [hA2]; exact (puts8 (by omega)).trans hd
      have hR2 : R p O A2 vs := by rw [hA2]; exact hR p O A vs _ _ _ hRp hl
      have fin : ∀ (T' : Nat → Prop), (∀ b, T' b → b < w.heap.size) → ∀ (jump : Option Code) (C : World), Kept (fun k => O k ∨ T' k ∨ k = w.heap.size ∨ k = w.heap.size + 1) A2 C →
          (Instr.endRound (w.heap.size + 1) jump).run Tryz.prog C = .ok (.bool jump.isNone) (C.putObj (w.heap.size + 1) (.loop (rec (if jump.isNone then .ready else .done) jump))) ∧
          (C.putObj (w.heap.size + 1) (.loop (rec (if jump.isNone then .ready else .done) jump))).heap[w.heap.size + 1]? = some (.loop (rec (if jump.isNone then .ready else .done) jump)) ∧
          (C.putObj (w.heap.size + 1) (.loop (rec (if jump.isNone then .ready else .done) jump))).heap[w.heap.size]? = some (.deferred (some [])) ∧
          Kept (fun k => O k ∨ T' k) A (C.putObj (w.heap.size + 1) (.loop (rec (if jump.isNone then .ready else .done) jump))) := fun T' hT' jump C hh => by
        have hkA : Kept (fun k => O k ∨ T' k) A A2 := by
          rw [hA2]
          exact kept_put (fun h => h.elim n1 (fun h => by have := hT' _ h; omega))
        have hl3 := (hh.block (w.heap.size + 1) (by rw [hsz]; exact hla) (.inr (.inr (.inr rfl)))).trans hl2
        have hd3 := (hh.block w.heap.size (by rw [hsz]; omega) (.inr (.inr (.inl rfl)))).trans hd2
        have hlc := (Array.getElem?_eq_some_iff.1 hl3).1
        have he := run_endRound (P := Tryz.prog) jump hl3
        refine ⟨by rw [hrec] at he ⊢; exact he, World.putObj_heap_same hlc, (puts8 (by omega)).trans hd3, ?_⟩
        exact kept_trans (kept_trans hkA (kept_sub hh fun k _ hk => hk.elim .inl (fun h => .inr (.inl h)))) (kept_put (fun h => h.elim n1 (fun h => by have := hT' _ h; omega)))
      refine wpIn_mono (hbody (w.heap.size + 1) s p vs O A2 m hI2 hR2 hlen n0 n1 (by rw [hsz]; exact hla)) ?_
      intro e a3 C hp
      cases e with
      | normal =>
        obtain ⟨hh, hi3⟩ := hp
        obtain ⟨he, h1, h2, h3⟩ := fin T hT none C hh
        exact ⟨_, _, he, .inl ⟨rfl, h3, hIput _ _ _ _ _ hi3 (by omega) (Nat.le_refl _), h1, h2, n0, n1⟩⟩
      | ret =>
        obtain ⟨hh, hi3⟩ := hp
        obtain ⟨he, h1, h2, h3⟩ := fin (fun _ => False) (fun _ h => h.elim) (some .ret) C (kept_sub hh fun k _ h => h.elim .inl (fun h => h.elim (fun h => h.elim) .inr))
        exact ⟨_, _, he, .inr ⟨rfl, kept_sub h3 fun k _ h => .inl h, .ret, hIxput _ _ _ _ _ _ hi3 (by omega) (Nat.le_refl _), h1, h2, n0, n1⟩⟩
      | exit id =>
        obtain ⟨hh, hi3⟩ := hp
        obtain ⟨he, h1, h2, h3⟩ := fin (fun _ => False) (fun _ h => h.elim) (some (.exit id)) C (kept_sub hh fun k _ h => h.elim .inl (fun h => h.elim (fun h => h.elim) .inr))
        exact ⟨_, _, he, .inr ⟨rfl, kept_sub h3 fun k _ h => .inl h, .exit id, hIxput _ _ _ _ _ _ hi3 (by omega) (Nat.le_refl _), h1, h2, n0, n1⟩⟩
      | goto t => exact hp.elim
      | panic ch => exact hp.elim
      | outgrown => exact hp.elim
  refine ⟨w.heap.size + 1, [{ target := .collected w.heap.size, args := #[] }], W1, { target := .fn (.func gf) lb, args := #[.func (.yield (w.heap.size + 1)) #[] #[]] }, W1, gf, #[.func (.yield (w.heap.size + 1)) #[] #[]] ++ lb, W1, ?_, ?_, fun _ _ => trivial, ?_, hdd, ?_⟩
  · rw [hW1, hrec]; exact run_enterLoop_outer _ _ _ _ _
  · simp only [resolve, hg]
    simp [go_sem]
  · simp [invoke, go_sem, eg]
  · refine (callsIn_wide.2 (hiter _ _ _ W1 hclient hb1 hs1 ⟨h0 W1 hb1 hs1, hl1, hd1, fun h => h, fun h => h⟩)).mono ?_
    rintro e W2 ⟨⟨v, rfl⟩, ⟨O', hi, hl, hd, _⟩ | ⟨s', O', c, hi, hl, hd, _⟩⟩
    · exact ⟨none, _, by have he := run_endLoop (P := Tryz.prog) hl (by rw [hrec]; simp); rw [hrec] at he; exact he, hdone O' _ (hIput _ _ _ _ _ hi (by omega) (Nat.le_refl _)) ((puts8 (by omega)).trans hd)⟩
    · exact ⟨some c, _, by have he := run_endLoop (P := Tryz.prog) hl (by rw [hrec]; simp); rw [hrec] at he; exact he, hstop c s' _ _ (hIxput _ _ _ _ _ _ hi (by omega) (Nat.le_refl _)) ((puts8 (by omega)).trans hd)⟩
end Go.Proofs.YtnmbjmocnafekaaGreatDoor

