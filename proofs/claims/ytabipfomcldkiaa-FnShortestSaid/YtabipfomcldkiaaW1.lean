/-
  The contracts of the functions that compare: where both sides read as the same data, they return true.
  The contracts of the functions that mark a result's memory and look whether the marks hold: numbers in one slice.
  Ways as plain data: where a row of coercions leads, and what it makes of a value. Nothing here speaks of the program.
  append of one element to a row of the call's own: the new slice lies in the old row or in a new block, and the old slice can be had back.
  Lists of lists of numbers in memory: as they read, and as the call owns them; the laws' functions over them.
  All ways from a type to another one, as plain data. Nothing here speaks of the program.
  The model's finder in memory: its way so far and what it has found.
  The contracts of the functions that weigh an argument: they return what is left of the allowance, or -1.
  The contracts of the functions that mark coercions and types, and look whether the marks hold.
  The contracts of the functions that mark types, and look whether the marks hold.
  Small lemmas for the walks of laws whose results are owned.
  Lists of lists of numbers that the call owns: the laws' functions that mark and look for the marks.
-/
import Derived.Test.YtabipfomcldkiaaRows
import Derived.Test.YtabipfomcldkiaaH1
import Derived.Outline
import Derived.Handy
import Derived.BigQuiet
import Derived.Deep.QuietTactic
import Derived.StillTailTactics
import Derived.Deep.RegionWith
import Derived.Test.YtabipfomcldkiaaH2
import Derived.Test.YtabipfomcldkiaaH6
import Derived.Deep.DeepAppendRoom
import Derived.ArgAppend
import Derived.Test.YtabipfomcldkiaaH3
import Derived.Deep.RegionHeld3
namespace Go.Proofs.Ytabipfomcldkiaa
open Go.RowKit


end Go.Proofs.Ytabipfomcldkiaa

namespace Go.Proofs.Ytabipfomcldkiaa
open Go.RowKit

end Go.Proofs.Ytabipfomcldkiaa

namespace Go.Proofs.Ytabipfomcldkiaa
open Go.RowKit

/-- The type to which a row of coercions leads from a type, if it is a way. -/
def wayEnd (cs : List Co) : Int → List Int → Option Int
  | k, [] => some k
  | k, i :: is => if ixB i cs.length = true ∧ (cs.getD i.toNat default).src = k then wayEnd cs (cs.getD i.toNat default).dst is else none
/-- What the maps of a row of coercions make of a value. -/
def goV (cs : List Co) : Int → List Int → Int
  | v, [] => v
  | v, i :: is => goV cs (lookOf (cs.getD i.toNat default).map v) is

theorem drop_get {zs : List Int} {j : Nat} (hj : j < zs.length) : zs.drop j = zs[j] :: zs.drop (j + 1) := List.drop_eq_getElem_cons hj
theorem getD_at {cs : List Co} {i : Nat} (hi : i < cs.length) : cs.getD i default = cs[i] := by rw [List.getD_eq_getElem?_getD, List.getElem?_eq_getElem hi]; rfl

theorem wayEnd_yes {cs : List Co} {k : Int} {zs : List Int} {j : Nat} (hj : j < zs.length) (h0 : 0 ≤ zs[j]) (hi : zs[j].toNat < cs.length) (hs : cs[zs[j].toNat].src = k) :
    wayEnd cs k (zs.drop j) = wayEnd cs cs[zs[j].toNat].dst (zs.drop (j + 1)) := by
  rw [drop_get hj, wayEnd, getD_at hi, if_pos ⟨ixB_yes h0 (by omega), hs⟩]
theorem wayEnd_out {cs : List Co} {k : Int} {zs : List Int} {j : Nat} (hj : j < zs.length) (h : ixB zs[j] cs.length = false) : wayEnd cs k (zs.drop j) = none := by
  rw [drop_get hj, wayEnd, if_neg (fun hh => by rw [h] at hh; exact absurd hh.1 (by simp))]
theorem wayEnd_other {cs : List Co} {k : Int} {zs : List Int} {j : Nat} (hj : j < zs.length) (hi : zs[j].toNat < cs.length) (hs : ¬ cs[zs[j].toNat].src = k) : wayEnd cs k (zs.drop j) = none := by
  rw [drop_get hj, wayEnd, getD_at hi, if_neg (fun hh => hs hh.2)]
theorem wayEnd_done (cs : List Co) (k : Int) (zs : List Int) : wayEnd cs k (zs.drop zs.length) = some k := by rw [List.drop_length]; rfl
theorem goV_step {cs : List Co} {v : Int} {zs : List Int} {j : Nat} (hj : j < zs.length) (hi : zs[j].toNat < cs.length) : goV cs v (zs.drop j) = goV cs (lookOf cs[zs[j].toNat].map v) (zs.drop (j + 1)) := by
  rw [drop_get hj, goV, getD_at hi]
theorem goV_done (cs : List Co) (v : Int) (zs : List Int) : goV cs v (zs.drop zs.length) = v := by rw [List.drop_length]; rfl

/-- A row that is a way still is one when its first coercion is gone; that coercion begins with the type. -/
theorem wayEnd_some {cs : List Co} {k : Int} {zs : List Int} {j : Nat} (hj : j < zs.length) (h : (wayEnd cs k (zs.drop j)).isSome = true) :
    0 ≤ zs[j] ∧ zs[j] < cs.length ∧ ∃ hi : zs[j].toNat < cs.length, cs[zs[j].toNat].src = k ∧ (wayEnd cs cs[zs[j].toNat].dst (zs.drop (j + 1))).isSome = true := by
  rw [drop_get hj, wayEnd] at h
  split at h
  case isTrue hh =>
    obtain ⟨h1, h2⟩ := hh
    simp only [ixB, decide_eq_true_eq] at h1
    have hi : zs[j].toNat < cs.length := by omega
    rw [getD_at hi] at h2 h
    exact ⟨h1.1, h1.2, hi, h2, h⟩
  case isFalse => simp at h

/-- A value of a type. -/
def ValOf (ss : List Int) (k v : Int) : Prop := 0 ≤ k ∧ k < ss.length ∧ 0 ≤ v ∧ v < ss.getD k.toNat 0
/-- The coercion i of valid types, and a value of its type. -/
theorem tyOk_co {t : Ty} (h : tyOk t = true) {i : Nat} (hi : i < t.cos.length) : coOk t.sizes t.cos[i] = true := by
  simp only [tyOk, Bool.and_eq_true, List.all_eq_true] at h
  exact h.2 _ (List.getElem_mem hi)
theorem tyOk_few {t : Ty} (h : tyOk t = true) : t.cos.length ≤ 8 := by
  simp only [tyOk, Bool.and_eq_true, decide_eq_true_eq] at h
  exact h.1.2
theorem valOf_step {t : Ty} (h : tyOk t = true) {i : Nat} (hi : i < t.cos.length) {v : Int} (hv : ValOf t.sizes t.cos[i].src v) :
    0 ≤ v ∧ v < t.cos[i].map.length ∧ t.cos[i].map.length ≤ 4 ∧ ∃ hn : v.toNat < t.cos[i].map.length, lookOf t.cos[i].map v = t.cos[i].map[v.toNat] ∧ ValOf t.sizes t.cos[i].dst (lookOf t.cos[i].map v) := by
  obtain ⟨h1, h2, h3, h4, h5⟩ := coOk_of (tyOk_co h hi)
  obtain ⟨g1, g2, g3, g4⟩ := hv
  have hs : t.cos[i].src.toNat < t.sizes.length := by omega
  have hsz := (sizesOk_of (tyOk_sizes h)).2.2 _ hs
  have e : t.sizes.getD t.cos[i].src.toNat 0 = t.sizes[t.cos[i].src.toNat] := by rw [List.getD_eq_getElem?_getD, List.getElem?_eq_getElem hs]; rfl
  have hn : v.toNat < t.cos[i].map.length := by omega
  have hl := lookOf_in g3 hn
  obtain ⟨h6, h7⟩ := h5 _ hn
  exact ⟨g3, by omega, by omega, hn, hl, by omega, h3, by omega, by omega⟩
theorem valOf_hasV0 {ss : List Int} {k v : Int} : hasV0 ss k v = true ↔ ValOf ss k v := by
  simp only [hasV0, ixB, Bool.and_eq_true, decide_eq_true_eq, ValOf]
  exact ⟨fun h => ⟨h.1.1, h.1.2, h.2.1, h.2.2⟩, fun h => ⟨⟨h.1, h.2.1⟩, h.2.2.1, h.2.2.2⟩⟩

/-- What GoWay answers. -/
def goWayV (t : Ty) (k : Int) (zs : List Int) (v : Int) : Int := if hasV t k v = true ∧ (wayEnd t.cos k zs).isSome = true then goV t.cos v zs else -1
/-- The end of a way, -1 if it is none. -/
def endV (t : Ty) (k : Int) (zs : List Int) : Int := (wayEnd t.cos k zs).getD (-1)
theorem wayEnd_ge {t : Ty} (h : tyOk t = true) : ∀ (zs : List Int) (k e : Int), 0 ≤ k → wayEnd t.cos k zs = some e → 0 ≤ e := by
  intro zs
  induction zs with
  | nil => intro k e hk he; simp only [wayEnd, Option.some.injEq] at he; omega
  | cons i is ih =>
    intro k e hk he
    rw [wayEnd] at he
    split at he
    case isTrue hh =>
      have h1 := hh.1
      simp only [ixB, decide_eq_true_eq] at h1
      have hi : i.toNat < t.cos.length := by omega
      rw [getD_at hi] at he
      have := coOk_of (tyOk_co h hi)
      exact ih _ _ (by omega) he
    case isFalse => cases he
theorem endV_neg {t : Ty} (h : tyOk t = true) {zs : List Int} {k : Int} (hk : 0 ≤ k) : decide (endV t k zs < 0) = !(wayEnd t.cos k zs).isSome := by
  unfold endV
  cases he : wayEnd t.cos k zs with
  | none => rfl
  | some e =>
    have := wayEnd_ge h zs k e hk he
    simp
    omega
end Go.Proofs.Ytabipfomcldkiaa

namespace Go.Proofs.Ytabipfomcldkiaa
open Go.RowKit

section
variable {w w' : World} {base : Nat} {e : TypeId} {v : Value} {n : Nat} {xs : List Value}
/-- The row without its last element. -/
theorem owns_shrink {g cap : Nat} {x : Value} (h : w.ownsRow base e 1 (.slice (some ⟨g, 0, none⟩) (n + 1) cap) (n + 1) (xs ++ [x])) : w.ownsRow base e 1 (.slice (some ⟨g, 0, none⟩) n cap) n xs := by
  obtain ⟨h1, ⟨h2, _⟩ | ⟨g', cap', cur, hv, hb, hh, hc, hm, hs, ht⟩⟩ := h
  · cases h2
  · simp only [Value.slice.injEq, Option.some.injEq, Addr.mk.injEq, and_true, true_and] at hv
    obtain ⟨rfl, rfl⟩ := hv
    have hl : xs.length = n * 1 := by simp at h1; omega
    refine ⟨hl, .inr ⟨g, cap, cur, rfl, hb, hh, by omega, hm, hs, ?_⟩⟩
    have h2 : (cur.toList.take ((n + 1) * 1)).take (n * 1) = (xs ++ [x]).take (n * 1) := by rw [ht]
    rw [List.take_take, Nat.min_eq_left (by omega), ← hl, List.take_left] at h2
    rw [← hl]
    exact h2
/-- What append of one element leaves: v' owns one element more; with v' still whole, v can be had back. -/
structure Pushed (w w' : World) (base : Nat) (e : TypeId) (v v' : Value) (n : Nat) (xs : List Value) (x : Value) : Prop where
  own : w'.ownsRow base e 1 v' (n + 1) (xs ++ [x])
  grown : w.grownBy w' v.ownBlock
  at_ : v'.ownBlock = v.ownBlock ∨ ∃ g, v'.ownBlock = some g ∧ w.heap.size ≤ g ∧ g < w'.heap.size
  back : ∀ u : World, u.ownsRow base e 1 v' (n + 1) (xs ++ [x]) → (∀ b, v.ownBlock = some b → v'.ownBlock ≠ some b → u.heap[b]? = w'.heap[b]?) → u.ownsRow base e 1 v n xs
  form : ∃ g cap, v' = .slice (some ⟨g, 0, none⟩) (n + 1) cap

theorem run_push {P : Program} (t ty : TypeId) (i : TypeInfo) (z : Value) (bytes : Nat) (ht : P.underlying t = some (.slice e)) (hi : P.info? e = some i) (hz : i.zero = some z) (hsize : i.size = 1) (hby : i.bytes = bytes) (hzs : z.cells.size = 1)
    (hown : w.ownsRow base e 1 v n xs) (a : Addr) (c : Nat) (x : Value) (hx : w.cell? a = some x) (h1 : x.oneCell' = true) (h63 : n + 1 ≤ maxLen) (hbytes : (n + 1) * bytes ≤ 140737488355328) (hbase : base ≤ w.heap.size) :
    ∃ v' w', (Builtin.append_ #[t, t] ty #[v, .slice (some a) 1 c]).run P w = .ok v' w' ∧ Pushed w w' base e v v' n xs x := by
  have hnews : ∀ j u, [x][j]? = some u → w.cell? (a.add j) = some u := fun j u hj => by
    match j, hj with
    | 0, hj => simp at hj; subst hj; simpa [Addr.add] using hx
  have hone : ∀ u ∈ [x], u.oneCell' = true := fun u hu => by simp at hu; subst hu; exact h1
  have fresh : ∀ v' w', w'.ownsRow w.heap.size e 1 v' (n + 1) (xs ++ [x]) → w.grownBy w' none → Pushed w w' base e v v' n xs x := by
    intro v' w' ho hg
    have hlt := owns_lt ho
    obtain ⟨g', cap', hv'⟩ : ∃ g cap, v' = .slice (some ⟨g, 0, none⟩) (n + 1) cap := by
      obtain ⟨_, ⟨_, h⟩ | ⟨g, cap, cur, hv, _⟩⟩ := ho
      · omega
      · exact ⟨g, cap, hv⟩
    refine ⟨ownsRow_lower ho hbase, ⟨hg.os, hg.tape, hg.output, hg.size, fun k hk _ => hg.block k hk (by simp)⟩, .inr ⟨g', by rw [hv']; rfl, hlt g' (by rw [hv']; rfl)⟩, fun u hu hk => ?_, ⟨g', cap', hv'⟩⟩
    refine ownsRow_keep1 hown fun b hb => (hk b hb ?_).trans (hg.block b (owns_lt hown b hb).2 (by simp))
    rw [hv']
    intro h
    simp only [Value.ownBlock, Option.some.injEq] at h
    have h2 := (hlt g' (by rw [hv']; rfl)).1
    have h3 := (owns_lt hown b hb).2
    omega
  obtain ⟨hl, ⟨rfl, rfl⟩ | ⟨g, cap, cur, rfl, hb, hh, hc, hm, hs, htk⟩⟩ := hown
  · obtain rfl : xs = [] := List.eq_nil_of_length_eq_zero (by simpa using hl)
    obtain ⟨v', w', hr, ho, hg, _⟩ := run_append_own (P := P) w w.heap.size t ty e i z 1 bytes ht hi hz hsize hby hzs (by omega) (.slice none 0 0) 0 [] (World.ownsRow_nil w _ e 1) a 1 c [x] rfl hnews hone h63 hbytes (Nat.le_refl _)
    exact ⟨v', w', hr, fresh v' w' ho hg⟩
  · have hown2 : w.ownsRow base e 1 (.slice (some ⟨g, 0, none⟩) n cap) n xs := ⟨hl, .inr ⟨g, cap, cur, rfl, hb, hh, hc, hm, hs, htk⟩⟩
    by_cases hroom : n + 1 ≤ cap
    · obtain ⟨w', hr, ho, hg⟩ := run_append_own_spare (P := P) w base t ty e i 1 ht hi hsize g n cap xs hown2 a 1 c [x] rfl hnews hone hroom
      exact ⟨_, w', hr, ⟨ho, hg, .inl rfl, fun u hu _ => owns_shrink hu, ⟨_, _, rfl⟩⟩⟩
    · obtain ⟨v', w', hr, ho, hg⟩ := run_append_arg_grows (P := P) w t ty e i z 1 bytes ht hi hz hsize hby hzs (by omega) ⟨g, 0, none⟩ n cap xs hl (hown2.cells (g := g) rfl) a 1 c [x] rfl hnews (by omega) h63 hbytes
      exact ⟨v', w', hr, fresh v' w' ho hg⟩

/-- As a step of a region that draws its order. -/
theorem step_push {P : Program} {ops : Array Oper} {o : Oper} {a : Act} {K : Act → World → Prop} {Q : Exit → Act → World → Prop} {E : Prop} (hw : Region.wanted o (yielded ops a.tmps) = true) (s y : Operand) (t : TypeId)
    (hop : o.op = .call { callee := .builtin .append, args := #[s, y], argTypes := #[t, t] }) (i : TypeInfo) (z : Value) (bytes : Nat) (ht : P.underlying t = some (.slice e)) (hi : P.info? e = some i) (hz : i.zero = some z) (hsize : i.size = 1) (hby : i.bytes = bytes) (hzs : z.cells.size = 1)
    (hs : a.eval s = v) (hown : w.ownsRow base e 1 v n xs) (ad : Addr) (c : Nat) (x : Value) (hy : a.eval y = .slice (some ad) 1 c) (hx : w.cell? ad = some x) (h1 : x.oneCell' = true) (h63 : n + 1 ≤ maxLen) (hbytes : (n + 1) * bytes ≤ 140737488355328) (hbase : base ≤ w.heap.size)
    (h : ∀ v' w', Pushed w w' base e v v' n xs x → K (a.put o.dst v') w') :
    if Region.wanted o (yielded ops a.tmps) = true then Oper.wp P o a w K Q else E := by
  rw [if_pos hw]
  obtain ⟨v', w', hr, hp⟩ := run_push (P := P) t o.type i z bytes ht hi hz hsize hby hzs hown ad c x hx h1 h63 hbytes hbase
  unfold Oper.wp execOp
  simp only [hop, resolve, invoke, builtin, Sem.run_bind, Sem.run_pure, Result.andThen_ok, List.map_toArray, List.map_cons, List.map_nil, hs, hy, hr]
  exact h v' w' hp
theorem wpList_push {P : Program} {ops : Array Oper} {rest : List Oper} {o : Oper} {a : Act} {Q : Exit → Act → World → Prop} (hgd : o.guard = none) (s y : Operand) (t : TypeId)
    (hop : o.op = .call { callee := .builtin .append, args := #[s, y], argTypes := #[t, t] }) (i : TypeInfo) (z : Value) (bytes : Nat) (ht : P.underlying t = some (.slice e)) (hi : P.info? e = some i) (hz : i.zero = some z) (hsize : i.size = 1) (hby : i.bytes = bytes) (hzs : z.cells.size = 1)
    (hs : a.eval s = v) (hown : w.ownsRow base e 1 v n xs) (ad : Addr) (c : Nat) (x : Value) (hy : a.eval y = .slice (some ad) 1 c) (hx : w.cell? ad = some x) (h1 : x.oneCell' = true) (h63 : n + 1 ≤ maxLen) (hbytes : (n + 1) * bytes ≤ 140737488355328) (hbase : base ≤ w.heap.size)
    (h : ∀ v' w', Pushed w w' base e v v' n xs x → wpList P ops Q rest (a.put o.dst v') w') : wpList P ops Q (o :: rest) a w := by
  refine wpList_plain hgd fun K hK => ?_
  obtain ⟨v', w', hr, hp⟩ := run_push (P := P) t o.type i z bytes ht hi hz hsize hby hzs hown ad c x hx h1 h63 hbytes hbase
  unfold Oper.wp execOp
  simp only [hop, resolve, invoke, builtin, Sem.run_bind, Sem.run_pure, Result.andThen_ok, List.map_toArray, List.map_cons, List.map_nil, hs, hy, hr]
  exact hK _ _ (h v' w' hp)
end

/-- The slice v reads as the numbers zs; its cells, if any, lie in a block of S. -/
def IntsIn (w : World) (S : Nat → Prop) (v : Value) (zs : List Int) : Prop :=
  ∃ (A : Option Addr) (cap : Nat), v = .slice A zs.length cap ∧ zs.length ≤ cap ∧ cap ≤ maxLen ∧ (∀ z ∈ zs, I64 z) ∧
    (0 < zs.length → ∃ b off, A = some ⟨b, off, none⟩ ∧ S b ∧ ∀ k, k < zs.length → w.cell? ⟨b, off + k, none⟩ = some (.int .i64 (zs.getD k 0)))
theorem IntsIn.keep {w w' : World} {S : Nat → Prop} {v : Value} {zs : List Int} (h : IntsIn w S v zs) (hk : ∀ b, S b → w'.heap[b]? = w.heap[b]?) : IntsIn w' S v zs := by
  obtain ⟨A, cap, e, h1, h2, h3, h4⟩ := h
  refine ⟨A, cap, e, h1, h2, h3, fun h0 => ?_⟩
  obtain ⟨b, off, hA, hS, hc⟩ := h4 h0
  exact ⟨b, off, hA, hS, fun k hkk => (World.cell?_of_block (w := w) (hk b hS)).trans (hc k hkk)⟩
theorem IntsIn.more {w : World} {S S' : Nat → Prop} {v : Value} {zs : List Int} (h : IntsIn w S v zs) (hS : ∀ b, S b → S' b) : IntsIn w S' v zs := by
  obtain ⟨A, cap, e, h1, h2, h3, h4⟩ := h
  refine ⟨A, cap, e, h1, h2, h3, fun h0 => ?_⟩
  obtain ⟨b, off, hA, hb, hc⟩ := h4 h0
  exact ⟨b, off, hA, hS b hb, hc⟩
theorem IntsIn.at {w : World} {S : Nat → Prop} {v : Value} {zs : List Int} {lo hi : Nat} (h : IntsIn w S v zs) (hS : ∀ b, S b → lo ≤ b ∧ b < hi) : IntsAt w lo hi v zs := by
  obtain ⟨A, cap, e, h1, h2, h3, h4⟩ := h
  refine ⟨A, cap, e, h1, h2, h3, fun h0 => ?_⟩
  obtain ⟨b, off, hA, hb, hc⟩ := h4 h0
  exact ⟨b, off, hA, (hS b hb).1, (hS b hb).2, hc⟩
theorem IntsIn.one {w : World} {S : Nat → Prop} {v : Value} {zs : List Int} (h : IntsIn w S v zs) : v.oneCell' = true := by
  obtain ⟨A, cap, rfl, _⟩ := h
  rfl
end Go.Proofs.Ytabipfomcldkiaa

namespace Go.Proofs.Ytabipfomcldkiaa
open Go.RowKit

/-- The slice v reads as the lists zss. -/
def SSAt (w : World) (lo hi : Nat) (v : Value) (zss : List (List Int)) : Prop :=
  ∃ (A : Option Addr) (cap : Nat), v = .slice A zss.length cap ∧ zss.length ≤ cap ∧ cap ≤ maxLen ∧
    (0 < zss.length → ∃ b off, A = some ⟨b, off, none⟩ ∧ lo ≤ b ∧ b < hi ∧ ∀ k, ∀ (hk : k < zss.length), ∃ x, w.cell? ⟨b, off + k, none⟩ = some x ∧ IntsAt w lo hi x zss[k])
section
variable {w w' : World} {lo hi : Nat} {v : Value} {zss : List (List Int)}
theorem SSAt.keep (h : SSAt w lo hi v zss) (hk : ∀ k, lo ≤ k → k < hi → w'.heap[k]? = w.heap[k]?) : SSAt w' lo hi v zss := by
  obtain ⟨A, cap, e, h1, h2, h3⟩ := h
  refine ⟨A, cap, e, h1, h2, fun h0 => ?_⟩
  obtain ⟨b, off, hA, hl, hh, hc⟩ := h3 h0
  refine ⟨b, off, hA, hl, hh, fun k hkk => ?_⟩
  obtain ⟨x, hx, hz⟩ := hc k hkk
  exact ⟨x, (World.cell?_of_block (w := w) (hk b hl hh)).trans hx, hz.keep hk⟩
theorem SSAt.below {B : Nat} (h : SSAt w lo hi v zss) (hb : Below B w w') (hB : hi ≤ B) : SSAt w' lo hi v zss := h.keep fun k _ hk => hb.block k (by omega)
theorem SSAt.form (h : SSAt w lo hi v zss) : ∃ (A : Option Addr) (cap : Nat), v = .slice A zss.length cap ∧ zss.length ≤ cap ∧ cap ≤ maxLen ∧ SSAt w lo hi (.slice A zss.length cap) zss := by
  obtain ⟨A, cap, rfl, h1, h2, h3⟩ := h
  exact ⟨A, cap, rfl, h1, h2, A, cap, rfl, h1, h2, h3⟩
theorem SSAt.at_ {A : Option Addr} {n cap k : Nat} (h : SSAt w lo hi (.slice A n cap) zss) (hk : k < zss.length) :
    ∃ (b off : Nat) (A2 : Option Addr) (c2 : Nat), A = some ⟨b, off, none⟩ ∧ lo ≤ b ∧ b < hi ∧ w.cell? ⟨b, off + k, none⟩ = some (.slice A2 zss[k].length c2) ∧ IntsAt w lo hi (.slice A2 zss[k].length c2) zss[k] := by
  obtain ⟨A', cap', e, _, _, h3⟩ := h
  injection e with eA
  subst eA
  obtain ⟨b, off, hA, hl, hh, hc⟩ := h3 (by omega)
  obtain ⟨x, hx, hz⟩ := hc k hk
  obtain ⟨A2, c2, rfl, _, _, hz2⟩ := hz.form
  exact ⟨b, off, A2, c2, hA, hl, hh, hx, hz2⟩
end

end Go.Proofs.Ytabipfomcldkiaa

namespace Go.Proofs.Ytabipfomcldkiaa
open Go.RowKit

/-- All ways from k to goal of at most n - 1 coercions, in order. -/
def waysF (cs : List Co) : Nat → Int → Int → List (List Int)
  | 0, _, _ => []
  | n + 1, k, goal => if k = goal then [[]] else (List.range cs.length).flatMap fun i => if (cs.getD i default).src = k then (waysF cs n (cs.getD i default).dst goal).map fun z => (i : Int) :: z else []
/-- Those of them that begin with one of the first j coercions. -/
def waysJ (cs : List Co) (n : Nat) (k goal : Int) (j : Nat) : List (List Int) :=
  (List.range j).flatMap fun i => if (cs.getD i default).src = k then (waysF cs n (cs.getD i default).dst goal).map fun z => (i : Int) :: z else []
theorem waysF_eq (cs : List Co) (n : Nat) (k : Int) : waysF cs (n + 1) k k = [[]] := by rw [waysF, if_pos rfl]
theorem waysF_ne {cs : List Co} {n : Nat} {k goal : Int} (h : ¬ k = goal) : waysF cs (n + 1) k goal = waysJ cs n k goal cs.length := by rw [waysF, if_neg h]; rfl
theorem waysJ_zero (cs : List Co) (n : Nat) (k goal : Int) : waysJ cs n k goal 0 = [] := rfl
theorem waysJ_hit {cs : List Co} {n : Nat} {k goal : Int} {j : Nat} (hj : j < cs.length) (h : cs[j].src = k) : waysJ cs n k goal (j + 1) = waysJ cs n k goal j ++ (waysF cs n cs[j].dst goal).map fun z => (j : Int) :: z := by
  unfold waysJ
  rw [List.range_succ, List.flatMap_append]
  simp only [List.flatMap_cons, List.flatMap_nil, List.append_nil]
  rw [getD_at hj, if_pos h]
theorem waysJ_miss {cs : List Co} {n : Nat} {k goal : Int} {j : Nat} (hj : j < cs.length) (h : ¬ cs[j].src = k) : waysJ cs n k goal (j + 1) = waysJ cs n k goal j := by
  unfold waysJ
  rw [List.range_succ, List.flatMap_append]
  simp only [List.flatMap_cons, List.flatMap_nil, List.append_nil]
  rw [getD_at hj, if_neg h, List.append_nil]
theorem waysJ_mono (cs : List Co) (n : Nat) (k goal : Int) {i j : Nat} (h : i ≤ j) : (waysJ cs n k goal i).length ≤ (waysJ cs n k goal j).length := by
  unfold waysJ
  obtain ⟨d, rfl⟩ := Nat.exists_eq_add_of_le h
  rw [List.range_add, List.flatMap_append, List.length_append]
  omega
theorem waysF_len {cs : List Co} (h8 : cs.length ≤ 8) : ∀ (n : Nat) (k goal : Int), (waysF cs n k goal).length ≤ 8 ^ n := by
  intro n
  induction n with
  | zero => intro k goal; simp [waysF]
  | succ n ih =>
    intro k goal
    by_cases h : k = goal
    · subst h; rw [waysF_eq]; simp; exact Nat.one_le_pow _ _ (by omega)
    · rw [waysF_ne h]
      have key : ∀ j, j ≤ cs.length → (waysJ cs n k goal j).length ≤ j * 8 ^ n := by
        intro j
        induction j with
        | zero => intro _; simp [waysJ_zero]
        | succ j ihj =>
          intro hj
          have h1 := ihj (by omega)
          by_cases hs : cs[j].src = k
          · rw [waysJ_hit (by omega) hs, List.length_append, List.length_map, Nat.succ_mul]
            have := ih cs[j].dst goal
            omega
          · rw [waysJ_miss (by omega) hs, Nat.succ_mul]
            exact Nat.le_trans h1 (Nat.le_add_right _ _)
      have h2 := key cs.length (Nat.le_refl _)
      have h3 : cs.length * 8 ^ n ≤ 8 * 8 ^ n := Nat.mul_le_mul_right _ h8
      rw [Nat.pow_succ, Nat.mul_comm (8 ^ n) 8]
      omega
/-- All ways in valid types. -/
def waysOf (t : Ty) (a b : Int) : List (List Int) := waysF t.cos 5 a b
theorem waysOf_len {t : Ty} (h : tyOk t = true) (a b : Int) : (waysOf t a b).length ≤ 32768 := waysF_len (tyOk_few h) 5 a b
theorem waysF_wf {cs : List Co} (h8 : cs.length ≤ 8) : ∀ (n : Nat) (k goal : Int), ∀ z ∈ waysF cs n k goal, ∀ i ∈ z, I64 i := by
  intro n
  induction n with
  | zero => intro k goal z hz; simp [waysF] at hz
  | succ n ih =>
    intro k goal z hz
    by_cases h : k = goal
    · subst h; rw [waysF_eq] at hz; simp at hz; subst hz; simp
    · rw [waysF_ne h] at hz
      unfold waysJ at hz
      obtain ⟨i, hi, hz⟩ := List.mem_flatMap.1 hz
      have hi := List.mem_range.1 hi
      split at hz
      · obtain ⟨y, hy, rfl⟩ := List.mem_map.1 hz
        intro q hq
        rcases List.mem_cons.1 hq with rfl | hq
        · unfold I64; omega
        · exact ih _ _ y hy q hq
      · simp at hz
theorem waysF_short {cs : List Co} : ∀ (n : Nat) (k goal : Int), ∀ z ∈ waysF cs n k goal, z.length < n := by
  intro n
  induction n with
  | zero => intro k goal z hz; simp [waysF] at hz
  | succ n ih =>
    intro k goal z hz
    by_cases h : k = goal
    · subst h; rw [waysF_eq] at hz; simp at hz; subst hz; simp
    · rw [waysF_ne h] at hz
      unfold waysJ at hz
      obtain ⟨i, hi, hz⟩ := List.mem_flatMap.1 hz
      split at hz
      · obtain ⟨y, hy, rfl⟩ := List.mem_map.1 hz
        have := ih _ _ y hy
        simp
        omega
      · simp at hz

theorem step_append_ints {w : World} {ops : Array Oper} {o : Oper} {a : Act} {K : Act → World → Prop} {Q : Exit → Act → World → Prop} {E : Prop} (hgd : o.guard = none) (s x : Operand)
    (ho : o.op = .call { callee := .builtin .append, args := #[s, x], argTypes := #[23, 23] })
    (base : Nat) (v : Value) (n : Nat) (xs : List Value) (hs : a.eval s = v) (hown : w.ownsRow base 3 1 v n xs) (lo hi : Nat) (A : Option Addr) (m c : Nat) (zs : List Int) (hx : a.eval x = .slice A m c)
    (hz : IntsAt w lo hi (.slice A m c) zs) (hm : zs.length = m) (h63 : n + m ≤ 2097152) (hbase : base ≤ w.heap.size)
    (h : ∀ VA VC w', w'.ownsRow base 3 1 (.slice VA (n + m) VC) (n + m) (xs ++ zs.map (Value.int .i64)) → w.grownBy w' v.ownBlock → K (a.put o.dst (.slice VA (n + m) VC)) w') :
    if Region.wanted o (yielded ops a.tmps) = true then Oper.wp Try.prog o a w K Q else E := by
  have hw : Region.wanted o (yielded ops a.tmps) = true := by simp [Region.wanted, hgd]
  rw [if_pos hw]
  obtain ⟨i0, hi0, hz0, hz1, hz2⟩ := info_parts Try.infoInt
  subst hm
  rcases A with _ | ad
  · have hn : zs = [] := by
      rcases zs with _ | ⟨z, zs⟩
      · rfl
      · obtain ⟨b, off, e, _⟩ := hz.at_ (k := 0) (by simp)
        cases e
    subst hn
    obtain ⟨VA, VC, rfl⟩ := owns_form hown
    rw [List.length_nil] at hx
    have hrun := run_append_owned_none' (P := Try.prog) (w := w) base 23 o.type 3 i0 1 Try.underlying23 hi0 _ _ _ c hown
    have := h VA VC w (by simpa using hown) ⟨rfl, rfl, rfl, Nat.le_refl _, fun _ _ _ => rfl⟩
    unfold Oper.wp
    have this2 : K (a.put o.dst (.slice VA n VC)) w := by simpa using this
    simp [execOp, ho, resolve, invoke, builtin, hs, hx, hrun, Result.andThen]
    exact this2
  · refine wp_append_own w s x 23 ho base 3 i0 (.int .i64 0) 1 8 Try.underlying23 hi0 hz0 hz1 hz2 rfl (by decide) _ _ _ hs hown ad zs.length c (zs.map (Value.int .i64)) hx (by simp) hz.cells (ints_oneCell' zs) (by unfold maxLen; omega) (by omega) hbase ?_
    intro v' w2 hown2 hgrow _
    obtain ⟨VA, VC, rfl⟩ := owns_form hown2
    exact h VA VC w2 hown2 hgrow
end Go.Proofs.Ytabipfomcldkiaa

namespace Go.Proofs.Ytabipfomcldkiaa
open Go.RowKit

theorem owns_ne_row {w : World} {base g : Nat} {e t : TypeId} {v : Value} {n : Nat} {xs ys : List Value} (h : w.ownsRow base e 1 v n xs) (hr : Row w g t ys) (hne : e ≠ t) : v.ownBlock ≠ some g := by
  intro hv
  obtain ⟨_, ⟨rfl, _⟩ | ⟨g', cap, cur, rfl, hb, hh, _⟩⟩ := h
  · simp [Value.ownBlock] at hv
  · simp only [Value.ownBlock, Option.some.injEq] at hv
    subst hv
    unfold Row at hr
    rw [hr] at hh
    simp only [Option.some.injEq, Obj.cells.injEq] at hh
    exact hne hh.2.1.symm
theorem owns_ne_owns {w : World} {base base' : Nat} {e e' : TypeId} {v v' : Value} {n n' : Nat} {xs xs' : List Value} (h : w.ownsRow base e 1 v n xs) (h' : w.ownsRow base' e' 1 v' n' xs') (hne : e ≠ e') : ∀ b, v.ownBlock = some b → v'.ownBlock ≠ some b := by
  intro b hv hv'
  obtain ⟨_, ⟨rfl, _⟩ | ⟨g, cap, cur, rfl, hb, hh, _⟩⟩ := h
  · simp [Value.ownBlock] at hv
  obtain ⟨_, ⟨rfl, _⟩ | ⟨g', cap', cur', rfl, hb', hh', _⟩⟩ := h'
  · simp [Value.ownBlock] at hv'
  simp only [Value.ownBlock, Option.some.injEq] at hv hv'
  subst hv
  subst hv'
  rw [hh] at hh'
  simp only [Option.some.injEq, Obj.cells.injEq] at hh'
  exact hne hh'.2.1

/-- The pieces of a finder in memory: the value of the way, of what was found, the cells of the latter, the blocks in which the found ways lie. -/
structure FP (sv cv : Value) (goal : Int) (base g : Nat) (way : List Int) (outs : List (List Int)) (w : World) (wv ov : Value) (xs : List Value) (S : Nat → Prop) : Prop where
  row : Row w g 120 [sv, cv, .int .i64 goal, wv, ov]
  le : base ≤ g
  fway : w.ownsRow base 3 1 wv way.length (way.map (Value.int .i64))
  fouts : w.ownsRow base 23 1 ov outs.length xs
  ints : ∀ i, ∀ (h : i < outs.length), ∃ x, xs[i]? = some x ∧ IntsIn w S x outs[i]
  set : ∀ b, S b → base ≤ b ∧ b < w.heap.size ∧ b ≠ g ∧ some b ≠ wv.ownBlock ∧ some b ≠ ov.ownBlock
def FS (sv cv : Value) (goal : Int) (base g : Nat) (way : List Int) (outs : List (List Int)) (w : World) : Prop := ∃ wv ov xs S, FP sv cv goal base g way outs w wv ov xs S

section
variable {sv cv wv ov : Value} {goal : Int} {base g : Nat} {way : List Int} {outs : List (List Int)} {w w' w6 w7 : World} {xs : List Value} {S : Nat → Prop}
theorem FP.ne1 (h : FP sv cv goal base g way outs w wv ov xs S) : wv.ownBlock ≠ some g := owns_ne_row h.fway h.row (by decide)
theorem FP.ne2 (h : FP sv cv goal base g way outs w wv ov xs S) : ov.ownBlock ≠ some g := owns_ne_row h.fouts h.row (by decide)
theorem FP.ne3 (h : FP sv cv goal base g way outs w wv ov xs S) : ∀ b, wv.ownBlock = some b → ov.ownBlock ≠ some b := owns_ne_owns h.fway h.fouts (by decide)
theorem FP.keep (h : FP sv cv goal base g way outs w wv ov xs S) (hs : w.heap.size ≤ w'.heap.size) (hk : ∀ k, base ≤ k → k < w.heap.size → w'.heap[k]? = w.heap[k]?) : FP sv cv goal base g way outs w' wv ov xs S where
  row := h.row.keep (hk g h.le h.row.lt)
  le := h.le
  fway := ownsRow_keep h.fway hk
  fouts := ownsRow_keep h.fouts hk
  ints := fun i hi => by
    obtain ⟨x, hx, hz⟩ := h.ints i hi
    exact ⟨x, hx, hz.keep fun b hb => hk b (h.set b hb).1 (h.set b hb).2.1⟩
  set := fun b hb => by
    obtain ⟨h1, h2, h3⟩ := h.set b hb
    exact ⟨h1, by omega, h3⟩
theorem FS.keep (h : FS sv cv goal base g way outs w) (hs : w.heap.size ≤ w'.heap.size) (hk : ∀ k, base ≤ k → k < w.heap.size → w'.heap[k]? = w.heap[k]?) : FS sv cv goal base g way outs w' := by
  obtain ⟨wv, ov, xs, S, h⟩ := h
  exact ⟨wv, ov, xs, S, h.keep hs hk⟩
theorem heap_set_ne (w : World) (g i : Nat) (u : Value) (k : Nat) (h : k ≠ g) : (w.setCell ⟨g, i, none⟩ u).heap[k]? = w.heap[k]? := Below.heap_setCell w ⟨g, i, none⟩ u k h

theorem FP.pushWay {wv' : Value} {i : Int} (h : FP sv cv goal base g way outs w wv ov xs S) (hp : Pushed w w' base 3 wv wv' way.length (way.map (Value.int .i64)) (.int .i64 i)) :
    FP sv cv goal base g (way ++ [i]) outs (w'.setCell ⟨g, 3, none⟩ wv') wv' ov xs S := by
  have hg := h.row.lt
  have hgr : w'.heap[g]? = w.heap[g]? := hp.grown.block g hg (fun e => h.ne1 e.symm)
  have hne' : wv'.ownBlock ≠ some g := by
    rcases hp.at_ with e | ⟨g', e, h1, _⟩
    · rw [e]; exact h.ne1
    · rw [e]; intro h2; simp only [Option.some.injEq] at h2; omega
  refine ⟨(h.row.keep hgr).set_ 3 wv', h.le, ?_, ?_, fun j hj => ?_, fun b hb => ?_⟩
  · refine ownsRow_keep1 (w := w') ?_ fun b hb => heap_set_ne _ _ _ _ _ (fun e => hne' (by rw [hb, e]))
    rw [List.length_append, List.map_append]
    exact hp.own
  · refine ownsRow_keep1 h.fouts fun b hb => (heap_set_ne _ _ _ _ _ (fun e => h.ne2 (by rw [hb, e]))).trans (hp.grown.block b (owns_lt h.fouts b hb).2 fun e => h.ne3 b e.symm hb)
  · obtain ⟨x, hx, hz⟩ := h.ints j hj
    refine ⟨x, hx, hz.keep fun b hb => ?_⟩
    obtain ⟨_, h2, h3, h4, _⟩ := h.set b hb
    exact (heap_set_ne _ _ _ _ _ h3).trans (hp.grown.block b h2 h4)
  · obtain ⟨h1, h2, h3, h4, h5⟩ := h.set b hb
    refine ⟨h1, by have := hp.grown.size; simp [World.setCell]; omega, h3, ?_, h5⟩
    rcases hp.at_ with e | ⟨g', e, h6, _⟩
    · rw [e]; exact h4
    · rw [e]; intro h7; simp only [Option.some.injEq] at h7; omega

theorem FP.pushOut {ov' x : Value} (h : FP sv cv goal base g way outs w wv ov xs S) (hs : w.heap.size ≤ w6.heap.size) (hk : ∀ k, k < w.heap.size → w6.heap[k]? = w.heap[k]?) (hx : IntsIn w6 (fun b => w.heap.size ≤ b ∧ b < w6.heap.size) x way)
    (hp : Pushed w6 w7 base 23 ov ov' outs.length xs x) : FS sv cv goal base g way (outs ++ [way]) (w7.setCell ⟨g, 4, none⟩ ov') := by
  have hg := h.row.lt
  have h6 := h.keep hs (fun k _ hkk => hk k hkk)
  have hgr : w7.heap[g]? = w6.heap[g]? := hp.grown.block g h6.row.lt (fun e => h6.ne2 e.symm)
  have hne' : ov'.ownBlock ≠ some g := by
    rcases hp.at_ with e | ⟨g', e, h1, _⟩
    · rw [e]; exact h6.ne2
    · rw [e]; intro h2; simp only [Option.some.injEq] at h2; omega
  have hwl := owns_lt h.fway
  have hbl := owns_lt h.fouts
  have hsz := hp.grown.size
  have hxl := h.fouts.1
  refine ⟨wv, ov', xs ++ [x], fun b => S b ∨ (w.heap.size ≤ b ∧ b < w6.heap.size), (h6.row.keep hgr).set_ 4 ov', h.le, ?_, ?_, fun j hj => ?_, fun b hb => ?_⟩
  · refine ownsRow_keep1 h6.fway fun b hb => (heap_set_ne _ _ _ _ _ (fun e => h.ne1 (by rw [hb, e]))).trans (hp.grown.block b (owns_lt h6.fway b hb).2 fun e => h.ne3 b hb e.symm)
  · refine ownsRow_keep1 (w := w7) ?_ fun b hb => heap_set_ne _ _ _ _ _ (fun e => hne' (by rw [hb, e]))
    rw [List.length_append]
    exact hp.own
  · have kept : ∀ b, (S b ∨ (w.heap.size ≤ b ∧ b < w6.heap.size)) → (w7.setCell ⟨g, 4, none⟩ ov').heap[b]? = w6.heap[b]? := by
      intro b hb
      rcases hb with hb | hb
      · obtain ⟨_, h2, h3, h4, h5⟩ := h.set b hb
        exact (heap_set_ne _ _ _ _ _ h3).trans (hp.grown.block b (by omega) h5)
      · refine (heap_set_ne _ _ _ _ _ (by omega)).trans (hp.grown.block b hb.2 fun e => ?_)
        have := (hbl b e.symm).2
        omega
    by_cases hjl : j < outs.length
    · obtain ⟨y, hy, hz⟩ := h6.ints j hjl
      refine ⟨y, ?_, ?_⟩
      · rw [List.getElem?_append_left (by rw [hxl]; omega)]; exact hy
      · rw [List.getElem_append_left hjl]
        exact (hz.more fun b hb => Or.inl hb).keep kept
    · obtain rfl : j = outs.length := by simp at hj; omega
      refine ⟨x, ?_, ?_⟩
      · rw [List.getElem?_append_right (by rw [hxl]; omega), hxl]; simp
      · have e : (outs ++ [way])[outs.length] = way := by simp
        rw [e]
        exact (hx.more fun b hb => Or.inr hb).keep kept
  · have h5' : b < (w7.setCell ⟨g, 4, none⟩ ov').heap.size ↔ b < w7.heap.size := by simp [World.setCell]
    rcases hb with hb | hb
    · obtain ⟨h1, h2, h3, h4, h5⟩ := h.set b hb
      refine ⟨h1, h5'.2 (by omega), h3, h4, ?_⟩
      rcases hp.at_ with e | ⟨g', e, h6, _⟩
      · rw [e]; exact h5
      · rw [e]; intro h7; simp only [Option.some.injEq] at h7; omega
    · have hle := h.le
      refine ⟨by omega, h5'.2 (by omega), by omega, ?_, ?_⟩
      · intro e
        have := (hwl b e.symm).2
        omega
      · rcases hp.at_ with e | ⟨g', e, h6, _⟩
        · rw [e]; intro e2
          have := (hbl b e2.symm).2
          omega
        · rw [e]; intro h7; simp only [Option.some.injEq] at h7; omega

theorem IntsAt.in_ {w : World} {lo hi : Nat} {v : Value} {zs : List Int} (h : IntsAt w lo hi v zs) : IntsIn w (fun b => lo ≤ b ∧ b < hi) v zs := by
  obtain ⟨A, cap, e, h1, h2, h3, h4⟩ := h
  refine ⟨A, cap, e, h1, h2, h3, fun h0 => ?_⟩
  obtain ⟨b, off, hA, hl, hh, hc⟩ := h4 h0
  exact ⟨b, off, hA, ⟨hl, hh⟩, hc⟩
theorem FP.belowOut {ov' x u : Value} {j : Nat} (h : FP sv cv goal base g way outs w wv ov xs S) (ho : w6.os = w.os ∧ w6.tape = w.tape ∧ w6.output = w.output) (hbs : base ≤ w.heap.size) (hs : w.heap.size ≤ w6.heap.size) (hk : ∀ k, k < w.heap.size → w6.heap[k]? = w.heap[k]?)
    (hp : Pushed w6 w7 base 23 ov ov' outs.length xs x) : Below base w (w7.setCell ⟨g, j, none⟩ u) := by
  have hb : Below base w w7 := ⟨hp.grown.os.trans ho.1, hp.grown.tape.trans ho.2.1, hp.grown.output.trans ho.2.2, Nat.le_trans hs hp.grown.size, fun k hk2 => (hp.grown.block k (by omega) (fun e => by have := (owns_lt h.fouts k e.symm).1; omega)).trans (hk k (by omega))⟩
  exact hb.setCell h.le _

theorem FP.pop {i : Int} {g2 cap : Nat} (h : FP sv cv goal base g (way ++ [i]) outs w (.slice (some ⟨g2, 0, none⟩) (way.length + 1) cap) ov xs S) :
    FS sv cv goal base g way outs (w.setCell ⟨g, 3, none⟩ (.slice (some ⟨g2, 0, none⟩) way.length cap)) := by
  have hne : g2 ≠ g := fun e => h.ne1 (by rw [← e]; rfl)
  refine ⟨.slice (some ⟨g2, 0, none⟩) way.length cap, ov, xs, S, h.row.set_ 3 _, h.le, ?_, ?_, fun j hj => ?_, fun b hb => ?_⟩
  · have hw := h.fway
    rw [List.length_append, List.map_append] at hw
    exact ownsRow_keep1 (owns_shrink (x := .int .i64 i) hw) fun b hb => heap_set_ne _ _ _ _ _ (fun e => by simp only [Value.ownBlock, Option.some.injEq] at hb; omega)
  · exact ownsRow_keep1 h.fouts fun b hb => heap_set_ne _ _ _ _ _ (fun e => h.ne2 (by rw [hb, e]))
  · obtain ⟨x, hx, hz⟩ := h.ints j hj
    exact ⟨x, hx, hz.keep fun b hb => heap_set_ne _ _ _ _ _ (h.set b hb).2.2.1⟩
  · obtain ⟨h1, h2, h3, h4, h5⟩ := h.set b hb
    exact ⟨h1, by simpa [World.setCell] using h2, h3, h4, h5⟩
end
end Go.Proofs.Ytabipfomcldkiaa

namespace Go.Proofs.Ytabipfomcldkiaa
open Go.RowKit

/-- What is left of an allowance when n is taken from it; -1 if it is not enough. -/
def subI (left : Int) (n : Nat) : Int := if left - n < 0 then -1 else left - n
theorem subI_neg {left : Int} {n : Nat} (h : left - n < 0) : subI left n = -1 := if_pos h
theorem subI_pos {left : Int} {n : Nat} (h : ¬ left - n < 0) : subI left n = left - n := if_neg h

theorem subI_sub {left : Int} {n m : Nat} (_h : ¬ left - n < 0) : subI (left - n) m = subI left (n + m) := by
  unfold subI
  by_cases h2 : left - n - m < 0
  · rw [if_pos h2, if_pos (by omega)]
  · rw [if_neg h2, if_neg (by omega)]; omega

end Go.Proofs.Ytabipfomcldkiaa

namespace Go.Proofs.Ytabipfomcldkiaa
open Go.RowKit

end Go.Proofs.Ytabipfomcldkiaa

namespace Go.Proofs.Ytabipfomcldkiaa
open Go.RowKit

end Go.Proofs.Ytabipfomcldkiaa

namespace Go.Proofs.Ytabipfomcldkiaa
open Go.RowKit

theorem markL_wf (k : Int) (n : Nat) (h0 : 0 ≤ k) (h1 : k + n ≤ 1000000000) : ∀ z ∈ markL k n, I64 z := by
  intro z hz
  unfold markL at hz
  obtain ⟨i, hi, rfl⟩ := List.mem_map.1 hz
  have := List.mem_range.1 hi
  unfold I64
  omega
theorem lenSum_maps (t : Ty) (n : Nat) (hn : n ≤ t.cos.length) : lenSum (fun j => t.cos.getD j default) n = mapsLen t.cos n := by
  induction n with
  | zero => rfl
  | succ n ih =>
    rw [mapsLen_succ t.cos n (by omega), ← ih (by omega)]
    rfl

theorem newUses {g n : Nat} {ss : List Int} {f : Nat → Co} {k : Nat} (h : OwnTy.uses g (g + 1) (fun j => g + 1 + 1 + 4 * j + 3) ss n f k) : g ≤ k ∧ k < g + 2 + 4 * n := by
  rcases h with ⟨_, rfl⟩ | ⟨_, rfl⟩ | ⟨i, hi, _, rfl⟩
  · omega
  · omega
  · dsimp only; omega

theorem markAt_le {f : Nat → Co} {k0 : Int} {n : Nat} {B : Int} (h : k0 + 2 * (n : Int) + (lenSum f n : Int) ≤ B) : markAt f k0 n ≤ B := h
end Go.Proofs.Ytabipfomcldkiaa

namespace Go.Proofs.Ytabipfomcldkiaa
open Go.RowKit

def lsum (f : Nat → List Int) : Nat → Nat
  | 0 => 0
  | i + 1 => lsum f i + (f i).length
theorem lsum_mono (f : Nat → List Int) {i j : Nat} (h : i ≤ j) : lsum f i ≤ lsum f j := by
  induction j with
  | zero => obtain rfl : i = 0 := by omega
            exact Nat.le_refl _
  | succ j ih =>
    by_cases e : i = j + 1
    · rw [e]; exact Nat.le_refl _
    · have := ih (by omega)
      show _ ≤ lsum f j + _
      omega
/-- The list lies at the head of block g, its j-th member at the head of block gs j. -/
structure OwnSS (w : World) (g : Nat) (gs : Nat → Nat) (v : Value) (n : Nat) (f : Nat → List Int) (xs : List Value) : Prop where
  out : SlAt w 23 g v n xs
  own : ∀ i, i < n → ∃ x, xs[i]? = some x ∧ OwnI w 3 (gs i) x (f i)
  ne : ∀ i j, i < n → j < n → i ≠ j → 0 < (f i).length → 0 < (f j).length → gs i ≠ gs j
section
variable {w w' : World} {g n : Nat} {gs : Nat → Nat} {v : Value} {f : Nat → List Int} {xs : List Value}
theorem OwnSS.apart (h : OwnSS w g gs v n f xs) {i : Nat} (hi : i < n) (h0 : 0 < (f i).length) : g ≠ gs i := by
  intro e
  obtain ⟨x, _, A, cap, _, _, _, _, h4⟩ := h.own i hi
  obtain ⟨_, rest, hr⟩ := h4 h0
  obtain ⟨B, cap', _, _, _, _, h5⟩ := h.out
  obtain ⟨_, rest', hr'⟩ := h5 (by omega)
  rw [← e] at hr
  unfold Row at hr hr'
  rw [hr] at hr'
  simp only [Option.some.injEq, Obj.cells.injEq] at hr'
  exact absurd hr'.2.1 (by decide)
theorem OwnSS.keep (h : OwnSS w g gs v n f xs) (hk : ∀ k, (k = g ∧ 0 < n ∨ ∃ i, i < n ∧ 0 < (f i).length ∧ k = gs i) → w'.heap[k]? = w.heap[k]?) : OwnSS w' g gs v n f xs :=
  ⟨h.out.keep fun h0 => hk g (.inl ⟨rfl, h0⟩), fun i hi => by
    obtain ⟨x, hx, ho⟩ := h.own i hi
    exact ⟨x, hx, SlAt.keep ho fun h0 => hk (gs i) (.inr ⟨i, hi, h0, rfl⟩)⟩, h.ne⟩
theorem OwnSS.ss {lo hi : Nat} (h : OwnSS w g gs v n f xs) (hw : ∀ i, i < n → ∀ z ∈ f i, I64 z) (hg : 0 < n → lo ≤ g ∧ g < hi) (hgs : ∀ i, i < n → 0 < (f i).length → lo ≤ gs i ∧ gs i < hi) : SSAt w lo hi v ((List.range n).map f) := by
  have e : ((List.range n).map f).length = n := by simp
  obtain ⟨A, cap, rfl, h1, h2, h3, h4⟩ := h.out
  refine ⟨A, cap, by rw [e], by rw [e]; exact h1, h2, fun h0 => ?_⟩
  rw [e] at h0
  obtain ⟨rfl, rest, hr⟩ := h4 h0
  refine ⟨g, 0, rfl, (hg h0).1, (hg h0).2, fun k hk => ?_⟩
  rw [e] at hk
  obtain ⟨x, hx, ho⟩ := h.own k hk
  refine ⟨x, ?_, ?_⟩
  · rw [Nat.zero_add, hr.cell, List.getElem?_append_left (List.getElem?_eq_some_iff.1 hx).1]
    exact hx
  · simp only [List.getElem_map, List.getElem_range]
    exact ho.ints (hw k hk) (hgs k hk)
theorem OwnSS.congr {f' : Nat → List Int} (h : OwnSS w g gs v n f xs) (hf : ∀ i, i < n → f i = f' i) : OwnSS w g gs v n f' xs :=
  ⟨h.out, fun i hi => by rw [← hf i hi]; exact h.own i hi, fun i j hi hj hne h0 h1 => h.ne i j hi hj hne (by rw [hf i hi]; exact h0) (by rw [hf j hj]; exact h1)⟩
theorem OwnSS.cell (h : OwnSS w g gs v n f xs) {i : Nat} (hi : i < n) : ∃ (x : Value) (cap : Nat), v = .slice (some ⟨g, 0, none⟩) n cap ∧ w.cell? ⟨g, i, none⟩ = some x ∧ OwnI w 3 (gs i) x (f i) := by
  obtain ⟨A, cap, rfl, h1, h2, h3, h4⟩ := h.out
  obtain ⟨rfl, rest, hr⟩ := h4 (by omega)
  obtain ⟨x, hx, ho⟩ := h.own i hi
  refine ⟨x, cap, rfl, ?_, ho⟩
  rw [hr.cell, List.getElem?_append_left (List.getElem?_eq_some_iff.1 hx).1]
  exact hx
/-- One member has been marked. -/
theorem OwnSS.marked {j : Nat} {ys : List Int} {x : Value} (h : OwnSS w g gs v n f xs) (hj : j < n) (hx : xs[j]? = some x) (hl : ys.length = (f j).length) (hk : Kept (fun k => 0 < (f j).length → k ≠ gs j) w w') (ho : OwnI w' 3 (gs j) x ys) : OwnSS w' g gs v n (fun i => if i = j then ys else f i) xs := by
  refine ⟨h.out.keep fun h0 => hk.block g (h.out.lt h0) (fun h1 => h.apart hj h1), fun i hi => ?_, fun i i' hi hi' hne h0 h1 => ?_⟩
  · by_cases e : i = j
    · subst e
      exact ⟨x, hx, by rw [if_pos rfl]; exact ho⟩
    · obtain ⟨y, hy, hoy⟩ := h.own i hi
      refine ⟨y, hy, ?_⟩
      rw [if_neg e]
      exact SlAt.keep hoy fun h0 => hk.block (gs i) (SlAt.lt hoy h0) (fun h1 => h.ne i j hi hj e h0 h1)
  · refine h.ne i i' hi hi' hne ?_ ?_
    · by_cases e : i = j
      · subst e; rw [if_pos rfl, hl] at h0; exact h0
      · rw [if_neg e] at h0; exact h0
    · by_cases e : i' = j
      · subst e; rw [if_pos rfl, hl] at h1; exact h1
      · rw [if_neg e] at h1; exact h1
end

def mixS (f : Nat → List Int) (k0 : Int) (j i : Nat) : List Int := if i < j then markL (k0 + (lsum f i : Nat)) (f i).length else f i
theorem mixS_len (f : Nat → List Int) (k0 : Int) (j i : Nat) : (mixS f k0 j i).length = (f i).length := by unfold mixS; split <;> simp [markL_len]

end Go.Proofs.Ytabipfomcldkiaa

