/-
  What a list of coercions is while it is copied, and the contract of copyTypes.
  The contract of copyTypes.
  Ways as plain data: where a row of coercions leads, and what it makes of a value. Nothing here speaks of the program.
  append of one element to a row of the call's own: the new slice lies in the old row or in a new block, and the old slice can be had back.
  The contracts of the model's functions that copy a coercion, and a list of them, and types.
  The contract of the model's function that copies types.
  All ways from a type to another one, as plain data. Nothing here speaks of the program.
-/
import Derived.Test.YtgkfddhhkjblgaaGreatDoorB7
import Derived.BigRegion
import Derived.Deep.RegionLaw
import Derived.Deep.AppendLies
import Derived.Deep.DeepCutAuto
import Derived.Test.YtgkfddhhkjblgaaGreatDoorB5
import Derived.Deep.DeepAppendRoom
import Derived.ArgAppend
namespace Go.Proofs.YtgkfddhhkjblgaaGreatDoor
open Go.RowKit

/-- The cells xs are k coercions f, whose maps lie in blocks of their own. -/
structure MapsOf (w : World) (base : Nat) (row : Option Nat) (f : Nat → Co) (k : Nat) (xs : List Value) (m : Nat → Nat) (mv : Nat → Value) : Prop where
  cells : ∀ i, i < k → xs[i * 3]? = some (.int .i64 (f i).src) ∧ xs[i * 3 + 1]? = some (.int .i64 (f i).dst) ∧ xs[i * 3 + 2]? = some (mv i)
  own : ∀ i, i < k → OwnI w 3 (m i) (mv i) (f i).map
  away : ∀ i, i < k → 0 < (f i).map.length → base ≤ m i ∧ m i < w.heap.size ∧ row ≠ some (m i) ∧ ∀ j, j < k → j ≠ i → 0 < (f j).map.length → m j ≠ m i

def CosOwned (w : World) (base : Nat) (l : Value) (f : Nat → Co) (k : Nat) : Prop :=
  ∃ xs m mv, w.ownsRow base 172 3 l k xs ∧ MapsOf w base l.ownBlock f k xs m mv

theorem MapsOf.keep {w w' : World} {base : Nat} {row : Option Nat} {f : Nat → Co} {k : Nat} {xs : List Value} {m : Nat → Nat} {mv : Nat → Value} (h : MapsOf w base row f k xs m mv)
    (hs : w.heap.size ≤ w'.heap.size) (hk : ∀ g, base ≤ g → g < w.heap.size → w'.heap[g]? = w.heap[g]?) : MapsOf w' base row f k xs m mv :=
  ⟨h.cells, fun i hi => (h.own i hi).keep fun h0 => hk _ (h.away i hi (by simpa using h0)).1 (h.away i hi (by simpa using h0)).2.1,
    fun i hi h0 => ⟨(h.away i hi h0).1, Nat.lt_of_lt_of_le (h.away i hi h0).2.1 hs, (h.away i hi h0).2.2⟩⟩
theorem CosOwned.keep {w w' : World} {base : Nat} {l : Value} {f : Nat → Co} {k : Nat} (h : CosOwned w base l f k)
    (hs : w.heap.size ≤ w'.heap.size) (hk : ∀ g, base ≤ g → g < w.heap.size → w'.heap[g]? = w.heap[g]?) : CosOwned w' base l f k := by
  obtain ⟨xs, m, mv, h1, h2⟩ := h
  exact ⟨xs, m, mv, ownsRow_keep h1 hk, h2.keep hs hk⟩
theorem CosOwned.nil (w : World) (base : Nat) (f : Nat → Co) : CosOwned w base (.slice none 0 0) f 0 :=
  ⟨[], fun _ => 0, fun _ => .slice none 0 0, World.ownsRow_nil _ _ _ _, fun i hi => absurd hi (by omega), fun i hi => absurd hi (by omega), fun i hi => absurd hi (by omega)⟩
theorem owns_lt {w : World} {base : Nat} {t : TypeId} {size : Nat} {v : Value} {n : Nat} {xs : List Value} (h : w.ownsRow base t size v n xs) : ∀ g, v.ownBlock = some g → base ≤ g ∧ g < w.heap.size := by
  intro g hg
  obtain ⟨_, ⟨rfl, _⟩ | ⟨g', cap, cur, rfl, hb, hh, _⟩⟩ := h
  · simp [Value.ownBlock] at hg
  · simp [Value.ownBlock] at hg
    subst hg
    refine ⟨hb, ?_⟩
    rcases Nat.lt_or_ge g' w.heap.size with hlt | hge
    · exact hlt
    · rw [Array.getElem?_eq_none hge] at hh; cases hh

theorem MapsOf.step {w w2 w3 : World} {base : Nat} {l : Value} {f : Nat → Co} {k : Nat} {xs : List Value} {m : Nat → Nat} {mv : Nat → Value} {v : Value} {g' : Nat}
    (h : MapsOf w base l.ownBlock f k xs m mv) (hl : xs.length = k * 3) (hb : base ≤ w.heap.size) (h12 : Below w.heap.size w w2)
    {bv : Nat} (hbv : w.heap.size ≤ bv) (hown : w2.ownsRow bv 3 1 v (f k).map.length ((f k).map.map (Value.int .i64))) (hlt : ∀ g, l.ownBlock = some g → g < w.heap.size)
    (hg : w2.grownBy w3 l.ownBlock) (hat : l.ownBlock = some g' ∨ g' = w2.heap.size) :
    ∃ m' mv', MapsOf w3 base (some g') f (k + 1) (xs ++ [.int .i64 (f k).src, .int .i64 (f k).dst, v]) m' mv' ∧ ∀ i, i < k + 1 → 0 < (f i).map.length → m' i < w.heap.size ∨ bv ≤ m' i := by
  obtain ⟨g, hog, hgb⟩ := OwnI.of_owns hown
  have hsz := h12.size
  have hsz3 := hg.size
  refine ⟨fun i => if i = k then g else m i, fun i => if i = k then v else mv i, ⟨fun i hi => ?_, fun i hi => ?_, fun i hi h0 => ?_⟩, fun i hi h0 => ?_⟩
  · by_cases e : i = k
    · subst e
      simp [hl]
    · rw [if_neg e]
      obtain ⟨a, b, c⟩ := h.cells i (by omega)
      rw [List.getElem?_append_left (by omega), List.getElem?_append_left (by omega), List.getElem?_append_left (by omega)]
      exact ⟨a, b, c⟩
  · by_cases e : i = k
    · subst e
      rw [if_pos rfl, if_pos rfl]
      refine hog.keep fun h0 => ?_
      have := hgb (by simpa using h0)
      exact hg.block _ this.2 (fun hc => by have := hlt _ hc.symm; omega)
    · rw [if_neg e, if_neg e]
      refine (h.own i (by omega)).keep fun h0 => ?_
      obtain ⟨a, b, c, _⟩ := h.away i (by omega) (by simpa using h0)
      exact (hg.block _ (by omega) (fun hc => c hc.symm)).trans (h12.block _ b)
  · by_cases e : i = k
    · subst e
      rw [if_pos rfl]
      have hgg := hgb h0
      refine ⟨by omega, by omega, ?_, fun j hj hne h1 => ?_⟩
      · intro hc
        injection hc with hc
        rcases hat with hat | hat
        · have := hlt _ hat; omega
        · omega
      · rw [if_neg hne]
        have := (h.away j (by omega) h1).2.1
        omega
    · rw [if_neg e]
      obtain ⟨a, b, c, d⟩ := h.away i (by omega) h0
      refine ⟨a, by omega, ?_, fun j hj hne h1 => ?_⟩
      · intro hc
        injection hc with hc
        rcases hat with hat | hat
        · exact c (by rw [hat, hc])
        · omega
      · by_cases ej : j = k
        · subst ej
          rw [if_pos rfl]
          have := hgb h1
          omega
        · rw [if_neg ej]
          exact d j (by omega) hne h1
  · by_cases e : i = k
    · subst e
      simp only [if_true]
      exact .inr (hgb h0).1
    · simp only [if_neg e]
      exact .inl (h.away i (by omega) h0).2.1

theorem CosOwned.push {w w2 w3 : World} {base : Nat} {l : Value} {f : Nat → Co} {k : Nat} {xs : List Value} {m : Nat → Nat} {mv : Nat → Value} {v : Value} {g' cap3 : Nat} {c : Co} {o : Obj}
    (h : MapsOf w base l.ownBlock f k xs m mv) (how : w.ownsRow base 172 3 l k xs) (hb : base ≤ w.heap.size) (hf : f k = c) (h12 : Below w.heap.size w w2)
    (hown : w2.ownsRow w.heap.size 3 1 v c.map.length (c.map.map (Value.int .i64))) (hg : (w2.alloc o).grownBy w3 l.ownBlock) (hat : l.ownBlock = some g' ∨ g' = w2.heap.size + 1)
    (h3 : w3.ownsRow base 172 3 (.slice (some ⟨g', 0, none⟩) (k + 1) cap3) (k + 1) (xs ++ [.int .i64 c.src, .int .i64 c.dst, v])) : CosOwned w3 base (.slice (some ⟨g', 0, none⟩) (k + 1) cap3) f (k + 1) := by
  subst hf
  obtain ⟨m', mv', hm, _⟩ := h.step (w2 := w2.alloc o) how.1 hb (h12.alloc h12.size o) (Nat.le_refl _) (hown.alloc o) (fun g hg => (owns_lt how g hg).2) hg (by rcases hat with a | a; exact .inl a; exact .inr (by rw [a]; simp))
  exact ⟨_, m', mv', h3, hm⟩
theorem ownsRow_keep1 {w w' : World} {base : Nat} {t : TypeId} {size : Nat} {v : Value} {n : Nat} {xs : List Value} (h : w.ownsRow base t size v n xs) (hk : ∀ g, v.ownBlock = some g → w'.heap[g]? = w.heap[g]?) : w'.ownsRow base t size v n xs := by
  obtain ⟨h1, h2 | ⟨g, cap, cur, e, hg, hh, r⟩⟩ := h
  · exact ⟨h1, .inl h2⟩
  · exact ⟨h1, .inr ⟨g, cap, cur, e, hg, (hk g (by rw [e]; rfl)).trans hh, r⟩⟩
/-- As 'push', with a store behind it into a block that was made between the list and the coercion. -/
theorem CosOwned.push_store {w w2 w3 w4 : World} {base bv : Nat} {l : Value} {f : Nat → Co} {k : Nat} {xs : List Value} {m : Nat → Nat} {mv : Nat → Value} {v : Value} {g' cap3 : Nat} {c : Co} {o : Obj}
    (h : MapsOf w base l.ownBlock f k xs m mv) (how : w.ownsRow base 172 3 l k xs) (hb : base ≤ w.heap.size) (hf : f k = c) (h12 : Below w.heap.size w w2) (hbv : w.heap.size ≤ bv) (hbv2 : bv ≤ w2.heap.size)
    (hown : w2.ownsRow bv 3 1 v c.map.length (c.map.map (Value.int .i64))) (hg : (w2.alloc o).grownBy w3 l.ownBlock) (hat : l.ownBlock = some g' ∨ g' = w2.heap.size + 1)
    (h3 : w3.ownsRow base 172 3 (.slice (some ⟨g', 0, none⟩) (k + 1) cap3) (k + 1) (xs ++ [.int .i64 c.src, .int .i64 c.dst, v]))
    (hs4 : w3.heap.size ≤ w4.heap.size) (hk4 : ∀ g, g < w.heap.size ∨ bv ≤ g → w4.heap[g]? = w3.heap[g]?) : CosOwned w4 base (.slice (some ⟨g', 0, none⟩) (k + 1) cap3) f (k + 1) := by
  subst hf
  obtain ⟨m', mv', hm, hfar⟩ := h.step (w2 := w2.alloc o) how.1 hb (h12.alloc h12.size o) hbv (hown.alloc o) (fun g hg => (owns_lt how g hg).2) hg (by rcases hat with a | a; exact .inl a; exact .inr (by rw [a]; simp))
  refine ⟨_, m', mv', ownsRow_keep1 h3 (fun g hg => hk4 g ?_), hm.cells, fun i hi => (hm.own i hi).keep fun h0 => hk4 _ (hfar i hi (by simpa using h0)), fun i hi h0 => ?_⟩
  · have e : g' = g := by
      have h : some g' = some g := hg
      injection h
    subst e
    rcases hat with a | a
    · exact .inl (owns_lt how _ a).2
    · exact .inr (by omega)
  · obtain ⟨a, b, c, d⟩ := hm.away i hi h0
    exact ⟨a, by omega, c, d⟩
end Go.Proofs.YtgkfddhhkjblgaaGreatDoor

namespace Go.Proofs.YtgkfddhhkjblgaaGreatDoor
open Go.RowKit

theorem infoCoercionW : (Tryz.prog.info? 172).map (fun i => (i.zero, i.size, i.bytes)) = some (some (.agg #[.int .i64 0, .int .i64 0, .slice none 0 0]), 3, 40) := by kernel_rfl

theorem owns_form {w : World} {base : Nat} {t : TypeId} {size : Nat} {v : Value} {n : Nat} {xs : List Value} (h : w.ownsRow base t size v n xs) : ∃ A c, v = .slice A n c := by
  obtain ⟨_, ⟨rfl, rfl⟩ | ⟨g', cap, cur, rfl, _⟩⟩ := h
  · exact ⟨_, _, rfl⟩
  · exact ⟨_, _, rfl⟩

end Go.Proofs.YtgkfddhhkjblgaaGreatDoor

namespace Go.Proofs.YtgkfddhhkjblgaaGreatDoor
open Go.RowKit

/-- The type to which a row of coercions leads from a type, if it is a way. -/
def wayEnd (cs : List Co) : Int → List Int → Option Int
  | k, [] => some k
  | k, i :: is => if ixB i cs.length = true ∧ (cs.getD i.toNat default).src = k then wayEnd cs (cs.getD i.toNat default).dst is else none
/-- What the maps of a row of coercions make of a value. -/
def goV (cs : List Co) : Int → List Int → Int
  | v, [] => v
  | v, i :: is => goV cs (lookOf (cs.getD i.toNat default).map v) is

theorem drop_get {zs : List Int} {j : Nat} (hj : j < zs.length) : zs.drop j = zs[j] :: zs.drop (j + 1) := List.drop_eq_getElem_cons hj
theorem getD_at {cs : List Co} {i : Nat} (hi : i < cs.length) : cs.getD i default = cs[i] := by rw [List.getD_eq_getElem?_getD, List.getElem?_eq_getElem hi]; rfl

theorem wayEnd_yes {cs : List Co} {k : Int} {zs : List Int} {j : Nat} (hj : j < zs.length) (h0 : 0 ≤ zs[j]) (hi : zs[j].toNat < cs.length) (hs : cs[zs[j].toNat].src = k) :
    wayEnd cs k (zs.drop j) = wayEnd cs cs[zs[j].toNat].dst (zs.drop (j + 1)) := by
  rw [drop_get hj, wayEnd, getD_at hi, if_pos ⟨ixB_yes h0 (by omega), hs⟩]
theorem wayEnd_out {cs : List Co} {k : Int} {zs : List Int} {j : Nat} (hj : j < zs.length) (h : ixB zs[j] cs.length = false) : wayEnd cs k (zs.drop j) = none := by
  rw [drop_get hj, wayEnd, if_neg (fun hh => by rw [h] at hh; exact absurd hh.1 (by simp))]
theorem wayEnd_other {cs : List Co} {k : Int} {zs : List Int} {j : Nat} (hj : j < zs.length) (hi : zs[j].toNat < cs.length) (hs : ¬ cs[zs[j].toNat].src = k) : wayEnd cs k (zs.drop j) = none := by
  rw [drop_get hj, wayEnd, getD_at hi, if_neg (fun hh => hs hh.2)]
theorem wayEnd_done (cs : List Co) (k : Int) (zs : List Int) : wayEnd cs k (zs.drop zs.length) = some k := by rw [List.drop_length]; rfl
theorem goV_step {cs : List Co} {v : Int} {zs : List Int} {j : Nat} (hj : j < zs.length) (hi : zs[j].toNat < cs.length) : goV cs v (zs.drop j) = goV cs (lookOf cs[zs[j].toNat].map v) (zs.drop (j + 1)) := by
  rw [drop_get hj, goV, getD_at hi]
theorem goV_done (cs : List Co) (v : Int) (zs : List Int) : goV cs v (zs.drop zs.length) = v := by rw [List.drop_length]; rfl

/-- A row that is a way still is one when its first coercion is gone; that coercion begins with the type. -/
theorem wayEnd_some {cs : List Co} {k : Int} {zs : List Int} {j : Nat} (hj : j < zs.length) (h : (wayEnd cs k (zs.drop j)).isSome = true) :
    0 ≤ zs[j] ∧ zs[j] < cs.length ∧ ∃ hi : zs[j].toNat < cs.length, cs[zs[j].toNat].src = k ∧ (wayEnd cs cs[zs[j].toNat].dst (zs.drop (j + 1))).isSome = true := by
  rw [drop_get hj, wayEnd] at h
  split at h
  case isTrue hh =>
    obtain ⟨h1, h2⟩ := hh
    simp only [ixB, decide_eq_true_eq] at h1
    have hi : zs[j].toNat < cs.length := by omega
    rw [getD_at hi] at h2 h
    exact ⟨h1.1, h1.2, hi, h2, h⟩
  case isFalse => simp at h

/-- A value of a type. -/
def ValOf (ss : List Int) (k v : Int) : Prop := 0 ≤ k ∧ k < ss.length ∧ 0 ≤ v ∧ v < ss.getD k.toNat 0
/-- The coercion i of valid types, and a value of its type. -/
theorem tyOk_co {t : Ty} (h : tyOk t = true) {i : Nat} (hi : i < t.cos.length) : coOk t.sizes t.cos[i] = true := by
  simp only [tyOk, Bool.and_eq_true, List.all_eq_true] at h
  exact h.2 _ (List.getElem_mem hi)
theorem tyOk_few {t : Ty} (h : tyOk t = true) : t.cos.length ≤ 8 := by
  simp only [tyOk, Bool.and_eq_true, decide_eq_true_eq] at h
  exact h.1.2
theorem valOf_step {t : Ty} (h : tyOk t = true) {i : Nat} (hi : i < t.cos.length) {v : Int} (hv : ValOf t.sizes t.cos[i].src v) :
    0 ≤ v ∧ v < t.cos[i].map.length ∧ t.cos[i].map.length ≤ 4 ∧ ∃ hn : v.toNat < t.cos[i].map.length, lookOf t.cos[i].map v = t.cos[i].map[v.toNat] ∧ ValOf t.sizes t.cos[i].dst (lookOf t.cos[i].map v) := by
  obtain ⟨h1, h2, h3, h4, h5⟩ := coOk_of (tyOk_co h hi)
  obtain ⟨g1, g2, g3, g4⟩ := hv
  have hs : t.cos[i].src.toNat < t.sizes.length := by omega
  have hsz := (sizesOk_of (tyOk_sizes h)).2.2 _ hs
  have e : t.sizes.getD t.cos[i].src.toNat 0 = t.sizes[t.cos[i].src.toNat] := by rw [List.getD_eq_getElem?_getD, List.getElem?_eq_getElem hs]; rfl
  have hn : v.toNat < t.cos[i].map.length := by omega
  have hl := lookOf_in g3 hn
  obtain ⟨h6, h7⟩ := h5 _ hn
  exact ⟨g3, by omega, by omega, hn, hl, by omega, h3, by omega, by omega⟩
theorem valOf_hasV0 {ss : List Int} {k v : Int} : hasV0 ss k v = true ↔ ValOf ss k v := by
  simp only [hasV0, ixB, Bool.and_eq_true, decide_eq_true_eq, ValOf]
  exact ⟨fun h => ⟨h.1.1, h.1.2, h.2.1, h.2.2⟩, fun h => ⟨⟨h.1, h.2.1⟩, h.2.2.1, h.2.2.2⟩⟩

/-- What GoWay answers. -/
def goWayV (t : Ty) (k : Int) (zs : List Int) (v : Int) : Int := if hasV t k v = true ∧ (wayEnd t.cos k zs).isSome = true then goV t.cos v zs else -1
/-- The end of a way, -1 if it is none. -/
def endV (t : Ty) (k : Int) (zs : List Int) : Int := (wayEnd t.cos k zs).getD (-1)
theorem wayEnd_ge {t : Ty} (h : tyOk t = true) : ∀ (zs : List Int) (k e : Int), 0 ≤ k → wayEnd t.cos k zs = some e → 0 ≤ e := by
  intro zs
  induction zs with
  | nil => intro k e hk he; simp only [wayEnd, Option.some.injEq] at he; omega
  | cons i is ih =>
    intro k e hk he
    rw [wayEnd] at he
    split at he
    case isTrue hh =>
      have h1 := hh.1
      simp only [ixB, decide_eq_true_eq] at h1
      have hi : i.toNat < t.cos.length := by omega
      rw [getD_at hi] at he
      have := coOk_of (tyOk_co h hi)
      exact ih _ _ (by omega) he
    case isFalse => cases he
theorem endV_neg {t : Ty} (h : tyOk t = true) {zs : List Int} {k : Int} (hk : 0 ≤ k) : decide (endV t k zs < 0) = !(wayEnd t.cos k zs).isSome := by
  unfold endV
  cases he : wayEnd t.cos k zs with
  | none => rfl
  | some e =>
    have := wayEnd_ge h zs k e hk he
    simp
    omega
end Go.Proofs.YtgkfddhhkjblgaaGreatDoor

namespace Go.Proofs.YtgkfddhhkjblgaaGreatDoor
open Go.RowKit

section
variable {w w' : World} {base : Nat} {e : TypeId} {v : Value} {n : Nat} {xs : List Value}
/-- The row without its last element. -/
theorem owns_shrink {g cap : Nat} {x : Value} (h : w.ownsRow base e 1 (.slice (some ⟨g, 0, none⟩) (n + 1) cap) (n + 1) (xs ++ [x])) : w.ownsRow base e 1 (.slice (some ⟨g, 0, none⟩) n cap) n xs := by
  obtain ⟨h1, ⟨h2, _⟩ | ⟨g', cap', cur, hv, hb, hh, hc, hm, hs, ht⟩⟩ := h
  · cases h2
  · simp only [Value.slice.injEq, Option.some.injEq, Addr.mk.injEq, and_true, true_and] at hv
    obtain ⟨rfl, rfl⟩ := hv
    have hl : xs.length = n * 1 := by simp at h1; omega
    refine ⟨hl, .inr ⟨g, cap, cur, rfl, hb, hh, by omega, hm, hs, ?_⟩⟩
    have h2 : (cur.toList.take ((n + 1) * 1)).take (n * 1) = (xs ++ [x]).take (n * 1) := by rw [ht]
    rw [List.take_take, Nat.min_eq_left (by omega), ← hl, List.take_left] at h2
    rw [← hl]
    exact h2
/-- What append of one element leaves: v' owns one element more; with v' still whole, v can be had back. -/
structure Pushed (w w' : World) (base : Nat) (e : TypeId) (v v' : Value) (n : Nat) (xs : List Value) (x : Value) : Prop where
  own : w'.ownsRow base e 1 v' (n + 1) (xs ++ [x])
  grown : w.grownBy w' v.ownBlock
  at_ : v'.ownBlock = v.ownBlock ∨ ∃ g, v'.ownBlock = some g ∧ w.heap.size ≤ g ∧ g < w'.heap.size
  back : ∀ u : World, u.ownsRow base e 1 v' (n + 1) (xs ++ [x]) → (∀ b, v.ownBlock = some b → v'.ownBlock ≠ some b → u.heap[b]? = w'.heap[b]?) → u.ownsRow base e 1 v n xs
  form : ∃ g cap, v' = .slice (some ⟨g, 0, none⟩) (n + 1) cap

theorem run_push {P : Program} (t ty : TypeId) (i : TypeInfo) (z : Value) (bytes : Nat) (ht : P.underlying t = some (.slice e)) (hi : P.info? e = some i) (hz : i.zero = some z) (hsize : i.size = 1) (hby : i.bytes = bytes) (hzs : z.cells.size = 1)
    (hown : w.ownsRow base e 1 v n xs) (a : Addr) (c : Nat) (x : Value) (hx : w.cell? a = some x) (h1 : x.oneCell' = true) (h63 : n + 1 ≤ maxLen) (hbytes : (n + 1) * bytes ≤ 140737488355328) (hbase : base ≤ w.heap.size) :
    ∃ v' w', (Builtin.append_ #[t, t] ty #[v, .slice (some a) 1 c]).run P w = .ok v' w' ∧ Pushed w w' base e v v' n xs x := by
  have hnews : ∀ j u, [x][j]? = some u → w.cell? (a.add j) = some u := fun j u hj => by
    match j, hj with
    | 0, hj => simp at hj; subst hj; simpa [Addr.add] using hx
  have hone : ∀ u ∈ [x], u.oneCell' = true := fun u hu => by simp at hu; subst hu; exact h1
  have fresh : ∀ v' w', w'.ownsRow w.heap.size e 1 v' (n + 1) (xs ++ [x]) → w.grownBy w' none → Pushed w w' base e v v' n xs x := by
    intro v' w' ho hg
    have hlt := owns_lt ho
    obtain ⟨g', cap', hv'⟩ : ∃ g cap, v' = .slice (some ⟨g, 0, none⟩) (n + 1) cap := by
      obtain ⟨_, ⟨_, h⟩ | ⟨g, cap, cur, hv, _⟩⟩ := ho
      · omega
      · exact ⟨g, cap, hv⟩
    refine ⟨ownsRow_lower ho hbase, ⟨hg.os, hg.tape, hg.output, hg.size, fun k hk _ => hg.block k hk (by simp)⟩, .inr ⟨g', by rw [hv']; rfl, hlt g' (by rw [hv']; rfl)⟩, fun u hu hk => ?_, ⟨g', cap', hv'⟩⟩
    refine ownsRow_keep1 hown fun b hb => (hk b hb ?_).trans (hg.block b (owns_lt hown b hb).2 (by simp))
    rw [hv']
    intro h
    simp only [Value.ownBlock, Option.some.injEq] at h
    have h2 := (hlt g' (by rw [hv']; rfl)).1
    have h3 := (owns_lt hown b hb).2
    omega
  obtain ⟨hl, ⟨rfl, rfl⟩ | ⟨g, cap, cur, rfl, hb, hh, hc, hm, hs, htk⟩⟩ := hown
  · obtain rfl : xs = [] := List.eq_nil_of_length_eq_zero (by simpa using hl)
    obtain ⟨v', w', hr, ho, hg, _⟩ := run_append_own (P := P) w w.heap.size t ty e i z 1 bytes ht hi hz hsize hby hzs (by omega) (.slice none 0 0) 0 [] (World.ownsRow_nil w _ e 1) a 1 c [x] rfl hnews hone h63 hbytes (Nat.le_refl _)
    exact ⟨v', w', hr, fresh v' w' ho hg⟩
  · have hown2 : w.ownsRow base e 1 (.slice (some ⟨g, 0, none⟩) n cap) n xs := ⟨hl, .inr ⟨g, cap, cur, rfl, hb, hh, hc, hm, hs, htk⟩⟩
    by_cases hroom : n + 1 ≤ cap
    · obtain ⟨w', hr, ho, hg⟩ := run_append_own_spare (P := P) w base t ty e i 1 ht hi hsize g n cap xs hown2 a 1 c [x] rfl hnews hone hroom
      exact ⟨_, w', hr, ⟨ho, hg, .inl rfl, fun u hu _ => owns_shrink hu, ⟨_, _, rfl⟩⟩⟩
    · obtain ⟨v', w', hr, ho, hg⟩ := run_append_arg_grows (P := P) w t ty e i z 1 bytes ht hi hz hsize hby hzs (by omega) ⟨g, 0, none⟩ n cap xs hl (hown2.cells (g := g) rfl) a 1 c [x] rfl hnews (by omega) h63 hbytes
      exact ⟨v', w', hr, fresh v' w' ho hg⟩

/-- As a step of a region that draws its order. -/
theorem step_push {P : Program} {ops : Array Oper} {o : Oper} {a : Act} {K : Act → World → Prop} {Q : Exit → Act → World → Prop} {E : Prop} (hw : Region.wanted o (yielded ops a.tmps) = true) (s y : Operand) (t : TypeId)
    (hop : o.op = .call { callee := .builtin .append, args := #[s, y], argTypes := #[t, t] }) (i : TypeInfo) (z : Value) (bytes : Nat) (ht : P.underlying t = some (.slice e)) (hi : P.info? e = some i) (hz : i.zero = some z) (hsize : i.size = 1) (hby : i.bytes = bytes) (hzs : z.cells.size = 1)
    (hs : a.eval s = v) (hown : w.ownsRow base e 1 v n xs) (ad : Addr) (c : Nat) (x : Value) (hy : a.eval y = .slice (some ad) 1 c) (hx : w.cell? ad = some x) (h1 : x.oneCell' = true) (h63 : n + 1 ≤ maxLen) (hbytes : (n + 1) * bytes ≤ 140737488355328) (hbase : base ≤ w.heap.size)
    (h : ∀ v' w', Pushed w w' base e v v' n xs x → K (a.put o.dst v') w') :
    if Region.wanted o (yielded ops a.tmps) = true then Oper.wp P o a w K Q else E := by
  rw [if_pos hw]
  obtain ⟨v', w', hr, hp⟩ := run_push (P := P) t o.type i z bytes ht hi hz hsize hby hzs hown ad c x hx h1 h63 hbytes hbase
  unfold Oper.wp execOp
  simp only [hop, resolve, invoke, builtin, Sem.run_bind, Sem.run_pure, Result.andThen_ok, List.map_toArray, List.map_cons, List.map_nil, hs, hy, hr]
  exact h v' w' hp
theorem wpList_push {P : Program} {ops : Array Oper} {rest : List Oper} {o : Oper} {a : Act} {Q : Exit → Act → World → Prop} (hgd : o.guard = none) (s y : Operand) (t : TypeId)
    (hop : o.op = .call { callee := .builtin .append, args := #[s, y], argTypes := #[t, t] }) (i : TypeInfo) (z : Value) (bytes : Nat) (ht : P.underlying t = some (.slice e)) (hi : P.info? e = some i) (hz : i.zero = some z) (hsize : i.size = 1) (hby : i.bytes = bytes) (hzs : z.cells.size = 1)
    (hs : a.eval s = v) (hown : w.ownsRow base e 1 v n xs) (ad : Addr) (c : Nat) (x : Value) (hy : a.eval y = .slice (some ad) 1 c) (hx : w.cell? ad = some x) (h1 : x.oneCell' = true) (h63 : n + 1 ≤ maxLen) (hbytes : (n + 1) * bytes ≤ 140737488355328) (hbase : base ≤ w.heap.size)
    (h : ∀ v' w', Pushed w w' base e v v' n xs x → wpList P ops Q rest (a.put o.dst v') w') : wpList P ops Q (o :: rest) a w := by
  refine wpList_plain hgd fun K hK => ?_
  obtain ⟨v', w', hr, hp⟩ := run_push (P := P) t o.type i z bytes ht hi hz hsize hby hzs hown ad c x hx h1 h63 hbytes hbase
  unfold Oper.wp execOp
  simp only [hop, resolve, invoke, builtin, Sem.run_bind, Sem.run_pure, Result.andThen_ok, List.map_toArray, List.map_cons, List.map_nil, hs, hy, hr]
  exact hK _ _ (h v' w' hp)
end

/-- The slice v reads as the numbers zs; its cells, if any, lie in a block of S. -/
def IntsIn (w : World) (S : Nat → Prop) (v : Value) (zs : List Int) : Prop :=
  ∃ (A : Option Addr) (cap : Nat), v = .slice A zs.length cap ∧ zs.length ≤ cap ∧ cap ≤ maxLen ∧ (∀ z ∈ zs, I64 z) ∧
    (0 < zs.length → ∃ b off, A = some ⟨b, off, none⟩ ∧ S b ∧ ∀ k, k < zs.length → w.cell? ⟨b, off + k, none⟩ = some (.int .i64 (zs.getD k 0)))
theorem IntsIn.keep {w w' : World} {S : Nat → Prop} {v : Value} {zs : List Int} (h : IntsIn w S v zs) (hk : ∀ b, S b → w'.heap[b]? = w.heap[b]?) : IntsIn w' S v zs := by
  obtain ⟨A, cap, e, h1, h2, h3, h4⟩ := h
  refine ⟨A, cap, e, h1, h2, h3, fun h0 => ?_⟩
  obtain ⟨b, off, hA, hS, hc⟩ := h4 h0
  exact ⟨b, off, hA, hS, fun k hkk => (World.cell?_of_block (w := w) (hk b hS)).trans (hc k hkk)⟩
theorem IntsIn.more {w : World} {S S' : Nat → Prop} {v : Value} {zs : List Int} (h : IntsIn w S v zs) (hS : ∀ b, S b → S' b) : IntsIn w S' v zs := by
  obtain ⟨A, cap, e, h1, h2, h3, h4⟩ := h
  refine ⟨A, cap, e, h1, h2, h3, fun h0 => ?_⟩
  obtain ⟨b, off, hA, hb, hc⟩ := h4 h0
  exact ⟨b, off, hA, hS b hb, hc⟩
theorem IntsIn.at {w : World} {S : Nat → Prop} {v : Value} {zs : List Int} {lo hi : Nat} (h : IntsIn w S v zs) (hS : ∀ b, S b → lo ≤ b ∧ b < hi) : IntsAt w lo hi v zs := by
  obtain ⟨A, cap, e, h1, h2, h3, h4⟩ := h
  refine ⟨A, cap, e, h1, h2, h3, fun h0 => ?_⟩
  obtain ⟨b, off, hA, hb, hc⟩ := h4 h0
  exact ⟨b, off, hA, (hS b hb).1, (hS b hb).2, hc⟩
theorem IntsIn.one {w : World} {S : Nat → Prop} {v : Value} {zs : List Int} (h : IntsIn w S v zs) : v.oneCell' = true := by
  obtain ⟨A, cap, rfl, _⟩ := h
  rfl
end Go.Proofs.YtgkfddhhkjblgaaGreatDoor

namespace Go.Proofs.YtgkfddhhkjblgaaGreatDoor
open Go.RowKit

theorem grown_cell {w w' : World} {g : Nat} (h : w.grownBy w' (some g)) (b o : Nat) (hb : b < w.heap.size) (hne : b ≠ g) : w'.cell? ⟨b, o, none⟩ = w.cell? ⟨b, o, none⟩ :=
  World.cell?_of_block (a := ⟨b, o, none⟩) (h.block b hb (fun e => hne (by injection e)))
theorem grown_frozen {w w' : World} {g : Nat} (h : w.grownBy w' (some g)) (b o : Nat) (hb : b < w.heap.size) (hne : b ≠ g) : w'.frozen? ⟨b, o, none⟩ = w.frozen? ⟨b, o, none⟩ :=
  World.frozen?_of_block (a := ⟨b, o, none⟩) (h.block b hb (fun e => hne (by injection e)))
theorem run_append_owned_none' {P : Program} {w : World} (base : Nat) (t ty e : TypeId) (i : TypeInfo) (size : Nat) (ht : P.underlying t = some (.slice e)) (hi : P.info? e = some i)
    (v : Value) (n : Nat) (xs : List Value) (c : Nat) (hown : w.ownsRow base e size v n xs) :
    (Builtin.append_ #[t, t] ty #[v, .slice none 0 c]).run P w = .ok v w := by
  rcases hown.2 with ⟨rfl, rfl⟩ | ⟨g, cap, cur, rfl, _, _, hnc, _⟩
  · simp [Builtin.append_, run_underlying ht, sizeOf, typeInfo, hi, Builtin.lenOf, Builtin.firstCells]
  · simp [Builtin.append_, run_underlying ht, sizeOf, typeInfo, hi, Builtin.lenOf, Builtin.firstCells, hnc, storeCells]
theorem wpList_append_own_none' {P : Program} {w : World} {ops : Array Oper} {rest : List Oper} {o : Oper} {a : Act} {Q : Exit → Act → World → Prop} (hgd : o.guard = none) (s x : Operand) (t : TypeId)
    (ho : o.op = .call { callee := .builtin .append, args := #[s, x], argTypes := #[t, t] })
    (base : Nat) (e : TypeId) (i : TypeInfo) (size : Nat) (ht : P.underlying t = some (.slice e)) (hi : P.info? e = some i)
    (v : Value) (n : Nat) (xs : List Value) (c : Nat) (hs : a.eval s = v) (hown : w.ownsRow base e size v n xs) (hx : a.eval x = .slice none 0 c)
    (h : wpList P ops Q rest (a.put o.dst v) w) : wpList P ops Q (o :: rest) a w := by
  refine wpList_plain hgd fun K hK => ?_
  have hrun := run_append_owned_none' (P := P) (w := w) base t o.type e i size ht hi v n xs c hown
  unfold Oper.wp
  simp [execOp, ho, resolve, invoke, builtin, hs, hx, hrun, Result.andThen]
  exact hK _ _ h

theorem CosOwned.lit (w : World) (base : Nat) (f : Nat → Co) (hb : base ≤ w.heap.size) : CosOwned (w.alloc (.cells #[] 172)) base (.slice (some ⟨w.heap.size, 0, none⟩) 0 0) f 0 :=
  ⟨[], fun _ => 0, fun _ => .slice none 0 0, World.ownsRow_lit w #[] 0 hb (by unfold maxLen; omega) rfl, fun i hi => absurd hi (by omega), fun i hi => absurd hi (by omega), fun i hi => absurd hi (by omega)⟩

end Go.Proofs.YtgkfddhhkjblgaaGreatDoor

namespace Go.Proofs.YtgkfddhhkjblgaaGreatDoor
open Go.RowKit

theorem wpList_append_ints {w : World} {ops : Array Oper} {rest : List Oper} {o : Oper} {a : Act} {Q : Exit → Act → World → Prop} (hgd : o.guard = none) (s x : Operand)
    (ho : o.op = .call { callee := .builtin .append, args := #[s, x], argTypes := #[22, 22] })
    (base : Nat) (v : Value) (n : Nat) (xs : List Value) (hs : a.eval s = v) (hown : w.ownsRow base 3 1 v n xs) (lo hi : Nat) (A : Option Addr) (m c : Nat) (zs : List Int) (hx : a.eval x = .slice A m c)
    (hz : IntsAt w lo hi (.slice A m c) zs) (hm : zs.length = m) (h63 : n + m ≤ 2097152) (hbase : base ≤ w.heap.size)
    (h : ∀ VA VC w', w'.ownsRow base 3 1 (.slice VA (n + m) VC) (n + m) (xs ++ zs.map (Value.int .i64)) → w.grownBy w' v.ownBlock → wpList Tryz.prog ops Q rest (a.put o.dst (.slice VA (n + m) VC)) w') : wpList Tryz.prog ops Q (o :: rest) a w := by
  obtain ⟨i0, hi0, hz0, hz1, hz2⟩ := info_parts Tryz.infoInt
  subst hm
  rcases A with _ | ad
  · have hn : zs = [] := by
      rcases zs with _ | ⟨z, zs⟩
      · rfl
      · obtain ⟨b, off, e, _⟩ := hz.at_ (k := 0) (by simp)
        cases e
    subst hn
    obtain ⟨VA, VC, rfl⟩ := owns_form hown
    refine wpList_append_own_none' hgd s x 22 ho base 3 i0 1 Tryz.underlying22 hi0 _ _ _ c hs hown hx ?_
    have := h VA VC w (by simpa using hown) ⟨rfl, rfl, rfl, Nat.le_refl _, fun _ _ _ => rfl⟩
    simpa using this
  · refine wpList_append_own _ hgd s x 22 ho base 3 i0 (.int .i64 0) 1 8 Tryz.underlying22 hi0 hz0 hz1 hz2 rfl (by decide) _ _ _ hs hown ad zs.length c (zs.map (Value.int .i64)) hx (by simp) hz.cells (ints_oneCell' zs) (by unfold maxLen; omega) (by omega) hbase ?_
    intro v' w2 hown2 hgrow _
    obtain ⟨VA, VC, rfl⟩ := owns_form hown2
    exact h VA VC w2 hown2 hgrow

theorem ownsRow.intsAt {w : World} {base : Nat} {v : Value} {zs : List Int} (h : w.ownsRow base 3 1 v zs.length (zs.map (Value.int .i64))) (hw : ∀ z ∈ zs, I64 z) {lo hi : Nat} (hlo : lo ≤ base) (hhi : w.heap.size ≤ hi) : IntsAt w lo hi v zs := by
  obtain ⟨g, ho, hg⟩ := OwnI.of_owns h
  exact ho.ints hw fun h0 => by have := hg h0; omega

/-- Coercions in a row, whose maps read as they should, read as coercions. -/
theorem row_cosAt {w : World} {base lo hi n : Nat} {l : Value} {xs : List Value} {f : Nat → Co} {mv : Nat → Value} (h : w.ownsRow base 172 3 l n xs)
    (hcells : ∀ i, i < n → xs[i * 3]? = some (.int .i64 (f i).src) ∧ xs[i * 3 + 1]? = some (.int .i64 (f i).dst) ∧ xs[i * 3 + 2]? = some (mv i))
    (hmaps : ∀ i, i < n → IntsAt w lo hi (mv i) (f i).map) (hw : ∀ i, i < n → I64 (f i).src ∧ I64 (f i).dst) (hlo : lo ≤ base) (hhi : w.heap.size ≤ hi) : CosAt w lo hi l ((List.range n).map f) := by
  have e : ((List.range n).map f).length = n := by simp
  obtain ⟨hx, ⟨rfl, rfl⟩ | ⟨g, cap, cur, rfl, hb, hh, hc, hm, hs, ht⟩⟩ := h
  · exact ⟨none, 0, rfl, Nat.le_refl _, by unfold maxLen; omega, fun h0 => absurd h0 (by simp)⟩
  · have hlt := owns_lt (⟨hx, .inr ⟨g, cap, cur, rfl, hb, hh, hc, hm, hs, ht⟩⟩ : w.ownsRow base 172 3 (.slice (some ⟨g, 0, none⟩) n cap) n xs) g rfl
    have hcell : ∀ j u, xs[j]? = some u → w.cell? ⟨g, j, none⟩ = some u := fun j u hj => by
      have := World.ownsRow.cells (⟨hx, .inr ⟨g, cap, cur, rfl, hb, hh, hc, hm, hs, ht⟩⟩ : w.ownsRow base 172 3 (.slice (some ⟨g, 0, none⟩) n cap) n xs) (g := g) rfl j u hj
      rw [Go.WideShapes.add_plain] at this
      simpa using this
    refine ⟨_, cap, by rw [e], by rw [e]; exact hc, hm, fun h0 => ⟨g, 0, rfl, by omega, by omega, fun k hk => ?_⟩⟩
    rw [e] at hk
    obtain ⟨a, b, c⟩ := hcells k hk
    obtain ⟨w1, w2⟩ := hw k hk
    rw [List.getD_eq_getElem?_getD, List.getElem?_eq_getElem (by rw [e]; exact hk)]
    simp only [List.getElem_map, List.getElem_range, Option.getD_some]
    refine ⟨_, _, _, ?_, ?_, ?_, rfl, rfl, w1, w2, hmaps k hk⟩
    · rw [Nat.zero_add]; exact hcell _ _ a
    · rw [Nat.zero_add]; exact hcell _ _ b
    · rw [Nat.zero_add]; exact hcell _ _ c

theorem CosOwned.cosAt {w : World} {base : Nat} {l : Value} {f : Nat → Co} {n lo hi : Nat} (h : CosOwned w base l f n) (hw : ∀ i, i < n → I64 (f i).src ∧ I64 (f i).dst ∧ ∀ z ∈ (f i).map, I64 z) (hlo : lo ≤ base) (hhi : w.heap.size ≤ hi) :
    CosAt w lo hi l ((List.range n).map f) := by
  obtain ⟨xs, m, mv, h1, h2⟩ := h
  refine row_cosAt h1 h2.cells (fun i hi => (h2.own i hi).ints (hw i hi).2.2 fun h0 => ?_) (fun i hi => ⟨(hw i hi).1, (hw i hi).2.1⟩) hlo hhi
  have := h2.away i hi h0
  omega
end Go.Proofs.YtgkfddhhkjblgaaGreatDoor

namespace Go.Proofs.YtgkfddhhkjblgaaGreatDoor
open Go.RowKit

/-- All ways from k to goal of at most n - 1 coercions, in order. -/
def waysF (cs : List Co) : Nat → Int → Int → List (List Int)
  | 0, _, _ => []
  | n + 1, k, goal => if k = goal then [[]] else (List.range cs.length).flatMap fun i => if (cs.getD i default).src = k then (waysF cs n (cs.getD i default).dst goal).map fun z => (i : Int) :: z else []
/-- Those of them that begin with one of the first j coercions. -/
def waysJ (cs : List Co) (n : Nat) (k goal : Int) (j : Nat) : List (List Int) :=
  (List.range j).flatMap fun i => if (cs.getD i default).src = k then (waysF cs n (cs.getD i default).dst goal).map fun z => (i : Int) :: z else []
theorem waysF_eq (cs : List Co) (n : Nat) (k : Int) : waysF cs (n + 1) k k = [[]] := by rw [waysF, if_pos rfl]
theorem waysF_ne {cs : List Co} {n : Nat} {k goal : Int} (h : ¬ k = goal) : waysF cs (n + 1) k goal = waysJ cs n k goal cs.length := by rw [waysF, if_neg h]; rfl
theorem waysJ_zero (cs : List Co) (n : Nat) (k goal : Int) : waysJ cs n k goal 0 = [] := rfl
theorem waysJ_hit {cs : List Co} {n : Nat} {k goal : Int} {j : Nat} (hj : j < cs.length) (h : cs[j].src = k) : waysJ cs n k goal (j + 1) = waysJ cs n k goal j ++ (waysF cs n cs[j].dst goal).map fun z => (j : Int) :: z := by
  unfold waysJ
  rw [List.range_succ, List.flatMap_append]
  simp only [List.flatMap_cons, List.flatMap_nil, List.append_nil]
  rw [getD_at hj, if_pos h]
theorem waysJ_miss {cs : List Co} {n : Nat} {k goal : Int} {j : Nat} (hj : j < cs.length) (h : ¬ cs[j].src = k) : waysJ cs n k goal (j + 1) = waysJ cs n k goal j := by
  unfold waysJ
  rw [List.range_succ, List.flatMap_append]
  simp only [List.flatMap_cons, List.flatMap_nil, List.append_nil]
  rw [getD_at hj, if_neg h, List.append_nil]
theorem waysJ_mono (cs : List Co) (n : Nat) (k goal : Int) {i j : Nat} (h : i ≤ j) : (waysJ cs n k goal i).length ≤ (waysJ cs n k goal j).length := by
  unfold waysJ
  obtain ⟨d, rfl⟩ := Nat.exists_eq_add_of_le h
  rw [List.range_add, List.flatMap_append, List.length_append]
  omega
theorem waysF_len {cs : List Co} (h8 : cs.length ≤ 8) : ∀ (n : Nat) (k goal : Int), (waysF cs n k goal).length ≤ 8 ^ n := by
  intro n
  induction n with
  | zero => intro k goal; simp [waysF]
  | succ n ih =>
    intro k goal
    by_cases h : k = goal
    · subst h; rw [waysF_eq]; simp; exact Nat.one_le_pow _ _ (by omega)
    · rw [waysF_ne h]
      have key : ∀ j, j ≤ cs.length → (waysJ cs n k goal j).length ≤ j * 8 ^ n := by
        intro j
        induction j with
        | zero => intro _; simp [waysJ_zero]
        | succ j ihj =>
          intro hj
          have h1 := ihj (by omega)
          by_cases hs : cs[j].src = k
          · rw [waysJ_hit (by omega) hs, List.length_append, List.length_map, Nat.succ_mul]
            have := ih cs[j].dst goal
            omega
          · rw [waysJ_miss (by omega) hs, Nat.succ_mul]
            exact Nat.le_trans h1 (Nat.le_add_right _ _)
      have h2 := key cs.length (Nat.le_refl _)
      have h3 : cs.length * 8 ^ n ≤ 8 * 8 ^ n := Nat.mul_le_mul_right _ h8
      rw [Nat.pow_succ, Nat.mul_comm (8 ^ n) 8]
      omega
/-- All ways in valid types. -/
def waysOf (t : Ty) (a b : Int) : List (List Int) := waysF t.cos 5 a b
theorem waysOf_len {t : Ty} (h : tyOk t = true) (a b : Int) : (waysOf t a b).length ≤ 32768 := waysF_len (tyOk_few h) 5 a b
theorem waysF_wf {cs : List Co} (h8 : cs.length ≤ 8) : ∀ (n : Nat) (k goal : Int), ∀ z ∈ waysF cs n k goal, ∀ i ∈ z, I64 i := by
  intro n
  induction n with
  | zero => intro k goal z hz; simp [waysF] at hz
  | succ n ih =>
    intro k goal z hz
    by_cases h : k = goal
    · subst h; rw [waysF_eq] at hz; simp at hz; subst hz; simp
    · rw [waysF_ne h] at hz
      unfold waysJ at hz
      obtain ⟨i, hi, hz⟩ := List.mem_flatMap.1 hz
      have hi := List.mem_range.1 hi
      split at hz
      · obtain ⟨y, hy, rfl⟩ := List.mem_map.1 hz
        intro q hq
        rcases List.mem_cons.1 hq with rfl | hq
        · unfold I64; omega
        · exact ih _ _ y hy q hq
      · simp at hz
theorem waysF_short {cs : List Co} : ∀ (n : Nat) (k goal : Int), ∀ z ∈ waysF cs n k goal, z.length < n := by
  intro n
  induction n with
  | zero => intro k goal z hz; simp [waysF] at hz
  | succ n ih =>
    intro k goal z hz
    by_cases h : k = goal
    · subst h; rw [waysF_eq] at hz; simp at hz; subst hz; simp
    · rw [waysF_ne h] at hz
      unfold waysJ at hz
      obtain ⟨i, hi, hz⟩ := List.mem_flatMap.1 hz
      split at hz
      · obtain ⟨y, hy, rfl⟩ := List.mem_map.1 hz
        have := ih _ _ y hy
        simp
        omega
      · simp at hz

theorem step_append_ints {w : World} {ops : Array Oper} {o : Oper} {a : Act} {K : Act → World → Prop} {Q : Exit → Act → World → Prop} {E : Prop} (hgd : o.guard = none) (s x : Operand)
    (ho : o.op = .call { callee := .builtin .append, args := #[s, x], argTypes := #[22, 22] })
    (base : Nat) (v : Value) (n : Nat) (xs : List Value) (hs : a.eval s = v) (hown : w.ownsRow base 3 1 v n xs) (lo hi : Nat) (A : Option Addr) (m c : Nat) (zs : List Int) (hx : a.eval x = .slice A m c)
    (hz : IntsAt w lo hi (.slice A m c) zs) (hm : zs.length = m) (h63 : n + m ≤ 2097152) (hbase : base ≤ w.heap.size)
    (h : ∀ VA VC w', w'.ownsRow base 3 1 (.slice VA (n + m) VC) (n + m) (xs ++ zs.map (Value.int .i64)) → w.grownBy w' v.ownBlock → K (a.put o.dst (.slice VA (n + m) VC)) w') :
    if Region.wanted o (yielded ops a.tmps) = true then Oper.wp Tryz.prog o a w K Q else E := by
  have hw : Region.wanted o (yielded ops a.tmps) = true := by simp [Region.wanted, hgd]
  rw [if_pos hw]
  obtain ⟨i0, hi0, hz0, hz1, hz2⟩ := info_parts Tryz.infoInt
  subst hm
  rcases A with _ | ad
  · have hn : zs = [] := by
      rcases zs with _ | ⟨z, zs⟩
      · rfl
      · obtain ⟨b, off, e, _⟩ := hz.at_ (k := 0) (by simp)
        cases e
    subst hn
    obtain ⟨VA, VC, rfl⟩ := owns_form hown
    rw [List.length_nil] at hx
    have hrun := run_append_owned_none' (P := Tryz.prog) (w := w) base 22 o.type 3 i0 1 Tryz.underlying22 hi0 _ _ _ c hown
    have := h VA VC w (by simpa using hown) ⟨rfl, rfl, rfl, Nat.le_refl _, fun _ _ _ => rfl⟩
    unfold Oper.wp
    have this2 : K (a.put o.dst (.slice VA n VC)) w := by simpa using this
    simp [execOp, ho, resolve, invoke, builtin, hs, hx, hrun, Result.andThen]
    exact this2
  · refine wp_append_own w s x 22 ho base 3 i0 (.int .i64 0) 1 8 Tryz.underlying22 hi0 hz0 hz1 hz2 rfl (by decide) _ _ _ hs hown ad zs.length c (zs.map (Value.int .i64)) hx (by simp) hz.cells (ints_oneCell' zs) (by unfold maxLen; omega) (by omega) hbase ?_
    intro v' w2 hown2 hgrow _
    obtain ⟨VA, VC, rfl⟩ := owns_form hown2
    exact h VA VC w2 hown2 hgrow
end Go.Proofs.YtgkfddhhkjblgaaGreatDoor

