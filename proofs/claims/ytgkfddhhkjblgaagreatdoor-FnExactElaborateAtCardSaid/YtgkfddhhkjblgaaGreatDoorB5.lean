/-
  Words for memory that the call itself made: a slice at the head of a row, coercions whose maps lie in rows of their own.
  sync.Once in one goroutine, the lock free and nothing done yet: the parts of its slow road, each a contract of its own.
  The table that a coercion makes once: filled by the function that is handed to the Once.
  sync.Once's Do, not done yet, the lock free, over the table of a coercion; and the look-up in the table.
  The contracts of ApplyCoercion, the program's and the model's.
  The contracts of the model's l4Cells and l4Function.
  The contract of the model's comparison of two lists.
-/
import Derived.Test.YtgkfddhhkjblgaaGreatDoorB1
import Derived.Test.YtgkfddhhkjblgaaGreatDoorRows
import Derived.Tactics
import Derived.Tactics2
import Derived.Defers
import Derived.Laws.Pointers
import Derived.Laws.LoneSync
import Derived.RegionTactic
import Derived.RegionCalls
import Derived.ChangeAlike
import Derived.Outline
import Derived.Handy
import Derived.StillTailTactics
import Derived.Laws.CopyOwn
import Derived.Test.YtgkfddhhkjblgaaGreatDoorB4
import Derived.Deep.RegionHeld3
import Derived.BigQuiet
import Derived.Deep.QuietTactic
namespace Go.Proofs.YtgkfddhhkjblgaaGreatDoor
open Go.RowKit

theorem Kept.refl (S : Nat → Prop) (w : World) : Kept S w w := ⟨rfl, rfl, rfl, Nat.le_refl _, fun _ _ _ => rfl⟩
theorem Kept.weak {S S' : Nat → Prop} {w w' : World} (h : Kept S w w') (hs : ∀ k, S' k → S k) : Kept S' w w' := ⟨h.os, h.tape, h.output, h.size, fun k hk hS => h.block k hk (hs k hS)⟩
theorem Kept.setCell {S : Nat → Prop} {w w' : World} (h : Kept S w w') {p : Addr} (hp : ¬ S p.block) (u : Value) : Kept S w (w'.setCell p u) :=
  ⟨h.os, h.tape, h.output, by simpa [World.setCell] using h.size, fun k hk hS => (Below.heap_setCell w' p u k (fun e => hp (e ▸ hS))).trans (h.block k hk hS)⟩
theorem Kept.alloc {S : Nat → Prop} {w w' : World} (h : Kept S w w') (o : Obj) : Kept S w (w'.alloc o) :=
  ⟨h.os, h.tape, h.output, by have := h.size; simp; omega, fun k hk hS => (Below.heap_alloc w' o k (by have := h.size; omega)).trans (h.block k hk hS)⟩
theorem Kept.drew {S : Nat → Prop} {w w' : World} (h : Kept S w w') : Kept S w w'.drew := ⟨h.os, h.tape, h.output, h.size, h.block⟩
theorem Kept.new {S : Nat → Prop} {w w' w'' : World} (h : Kept S w w') (hb : Below w'.heap.size w' w'') : Kept S w w'' :=
  ⟨hb.os.trans h.os, hb.tape.trans h.tape, hb.output.trans h.output, Nat.le_trans h.size hb.size, fun k hk hS => (hb.block k (by have := h.size; omega)).trans (h.block k hk hS)⟩
theorem Kept.below {S : Nat → Prop} {w w' : World} {B : Nat} (h : Kept S w w') (hB : B ≤ w.heap.size) (hS : ∀ k, k < B → S k) : Below B w w' :=
  ⟨h.os, h.tape, h.output, h.size, fun k hk => h.block k (by omega) (hS k hk)⟩

/-- The numbers from k on, n of them. -/
def markL (k : Int) (n : Nat) : List Int := (List.range n).map fun i : Nat => k + (i : Int)
theorem markL_len (k : Int) (n : Nat) : (markL k n).length = n := by simp [markL]
theorem markL_get (k : Int) (n i : Nat) (h : i < (markL k n).length) : (markL k n)[i] = k + (i : Int) := by simp [markL]
theorem markL_succ (k : Int) (n : Nat) : markL k (n + 1) = markL k n ++ [k + (n : Int)] := by simp [markL, List.range_succ]

/-- The slice v of n cells begins at the head of block g, if it is not empty; its cells are xs. -/
def SlAt (w : World) (t : TypeId) (g : Nat) (v : Value) (n : Nat) (xs : List Value) : Prop :=
  ∃ (A : Option Addr) (cap : Nat), v = .slice A n cap ∧ n ≤ cap ∧ cap ≤ maxLen ∧ (n = 0 → xs = []) ∧ (0 < n → A = some ⟨g, 0, none⟩ ∧ ∃ rest, Row w g t (xs ++ rest))
def OwnI (w : World) (t : TypeId) (g : Nat) (v : Value) (zs : List Int) : Prop := SlAt w t g v zs.length (zs.map (Value.int .i64))

section
variable {w w' : World} {t : TypeId} {g n : Nat} {v : Value} {xs : List Value} {zs : List Int}
theorem SlAt.keep (h : SlAt w t g v n xs) (hk : 0 < n → w'.heap[g]? = w.heap[g]?) : SlAt w' t g v n xs := by
  obtain ⟨A, cap, e, h1, h2, h3, h4⟩ := h
  refine ⟨A, cap, e, h1, h2, h3, fun h0 => ?_⟩
  obtain ⟨hA, rest, hr⟩ := h4 h0
  exact ⟨hA, rest, hr.keep (hk h0)⟩
theorem SlAt.lt (h : SlAt w t g v n xs) (hn : 0 < n) : g < w.heap.size := by
  obtain ⟨A, cap, e, h1, h2, h3, h4⟩ := h
  exact (h4 hn).2.choose_spec.lt
theorem OwnI.ints {lo hi : Nat} (h : OwnI w t g v zs) (hw : ∀ z ∈ zs, I64 z) (hg : 0 < zs.length → lo ≤ g ∧ g < hi) : IntsAt w lo hi v zs := by
  obtain ⟨A, cap, e, h1, h2, h3, h4⟩ := h
  refine ⟨A, cap, e, h1, h2, hw, fun h0 => ?_⟩
  obtain ⟨rfl, rest, hr⟩ := h4 h0
  refine ⟨g, 0, rfl, (hg h0).1, (hg h0).2, fun k hk => ?_⟩
  rw [Nat.zero_add, hr.cell, List.getElem?_append_left (by simpa using hk), List.getElem?_map, List.getElem?_eq_getElem hk, List.getD_eq_getElem?_getD, List.getElem?_eq_getElem hk]
  rfl
theorem Row.own {cap : Nat} (h : Row w g t (zs.map (Value.int .i64))) (hc : zs.length ≤ cap) (hm : cap ≤ maxLen) : OwnI w t g (.slice (some ⟨g, 0, none⟩) zs.length cap) zs :=
  ⟨_, _, rfl, hc, hm, fun e => by simp [List.eq_nil_of_length_eq_zero e], fun _ => ⟨rfl, [], by simpa using h⟩⟩

/-- From the library's word for a row of the call's own. -/
theorem OwnI.of_owns {base : Nat} (h : w.ownsRow base t 1 v zs.length (zs.map (Value.int .i64))) : ∃ g, OwnI w t g v zs ∧ (0 < zs.length → base ≤ g ∧ g < w.heap.size) := by
  obtain ⟨h1, ⟨rfl, hn⟩ | ⟨g, cap, cur, rfl, hb, hh, hc, hm, hsz, htk⟩⟩ := h
  · refine ⟨0, ⟨none, 0, by rw [hn], by omega, Nat.zero_le _, fun e => by simp [List.eq_nil_of_length_eq_zero e], fun h0 => absurd h0 (by omega)⟩, fun h0 => absurd h0 (by omega)⟩
  · have hr : Row w g t ((zs.map (Value.int .i64)) ++ cur.toList.drop zs.length) := by
      rw [← htk, Nat.mul_one, List.take_append_drop]
      simpa [Row] using hh
    exact ⟨g, ⟨_, _, rfl, hc, hm, fun e => by simp [List.eq_nil_of_length_eq_zero e], fun _ => ⟨rfl, _, hr⟩⟩, fun _ => ⟨hb, hr.lt⟩⟩
end

theorem remark_step (f : Nat → Value) (xs : List Value) (j : Nat) (h : j < xs.length) : ((List.range j).map f ++ xs.drop j).set j (f j) = (List.range (j + 1)).map f ++ xs.drop (j + 1) := by
  have hl : ((List.range j).map f).length = j := by simp
  rw [List.set_append_right _ _ (by omega), hl, Nat.sub_self, List.drop_eq_getElem_cons h, List.set_cons_zero, List.range_succ, List.map_append, List.append_assoc]
  rfl

/-- How many numbers the maps of the first i coercions hold. -/
def lenSum (f : Nat → Co) : Nat → Nat
  | 0 => 0
  | i + 1 => lenSum f i + (f i).map.length
theorem lenSum_mono (f : Nat → Co) {i j : Nat} (h : i ≤ j) : lenSum f i ≤ lenSum f j := by
  induction j with
  | zero => obtain rfl : i = 0 := by omega
            exact Nat.le_refl _
  | succ j ih =>
    by_cases e : i = j + 1
    · rw [e]; exact Nat.le_refl _
    · have := ih (by omega)
      show _ ≤ lenSum f j + _
      omega

/-- Coercions in memory of the call's own: the slice cv at the head of block gc, the i-th map the slice mv i at the head of block m i. -/
def OwnCos (w : World) (ti tc : TypeId) (gc : Nat) (m : Nat → Nat) (mv : Nat → Value) (cv : Value) (n : Nat) (f : Nat → Co) : Prop :=
  ∃ xs : List Value, SlAt w tc gc cv n xs ∧ xs.length = n * 3 ∧
    (∀ i, i < n → xs[i * 3]? = some (.int .i64 (f i).src) ∧ xs[i * 3 + 1]? = some (.int .i64 (f i).dst) ∧ xs[i * 3 + 2]? = some (mv i)) ∧ ∀ i, i < n → OwnI w ti (m i) (mv i) (f i).map
/-- The maps' blocks are apart, and none is the coercions' own. -/
def Apart (gc : Nat) (m : Nat → Nat) (n : Nat) (f : Nat → Co) : Prop :=
  ∀ i, i < n → 0 < (f i).map.length → m i ≠ gc ∧ ∀ j, j < n → j ≠ i → 0 < (f j).map.length → m j ≠ m i

def markAt (f : Nat → Co) (k0 : Int) (i : Nat) : Int := k0 + 2 * (i : Int) + (lenSum f i : Int)
def markCo (f : Nat → Co) (k0 : Int) (i : Nat) : Co := ⟨markAt f k0 i, markAt f k0 i + 1, markL (markAt f k0 i + 2) (f i).map.length⟩
def mixCo (f : Nat → Co) (k0 : Int) (j i : Nat) : Co := if i < j then markCo f k0 i else f i
theorem mixCo_len (f : Nat → Co) (k0 : Int) (j i : Nat) : (mixCo f k0 j i).map.length = (f i).map.length := by
  unfold mixCo
  split
  · simp [markCo, markL_len]
  · rfl
theorem markAt_succ (f : Nat → Co) (k0 : Int) (i : Nat) : markAt f k0 (i + 1) = markAt f k0 i + 2 + ((f i).map.length : Int) := by
  unfold markAt
  show k0 + 2 * ((i + 1 : Nat) : Int) + ((lenSum f i + (f i).map.length : Nat) : Int) = _
  omega

/-- One coercion more is marked. -/
theorem OwnCos.step {w1 : World} {ti tc : TypeId} {gc n j : Nat} {m : Nat → Nat} {mv : Nat → Value} {cv : Value} {f : Nat → Co} {k0 : Int} {xs rest : List Value} {A : Option Addr} {cap : Nat}
    (hcv : cv = .slice A n cap) (hc : n ≤ cap) (hm : cap ≤ maxLen) (hA : A = some ⟨gc, 0, none⟩) (hj : j < n) (hx : xs.length = n * 3)
    (hf : ∀ i, i < n → xs[i * 3]? = some (.int .i64 (mixCo f k0 j i).src) ∧ xs[i * 3 + 1]? = some (.int .i64 (mixCo f k0 j i).dst) ∧ xs[i * 3 + 2]? = some (mv i))
    (hr : Row w1 gc tc (((xs.set (j * 3) (.int .i64 (markAt f k0 j))).set (j * 3 + 1) (.int .i64 (markAt f k0 j + 1))) ++ rest))
    (hms : ∀ i, i < n → i ≠ j → OwnI w1 ti (m i) (mv i) (mixCo f k0 j i).map) (hmj : OwnI w1 ti (m j) (mv j) (markL (markAt f k0 j + 2) (f j).map.length)) :
    OwnCos w1 ti tc gc m mv cv n (mixCo f k0 (j + 1)) := by
  refine ⟨(xs.set (j * 3) (.int .i64 (markAt f k0 j))).set (j * 3 + 1) (.int .i64 (markAt f k0 j + 1)), ⟨A, cap, hcv, hc, hm, fun h => absurd h (by omega), fun _ => ⟨hA, rest, hr⟩⟩, by simp [hx], fun i hi => ?_, fun i hi => ?_⟩
  · obtain ⟨a, b, c⟩ := hf i hi
    by_cases e : i = j
    · subst e
      have e1 : mixCo f k0 (i + 1) i = markCo f k0 i := by unfold mixCo; rw [if_pos (by omega)]
      rw [e1]
      refine ⟨?_, ?_, ?_⟩
      · rw [List.getElem?_set_ne (by omega), List.getElem?_set_self (by omega)]; rfl
      · rw [List.getElem?_set_self (by simp; omega)]; rfl
      · rw [List.getElem?_set_ne (by omega), List.getElem?_set_ne (by omega), c]
    · have e1 : mixCo f k0 (j + 1) i = mixCo f k0 j i := by
        unfold mixCo
        by_cases h : i < j
        · rw [if_pos h, if_pos (by omega)]
        · rw [if_neg h, if_neg (by omega)]
      rw [e1]
      refine ⟨?_, ?_, ?_⟩
      · rw [List.getElem?_set_ne (by omega), List.getElem?_set_ne (by omega), a]
      · rw [List.getElem?_set_ne (by omega), List.getElem?_set_ne (by omega), b]
      · rw [List.getElem?_set_ne (by omega), List.getElem?_set_ne (by omega), c]
  · by_cases e : i = j
    · subst e
      have e1 : mixCo f k0 (i + 1) i = markCo f k0 i := by unfold mixCo; rw [if_pos (by omega)]
      rw [e1]
      exact hmj
    · have e1 : mixCo f k0 (j + 1) i = mixCo f k0 j i := by
        unfold mixCo
        by_cases h : i < j
        · rw [if_pos h, if_pos (by omega)]
        · rw [if_neg h, if_neg (by omega)]
      rw [e1]
      exact hms i hi e

theorem OwnCos.keep {w w' : World} {ti tc : TypeId} {gc n : Nat} {m : Nat → Nat} {mv : Nat → Value} {cv : Value} {f : Nat → Co} (h : OwnCos w ti tc gc m mv cv n f) (hk : 0 < n → w'.heap[gc]? = w.heap[gc]?)
    (hm : ∀ i, i < n → 0 < (f i).map.length → w'.heap[m i]? = w.heap[m i]?) : OwnCos w' ti tc gc m mv cv n f := by
  obtain ⟨xs, h1, h2, h3, h4⟩ := h
  exact ⟨xs, h1.keep hk, h2, h3, fun i hi => (h4 i hi).keep (hm i hi)⟩
theorem OwnCos.lt {w : World} {ti tc : TypeId} {gc n : Nat} {m : Nat → Nat} {mv : Nat → Value} {cv : Value} {f : Nat → Co} (h : OwnCos w ti tc gc m mv cv n f) :
    (0 < n → gc < w.heap.size) ∧ ∀ i, i < n → 0 < (f i).map.length → m i < w.heap.size := by
  obtain ⟨xs, h1, h2, h3, h4⟩ := h
  exact ⟨fun h0 => h1.lt h0, fun i hi h0 => (h4 i hi).lt h0⟩
/-- What lies in memory of the call's own reads as coercions. -/
theorem OwnCos.cosAt {w : World} {ti tc : TypeId} {gc n lo hi : Nat} {m : Nat → Nat} {mv : Nat → Value} {cv : Value} {f : Nat → Co} (h : OwnCos w ti tc gc m mv cv n f)
    (hw : ∀ i, i < n → I64 (f i).src ∧ I64 (f i).dst ∧ ∀ z ∈ (f i).map, I64 z) (hg : 0 < n → lo ≤ gc ∧ gc < hi) (hm : ∀ i, i < n → 0 < (f i).map.length → lo ≤ m i ∧ m i < hi) : CosAt w lo hi cv ((List.range n).map f) := by
  obtain ⟨xs, ⟨A, cap, rfl, hc, hcm, _, hrow⟩, hx, hcells, hmaps⟩ := h
  have e : ((List.range n).map f).length = n := by simp
  refine ⟨A, cap, by rw [e], by rw [e]; exact hc, hcm, fun h0 => ?_⟩
  rw [e] at h0
  obtain ⟨rfl, rest, hr⟩ := hrow h0
  refine ⟨gc, 0, rfl, (hg h0).1, (hg h0).2, fun k hk => ?_⟩
  rw [e] at hk
  obtain ⟨a, b, c⟩ := hcells k hk
  obtain ⟨w1, w2, w3⟩ := hw k hk
  rw [List.getD_eq_getElem?_getD, List.getElem?_eq_getElem (by rw [e]; exact hk)]
  simp only [List.getElem_map, List.getElem_range, Option.getD_some]
  refine ⟨_, _, _, ?_, ?_, ?_, rfl, rfl, w1, w2, (hmaps k hk).ints w3 (hm k hk)⟩
  · rw [Nat.zero_add, hr.cell, List.getElem?_append_left (by omega), a]
  · rw [Nat.zero_add, hr.cell, List.getElem?_append_left (by omega), b]
  · rw [Nat.zero_add, hr.cell, List.getElem?_append_left (by omega), c]

/-- Types in memory of the call's own. -/
structure OwnTy (w : World) (ti tc : TypeId) (gs gc : Nat) (m : Nat → Nat) (mv : Nat → Value) (sv cv : Value) (ss : List Int) (n : Nat) (f : Nat → Co) : Prop where
  sizes : OwnI w ti gs sv ss
  cos : OwnCos w ti tc gc m mv cv n f
  apart : Apart gc m n f
  away : 0 < ss.length → (gs ≠ gc ∧ ∀ i, i < n → 0 < (f i).map.length → gs ≠ m i)
/-- The blocks of such types. -/
def OwnTy.uses (gs gc : Nat) (m : Nat → Nat) (ss : List Int) (n : Nat) (f : Nat → Co) (k : Nat) : Prop := (0 < ss.length ∧ k = gs) ∨ (0 < n ∧ k = gc) ∨ ∃ i, i < n ∧ 0 < (f i).map.length ∧ k = m i
theorem Apart.mix {gc n : Nat} {m : Nat → Nat} {f : Nat → Co} (h : Apart gc m n f) (k0 : Int) (j : Nat) : Apart gc m n (mixCo f k0 j) := by
  intro i hi hl
  rw [mixCo_len] at hl
  exact ⟨(h i hi hl).1, fun j' hj' hne hl' => (h i hi hl).2 j' hj' hne (by rw [mixCo_len] at hl'; exact hl')⟩
theorem OwnTy.keep {w w' : World} {ti tc : TypeId} {gs gc n : Nat} {m : Nat → Nat} {mv : Nat → Value} {sv cv : Value} {ss : List Int} {f : Nat → Co} (h : OwnTy w ti tc gs gc m mv sv cv ss n f)
    (hk : ∀ k, k < w.heap.size → OwnTy.uses gs gc m ss n f k → w'.heap[k]? = w.heap[k]?) : OwnTy w' ti tc gs gc m mv sv cv ss n f :=
  ⟨h.sizes.keep fun h0 => hk gs (h.sizes.lt h0) (.inl ⟨h0, rfl⟩),
   h.cos.keep (fun h0 => hk gc (h.cos.lt.1 h0) (.inr (.inl ⟨h0, rfl⟩))) (fun i hi hl => hk _ (h.cos.lt.2 i hi hl) (.inr (.inr ⟨i, hi, hl, rfl⟩))), h.apart, h.away⟩
theorem OwnTy.tyAt {w : World} {ti tc : TypeId} {gs gc n lo hi : Nat} {m : Nat → Nat} {mv : Nat → Value} {sv cv : Value} {ss : List Int} {f : Nat → Co} (h : OwnTy w ti tc gs gc m mv sv cv ss n f)
    (hs : ∀ z ∈ ss, I64 z) (hw : ∀ i, i < n → I64 (f i).src ∧ I64 (f i).dst ∧ ∀ z ∈ (f i).map, I64 z) (hu : ∀ k, OwnTy.uses gs gc m ss n f k → lo ≤ k ∧ k < hi) : TyAt w lo hi sv cv ⟨ss, (List.range n).map f⟩ :=
  ⟨h.sizes.ints hs fun h0 => hu _ (.inl ⟨h0, rfl⟩), h.cos.cosAt hw (fun h0 => hu _ (.inr (.inl ⟨h0, rfl⟩))) fun i hi hl => hu _ (.inr (.inr ⟨i, hi, hl, rfl⟩))⟩
/-- Types as the copying lays them are such types. -/
theorem NewTy.own {w : World} {ti tc : TypeId} {g : Nat} {t : Ty} (h : NewTy w ti tc g t) (hb : t.bulk ≤ 1048576) :
    OwnTy w ti tc g (g + 1) (fun j => g + 1 + 1 + 4 * j + 3) (fun j => .slice (some ⟨g + 1 + 1 + 4 * j + 3, 0, none⟩) (t.cos.getD j default).map.length (t.cos.getD j default).map.length)
      (.slice (some ⟨g, 0, none⟩) t.sizes.length t.sizes.length) (.slice (some ⟨g + 1, 0, none⟩) t.cos.length t.cos.length) t.sizes t.cos.length (fun j => t.cos.getD j default) := by
  obtain ⟨h1, ⟨xs, h2, h3⟩, h4⟩ := h
  have hb' := hb
  unfold Ty.bulk at hb'
  refine ⟨h1.own (Nat.le_refl _) (by unfold maxLen; omega), ⟨xs, ⟨_, _, rfl, Nat.le_refl _, by unfold maxLen; omega, fun h0 => List.eq_nil_of_length_eq_zero (by rw [h3.1, h0]), fun _ => ⟨rfl, [], by simpa using h2⟩⟩, h3.1, fun i hi => ?_, fun i hi => ?_⟩,
    fun i hi _ => ⟨by omega, fun j hj hne _ => by omega⟩, fun _ => ⟨by omega, fun i hi _ => by omega⟩⟩
  · obtain ⟨a, b, c⟩ := h3.2 i hi hi
    have e : t.cos.getD i default = t.cos[i] := by rw [List.getD_eq_getElem?_getD, List.getElem?_eq_getElem hi]; rfl
    simp only [e]
    exact ⟨a, b, c⟩
  · have e : t.cos.getD i default = t.cos[i] := by rw [List.getD_eq_getElem?_getD, List.getElem?_eq_getElem hi]; rfl
    simp only [e]
    have := t.map_le i hi
    exact (h4 i hi).own (Nat.le_refl _) (by unfold maxLen; omega)
end Go.Proofs.YtgkfddhhkjblgaaGreatDoor

namespace Go.Proofs.YtgkfddhhkjblgaaGreatDoor
open Go.RowKit

end Go.Proofs.YtgkfddhhkjblgaaGreatDoor

namespace Go.Proofs.YtgkfddhhkjblgaaGreatDoor
open Go.RowKit

/-- What the table holds. -/
def tabOf (zs : List Int) : List Value := zs.map (Value.int .i64) ++ List.replicate (4 - zs.length) (.int .i64 (-1))

end Go.Proofs.YtgkfddhhkjblgaaGreatDoor

namespace Go.Proofs.YtgkfddhhkjblgaaGreatDoor
open Go.RowKit

/-- What the table gives for a value. -/
def lookOf (zs : List Int) (v : Int) : Int := if 0 ≤ v ∧ v < zs.length then zs.getD v.toNat 0 else -1
theorem tabOf_get (zs : List Int) (hn : zs.length ≤ 4) (v : Int) (h0 : 0 ≤ v) (h4 : v < 4) : (tabOf zs)[v.toNat]? = some (.int .i64 (lookOf zs v)) := by
  unfold tabOf lookOf
  by_cases h : v < zs.length
  · rw [List.getElem?_append_left (by simp; omega), List.getElem?_map, List.getElem?_eq_getElem (by omega), if_pos ⟨h0, h⟩, List.getD_eq_getElem?_getD, List.getElem?_eq_getElem (by omega)]
    rfl
  · rw [List.getElem?_append_right (by simp; omega), if_neg (fun hh => h hh.2), List.length_map, List.getElem?_replicate, if_pos (by omega)]
theorem lookOf_out (zs : List Int) (hn : zs.length ≤ 4) (v : Int) (h : ¬ (0 ≤ v ∧ v < 4)) : lookOf zs v = -1 := by
  unfold lookOf
  rw [if_neg (fun hh => h ⟨hh.1, by omega⟩)]

end Go.Proofs.YtgkfddhhkjblgaaGreatDoor

namespace Go.Proofs.YtgkfddhhkjblgaaGreatDoor
open Go.RowKit

/-- A world of a class. -/
structure InC (D : World → Prop) where
  val : World
  inD : D val
/-- A region that draws its order, every operation of which yields one value in every world of a class and leaves a world of the class: one walk serves every order. -/
theorem wp_region_class {P : Program} (D : World → Prop) {id : Nat} {Q : Exit → Act → World → Prop} {a : Act} {w : World} {l : List Oper} (hm : P.follows .mixedOrders = true) (hB : Region.lexB .any l.toArray = true) (hD : D w.drew)
    (h : wpQuiet P l.toArray (fun w' => ∃ x : InC D, w' = x.val) (fun a' => ∀ w', (∃ x : InC D, w' = x.val) → Q .normal a' w') l a) : (Code.region id l.toArray true).wp P Q a w :=
  wp_region_quiet (C := fun w' => ∃ x : InC D, w' = x.val) hm hB ⟨⟨_, hD⟩, rfl⟩ (by simpa using h)

theorem lookOf_in {zs : List Int} {v : Int} (h0 : 0 ≤ v) (h : v.toNat < zs.length) : lookOf zs v = zs[v.toNat] := by
  unfold lookOf
  rw [if_pos ⟨h0, by omega⟩, List.getD_eq_getElem?_getD, List.getElem?_eq_getElem h]; rfl

/-- Are the types valid, and is there such a coercion? -/
def hasC (t : Ty) (i : Int) : Bool := tyOk t && ixB i t.cos.length
theorem hasC_of {t : Ty} {i : Int} (h : hasC t i = true) : tyOk t = true ∧ 0 ≤ i ∧ i < t.cos.length ∧ i.toNat < t.cos.length := by
  simp only [hasC, Bool.and_eq_true, ixB, decide_eq_true_eq] at h
  exact ⟨h.1, h.2.1, h.2.2, by omega⟩
theorem hasC_co {t : Ty} {i : Int} (h : hasC t i = true) (hi : i.toNat < t.cos.length) : coOk t.sizes t.cos[i.toNat] = true := by
  have h1 := (hasC_of h).1
  simp only [tyOk, Bool.and_eq_true, List.all_eq_true] at h1
  exact h1.2 _ (List.getElem_mem hi)
/-- What a coercion makes of a value. -/
def applyV (t : Ty) (i v : Int) : Int := if hasC t i = true then lookOf (t.cos.getD i.toNat default).map v else -1
theorem applyV_no {t : Ty} {i v : Int} (h : hasC t i = false) : applyV t i v = -1 := by unfold applyV; rw [h]; rfl
theorem applyV_yes {t : Ty} {i v : Int} (h : hasC t i = true) (hi : i.toNat < t.cos.length) : applyV t i v = lookOf t.cos[i.toNat].map v := by
  unfold applyV; rw [if_pos h, List.getD_eq_getElem?_getD, List.getElem?_eq_getElem hi]; rfl

end Go.Proofs.YtgkfddhhkjblgaaGreatDoor

namespace Go.Proofs.YtgkfddhhkjblgaaGreatDoor
open Go.RowKit
attribute [local go_sem] Oper.semAt_some

set_option maxRecDepth 100000 in
set_option maxHeartbeats 2000000 in
theorem l4Cells_any (lo hi lo' hi' : Nat) (sv cv av : Value) (t : Ty) (args : List Int) (w : World) (hv : TyAt w lo hi sv cv t) (ha : IntsAt w lo' hi' av args) (hB : hi ≤ w.heap.size) (hB' : hi' ≤ w.heap.size) (hok : sizesOk t.sizes = true)
    (hargs : ∀ j, ∀ (hj : j < args.length), 0 ≤ args[j] ∧ args[j] < t.sizes.length) (h2 : args.length ≤ 2) :
    Calls Tryz.prog 129 #[.agg #[sv, cv], av] w fun e w' => e = .returned (.int .i64 (cellsI t.sizes args)) ∧ Below w.heap.size w w' := by
  obtain ⟨A, cap, rfl, hl1, hm1, hi1⟩ := hv.1.form
  obtain ⟨B, bap, rfl, hl2, hm2, _⟩ := hv.2.form
  obtain ⟨A1, cap1, rfl, hl3, hm3, ha1⟩ := ha.form
  obtain ⟨g1, g5, hall⟩ := sizesOk_of hok
  unfold maxLen at hm3
  have h3 : Below w.heap.size w (w.alloc (.cells #[.slice A t.sizes.length cap, .slice B t.cos.length bap] 34)) := by go_grown
  have Hsm := Lib.hid (cellsTo_small hok hargs h2)
  have Hargs := Lib.hid hargs
  have Hi := Lib.hid hi1
  have Ha := Lib.hid ha1
  clear hv ha hi1 ha1 hall hargs
  go_enter Tryz.func129, Tryz.ntmps129
  go_wp2
  obtain ⟨wb, hwb⟩ : ∃ wb, wb = w.alloc (.cells #[.slice A t.sizes.length cap, .slice B t.cos.length bap] 34) := ⟨_, rfl⟩
  have hrow : Row wb w.heap.size 34 [.slice A t.sizes.length cap, .slice B t.cos.length bap] := by rw [hwb]; exact Row.new _ _ _
  have hbb : Below w.heap.size w wb := by rw [hwb]; exact h3
  have q0 := hrow.cell 0
  have q1 := hrow.cell 1
  simp only [List.getElem?_cons_zero, List.getElem?_cons_succ] at q0 q1
  have Hi' := Lib.hid (Hi.out.below hbb hB)
  have Ha' := Lib.hid (Ha.out.below hbb hB')
  have Hbb := Lib.hid hbb
  rw [← hwb]
  clear hbb h3 hrow hwb Hi Ha
  go_loop [5, 10] (fun r i => ∃ k : Nat, k ≤ args.length ∧ i = .int .i64 k ∧ r = .int .i64 (cellsTo t.sizes args k)) (fun _ i => args.length - (intOf i).toNat)
  case atStart => exact ⟨0, Nat.zero_le _, rfl, rfl⟩
  case round =>
    obtain ⟨k, hk, rfl, rfl⟩ := hrel
    by_cases hlt : k < args.length
    · obtain ⟨b, off, rfl, _, _, e0, _⟩ := Ha'.out.at_ hlt
      obtain ⟨h0, h1⟩ := Hargs.out k hlt
      have hlt2 : args[k].toNat < t.sizes.length := by omega
      obtain ⟨b2, off2, rfl, _, _, e1, _⟩ := Hi'.out.at_ hlt2
      have hs := Hsm.out (k + 1) hlt
      have hstep : cellsTo t.sizes args (k + 1) = cellsTo t.sizes args k * t.sizes[args[k].toNat] := by
        show cellsTo t.sizes args k * t.sizes.getD (args.getD k 0).toNat 0 = _
        rw [List.getD_eq_getElem?_getD (l := args), List.getElem?_eq_getElem hlt, Option.getD_some, List.getD_eq_getElem?_getD, List.getElem?_eq_getElem hlt2]
        rfl
      rw [hstep] at hs
      have hwr := wrapIn (cellsTo t.sizes args k * t.sizes[args[k].toNat]) (by omega) (by omega)
      have Hstep := Lib.hid hstep
      clear hstep hs
      go_wp2
      go_round
      case rel => exact ⟨k + 1, by omega, by go_num, by rw [Hstep.out]⟩
      case measure => simp [intOf]; omega
    · obtain rfl : k = args.length := by omega
      go_wp2
      go_ret
      exact ⟨rfl, Hbb.out⟩

set_option maxRecDepth 100000 in
set_option maxHeartbeats 4000000 in
theorem l4Function_any (lo hi lo' hi' : Nat) (sv cv x a r tv : Value) (t : Ty) (f : Fu) (w : World) (hv : TyAt w lo hi sv cv t) (hc : FuAt w lo' hi' x a r tv f) (hB : hi ≤ w.heap.size) (hB' : hi' ≤ w.heap.size) (hok : sizesOk t.sizes = true) :
    Calls Tryz.prog 104 #[.agg #[sv, cv], .agg #[x, a, r, tv]] w fun e w' => e = .returned (.bool (fuB t.sizes f)) ∧ Below w.heap.size w w' := by
  obtain ⟨g1, g5, hall⟩ := sizesOk_of hok
  obtain ⟨rfl, rfl, hn, hr, ha, ht⟩ := hc
  obtain ⟨A, cap, rfl, _, _, hi1⟩ := hv.1.form
  obtain ⟨B, bap, rfl, _, _, hco⟩ := hv.2.form
  obtain ⟨A1, cap1, rfl, hl1, hm1, ha1⟩ := ha.form
  obtain ⟨A2, cap2, rfl, hl2, hm2, ht1⟩ := ht.form
  have hT : TyAt w lo hi (.slice A t.sizes.length cap) (.slice B t.cos.length bap) t := ⟨hi1, hco⟩
  unfold maxLen at hm1 hm2 hn
  unfold I64 at hr
  have h3 : Below w.heap.size w ((w.alloc (.cells #[.slice A t.sizes.length cap, .slice B t.cos.length bap] 34)).alloc (.cells #[.string f.name, .slice A1 f.args.length cap1, .int .i64 f.res, .slice A2 f.table.length cap2] 106)) := by go_grown
  have hwr := wrapIn ((t.sizes.length : Int) - 1) (by omega) (by omega)
  clear hv ha ht hco
  by_cases c0 : f.name.size = 1
  case neg =>
    have H : Hid (fuB t.sizes f = false) := fuB_no fun h => c0 (by obtain ⟨b, e, _⟩ := h.name; rw [e]; rfl)
    have hd : ((f.name.size : Int) != 1) = true := by simp; omega
    clear c0
    go_enter Tryz.func104, Tryz.ntmps104
    go_wp2
    go_ret
    exact ⟨ret_bool H.out.symm, h3⟩
  obtain ⟨nm, args, res, table⟩ := f
  dsimp only at *
  obtain ⟨b, rfl⟩ := one_byte c0
  have hsz : (⟨#[b]⟩ : ByteArray).size = 1 := rfl
  clear c0 hn
  by_cases c1 : 102 ≤ b.toNat ∧ b.toNat ≤ 107
  case neg =>
    have H : Hid (fuB t.sizes ⟨⟨#[b]⟩, args, res, table⟩ = false) := fuB_no fun h => c1 (nameOk_byte.1 h.name)
    have hA : inB (wrap64 (((⟨#[b]⟩ : ByteArray)[0]'(by show 0 < 1; omega)).toNat : Int)) 102 107 = false := by
      show inB (wrap64 (b.toNat : Int)) 102 107 = false
      have hb := b.toNat_lt
      rw [show wrap64 (b.toNat : Int) = (b.toNat : Int) by unfold wrap64; omega]
      by_cases h : 102 ≤ b.toNat
      · exact inB_high (by omega)
      · exact inB_low (by omega)
    clear c1
    go_enter Tryz.func104, Tryz.ntmps104
    go_wp2_with (go_at_call 45; refine (l1In_any _ _ _ _).mono ?_; rintro e w' ⟨rfl, rfl⟩; rw [hA])
    go_ret
    exact ⟨ret_bool H.out.symm, h3⟩
  have hA : inB (wrap64 (((⟨#[b]⟩ : ByteArray)[0]'(by show 0 < 1; omega)).toNat : Int)) 102 107 = true := by
    show inB (wrap64 (b.toNat : Int)) 102 107 = true
    have hb := b.toNat_lt
    rw [show wrap64 (b.toNat : Int) = (b.toNat : Int) by unfold wrap64; omega]
    exact inB_yes (by omega) (by omega)
  have C1 := Lib.hid c1
  clear c1
  by_cases c2 : args.length ≤ 2
  case neg =>
    have H : Hid (fuB t.sizes ⟨⟨#[b]⟩, args, res, table⟩ = false) := fuB_no fun h => c2 h.few
    have hd : decide ((2 : Int) < (args.length : Int)) = true := by simp; omega
    clear c2
    go_enter Tryz.func104, Tryz.ntmps104
    go_wp2_with (go_at_call 45; refine (l1In_any _ _ _ _).mono ?_; rintro e w' ⟨rfl, rfl⟩; rw [hA])
    go_ret
    exact ⟨ret_bool H.out.symm, h3⟩
  have hd : decide ((2 : Int) < (args.length : Int)) = false := by simp; omega
  have C2 := Lib.hid c2
  clear c2
  by_cases c3 : inB res 0 ((t.sizes.length : Int) - 1) = true
  case neg =>
    have H : Hid (fuB t.sizes ⟨⟨#[b]⟩, args, res, table⟩ = false) := fuB_no fun h => c3 (inB_yes h.res.1 (by have := h.res.2; dsimp only at this; omega))
    have c3f : inB res 0 ((t.sizes.length : Int) - 1) = false := by simpa using c3
    clear c3
    go_enter Tryz.func104, Tryz.ntmps104
    go_wp2_with (go_at_call 45; refine (l1In_any _ _ _ _).mono ?_; rintro e w' ⟨rfl, rfl⟩; first | rw [hA] | rw [c3f])
    go_ret
    exact ⟨ret_bool H.out.symm, h3⟩
  have hres := inB_iff.1 c3
  go_enter Tryz.func104, Tryz.ntmps104
  go_wp2_with (go_at_call 45; refine (l1In_any _ _ _ _).mono ?_; rintro e w' ⟨rfl, rfl⟩; first | rw [hA] | rw [c3])
  obtain ⟨wb, hwb⟩ : ∃ wb, wb = (w.alloc (.cells #[.slice A t.sizes.length cap, .slice B t.cos.length bap] 34)).alloc (.cells #[.string ⟨#[b]⟩, .slice A1 args.length cap1, .int .i64 res, .slice A2 table.length cap2] 106) := ⟨_, rfl⟩
  have hrt : Row wb w.heap.size 34 [.slice A t.sizes.length cap, .slice B t.cos.length bap] := by rw [hwb]; exact (Row.new w _ _).alloc _
  have hrf : Row wb (w.heap.size + 1) 106 [.string ⟨#[b]⟩, .slice A1 args.length cap1, .int .i64 res, .slice A2 table.length cap2] := by
    rw [hwb]
    have h := Row.new (w.alloc (.cells #[.slice A t.sizes.length cap, .slice B t.cos.length bap] 34)) 106 [.string ⟨#[b]⟩, .slice A1 args.length cap1, .int .i64 res, .slice A2 table.length cap2]
    rwa [World.size_alloc] at h
  have hbb : Below w.heap.size w wb := by rw [hwb]; exact h3
  have HT := Lib.hid (hT.below hbb hB)
  have Ha := Lib.hid (ha1.below hbb hB')
  have Ht := Lib.hid (ht1.below hbb hB')
  have Hbb := Lib.hid hbb
  have Hrt := Lib.hid hrt
  have Hrf := Lib.hid hrf
  have q0 := hrt.cell 0
  have q1 := hrt.cell 1
  have p1 := hrf.cell 1
  have p2 := hrf.cell 2
  have p3 := hrf.cell 3
  simp only [List.getElem?_cons_zero, List.getElem?_cons_succ] at q0 q1 p1 p2 p3
  have Hsz := Lib.hid hbb.size
  have hls := hrf.lt
  rw [← hwb]
  clear hi1 ha1 ht1 hT hbb h3 hrt hrf hwb hd hA c3 hall
  go_loop [40] (fun i => ∃ k : Nat, k ≤ args.length ∧ i = .int .i64 k ∧ Hid (∀ j, j < k → ∀ (hj : j < args.length), 0 ≤ args[j] ∧ args[j] < t.sizes.length)) (fun i => args.length - (intOf i).toNat)
  case atStart => exact ⟨0, Nat.zero_le _, rfl, fun j hj => absurd hj (by omega)⟩
  case round =>
    obtain ⟨k, hk, rfl, hok2⟩ := hrel
    by_cases hkl : k < args.length
    · obtain ⟨b3, off3, rfl, _, _, e0, _⟩ := Ha.out.at_ hkl
      by_cases hin : inB args[k] 0 ((t.sizes.length : Int) - 1) = true
      · have hin' := Lib.hid (inB_iff.1 hin)
        go_wp2_with (go_at_call 45; refine (l1In_any _ _ _ _).mono ?_; rintro e w' ⟨rfl, rfl⟩; rw [hin])
        go_round
        case rel =>
          refine ⟨k + 1, by omega, by go_num, fun j hj hjl => ?_⟩
          by_cases ej : j = k
          · subst ej; have := hin'.out; omega
          · exact hok2.out j (by omega) hjl
        case measure => simp [intOf]; omega
      · have hinf : inB args[k] 0 ((t.sizes.length : Int) - 1) = false := by simpa using hin
        have H : Hid (fuB t.sizes ⟨⟨#[b]⟩, args, res, table⟩ = false) := fuB_no fun h => hin (by have := h.args k hkl; dsimp only at this; exact inB_yes this.1 (by omega))
        clear hin
        go_wp2_with (go_at_call 45; refine (l1In_any _ _ _ _).mono ?_; rintro e w' ⟨rfl, rfl⟩; rw [hinf])
        go_ret
        exact ⟨ret_bool H.out.symm, Hbb.out⟩
    · obtain rfl : k = args.length := by omega
      have Hargs : Hid (∀ j, ∀ (hj : j < args.length), 0 ≤ args[j] ∧ args[j] < t.sizes.length) := fun j hj => hok2.out j hj hj
      clear hok2
      go_wp2
      go_loopw [55] (fun i wr => ∃ k : Nat, k ≤ table.length ∧ i = .int .i64 k ∧ Hid (Below wb.heap.size wb wr) ∧ Hid (∀ j, j < k → ∀ (hj : j < table.length), 0 ≤ table[j] ∧ table[j] < t.sizes.getD res.toNat 0)) (fun i _ => table.length - (intOf i).toNat)
      case atStart => exact ⟨0, Nat.zero_le _, rfl, Below.refl _ _, fun j hj => absurd hj (by omega)⟩
      case round =>
        obtain ⟨k, hk, rfl, hbr, hok2⟩ := hrel
        have q0 := (Hrt.out.below hbr.out Hrt.out.lt).cell 0
        have q1 := (Hrt.out.below hbr.out Hrt.out.lt).cell 1
        have p1 := (Hrf.out.below hbr.out Hrf.out.lt).cell 1
        have p2 := (Hrf.out.below hbr.out Hrf.out.lt).cell 2
        have p3 := (Hrf.out.below hbr.out Hrf.out.lt).cell 3
        simp only [List.getElem?_cons_zero, List.getElem?_cons_succ] at q0 q1 p1 p2 p3
        have hsr := hbr.out.size
        have HbW : Hid (Below w.heap.size w wr) := Hbb.out.trans (hbr.out.mono Hsz.out)
        have HTr := Lib.hid (HT.out.below hbr.out (by have := Hsz.out; omega))
        have Har := Lib.hid (Ha.out.below hbr.out (by have := Hsz.out; omega))
        have Htr := Lib.hid (Ht.out.below hbr.out (by have := Hsz.out; omega))
        have hBr : hi ≤ wr.heap.size := by have := Hsz.out; omega
        have hBr' : hi' ≤ wr.heap.size := by have := Hsz.out; omega
        by_cases hkl : k < table.length
        · obtain ⟨b3, off3, rfl, _, _, e0, _⟩ := Htr.out.at_ hkl
          have hev : hasV0 t.sizes res table[k] = true ↔ 0 ≤ table[k] ∧ table[k] < t.sizes.getD res.toNat 0 := by
            unfold hasV0
            rw [ixB_yes hres.1 (by omega), Bool.true_and]
            simp [ixB]
          by_cases hin : hasV0 t.sizes res table[k] = true
          · have hin' := Lib.hid (hev.1 hin)
            clear hev
            go_wp2_with (go_at_call 68; refine (l1Has_any lo hi _ _ t res table[k] _ HTr.out hBr hok).mono ?_; rintro e w' ⟨rfl, hbx⟩; rw [hin])
            go_roundw
            case rel =>
              refine ⟨k + 1, by omega, by go_num, hbr.out.trans (hbx.mono hsr), fun j hj hjl => ?_⟩
              by_cases ej : j = k
              · subst ej; exact hin'.out
              · exact hok2.out j (by omega) hjl
            case measure => simp [intOf]; omega
          · have hinf : hasV0 t.sizes res table[k] = false := by simpa using hin
            have H : Hid (fuB t.sizes ⟨⟨#[b]⟩, args, res, table⟩ = false) := fuB_no fun h => hin (hev.2 (h.table k hkl))
            clear hin hev
            go_wp2_with (go_at_call 68; refine (l1Has_any lo hi _ _ t res table[k] _ HTr.out hBr hok).mono ?_; rintro e w' ⟨rfl, hbx⟩; rw [hinf])
            go_ret
            exact ⟨ret_bool H.out.symm, HbW.out.trans (hbx.mono HbW.out.size)⟩
        · obtain rfl : k = table.length := by omega
          have H : Hid (fuB t.sizes ⟨⟨#[b]⟩, args, res, table⟩ = ((table.length : Int) == cellsI t.sizes args)) := by
            show _ = _
            rw [Bool.eq_iff_iff, fuB_iff, beq_iff_eq]
            exact ⟨fun h => h.len, fun h => ⟨nameOk_byte.2 C1.out, C2.out, Hargs.out, ⟨hres.1, by dsimp only; omega⟩, h, fun j hj => hok2.out j hj hj⟩⟩
          have k0 : ∀ z : InC (Below wr.heap.size wr), z.val.cell? ⟨w.heap.size, 0, none⟩ = some (.slice A t.sizes.length cap) := fun z => (z.inD.cell (p := ⟨w.heap.size, 0, none⟩) (by dsimp only; omega)).trans q0
          have k1 : ∀ z : InC (Below wr.heap.size wr), z.val.cell? ⟨w.heap.size, 1, none⟩ = some (.slice B t.cos.length bap) := fun z => (z.inD.cell (p := ⟨w.heap.size, 1, none⟩) (by dsimp only; omega)).trans q1
          have k2 : ∀ z : InC (Below wr.heap.size wr), z.val.cell? ⟨w.heap.size + 1, 1, none⟩ = some (.slice A1 args.length cap1) := fun z => (z.inD.cell (p := ⟨w.heap.size + 1, 1, none⟩) (by dsimp only; omega)).trans p1
          have k3 : ∀ z : InC (Below wr.heap.size wr), z.val.cell? ⟨w.heap.size + 1, 3, none⟩ = some (.slice A2 table.length cap2) := fun z => (z.inD.cell (p := ⟨w.heap.size + 1, 3, none⟩) (by dsimp only; omega)).trans p3
          have hne : Nonempty (InC (Below wr.heap.size wr)) := ⟨⟨wr, Below.refl _ _⟩⟩
          clear hok2 q0 q1 p1 p2 p3
          go_wp2_with fail
          refine wp_region_class (Below wr.heap.size wr) (by kernel_rfl) (by kernel_rfl) ((Below.refl _ _).drew) ?_
          repeat (go_big_quiet_step ((go_at_call 129; rename_i z; exact (l4Cells_any lo hi lo' hi' _ _ _ t args z.val (HTr.out.below z.inD hBr) (Har.out.below z.inD hBr') (by have := z.inD.size; omega) (by have := z.inD.size; omega) hok Hargs.out C2.out).mono fun e w' ⟨he, hb2⟩ => ⟨he, ⟨_, z.inD.trans (hb2.mono z.inD.size)⟩, rfl⟩)))
          refine wpQuiet_nil ?_
          intro _ hw'
          obtain ⟨⟨wz, hbz⟩, rfl⟩ := hw'
          have Hbz := Lib.hid (HbW.out.trans (hbz.mono HbW.out.size))
          clear hbz
          go_wp2
          go_ret
          exact ⟨ret_bool H.out.symm, Hbz.out⟩
end Go.Proofs.YtgkfddhhkjblgaaGreatDoor

namespace Go.Proofs.YtgkfddhhkjblgaaGreatDoor
open Go.RowKit

theorem same_pre {xs ys : List Int} (hl : xs.length = ys.length) (h : ∀ k, ∀ (h1 : k < xs.length) (h2 : k < ys.length), xs[k] = ys[k]) : xs = ys := List.ext_getElem hl h

set_option maxRecDepth 100000 in
set_option maxHeartbeats 2000000 in
theorem l3Same_any (lo hi lo2 hi2 : Nat) (xv yv : Value) (xs ys : List Int) (w : World) (hx : IntsAt w lo hi xv xs) (hy : IntsAt w lo2 hi2 yv ys) (hB : hi ≤ w.heap.size) (hB2 : hi2 ≤ w.heap.size) :
    Calls Tryz.prog 105 #[xv, yv] w fun e w' => e = .returned (.bool (decide (xs = ys))) ∧ Below w.heap.size w w' := by
  obtain ⟨X, xap, rfl, hlx, hmx, hx1⟩ := hx.form
  obtain ⟨Y, yap, rfl, hly, hmy, hy1⟩ := hy.form
  unfold maxLen at hmx hmy
  have Hx := Lib.hid hx1
  have Hy := Lib.hid hy1
  clear hx hy hx1 hy1
  go_enter Tryz.func105, Tryz.ntmps105
  go_wp2
  · go_loopw [11] (fun i wr => ∃ j : Nat, j ≤ ys.length ∧ i = .int .i64 j ∧ Hid (Below w.heap.size w wr) ∧ Hid (∀ k, ∀ (h1 : k < xs.length) (h2 : k < ys.length), k < j → xs[k] = ys[k])) (fun i _ => ys.length - (intOf i).toNat)
    case atStart => exact ⟨0, Nat.zero_le _, rfl, Below.refl _ _, fun k _ _ h => absurd h (by omega)⟩
    case round =>
      obtain ⟨j, hj, rfl, hb, hpre⟩ := hrel
      by_cases hlt : j < ys.length
      · obtain ⟨b, off, rfl, _, _, c0, _⟩ := (Hx.out.below hb.out hB).at_ (k := j) (by omega)
        obtain ⟨b', off', rfl, _, _, c0', _⟩ := (Hy.out.below hb.out hB2).at_ (k := j) (by omega)
        have hi1 : (j : Int) < (xs.length : Int) := by omega
        have hi2' : (j : Int) < (ys.length : Int) := by omega
        by_cases he : xs[j] = ys[j]
        · have htest : (xs[j] != ys[j]) = false := by simpa using he
          have hpre2 : Hid (∀ k, ∀ (h1 : k < xs.length) (h2 : k < ys.length), k < j + 1 → xs[k] = ys[k]) := fun k h1 h2 h => by
            by_cases e : k = j
            · subst e; exact he
            · exact hpre.out k h1 h2 (by omega)
          clear he
          go_wp2
          go_quiet (fail)
          go_wp2
          go_roundw
          case rel => exact ⟨j + 1, by omega, by go_num, below_drewN hb.out _, hpre2⟩
          case measure => simp [intOf]; omega
        · have htest : (xs[j] != ys[j]) = true := by simpa using he
          have hno : Hid (decide (xs = ys) = false) := by show _ = _; exact decide_eq_false fun e => he (by subst e; rfl)
          clear he
          go_wp2
          go_quiet (fail)
          go_wp2
          go_ret
          exact ⟨ret_bool hno.out.symm, below_drewN hb.out _⟩
      · obtain rfl : j = ys.length := by omega
        go_wp2
        go_ret
        refine ⟨ret_bool ?_, hb.out⟩
        rw [Bool.eq_iff_iff, beq_iff_eq, decide_eq_true_eq]
        constructor
        · intro e
          exact same_pre (by omega) fun k h1 h2 => hpre.out k h1 h2 (by omega)
        · rintro rfl
          rfl
  · go_loopw [11] (fun i wr => ∃ j : Nat, j ≤ xs.length ∧ i = .int .i64 j ∧ Hid (Below w.heap.size w wr) ∧ Hid (∀ k, ∀ (h1 : k < xs.length) (h2 : k < ys.length), k < j → xs[k] = ys[k])) (fun i _ => xs.length - (intOf i).toNat)
    case atStart => exact ⟨0, Nat.zero_le _, rfl, Below.refl _ _, fun k _ _ h => absurd h (by omega)⟩
    case round =>
      obtain ⟨j, hj, rfl, hb, hpre⟩ := hrel
      by_cases hlt : j < xs.length
      · obtain ⟨b, off, rfl, _, _, c0, _⟩ := (Hx.out.below hb.out hB).at_ (k := j) (by omega)
        obtain ⟨b', off', rfl, _, _, c0', _⟩ := (Hy.out.below hb.out hB2).at_ (k := j) (by omega)
        have hi1 : (j : Int) < (xs.length : Int) := by omega
        have hi2' : (j : Int) < (ys.length : Int) := by omega
        by_cases he : xs[j] = ys[j]
        · have htest : (xs[j] != ys[j]) = false := by simpa using he
          have hpre2 : Hid (∀ k, ∀ (h1 : k < xs.length) (h2 : k < ys.length), k < j + 1 → xs[k] = ys[k]) := fun k h1 h2 h => by
            by_cases e : k = j
            · subst e; exact he
            · exact hpre.out k h1 h2 (by omega)
          clear he
          go_wp2
          go_quiet (fail)
          go_wp2
          go_roundw
          case rel => exact ⟨j + 1, by omega, by go_num, below_drewN hb.out _, hpre2⟩
          case measure => simp [intOf]; omega
        · have htest : (xs[j] != ys[j]) = true := by simpa using he
          have hno : Hid (decide (xs = ys) = false) := by show _ = _; exact decide_eq_false fun e => he (by subst e; rfl)
          clear he
          go_wp2
          go_quiet (fail)
          go_wp2
          go_ret
          exact ⟨ret_bool hno.out.symm, below_drewN hb.out _⟩
      · obtain rfl : j = xs.length := by omega
        go_wp2
        go_ret
        refine ⟨ret_bool ?_, hb.out⟩
        rw [Bool.eq_iff_iff, beq_iff_eq, decide_eq_true_eq]
        constructor
        · intro e
          exact same_pre (by omega) fun k h1 h2 => hpre.out k h1 h2 (by omega)
        · rintro rfl
          rfl
end Go.Proofs.YtgkfddhhkjblgaaGreatDoor

