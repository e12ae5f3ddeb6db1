/-
  Words for memory that the call itself made: a slice at the head of a row, coercions whose maps lie in rows of their own.
  The contracts of the functions that copy an argument into new memory.
  The contracts of the functions that copy a slice of numbers, and a coercion.
  What a list of coercions is while it is copied, and the contract of copyTypes.
  The contract of copyTypes.
-/
import Derived.Test.YtplpnammboofiaaJ1
import Derived.Test.YtplpnammboofiaaRows
import Derived.Outline
import Derived.Handy
import Derived.Deep.OwnRows
import Derived.Lib.SliceRun
import Derived.Laws.AppendOwnNone
import Derived.BigRegion
import Derived.Deep.RegionLaw
import Derived.Deep.AppendLies
import Derived.Deep.DeepCutAuto
namespace Go.Proofs.Ytplpnammboofiaa
open Go.RowKit

theorem Kept.refl (S : Nat → Prop) (w : World) : Kept S w w := ⟨rfl, rfl, rfl, Nat.le_refl _, fun _ _ _ => rfl⟩
theorem Kept.weak {S S' : Nat → Prop} {w w' : World} (h : Kept S w w') (hs : ∀ k, S' k → S k) : Kept S' w w' := ⟨h.os, h.tape, h.output, h.size, fun k hk hS => h.block k hk (hs k hS)⟩
theorem Kept.setCell {S : Nat → Prop} {w w' : World} (h : Kept S w w') {p : Addr} (hp : ¬ S p.block) (u : Value) : Kept S w (w'.setCell p u) :=
  ⟨h.os, h.tape, h.output, by simpa [World.setCell] using h.size, fun k hk hS => (Below.heap_setCell w' p u k (fun e => hp (e ▸ hS))).trans (h.block k hk hS)⟩
theorem Kept.alloc {S : Nat → Prop} {w w' : World} (h : Kept S w w') (o : Obj) : Kept S w (w'.alloc o) :=
  ⟨h.os, h.tape, h.output, by have := h.size; simp; omega, fun k hk hS => (Below.heap_alloc w' o k (by have := h.size; omega)).trans (h.block k hk hS)⟩
theorem Kept.drew {S : Nat → Prop} {w w' : World} (h : Kept S w w') : Kept S w w'.drew := ⟨h.os, h.tape, h.output, h.size, h.block⟩
theorem Kept.new {S : Nat → Prop} {w w' w'' : World} (h : Kept S w w') (hb : Below w'.heap.size w' w'') : Kept S w w'' :=
  ⟨hb.os.trans h.os, hb.tape.trans h.tape, hb.output.trans h.output, Nat.le_trans h.size hb.size, fun k hk hS => (hb.block k (by have := h.size; omega)).trans (h.block k hk hS)⟩
theorem Kept.below {S : Nat → Prop} {w w' : World} {B : Nat} (h : Kept S w w') (hB : B ≤ w.heap.size) (hS : ∀ k, k < B → S k) : Below B w w' :=
  ⟨h.os, h.tape, h.output, h.size, fun k hk => h.block k (by omega) (hS k hk)⟩

/-- The numbers from k on, n of them. -/
def markL (k : Int) (n : Nat) : List Int := (List.range n).map fun i : Nat => k + (i : Int)
theorem markL_len (k : Int) (n : Nat) : (markL k n).length = n := by simp [markL]
theorem markL_get (k : Int) (n i : Nat) (h : i < (markL k n).length) : (markL k n)[i] = k + (i : Int) := by simp [markL]
theorem markL_succ (k : Int) (n : Nat) : markL k (n + 1) = markL k n ++ [k + (n : Int)] := by simp [markL, List.range_succ]

/-- The slice v of n cells begins at the head of block g, if it is not empty; its cells are xs. -/
def SlAt (w : World) (t : TypeId) (g : Nat) (v : Value) (n : Nat) (xs : List Value) : Prop :=
  ∃ (A : Option Addr) (cap : Nat), v = .slice A n cap ∧ n ≤ cap ∧ cap ≤ maxLen ∧ (n = 0 → xs = []) ∧ (0 < n → A = some ⟨g, 0, none⟩ ∧ ∃ rest, Row w g t (xs ++ rest))
def OwnI (w : World) (t : TypeId) (g : Nat) (v : Value) (zs : List Int) : Prop := SlAt w t g v zs.length (zs.map (Value.int .i64))

section
variable {w w' : World} {t : TypeId} {g n : Nat} {v : Value} {xs : List Value} {zs : List Int}
theorem SlAt.keep (h : SlAt w t g v n xs) (hk : 0 < n → w'.heap[g]? = w.heap[g]?) : SlAt w' t g v n xs := by
  obtain ⟨A, cap, e, h1, h2, h3, h4⟩ := h
  refine ⟨A, cap, e, h1, h2, h3, fun h0 => ?_⟩
  obtain ⟨hA, rest, hr⟩ := h4 h0
  exact ⟨hA, rest, hr.keep (hk h0)⟩
theorem SlAt.lt (h : SlAt w t g v n xs) (hn : 0 < n) : g < w.heap.size := by
  obtain ⟨A, cap, e, h1, h2, h3, h4⟩ := h
  exact (h4 hn).2.choose_spec.lt
theorem OwnI.ints {lo hi : Nat} (h : OwnI w t g v zs) (hw : ∀ z ∈ zs, I64 z) (hg : 0 < zs.length → lo ≤ g ∧ g < hi) : IntsAt w lo hi v zs := by
  obtain ⟨A, cap, e, h1, h2, h3, h4⟩ := h
  refine ⟨A, cap, e, h1, h2, hw, fun h0 => ?_⟩
  obtain ⟨rfl, rest, hr⟩ := h4 h0
  refine ⟨g, 0, rfl, (hg h0).1, (hg h0).2, fun k hk => ?_⟩
  rw [Nat.zero_add, hr.cell, List.getElem?_append_left (by simpa using hk), List.getElem?_map, List.getElem?_eq_getElem hk, List.getD_eq_getElem?_getD, List.getElem?_eq_getElem hk]
  rfl
theorem Row.own {cap : Nat} (h : Row w g t (zs.map (Value.int .i64))) (hc : zs.length ≤ cap) (hm : cap ≤ maxLen) : OwnI w t g (.slice (some ⟨g, 0, none⟩) zs.length cap) zs :=
  ⟨_, _, rfl, hc, hm, fun e => by simp [List.eq_nil_of_length_eq_zero e], fun _ => ⟨rfl, [], by simpa using h⟩⟩

/-- From the library's word for a row of the call's own. -/
theorem OwnI.of_owns {base : Nat} (h : w.ownsRow base t 1 v zs.length (zs.map (Value.int .i64))) : ∃ g, OwnI w t g v zs ∧ (0 < zs.length → base ≤ g ∧ g < w.heap.size) := by
  obtain ⟨h1, ⟨rfl, hn⟩ | ⟨g, cap, cur, rfl, hb, hh, hc, hm, hsz, htk⟩⟩ := h
  · refine ⟨0, ⟨none, 0, by rw [hn], by omega, Nat.zero_le _, fun e => by simp [List.eq_nil_of_length_eq_zero e], fun h0 => absurd h0 (by omega)⟩, fun h0 => absurd h0 (by omega)⟩
  · have hr : Row w g t ((zs.map (Value.int .i64)) ++ cur.toList.drop zs.length) := by
      rw [← htk, Nat.mul_one, List.take_append_drop]
      simpa [Row] using hh
    exact ⟨g, ⟨_, _, rfl, hc, hm, fun e => by simp [List.eq_nil_of_length_eq_zero e], fun _ => ⟨rfl, _, hr⟩⟩, fun _ => ⟨hb, hr.lt⟩⟩
end

theorem remark_step (f : Nat → Value) (xs : List Value) (j : Nat) (h : j < xs.length) : ((List.range j).map f ++ xs.drop j).set j (f j) = (List.range (j + 1)).map f ++ xs.drop (j + 1) := by
  have hl : ((List.range j).map f).length = j := by simp
  rw [List.set_append_right _ _ (by omega), hl, Nat.sub_self, List.drop_eq_getElem_cons h, List.set_cons_zero, List.range_succ, List.map_append, List.append_assoc]
  rfl

/-- How many numbers the maps of the first i coercions hold. -/
def lenSum (f : Nat → Co) : Nat → Nat
  | 0 => 0
  | i + 1 => lenSum f i + (f i).map.length
theorem lenSum_mono (f : Nat → Co) {i j : Nat} (h : i ≤ j) : lenSum f i ≤ lenSum f j := by
  induction j with
  | zero => obtain rfl : i = 0 := by omega
            exact Nat.le_refl _
  | succ j ih =>
    by_cases e : i = j + 1
    · rw [e]; exact Nat.le_refl _
    · have := ih (by omega)
      show _ ≤ lenSum f j + _
      omega

/-- Coercions in memory of the call's own: the slice cv at the head of block gc, the i-th map the slice mv i at the head of block m i. -/
def OwnCos (w : World) (ti tc : TypeId) (gc : Nat) (m : Nat → Nat) (mv : Nat → Value) (cv : Value) (n : Nat) (f : Nat → Co) : Prop :=
  ∃ xs : List Value, SlAt w tc gc cv n xs ∧ xs.length = n * 3 ∧
    (∀ i, i < n → xs[i * 3]? = some (.int .i64 (f i).src) ∧ xs[i * 3 + 1]? = some (.int .i64 (f i).dst) ∧ xs[i * 3 + 2]? = some (mv i)) ∧ ∀ i, i < n → OwnI w ti (m i) (mv i) (f i).map
/-- The maps' blocks are apart, and none is the coercions' own. -/
def Apart (gc : Nat) (m : Nat → Nat) (n : Nat) (f : Nat → Co) : Prop :=
  ∀ i, i < n → 0 < (f i).map.length → m i ≠ gc ∧ ∀ j, j < n → j ≠ i → 0 < (f j).map.length → m j ≠ m i

def markAt (f : Nat → Co) (k0 : Int) (i : Nat) : Int := k0 + 2 * (i : Int) + (lenSum f i : Int)
def markCo (f : Nat → Co) (k0 : Int) (i : Nat) : Co := ⟨markAt f k0 i, markAt f k0 i + 1, markL (markAt f k0 i + 2) (f i).map.length⟩
def mixCo (f : Nat → Co) (k0 : Int) (j i : Nat) : Co := if i < j then markCo f k0 i else f i
theorem mixCo_len (f : Nat → Co) (k0 : Int) (j i : Nat) : (mixCo f k0 j i).map.length = (f i).map.length := by
  unfold mixCo
  split
  · simp [markCo, markL_len]
  · rfl
theorem markAt_succ (f : Nat → Co) (k0 : Int) (i : Nat) : markAt f k0 (i + 1) = markAt f k0 i + 2 + ((f i).map.length : Int) := by
  unfold markAt
  show k0 + 2 * ((i + 1 : Nat) : Int) + ((lenSum f i + (f i).map.length : Nat) : Int) = _
  omega

/-- One coercion more is marked. -/
theorem OwnCos.step {w1 : World} {ti tc : TypeId} {gc n j : Nat} {m : Nat → Nat} {mv : Nat → Value} {cv : Value} {f : Nat → Co} {k0 : Int} {xs rest : List Value} {A : Option Addr} {cap : Nat}
    (hcv : cv = .slice A n cap) (hc : n ≤ cap) (hm : cap ≤ maxLen) (hA : A = some ⟨gc, 0, none⟩) (hj : j < n) (hx : xs.length = n * 3)
    (hf : ∀ i, i < n → xs[i * 3]? = some (.int .i64 (mixCo f k0 j i).src) ∧ xs[i * 3 + 1]? = some (.int .i64 (mixCo f k0 j i).dst) ∧ xs[i * 3 + 2]? = some (mv i))
    (hr : Row w1 gc tc (((xs.set (j * 3) (.int .i64 (markAt f k0 j))).set (j * 3 + 1) (.int .i64 (markAt f k0 j + 1))) ++ rest))
    (hms : ∀ i, i < n → i ≠ j → OwnI w1 ti (m i) (mv i) (mixCo f k0 j i).map) (hmj : OwnI w1 ti (m j) (mv j) (markL (markAt f k0 j + 2) (f j).map.length)) :
    OwnCos w1 ti tc gc m mv cv n (mixCo f k0 (j + 1)) := by
  refine ⟨(xs.set (j * 3) (.int .i64 (markAt f k0 j))).set (j * 3 + 1) (.int .i64 (markAt f k0 j + 1)), ⟨A, cap, hcv, hc, hm, fun h => absurd h (by omega), fun _ => ⟨hA, rest, hr⟩⟩, by simp [hx], fun i hi => ?_, fun i hi => ?_⟩
  · obtain ⟨a, b, c⟩ := hf i hi
    by_cases e : i = j
    · subst e
      have e1 : mixCo f k0 (i + 1) i = markCo f k0 i := by unfold mixCo; rw [if_pos (by omega)]
      rw [e1]
      refine ⟨?_, ?_, ?_⟩
      · rw [List.getElem?_set_ne (by omega), List.getElem?_set_self (by omega)]; rfl
      · rw [List.getElem?_set_self (by simp; omega)]; rfl
      · rw [List.getElem?_set_ne (by omega), List.getElem?_set_ne (by omega), c]
    · have e1 : mixCo f k0 (j + 1) i = mixCo f k0 j i := by
        unfold mixCo
        by_cases h : i < j
        · rw [if_pos h, if_pos (by omega)]
        · rw [if_neg h, if_neg (by omega)]
      rw [e1]
      refine ⟨?_, ?_, ?_⟩
      · rw [List.getElem?_set_ne (by omega), List.getElem?_set_ne (by omega), a]
      · rw [List.getElem?_set_ne (by omega), List.getElem?_set_ne (by omega), b]
      · rw [List.getElem?_set_ne (by omega), List.getElem?_set_ne (by omega), c]
  · by_cases e : i = j
    · subst e
      have e1 : mixCo f k0 (i + 1) i = markCo f k0 i := by unfold mixCo; rw [if_pos (by omega)]
      rw [e1]
      exact hmj
    · have e1 : mixCo f k0 (j + 1) i = mixCo f k0 j i := by
        unfold mixCo
        by_cases h : i < j
        · rw [if_pos h, if_pos (by omega)]
        · rw [if_neg h, if_neg (by omega)]
      rw [e1]
      exact hms i hi e

theorem OwnCos.keep {w w' : World} {ti tc : TypeId} {gc n : Nat} {m : Nat → Nat} {mv : Nat → Value} {cv : Value} {f : Nat → Co} (h : OwnCos w ti tc gc m mv cv n f) (hk : 0 < n → w'.heap[gc]? = w.heap[gc]?)
    (hm : ∀ i, i < n → 0 < (f i).map.length → w'.heap[m i]? = w.heap[m i]?) : OwnCos w' ti tc gc m mv cv n f := by
  obtain ⟨xs, h1, h2, h3, h4⟩ := h
  exact ⟨xs, h1.keep hk, h2, h3, fun i hi => (h4 i hi).keep (hm i hi)⟩
theorem OwnCos.lt {w : World} {ti tc : TypeId} {gc n : Nat} {m : Nat → Nat} {mv : Nat → Value} {cv : Value} {f : Nat → Co} (h : OwnCos w ti tc gc m mv cv n f) :
    (0 < n → gc < w.heap.size) ∧ ∀ i, i < n → 0 < (f i).map.length → m i < w.heap.size := by
  obtain ⟨xs, h1, h2, h3, h4⟩ := h
  exact ⟨fun h0 => h1.lt h0, fun i hi h0 => (h4 i hi).lt h0⟩
/-- What lies in memory of the call's own reads as coercions. -/
theorem OwnCos.cosAt {w : World} {ti tc : TypeId} {gc n lo hi : Nat} {m : Nat → Nat} {mv : Nat → Value} {cv : Value} {f : Nat → Co} (h : OwnCos w ti tc gc m mv cv n f)
    (hw : ∀ i, i < n → I64 (f i).src ∧ I64 (f i).dst ∧ ∀ z ∈ (f i).map, I64 z) (hg : 0 < n → lo ≤ gc ∧ gc < hi) (hm : ∀ i, i < n → 0 < (f i).map.length → lo ≤ m i ∧ m i < hi) : CosAt w lo hi cv ((List.range n).map f) := by
  obtain ⟨xs, ⟨A, cap, rfl, hc, hcm, _, hrow⟩, hx, hcells, hmaps⟩ := h
  have e : ((List.range n).map f).length = n := by simp
  refine ⟨A, cap, by rw [e], by rw [e]; exact hc, hcm, fun h0 => ?_⟩
  rw [e] at h0
  obtain ⟨rfl, rest, hr⟩ := hrow h0
  refine ⟨gc, 0, rfl, (hg h0).1, (hg h0).2, fun k hk => ?_⟩
  rw [e] at hk
  obtain ⟨a, b, c⟩ := hcells k hk
  obtain ⟨w1, w2, w3⟩ := hw k hk
  rw [List.getD_eq_getElem?_getD, List.getElem?_eq_getElem (by rw [e]; exact hk)]
  simp only [List.getElem_map, List.getElem_range, Option.getD_some]
  refine ⟨_, _, _, ?_, ?_, ?_, rfl, rfl, w1, w2, (hmaps k hk).ints w3 (hm k hk)⟩
  · rw [Nat.zero_add, hr.cell, List.getElem?_append_left (by omega), a]
  · rw [Nat.zero_add, hr.cell, List.getElem?_append_left (by omega), b]
  · rw [Nat.zero_add, hr.cell, List.getElem?_append_left (by omega), c]

/-- Types in memory of the call's own. -/
structure OwnTy (w : World) (ti tc : TypeId) (gs gc : Nat) (m : Nat → Nat) (mv : Nat → Value) (sv cv : Value) (ss : List Int) (n : Nat) (f : Nat → Co) : Prop where
  sizes : OwnI w ti gs sv ss
  cos : OwnCos w ti tc gc m mv cv n f
  apart : Apart gc m n f
  away : 0 < ss.length → (gs ≠ gc ∧ ∀ i, i < n → 0 < (f i).map.length → gs ≠ m i)
/-- The blocks of such types. -/
def OwnTy.uses (gs gc : Nat) (m : Nat → Nat) (ss : List Int) (n : Nat) (f : Nat → Co) (k : Nat) : Prop := (0 < ss.length ∧ k = gs) ∨ (0 < n ∧ k = gc) ∨ ∃ i, i < n ∧ 0 < (f i).map.length ∧ k = m i
theorem Apart.mix {gc n : Nat} {m : Nat → Nat} {f : Nat → Co} (h : Apart gc m n f) (k0 : Int) (j : Nat) : Apart gc m n (mixCo f k0 j) := by
  intro i hi hl
  rw [mixCo_len] at hl
  exact ⟨(h i hi hl).1, fun j' hj' hne hl' => (h i hi hl).2 j' hj' hne (by rw [mixCo_len] at hl'; exact hl')⟩
theorem OwnTy.keep {w w' : World} {ti tc : TypeId} {gs gc n : Nat} {m : Nat → Nat} {mv : Nat → Value} {sv cv : Value} {ss : List Int} {f : Nat → Co} (h : OwnTy w ti tc gs gc m mv sv cv ss n f)
    (hk : ∀ k, k < w.heap.size → OwnTy.uses gs gc m ss n f k → w'.heap[k]? = w.heap[k]?) : OwnTy w' ti tc gs gc m mv sv cv ss n f :=
  ⟨h.sizes.keep fun h0 => hk gs (h.sizes.lt h0) (.inl ⟨h0, rfl⟩),
   h.cos.keep (fun h0 => hk gc (h.cos.lt.1 h0) (.inr (.inl ⟨h0, rfl⟩))) (fun i hi hl => hk _ (h.cos.lt.2 i hi hl) (.inr (.inr ⟨i, hi, hl, rfl⟩))), h.apart, h.away⟩
theorem OwnTy.tyAt {w : World} {ti tc : TypeId} {gs gc n lo hi : Nat} {m : Nat → Nat} {mv : Nat → Value} {sv cv : Value} {ss : List Int} {f : Nat → Co} (h : OwnTy w ti tc gs gc m mv sv cv ss n f)
    (hs : ∀ z ∈ ss, I64 z) (hw : ∀ i, i < n → I64 (f i).src ∧ I64 (f i).dst ∧ ∀ z ∈ (f i).map, I64 z) (hu : ∀ k, OwnTy.uses gs gc m ss n f k → lo ≤ k ∧ k < hi) : TyAt w lo hi sv cv ⟨ss, (List.range n).map f⟩ :=
  ⟨h.sizes.ints hs fun h0 => hu _ (.inl ⟨h0, rfl⟩), h.cos.cosAt hw (fun h0 => hu _ (.inr (.inl ⟨h0, rfl⟩))) fun i hi hl => hu _ (.inr (.inr ⟨i, hi, hl, rfl⟩))⟩
/-- Types as the copying lays them are such types. -/
theorem NewTy.own {w : World} {ti tc : TypeId} {g : Nat} {t : Ty} (h : NewTy w ti tc g t) (hb : t.bulk ≤ 1048576) :
    OwnTy w ti tc g (g + 1) (fun j => g + 1 + 1 + 4 * j + 3) (fun j => .slice (some ⟨g + 1 + 1 + 4 * j + 3, 0, none⟩) (t.cos.getD j default).map.length (t.cos.getD j default).map.length)
      (.slice (some ⟨g, 0, none⟩) t.sizes.length t.sizes.length) (.slice (some ⟨g + 1, 0, none⟩) t.cos.length t.cos.length) t.sizes t.cos.length (fun j => t.cos.getD j default) := by
  obtain ⟨h1, ⟨xs, h2, h3⟩, h4⟩ := h
  have hb' := hb
  unfold Ty.bulk at hb'
  refine ⟨h1.own (Nat.le_refl _) (by unfold maxLen; omega), ⟨xs, ⟨_, _, rfl, Nat.le_refl _, by unfold maxLen; omega, fun h0 => List.eq_nil_of_length_eq_zero (by rw [h3.1, h0]), fun _ => ⟨rfl, [], by simpa using h2⟩⟩, h3.1, fun i hi => ?_, fun i hi => ?_⟩,
    fun i hi _ => ⟨by omega, fun j hj hne _ => by omega⟩, fun _ => ⟨by omega, fun i hi _ => by omega⟩⟩
  · obtain ⟨a, b, c⟩ := h3.2 i hi hi
    have e : t.cos.getD i default = t.cos[i] := by rw [List.getD_eq_getElem?_getD, List.getElem?_eq_getElem hi]; rfl
    simp only [e]
    exact ⟨a, b, c⟩
  · have e : t.cos.getD i default = t.cos[i] := by rw [List.getD_eq_getElem?_getD, List.getElem?_eq_getElem hi]; rfl
    simp only [e]
    have := t.map_le i hi
    exact (h4 i hi).own (Nat.le_refl _) (by unfold maxLen; omega)
end Go.Proofs.Ytplpnammboofiaa

namespace Go.Proofs.Ytplpnammboofiaa
open Go.RowKit

theorem Try.infoInt : (Try.prog.info? 3).map (fun i => (i.zero, i.size, i.bytes)) = some (some (.int .i64 0), 1, 8) := by kernel_rfl

theorem infoCoercion : (Try.prog.info? 28).map (fun i => (i.zero, i.size, i.bytes)) = some (some (.agg #[.int .i64 0, .int .i64 0, .slice none 0 0]), 3, 40) := by kernel_rfl

theorem run_make_rows {P : Program} (t e : TypeId) (i : TypeInfo) (z : Value) (ht : P.underlying t = some (.slice e)) (hi : P.info? e = some i) (hz : i.zero = some z)
    (kl kc : IntKind) (n : Nat) (hbytes : i.bytes * n ≤ 281474976710656) (h63 : n ≤ 9223372036854775807) (w : World) :
    (Instr.makeSlice t (.int kl (n : Int)) (.int kc (n : Int))).run P w = .ok (.slice (some ⟨w.heap.size, 0, none⟩) n n) (w.alloc (.cells (madeCells z.cells (n * i.size)) e)) := by
  have hb : (i.bytes : Int) * (n : Int) ≤ 281474976710656 := by
    have h : ((i.bytes * n : Nat) : Int) ≤ 281474976710656 := by omega
    rwa [Int.natCast_mul] at h
  have hr := run_make (P := P) w t e i z ht hi hz kl kc n n (by omega) (by omega) hb (by omega)
  simp only [Int.toNat_natCast] at hr
  exact hr

end Go.Proofs.Ytplpnammboofiaa

namespace Go.Proofs.Ytplpnammboofiaa
open Go.RowKit

/-- A value that owns a copy of these numbers. -/
def Cloned (base : Nat) (zs : List Int) (w : World) (e : Ending) (w' : World) : Prop := ∃ v, e = .returned v ∧ Below base w w' ∧ w'.ownsRow base 3 1 v zs.length (zs.map (Value.int .i64))

theorem ints_oneCell' (zs : List Int) : ∀ u ∈ zs.map (Value.int .i64), u.oneCell' = true := by
  intro u hu
  obtain ⟨z, _, rfl⟩ := List.mem_map.1 hu
  rfl
theorem IntsAt.cells {w : World} {lo hi cap n : Nat} {ad : Addr} {zs : List Int} (h : IntsAt w lo hi (.slice (some ad) n cap) zs) : ∀ j u, (zs.map (Value.int .i64))[j]? = some u → w.cell? (ad.add j) = some u := by
  intro j u hj
  have hjl : j < zs.length := by
    have := (List.getElem?_eq_some_iff.1 hj).1
    simpa using this
  obtain ⟨b, off, e, _, _, hc, _⟩ := h.at_ hjl
  injection e with e
  subst e
  rw [Go.WideShapes.add_plain, hc]
  rw [List.getElem?_map, List.getElem?_eq_getElem hjl] at hj
  simpa using hj

set_option maxRecDepth 100000 in
set_option maxHeartbeats 1000000 in
theorem clone_any (lo hi : Nat) (v : Value) (zs : List Int) (w : World) (hv : IntsAt w lo hi v zs) (hB : hi ≤ w.heap.size) (hlen : zs.length ≤ 1048576) :
    Calls Try.prog 76 #[v] w (Cloned w.heap.size zs w) := by
  obtain ⟨A, cap, rfl, hl, hm, hz⟩ := hv.form
  obtain ⟨i0, hi0, hz0, hz1, hz2⟩ := info_parts Try.infoInt
  have heq := fun wx => Lib.run_eql_slice_nil (P := Try.prog) wx 23 3 A zs.length cap 0 0 Try.underlying23
  rcases A with _ | ad
  · have hn : zs = [] := by
      rcases zs with _ | ⟨z, zs⟩
      · rfl
      · obtain ⟨b, off, e, _⟩ := hz.at_ (k := 0) (by simp)
        cases e
    subst hn
    clear hz hv
    simp only [Option.isNone_none, List.length_nil] at heq
    go_enter Try.func76, Try.ntmps76
    go_wp2
    go_ret
    exact ⟨_, rfl, Below.refl _ _, World.ownsRow_nil _ _ _ _⟩
  · have h0 := World.ownsRow_lit (base := w.heap.size) (e := 3) (size := 1) w #[] 0 (Nat.le_refl _) (by unfold maxLen; omega) rfl
    have hb0 : Below w.heap.size w (w.alloc (.cells #[] 3)) := by go_grown
    have H0 := Lib.hid h0
    have Hc := Lib.hid (hz.below hb0 hB).cells
    have Hb0 := Lib.hid hb0
    clear h0 hz hv hb0
    go_enter Try.func76, Try.ntmps76
    go_wp2_with (at_builtin; refine wpList_append_own _ rfl (.tmp 5) (.tmp 6) 23 rfl w.heap.size 3 i0 (.int .i64 0) 1 8 Try.underlying23 hi0 hz0 hz1 hz2 rfl (by decide) _ _ _ rfl H0.out ad zs.length cap (zs.map (Value.int .i64)) rfl (by simp) Hc.out (ints_oneCell' zs) (by unfold maxLen; omega) (by omega) (by simp) ?_; intro v' w2 hown2 hgrow _)
    go_ret
    refine ⟨_, rfl, Hb0.out.grown hgrow (by simp) (fun k hk => ?_), ?_⟩
    · have h : (some w.heap.size : Option Nat) = some k := hk
      injection h with h
      omega
    · simpa using hown2

/-- The value of a coercion with a map of its own. -/
def Copied (base : Nat) (c : Co) (w : World) (e : Ending) (w' : World) : Prop := ∃ v, e = .returned (.agg #[.int .i64 c.src, .int .i64 c.dst, v]) ∧ Below base w w' ∧ w'.ownsRow base 3 1 v c.map.length (c.map.map (Value.int .i64))

theorem ownsRow_keep {w w' : World} {base : Nat} {t : TypeId} {size : Nat} {v : Value} {n : Nat} {xs : List Value} (h : w.ownsRow base t size v n xs) (hk : ∀ g, base ≤ g → g < w.heap.size → w'.heap[g]? = w.heap[g]?) : w'.ownsRow base t size v n xs := by
  obtain ⟨h1, h2 | ⟨g, cap, cur, e, hg, hh, r⟩⟩ := h
  · exact ⟨h1, .inl h2⟩
  · have hlt : g < w.heap.size := by
      rcases Nat.lt_or_ge g w.heap.size with hlt | hge
      · exact hlt
      · rw [Array.getElem?_eq_none hge] at hh; cases hh
    exact ⟨h1, .inr ⟨g, cap, cur, e, hg, (hk g hg hlt).trans hh, r⟩⟩
theorem ownsRow_lower {w : World} {base base' : Nat} {t : TypeId} {size : Nat} {v : Value} {n : Nat} {xs : List Value} (h : w.ownsRow base t size v n xs) (hb : base' ≤ base) : w.ownsRow base' t size v n xs := by
  obtain ⟨h1, h2 | ⟨g, cap, cur, e, hg, r⟩⟩ := h
  · exact ⟨h1, .inl h2⟩
  · exact ⟨h1, .inr ⟨g, cap, cur, e, by omega, r⟩⟩

set_option maxRecDepth 100000 in
set_option maxHeartbeats 1000000 in
theorem copied_any (lo hi : Nat) (x y z : Value) (c : Co) (w : World) (hv : CoAt w lo hi x y z c) (hB : hi ≤ w.heap.size) (hlen : c.map.length ≤ 1048576) :
    Calls Try.prog 40 #[.agg #[x, y, z]] w (Copied w.heap.size c w) := by
  obtain ⟨rfl, rfl, hs, hd, hz⟩ := hv
  obtain ⟨A, cap, rfl, _, _, hz⟩ := hz.form
  have h3 : Below w.heap.size w ((w.alloc (.cells #[.int .i64 c.src, .int .i64 c.dst, .slice A c.map.length cap] 28)).alloc (.cells #[.int .i64 0, .int .i64 0, .slice none 0 0] 28)) := by go_grown
  go_enter Try.func40, Try.ntmps40
  go_wp2_with fail
  refine (clone_any lo hi _ c.map _ (hz.below h3 hB) (by simp; omega) hlen).mono ?_
  rintro e w1 ⟨v, rfl, hb, hown⟩
  have hbel := Lib.hid (h3.trans (hb.mono (by simp; omega)))
  obtain ⟨hcl, hfr⟩ := bcell hb
  have hs1 := hb.size
  simp only [World.size_alloc] at hown hcl hfr hs1
  have hz1 : w.heap.size + 1 < w1.heap.size := by omega
  obtain ⟨u, hu, hup⟩ : ∃ u, v = u ∧ w1.ownsRow (w.heap.size + 1 + 1) 3 1 u c.map.length (c.map.map (Value.int .i64)) := ⟨v, rfl, hown⟩
  have hc2 : w1.cell? ⟨w.heap.size, 2, none⟩ = some (.slice A c.map.length cap) := by rw [hcl _ _ (by omega)]; simp [go_sem]
  have hc2' : ∀ u, (w1.setCell ⟨w.heap.size, 2, none⟩ u).cell? ⟨w.heap.size, 2, none⟩ = some u := fun u => World.cell?_setCell_same _ _ _ hc2
  have hd0 : w1.cell? ⟨w.heap.size + 1, 0, none⟩ = some (.int .i64 0) := by rw [hcl _ _ (by omega)]; simp [go_sem]
  have hd1 : w1.cell? ⟨w.heap.size + 1, 1, none⟩ = some (.int .i64 0) := by rw [hcl _ _ (by omega)]; simp [go_sem]
  have hd2 : w1.cell? ⟨w.heap.size + 1, 2, none⟩ = some (.slice none 0 0) := by rw [hcl _ _ (by omega)]; simp [go_sem]
  have Hown := Lib.hid hown
  clear hown hb hu hup h3
  obtain ⟨_, ⟨rfl, hn0⟩ | ⟨g, cap3, cur, rfl, hr⟩⟩ := Hown.out
  · clear hn0
    go_wp2
    refine bodyPost_ret (v := .agg #[.int .i64 c.src, .int .i64 c.dst, .slice none 0 0]) (by simp [results, Try.results40, go_sem, hd0, hd1, hd2]) rfl ?_
    refine ⟨_, rfl, ?_, ?_⟩
    · exact (((hbel.out.setCell (by dsimp only; omega) _).setCell (by dsimp only; omega) _).setCell (by dsimp only; omega) _).setCell (by dsimp only; omega) _
    · exact ownsRow_lower (ownsRow_keep Hown.out fun g hg hgl => (Below.heap_setCell _ _ _ _ (by dsimp only; omega)).trans ((Below.heap_setCell _ _ _ _ (by dsimp only; omega)).trans ((Below.heap_setCell _ _ _ _ (by dsimp only; omega)).trans (Below.heap_setCell _ _ _ _ (by dsimp only; omega))))) (by omega)
  · clear hr
    go_wp2
    refine bodyPost_ret (v := .agg #[.int .i64 c.src, .int .i64 c.dst, .slice (some ⟨g, 0, none⟩) c.map.length cap3]) (by simp [results, Try.results40, go_sem, hd0, hd1, hd2]) rfl ?_
    refine ⟨_, rfl, ?_, ?_⟩
    · exact (((hbel.out.setCell (by dsimp only; omega) _).setCell (by dsimp only; omega) _).setCell (by dsimp only; omega) _).setCell (by dsimp only; omega) _
    · exact ownsRow_lower (ownsRow_keep Hown.out fun g hg hgl => (Below.heap_setCell _ _ _ _ (by dsimp only; omega)).trans ((Below.heap_setCell _ _ _ _ (by dsimp only; omega)).trans ((Below.heap_setCell _ _ _ _ (by dsimp only; omega)).trans (Below.heap_setCell _ _ _ _ (by dsimp only; omega))))) (by omega)
end Go.Proofs.Ytplpnammboofiaa

namespace Go.Proofs.Ytplpnammboofiaa
open Go.RowKit

/-- The cells xs are k coercions f, whose maps lie in blocks of their own. -/
structure MapsOf (w : World) (base : Nat) (row : Option Nat) (f : Nat → Co) (k : Nat) (xs : List Value) (m : Nat → Nat) (mv : Nat → Value) : Prop where
  cells : ∀ i, i < k → xs[i * 3]? = some (.int .i64 (f i).src) ∧ xs[i * 3 + 1]? = some (.int .i64 (f i).dst) ∧ xs[i * 3 + 2]? = some (mv i)
  own : ∀ i, i < k → OwnI w 3 (m i) (mv i) (f i).map
  away : ∀ i, i < k → 0 < (f i).map.length → base ≤ m i ∧ m i < w.heap.size ∧ row ≠ some (m i) ∧ ∀ j, j < k → j ≠ i → 0 < (f j).map.length → m j ≠ m i

def CosOwned (w : World) (base : Nat) (l : Value) (f : Nat → Co) (k : Nat) : Prop :=
  ∃ xs m mv, w.ownsRow base 28 3 l k xs ∧ MapsOf w base l.ownBlock f k xs m mv

theorem MapsOf.keep {w w' : World} {base : Nat} {row : Option Nat} {f : Nat → Co} {k : Nat} {xs : List Value} {m : Nat → Nat} {mv : Nat → Value} (h : MapsOf w base row f k xs m mv)
    (hs : w.heap.size ≤ w'.heap.size) (hk : ∀ g, base ≤ g → g < w.heap.size → w'.heap[g]? = w.heap[g]?) : MapsOf w' base row f k xs m mv :=
  ⟨h.cells, fun i hi => (h.own i hi).keep fun h0 => hk _ (h.away i hi (by simpa using h0)).1 (h.away i hi (by simpa using h0)).2.1,
    fun i hi h0 => ⟨(h.away i hi h0).1, Nat.lt_of_lt_of_le (h.away i hi h0).2.1 hs, (h.away i hi h0).2.2⟩⟩
theorem CosOwned.keep {w w' : World} {base : Nat} {l : Value} {f : Nat → Co} {k : Nat} (h : CosOwned w base l f k)
    (hs : w.heap.size ≤ w'.heap.size) (hk : ∀ g, base ≤ g → g < w.heap.size → w'.heap[g]? = w.heap[g]?) : CosOwned w' base l f k := by
  obtain ⟨xs, m, mv, h1, h2⟩ := h
  exact ⟨xs, m, mv, ownsRow_keep h1 hk, h2.keep hs hk⟩
theorem CosOwned.nil (w : World) (base : Nat) (f : Nat → Co) : CosOwned w base (.slice none 0 0) f 0 :=
  ⟨[], fun _ => 0, fun _ => .slice none 0 0, World.ownsRow_nil _ _ _ _, fun i hi => absurd hi (by omega), fun i hi => absurd hi (by omega), fun i hi => absurd hi (by omega)⟩
theorem owns_lt {w : World} {base : Nat} {t : TypeId} {size : Nat} {v : Value} {n : Nat} {xs : List Value} (h : w.ownsRow base t size v n xs) : ∀ g, v.ownBlock = some g → base ≤ g ∧ g < w.heap.size := by
  intro g hg
  obtain ⟨_, ⟨rfl, _⟩ | ⟨g', cap, cur, rfl, hb, hh, _⟩⟩ := h
  · simp [Value.ownBlock] at hg
  · simp [Value.ownBlock] at hg
    subst hg
    refine ⟨hb, ?_⟩
    rcases Nat.lt_or_ge g' w.heap.size with hlt | hge
    · exact hlt
    · rw [Array.getElem?_eq_none hge] at hh; cases hh

theorem MapsOf.step {w w2 w3 : World} {base : Nat} {l : Value} {f : Nat → Co} {k : Nat} {xs : List Value} {m : Nat → Nat} {mv : Nat → Value} {v : Value} {g' : Nat}
    (h : MapsOf w base l.ownBlock f k xs m mv) (hl : xs.length = k * 3) (hb : base ≤ w.heap.size) (h12 : Below w.heap.size w w2)
    {bv : Nat} (hbv : w.heap.size ≤ bv) (hown : w2.ownsRow bv 3 1 v (f k).map.length ((f k).map.map (Value.int .i64))) (hlt : ∀ g, l.ownBlock = some g → g < w.heap.size)
    (hg : w2.grownBy w3 l.ownBlock) (hat : l.ownBlock = some g' ∨ g' = w2.heap.size) :
    ∃ m' mv', MapsOf w3 base (some g') f (k + 1) (xs ++ [.int .i64 (f k).src, .int .i64 (f k).dst, v]) m' mv' ∧ ∀ i, i < k + 1 → 0 < (f i).map.length → m' i < w.heap.size ∨ bv ≤ m' i := by
  obtain ⟨g, hog, hgb⟩ := OwnI.of_owns hown
  have hsz := h12.size
  have hsz3 := hg.size
  refine ⟨fun i => if i = k then g else m i, fun i => if i = k then v else mv i, ⟨fun i hi => ?_, fun i hi => ?_, fun i hi h0 => ?_⟩, fun i hi h0 => ?_⟩
  · by_cases e : i = k
    · subst e
      simp [hl]
    · rw [if_neg e]
      obtain ⟨a, b, c⟩ := h.cells i (by omega)
      rw [List.getElem?_append_left (by omega), List.getElem?_append_left (by omega), List.getElem?_append_left (by omega)]
      exact ⟨a, b, c⟩
  · by_cases e : i = k
    · subst e
      rw [if_pos rfl, if_pos rfl]
      refine hog.keep fun h0 => ?_
      have := hgb (by simpa using h0)
      exact hg.block _ this.2 (fun hc => by have := hlt _ hc.symm; omega)
    · rw [if_neg e, if_neg e]
      refine (h.own i (by omega)).keep fun h0 => ?_
      obtain ⟨a, b, c, _⟩ := h.away i (by omega) (by simpa using h0)
      exact (hg.block _ (by omega) (fun hc => c hc.symm)).trans (h12.block _ b)
  · by_cases e : i = k
    · subst e
      rw [if_pos rfl]
      have hgg := hgb h0
      refine ⟨by omega, by omega, ?_, fun j hj hne h1 => ?_⟩
      · intro hc
        injection hc with hc
        rcases hat with hat | hat
        · have := hlt _ hat; omega
        · omega
      · rw [if_neg hne]
        have := (h.away j (by omega) h1).2.1
        omega
    · rw [if_neg e]
      obtain ⟨a, b, c, d⟩ := h.away i (by omega) h0
      refine ⟨a, by omega, ?_, fun j hj hne h1 => ?_⟩
      · intro hc
        injection hc with hc
        rcases hat with hat | hat
        · exact c (by rw [hat, hc])
        · omega
      · by_cases ej : j = k
        · subst ej
          rw [if_pos rfl]
          have := hgb h1
          omega
        · rw [if_neg ej]
          exact d j (by omega) hne h1
  · by_cases e : i = k
    · subst e
      simp only [if_true]
      exact .inr (hgb h0).1
    · simp only [if_neg e]
      exact .inl (h.away i (by omega) h0).2.1

theorem CosOwned.push {w w2 w3 : World} {base : Nat} {l : Value} {f : Nat → Co} {k : Nat} {xs : List Value} {m : Nat → Nat} {mv : Nat → Value} {v : Value} {g' cap3 : Nat} {c : Co} {o : Obj}
    (h : MapsOf w base l.ownBlock f k xs m mv) (how : w.ownsRow base 28 3 l k xs) (hb : base ≤ w.heap.size) (hf : f k = c) (h12 : Below w.heap.size w w2)
    (hown : w2.ownsRow w.heap.size 3 1 v c.map.length (c.map.map (Value.int .i64))) (hg : (w2.alloc o).grownBy w3 l.ownBlock) (hat : l.ownBlock = some g' ∨ g' = w2.heap.size + 1)
    (h3 : w3.ownsRow base 28 3 (.slice (some ⟨g', 0, none⟩) (k + 1) cap3) (k + 1) (xs ++ [.int .i64 c.src, .int .i64 c.dst, v])) : CosOwned w3 base (.slice (some ⟨g', 0, none⟩) (k + 1) cap3) f (k + 1) := by
  subst hf
  obtain ⟨m', mv', hm, _⟩ := h.step (w2 := w2.alloc o) how.1 hb (h12.alloc h12.size o) (Nat.le_refl _) (hown.alloc o) (fun g hg => (owns_lt how g hg).2) hg (by rcases hat with a | a; exact .inl a; exact .inr (by rw [a]; simp))
  exact ⟨_, m', mv', h3, hm⟩
theorem ownsRow_keep1 {w w' : World} {base : Nat} {t : TypeId} {size : Nat} {v : Value} {n : Nat} {xs : List Value} (h : w.ownsRow base t size v n xs) (hk : ∀ g, v.ownBlock = some g → w'.heap[g]? = w.heap[g]?) : w'.ownsRow base t size v n xs := by
  obtain ⟨h1, h2 | ⟨g, cap, cur, e, hg, hh, r⟩⟩ := h
  · exact ⟨h1, .inl h2⟩
  · exact ⟨h1, .inr ⟨g, cap, cur, e, hg, (hk g (by rw [e]; rfl)).trans hh, r⟩⟩
/-- As 'push', with a store behind it into a block that was made between the list and the coercion. -/
theorem CosOwned.push_store {w w2 w3 w4 : World} {base bv : Nat} {l : Value} {f : Nat → Co} {k : Nat} {xs : List Value} {m : Nat → Nat} {mv : Nat → Value} {v : Value} {g' cap3 : Nat} {c : Co} {o : Obj}
    (h : MapsOf w base l.ownBlock f k xs m mv) (how : w.ownsRow base 28 3 l k xs) (hb : base ≤ w.heap.size) (hf : f k = c) (h12 : Below w.heap.size w w2) (hbv : w.heap.size ≤ bv) (hbv2 : bv ≤ w2.heap.size)
    (hown : w2.ownsRow bv 3 1 v c.map.length (c.map.map (Value.int .i64))) (hg : (w2.alloc o).grownBy w3 l.ownBlock) (hat : l.ownBlock = some g' ∨ g' = w2.heap.size + 1)
    (h3 : w3.ownsRow base 28 3 (.slice (some ⟨g', 0, none⟩) (k + 1) cap3) (k + 1) (xs ++ [.int .i64 c.src, .int .i64 c.dst, v]))
    (hs4 : w3.heap.size ≤ w4.heap.size) (hk4 : ∀ g, g < w.heap.size ∨ bv ≤ g → w4.heap[g]? = w3.heap[g]?) : CosOwned w4 base (.slice (some ⟨g', 0, none⟩) (k + 1) cap3) f (k + 1) := by
  subst hf
  obtain ⟨m', mv', hm, hfar⟩ := h.step (w2 := w2.alloc o) how.1 hb (h12.alloc h12.size o) hbv (hown.alloc o) (fun g hg => (owns_lt how g hg).2) hg (by rcases hat with a | a; exact .inl a; exact .inr (by rw [a]; simp))
  refine ⟨_, m', mv', ownsRow_keep1 h3 (fun g hg => hk4 g ?_), hm.cells, fun i hi => (hm.own i hi).keep fun h0 => hk4 _ (hfar i hi (by simpa using h0)), fun i hi h0 => ?_⟩
  · have e : g' = g := by
      have h : some g' = some g := hg
      injection h
    subst e
    rcases hat with a | a
    · exact .inl (owns_lt how _ a).2
    · exact .inr (by omega)
  · obtain ⟨a, b, c, d⟩ := hm.away i hi h0
    exact ⟨a, by omega, c, d⟩
end Go.Proofs.Ytplpnammboofiaa

namespace Go.Proofs.Ytplpnammboofiaa
open Go.RowKit

theorem infoCoercionW : (Try.prog.info? 28).map (fun i => (i.zero, i.size, i.bytes)) = some (some (.agg #[.int .i64 0, .int .i64 0, .slice none 0 0]), 3, 40) := by kernel_rfl

theorem owns_form {w : World} {base : Nat} {t : TypeId} {size : Nat} {v : Value} {n : Nat} {xs : List Value} (h : w.ownsRow base t size v n xs) : ∃ A c, v = .slice A n c := by
  obtain ⟨_, ⟨rfl, rfl⟩ | ⟨g', cap, cur, rfl, _⟩⟩ := h
  · exact ⟨_, _, rfl⟩
  · exact ⟨_, _, rfl⟩

set_option maxRecDepth 100000 in
set_option maxHeartbeats 2000000 in
theorem copyTypes_any (lo hi : Nat) (sv cv : Value) (t : Ty) (w : World) (hv : TyAt w lo hi sv cv t) (hB : hi ≤ w.heap.size) (hbk : t.bulk ≤ 1048576) :
    Calls Try.prog 39 #[.agg #[sv, cv]] w fun e w' => ∃ v l C, e = .returned (.agg #[v, l]) ∧ Below w.heap.size w w' ∧ w.heap.size ≤ C ∧ C < w'.heap.size ∧
      w'.ownsRow w.heap.size 3 1 v t.sizes.length (t.sizes.map (Value.int .i64)) ∧ (∀ g, v.ownBlock = some g → g < C) ∧ CosOwned w' (C + 1) l (fun i => t.cos.getD i default) t.cos.length := by
  obtain ⟨A, cap, rfl, hl1, hm1, hz⟩ := hv.1.form
  obtain ⟨B, bap, rfl, hl2, hm2, hc1⟩ := hv.2.form
  unfold maxLen at hm2
  obtain ⟨i0, hi0, hz0, hz1, hz2⟩ := info_parts infoCoercionW
  have hn : t.cos.length ≤ 1048576 := by unfold Ty.bulk at hbk; omega
  have hn1 : t.sizes.length ≤ 1048576 := by unfold Ty.bulk at hbk; omega
  have hl3 : Hid (∀ j, ∀ (hj : j < t.cos.length), t.cos[j].map.length ≤ 1048576) := fun j hj => Nat.le_trans (t.map_le j hj) hbk
  have h3 : Below w.heap.size w ((w.alloc (.cells #[.slice A t.sizes.length cap, .slice B t.cos.length bap] 26)).alloc (.cells #[.slice none 0 0, .slice none 0 0] 26)) := by go_grown
  have Hc1 := Lib.hid hc1
  clear hv hc1
  go_enter Try.func39, Try.ntmps39
  go_wp2_with fail
  refine (clone_any lo hi _ t.sizes _ (hz.below h3 hB) (by simp; omega) hn1).mono ?_
  rintro e w1 ⟨v, rfl, hb, hown⟩
  have hbel := Lib.hid (h3.trans (hb.mono (by simp; omega)))
  obtain ⟨hcl, hfr⟩ := bcell hb
  have hs1 := hb.size
  simp only [World.size_alloc] at hown hcl hfr hs1
  have hz1' : w.heap.size + 1 < w1.heap.size := by omega
  have hz0' : w.heap.size < w1.heap.size := by omega
  obtain ⟨VA, VC, rfl⟩ := owns_form hown
  have Hown := Lib.hid hown
  have he0 : w1.cell? ⟨w.heap.size, 0, none⟩ = some (.slice A t.sizes.length cap) := by rw [hcl _ _ (by omega)]; simp [go_sem]
  have he1 : w1.cell? ⟨w.heap.size, 1, none⟩ = some (.slice B t.cos.length bap) := by rw [hcl _ _ (by omega)]; simp [go_sem]
  have hd0 : w1.cell? ⟨w.heap.size + 1, 0, none⟩ = some (.slice none 0 0) := by rw [hcl _ _ (by omega)]; simp [go_sem]
  have hd1 : w1.cell? ⟨w.heap.size + 1, 1, none⟩ = some (.slice none 0 0) := by rw [hcl _ _ (by omega)]; simp [go_sem]
  have hf0 : w1.frozen? ⟨w.heap.size + 1, 0, none⟩ = false := by rw [hfr _ _ (by omega)]; simp [go_sem]
  have hf1 : w1.frozen? ⟨w.heap.size + 1, 1, none⟩ = false := by rw [hfr _ _ (by omega)]; simp [go_sem]
  have Hcl := Lib.hid hcl
  have Hfr := Lib.hid hfr
  clear hown hb h3 hcl hfr hz
  go_wp2
  go_loopw [13] (fun i wr => ∃ (j : Nat) (l : Value), j ≤ t.cos.length ∧ i = .int .i64 j ∧ Hid (Below w1.heap.size w1 wr) ∧ w1.heap.size < wr.heap.size ∧ Row wr w1.heap.size 26 [.slice VA t.sizes.length VC, l] ∧ Hid (CosOwned wr (w1.heap.size + 1) l (fun i => t.cos.getD i default) j)) (fun i _ => t.cos.length - (intOf i).toNat)
  case atStart => exact ⟨0, .slice none 0 0, Nat.zero_le _, rfl, Lib.hid ((Below.refl _ _).alloc (Nat.le_refl _) _), by simp, Row.new w1 _ [.slice VA t.sizes.length VC, .slice none 0 0], CosOwned.nil _ _ _⟩
  case round =>
    obtain ⟨j, l, hj, rfl, hb, hsz, hrow, hown⟩ := hrel
    have g0 := hrow.cell 0
    have g1 := hrow.cell 1
    simp only [List.getElem?_cons_zero, List.getElem?_cons_succ] at g0 g1
    have k0 := hrow.frozen 0
    have k1 := hrow.frozen 1
    have Hrow := Lib.hid hrow
    clear hrow
    by_cases hlt : j < t.cos.length
    · have hbw : Below w.heap.size w wr := hbel.out.trans (hb.out.mono (by omega))
      obtain ⟨b, off, A2, cap2, rfl, hlo, hhi, c0, c1, c2, h5, h6, hs, hd, hz2'⟩ := (Hc1.out.below hbw hB).at_ hlt
      have hmap := hl3.out j hlt
      obtain ⟨xs, m, mv, how, hmo⟩ := hown.out
      obtain ⟨LA, LC, rfl⟩ := owns_form how
      have How := Lib.hid how
      have Hmo := Lib.hid hmo
      have Hz2 := Lib.hid hz2'
      have Hbw := Lib.hid hbw
      clear how hmo hz2' hbw
      have hdraw : Below hi wr (wr.alloc (.cells #[.int .i64 t.cos[j].src, .int .i64 t.cos[j].dst, .slice A2 t.cos[j].map.length cap2] 28)) := (Below.refl _ _).alloc (by have := hbel.out.size; have := hb.out.size; omega) _
      have Hz3 := Lib.hid (Hz2.out.below hdraw (Nat.le_refl _))
      have hj1 : (j : Int) + 1 ≤ 1048576 := by omega
      clear hdraw
      go_upto_region 5 with fail
      go_region_law (first
        | (refine step_append_lies _ (by rfl) (.tmp 18) (.tmp 21) 24 (by rfl) (w1.heap.size + 1) 28 i0 _ 3 40 Try.underlying24 hi0 hz0 hz1 hz2 rfl (by omega) (.slice LA j LC) j xs (by rfl) ((H2.out.alloc _).drew)
            ⟨w2.heap.size, 0, none⟩ 1 1 [.int .i64 t.cos[j].src, .int .i64 t.cos[j].dst, .slice VA2 t.cos[j].map.length VC2] (by rfl) (by rfl) (World.news_of_block (cs := #[.int .i64 t.cos[j].src, .int .i64 t.cos[j].dst, .slice VA2 t.cos[j].map.length VC2]) (t := 28) (fr := (0, 0)) (heap_alloc_new w2 _)) (by simp [Value.oneCell'])
            (by omega) (by unfold maxLen; omega) (by omega) (by (try simp); (try omega)) (w2.heap.size + 1) (by simp) ?_; intro g' cap3 w3 hown3 hgrow hat hlt3; have hC3 : w3.heap[w1.heap.size]? = wr.heap[w1.heap.size]? := (hgrow.block _ (by (try simp); (try omega)) (fun hc => by have := (owns_lt How.out _ hc.symm).1; omega)).trans ((Below.heap_alloc w2 _ _ (by omega)).trans (hblk.out _ hsz)); have q1 := (Hrow.out.keep hC3).cell 1; have q1f := (Hrow.out.keep hC3).frozen 1; simp only [List.getElem?_cons_zero, List.getElem?_cons_succ] at q1; have Hown3 := Lib.hid hown3; have Hgrow := Lib.hid hgrow; have Hat := Lib.hid hat; have HC3 := Lib.hid hC3; clear hown3 hgrow hat hC3)
        | (go_simp; go_at_call 40; refine (copied_any lo hi _ _ _ t.cos[j] _ ⟨rfl, rfl, hs, hd, by exact Hz3.out⟩ (by (try simp); (try omega)) hmap).mono ?_; rintro e w2 ⟨v2, rfl, hb2, hown2⟩; obtain ⟨VA2, VC2, rfl⟩ := owns_form hown2; have hsz2 : wr.heap.size + 1 ≤ w2.heap.size := (by simpa using hb2.size); have H2 := Lib.hid (ownsRow_keep How.out fun g hg hgl => (hb2.block g (by (try simp); (try omega))).trans (Below.heap_alloc wr _ g hgl)); have hblk : Hid (∀ g, g < wr.heap.size → w2.heap[g]? = wr.heap[g]?) := fun g hgl => (hb2.block g (by (try simp); (try omega))).trans (Below.heap_alloc wr _ g hgl); have p1 : w2.cell? ⟨w1.heap.size, 1, none⟩ = some (.slice LA j LC) := (Hrow.out.keep (hblk.out _ hsz)).cell 1; have hsz3 : w1.heap.size < w2.heap.size := (by omega); have Hb2 := Lib.hid hb2; have Hown2 := Lib.hid hown2; clear hb2 hown2))
      all_goals
        have hq : Below wr.heap.size _ w2 := Hb2.out.mono (by (try simp); (try omega))
        have hb12 : Below wr.heap.size wr w2 := (((Below.refl _ wr).alloc (Nat.le_refl _) (.cells #[.int .i64 t.cos[j].src, .int .i64 t.cos[j].dst, .slice A2 t.cos[j].map.length cap2] 28)).drew).trans hq
        have ho2 := ownsRow_lower (base' := wr.heap.size) Hown2.out (by (try simp); (try omega))
        have hpush := CosOwned.push (w2 := w2) Hmo.out How.out (by omega) (show t.cos.getD j default = t.cos[j] by rw [List.getD_eq_getElem?_getD, List.getElem?_eq_getElem hlt]; rfl) hb12 ho2 Hgrow.out Hat.out Hown3.out
        have hb13 : Below w1.heap.size w1 w3 := ((hb.out.trans (hb12.mono (by omega))).alloc (by omega) _).grown Hgrow.out (by (try simp); (try omega)) (fun k hk => by have := (owns_lt How.out k hk).1; omega)
        have Hpush := Lib.hid hpush
        have Hb13 := Lib.hid hb13
        have hsz4 : w1.heap.size < w3.heap.size := by have := Hgrow.out.size; simp only [World.size_alloc] at this; omega
        clear hpush hb12 hb13 q1 q1f p1 hq ho2
        go_wp2
        go_roundw
        case rel =>
          exact ⟨j + 1, _, by omega, by go_num, Lib.hid (Hb13.out.setCell (Nat.le_refl _) _), by simp [World.setCell]; omega, (Hrow.out.keep HC3.out).set_ 1 _,
            Lib.hid (Hpush.out.keep (by simp [World.setCell]) fun g hg hgl => Below.heap_setCell _ _ _ _ (by dsimp only; omega))⟩
        case measure => simp [intOf]; omega
    · obtain rfl : j = t.cos.length := by omega
      have r0 : wr.cell? ⟨w.heap.size + 1, 0, none⟩ = some (.slice none 0 0) := ((bcell hb.out).1 _ _ hz1').trans hd0
      have r1 : wr.cell? ⟨w.heap.size + 1, 1, none⟩ = some (.slice none 0 0) := ((bcell hb.out).1 _ _ hz1').trans hd1
      have rf0 : wr.frozen? ⟨w.heap.size + 1, 0, none⟩ = false := ((bcell hb.out).2 _ _ hz1').trans hf0
      have rf1 : wr.frozen? ⟨w.heap.size + 1, 1, none⟩ = false := ((bcell hb.out).2 _ _ hz1').trans hf1
      obtain ⟨xs, m, mv, how, hmo⟩ := hown.out
      obtain ⟨LA, LC, rfl⟩ := owns_form how
      clear how hmo
      go_wp2
      refine bodyPost_ret (v := .agg #[.slice VA t.sizes.length VC, .slice LA t.cos.length LC]) (by simp [results, Try.results39, go_sem, r0, r1]) rfl ?_
      have hbw : Below w.heap.size w wr := hbel.out.trans (hb.out.mono (by omega))
      refine ⟨_, _, w1.heap.size, rfl, (hbw.setCell (by dsimp only; omega) _).setCell (by dsimp only; omega) _, by omega, by simpa [World.setCell] using hsz, ?_, ?_, ?_⟩
      · exact ownsRow_lower (ownsRow_keep Hown.out fun g hg hgl => (Below.heap_setCell _ _ _ _ (by dsimp only; omega)).trans ((Below.heap_setCell _ _ _ _ (by dsimp only; omega)).trans (hb.out.block g hgl))) (by omega)
      · intro g hg
        exact (owns_lt Hown.out g hg).2
      · refine hown.out.keep (by simp [World.setCell]) fun g hg hgl => (Below.heap_setCell _ _ _ _ (by dsimp only; omega)).trans (Below.heap_setCell _ _ _ _ (by dsimp only; omega))
end Go.Proofs.Ytplpnammboofiaa

