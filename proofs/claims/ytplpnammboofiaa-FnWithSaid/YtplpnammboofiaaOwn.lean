/-
  Words for memory that the call itself made: a slice at the head of a row, coercions whose maps lie in rows of their own.
-/
import Derived.Test.YtplpnammboofiaaMem
namespace Go.Proofs.Ytplpnammboofiaa
open Go.RowKit

theorem Kept.refl (S : Nat → Prop) (w : World) : Kept S w w := ⟨rfl, rfl, rfl, Nat.le_refl _, fun _ _ _ => rfl⟩
theorem Kept.weak {S S' : Nat → Prop} {w w' : World} (h : Kept S w w') (hs : ∀ k, S' k → S k) : Kept S' w w' := ⟨h.os, h.tape, h.output, h.size, fun k hk hS => h.block k hk (hs k hS)⟩
theorem Kept.setCell {S : Nat → Prop} {w w' : World} (h : Kept S w w') {p : Addr} (hp : ¬ S p.block) (u : Value) : Kept S w (w'.setCell p u) :=
  ⟨h.os, h.tape, h.output, by simpa [World.setCell] using h.size, fun k hk hS => (Below.heap_setCell w' p u k (fun e => hp (e ▸ hS))).trans (h.block k hk hS)⟩
theorem Kept.alloc {S : Nat → Prop} {w w' : World} (h : Kept S w w') (o : Obj) : Kept S w (w'.alloc o) :=
  ⟨h.os, h.tape, h.output, by have := h.size; simp; omega, fun k hk hS => (Below.heap_alloc w' o k (by have := h.size; omega)).trans (h.block k hk hS)⟩
theorem Kept.drew {S : Nat → Prop} {w w' : World} (h : Kept S w w') : Kept S w w'.drew := ⟨h.os, h.tape, h.output, h.size, h.block⟩
theorem Kept.new {S : Nat → Prop} {w w' w'' : World} (h : Kept S w w') (hb : Below w'.heap.size w' w'') : Kept S w w'' :=
  ⟨hb.os.trans h.os, hb.tape.trans h.tape, hb.output.trans h.output, Nat.le_trans h.size hb.size, fun k hk hS => (hb.block k (by have := h.size; omega)).trans (h.block k hk hS)⟩
theorem Kept.below {S : Nat → Prop} {w w' : World} {B : Nat} (h : Kept S w w') (hB : B ≤ w.heap.size) (hS : ∀ k, k < B → S k) : Below B w w' :=
  ⟨h.os, h.tape, h.output, h.size, fun k hk => h.block k (by omega) (hS k hk)⟩

/-- The numbers from k on, n of them. -/
def markL (k : Int) (n : Nat) : List Int := (List.range n).map fun i : Nat => k + (i : Int)
theorem markL_len (k : Int) (n : Nat) : (markL k n).length = n := by simp [markL]
theorem markL_get (k : Int) (n i : Nat) (h : i < (markL k n).length) : (markL k n)[i] = k + (i : Int) := by simp [markL]
theorem markL_succ (k : Int) (n : Nat) : markL k (n + 1) = markL k n ++ [k + (n : Int)] := by simp [markL, List.range_succ]

/-- The slice v of n cells begins at the head of block g, if it is not empty; its cells are xs. -/
def SlAt (w : World) (t : TypeId) (g : Nat) (v : Value) (n : Nat) (xs : List Value) : Prop :=
  ∃ (A : Option Addr) (cap : Nat), v = .slice A n cap ∧ n ≤ cap ∧ cap ≤ maxLen ∧ (n = 0 → xs = []) ∧ (0 < n → A = some ⟨g, 0, none⟩ ∧ ∃ rest, Row w g t (xs ++ rest))
def OwnI (w : World) (t : TypeId) (g : Nat) (v : Value) (zs : List Int) : Prop := SlAt w t g v zs.length (zs.map (Value.int .i64))

section
variable {w w' : World} {t : TypeId} {g n : Nat} {v : Value} {xs : List Value} {zs : List Int}
theorem SlAt.keep (h : SlAt w t g v n xs) (hk : 0 < n → w'.heap[g]? = w.heap[g]?) : SlAt w' t g v n xs := by
  obtain ⟨A, cap, e, h1, h2, h3, h4⟩ := h
  refine ⟨A, cap, e, h1, h2, h3, fun h0 => ?_⟩
  obtain ⟨hA, rest, hr⟩ := h4 h0
  exact ⟨hA, rest, hr.keep (hk h0)⟩
theorem SlAt.lt (h : SlAt w t g v n xs) (hn : 0 < n) : g < w.heap.size := by
  obtain ⟨A, cap, e, h1, h2, h3, h4⟩ := h
  exact (h4 hn).2.choose_spec.lt
theorem OwnI.ints {lo hi : Nat} (h : OwnI w t g v zs) (hw : ∀ z ∈ zs, I64 z) (hg : 0 < zs.length → lo ≤ g ∧ g < hi) : IntsAt w lo hi v zs := by
  obtain ⟨A, cap, e, h1, h2, h3, h4⟩ := h
  refine ⟨A, cap, e, h1, h2, hw, fun h0 => ?_⟩
  obtain ⟨rfl, rest, hr⟩ := h4 h0
  refine ⟨g, 0, rfl, (hg h0).1, (hg h0).2, fun k hk => ?_⟩
  rw [Nat.zero_add, hr.cell, List.getElem?_append_left (by simpa using hk), List.getElem?_map, List.getElem?_eq_getElem hk, List.getD_eq_getElem?_getD, List.getElem?_eq_getElem hk]
  rfl
theorem Row.own {cap : Nat} (h : Row w g t (zs.map (Value.int .i64))) (hc : zs.length ≤ cap) (hm : cap ≤ maxLen) : OwnI w t g (.slice (some ⟨g, 0, none⟩) zs.length cap) zs :=
  ⟨_, _, rfl, hc, hm, fun e => by simp [List.eq_nil_of_length_eq_zero e], fun _ => ⟨rfl, [], by simpa using h⟩⟩

/-- From the library's word for a row of the call's own. -/
theorem OwnI.of_owns {base : Nat} (h : w.ownsRow base t 1 v zs.length (zs.map (Value.int .i64))) : ∃ g, OwnI w t g v zs ∧ (0 < zs.length → base ≤ g ∧ g < w.heap.size) := by
  obtain ⟨h1, ⟨rfl, hn⟩ | ⟨g, cap, cur, rfl, hb, hh, hc, hm, hsz, htk⟩⟩ := h
  · refine ⟨0, ⟨none, 0, by rw [hn], by omega, Nat.zero_le _, fun e => by simp [List.eq_nil_of_length_eq_zero e], fun h0 => absurd h0 (by omega)⟩, fun h0 => absurd h0 (by omega)⟩
  · have hr : Row w g t ((zs.map (Value.int .i64)) ++ cur.toList.drop zs.length) := by
      rw [← htk, Nat.mul_one, List.take_append_drop]
      simpa [Row] using hh
    exact ⟨g, ⟨_, _, rfl, hc, hm, fun e => by simp [List.eq_nil_of_length_eq_zero e], fun _ => ⟨rfl, _, hr⟩⟩, fun _ => ⟨hb, hr.lt⟩⟩
end

theorem remark_step (f : Nat → Value) (xs : List Value) (j : Nat) (h : j < xs.length) : ((List.range j).map f ++ xs.drop j).set j (f j) = (List.range (j + 1)).map f ++ xs.drop (j + 1) := by
  have hl : ((List.range j).map f).length = j := by simp
  rw [List.set_append_right _ _ (by omega), hl, Nat.sub_self, List.drop_eq_getElem_cons h, List.set_cons_zero, List.range_succ, List.map_append, List.append_assoc]
  rfl

/-- How many numbers the maps of the first i coercions hold. -/
def lenSum (f : Nat → Co) : Nat → Nat
  | 0 => 0
  | i + 1 => lenSum f i + (f i).map.length
theorem lenSum_mono (f : Nat → Co) {i j : Nat} (h : i ≤ j) : lenSum f i ≤ lenSum f j := by
  induction j with
  | zero => obtain rfl : i = 0 := by omega
            exact Nat.le_refl _
  | succ j ih =>
    by_cases e : i = j + 1
    · rw [e]; exact Nat.le_refl _
    · have := ih (by omega)
      show _ ≤ lenSum f j + _
      omega

/-- Coercions in memory of the call's own: the slice cv at the head of block gc, the i-th map the slice mv i at the head of block m i. -/
def OwnCos (w : World) (ti tc : TypeId) (gc : Nat) (m : Nat → Nat) (mv : Nat → Value) (cv : Value) (n : Nat) (f : Nat → Co) : Prop :=
  ∃ xs : List Value, SlAt w tc gc cv n xs ∧ xs.length = n * 3 ∧
    (∀ i, i < n → xs[i * 3]? = some (.int .i64 (f i).src) ∧ xs[i * 3 + 1]? = some (.int .i64 (f i).dst) ∧ xs[i * 3 + 2]? = some (mv i)) ∧ ∀ i, i < n → OwnI w ti (m i) (mv i) (f i).map
/-- The maps' blocks are apart, and none is the coercions' own. -/
def Apart (gc : Nat) (m : Nat → Nat) (n : Nat) (f : Nat → Co) : Prop :=
  ∀ i, i < n → 0 < (f i).map.length → m i ≠ gc ∧ ∀ j, j < n → j ≠ i → 0 < (f j).map.length → m j ≠ m i

def markAt (f : Nat → Co) (k0 : Int) (i : Nat) : Int := k0 + 2 * (i : Int) + (lenSum f i : Int)
def markCo (f : Nat → Co) (k0 : Int) (i : Nat) : Co := ⟨markAt f k0 i, markAt f k0 i + 1, markL (markAt f k0 i + 2) (f i).map.length⟩
def mixCo (f : Nat → Co) (k0 : Int) (j i : Nat) : Co := if i < j then markCo f k0 i else f i
theorem mixCo_len (f : Nat → Co) (k0 : Int) (j i : Nat) : (mixCo f k0 j i).map.length = (f i).map.length := by
  unfold mixCo
  split
  · simp [markCo, markL_len]
  · rfl
theorem markAt_succ (f : Nat → Co) (k0 : Int) (i : Nat) : markAt f k0 (i + 1) = markAt f k0 i + 2 + ((f i).map.length : Int) := by
  unfold markAt
  show k0 + 2 * ((i + 1 : Nat) : Int) + ((lenSum f i + (f i).map.length : Nat) : Int) = _
  omega

/-- One coercion more is marked. -/
theorem OwnCos.step {w1 : World} {ti tc : TypeId} {gc n j : Nat} {m : Nat → Nat} {mv : Nat → Value} {cv : Value} {f : Nat → Co} {k0 : Int} {xs rest : List Value} {A : Option Addr} {cap : Nat}
    (hcv : cv = .slice A n cap) (hc : n ≤ cap) (hm : cap ≤ maxLen) (hA : A = some ⟨gc, 0, none⟩) (hj : j < n) (hx : xs.length = n * 3)
    (hf : ∀ i, i < n → xs[i * 3]? = some (.int .i64 (mixCo f k0 j i).src) ∧ xs[i * 3 + 1]? = some (.int .i64 (mixCo f k0 j i).dst) ∧ xs[i * 3 + 2]? = some (mv i))
    (hr : Row w1 gc tc (((xs.set (j * 3) (.int .i64 (markAt f k0 j))).set (j * 3 + 1) (.int .i64 (markAt f k0 j + 1))) ++ rest))
    (hms : ∀ i, i < n → i ≠ j → OwnI w1 ti (m i) (mv i) (mixCo f k0 j i).map) (hmj : OwnI w1 ti (m j) (mv j) (markL (markAt f k0 j + 2) (f j).map.length)) :
    OwnCos w1 ti tc gc m mv cv n (mixCo f k0 (j + 1)) := by
  refine ⟨(xs.set (j * 3) (.int .i64 (markAt f k0 j))).set (j * 3 + 1) (.int .i64 (markAt f k0 j + 1)), ⟨A, cap, hcv, hc, hm, fun h => absurd h (by omega), fun _ => ⟨hA, rest, hr⟩⟩, by simp [hx], fun i hi => ?_, fun i hi => ?_⟩
  · obtain ⟨a, b, c⟩ := hf i hi
    by_cases e : i = j
    · subst e
      have e1 : mixCo f k0 (i + 1) i = markCo f k0 i := by unfold mixCo; rw [if_pos (by omega)]
      rw [e1]
      refine ⟨?_, ?_, ?_⟩
      · rw [List.getElem?_set_ne (by omega), List.getElem?_set_self (by omega)]; rfl
      · rw [List.getElem?_set_self (by simp; omega)]; rfl
      · rw [List.getElem?_set_ne (by omega), List.getElem?_set_ne (by omega), c]
    · have e1 : mixCo f k0 (j + 1) i = mixCo f k0 j i := by
        unfold mixCo
        by_cases h : i < j
        · rw [if_pos h, if_pos (by omega)]
        · rw [if_neg h, if_neg (by omega)]
      rw [e1]
      refine ⟨?_, ?_, ?_⟩
      · rw [List.getElem?_set_ne (by omega), List.getElem?_set_ne (by omega), a]
      · rw [List.getElem?_set_ne (by omega), List.getElem?_set_ne (by omega), b]
      · rw [List.getElem?_set_ne (by omega), List.getElem?_set_ne (by omega), c]
  · by_cases e : i = j
    · subst e
      have e1 : mixCo f k0 (i + 1) i = markCo f k0 i := by unfold mixCo; rw [if_pos (by omega)]
      rw [e1]
      exact hmj
    · have e1 : mixCo f k0 (j + 1) i = mixCo f k0 j i := by
        unfold mixCo
        by_cases h : i < j
        · rw [if_pos h, if_pos (by omega)]
        · rw [if_neg h, if_neg (by omega)]
      rw [e1]
      exact hms i hi e

theorem OwnCos.keep {w w' : World} {ti tc : TypeId} {gc n : Nat} {m : Nat → Nat} {mv : Nat → Value} {cv : Value} {f : Nat → Co} (h : OwnCos w ti tc gc m mv cv n f) (hk : 0 < n → w'.heap[gc]? = w.heap[gc]?)
    (hm : ∀ i, i < n → 0 < (f i).map.length → w'.heap[m i]? = w.heap[m i]?) : OwnCos w' ti tc gc m mv cv n f := by
  obtain ⟨xs, h1, h2, h3, h4⟩ := h
  exact ⟨xs, h1.keep hk, h2, h3, fun i hi => (h4 i hi).keep (hm i hi)⟩
theorem OwnCos.lt {w : World} {ti tc : TypeId} {gc n : Nat} {m : Nat → Nat} {mv : Nat → Value} {cv : Value} {f : Nat → Co} (h : OwnCos w ti tc gc m mv cv n f) :
    (0 < n → gc < w.heap.size) ∧ ∀ i, i < n → 0 < (f i).map.length → m i < w.heap.size := by
  obtain ⟨xs, h1, h2, h3, h4⟩ := h
  exact ⟨fun h0 => h1.lt h0, fun i hi h0 => (h4 i hi).lt h0⟩
/-- What lies in memory of the call's own reads as coercions. -/
theorem OwnCos.cosAt {w : World} {ti tc : TypeId} {gc n lo hi : Nat} {m : Nat → Nat} {mv : Nat → Value} {cv : Value} {f : Nat → Co} (h : OwnCos w ti tc gc m mv cv n f)
    (hw : ∀ i, i < n → I64 (f i).src ∧ I64 (f i).dst ∧ ∀ z ∈ (f i).map, I64 z) (hg : 0 < n → lo ≤ gc ∧ gc < hi) (hm : ∀ i, i < n → 0 < (f i).map.length → lo ≤ m i ∧ m i < hi) : CosAt w lo hi cv ((List.range n).map f) := by
  obtain ⟨xs, ⟨A, cap, rfl, hc, hcm, _, hrow⟩, hx, hcells, hmaps⟩ := h
  have e : ((List.range n).map f).length = n := by simp
  refine ⟨A, cap, by rw [e], by rw [e]; exact hc, hcm, fun h0 => ?_⟩
  rw [e] at h0
  obtain ⟨rfl, rest, hr⟩ := hrow h0
  refine ⟨gc, 0, rfl, (hg h0).1, (hg h0).2, fun k hk => ?_⟩
  rw [e] at hk
  obtain ⟨a, b, c⟩ := hcells k hk
  obtain ⟨w1, w2, w3⟩ := hw k hk
  rw [List.getD_eq_getElem?_getD, List.getElem?_eq_getElem (by rw [e]; exact hk)]
  simp only [List.getElem_map, List.getElem_range, Option.getD_some]
  refine ⟨_, _, _, ?_, ?_, ?_, rfl, rfl, w1, w2, (hmaps k hk).ints w3 (hm k hk)⟩
  · rw [Nat.zero_add, hr.cell, List.getElem?_append_left (by omega), a]
  · rw [Nat.zero_add, hr.cell, List.getElem?_append_left (by omega), b]
  · rw [Nat.zero_add, hr.cell, List.getElem?_append_left (by omega), c]

/-- Types in memory of the call's own. -/
structure OwnTy (w : World) (ti tc : TypeId) (gs gc : Nat) (m : Nat → Nat) (mv : Nat → Value) (sv cv : Value) (ss : List Int) (n : Nat) (f : Nat → Co) : Prop where
  sizes : OwnI w ti gs sv ss
  cos : OwnCos w ti tc gc m mv cv n f
  apart : Apart gc m n f
  away : 0 < ss.length → (gs ≠ gc ∧ ∀ i, i < n → 0 < (f i).map.length → gs ≠ m i)
/-- The blocks of such types. -/
def OwnTy.uses (gs gc : Nat) (m : Nat → Nat) (ss : List Int) (n : Nat) (f : Nat → Co) (k : Nat) : Prop := (0 < ss.length ∧ k = gs) ∨ (0 < n ∧ k = gc) ∨ ∃ i, i < n ∧ 0 < (f i).map.length ∧ k = m i
theorem Apart.mix {gc n : Nat} {m : Nat → Nat} {f : Nat → Co} (h : Apart gc m n f) (k0 : Int) (j : Nat) : Apart gc m n (mixCo f k0 j) := by
  intro i hi hl
  rw [mixCo_len] at hl
  exact ⟨(h i hi hl).1, fun j' hj' hne hl' => (h i hi hl).2 j' hj' hne (by rw [mixCo_len] at hl'; exact hl')⟩
theorem OwnTy.keep {w w' : World} {ti tc : TypeId} {gs gc n : Nat} {m : Nat → Nat} {mv : Nat → Value} {sv cv : Value} {ss : List Int} {f : Nat → Co} (h : OwnTy w ti tc gs gc m mv sv cv ss n f)
    (hk : ∀ k, k < w.heap.size → OwnTy.uses gs gc m ss n f k → w'.heap[k]? = w.heap[k]?) : OwnTy w' ti tc gs gc m mv sv cv ss n f :=
  ⟨h.sizes.keep fun h0 => hk gs (h.sizes.lt h0) (.inl ⟨h0, rfl⟩),
   h.cos.keep (fun h0 => hk gc (h.cos.lt.1 h0) (.inr (.inl ⟨h0, rfl⟩))) (fun i hi hl => hk _ (h.cos.lt.2 i hi hl) (.inr (.inr ⟨i, hi, hl, rfl⟩))), h.apart, h.away⟩
theorem OwnTy.tyAt {w : World} {ti tc : TypeId} {gs gc n lo hi : Nat} {m : Nat → Nat} {mv : Nat → Value} {sv cv : Value} {ss : List Int} {f : Nat → Co} (h : OwnTy w ti tc gs gc m mv sv cv ss n f)
    (hs : ∀ z ∈ ss, I64 z) (hw : ∀ i, i < n → I64 (f i).src ∧ I64 (f i).dst ∧ ∀ z ∈ (f i).map, I64 z) (hu : ∀ k, OwnTy.uses gs gc m ss n f k → lo ≤ k ∧ k < hi) : TyAt w lo hi sv cv ⟨ss, (List.range n).map f⟩ :=
  ⟨h.sizes.ints hs fun h0 => hu _ (.inl ⟨h0, rfl⟩), h.cos.cosAt hw (fun h0 => hu _ (.inr (.inl ⟨h0, rfl⟩))) fun i hi hl => hu _ (.inr (.inr ⟨i, hi, hl, rfl⟩))⟩
/-- Types as the copying lays them are such types. -/
theorem NewTy.own {w : World} {ti tc : TypeId} {g : Nat} {t : Ty} (h : NewTy w ti tc g t) (hb : t.bulk ≤ 1048576) :
    OwnTy w ti tc g (g + 1) (fun j => g + 1 + 1 + 4 * j + 3) (fun j => .slice (some ⟨g + 1 + 1 + 4 * j + 3, 0, none⟩) (t.cos.getD j default).map.length (t.cos.getD j default).map.length)
      (.slice (some ⟨g, 0, none⟩) t.sizes.length t.sizes.length) (.slice (some ⟨g + 1, 0, none⟩) t.cos.length t.cos.length) t.sizes t.cos.length (fun j => t.cos.getD j default) := by
  obtain ⟨h1, ⟨xs, h2, h3⟩, h4⟩ := h
  have hb' := hb
  unfold Ty.bulk at hb'
  refine ⟨h1.own (Nat.le_refl _) (by unfold maxLen; omega), ⟨xs, ⟨_, _, rfl, Nat.le_refl _, by unfold maxLen; omega, fun h0 => List.eq_nil_of_length_eq_zero (by rw [h3.1, h0]), fun _ => ⟨rfl, [], by simpa using h2⟩⟩, h3.1, fun i hi => ?_, fun i hi => ?_⟩,
    fun i hi _ => ⟨by omega, fun j hj hne _ => by omega⟩, fun _ => ⟨by omega, fun i hi _ => by omega⟩⟩
  · obtain ⟨a, b, c⟩ := h3.2 i hi hi
    have e : t.cos.getD i default = t.cos[i] := by rw [List.getD_eq_getElem?_getD, List.getElem?_eq_getElem hi]; rfl
    simp only [e]
    exact ⟨a, b, c⟩
  · have e : t.cos.getD i default = t.cos[i] := by rw [List.getD_eq_getElem?_getD, List.getElem?_eq_getElem hi]; rfl
    simp only [e]
    have := t.map_le i hi
    exact (h4 i hi).own (Nat.le_refl _) (by unfold maxLen; omega)
end Go.Proofs.Ytplpnammboofiaa
