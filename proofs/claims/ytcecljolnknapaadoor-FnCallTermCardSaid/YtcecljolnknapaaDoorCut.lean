/-
  A text cut at every sign: as data; the contract of the model's l13Cut.
-/
import Derived.Test.YtcecljolnknapaaDoorTxd
import Derived.Test.YtcecljolnknapaaDoorFrom
namespace Go.Proofs.YtcecljolnknapaaDoor
open Go.RowKit

/-- A text cut at every c. -/
def glue (p : List UInt8) : List (List UInt8) → List (List UInt8)
  | [] => [p]
  | h :: t => (p ++ h) :: t
def cutL (c : UInt8) : List UInt8 → List (List UInt8)
  | [] => [[]]
  | x :: l => if x = c then [] :: cutL c l else glue [x] (cutL c l)
theorem glue_nil {x : List (List UInt8)} (h : x ≠ []) : glue [] x = x := by
  cases x with
  | nil => exact absurd rfl h
  | cons h t => rfl
theorem glue_glue (p q : List UInt8) (x : List (List UInt8)) : glue p (glue q x) = glue (p ++ q) x := by
  cases x with
  | nil => rfl
  | cons h t => simp [glue, List.append_assoc]
theorem cutL_ne (c : UInt8) (l : List UInt8) : cutL c l ≠ [] := by
  cases l with
  | nil => simp [cutL]
  | cons x l =>
    simp only [cutL]
    split
    · simp
    · cases h : cutL c l <;> simp [glue]
/-- The piece from one place to another. -/
def sub (l : List UInt8) (f i : Nat) : List UInt8 := (l.drop f).take (i - f)
theorem sub_self (l : List UInt8) (i : Nat) : sub l i i = [] := by simp [sub]
theorem sub_succ {l : List UInt8} {f i : Nat} (hf : f ≤ i) (hi : i < l.length) : sub l f (i + 1) = sub l f i ++ [l[i]] := by
  unfold sub
  have e : i + 1 - f = (i - f) + 1 := by omega
  rw [e, List.take_succ_eq_append_getElem (by rw [List.length_drop]; omega)]
  congr 1
  simp
  congr 1
  omega
theorem str_sub (l : List UInt8) (f i : Nat) : (str l).extract f i = str (sub l f i) := by
  apply ByteArray.ext
  simp [str, sub, ByteArray.data_extract, List.extract_eq_take_drop]
/-- What the loop keeps, at place i, with the pieces that are done, and the place at which the last one begins. -/
def CutAt (c : UInt8) (l : List UInt8) (done : List (List UInt8)) (f i : Nat) : Prop := f ≤ i ∧ cutL c l = done ++ glue (sub l f i) (cutL c (l.drop i))
theorem CutAt.start (c : UInt8) (l : List UInt8) : CutAt c l [] 0 0 := ⟨Nat.le_refl _, by rw [sub_self, List.drop_zero, glue_nil (cutL_ne c l)]; rfl⟩
theorem CutAt.go {c : UInt8} {l : List UInt8} {done : List (List UInt8)} {f i : Nat} (h : CutAt c l done f i) (hi : i < l.length) (hne : l[i] ≠ c) : CutAt c l done f (i + 1) := by
  refine ⟨by have := h.1; omega, ?_⟩
  rw [h.2, List.drop_eq_getElem_cons hi, cutL, if_neg hne, glue_glue, sub_succ h.1 hi]
theorem CutAt.hit {c : UInt8} {l : List UInt8} {done : List (List UInt8)} {f i : Nat} (h : CutAt c l done f i) (hi : i < l.length) (he : l[i] = c) : CutAt c l (done ++ [sub l f i]) (i + 1) (i + 1) := by
  refine ⟨Nat.le_refl _, ?_⟩
  rw [h.2, List.drop_eq_getElem_cons hi, cutL, if_pos he, sub_self, glue_nil (cutL_ne _ _)]
  simp [glue]
theorem CutAt.last {c : UInt8} {l : List UInt8} {done : List (List UInt8)} {f : Nat} (h : CutAt c l done f l.length) : cutL c l = done ++ [sub l f l.length] := by
  rw [h.2, List.drop_length]
  simp [cutL, glue]
theorem cut_byte (l : List UInt8) (i : Nat) (_hi : i < l.length) (h : i < (str l).size) : (str l)[i]'h = l[i]'_hi := by
  show (str l).data[i] = l[i]
  simp [str]
  first | rfl | skip
theorem cut_eq (c s : UInt8) : ((c.toNat : Int) == (s.toNat : Int)) = decide (c = s) := by
  by_cases h : c = s
  · subst h; simp
  · have : ¬ (c.toNat : Int) = (s.toNat : Int) := fun e => h (UInt8.toNat_inj.1 (by omega))
    simp [h, this]

end Go.Proofs.YtcecljolnknapaaDoor
