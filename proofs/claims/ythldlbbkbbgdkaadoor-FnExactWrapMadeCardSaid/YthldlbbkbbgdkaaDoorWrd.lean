/-
  A text within the coercions of a way, as data: the model wraps it step by step, the program writes what stands in front and behind.
-/
import Derived.Test.YthldlbbkbbgdkaaDoorTxd
import Derived.Lib.ItoaNum
namespace Go.Proofs.YthldlbbkbbgdkaaDoor
open Go.RowKit

/-- What stands in front of what is within a coercion. -/
def opn (i : Int) : List UInt8 := [35] ++ Lib.itoa i ++ [40]
def wrT (m : List UInt8) : List Int → List UInt8
  | [] => m
  | i :: w => wrT (opn i ++ m ++ [41]) w
/-- The last ones first. -/
def opns : List Int → List UInt8
  | [] => []
  | i :: w => opns w ++ opn i
theorem wrT_eq (w : List Int) : ∀ m, wrT m w = opns w ++ m ++ List.replicate w.length 41 := by
  induction w with
  | nil => intro m; simp [wrT, opns]
  | cons i w ih =>
    intro m
    rw [wrT, ih]
    simp [opns, List.append_assoc, List.replicate_succ]
theorem wrT_snoc (m : List UInt8) (w : List Int) (i : Int) : wrT m (w ++ [i]) = opn i ++ wrT m w ++ [41] := by
  induction w generalizing m with
  | nil => rfl
  | cons j w ih => simp only [List.cons_append, wrT, ih]
theorem wrT_take (m : List UInt8) (w : List Int) {k : Nat} (h : k < w.length) : wrT m (w.take (k + 1)) = opn w[k] ++ wrT m (w.take k) ++ [41] := by
  rw [List.take_succ_eq_append_getElem h, wrT_snoc]
theorem opns_drop (w : List Int) {k : Nat} (h : k < w.length) : opns (w.drop k) = opns (w.drop (k + 1)) ++ opn w[k] := by
  rw [List.drop_eq_getElem_cons h]
  rfl
theorem itoa_len {z : Int} (h : -9223372036854775808 ≤ z ∧ z ≤ 9223372036854775807) : 1 ≤ (Lib.itoa z).length ∧ (Lib.itoa z).length ≤ 20 := by
  have hd : ∀ u : Nat, u ≤ 9223372036854775808 → 1 ≤ (Lib.decDigits u).length ∧ (Lib.decDigits u).length ≤ 19 := fun u hu => by
    rw [Lib.decDigits_length]
    refine ⟨Lib.nDigits_pos u, ?_⟩
    rcases Nat.lt_or_ge u (10 ^ 18) with h | h
    · by_cases h0 : Lib.nDigits u ≤ 19
      · exact h0
      · have : ∀ (k v : Nat), v < 10 ^ (k + 1) → Lib.nDigits v ≤ k + 1 := by
          intro k
          induction k with
          | zero => intro v hv; rw [Lib.nDigits_small (by omega)]; omega
          | succ k ih =>
            intro v hv
            by_cases hv10 : v < 10
            · rw [Lib.nDigits_small hv10]; omega
            · rw [Lib.nDigits_big hv10]
              have := ih (v / 10) (by rw [Nat.pow_succ] at hv; omega)
              omega
        have := this 17 u (by omega)
        omega
    · have := Lib.nDigits_unique 18 u h (by omega)
      omega
  unfold Lib.itoa
  split
  · have := hd z.natAbs (by omega)
    simp only [List.length_cons]
    omega
  · have := hd z.toNat (by omega)
    omega
theorem opn_len {z : Int} (h : -9223372036854775808 ≤ z ∧ z ≤ 9223372036854775807) : 3 ≤ (opn z).length ∧ (opn z).length ≤ 22 := by
  have := itoa_len h
  unfold opn
  simp only [List.length_append, List.length_cons, List.length_nil]
  omega
theorem opns_len {w : List Int} (h : ∀ z ∈ w, I64 z) : (opns w).length ≤ 22 * w.length := by
  induction w with
  | nil => simp [opns]
  | cons i w ih =>
    have h1 := opn_len (h i (by simp))
    have h2 := ih fun z hz => h z (by simp [hz])
    simp only [opns, List.length_append, List.length_cons]
    omega
theorem wrT_len {m : List UInt8} {w : List Int} (h : ∀ z ∈ w, I64 z) : (wrT m w).length ≤ m.length + 23 * w.length := by
  have := opns_len h
  rw [wrT_eq]
  simp only [List.length_append, List.length_replicate]
  omega
end Go.Proofs.YthldlbbkbbgdkaaDoor
