/-
  The texts of numbers of any size and of lists of them; plain data only.
-/
import Derived.Test.YtajannebpejpkaaDoorTxd
namespace Go.Proofs.YtajannebpejpkaaDoor
open Go.RowKit

theorem itoa_nonneg {z : Int} (h : 0 ≤ z) : Lib.itoa z = Lib.decDigits z.toNat := by unfold Lib.itoa; rw [if_neg (by omega)]
theorem itoa_neg {z : Int} (h : z < 0) : Lib.itoa z = 45 :: Lib.decDigits (-z).toNat := by
  unfold Lib.itoa
  rw [if_pos h]
  congr 2
  omega
theorem decLen : ∀ (k u : Nat), u < 10 ^ (k + 1) → (Lib.decDigits u).length ≤ k + 1
  | 0, u, h => by rw [Lib.decDigits_length, Lib.nDigits_small (by simpa using h)]; exact Nat.le_refl _
  | k + 1, u, h => by
    by_cases h10 : u < 10
    · rw [Lib.decDigits_length, Lib.nDigits_small h10]; omega
    · have hd := decLen k (u / 10) (by rw [Nat.pow_succ] at h; omega)
      rw [Lib.decDigits_length] at hd ⊢
      rw [Lib.nDigits_big h10]
      omega
theorem decLen19 {u : Nat} (h : u ≤ 9223372036854775808) : (Lib.decDigits u).length ≤ 19 := decLen 18 u (by omega)
theorem itoa_len {z : Int} (h : I64 z) : (Lib.itoa z).length ≤ 20 := by
  obtain ⟨h1, h2⟩ := h
  rcases Int.lt_or_le z 0 with hz | hz
  · rw [itoa_neg hz, List.length_cons]
    have := decLen19 (u := (-z).toNat) (by omega)
    omega
  · rw [itoa_nonneg hz]
    have := decLen19 (u := z.toNat) (by omega)
    omega
theorem dec_digit {m : Nat} (h : m < 10) : Lib.decDigits m = [UInt8.ofNat (48 + m)] := Lib.decDigits_one h
theorem dec_more {m : Nat} (h : ¬ m < 10) : Lib.decDigits m = Lib.decDigits (m / 10) ++ [UInt8.ofNat (48 + m % 10)] := by
  rw [Lib.decDigits, dif_neg h]

/-- Numbers with single spaces between them: of the first k, and of all. -/
def numsZTo (zs : List Int) (k : Nat) : List UInt8 := Lib.join ((zs.take k).map Lib.itoa) [32]
def numsZ (zs : List Int) : List UInt8 := Lib.join (zs.map Lib.itoa) [32]
/-- A list as FormatNumbers has it. -/
def fmtN (zs : List Int) : List UInt8 := if zs.length = 0 then [45] else numsZ zs
theorem numsZTo_all (zs : List Int) : numsZTo zs zs.length = numsZ zs := by unfold numsZTo numsZ; rw [List.take_length]
theorem numsZTo_zero (zs : List Int) : numsZTo zs 0 = [] := by unfold numsZTo; rw [List.take_zero]; rfl
theorem numsZ_step (zs : List Int) (k : Nat) (hk : k < zs.length) : (if 0 < k then numsZTo zs k ++ [32] else numsZTo zs k) ++ Lib.itoa zs[k] = numsZTo zs (k + 1) := by
  match zs, k, hk with
  | z :: l, 0, _ =>
    show numsZTo (z :: l) 0 ++ Lib.itoa z = _
    rw [numsZTo_zero]
    show Lib.itoa z = Lib.join [Lib.itoa z] [32]
    rw [Lib.join_one]
  | z :: l, k + 1, hk =>
    have hk' : k < l.length := by simpa using hk
    rw [if_pos (Nat.succ_pos k)]
    unfold numsZTo
    simp only [List.take_succ_cons, List.map_cons, Lib.join_cons]
    have e := Lib.joinTail_take_succ [32] (l.map Lib.itoa) k (Lib.itoa l[k]) (by simp [hk'])
    rw [← List.map_take, ← List.map_take] at e
    rw [e, List.getElem_cons_succ]
    simp only [List.append_assoc]
theorem numsZTo_len (zs : List Int) (h : ∀ z ∈ zs, I64 z) : ∀ k, k ≤ zs.length → (numsZTo zs k).length ≤ 21 * k
  | 0, _ => by rw [numsZTo_zero]; exact Nat.le_refl _
  | k + 1, hk => by
    have ih := numsZTo_len zs h k (by omega)
    have hz := itoa_len (h _ (List.getElem_mem (show k < zs.length by omega)))
    rw [← numsZ_step zs k (by omega), List.length_append]
    split
    · rw [List.length_append, List.length_singleton]; omega
    · omega
theorem numsZ_len {zs : List Int} (h : ∀ z ∈ zs, I64 z) : (numsZ zs).length ≤ 21 * zs.length := by
  rw [← numsZTo_all]
  exact numsZTo_len zs h _ (Nat.le_refl _)
theorem fmtN_len {zs : List Int} (h : ∀ z ∈ zs, I64 z) : (fmtN zs).length ≤ 1 + 21 * zs.length := by
  unfold fmtN
  split
  · simp
  · have := numsZ_len h
    omega
end Go.Proofs.YtajannebpejpkaaDoor
