/-
  How the program's reader reads a text from the left; plain data only. What a call of the reader keeps.
-/
import Derived.Test.YtcecljolnknapaaDoorTxd
namespace Go.Proofs.YtcecljolnknapaaDoor
open Go.RowKit

def isD (c : UInt8) : Bool := decide (48 ≤ c.toNat) && decide (c.toNat ≤ 57)
def valD (c : UInt8) : Int := (c.toNat : Int) - 48
def rdDigit : List UInt8 → Option (Int × List UInt8)
  | [] => none
  | c :: l => if isD c = true then some (valD c, l) else none
def rdTake (s : UInt8) : List UInt8 → Option (List UInt8)
  | [] => none
  | c :: l => if c = s then some l else none
def hasB (s : UInt8) : List UInt8 → Bool
  | [] => false
  | c :: _ => decide (c = s)
/-- Further numbers, each behind one space. -/
def rdMore : List UInt8 → Option (List Int × List UInt8)
  | [] => some ([], [])
  | [c] => if c = 32 then none else some ([], [c])
  | c :: d :: r => if c = 32 then (if isD d = true then (rdMore r).map fun p => (valD d :: p.1, p.2) else none) else some ([], c :: d :: r)
def rdNums (l : List UInt8) : Option (List Int × List UInt8) := (rdDigit l).bind fun p => (rdMore p.2).map fun q => (p.1 :: q.1, q.2)
def rdCo (l : List UInt8) : Option (Co × List UInt8) :=
  (rdDigit l).bind fun a => (rdTake 62 a.2).bind fun r1 => (rdDigit r1).bind fun b => (rdTake 58 b.2).bind fun r2 => (rdNums r2).map fun m => (⟨a.1, b.1, m.1⟩, m.2)
theorem rdMore_space {l : List UInt8} (h : hasB 32 l = true) : rdMore l = (rdTake 32 l).bind fun r => (rdDigit r).bind fun p => (rdMore p.2).map fun q => (p.1 :: q.1, q.2) := by
  match l, h with
  | [c], h =>
    have hc : c = 32 := by simpa [hasB] using h
    subst hc
    rfl
  | c :: d :: r, h =>
    have hc : c = 32 := by simpa [hasB] using h
    subst hc
    by_cases hd : isD d = true
    · simp [rdMore, rdTake, rdDigit, hd]
    · simp [rdMore, rdTake, rdDigit, hd]
theorem rdMore_end {l : List UInt8} (h : hasB 32 l = false) : rdMore l = some ([], l) := by
  match l, h with
  | [], _ => rfl
  | [c], h =>
    have hc : ¬ c = 32 := by simpa [hasB] using h
    simp [rdMore, hc]
  | c :: d :: r, h =>
    have hc : ¬ c = 32 := by simpa [hasB] using h
    simp [rdMore, hc]
theorem rdDigit_len {l r : List UInt8} {z : Int} (h : rdDigit l = some (z, r)) : r.length + 1 = l.length := by
  match l, h with
  | c :: l, h =>
    simp only [rdDigit] at h
    split at h
    · simp only [Option.some.injEq, Prod.mk.injEq] at h
      rw [← h.2]
      rfl
    · cases h
theorem rdTake_len {s : UInt8} {l r : List UInt8} (h : rdTake s l = some r) : r.length + 1 = l.length := by
  match l, h with
  | c :: l, h =>
    simp only [rdTake] at h
    split at h
    · simp only [Option.some.injEq] at h
      rw [← h]
      rfl
    · cases h
theorem rdDigit_dig {l r : List UInt8} {z : Int} (h : rdDigit l = some (z, r)) : Dig z := by
  match l, h with
  | c :: l, h =>
    simp only [rdDigit] at h
    split at h
    · rename_i hc
      simp only [Option.some.injEq, Prod.mk.injEq] at h
      simp only [isD, Bool.and_eq_true, decide_eq_true_eq] at hc
      rw [← h.1]
      unfold Dig valD
      omega
    · cases h

/-- What a call of the reader in block b keeps: every block that stood, but b. -/
structure Keep (b : Nat) (w w' : World) : Prop where
  grown : w.grownBy w' (some b)
theorem Keep.refl (b : Nat) (w : World) : Keep b w w := ⟨⟨rfl, rfl, rfl, Nat.le_refl _, fun _ _ _ => rfl⟩⟩
theorem Keep.size {b : Nat} {w w' : World} (h : Keep b w w') : w.heap.size ≤ w'.heap.size := h.grown.size
theorem Keep.block {b : Nat} {w w' : World} (h : Keep b w w') {k : Nat} (hk : k < w.heap.size) (hb : k ≠ b) : w'.heap[k]? = w.heap[k]? := h.grown.block k hk fun e => hb (Option.some.inj e)
theorem Keep.trans {b : Nat} {w w' w'' : World} (h : Keep b w w') (k : Keep b w' w'') : Keep b w w'' :=
  ⟨⟨k.grown.os.trans h.grown.os, k.grown.tape.trans h.grown.tape, k.grown.output.trans h.grown.output, Nat.le_trans h.size k.size, fun j hj hb => (k.grown.block j (Nat.lt_of_lt_of_le hj h.size) hb).trans (h.grown.block j hj hb)⟩⟩
theorem Keep.of_below {b : Nat} {w w' w'' : World} (h : Keep b w w') (k : Below w'.heap.size w' w'') : Keep b w w'' :=
  h.trans ⟨⟨k.os, k.tape, k.output, k.size, fun j hj _ => k.block j hj⟩⟩
theorem Keep.setb {b : Nat} {w w' : World} (h : Keep b w w') (v : Value) : Keep b w (w'.setCell ⟨b, 0, none⟩ v) :=
  h.trans ⟨⟨rfl, rfl, rfl, by simp [World.setCell], fun j _ hb => Below.heap_setCell _ _ _ _ (fun e => hb (by simp [e]))⟩⟩
theorem Keep.below {b B : Nat} {w w' : World} (h : Keep b w w') (hb : B ≤ b) (hB : B ≤ w.heap.size) : Below B w w' :=
  ⟨h.grown.os, h.grown.tape, h.grown.output, h.size, fun k hk => h.block (by omega) (by omega)⟩
end Go.Proofs.YtcecljolnknapaaDoor
