/-
  What holds in the region of the model's WithoutCoercion that puts two parts of a list together: by what has been done.
-/
import Derived.Test.YtplpnammboofiaaSwl
import Derived.Test.YtplpnammboofiaaApply
namespace Go.Proofs.Ytplpnammboofiaa
open Go.RowKit

/-- Types without a coercion. -/
def cutCo (t : Ty) (i : Nat) : Ty := ⟨t.sizes, t.cos.take i ++ t.cos.drop (i + 1)⟩
def wout (t : Ty) (i : Int) : Ty := if hasC t i = true then cutCo t i.toNat else ⟨[], []⟩

theorem fl_of {a b : Bool} (h : a = true → b = true) (hb : b = false) : a = false := by
  cases a with
  | false => rfl
  | true => rw [h rfl] at hb; cases hb

structure WoF (lo hi N : Nat) (w4 : World) (ca cb : List Co) (f : Nat → Bool) (x14 x15 x16 x17 x18 x19 x20 x21 x22 x23 x24 x25 x6 v15 v16 v17 v18 v20 v21 v22 v23 v24 : Value) (u : World) : Prop where
  bel : Below N w4 u
  b0 : f 0 = true → f 5 = false → ∃ b, N ≤ b ∧ x14 = .slice (some ⟨b, 0, none⟩) 0 0 ∧ Row u b 28 []
  b1 : f 1 = true → x15 = v15
  b2 : f 2 = true → x16 = v16
  b3 : f 3 = true → x17 = v17
  b4 : f 4 = true → x18 = v18
  b5 : f 5 = true → f 11 = false → ∃ A c news, x19 = .slice A ca.length c ∧ u.ownsRow N 28 3 x19 ca.length news ∧ CosNews u lo hi news ca
  b6 : f 6 = true → x20 = v20
  b7 : f 7 = true → x21 = v21
  b8 : f 8 = true → x22 = v22
  b9 : f 9 = true → x23 = v23
  b10 : f 10 = true → x24 = v24
  b11 : f 11 = true → ∃ A c news, x25 = .slice A (ca.length + cb.length) c ∧ u.ownsRow N 28 3 x25 (ca.length + cb.length) news ∧ CosNews u lo hi news (ca ++ cb)
  b12 : f 12 = true → x6 = x25
  c5_0 : f 5 = true → f 0 = true
  c11_5 : f 11 = true → f 5 = true
  c12_11 : f 12 = true → f 11 = true
section
variable {lo hi N : Nat} {w4 u : World} {ca cb : List Co} {f : Nat → Bool} {x14 x15 x16 x17 x18 x19 x20 x21 x22 x23 x24 x25 x6 v15 v16 v17 v18 v20 v21 v22 v23 v24 : Value}
theorem WoF.n5 (h : WoF lo hi N w4 ca cb f x14 x15 x16 x17 x18 x19 x20 x21 x22 x23 x24 x25 x6 v15 v16 v17 v18 v20 v21 v22 v23 v24 u) (h0 : f 0 = false) : f 5 = false := fl_of h.c5_0 h0
theorem WoF.n11 (h : WoF lo hi N w4 ca cb f x14 x15 x16 x17 x18 x19 x20 x21 x22 x23 x24 x25 x6 v15 v16 v17 v18 v20 v21 v22 v23 v24 u) (h0 : f 5 = false) : f 11 = false := fl_of h.c11_5 h0
theorem WoF.n12 (h : WoF lo hi N w4 ca cb f x14 x15 x16 x17 x18 x19 x20 x21 x22 x23 x24 x25 x6 v15 v16 v17 v18 v20 v21 v22 v23 v24 u) (h0 : f 11 = false) : f 12 = false := fl_of h.c12_11 h0
theorem WoF.s0 (h : WoF lo hi N w4 ca cb f x14 x15 x16 x17 x18 x19 x20 x21 x22 x23 x24 x25 x6 v15 v16 v17 v18 v20 v21 v22 v23 v24 u) {b : Nat} {u2 : World} (h0 : f 0 = false) (hN : N ≤ u.heap.size) (hb : Below u.heap.size u u2) (hbN : N ≤ b) (hr : Row u2 b 28 []) : WoF lo hi N w4 ca cb (fun k => decide (k = 0) || f k) (.slice (some ⟨b, 0, none⟩) 0 0) x15 x16 x17 x18 x19 x20 x21 x22 x23 x24 x25 x6 v15 v16 v17 v18 v20 v21 v22 v23 v24 u2 where
  bel := ⟨hb.os.trans h.bel.os, hb.tape.trans h.bel.tape, hb.output.trans h.bel.output, Nat.le_trans h.bel.size hb.size, fun k hk => (hb.block k (Nat.lt_of_lt_of_le hk hN)).trans (h.bel.block k hk)⟩
  b0 := fun _ _ => ⟨b, hbN, rfl, hr⟩
  b1 := by simpa using h.b1
  b2 := by simpa using h.b2
  b3 := by simpa using h.b3
  b4 := by simpa using h.b4
  b5 := fun e => by simp [h.n5 h0] at e
  b6 := by simpa using h.b6
  b7 := by simpa using h.b7
  b8 := by simpa using h.b8
  b9 := by simpa using h.b9
  b10 := by simpa using h.b10
  b11 := fun e => by simp [h.n11 (h.n5 h0)] at e
  b12 := by simpa using h.b12
  c5_0 := fun e => by simp [h.c5_0 (by simpa using e)]
  c11_5 := fun e => by simp [h.c11_5 (by simpa using e)]
  c12_11 := fun e => by simp [h.c12_11 (by simpa using e)]
theorem WoF.s1 (h : WoF lo hi N w4 ca cb f x14 x15 x16 x17 x18 x19 x20 x21 x22 x23 x24 x25 x6 v15 v16 v17 v18 v20 v21 v22 v23 v24 u) : WoF lo hi N w4 ca cb (fun k => decide (k = 1) || f k) x14 v15 x16 x17 x18 x19 x20 x21 x22 x23 x24 x25 x6 v15 v16 v17 v18 v20 v21 v22 v23 v24 u where
  bel := h.bel
  b0 := by simpa using h.b0
  b1 := fun _ => rfl
  b2 := by simpa using h.b2
  b3 := by simpa using h.b3
  b4 := by simpa using h.b4
  b5 := by simpa using h.b5
  b6 := by simpa using h.b6
  b7 := by simpa using h.b7
  b8 := by simpa using h.b8
  b9 := by simpa using h.b9
  b10 := by simpa using h.b10
  b11 := by simpa using h.b11
  b12 := by simpa using h.b12
  c5_0 := fun e => by simp [h.c5_0 (by simpa using e)]
  c11_5 := fun e => by simp [h.c11_5 (by simpa using e)]
  c12_11 := fun e => by simp [h.c12_11 (by simpa using e)]
theorem WoF.s2 (h : WoF lo hi N w4 ca cb f x14 x15 x16 x17 x18 x19 x20 x21 x22 x23 x24 x25 x6 v15 v16 v17 v18 v20 v21 v22 v23 v24 u) : WoF lo hi N w4 ca cb (fun k => decide (k = 2) || f k) x14 x15 v16 x17 x18 x19 x20 x21 x22 x23 x24 x25 x6 v15 v16 v17 v18 v20 v21 v22 v23 v24 u where
  bel := h.bel
  b0 := by simpa using h.b0
  b1 := by simpa using h.b1
  b2 := fun _ => rfl
  b3 := by simpa using h.b3
  b4 := by simpa using h.b4
  b5 := by simpa using h.b5
  b6 := by simpa using h.b6
  b7 := by simpa using h.b7
  b8 := by simpa using h.b8
  b9 := by simpa using h.b9
  b10 := by simpa using h.b10
  b11 := by simpa using h.b11
  b12 := by simpa using h.b12
  c5_0 := fun e => by simp [h.c5_0 (by simpa using e)]
  c11_5 := fun e => by simp [h.c11_5 (by simpa using e)]
  c12_11 := fun e => by simp [h.c12_11 (by simpa using e)]
theorem WoF.s3 (h : WoF lo hi N w4 ca cb f x14 x15 x16 x17 x18 x19 x20 x21 x22 x23 x24 x25 x6 v15 v16 v17 v18 v20 v21 v22 v23 v24 u) : WoF lo hi N w4 ca cb (fun k => decide (k = 3) || f k) x14 x15 x16 v17 x18 x19 x20 x21 x22 x23 x24 x25 x6 v15 v16 v17 v18 v20 v21 v22 v23 v24 u where
  bel := h.bel
  b0 := by simpa using h.b0
  b1 := by simpa using h.b1
  b2 := by simpa using h.b2
  b3 := fun _ => rfl
  b4 := by simpa using h.b4
  b5 := by simpa using h.b5
  b6 := by simpa using h.b6
  b7 := by simpa using h.b7
  b8 := by simpa using h.b8
  b9 := by simpa using h.b9
  b10 := by simpa using h.b10
  b11 := by simpa using h.b11
  b12 := by simpa using h.b12
  c5_0 := fun e => by simp [h.c5_0 (by simpa using e)]
  c11_5 := fun e => by simp [h.c11_5 (by simpa using e)]
  c12_11 := fun e => by simp [h.c12_11 (by simpa using e)]
theorem WoF.s4 (h : WoF lo hi N w4 ca cb f x14 x15 x16 x17 x18 x19 x20 x21 x22 x23 x24 x25 x6 v15 v16 v17 v18 v20 v21 v22 v23 v24 u) : WoF lo hi N w4 ca cb (fun k => decide (k = 4) || f k) x14 x15 x16 x17 v18 x19 x20 x21 x22 x23 x24 x25 x6 v15 v16 v17 v18 v20 v21 v22 v23 v24 u where
  bel := h.bel
  b0 := by simpa using h.b0
  b1 := by simpa using h.b1
  b2 := by simpa using h.b2
  b3 := by simpa using h.b3
  b4 := fun _ => rfl
  b5 := by simpa using h.b5
  b6 := by simpa using h.b6
  b7 := by simpa using h.b7
  b8 := by simpa using h.b8
  b9 := by simpa using h.b9
  b10 := by simpa using h.b10
  b11 := by simpa using h.b11
  b12 := by simpa using h.b12
  c5_0 := fun e => by simp [h.c5_0 (by simpa using e)]
  c11_5 := fun e => by simp [h.c11_5 (by simpa using e)]
  c12_11 := fun e => by simp [h.c12_11 (by simpa using e)]
theorem WoF.s5 (h : WoF lo hi N w4 ca cb f x14 x15 x16 x17 x18 x19 x20 x21 x22 x23 x24 x25 x6 v15 v16 v17 v18 v20 v21 v22 v23 v24 u) {b c : Nat} {A : Option Addr} {u2 : World} {news : List Value} (h0 : f 0 = true) (h5 : f 5 = false) (hbN : N ≤ b) (hhi : hi ≤ N) (hN : N ≤ u.heap.size) (hg : u.grownBy u2 (some b)) (ho : u2.ownsRow N 28 3 (.slice A ca.length c) ca.length news) (hn : CosNews u lo hi news ca) : WoF lo hi N w4 ca cb (fun k => decide (k = 5) || f k) x14 x15 x16 x17 x18 (.slice A ca.length c) x20 x21 x22 x23 x24 x25 x6 v15 v16 v17 v18 v20 v21 v22 v23 v24 u2 where
  bel := h.bel.trans ⟨hg.os, hg.tape, hg.output, hg.size, fun k hk => hg.block k (by omega) (by intro e; simp only [Option.some.injEq] at e; omega)⟩
  b0 := fun _ e => by simp at e
  b1 := by simpa using h.b1
  b2 := by simpa using h.b2
  b3 := by simpa using h.b3
  b4 := by simpa using h.b4
  b5 := fun _ _ => ⟨A, c, news, rfl, ho, hn.keep fun k _ hk => hg.block k (by omega) (by intro e; simp only [Option.some.injEq] at e; omega)⟩
  b6 := by simpa using h.b6
  b7 := by simpa using h.b7
  b8 := by simpa using h.b8
  b9 := by simpa using h.b9
  b10 := by simpa using h.b10
  b11 := fun e => by simp [h.n11 h5] at e
  b12 := by simpa using h.b12
  c5_0 := fun _ => by simp [h0]
  c11_5 := fun e => by simp [h.c11_5 (by simpa using e)]
  c12_11 := fun e => by simp [h.c12_11 (by simpa using e)]
theorem WoF.s6 (h : WoF lo hi N w4 ca cb f x14 x15 x16 x17 x18 x19 x20 x21 x22 x23 x24 x25 x6 v15 v16 v17 v18 v20 v21 v22 v23 v24 u) : WoF lo hi N w4 ca cb (fun k => decide (k = 6) || f k) x14 x15 x16 x17 x18 x19 v20 x21 x22 x23 x24 x25 x6 v15 v16 v17 v18 v20 v21 v22 v23 v24 u where
  bel := h.bel
  b0 := by simpa using h.b0
  b1 := by simpa using h.b1
  b2 := by simpa using h.b2
  b3 := by simpa using h.b3
  b4 := by simpa using h.b4
  b5 := by simpa using h.b5
  b6 := fun _ => rfl
  b7 := by simpa using h.b7
  b8 := by simpa using h.b8
  b9 := by simpa using h.b9
  b10 := by simpa using h.b10
  b11 := by simpa using h.b11
  b12 := by simpa using h.b12
  c5_0 := fun e => by simp [h.c5_0 (by simpa using e)]
  c11_5 := fun e => by simp [h.c11_5 (by simpa using e)]
  c12_11 := fun e => by simp [h.c12_11 (by simpa using e)]
theorem WoF.s7 (h : WoF lo hi N w4 ca cb f x14 x15 x16 x17 x18 x19 x20 x21 x22 x23 x24 x25 x6 v15 v16 v17 v18 v20 v21 v22 v23 v24 u) : WoF lo hi N w4 ca cb (fun k => decide (k = 7) || f k) x14 x15 x16 x17 x18 x19 x20 v21 x22 x23 x24 x25 x6 v15 v16 v17 v18 v20 v21 v22 v23 v24 u where
  bel := h.bel
  b0 := by simpa using h.b0
  b1 := by simpa using h.b1
  b2 := by simpa using h.b2
  b3 := by simpa using h.b3
  b4 := by simpa using h.b4
  b5 := by simpa using h.b5
  b6 := by simpa using h.b6
  b7 := fun _ => rfl
  b8 := by simpa using h.b8
  b9 := by simpa using h.b9
  b10 := by simpa using h.b10
  b11 := by simpa using h.b11
  b12 := by simpa using h.b12
  c5_0 := fun e => by simp [h.c5_0 (by simpa using e)]
  c11_5 := fun e => by simp [h.c11_5 (by simpa using e)]
  c12_11 := fun e => by simp [h.c12_11 (by simpa using e)]
theorem WoF.s8 (h : WoF lo hi N w4 ca cb f x14 x15 x16 x17 x18 x19 x20 x21 x22 x23 x24 x25 x6 v15 v16 v17 v18 v20 v21 v22 v23 v24 u) : WoF lo hi N w4 ca cb (fun k => decide (k = 8) || f k) x14 x15 x16 x17 x18 x19 x20 x21 v22 x23 x24 x25 x6 v15 v16 v17 v18 v20 v21 v22 v23 v24 u where
  bel := h.bel
  b0 := by simpa using h.b0
  b1 := by simpa using h.b1
  b2 := by simpa using h.b2
  b3 := by simpa using h.b3
  b4 := by simpa using h.b4
  b5 := by simpa using h.b5
  b6 := by simpa using h.b6
  b7 := by simpa using h.b7
  b8 := fun _ => rfl
  b9 := by simpa using h.b9
  b10 := by simpa using h.b10
  b11 := by simpa using h.b11
  b12 := by simpa using h.b12
  c5_0 := fun e => by simp [h.c5_0 (by simpa using e)]
  c11_5 := fun e => by simp [h.c11_5 (by simpa using e)]
  c12_11 := fun e => by simp [h.c12_11 (by simpa using e)]
theorem WoF.s9 (h : WoF lo hi N w4 ca cb f x14 x15 x16 x17 x18 x19 x20 x21 x22 x23 x24 x25 x6 v15 v16 v17 v18 v20 v21 v22 v23 v24 u) : WoF lo hi N w4 ca cb (fun k => decide (k = 9) || f k) x14 x15 x16 x17 x18 x19 x20 x21 x22 v23 x24 x25 x6 v15 v16 v17 v18 v20 v21 v22 v23 v24 u where
  bel := h.bel
  b0 := by simpa using h.b0
  b1 := by simpa using h.b1
  b2 := by simpa using h.b2
  b3 := by simpa using h.b3
  b4 := by simpa using h.b4
  b5 := by simpa using h.b5
  b6 := by simpa using h.b6
  b7 := by simpa using h.b7
  b8 := by simpa using h.b8
  b9 := fun _ => rfl
  b10 := by simpa using h.b10
  b11 := by simpa using h.b11
  b12 := by simpa using h.b12
  c5_0 := fun e => by simp [h.c5_0 (by simpa using e)]
  c11_5 := fun e => by simp [h.c11_5 (by simpa using e)]
  c12_11 := fun e => by simp [h.c12_11 (by simpa using e)]
theorem WoF.s10 (h : WoF lo hi N w4 ca cb f x14 x15 x16 x17 x18 x19 x20 x21 x22 x23 x24 x25 x6 v15 v16 v17 v18 v20 v21 v22 v23 v24 u) : WoF lo hi N w4 ca cb (fun k => decide (k = 10) || f k) x14 x15 x16 x17 x18 x19 x20 x21 x22 x23 v24 x25 x6 v15 v16 v17 v18 v20 v21 v22 v23 v24 u where
  bel := h.bel
  b0 := by simpa using h.b0
  b1 := by simpa using h.b1
  b2 := by simpa using h.b2
  b3 := by simpa using h.b3
  b4 := by simpa using h.b4
  b5 := by simpa using h.b5
  b6 := by simpa using h.b6
  b7 := by simpa using h.b7
  b8 := by simpa using h.b8
  b9 := by simpa using h.b9
  b10 := fun _ => rfl
  b11 := by simpa using h.b11
  b12 := by simpa using h.b12
  c5_0 := fun e => by simp [h.c5_0 (by simpa using e)]
  c11_5 := fun e => by simp [h.c11_5 (by simpa using e)]
  c12_11 := fun e => by simp [h.c12_11 (by simpa using e)]
theorem WoF.s11 (h : WoF lo hi N w4 ca cb f x14 x15 x16 x17 x18 x19 x20 x21 x22 x23 x24 x25 x6 v15 v16 v17 v18 v20 v21 v22 v23 v24 u) {c : Nat} {A B : Option Addr} {c2 : Nat} {u2 : World} {news n2 : List Value} (h11 : f 11 = false) (h5 : f 5 = true) (hhi : hi ≤ N) (hN : N ≤ u.heap.size) (_hx : x19 = .slice B ca.length c2) (hold : u.ownsRow N 28 3 (.slice B ca.length c2) ca.length news) (hg : u.grownBy u2 (Value.slice B ca.length c2).ownBlock) (ho : u2.ownsRow N 28 3 (.slice A (ca.length + cb.length) c) (ca.length + cb.length) (news ++ n2)) (hn : CosNews u lo hi news ca) (hn2 : CosNews u lo hi n2 cb) : WoF lo hi N w4 ca cb (fun k => decide (k = 11) || f k) x14 x15 x16 x17 x18 x19 x20 x21 x22 x23 x24 (.slice A (ca.length + cb.length) c) x6 v15 v16 v17 v18 v20 v21 v22 v23 v24 u2 where
  bel := h.bel.trans ⟨hg.os, hg.tape, hg.output, hg.size, fun k hk => hg.block k (by omega) (by intro e; have := owns_lt hold k e.symm; omega)⟩
  b0 := fun _ e => by simp [h5] at e
  b1 := by simpa using h.b1
  b2 := by simpa using h.b2
  b3 := by simpa using h.b3
  b4 := by simpa using h.b4
  b5 := fun _ e => by simp at e
  b6 := by simpa using h.b6
  b7 := by simpa using h.b7
  b8 := by simpa using h.b8
  b9 := by simpa using h.b9
  b10 := by simpa using h.b10
  b11 := fun _ => ⟨A, c, news ++ n2, rfl, ho, (hn.app hn2).keep fun k _ hk => hg.block k (by omega) (by intro e; have := owns_lt hold k e.symm; omega)⟩
  b12 := fun e => by simp [h.n12 h11] at e
  c5_0 := fun e => by simp [h.c5_0 (by simpa using e)]
  c11_5 := fun _ => by simp [h5]
  c12_11 := fun e => by simp [h.c12_11 (by simpa using e)]
theorem WoF.s12 (h : WoF lo hi N w4 ca cb f x14 x15 x16 x17 x18 x19 x20 x21 x22 x23 x24 x25 x6 v15 v16 v17 v18 v20 v21 v22 v23 v24 u) (h11 : f 11 = true) : WoF lo hi N w4 ca cb (fun k => decide (k = 12) || f k) x14 x15 x16 x17 x18 x19 x20 x21 x22 x23 x24 x25 x25 v15 v16 v17 v18 v20 v21 v22 v23 v24 u where
  bel := h.bel
  b0 := by simpa using h.b0
  b1 := by simpa using h.b1
  b2 := by simpa using h.b2
  b3 := by simpa using h.b3
  b4 := by simpa using h.b4
  b5 := by simpa using h.b5
  b6 := by simpa using h.b6
  b7 := by simpa using h.b7
  b8 := by simpa using h.b8
  b9 := by simpa using h.b9
  b10 := by simpa using h.b10
  b11 := by simpa using h.b11
  b12 := fun _ => rfl
  c5_0 := fun e => by simp [h.c5_0 (by simpa using e)]
  c11_5 := fun e => by simp [h.c11_5 (by simpa using e)]
  c12_11 := fun _ => by simp [h11]
end
end Go.Proofs.Ytplpnammboofiaa
