/-
  The contract of the program's IsRedundant.
-/
import Derived.Test.YtokklaoldgdkaaaRinv
import Derived.Test.YtokklaoldgdkaaaCnt
import Derived.Test.YtokklaoldgdkaaaWmk
import Derived.Test.YtokklaoldgdkaaaRedd
namespace Go.Proofs.Ytokklaoldgdkaaa
open Go.RowKit

structure RedG (i : Int) (im : List (List Int)) (nw : Nat) (wr : World) (f : Nat → Bool) (x22 x23 x24 x25 x26 x27 x28 x29 x30 x31 x32 x33 x34 x35 x4 v22 v23 v24 v25 v26 v28 v29 v30 v31 v33 v34 v35 v4 : Value) (u : World) : Prop where
  wb : Below wr.heap.size wr u
  b0 : f 0 = true → x22 = v22
  b1 : f 1 = true → x23 = v23
  b2 : f 2 = true → x24 = v24
  b3 : f 3 = true → x25 = v25
  b4 : f 4 = true → x26 = v26
  b5 : f 5 = true → ∃ Bm D, x27 = .map (some Bm) ∧ u.ownsMap Try.prog 89 (plainElem Try.prog 3) Bm nw D ∧ Cnt im D
  b6 : f 6 = true → x28 = v28
  b7 : f 7 = true → x29 = v29
  b8 : f 8 = true → x30 = v30
  b9 : f 9 = true → x31 = v31
  b10 : f 10 = true → ∃ q, x32 = .slice (some ⟨q, 0, none⟩) 1 1 ∧ wr.heap.size ≤ q ∧ Row u q 3 [.int .i64 i]
  b11 : f 11 = true → x33 = v33
  b12 : f 12 = true → x34 = v34
  b13 : f 13 = true → x35 = v35
  b14 : f 14 = true → x4 = v4
section
variable {i : Int} {im : List (List Int)} {nw : Nat} {wr u : World} {f : Nat → Bool} {x22 x23 x24 x25 x26 x27 x28 x29 x30 x31 x32 x33 x34 x35 x4 v22 v23 v24 v25 v26 v28 v29 v30 v31 v33 v34 v35 v4 : Value}
theorem RedG.s0 (h : RedG i im nw wr f x22 x23 x24 x25 x26 x27 x28 x29 x30 x31 x32 x33 x34 x35 x4 v22 v23 v24 v25 v26 v28 v29 v30 v31 v33 v34 v35 v4 u) : RedG i im nw wr (fun k => decide (k = 0) || f k) v22 x23 x24 x25 x26 x27 x28 x29 x30 x31 x32 x33 x34 x35 x4 v22 v23 v24 v25 v26 v28 v29 v30 v31 v33 v34 v35 v4 u where
  wb := h.wb
  b0 := fun _ => rfl
  b1 := by simpa using h.b1
  b2 := by simpa using h.b2
  b3 := by simpa using h.b3
  b4 := by simpa using h.b4
  b5 := by simpa using h.b5
  b6 := by simpa using h.b6
  b7 := by simpa using h.b7
  b8 := by simpa using h.b8
  b9 := by simpa using h.b9
  b10 := by simpa using h.b10
  b11 := by simpa using h.b11
  b12 := by simpa using h.b12
  b13 := by simpa using h.b13
  b14 := by simpa using h.b14
theorem RedG.s1 (h : RedG i im nw wr f x22 x23 x24 x25 x26 x27 x28 x29 x30 x31 x32 x33 x34 x35 x4 v22 v23 v24 v25 v26 v28 v29 v30 v31 v33 v34 v35 v4 u) : RedG i im nw wr (fun k => decide (k = 1) || f k) x22 v23 x24 x25 x26 x27 x28 x29 x30 x31 x32 x33 x34 x35 x4 v22 v23 v24 v25 v26 v28 v29 v30 v31 v33 v34 v35 v4 u where
  wb := h.wb
  b0 := by simpa using h.b0
  b1 := fun _ => rfl
  b2 := by simpa using h.b2
  b3 := by simpa using h.b3
  b4 := by simpa using h.b4
  b5 := by simpa using h.b5
  b6 := by simpa using h.b6
  b7 := by simpa using h.b7
  b8 := by simpa using h.b8
  b9 := by simpa using h.b9
  b10 := by simpa using h.b10
  b11 := by simpa using h.b11
  b12 := by simpa using h.b12
  b13 := by simpa using h.b13
  b14 := by simpa using h.b14
theorem RedG.s2 (h : RedG i im nw wr f x22 x23 x24 x25 x26 x27 x28 x29 x30 x31 x32 x33 x34 x35 x4 v22 v23 v24 v25 v26 v28 v29 v30 v31 v33 v34 v35 v4 u) : RedG i im nw wr (fun k => decide (k = 2) || f k) x22 x23 v24 x25 x26 x27 x28 x29 x30 x31 x32 x33 x34 x35 x4 v22 v23 v24 v25 v26 v28 v29 v30 v31 v33 v34 v35 v4 u where
  wb := h.wb
  b0 := by simpa using h.b0
  b1 := by simpa using h.b1
  b2 := fun _ => rfl
  b3 := by simpa using h.b3
  b4 := by simpa using h.b4
  b5 := by simpa using h.b5
  b6 := by simpa using h.b6
  b7 := by simpa using h.b7
  b8 := by simpa using h.b8
  b9 := by simpa using h.b9
  b10 := by simpa using h.b10
  b11 := by simpa using h.b11
  b12 := by simpa using h.b12
  b13 := by simpa using h.b13
  b14 := by simpa using h.b14
theorem RedG.s3 (h : RedG i im nw wr f x22 x23 x24 x25 x26 x27 x28 x29 x30 x31 x32 x33 x34 x35 x4 v22 v23 v24 v25 v26 v28 v29 v30 v31 v33 v34 v35 v4 u) : RedG i im nw wr (fun k => decide (k = 3) || f k) x22 x23 x24 v25 x26 x27 x28 x29 x30 x31 x32 x33 x34 x35 x4 v22 v23 v24 v25 v26 v28 v29 v30 v31 v33 v34 v35 v4 u where
  wb := h.wb
  b0 := by simpa using h.b0
  b1 := by simpa using h.b1
  b2 := by simpa using h.b2
  b3 := fun _ => rfl
  b4 := by simpa using h.b4
  b5 := by simpa using h.b5
  b6 := by simpa using h.b6
  b7 := by simpa using h.b7
  b8 := by simpa using h.b8
  b9 := by simpa using h.b9
  b10 := by simpa using h.b10
  b11 := by simpa using h.b11
  b12 := by simpa using h.b12
  b13 := by simpa using h.b13
  b14 := by simpa using h.b14
theorem RedG.s4 (h : RedG i im nw wr f x22 x23 x24 x25 x26 x27 x28 x29 x30 x31 x32 x33 x34 x35 x4 v22 v23 v24 v25 v26 v28 v29 v30 v31 v33 v34 v35 v4 u) : RedG i im nw wr (fun k => decide (k = 4) || f k) x22 x23 x24 x25 v26 x27 x28 x29 x30 x31 x32 x33 x34 x35 x4 v22 v23 v24 v25 v26 v28 v29 v30 v31 v33 v34 v35 v4 u where
  wb := h.wb
  b0 := by simpa using h.b0
  b1 := by simpa using h.b1
  b2 := by simpa using h.b2
  b3 := by simpa using h.b3
  b4 := fun _ => rfl
  b5 := by simpa using h.b5
  b6 := by simpa using h.b6
  b7 := by simpa using h.b7
  b8 := by simpa using h.b8
  b9 := by simpa using h.b9
  b10 := by simpa using h.b10
  b11 := by simpa using h.b11
  b12 := by simpa using h.b12
  b13 := by simpa using h.b13
  b14 := by simpa using h.b14
theorem RedG.s5 (h : RedG i im nw wr f x22 x23 x24 x25 x26 x27 x28 x29 x30 x31 x32 x33 x34 x35 x4 v22 v23 v24 v25 v26 v28 v29 v30 v31 v33 v34 v35 v4 u) {u2 : World} (hb : Below u.heap.size u u2) {Bm : Nat} {D : DataW Unit} (ho : u2.ownsMap Try.prog 89 (plainElem Try.prog 3) Bm nw D) (hc : Cnt im D) : RedG i im nw wr (fun k => decide (k = 5) || f k) x22 x23 x24 x25 x26 (.map (some Bm)) x28 x29 x30 x31 x32 x33 x34 x35 x4 v22 v23 v24 v25 v26 v28 v29 v30 v31 v33 v34 v35 v4 u2 where
  wb := h.wb.trans (hb.mono h.wb.size)
  b0 := by simpa using h.b0
  b1 := by simpa using h.b1
  b2 := by simpa using h.b2
  b3 := by simpa using h.b3
  b4 := by simpa using h.b4
  b5 := fun _ => ⟨Bm, D, rfl, ho, hc⟩
  b6 := by simpa using h.b6
  b7 := by simpa using h.b7
  b8 := by simpa using h.b8
  b9 := by simpa using h.b9
  b10 := fun e => by
    obtain ⟨q, h1, h2, h3⟩ := h.b10 (by simpa using e)
    exact ⟨q, h1, h2, h3.below hb h3.lt⟩
  b11 := by simpa using h.b11
  b12 := by simpa using h.b12
  b13 := by simpa using h.b13
  b14 := by simpa using h.b14
theorem RedG.s6 (h : RedG i im nw wr f x22 x23 x24 x25 x26 x27 x28 x29 x30 x31 x32 x33 x34 x35 x4 v22 v23 v24 v25 v26 v28 v29 v30 v31 v33 v34 v35 v4 u) : RedG i im nw wr (fun k => decide (k = 6) || f k) x22 x23 x24 x25 x26 x27 v28 x29 x30 x31 x32 x33 x34 x35 x4 v22 v23 v24 v25 v26 v28 v29 v30 v31 v33 v34 v35 v4 u where
  wb := h.wb
  b0 := by simpa using h.b0
  b1 := by simpa using h.b1
  b2 := by simpa using h.b2
  b3 := by simpa using h.b3
  b4 := by simpa using h.b4
  b5 := by simpa using h.b5
  b6 := fun _ => rfl
  b7 := by simpa using h.b7
  b8 := by simpa using h.b8
  b9 := by simpa using h.b9
  b10 := by simpa using h.b10
  b11 := by simpa using h.b11
  b12 := by simpa using h.b12
  b13 := by simpa using h.b13
  b14 := by simpa using h.b14
theorem RedG.s7 (h : RedG i im nw wr f x22 x23 x24 x25 x26 x27 x28 x29 x30 x31 x32 x33 x34 x35 x4 v22 v23 v24 v25 v26 v28 v29 v30 v31 v33 v34 v35 v4 u) : RedG i im nw wr (fun k => decide (k = 7) || f k) x22 x23 x24 x25 x26 x27 x28 v29 x30 x31 x32 x33 x34 x35 x4 v22 v23 v24 v25 v26 v28 v29 v30 v31 v33 v34 v35 v4 u where
  wb := h.wb
  b0 := by simpa using h.b0
  b1 := by simpa using h.b1
  b2 := by simpa using h.b2
  b3 := by simpa using h.b3
  b4 := by simpa using h.b4
  b5 := by simpa using h.b5
  b6 := by simpa using h.b6
  b7 := fun _ => rfl
  b8 := by simpa using h.b8
  b9 := by simpa using h.b9
  b10 := by simpa using h.b10
  b11 := by simpa using h.b11
  b12 := by simpa using h.b12
  b13 := by simpa using h.b13
  b14 := by simpa using h.b14
theorem RedG.s8 (h : RedG i im nw wr f x22 x23 x24 x25 x26 x27 x28 x29 x30 x31 x32 x33 x34 x35 x4 v22 v23 v24 v25 v26 v28 v29 v30 v31 v33 v34 v35 v4 u) : RedG i im nw wr (fun k => decide (k = 8) || f k) x22 x23 x24 x25 x26 x27 x28 x29 v30 x31 x32 x33 x34 x35 x4 v22 v23 v24 v25 v26 v28 v29 v30 v31 v33 v34 v35 v4 u where
  wb := h.wb
  b0 := by simpa using h.b0
  b1 := by simpa using h.b1
  b2 := by simpa using h.b2
  b3 := by simpa using h.b3
  b4 := by simpa using h.b4
  b5 := by simpa using h.b5
  b6 := by simpa using h.b6
  b7 := by simpa using h.b7
  b8 := fun _ => rfl
  b9 := by simpa using h.b9
  b10 := by simpa using h.b10
  b11 := by simpa using h.b11
  b12 := by simpa using h.b12
  b13 := by simpa using h.b13
  b14 := by simpa using h.b14
theorem RedG.s9 (h : RedG i im nw wr f x22 x23 x24 x25 x26 x27 x28 x29 x30 x31 x32 x33 x34 x35 x4 v22 v23 v24 v25 v26 v28 v29 v30 v31 v33 v34 v35 v4 u) : RedG i im nw wr (fun k => decide (k = 9) || f k) x22 x23 x24 x25 x26 x27 x28 x29 x30 v31 x32 x33 x34 x35 x4 v22 v23 v24 v25 v26 v28 v29 v30 v31 v33 v34 v35 v4 u where
  wb := h.wb
  b0 := by simpa using h.b0
  b1 := by simpa using h.b1
  b2 := by simpa using h.b2
  b3 := by simpa using h.b3
  b4 := by simpa using h.b4
  b5 := by simpa using h.b5
  b6 := by simpa using h.b6
  b7 := by simpa using h.b7
  b8 := by simpa using h.b8
  b9 := fun _ => rfl
  b10 := by simpa using h.b10
  b11 := by simpa using h.b11
  b12 := by simpa using h.b12
  b13 := by simpa using h.b13
  b14 := by simpa using h.b14
theorem RedG.s10 (h : RedG i im nw wr f x22 x23 x24 x25 x26 x27 x28 x29 x30 x31 x32 x33 x34 x35 x4 v22 v23 v24 v25 v26 v28 v29 v30 v31 v33 v34 v35 v4 u) {u2 : World} (hb : Below u.heap.size u u2) {q : Nat} (hq : u.heap.size ≤ q) (hr : Row u2 q 3 [.int .i64 i]) : RedG i im nw wr (fun k => decide (k = 10) || f k) x22 x23 x24 x25 x26 x27 x28 x29 x30 x31 (.slice (some ⟨q, 0, none⟩) 1 1) x33 x34 x35 x4 v22 v23 v24 v25 v26 v28 v29 v30 v31 v33 v34 v35 v4 u2 where
  wb := h.wb.trans (hb.mono h.wb.size)
  b0 := by simpa using h.b0
  b1 := by simpa using h.b1
  b2 := by simpa using h.b2
  b3 := by simpa using h.b3
  b4 := by simpa using h.b4
  b5 := fun e => by
    obtain ⟨Bm, D, h1, h2, h3⟩ := h.b5 (by simpa using e)
    exact ⟨Bm, D, h1, h2.kept (row := none) ⟨hb.os, hb.tape, hb.output, hb.size, fun q hq _ => hb.block q hq⟩ (by simp), h3⟩
  b6 := by simpa using h.b6
  b7 := by simpa using h.b7
  b8 := by simpa using h.b8
  b9 := by simpa using h.b9
  b10 := fun _ => ⟨q, rfl, Nat.le_trans h.wb.size hq, hr⟩
  b11 := by simpa using h.b11
  b12 := by simpa using h.b12
  b13 := by simpa using h.b13
  b14 := by simpa using h.b14
theorem RedG.s11 (h : RedG i im nw wr f x22 x23 x24 x25 x26 x27 x28 x29 x30 x31 x32 x33 x34 x35 x4 v22 v23 v24 v25 v26 v28 v29 v30 v31 v33 v34 v35 v4 u) {u2 : World} (hb : Below u.heap.size u u2) : RedG i im nw wr (fun k => decide (k = 11) || f k) x22 x23 x24 x25 x26 x27 x28 x29 x30 x31 x32 v33 x34 x35 x4 v22 v23 v24 v25 v26 v28 v29 v30 v31 v33 v34 v35 v4 u2 where
  wb := h.wb.trans (hb.mono h.wb.size)
  b0 := by simpa using h.b0
  b1 := by simpa using h.b1
  b2 := by simpa using h.b2
  b3 := by simpa using h.b3
  b4 := by simpa using h.b4
  b5 := fun e => by
    obtain ⟨Bm, D, h1, h2, h3⟩ := h.b5 (by simpa using e)
    exact ⟨Bm, D, h1, h2.kept (row := none) ⟨hb.os, hb.tape, hb.output, hb.size, fun q hq _ => hb.block q hq⟩ (by simp), h3⟩
  b6 := by simpa using h.b6
  b7 := by simpa using h.b7
  b8 := by simpa using h.b8
  b9 := by simpa using h.b9
  b10 := fun e => by
    obtain ⟨q, h1, h2, h3⟩ := h.b10 (by simpa using e)
    exact ⟨q, h1, h2, h3.below hb h3.lt⟩
  b11 := fun _ => rfl
  b12 := by simpa using h.b12
  b13 := by simpa using h.b13
  b14 := by simpa using h.b14
theorem RedG.s12 (h : RedG i im nw wr f x22 x23 x24 x25 x26 x27 x28 x29 x30 x31 x32 x33 x34 x35 x4 v22 v23 v24 v25 v26 v28 v29 v30 v31 v33 v34 v35 v4 u) : RedG i im nw wr (fun k => decide (k = 12) || f k) x22 x23 x24 x25 x26 x27 x28 x29 x30 x31 x32 x33 v34 x35 x4 v22 v23 v24 v25 v26 v28 v29 v30 v31 v33 v34 v35 v4 u where
  wb := h.wb
  b0 := by simpa using h.b0
  b1 := by simpa using h.b1
  b2 := by simpa using h.b2
  b3 := by simpa using h.b3
  b4 := by simpa using h.b4
  b5 := by simpa using h.b5
  b6 := by simpa using h.b6
  b7 := by simpa using h.b7
  b8 := by simpa using h.b8
  b9 := by simpa using h.b9
  b10 := by simpa using h.b10
  b11 := by simpa using h.b11
  b12 := fun _ => rfl
  b13 := by simpa using h.b13
  b14 := by simpa using h.b14
theorem RedG.s13 (h : RedG i im nw wr f x22 x23 x24 x25 x26 x27 x28 x29 x30 x31 x32 x33 x34 x35 x4 v22 v23 v24 v25 v26 v28 v29 v30 v31 v33 v34 v35 v4 u) : RedG i im nw wr (fun k => decide (k = 13) || f k) x22 x23 x24 x25 x26 x27 x28 x29 x30 x31 x32 x33 x34 v35 x4 v22 v23 v24 v25 v26 v28 v29 v30 v31 v33 v34 v35 v4 u where
  wb := h.wb
  b0 := by simpa using h.b0
  b1 := by simpa using h.b1
  b2 := by simpa using h.b2
  b3 := by simpa using h.b3
  b4 := by simpa using h.b4
  b5 := by simpa using h.b5
  b6 := by simpa using h.b6
  b7 := by simpa using h.b7
  b8 := by simpa using h.b8
  b9 := by simpa using h.b9
  b10 := by simpa using h.b10
  b11 := by simpa using h.b11
  b12 := by simpa using h.b12
  b13 := fun _ => rfl
  b14 := by simpa using h.b14
theorem RedG.s14 (h : RedG i im nw wr f x22 x23 x24 x25 x26 x27 x28 x29 x30 x31 x32 x33 x34 x35 x4 v22 v23 v24 v25 v26 v28 v29 v30 v31 v33 v34 v35 v4 u) : RedG i im nw wr (fun k => decide (k = 14) || f k) x22 x23 x24 x25 x26 x27 x28 x29 x30 x31 x32 x33 x34 x35 v4 v22 v23 v24 v25 v26 v28 v29 v30 v31 v33 v34 v35 v4 u where
  wb := h.wb
  b0 := by simpa using h.b0
  b1 := by simpa using h.b1
  b2 := by simpa using h.b2
  b3 := by simpa using h.b3
  b4 := by simpa using h.b4
  b5 := by simpa using h.b5
  b6 := by simpa using h.b6
  b7 := by simpa using h.b7
  b8 := by simpa using h.b8
  b9 := by simpa using h.b9
  b10 := by simpa using h.b10
  b11 := by simpa using h.b11
  b12 := by simpa using h.b12
  b13 := by simpa using h.b13
  b14 := fun _ => rfl
end

theorem if_yes2 {c : Bool} {A B : Prop} (h : c = true) (ha : A) : if c = true then A else B := by rw [if_pos h]; exact ha

set_option maxRecDepth 100000 in
set_option maxHeartbeats 4000000 in
theorem implRed_any (lo hi : Nat) (sv cv : Value) (t : Ty) (i : Int) (w : World) (hv : TyAt w lo hi sv cv t) (hB : hi ≤ w.heap.size) (hi64 : I64 i) :
    Calls Try.prog 27 #[.agg #[sv, cv], .int .i64 i] w fun e w' => e = .returned (.bool (redV t i)) ∧ Below w.heap.size w w' := by
  obtain ⟨A, cap, rfl, hl1, hm1, hi1⟩ := hv.1.form
  obtain ⟨B, bap, rfl, hl2, hm2, hc1⟩ := hv.2.form
  have h3 : Below w.heap.size w (w.alloc (.cells #[.slice A t.sizes.length cap, .slice B t.cos.length bap] 30)) := by go_grown
  have hv3 := Lib.hid (hv.below h3 hB)
  have Hc1 := Lib.hid hc1
  have Hv := Lib.hid hv
  clear hv hc1 hi1
  go_enter Try.func27, Try.ntmps27
  go_wp2_with fail
  refine (hasCoercion_any lo hi _ _ t i _ hv3.out (by simp; omega)).mono ?_
  rintro e w1 ⟨rfl, hb1⟩
  have H1 := Lib.hid (box2 (hb1.mono (by simp)))
  obtain ⟨q0, q1, hl, _⟩ := box2 (hb1.mono (by simp))
  clear hb1
  by_cases hok : hasC t i = true
  · obtain ⟨hty, hi0, hi1, hlt⟩ := hasC_of hok
    have hfin : Hid (redV t i = redB t i.toNat t.cos[i.toNat]) := by show _ = _; unfold redV; rw [hok, Bool.true_and, getD_at hlt]
    have hcnt := red_count hty hlt
    have hco := coOk_of (hasC_co hok hlt)
    obtain ⟨b, off, A3, cap3, rfl, hlo, hhi, c0, c1, c2, h5, h6, hs, hd, hz⟩ := (Hc1.out.below H1.out.2.2.2 hB).at_ hlt
    have hway : (wayEnd t.cos t.cos[i.toNat].src [((i.toNat : Nat) : Int)]).isSome = true := by rw [waysOf_end (waysOf_one hty hlt)]; rfl
    have hiN : ((i.toNat : Nat) : Int) = i := by omega
    rw [hiN] at hcnt hway
    have htb : typesB t t.cos[i.toNat].src t.cos[i.toNat].dst = true := by
      unfold typesB
      rw [hty, ixB_yes hco.1 (by omega), ixB_yes (by omega) hco.2.2.1]; rfl
    generalize hcc : t.cos[i.toNat] = c at *
    have Htb := Lib.hid htb
    have Hcnt := Lib.hid hcnt
    have Hway := Lib.hid hway
    have Hty := Lib.hid hty
    have hbl : b < w1.heap.size := by omega
    rw [hok]
    clear hok htb hcnt hway hcc hco hz hty
    go_wp2_with fail
    obtain ⟨wr, hwr⟩ : ∃ u, u = ((w1.alloc (.cells #[.slice A t.sizes.length cap, .slice (some ⟨b, off, none⟩) t.cos.length bap] 85)).alloc (.cells #[.int .i64 c.src, .int .i64 c.dst, .slice A3 c.map.length cap3] 52)) := ⟨_, rfl⟩
    rw [← hwr]
    have hb1r : Below w1.heap.size w1 wr := by rw [hwr]; go_grown
    have hrf : Row wr w1.heap.size 85 [.slice A t.sizes.length cap, .slice (some ⟨b, off, none⟩) t.cos.length bap] := by rw [hwr]; exact (Row.new w1 _ _).alloc _
    have hrc : Row wr (w1.heap.size + 1) 52 [.int .i64 c.src, .int .i64 c.dst, .slice A3 c.map.length cap3] := by
      rw [hwr]
      have := Row.new (w1.alloc (.cells #[.slice A t.sizes.length cap, .slice (some ⟨b, off, none⟩) t.cos.length bap] 85)) 52 [.int .i64 c.src, .int .i64 c.dst, .slice A3 c.map.length cap3]
      rwa [World.size_alloc] at this
    have hlr := hb1r.size
    have hbw := H1.out.2.2.2.trans (hb1r.mono (by omega))
    have hcells : ∀ u, Below wr.heap.size wr u → u.cell? ⟨w1.heap.size + 1, 0, none⟩ = some (.int .i64 c.src) ∧ u.cell? ⟨w1.heap.size + 1, 1, none⟩ = some (.int .i64 c.dst) := fun u hu => by
      have r1 := hrc.below hu hrc.lt
      exact ⟨r1.cell 0, r1.cell 1⟩
    obtain ⟨hty, ha0, ha1, hb0, hb1⟩ := typesB_of Htb.out
    have hwm : ∀ u, Below wr.heap.size wr u → Calls Try.prog 75 #[.pointer (some ⟨w1.heap.size, 0, none⟩), .int .i64 c.src, .int .i64 c.dst] u fun e u2 => ∃ Bm D, e = .returned (.map (some Bm)) ∧ Below u.heap.size u u2 ∧
        u2.ownsMap Try.prog 89 (plainElem Try.prog 3) Bm (waysOf t c.src c.dst).length D ∧ Cnt ((waysOf t c.src c.dst).map (imgV t c.src)) D := fun u hu =>
      (waysMaking_any lo hi w1.heap.size _ _ t c.src c.dst u (Hv.out.below (hbw.trans (hu.mono hbw.size)) hB) (by have := hu.size; have := hbw.size; omega) (hrf.below hu hrf.lt) Htb.out).mono fun e u2 ⟨Bm, D, h1, h2, _, h4, h5⟩ => ⟨Bm, D, h1, h2, h4, h5⟩
    have hfour : Four (imgV t c.src [i]) := ⟨rfl, fun x hx => by
      simp only [imgV, List.mem_cons, List.not_mem_nil, or_false] at hx
      rcases hx with rfl | rfl | rfl | rfl <;> exact imgAt_wf Hty.out ha0 ha1 Hway.out⟩
    have himg : ∀ u, Below wr.heap.size wr u → ∀ g1, Row u g1 3 [.int .i64 i] → Calls Try.prog 76 #[.pointer (some ⟨w1.heap.size, 0, none⟩), .int .i64 c.src, .slice (some ⟨g1, 0, none⟩) 1 1] u fun e u2 => e = .returned (aggI (imgV t c.src [i])) ∧ Below u.heap.size u u2 := fun u hu g1 hr1 =>
      imagesBy_any lo hi 0 u.heap.size w1.heap.size _ _ _ t c.src [i] u (Hv.out.below (hbw.trans (hu.mono hbw.size)) hB) (by have := hu.size; have := hbw.size; omega)
        ((show Row u g1 3 ([i].map (Value.int .i64)) from hr1).ints (fun x hx => by simp only [List.mem_singleton] at hx; exact hx ▸ hi64) (Nat.zero_le _) hr1.lt (Nat.le_refl _) (by unfold maxLen; simp)) (Nat.le_refl _) (hrf.below hu hrf.lt) Hty.out ha0 ha1 Hway.out
    have hlook : ∀ (u : World) (Bm : Nat) (D : DataW Unit), u.ownsMap Try.prog 89 (plainElem Try.prog 3) Bm (waysOf t c.src c.dst).length D → Cnt ((waysOf t c.src c.dst).map (imgV t c.src)) D →
        (Instr.lookup 86 (.map (some Bm)) (aggI (imgV t c.src [i])) false).run Try.prog u = .ok (.int .i64 (cntI ((waysOf t c.src c.dst).map (imgV t c.src)) (imgV t c.src [i]))) u := fun u Bm D ho hc => by
      obtain ⟨c', hr, ha, _⟩ := ho.lookup_int keyedKey Try.underlying86 Try.underlying3 (zeroInt u) (key_of hfour)
      rw [hc.at_ _ hfour] at ha
      simp only [DataW.lit.injEq, Lit.int.injEq, true_and] at ha
      rw [ha]
      exact hr
    generalize hkk : aggI (imgV t c.src [i]) = key at himg hlook
    generalize hcn : cntI ((waysOf t c.src c.dst).map (imgV t c.src)) (imgV t c.src [i]) = cn at hlook Hcnt
    generalize him : (waysOf t c.src c.dst).map (imgV t c.src) = im at hlook hwm
    generalize hnw : (waysOf t c.src c.dst).length = nw at hlook hwm
    have Hbw := Lib.hid hbw
    have Hcells := Lib.hid hcells
    have Hwm := Lib.hid hwm
    have Himg := Lib.hid himg
    have Hlook := Lib.hid hlook
    clear hwr hb1r hrf hrc hbw hcells hwm himg hlook hkk hcn him hnw hfour c0 c1 c2 q0 q1
    refine wp_region_inv (by kernel_rfl) (fun f x u => ∃ x22 x23 x24 x25 x26 x27 x28 x29 x30 x31 x32 x33 x34 x35 x4, x = ⟨#[.agg #[.slice A t.sizes.length cap, .slice (some ⟨b, off, none⟩) t.cos.length bap], .int .i64 i, .pointer (some ⟨w.heap.size, 0, none⟩), undef, x4, .pointer (some ⟨w1.heap.size, 0, none⟩), .pointer (some ⟨w1.heap.size + 1, 0, none⟩), .agg #[.slice A t.sizes.length cap, .slice (some ⟨b, off, none⟩) t.cos.length bap], .int .i64 i, .bool true, .bool false, .agg #[.slice A t.sizes.length cap, .slice (some ⟨b, off, none⟩) t.cos.length bap], .agg #[.slice A t.sizes.length cap, .slice (some ⟨b, off, none⟩) t.cos.length bap], .pointer (some ⟨w1.heap.size, 0, none⟩), .pointer (some ⟨w1.heap.size, 0, none⟩), .pointer (some ⟨w1.heap.size, 0, none⟩), .pointer (some ⟨w1.heap.size, 0, none⟩), .pointer (some ⟨w1.heap.size, 1, none⟩), .slice (some ⟨b, off, none⟩) t.cos.length bap, .int .i64 i, .pointer (some ⟨b, off + i.toNat * 3, none⟩), .agg #[.int .i64 c.src, .int .i64 c.dst, .slice A3 c.map.length cap3], x22, x23, x24, x25, x26, x27, x28, x29, x30, x31, x32, x33, x34, x35], []⟩ ∧ RedG i im nw wr f x22 x23 x24 x25 x26 x27 x28 x29 x30 x31 x32 x33 x34 x35 x4 (.pointer (some ⟨w1.heap.size, 0, none⟩)) (.pointer (some ⟨w1.heap.size + 1, 0, none⟩)) (.int .i64 c.src) (.pointer (some ⟨w1.heap.size + 1, 1, none⟩)) (.int .i64 c.dst) (.pointer (some ⟨w1.heap.size, 0, none⟩)) (.pointer (some ⟨w1.heap.size + 1, 0, none⟩)) (.int .i64 c.src) (.int .i64 i) key (.int .i64 cn) (.bool (decide (1 < cn))) (.bool (decide (1 < cn))) u) (of_decide_eq_true (by kernel_rfl)) ⟨_, _, _, _, _, _, _, _, _, _, _, _, _, _, _, rfl, ⟨(Below.refl _ _).drew, nofun, nofun, nofun, nofun, nofun, nofun, nofun, nofun, nofun, nofun, nofun, nofun, nofun, nofun, nofun⟩⟩ ?_ ?_
    · rintro f x u q o ho hfi hdep ⟨x22, x23, x24, x25, x26, x27, x28, x29, x30, x31, x32, x33, x34, x35, x4, rfl, hF⟩
      have hil : q < 15 := by have := (Array.getElem?_eq_some_iff.1 ho).1; simpa using this
      obtain ⟨p2, p3⟩ := Hcells.out u hF.wb
      obtain rfl | rfl | rfl | rfl | rfl | rfl | rfl | rfl | rfl | rfl | rfl | rfl | rfl | rfl | rfl : q = 0 ∨ q = 1 ∨ q = 2 ∨ q = 3 ∨ q = 4 ∨ q = 5 ∨ q = 6 ∨ q = 7 ∨ q = 8 ∨ q = 9 ∨ q = 10 ∨ q = 11 ∨ q = 12 ∨ q = 13 ∨ q = 14 := by omega
      all_goals
        obtain rfl := Option.some.inj ho
        refine wpOp_step ho fun K hK => ?_
        simp [Region.binds] at hdep
        clear ho
      · refine if_yes2 rfl ?_
        have HF := Lib.hid hF
        clear hF
        unfold Oper.wp
        go_simp
        exact hK _ _ ⟨_, _, _, _, _, _, _, _, _, _, _, _, _, _, _, rfl, HF.out.s0⟩
      · refine if_yes2 rfl ?_
        have HF := Lib.hid hF
        clear hF
        unfold Oper.wp
        go_simp
        exact hK _ _ ⟨_, _, _, _, _, _, _, _, _, _, _, _, _, _, _, rfl, HF.out.s1⟩
      · have d1 : f 1 = true := by simp [hdep]
        obtain rfl := hF.b1 d1
        refine if_yes2 rfl ?_
        have HF := Lib.hid hF
        clear hF
        unfold Oper.wp
        go_simp
        exact hK _ _ ⟨_, _, _, _, _, _, _, _, _, _, _, _, _, _, _, rfl, HF.out.s2⟩
      · refine if_yes2 rfl ?_
        have HF := Lib.hid hF
        clear hF
        unfold Oper.wp
        go_simp
        exact hK _ _ ⟨_, _, _, _, _, _, _, _, _, _, _, _, _, _, _, rfl, HF.out.s3⟩
      · have d3 : f 3 = true := by simp [hdep]
        obtain rfl := hF.b3 d3
        refine if_yes2 rfl ?_
        have HF := Lib.hid hF
        clear hF
        unfold Oper.wp
        go_simp
        exact hK _ _ ⟨_, _, _, _, _, _, _, _, _, _, _, _, _, _, _, rfl, HF.out.s4⟩
      · have d0 : f 0 = true := by simp [hdep]
        have d2 : f 2 = true := by simp [hdep]
        have d4 : f 4 = true := by simp [hdep]
        obtain rfl := hF.b0 d0
        obtain rfl := hF.b2 d2
        obtain rfl := hF.b4 d4
        refine if_yes2 rfl ?_
        have HF := Lib.hid hF
        clear hF
        unfold Oper.wp
        go_simp
        refine (Hwm.out u HF.out.wb).mono ?_
        rintro e u2 ⟨Bm, D, rfl, hb9, ho9, hc9⟩
        exact hK _ _ ⟨_, _, _, _, _, _, _, _, _, _, _, _, _, _, _, rfl, HF.out.s5 hb9 ho9 hc9⟩
      · refine if_yes2 rfl ?_
        have HF := Lib.hid hF
        clear hF
        unfold Oper.wp
        go_simp
        exact hK _ _ ⟨_, _, _, _, _, _, _, _, _, _, _, _, _, _, _, rfl, HF.out.s6⟩
      · refine if_yes2 rfl ?_
        have HF := Lib.hid hF
        clear hF
        unfold Oper.wp
        go_simp
        exact hK _ _ ⟨_, _, _, _, _, _, _, _, _, _, _, _, _, _, _, rfl, HF.out.s7⟩
      · have d7 : f 7 = true := by simp [hdep]
        obtain rfl := hF.b7 d7
        refine if_yes2 rfl ?_
        have HF := Lib.hid hF
        clear hF
        unfold Oper.wp
        go_simp
        exact hK _ _ ⟨_, _, _, _, _, _, _, _, _, _, _, _, _, _, _, rfl, HF.out.s8⟩
      · refine if_yes2 rfl ?_
        have HF := Lib.hid hF
        clear hF
        unfold Oper.wp
        go_simp
        exact hK _ _ ⟨_, _, _, _, _, _, _, _, _, _, _, _, _, _, _, rfl, HF.out.s9⟩
      · have d9 : f 9 = true := by simp [hdep]
        obtain rfl := hF.b9 d9
        refine if_yes2 rfl ?_
        have HF := Lib.hid hF
        clear hF
        unfold Oper.wp
        go_simp
        exact hK _ _ ⟨_, _, _, _, _, _, _, _, _, _, _, _, _, _, _, rfl, HF.out.s10 ((Below.refl _ _).alloc (Nat.le_refl _) _) (Nat.le_refl _) (Row.new u 3 [.int .i64 i])⟩
      · have d6 : f 6 = true := by simp [hdep]
        have d8 : f 8 = true := by simp [hdep]
        have d10 : f 10 = true := by simp [hdep]
        obtain rfl := hF.b6 d6
        obtain rfl := hF.b8 d8
        obtain ⟨g1, rfl, hg1, hr1⟩ := hF.b10 d10
        refine if_yes2 rfl ?_
        have HF := Lib.hid hF
        have Hr1 := Lib.hid hr1
        clear hF hr1
        unfold Oper.wp
        go_simp
        refine (Himg.out u HF.out.wb g1 Hr1.out).mono ?_
        rintro e u2 ⟨rfl, hb9⟩
        exact hK _ _ ⟨_, _, _, _, _, _, _, _, _, _, _, _, _, _, _, rfl, HF.out.s11 hb9⟩
      · have d5 : f 5 = true := by simp [hdep]
        have d11 : f 11 = true := by simp [hdep]
        obtain ⟨Bm, D, rfl, ho5, hc5⟩ := hF.b5 d5
        have e11 := hF.b11 d11
        obtain rfl := e11
        refine if_yes2 rfl ?_
        have hrun := Hlook.out u Bm D ho5 hc5
        have HF := Lib.hid hF
        clear ho5 hc5
        clear hF
        unfold Oper.wp
        go_simp
        exact hK _ _ ⟨_, _, _, _, _, _, _, _, _, _, _, _, _, _, _, rfl, HF.out.s12⟩
      · have d12 : f 12 = true := by simp [hdep]
        obtain rfl := hF.b12 d12
        refine if_yes2 rfl ?_
        have HF := Lib.hid hF
        clear hF
        unfold Oper.wp
        go_simp
        exact hK _ _ ⟨_, _, _, _, _, _, _, _, _, _, _, _, _, _, _, rfl, HF.out.s13⟩
      · have d13 : f 13 = true := by simp [hdep]
        obtain rfl := hF.b13 d13
        refine if_yes2 rfl ?_
        have HF := Lib.hid hF
        clear hF
        unfold Oper.wp
        go_simp
        exact hK _ _ ⟨_, _, _, _, _, _, _, _, _, _, _, _, _, _, _, rfl, HF.out.s14⟩
    · rintro f x u hall ⟨x22, x23, x24, x25, x26, x27, x28, x29, x30, x31, x32, x33, x34, x35, x4, rfl, hF⟩
      obtain rfl := hF.b14 (hall 14 (by simp))
      have Hwb := Lib.hid (Hbw.out.trans (hF.wb.mono Hbw.out.size))
      clear hF hall
      go_wp2
      go_ret
      exact ⟨ret_bool (by rw [hfin.out, ← Hcnt.out]), Hwb.out⟩
  · have hokf : hasC t i = false := by simpa using hok
    have hfin : Hid (redV t i = false) := by show _ = _; unfold redV; rw [hokf, Bool.false_and]
    rw [hokf]
    clear hok hokf
    go_wp2
    go_ret
    exact ⟨ret_bool hfin.out.symm, H1.out.2.2.2⟩
end Go.Proofs.Ytokklaoldgdkaaa
