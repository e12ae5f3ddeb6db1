/-
  What holds in the region of the model's l3Redundant: by what has been done.
-/
import Derived.Test.YtokklaoldgdkaaaRinv
import Derived.Test.YtokklaoldgdkaaaMem
namespace Go.Proofs.Ytokklaoldgdkaaa
open Go.RowKit

theorem if_yes {c : Bool} {A B : Prop} (h : c = true) (ha : A) : if c = true then A else B := by rw [if_pos h]; exact ha
theorem if_no {c : Bool} {A B : Prop} (h : c = false) (hb : B) : if c = true then A else B := by rw [h]; exact hb

structure RedF (run : Bool) (wr : World) (mz : List Int) (f : Nat → Bool) (x24 x25 x26 x27 x28 x29 x30 x31 x32 x33 x34 x35 x36 x37 x38 x39 x40 x41 x42 x43 v24 v25 v26 v27 v28 v29 v30 v31 v32 v33 v34 v35 v36 v37 v38 v39 v40 v41 v42 v43 : Value) (u : World) : Prop where
  wb : Below wr.heap.size wr u
  b0 : f 0 = true → x24 = v24
  b1 : f 1 = true → x25 = v25
  b2 : f 2 = true → x26 = v26
  b3 : f 3 = true → x27 = v27
  b4 : f 4 = true → x28 = v28
  b5 : f 5 = true → x29 = v29
  b6 : f 6 = true → x30 = v30
  b7 : f 7 = true → x31 = v31
  b8 : f 8 = true → x32 = v32
  b9 : f 9 = true → x33 = v33
  b10 : f 10 = true → x34 = v34
  b11 : f 11 = true → x35 = v35
  b12 : f 12 = true → x36 = v36
  b13 : f 13 = true → x37 = v37
  b14 : f 14 = true → x38 = v38
  b15 : run = true → f 15 = true → ∃ A c, x39 = .slice A mz.length c ∧ IntsAt u wr.heap.size u.heap.size x39 mz
  b16 : f 16 = true → x40 = v40
  b17 : f 17 = true → x41 = v41
  b18 : f 18 = true → x42 = v42
  b19 : f 19 = true → x43 = v43
section
variable {run : Bool} {wr u : World} {mz : List Int} {f : Nat → Bool} {x24 x25 x26 x27 x28 x29 x30 x31 x32 x33 x34 x35 x36 x37 x38 x39 x40 x41 x42 x43 v24 v25 v26 v27 v28 v29 v30 v31 v32 v33 v34 v35 v36 v37 v38 v39 v40 v41 v42 v43 : Value}
theorem RedF.s0 (h : RedF run wr mz f x24 x25 x26 x27 x28 x29 x30 x31 x32 x33 x34 x35 x36 x37 x38 x39 x40 x41 x42 x43 v24 v25 v26 v27 v28 v29 v30 v31 v32 v33 v34 v35 v36 v37 v38 v39 v40 v41 v42 v43 u) : RedF run wr mz (fun k => decide (k = 0) || f k) v24 x25 x26 x27 x28 x29 x30 x31 x32 x33 x34 x35 x36 x37 x38 x39 x40 x41 x42 x43 v24 v25 v26 v27 v28 v29 v30 v31 v32 v33 v34 v35 v36 v37 v38 v39 v40 v41 v42 v43 u where
  wb := h.wb
  b0 := fun _ => rfl
  b1 := by simpa using h.b1
  b2 := by simpa using h.b2
  b3 := by simpa using h.b3
  b4 := by simpa using h.b4
  b5 := by simpa using h.b5
  b6 := by simpa using h.b6
  b7 := by simpa using h.b7
  b8 := by simpa using h.b8
  b9 := by simpa using h.b9
  b10 := by simpa using h.b10
  b11 := by simpa using h.b11
  b12 := by simpa using h.b12
  b13 := by simpa using h.b13
  b14 := by simpa using h.b14
  b15 := by simpa using h.b15
  b16 := by simpa using h.b16
  b17 := by simpa using h.b17
  b18 := by simpa using h.b18
  b19 := by simpa using h.b19
theorem RedF.s1 (h : RedF run wr mz f x24 x25 x26 x27 x28 x29 x30 x31 x32 x33 x34 x35 x36 x37 x38 x39 x40 x41 x42 x43 v24 v25 v26 v27 v28 v29 v30 v31 v32 v33 v34 v35 v36 v37 v38 v39 v40 v41 v42 v43 u) : RedF run wr mz (fun k => decide (k = 1) || f k) x24 v25 x26 x27 x28 x29 x30 x31 x32 x33 x34 x35 x36 x37 x38 x39 x40 x41 x42 x43 v24 v25 v26 v27 v28 v29 v30 v31 v32 v33 v34 v35 v36 v37 v38 v39 v40 v41 v42 v43 u where
  wb := h.wb
  b0 := by simpa using h.b0
  b1 := fun _ => rfl
  b2 := by simpa using h.b2
  b3 := by simpa using h.b3
  b4 := by simpa using h.b4
  b5 := by simpa using h.b5
  b6 := by simpa using h.b6
  b7 := by simpa using h.b7
  b8 := by simpa using h.b8
  b9 := by simpa using h.b9
  b10 := by simpa using h.b10
  b11 := by simpa using h.b11
  b12 := by simpa using h.b12
  b13 := by simpa using h.b13
  b14 := by simpa using h.b14
  b15 := by simpa using h.b15
  b16 := by simpa using h.b16
  b17 := by simpa using h.b17
  b18 := by simpa using h.b18
  b19 := by simpa using h.b19
theorem RedF.s2 (h : RedF run wr mz f x24 x25 x26 x27 x28 x29 x30 x31 x32 x33 x34 x35 x36 x37 x38 x39 x40 x41 x42 x43 v24 v25 v26 v27 v28 v29 v30 v31 v32 v33 v34 v35 v36 v37 v38 v39 v40 v41 v42 v43 u) : RedF run wr mz (fun k => decide (k = 2) || f k) x24 x25 v26 x27 x28 x29 x30 x31 x32 x33 x34 x35 x36 x37 x38 x39 x40 x41 x42 x43 v24 v25 v26 v27 v28 v29 v30 v31 v32 v33 v34 v35 v36 v37 v38 v39 v40 v41 v42 v43 u where
  wb := h.wb
  b0 := by simpa using h.b0
  b1 := by simpa using h.b1
  b2 := fun _ => rfl
  b3 := by simpa using h.b3
  b4 := by simpa using h.b4
  b5 := by simpa using h.b5
  b6 := by simpa using h.b6
  b7 := by simpa using h.b7
  b8 := by simpa using h.b8
  b9 := by simpa using h.b9
  b10 := by simpa using h.b10
  b11 := by simpa using h.b11
  b12 := by simpa using h.b12
  b13 := by simpa using h.b13
  b14 := by simpa using h.b14
  b15 := by simpa using h.b15
  b16 := by simpa using h.b16
  b17 := by simpa using h.b17
  b18 := by simpa using h.b18
  b19 := by simpa using h.b19
theorem RedF.s3 (h : RedF run wr mz f x24 x25 x26 x27 x28 x29 x30 x31 x32 x33 x34 x35 x36 x37 x38 x39 x40 x41 x42 x43 v24 v25 v26 v27 v28 v29 v30 v31 v32 v33 v34 v35 v36 v37 v38 v39 v40 v41 v42 v43 u) : RedF run wr mz (fun k => decide (k = 3) || f k) x24 x25 x26 v27 x28 x29 x30 x31 x32 x33 x34 x35 x36 x37 x38 x39 x40 x41 x42 x43 v24 v25 v26 v27 v28 v29 v30 v31 v32 v33 v34 v35 v36 v37 v38 v39 v40 v41 v42 v43 u where
  wb := h.wb
  b0 := by simpa using h.b0
  b1 := by simpa using h.b1
  b2 := by simpa using h.b2
  b3 := fun _ => rfl
  b4 := by simpa using h.b4
  b5 := by simpa using h.b5
  b6 := by simpa using h.b6
  b7 := by simpa using h.b7
  b8 := by simpa using h.b8
  b9 := by simpa using h.b9
  b10 := by simpa using h.b10
  b11 := by simpa using h.b11
  b12 := by simpa using h.b12
  b13 := by simpa using h.b13
  b14 := by simpa using h.b14
  b15 := by simpa using h.b15
  b16 := by simpa using h.b16
  b17 := by simpa using h.b17
  b18 := by simpa using h.b18
  b19 := by simpa using h.b19
theorem RedF.s4 (h : RedF run wr mz f x24 x25 x26 x27 x28 x29 x30 x31 x32 x33 x34 x35 x36 x37 x38 x39 x40 x41 x42 x43 v24 v25 v26 v27 v28 v29 v30 v31 v32 v33 v34 v35 v36 v37 v38 v39 v40 v41 v42 v43 u) : RedF run wr mz (fun k => decide (k = 4) || f k) x24 x25 x26 x27 v28 x29 x30 x31 x32 x33 x34 x35 x36 x37 x38 x39 x40 x41 x42 x43 v24 v25 v26 v27 v28 v29 v30 v31 v32 v33 v34 v35 v36 v37 v38 v39 v40 v41 v42 v43 u where
  wb := h.wb
  b0 := by simpa using h.b0
  b1 := by simpa using h.b1
  b2 := by simpa using h.b2
  b3 := by simpa using h.b3
  b4 := fun _ => rfl
  b5 := by simpa using h.b5
  b6 := by simpa using h.b6
  b7 := by simpa using h.b7
  b8 := by simpa using h.b8
  b9 := by simpa using h.b9
  b10 := by simpa using h.b10
  b11 := by simpa using h.b11
  b12 := by simpa using h.b12
  b13 := by simpa using h.b13
  b14 := by simpa using h.b14
  b15 := by simpa using h.b15
  b16 := by simpa using h.b16
  b17 := by simpa using h.b17
  b18 := by simpa using h.b18
  b19 := by simpa using h.b19
theorem RedF.s5 (h : RedF run wr mz f x24 x25 x26 x27 x28 x29 x30 x31 x32 x33 x34 x35 x36 x37 x38 x39 x40 x41 x42 x43 v24 v25 v26 v27 v28 v29 v30 v31 v32 v33 v34 v35 v36 v37 v38 v39 v40 v41 v42 v43 u) : RedF run wr mz (fun k => decide (k = 5) || f k) x24 x25 x26 x27 x28 v29 x30 x31 x32 x33 x34 x35 x36 x37 x38 x39 x40 x41 x42 x43 v24 v25 v26 v27 v28 v29 v30 v31 v32 v33 v34 v35 v36 v37 v38 v39 v40 v41 v42 v43 u where
  wb := h.wb
  b0 := by simpa using h.b0
  b1 := by simpa using h.b1
  b2 := by simpa using h.b2
  b3 := by simpa using h.b3
  b4 := by simpa using h.b4
  b5 := fun _ => rfl
  b6 := by simpa using h.b6
  b7 := by simpa using h.b7
  b8 := by simpa using h.b8
  b9 := by simpa using h.b9
  b10 := by simpa using h.b10
  b11 := by simpa using h.b11
  b12 := by simpa using h.b12
  b13 := by simpa using h.b13
  b14 := by simpa using h.b14
  b15 := by simpa using h.b15
  b16 := by simpa using h.b16
  b17 := by simpa using h.b17
  b18 := by simpa using h.b18
  b19 := by simpa using h.b19
theorem RedF.s6 (h : RedF run wr mz f x24 x25 x26 x27 x28 x29 x30 x31 x32 x33 x34 x35 x36 x37 x38 x39 x40 x41 x42 x43 v24 v25 v26 v27 v28 v29 v30 v31 v32 v33 v34 v35 v36 v37 v38 v39 v40 v41 v42 v43 u) : RedF run wr mz (fun k => decide (k = 6) || f k) x24 x25 x26 x27 x28 x29 v30 x31 x32 x33 x34 x35 x36 x37 x38 x39 x40 x41 x42 x43 v24 v25 v26 v27 v28 v29 v30 v31 v32 v33 v34 v35 v36 v37 v38 v39 v40 v41 v42 v43 u where
  wb := h.wb
  b0 := by simpa using h.b0
  b1 := by simpa using h.b1
  b2 := by simpa using h.b2
  b3 := by simpa using h.b3
  b4 := by simpa using h.b4
  b5 := by simpa using h.b5
  b6 := fun _ => rfl
  b7 := by simpa using h.b7
  b8 := by simpa using h.b8
  b9 := by simpa using h.b9
  b10 := by simpa using h.b10
  b11 := by simpa using h.b11
  b12 := by simpa using h.b12
  b13 := by simpa using h.b13
  b14 := by simpa using h.b14
  b15 := by simpa using h.b15
  b16 := by simpa using h.b16
  b17 := by simpa using h.b17
  b18 := by simpa using h.b18
  b19 := by simpa using h.b19
theorem RedF.s7 (h : RedF run wr mz f x24 x25 x26 x27 x28 x29 x30 x31 x32 x33 x34 x35 x36 x37 x38 x39 x40 x41 x42 x43 v24 v25 v26 v27 v28 v29 v30 v31 v32 v33 v34 v35 v36 v37 v38 v39 v40 v41 v42 v43 u) : RedF run wr mz (fun k => decide (k = 7) || f k) x24 x25 x26 x27 x28 x29 x30 v31 x32 x33 x34 x35 x36 x37 x38 x39 x40 x41 x42 x43 v24 v25 v26 v27 v28 v29 v30 v31 v32 v33 v34 v35 v36 v37 v38 v39 v40 v41 v42 v43 u where
  wb := h.wb
  b0 := by simpa using h.b0
  b1 := by simpa using h.b1
  b2 := by simpa using h.b2
  b3 := by simpa using h.b3
  b4 := by simpa using h.b4
  b5 := by simpa using h.b5
  b6 := by simpa using h.b6
  b7 := fun _ => rfl
  b8 := by simpa using h.b8
  b9 := by simpa using h.b9
  b10 := by simpa using h.b10
  b11 := by simpa using h.b11
  b12 := by simpa using h.b12
  b13 := by simpa using h.b13
  b14 := by simpa using h.b14
  b15 := by simpa using h.b15
  b16 := by simpa using h.b16
  b17 := by simpa using h.b17
  b18 := by simpa using h.b18
  b19 := by simpa using h.b19
theorem RedF.s8 (h : RedF run wr mz f x24 x25 x26 x27 x28 x29 x30 x31 x32 x33 x34 x35 x36 x37 x38 x39 x40 x41 x42 x43 v24 v25 v26 v27 v28 v29 v30 v31 v32 v33 v34 v35 v36 v37 v38 v39 v40 v41 v42 v43 u) : RedF run wr mz (fun k => decide (k = 8) || f k) x24 x25 x26 x27 x28 x29 x30 x31 v32 x33 x34 x35 x36 x37 x38 x39 x40 x41 x42 x43 v24 v25 v26 v27 v28 v29 v30 v31 v32 v33 v34 v35 v36 v37 v38 v39 v40 v41 v42 v43 u where
  wb := h.wb
  b0 := by simpa using h.b0
  b1 := by simpa using h.b1
  b2 := by simpa using h.b2
  b3 := by simpa using h.b3
  b4 := by simpa using h.b4
  b5 := by simpa using h.b5
  b6 := by simpa using h.b6
  b7 := by simpa using h.b7
  b8 := fun _ => rfl
  b9 := by simpa using h.b9
  b10 := by simpa using h.b10
  b11 := by simpa using h.b11
  b12 := by simpa using h.b12
  b13 := by simpa using h.b13
  b14 := by simpa using h.b14
  b15 := by simpa using h.b15
  b16 := by simpa using h.b16
  b17 := by simpa using h.b17
  b18 := by simpa using h.b18
  b19 := by simpa using h.b19
theorem RedF.s9 (h : RedF run wr mz f x24 x25 x26 x27 x28 x29 x30 x31 x32 x33 x34 x35 x36 x37 x38 x39 x40 x41 x42 x43 v24 v25 v26 v27 v28 v29 v30 v31 v32 v33 v34 v35 v36 v37 v38 v39 v40 v41 v42 v43 u) : RedF run wr mz (fun k => decide (k = 9) || f k) x24 x25 x26 x27 x28 x29 x30 x31 x32 v33 x34 x35 x36 x37 x38 x39 x40 x41 x42 x43 v24 v25 v26 v27 v28 v29 v30 v31 v32 v33 v34 v35 v36 v37 v38 v39 v40 v41 v42 v43 u where
  wb := h.wb
  b0 := by simpa using h.b0
  b1 := by simpa using h.b1
  b2 := by simpa using h.b2
  b3 := by simpa using h.b3
  b4 := by simpa using h.b4
  b5 := by simpa using h.b5
  b6 := by simpa using h.b6
  b7 := by simpa using h.b7
  b8 := by simpa using h.b8
  b9 := fun _ => rfl
  b10 := by simpa using h.b10
  b11 := by simpa using h.b11
  b12 := by simpa using h.b12
  b13 := by simpa using h.b13
  b14 := by simpa using h.b14
  b15 := by simpa using h.b15
  b16 := by simpa using h.b16
  b17 := by simpa using h.b17
  b18 := by simpa using h.b18
  b19 := by simpa using h.b19
theorem RedF.s10 (h : RedF run wr mz f x24 x25 x26 x27 x28 x29 x30 x31 x32 x33 x34 x35 x36 x37 x38 x39 x40 x41 x42 x43 v24 v25 v26 v27 v28 v29 v30 v31 v32 v33 v34 v35 v36 v37 v38 v39 v40 v41 v42 v43 u) : RedF run wr mz (fun k => decide (k = 10) || f k) x24 x25 x26 x27 x28 x29 x30 x31 x32 x33 v34 x35 x36 x37 x38 x39 x40 x41 x42 x43 v24 v25 v26 v27 v28 v29 v30 v31 v32 v33 v34 v35 v36 v37 v38 v39 v40 v41 v42 v43 u where
  wb := h.wb
  b0 := by simpa using h.b0
  b1 := by simpa using h.b1
  b2 := by simpa using h.b2
  b3 := by simpa using h.b3
  b4 := by simpa using h.b4
  b5 := by simpa using h.b5
  b6 := by simpa using h.b6
  b7 := by simpa using h.b7
  b8 := by simpa using h.b8
  b9 := by simpa using h.b9
  b10 := fun _ => rfl
  b11 := by simpa using h.b11
  b12 := by simpa using h.b12
  b13 := by simpa using h.b13
  b14 := by simpa using h.b14
  b15 := by simpa using h.b15
  b16 := by simpa using h.b16
  b17 := by simpa using h.b17
  b18 := by simpa using h.b18
  b19 := by simpa using h.b19
theorem RedF.s11 (h : RedF run wr mz f x24 x25 x26 x27 x28 x29 x30 x31 x32 x33 x34 x35 x36 x37 x38 x39 x40 x41 x42 x43 v24 v25 v26 v27 v28 v29 v30 v31 v32 v33 v34 v35 v36 v37 v38 v39 v40 v41 v42 v43 u) : RedF run wr mz (fun k => decide (k = 11) || f k) x24 x25 x26 x27 x28 x29 x30 x31 x32 x33 x34 v35 x36 x37 x38 x39 x40 x41 x42 x43 v24 v25 v26 v27 v28 v29 v30 v31 v32 v33 v34 v35 v36 v37 v38 v39 v40 v41 v42 v43 u where
  wb := h.wb
  b0 := by simpa using h.b0
  b1 := by simpa using h.b1
  b2 := by simpa using h.b2
  b3 := by simpa using h.b3
  b4 := by simpa using h.b4
  b5 := by simpa using h.b5
  b6 := by simpa using h.b6
  b7 := by simpa using h.b7
  b8 := by simpa using h.b8
  b9 := by simpa using h.b9
  b10 := by simpa using h.b10
  b11 := fun _ => rfl
  b12 := by simpa using h.b12
  b13 := by simpa using h.b13
  b14 := by simpa using h.b14
  b15 := by simpa using h.b15
  b16 := by simpa using h.b16
  b17 := by simpa using h.b17
  b18 := by simpa using h.b18
  b19 := by simpa using h.b19
theorem RedF.s12 (h : RedF run wr mz f x24 x25 x26 x27 x28 x29 x30 x31 x32 x33 x34 x35 x36 x37 x38 x39 x40 x41 x42 x43 v24 v25 v26 v27 v28 v29 v30 v31 v32 v33 v34 v35 v36 v37 v38 v39 v40 v41 v42 v43 u) : RedF run wr mz (fun k => decide (k = 12) || f k) x24 x25 x26 x27 x28 x29 x30 x31 x32 x33 x34 x35 v36 x37 x38 x39 x40 x41 x42 x43 v24 v25 v26 v27 v28 v29 v30 v31 v32 v33 v34 v35 v36 v37 v38 v39 v40 v41 v42 v43 u where
  wb := h.wb
  b0 := by simpa using h.b0
  b1 := by simpa using h.b1
  b2 := by simpa using h.b2
  b3 := by simpa using h.b3
  b4 := by simpa using h.b4
  b5 := by simpa using h.b5
  b6 := by simpa using h.b6
  b7 := by simpa using h.b7
  b8 := by simpa using h.b8
  b9 := by simpa using h.b9
  b10 := by simpa using h.b10
  b11 := by simpa using h.b11
  b12 := fun _ => rfl
  b13 := by simpa using h.b13
  b14 := by simpa using h.b14
  b15 := by simpa using h.b15
  b16 := by simpa using h.b16
  b17 := by simpa using h.b17
  b18 := by simpa using h.b18
  b19 := by simpa using h.b19
theorem RedF.s13 (h : RedF run wr mz f x24 x25 x26 x27 x28 x29 x30 x31 x32 x33 x34 x35 x36 x37 x38 x39 x40 x41 x42 x43 v24 v25 v26 v27 v28 v29 v30 v31 v32 v33 v34 v35 v36 v37 v38 v39 v40 v41 v42 v43 u) : RedF run wr mz (fun k => decide (k = 13) || f k) x24 x25 x26 x27 x28 x29 x30 x31 x32 x33 x34 x35 x36 v37 x38 x39 x40 x41 x42 x43 v24 v25 v26 v27 v28 v29 v30 v31 v32 v33 v34 v35 v36 v37 v38 v39 v40 v41 v42 v43 u where
  wb := h.wb
  b0 := by simpa using h.b0
  b1 := by simpa using h.b1
  b2 := by simpa using h.b2
  b3 := by simpa using h.b3
  b4 := by simpa using h.b4
  b5 := by simpa using h.b5
  b6 := by simpa using h.b6
  b7 := by simpa using h.b7
  b8 := by simpa using h.b8
  b9 := by simpa using h.b9
  b10 := by simpa using h.b10
  b11 := by simpa using h.b11
  b12 := by simpa using h.b12
  b13 := fun _ => rfl
  b14 := by simpa using h.b14
  b15 := by simpa using h.b15
  b16 := by simpa using h.b16
  b17 := by simpa using h.b17
  b18 := by simpa using h.b18
  b19 := by simpa using h.b19
theorem RedF.s14 (h : RedF run wr mz f x24 x25 x26 x27 x28 x29 x30 x31 x32 x33 x34 x35 x36 x37 x38 x39 x40 x41 x42 x43 v24 v25 v26 v27 v28 v29 v30 v31 v32 v33 v34 v35 v36 v37 v38 v39 v40 v41 v42 v43 u) : RedF run wr mz (fun k => decide (k = 14) || f k) x24 x25 x26 x27 x28 x29 x30 x31 x32 x33 x34 x35 x36 x37 v38 x39 x40 x41 x42 x43 v24 v25 v26 v27 v28 v29 v30 v31 v32 v33 v34 v35 v36 v37 v38 v39 v40 v41 v42 v43 u where
  wb := h.wb
  b0 := by simpa using h.b0
  b1 := by simpa using h.b1
  b2 := by simpa using h.b2
  b3 := by simpa using h.b3
  b4 := by simpa using h.b4
  b5 := by simpa using h.b5
  b6 := by simpa using h.b6
  b7 := by simpa using h.b7
  b8 := by simpa using h.b8
  b9 := by simpa using h.b9
  b10 := by simpa using h.b10
  b11 := by simpa using h.b11
  b12 := by simpa using h.b12
  b13 := by simpa using h.b13
  b14 := fun _ => rfl
  b15 := by simpa using h.b15
  b16 := by simpa using h.b16
  b17 := by simpa using h.b17
  b18 := by simpa using h.b18
  b19 := by simpa using h.b19
theorem RedF.s15 (h : RedF run wr mz f x24 x25 x26 x27 x28 x29 x30 x31 x32 x33 x34 x35 x36 x37 x38 x39 x40 x41 x42 x43 v24 v25 v26 v27 v28 v29 v30 v31 v32 v33 v34 v35 v36 v37 v38 v39 v40 v41 v42 v43 u) {u2 : World} (hb : Below u.heap.size u u2) {A : Option Addr} {c : Nat} (hi : IntsAt u2 u.heap.size u2.heap.size (.slice A mz.length c) mz) : RedF run wr mz (fun k => decide (k = 15) || f k) x24 x25 x26 x27 x28 x29 x30 x31 x32 x33 x34 x35 x36 x37 x38 (.slice A mz.length c) x40 x41 x42 x43 v24 v25 v26 v27 v28 v29 v30 v31 v32 v33 v34 v35 v36 v37 v38 v39 v40 v41 v42 v43 u2 where
  wb := h.wb.trans (hb.mono h.wb.size)
  b0 := by simpa using h.b0
  b1 := by simpa using h.b1
  b2 := by simpa using h.b2
  b3 := by simpa using h.b3
  b4 := by simpa using h.b4
  b5 := by simpa using h.b5
  b6 := by simpa using h.b6
  b7 := by simpa using h.b7
  b8 := by simpa using h.b8
  b9 := by simpa using h.b9
  b10 := by simpa using h.b10
  b11 := by simpa using h.b11
  b12 := by simpa using h.b12
  b13 := by simpa using h.b13
  b14 := by simpa using h.b14
  b15 := fun _ _ => ⟨A, c, rfl, hi.more h.wb.size (Nat.le_refl _)⟩
  b16 := by simpa using h.b16
  b17 := by simpa using h.b17
  b18 := by simpa using h.b18
  b19 := by simpa using h.b19
theorem RedF.s16 (h : RedF run wr mz f x24 x25 x26 x27 x28 x29 x30 x31 x32 x33 x34 x35 x36 x37 x38 x39 x40 x41 x42 x43 v24 v25 v26 v27 v28 v29 v30 v31 v32 v33 v34 v35 v36 v37 v38 v39 v40 v41 v42 v43 u) : RedF run wr mz (fun k => decide (k = 16) || f k) x24 x25 x26 x27 x28 x29 x30 x31 x32 x33 x34 x35 x36 x37 x38 x39 v40 x41 x42 x43 v24 v25 v26 v27 v28 v29 v30 v31 v32 v33 v34 v35 v36 v37 v38 v39 v40 v41 v42 v43 u where
  wb := h.wb
  b0 := by simpa using h.b0
  b1 := by simpa using h.b1
  b2 := by simpa using h.b2
  b3 := by simpa using h.b3
  b4 := by simpa using h.b4
  b5 := by simpa using h.b5
  b6 := by simpa using h.b6
  b7 := by simpa using h.b7
  b8 := by simpa using h.b8
  b9 := by simpa using h.b9
  b10 := by simpa using h.b10
  b11 := by simpa using h.b11
  b12 := by simpa using h.b12
  b13 := by simpa using h.b13
  b14 := by simpa using h.b14
  b15 := by simpa using h.b15
  b16 := fun _ => rfl
  b17 := by simpa using h.b17
  b18 := by simpa using h.b18
  b19 := by simpa using h.b19
theorem RedF.s17 (h : RedF run wr mz f x24 x25 x26 x27 x28 x29 x30 x31 x32 x33 x34 x35 x36 x37 x38 x39 x40 x41 x42 x43 v24 v25 v26 v27 v28 v29 v30 v31 v32 v33 v34 v35 v36 v37 v38 v39 v40 v41 v42 v43 u) : RedF run wr mz (fun k => decide (k = 17) || f k) x24 x25 x26 x27 x28 x29 x30 x31 x32 x33 x34 x35 x36 x37 x38 x39 x40 v41 x42 x43 v24 v25 v26 v27 v28 v29 v30 v31 v32 v33 v34 v35 v36 v37 v38 v39 v40 v41 v42 v43 u where
  wb := h.wb
  b0 := by simpa using h.b0
  b1 := by simpa using h.b1
  b2 := by simpa using h.b2
  b3 := by simpa using h.b3
  b4 := by simpa using h.b4
  b5 := by simpa using h.b5
  b6 := by simpa using h.b6
  b7 := by simpa using h.b7
  b8 := by simpa using h.b8
  b9 := by simpa using h.b9
  b10 := by simpa using h.b10
  b11 := by simpa using h.b11
  b12 := by simpa using h.b12
  b13 := by simpa using h.b13
  b14 := by simpa using h.b14
  b15 := by simpa using h.b15
  b16 := by simpa using h.b16
  b17 := fun _ => rfl
  b18 := by simpa using h.b18
  b19 := by simpa using h.b19
theorem RedF.s18 (h : RedF run wr mz f x24 x25 x26 x27 x28 x29 x30 x31 x32 x33 x34 x35 x36 x37 x38 x39 x40 x41 x42 x43 v24 v25 v26 v27 v28 v29 v30 v31 v32 v33 v34 v35 v36 v37 v38 v39 v40 v41 v42 v43 u) {u2 : World} (hb : Below u.heap.size u u2) : RedF run wr mz (fun k => decide (k = 18) || f k) x24 x25 x26 x27 x28 x29 x30 x31 x32 x33 x34 x35 x36 x37 x38 x39 x40 x41 v42 x43 v24 v25 v26 v27 v28 v29 v30 v31 v32 v33 v34 v35 v36 v37 v38 v39 v40 v41 v42 v43 u2 where
  wb := h.wb.trans (hb.mono h.wb.size)
  b0 := by simpa using h.b0
  b1 := by simpa using h.b1
  b2 := by simpa using h.b2
  b3 := by simpa using h.b3
  b4 := by simpa using h.b4
  b5 := by simpa using h.b5
  b6 := by simpa using h.b6
  b7 := by simpa using h.b7
  b8 := by simpa using h.b8
  b9 := by simpa using h.b9
  b10 := by simpa using h.b10
  b11 := by simpa using h.b11
  b12 := by simpa using h.b12
  b13 := by simpa using h.b13
  b14 := by simpa using h.b14
  b15 := fun e0 e => by
    obtain ⟨A, c, h1, h2⟩ := h.b15 e0 (by simpa using e)
    exact ⟨A, c, h1, (h2.below hb (Nat.le_refl _)).more (Nat.le_refl _) hb.size⟩
  b16 := by simpa using h.b16
  b17 := by simpa using h.b17
  b18 := fun _ => rfl
  b19 := by simpa using h.b19
theorem RedF.s19 (h : RedF run wr mz f x24 x25 x26 x27 x28 x29 x30 x31 x32 x33 x34 x35 x36 x37 x38 x39 x40 x41 x42 x43 v24 v25 v26 v27 v28 v29 v30 v31 v32 v33 v34 v35 v36 v37 v38 v39 v40 v41 v42 v43 u) : RedF run wr mz (fun k => decide (k = 19) || f k) x24 x25 x26 x27 x28 x29 x30 x31 x32 x33 x34 x35 x36 x37 x38 x39 x40 x41 x42 v43 v24 v25 v26 v27 v28 v29 v30 v31 v32 v33 v34 v35 v36 v37 v38 v39 v40 v41 v42 v43 u where
  wb := h.wb
  b0 := by simpa using h.b0
  b1 := by simpa using h.b1
  b2 := by simpa using h.b2
  b3 := by simpa using h.b3
  b4 := by simpa using h.b4
  b5 := by simpa using h.b5
  b6 := by simpa using h.b6
  b7 := by simpa using h.b7
  b8 := by simpa using h.b8
  b9 := by simpa using h.b9
  b10 := by simpa using h.b10
  b11 := by simpa using h.b11
  b12 := by simpa using h.b12
  b13 := by simpa using h.b13
  b14 := by simpa using h.b14
  b15 := by simpa using h.b15
  b16 := by simpa using h.b16
  b17 := by simpa using h.b17
  b18 := by simpa using h.b18
  b19 := fun _ => rfl
theorem RedF.s15n (h : RedF run wr mz f x24 x25 x26 x27 x28 x29 x30 x31 x32 x33 x34 x35 x36 x37 x38 x39 x40 x41 x42 x43 v24 v25 v26 v27 v28 v29 v30 v31 v32 v33 v34 v35 v36 v37 v38 v39 v40 v41 v42 v43 u) (hr : run = false) : RedF run wr mz (fun k => decide (k = 15) || f k) x24 x25 x26 x27 x28 x29 x30 x31 x32 x33 x34 x35 x36 x37 x38 undef x40 x41 x42 x43 v24 v25 v26 v27 v28 v29 v30 v31 v32 v33 v34 v35 v36 v37 v38 v39 v40 v41 v42 v43 u where
  wb := h.wb
  b0 := by simpa using h.b0
  b1 := by simpa using h.b1
  b2 := by simpa using h.b2
  b3 := by simpa using h.b3
  b4 := by simpa using h.b4
  b5 := by simpa using h.b5
  b6 := by simpa using h.b6
  b7 := by simpa using h.b7
  b8 := by simpa using h.b8
  b9 := by simpa using h.b9
  b10 := by simpa using h.b10
  b11 := by simpa using h.b11
  b12 := by simpa using h.b12
  b13 := by simpa using h.b13
  b14 := by simpa using h.b14
  b15 := fun e => by rw [hr] at e; cases e
  b16 := by simpa using h.b16
  b17 := by simpa using h.b17
  b18 := by simpa using h.b18
  b19 := by simpa using h.b19
end
end Go.Proofs.Ytokklaoldgdkaaa
