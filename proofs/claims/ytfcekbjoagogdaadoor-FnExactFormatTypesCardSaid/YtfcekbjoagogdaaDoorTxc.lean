/-
  The contract of the program's Coercion.text.
-/
import Derived.Test.YtfcekbjoagogdaaDoorTxi
import Derived.Test.YtfcekbjoagogdaaDoorDet
namespace Go.Proofs.YtfcekbjoagogdaaDoor
open Go.RowKit

set_option maxRecDepth 100000 in
set_option maxHeartbeats 4000000 in
theorem implCo_any (lo hi : Nat) (x y z : Value) (c : Co) (w : World) (hv : CoAt w lo hi x y z c) (hB : hi ≤ w.heap.size) (hd1 : Dig c.src) (hd2 : Dig c.dst) (hd3 : ∀ z ∈ c.map, Dig z) (hml : c.map.length ≤ 9) :
    Calls Tryd.prog 39 #[.agg #[x, y, z]] w fun e w' => e = .returned (.string (str (coT c))) ∧ Below w.heap.size w w' := by
  obtain ⟨rfl, rfl, hs4, hd4, hz4⟩ := hv
  obtain ⟨A2, cap2, rfl, _, _, _⟩ := hz4.form
  have Hz4 := Lib.hid hz4
  clear hz4
  have hz1 : Hid (Dig c.src) := hd1
  have hz2 : Hid (Dig c.dst) := hd2
  have hz3 : Hid (∀ z ∈ c.map, Dig z) := hd3
  have hnl := numsT_len c.map
  obtain ⟨L3, l3⟩ : ∃ L, L = dg c.src ++ [62] := ⟨_, rfl⟩
  obtain ⟨L4, l4⟩ : ∃ L, L = L3 ++ dg c.dst := ⟨_, rfl⟩
  obtain ⟨L5, l5⟩ : ∃ L, L = L4 ++ [58] := ⟨_, rfl⟩
  obtain ⟨L6, l6⟩ : ∃ L, L = L5 ++ numsT c.map := ⟨_, rfl⟩
  have e6 : Hid (L6 = coT c) := by
    show L6 = _
    rw [l6, l5, l4, l3]
    rfl
  have k3 : L3.length = 2 := by rw [l3]; rfl
  have k4 : L4.length = L3.length + 1 := by rw [l4]; simp [dg]
  have k5 : L5.length = L4.length + 1 := by rw [l5]; simp
  have s3 : str (dg c.src) ++ (⟨#[62]⟩ : ByteArray) = str L3 := by rw [l3]; exact str_append _ _
  have s4 : str L3 ++ str (dg c.dst) = str L4 := by rw [l4]; exact str_append _ _
  have s5 : str L4 ++ (⟨#[58]⟩ : ByteArray) = str L5 := by rw [l5]; exact str_append _ _
  have s6 : str L5 ++ str (numsT c.map) = str L6 := by rw [l6]; exact str_append _ _
  have n3 : ¬ 9223372036854775807 < (str (dg c.src)).size + 1 := by rw [str_size, show (dg c.src).length = 1 from rfl]; omega
  have n4 : ¬ 9223372036854775807 < (str L3).size + (str (dg c.dst)).size := by rw [str_size, str_size, show (dg c.dst).length = 1 from rfl]; omega
  have n5 : ¬ 9223372036854775807 < (str L4).size + 1 := by rw [str_size]; omega
  have n6 : ¬ 9223372036854775807 < (str L5).size + (str (numsT c.map)).size := by rw [str_size, str_size]; omega
  clear l3 l4 l5 l6 k3 k4 k5 hnl hd1 hd2 hd3
  have Hcf : Hid (∀ u, Below (w.heap.size + 1) (w.alloc (.cells #[.int .i64 c.src, .int .i64 c.dst, .slice A2 c.map.length cap2] 59)) u → u.cell? ⟨w.heap.size, 0, none⟩ = some (.int .i64 c.src) ∧ u.cell? ⟨w.heap.size, 1, none⟩ = some (.int .i64 c.dst) ∧ u.cell? ⟨w.heap.size, 2, none⟩ = some (.slice A2 c.map.length cap2)) := fun u hb =>
    ⟨(hb.cell (p := ⟨w.heap.size, 0, none⟩) (by dsimp only; omega)).trans (by simp [go_sem]), (hb.cell (p := ⟨w.heap.size, 1, none⟩) (by dsimp only; omega)).trans (by simp [go_sem]), (hb.cell (p := ⟨w.heap.size, 2, none⟩) (by dsimp only; omega)).trans (by simp [go_sem])⟩
  have Hu : Hid (∀ u, Below (w.heap.size + 1) (w.alloc (.cells #[.int .i64 c.src, .int .i64 c.dst, .slice A2 c.map.length cap2] 59)) u → Below w.heap.size w u) := fun u hb => ((Below.refl _ w).alloc (Nat.le_refl _) _).trans (hb.mono (by omega))
  go_enter Tryd.func39, Tryd.ntmps39
  go_wp2_with fail
  refine wp_region_inv (by kernel_rfl) (fun f a u => ∃ x3 x4 x5 x6 x7 x8 x9 x10 x11 x12 x13 x14 x15 x2, a = ⟨#[.agg #[.int .i64 c.src, .int .i64 c.dst, .slice A2 c.map.length cap2], .pointer (some ⟨w.heap.size, 0, none⟩), x2, x3, x4, x5, x6, x7, x8, x9, x10, x11, x12, x13, x14, x15], []⟩ ∧ Det (w.heap.size + 1) (w.alloc (.cells #[.int .i64 c.src, .int .i64 c.dst, .slice A2 c.map.length cap2] 59)) [.pointer (some ⟨w.heap.size, 0, none⟩), .int .i64 c.src, .string (str (dg c.src)), .string (str L3), .pointer (some ⟨w.heap.size, 1, none⟩), .int .i64 c.dst, .string (str (dg c.dst)), .string (str L4), .string (str L5), .pointer (some ⟨w.heap.size, 2, none⟩), .slice A2 c.map.length cap2, .string (str (numsT c.map)), .string (str L6), .string (str L6)] f [x3, x4, x5, x6, x7, x8, x9, x10, x11, x12, x13, x14, x15, x2] u) (of_decide_eq_true (by kernel_rfl)) ⟨_, _, _, _, _, _, _, _, _, _, _, _, _, _, rfl, Det.start (by simp) (by rfl)⟩ ?_ ?_
  · rintro f a u i o ho hfi hdep ⟨x3, x4, x5, x6, x7, x8, x9, x10, x11, x12, x13, x14, x15, x2, rfl, hF⟩
    have hil : i < 14 := by have := (Array.getElem?_eq_some_iff.1 ho).1; simpa using this
    obtain ⟨p0, p1, p2⟩ := Hcf.out u hF.bel
    obtain rfl | rfl | rfl | rfl | rfl | rfl | rfl | rfl | rfl | rfl | rfl | rfl | rfl | rfl : i = 0 ∨ i = 1 ∨ i = 2 ∨ i = 3 ∨ i = 4 ∨ i = 5 ∨ i = 6 ∨ i = 7 ∨ i = 8 ∨ i = 9 ∨ i = 10 ∨ i = 11 ∨ i = 12 ∨ i = 13 := by omega
    all_goals
      obtain rfl := Option.some.inj ho
      refine wpOp_step ho fun K hK => ?_
      simp [Region.binds] at hdep
      clear ho
    · refine det_yes rfl ?_
      have HF := Lib.hid hF
      clear hF
      unfold Oper.wp
      go_simp
      exact hK _ _ ⟨_, _, _, _, _, _, _, _, _, _, _, _, _, _, rfl, HF.out.same 0 rfl⟩
    · obtain rfl := hF.get 0 (by simp [hdep]) rfl rfl
      refine det_yes rfl ?_
      have HF := Lib.hid hF
      clear hF
      unfold Oper.wp
      go_simp
      exact hK _ _ ⟨_, _, _, _, _, _, _, _, _, _, _, _, _, _, rfl, HF.out.same 1 rfl⟩
    · obtain rfl := hF.get 1 (by simp [hdep]) rfl rfl
      refine det_yes rfl ?_
      have HF := Lib.hid hF
      clear hF
      unfold Oper.wp
      go_simp
      refine (itoa_any _ hz1.out u).mono ?_
      rintro e u2 ⟨rfl, rfl⟩
      exact hK _ _ ⟨_, _, _, _, _, _, _, _, _, _, _, _, _, _, rfl, HF.out.same 2 rfl⟩
    · obtain rfl := hF.get 2 (by simp [hdep]) rfl rfl
      refine det_yes rfl ?_
      have HF := Lib.hid hF
      clear hF
      unfold Oper.wp
      go_simp
      exact hK _ _ ⟨_, _, _, _, _, _, _, _, _, _, _, _, _, _, rfl, HF.out.same 3 rfl⟩
    · refine det_yes rfl ?_
      have HF := Lib.hid hF
      clear hF
      unfold Oper.wp
      go_simp
      exact hK _ _ ⟨_, _, _, _, _, _, _, _, _, _, _, _, _, _, rfl, HF.out.same 4 rfl⟩
    · obtain rfl := hF.get 4 (by simp [hdep]) rfl rfl
      refine det_yes rfl ?_
      have HF := Lib.hid hF
      clear hF
      unfold Oper.wp
      go_simp
      exact hK _ _ ⟨_, _, _, _, _, _, _, _, _, _, _, _, _, _, rfl, HF.out.same 5 rfl⟩
    · obtain rfl := hF.get 5 (by simp [hdep]) rfl rfl
      refine det_yes rfl ?_
      have HF := Lib.hid hF
      clear hF
      unfold Oper.wp
      go_simp
      refine (itoa_any _ hz2.out u).mono ?_
      rintro e u2 ⟨rfl, rfl⟩
      exact hK _ _ ⟨_, _, _, _, _, _, _, _, _, _, _, _, _, _, rfl, HF.out.same 6 rfl⟩
    · obtain rfl := hF.get 3 (by simp [hdep]) rfl rfl
      obtain rfl := hF.get 6 (by simp [hdep]) rfl rfl
      refine det_yes rfl ?_
      have HF := Lib.hid hF
      clear hF
      unfold Oper.wp
      go_simp
      exact hK _ _ ⟨_, _, _, _, _, _, _, _, _, _, _, _, _, _, rfl, HF.out.same 7 rfl⟩
    · obtain rfl := hF.get 7 (by simp [hdep]) rfl rfl
      refine det_yes rfl ?_
      have HF := Lib.hid hF
      clear hF
      unfold Oper.wp
      go_simp
      exact hK _ _ ⟨_, _, _, _, _, _, _, _, _, _, _, _, _, _, rfl, HF.out.same 8 rfl⟩
    · refine det_yes rfl ?_
      have HF := Lib.hid hF
      clear hF
      unfold Oper.wp
      go_simp
      exact hK _ _ ⟨_, _, _, _, _, _, _, _, _, _, _, _, _, _, rfl, HF.out.same 9 rfl⟩
    · obtain rfl := hF.get 9 (by simp [hdep]) rfl rfl
      refine det_yes rfl ?_
      have HF := Lib.hid hF
      clear hF
      unfold Oper.wp
      go_simp
      exact hK _ _ ⟨_, _, _, _, _, _, _, _, _, _, _, _, _, _, rfl, HF.out.same 10 rfl⟩
    · obtain rfl := hF.get 10 (by simp [hdep]) rfl rfl
      refine det_yes rfl ?_
      have HF := Lib.hid hF
      clear hF
      unfold Oper.wp
      go_simp
      refine (implNums_any lo hi _ c.map u (Hz4.out.below (Hu.out u HF.out.bel) hB) (by have h := (Hu.out u HF.out.bel).size; omega) hz3.out (by omega)).mono ?_
      rintro e u2 ⟨rfl, hb2⟩
      exact hK _ _ ⟨_, _, _, _, _, _, _, _, _, _, _, _, _, _, rfl, HF.out.step 11 rfl (hb2.mono (by have h := HF.out.bel.size; simp only [World.size_alloc] at h; omega))⟩
    · obtain rfl := hF.get 8 (by simp [hdep]) rfl rfl
      obtain rfl := hF.get 11 (by simp [hdep]) rfl rfl
      refine det_yes rfl ?_
      have HF := Lib.hid hF
      clear hF
      unfold Oper.wp
      go_simp
      exact hK _ _ ⟨_, _, _, _, _, _, _, _, _, _, _, _, _, _, rfl, HF.out.same 12 rfl⟩
    · obtain rfl := hF.get 12 (by simp [hdep]) rfl rfl
      refine det_yes rfl ?_
      have HF := Lib.hid hF
      clear hF
      unfold Oper.wp
      go_simp
      exact hK _ _ ⟨_, _, _, _, _, _, _, _, _, _, _, _, _, _, rfl, HF.out.same 13 rfl⟩
  · rintro f a u hall ⟨x3, x4, x5, x6, x7, x8, x9, x10, x11, x12, x13, x14, x15, x2, rfl, hF⟩
    have hall2 := hF.all (n := 14) rfl hall
    simp only [List.cons.injEq] at hall2
    obtain ⟨rfl, rfl, rfl, rfl, rfl, rfl, rfl, rfl, rfl, rfl, rfl, rfl, rfl, rfl, _⟩ := hall2
    have Hb5 := Lib.hid (Hu.out _ hF.bel)
    clear hF hall s3 s4 s5 s6 n3 n4 n5 n6
    go_wp2
    go_ret
    exact ⟨by rw [← e6.out]; rfl, Hb5.out⟩
end Go.Proofs.YtfcekbjoagogdaaDoor
