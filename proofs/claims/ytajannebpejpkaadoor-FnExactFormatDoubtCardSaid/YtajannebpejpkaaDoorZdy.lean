/-
  The contracts of the program's FormatGap, FormatClash and FormatDoubt.
-/
import Derived.Test.YtajannebpejpkaaDoorZdt
import Derived.Test.YtajannebpejpkaaDoorZdi
import Derived.Test.YtajannebpejpkaaDoorDet
namespace Go.Proofs.YtajannebpejpkaaDoor
open Go.RowKit

set_option maxRecDepth 100000 in
set_option maxHeartbeats 4000000 in
theorem implGapZ (lo hi : Nat) (nm : List UInt8) (v : Value) (zs : List Int) (w : World) (hnm : nm.length ≤ 1048576) (hv : IntsAt w lo hi v zs) (hB : hi ≤ w.heap.size) (hnzs : zs.length ≤ 1048576) (hT : Tab w.heap.size w) :
    Calls Tryd.prog 19 #[.agg #[.string (str nm), v]] w fun e w' => e = .returned (.string (str (gapT nm zs))) ∧ Below w.heap.size w w' := by
  obtain ⟨A, cap, rfl, _, _, hi1⟩ := hv.form
  have Hzs := Lib.hid hi1
  have hlzs := fmtN_len hi1.fits
  clear hv hi1
  have HT := Lib.hid hT
  clear hT
  obtain ⟨L5, l5⟩ : ∃ L, L = nm ++ [32, 111, 102, 32] := ⟨_, rfl⟩
  obtain ⟨L9, l9⟩ : ∃ L, L = L5 ++ fmtN zs := ⟨_, rfl⟩
  have eT : Hid (L9 = gapT nm zs) := by
    show L9 = _
    rw [l9, l5]
    simp only [gapT, List.append_assoc]
  have k5 : L5.length = nm.length + 4 := by rw [l5, List.length_append]; rfl
  have s5 : str nm ++ (⟨#[32, 111, 102, 32]⟩ : ByteArray) = str L5 := by rw [l5]; exact str_append _ _
  have n5 : ¬ 9223372036854775807 < (str nm).size + 4 := by rw [str_size]; omega
  have k9 : L9.length = L5.length + (fmtN zs).length := by rw [l9, List.length_append]
  have s9 : str L5 ++ str (fmtN zs) = str L9 := by rw [l9]; exact str_append _ _
  have n9 : ¬ 9223372036854775807 < (str L5).size + (str (fmtN zs)).size := by rw [str_size, str_size]; omega
  clear l5 l9 k5 k9
  have Hcf : Hid (∀ u, Below (w.heap.size + 1) (w.alloc (.cells #[.string (str nm), .slice A zs.length cap] 39)) u → u.cell? ⟨w.heap.size, 0, none⟩ = some (.string (str nm)) ∧ u.cell? ⟨w.heap.size, 1, none⟩ = some (.slice A zs.length cap)) := fun u hb =>
    ⟨(hb.cell (p := ⟨w.heap.size, 0, none⟩) (by dsimp only; omega)).trans (by simp [go_sem]), (hb.cell (p := ⟨w.heap.size, 1, none⟩) (by dsimp only; omega)).trans (by simp [go_sem])⟩
  have Hu : Hid (∀ u, Below (w.heap.size + 1) (w.alloc (.cells #[.string (str nm), .slice A zs.length cap] 39)) u → Below w.heap.size w u) := fun u hb => ((Below.refl _ w).alloc (Nat.le_refl _) _).trans (hb.mono (by omega))
  go_enter Tryd.func19, Tryd.ntmps19
  go_wp2_with fail
  go_wp2_with fail
  refine wp_region_inv (by kernel_rfl) (fun dn a u => ∃ x3 x4 x5 x6 x7 x8 x9 x2, a = ⟨#[.agg #[.string (str nm), .slice A zs.length cap], .pointer (some ⟨w.heap.size, 0, none⟩), x2, x3, x4, x5, x6, x7, x8, x9], []⟩ ∧ Det (w.heap.size + 1) (w.alloc (.cells #[.string (str nm), .slice A zs.length cap] 39)) [.pointer (some ⟨w.heap.size, 0, none⟩), .string (str nm), .string (str L5), .pointer (some ⟨w.heap.size, 1, none⟩), .slice A zs.length cap, .string (str (fmtN zs)), .string (str L9), .string (str L9)] dn [x3, x4, x5, x6, x7, x8, x9, x2] u) (of_decide_eq_true (by kernel_rfl)) ⟨_, _, _, _, _, _, _, _, rfl, Det.start (by simp) (by rfl)⟩ ?_ ?_
  · rintro dn a u i o ho hfi hdep ⟨x3, x4, x5, x6, x7, x8, x9, x2, rfl, hF⟩
    have hil : i < 8 := by have := (Array.getElem?_eq_some_iff.1 ho).1; simpa using this
    obtain ⟨p0, p1⟩ := Hcf.out u hF.bel
    obtain rfl | rfl | rfl | rfl | rfl | rfl | rfl | rfl : i = 0 ∨ i = 1 ∨ i = 2 ∨ i = 3 ∨ i = 4 ∨ i = 5 ∨ i = 6 ∨ i = 7 := by omega
    all_goals
      obtain rfl := Option.some.inj ho
      refine wpOp_step ho fun K hK => ?_
      simp [Region.binds] at hdep
      clear ho
    · refine det_yes rfl ?_
      have HF := Lib.hid hF
      clear hF
      unfold Oper.wp
      go_simp
      exact hK _ _ ⟨_, _, _, _, _, _, _, _, rfl, HF.out.same 0 rfl⟩
    · obtain rfl := hF.get 0 (by simp [hdep]) rfl rfl
      refine det_yes rfl ?_
      have HF := Lib.hid hF
      clear hF
      unfold Oper.wp
      go_simp
      exact hK _ _ ⟨_, _, _, _, _, _, _, _, rfl, HF.out.same 1 rfl⟩
    · obtain rfl := hF.get 1 (by simp [hdep]) rfl rfl
      refine det_yes rfl ?_
      have HF := Lib.hid hF
      clear hF
      unfold Oper.wp
      go_simp
      exact hK _ _ ⟨_, _, _, _, _, _, _, _, rfl, HF.out.same 2 rfl⟩
    · refine det_yes rfl ?_
      have HF := Lib.hid hF
      clear hF
      unfold Oper.wp
      go_simp
      exact hK _ _ ⟨_, _, _, _, _, _, _, _, rfl, HF.out.same 3 rfl⟩
    · obtain rfl := hF.get 3 (by simp [hdep]) rfl rfl
      refine det_yes rfl ?_
      have HF := Lib.hid hF
      clear hF
      unfold Oper.wp
      go_simp
      exact hK _ _ ⟨_, _, _, _, _, _, _, _, rfl, HF.out.same 4 rfl⟩
    · obtain rfl := hF.get 4 (by simp [hdep]) rfl rfl
      refine det_yes rfl ?_
      have HF := Lib.hid hF
      clear hF
      unfold Oper.wp
      go_simp
      refine (implFmtN lo hi _ zs u (Hzs.out.below (Hu.out u HF.out.bel) hB) (by have h := (Hu.out u HF.out.bel).size; omega) hnzs w.heap.size (HT.out.go (Hu.out u HF.out.bel) (Nat.le_refl _)) (Hu.out u HF.out.bel).size).mono ?_
      rintro e u2 ⟨rfl, hb2⟩
      exact hK _ _ ⟨_, _, _, _, _, _, _, _, rfl, HF.out.step 5 rfl (hb2.mono (by have h := HF.out.bel.size; (try simp only [World.size_alloc] at h); omega))⟩
    · obtain rfl := hF.get 2 (by simp [hdep]) rfl rfl
      obtain rfl := hF.get 5 (by simp [hdep]) rfl rfl
      refine det_yes rfl ?_
      have HF := Lib.hid hF
      clear hF
      unfold Oper.wp
      go_simp
      exact hK _ _ ⟨_, _, _, _, _, _, _, _, rfl, HF.out.same 6 rfl⟩
    · obtain rfl := hF.get 6 (by simp [hdep]) rfl rfl
      refine det_yes rfl ?_
      have HF := Lib.hid hF
      clear hF
      unfold Oper.wp
      go_simp
      exact hK _ _ ⟨_, _, _, _, _, _, _, _, rfl, HF.out.same 7 rfl⟩
  · rintro dn a u hall ⟨x3, x4, x5, x6, x7, x8, x9, x2, rfl, hF⟩
    have hall2 := hF.all (n := 8) rfl hall
    simp only [List.cons.injEq] at hall2
    obtain ⟨rfl, rfl, rfl, rfl, rfl, rfl, rfl, rfl, _⟩ := hall2
    have Hb5 := Lib.hid (Hu.out _ hF.bel)
    clear hF hall s5 s9 n5 n9
    go_wp2
    go_ret
    exact ⟨by rw [← eT.out]; rfl, Hb5.out⟩

set_option maxRecDepth 100000 in
set_option maxHeartbeats 4000000 in
theorem implClashZ (lo hi : Nat) (ia ib : Int) (v : Value) (zs : List Int) (w : World) (hia : I64 ia) (hib : I64 ib) (hv : IntsAt w lo hi v zs) (hB : hi ≤ w.heap.size) (hnzs : zs.length ≤ 1048576) (hT : Tab w.heap.size w) :
    Calls Tryd.prog 24 #[.agg #[.int .i64 ia, .int .i64 ib, v]] w fun e w' => e = .returned (.string (str (clashT ia ib zs))) ∧ Below w.heap.size w w' := by
  obtain ⟨A, cap, rfl, _, _, hi1⟩ := hv.form
  have Hzs := Lib.hid hi1
  have hlzs := fmtN_len hi1.fits
  clear hv hi1
  have hlia := itoa_len hia
  have Hia : Hid (I64 ia) := hia
  clear hia
  have hlib := itoa_len hib
  have Hib : Hid (I64 ib) := hib
  clear hib
  have HT := Lib.hid hT
  clear hT
  obtain ⟨L6, l6⟩ : ∃ L, L = Lib.itoa ia ++ [32, 97, 110, 100, 32] := ⟨_, rfl⟩
  obtain ⟨L10, l10⟩ : ∃ L, L = L6 ++ Lib.itoa ib := ⟨_, rfl⟩
  obtain ⟨L11, l11⟩ : ∃ L, L = L10 ++ [32, 97, 116, 32] := ⟨_, rfl⟩
  obtain ⟨L15, l15⟩ : ∃ L, L = L11 ++ fmtN zs := ⟨_, rfl⟩
  have eT : Hid (L15 = clashT ia ib zs) := by
    show L15 = _
    rw [l15, l11, l10, l6]
    simp only [clashT, List.append_assoc]
  have k6 : L6.length = (Lib.itoa ia).length + 5 := by rw [l6, List.length_append]; rfl
  have s6 : str (Lib.itoa ia) ++ (⟨#[32, 97, 110, 100, 32]⟩ : ByteArray) = str L6 := by rw [l6]; exact str_append _ _
  have n6 : ¬ 9223372036854775807 < (str (Lib.itoa ia)).size + 5 := by rw [str_size]; omega
  have k10 : L10.length = L6.length + (Lib.itoa ib).length := by rw [l10, List.length_append]
  have s10 : str L6 ++ str (Lib.itoa ib) = str L10 := by rw [l10]; exact str_append _ _
  have n10 : ¬ 9223372036854775807 < (str L6).size + (str (Lib.itoa ib)).size := by rw [str_size, str_size]; omega
  have k11 : L11.length = L10.length + 4 := by rw [l11, List.length_append]; rfl
  have s11 : str L10 ++ (⟨#[32, 97, 116, 32]⟩ : ByteArray) = str L11 := by rw [l11]; exact str_append _ _
  have n11 : ¬ 9223372036854775807 < (str L10).size + 4 := by rw [str_size]; omega
  have k15 : L15.length = L11.length + (fmtN zs).length := by rw [l15, List.length_append]
  have s15 : str L11 ++ str (fmtN zs) = str L15 := by rw [l15]; exact str_append _ _
  have n15 : ¬ 9223372036854775807 < (str L11).size + (str (fmtN zs)).size := by rw [str_size, str_size]; omega
  clear l6 l10 l11 l15 k6 k10 k11 k15
  have Hcf : Hid (∀ u, Below (w.heap.size + 1) (w.alloc (.cells #[.int .i64 ia, .int .i64 ib, .slice A zs.length cap] 47)) u → u.cell? ⟨w.heap.size, 0, none⟩ = some (.int .i64 ia) ∧ u.cell? ⟨w.heap.size, 1, none⟩ = some (.int .i64 ib) ∧ u.cell? ⟨w.heap.size, 2, none⟩ = some (.slice A zs.length cap)) := fun u hb =>
    ⟨(hb.cell (p := ⟨w.heap.size, 0, none⟩) (by dsimp only; omega)).trans (by simp [go_sem]), (hb.cell (p := ⟨w.heap.size, 1, none⟩) (by dsimp only; omega)).trans (by simp [go_sem]), (hb.cell (p := ⟨w.heap.size, 2, none⟩) (by dsimp only; omega)).trans (by simp [go_sem])⟩
  have Hu : Hid (∀ u, Below (w.heap.size + 1) (w.alloc (.cells #[.int .i64 ia, .int .i64 ib, .slice A zs.length cap] 47)) u → Below w.heap.size w u) := fun u hb => ((Below.refl _ w).alloc (Nat.le_refl _) _).trans (hb.mono (by omega))
  go_enter Tryd.func24, Tryd.ntmps24
  go_wp2_with fail
  go_wp2_with fail
  refine wp_region_inv (by kernel_rfl) (fun dn a u => ∃ x3 x4 x5 x6 x7 x8 x9 x10 x11 x12 x13 x14 x15 x2, a = ⟨#[.agg #[.int .i64 ia, .int .i64 ib, .slice A zs.length cap], .pointer (some ⟨w.heap.size, 0, none⟩), x2, x3, x4, x5, x6, x7, x8, x9, x10, x11, x12, x13, x14, x15], []⟩ ∧ Det (w.heap.size + 1) (w.alloc (.cells #[.int .i64 ia, .int .i64 ib, .slice A zs.length cap] 47)) [.pointer (some ⟨w.heap.size, 0, none⟩), .int .i64 ia, .string (str (Lib.itoa ia)), .string (str L6), .pointer (some ⟨w.heap.size, 1, none⟩), .int .i64 ib, .string (str (Lib.itoa ib)), .string (str L10), .string (str L11), .pointer (some ⟨w.heap.size, 2, none⟩), .slice A zs.length cap, .string (str (fmtN zs)), .string (str L15), .string (str L15)] dn [x3, x4, x5, x6, x7, x8, x9, x10, x11, x12, x13, x14, x15, x2] u) (of_decide_eq_true (by kernel_rfl)) ⟨_, _, _, _, _, _, _, _, _, _, _, _, _, _, rfl, Det.start (by simp) (by rfl)⟩ ?_ ?_
  · rintro dn a u i o ho hfi hdep ⟨x3, x4, x5, x6, x7, x8, x9, x10, x11, x12, x13, x14, x15, x2, rfl, hF⟩
    have hil : i < 14 := by have := (Array.getElem?_eq_some_iff.1 ho).1; simpa using this
    obtain ⟨p0, p1, p2⟩ := Hcf.out u hF.bel
    obtain rfl | rfl | rfl | rfl | rfl | rfl | rfl | rfl | rfl | rfl | rfl | rfl | rfl | rfl : i = 0 ∨ i = 1 ∨ i = 2 ∨ i = 3 ∨ i = 4 ∨ i = 5 ∨ i = 6 ∨ i = 7 ∨ i = 8 ∨ i = 9 ∨ i = 10 ∨ i = 11 ∨ i = 12 ∨ i = 13 := by omega
    all_goals
      obtain rfl := Option.some.inj ho
      refine wpOp_step ho fun K hK => ?_
      simp [Region.binds] at hdep
      clear ho
    · refine det_yes rfl ?_
      have HF := Lib.hid hF
      clear hF
      unfold Oper.wp
      go_simp
      exact hK _ _ ⟨_, _, _, _, _, _, _, _, _, _, _, _, _, _, rfl, HF.out.same 0 rfl⟩
    · obtain rfl := hF.get 0 (by simp [hdep]) rfl rfl
      refine det_yes rfl ?_
      have HF := Lib.hid hF
      clear hF
      unfold Oper.wp
      go_simp
      exact hK _ _ ⟨_, _, _, _, _, _, _, _, _, _, _, _, _, _, rfl, HF.out.same 1 rfl⟩
    · obtain rfl := hF.get 1 (by simp [hdep]) rfl rfl
      refine det_yes rfl ?_
      have HF := Lib.hid hF
      clear hF
      unfold Oper.wp
      go_simp
      refine (itoaZ _ Hia.out u w.heap.size (HT.out.go (Hu.out u HF.out.bel) (Nat.le_refl _))).mono ?_
      rintro e u2 ⟨rfl, hb2⟩
      exact hK _ _ ⟨_, _, _, _, _, _, _, _, _, _, _, _, _, _, rfl, HF.out.step 2 rfl (hb2.mono (by have h := HF.out.bel.size; (try simp only [World.size_alloc] at h); omega))⟩
    · obtain rfl := hF.get 2 (by simp [hdep]) rfl rfl
      refine det_yes rfl ?_
      have HF := Lib.hid hF
      clear hF
      unfold Oper.wp
      go_simp
      exact hK _ _ ⟨_, _, _, _, _, _, _, _, _, _, _, _, _, _, rfl, HF.out.same 3 rfl⟩
    · refine det_yes rfl ?_
      have HF := Lib.hid hF
      clear hF
      unfold Oper.wp
      go_simp
      exact hK _ _ ⟨_, _, _, _, _, _, _, _, _, _, _, _, _, _, rfl, HF.out.same 4 rfl⟩
    · obtain rfl := hF.get 4 (by simp [hdep]) rfl rfl
      refine det_yes rfl ?_
      have HF := Lib.hid hF
      clear hF
      unfold Oper.wp
      go_simp
      exact hK _ _ ⟨_, _, _, _, _, _, _, _, _, _, _, _, _, _, rfl, HF.out.same 5 rfl⟩
    · obtain rfl := hF.get 5 (by simp [hdep]) rfl rfl
      refine det_yes rfl ?_
      have HF := Lib.hid hF
      clear hF
      unfold Oper.wp
      go_simp
      refine (itoaZ _ Hib.out u w.heap.size (HT.out.go (Hu.out u HF.out.bel) (Nat.le_refl _))).mono ?_
      rintro e u2 ⟨rfl, hb2⟩
      exact hK _ _ ⟨_, _, _, _, _, _, _, _, _, _, _, _, _, _, rfl, HF.out.step 6 rfl (hb2.mono (by have h := HF.out.bel.size; (try simp only [World.size_alloc] at h); omega))⟩
    · obtain rfl := hF.get 3 (by simp [hdep]) rfl rfl
      obtain rfl := hF.get 6 (by simp [hdep]) rfl rfl
      refine det_yes rfl ?_
      have HF := Lib.hid hF
      clear hF
      unfold Oper.wp
      go_simp
      exact hK _ _ ⟨_, _, _, _, _, _, _, _, _, _, _, _, _, _, rfl, HF.out.same 7 rfl⟩
    · obtain rfl := hF.get 7 (by simp [hdep]) rfl rfl
      refine det_yes rfl ?_
      have HF := Lib.hid hF
      clear hF
      unfold Oper.wp
      go_simp
      exact hK _ _ ⟨_, _, _, _, _, _, _, _, _, _, _, _, _, _, rfl, HF.out.same 8 rfl⟩
    · refine det_yes rfl ?_
      have HF := Lib.hid hF
      clear hF
      unfold Oper.wp
      go_simp
      exact hK _ _ ⟨_, _, _, _, _, _, _, _, _, _, _, _, _, _, rfl, HF.out.same 9 rfl⟩
    · obtain rfl := hF.get 9 (by simp [hdep]) rfl rfl
      refine det_yes rfl ?_
      have HF := Lib.hid hF
      clear hF
      unfold Oper.wp
      go_simp
      exact hK _ _ ⟨_, _, _, _, _, _, _, _, _, _, _, _, _, _, rfl, HF.out.same 10 rfl⟩
    · obtain rfl := hF.get 10 (by simp [hdep]) rfl rfl
      refine det_yes rfl ?_
      have HF := Lib.hid hF
      clear hF
      unfold Oper.wp
      go_simp
      refine (implFmtN lo hi _ zs u (Hzs.out.below (Hu.out u HF.out.bel) hB) (by have h := (Hu.out u HF.out.bel).size; omega) hnzs w.heap.size (HT.out.go (Hu.out u HF.out.bel) (Nat.le_refl _)) (Hu.out u HF.out.bel).size).mono ?_
      rintro e u2 ⟨rfl, hb2⟩
      exact hK _ _ ⟨_, _, _, _, _, _, _, _, _, _, _, _, _, _, rfl, HF.out.step 11 rfl (hb2.mono (by have h := HF.out.bel.size; (try simp only [World.size_alloc] at h); omega))⟩
    · obtain rfl := hF.get 8 (by simp [hdep]) rfl rfl
      obtain rfl := hF.get 11 (by simp [hdep]) rfl rfl
      refine det_yes rfl ?_
      have HF := Lib.hid hF
      clear hF
      unfold Oper.wp
      go_simp
      exact hK _ _ ⟨_, _, _, _, _, _, _, _, _, _, _, _, _, _, rfl, HF.out.same 12 rfl⟩
    · obtain rfl := hF.get 12 (by simp [hdep]) rfl rfl
      refine det_yes rfl ?_
      have HF := Lib.hid hF
      clear hF
      unfold Oper.wp
      go_simp
      exact hK _ _ ⟨_, _, _, _, _, _, _, _, _, _, _, _, _, _, rfl, HF.out.same 13 rfl⟩
  · rintro dn a u hall ⟨x3, x4, x5, x6, x7, x8, x9, x10, x11, x12, x13, x14, x15, x2, rfl, hF⟩
    have hall2 := hF.all (n := 14) rfl hall
    simp only [List.cons.injEq] at hall2
    obtain ⟨rfl, rfl, rfl, rfl, rfl, rfl, rfl, rfl, rfl, rfl, rfl, rfl, rfl, rfl, _⟩ := hall2
    have Hb5 := Lib.hid (Hu.out _ hF.bel)
    clear hF hall s6 s10 s11 s15 n6 n10 n11 n15
    go_wp2
    go_ret
    exact ⟨by rw [← eT.out]; rfl, Hb5.out⟩

set_option maxRecDepth 100000 in
set_option maxHeartbeats 4000000 in
theorem implDoubtZ (lo hi : Nat) (ia ib ic : Int) (v v2 : Value) (zs ys : List Int) (w : World) (hia : I64 ia) (hib : I64 ib) (hic : I64 ic) (hv : IntsAt w lo hi v zs) (hv2 : IntsAt w lo hi v2 ys) (hB : hi ≤ w.heap.size) (hnzs : zs.length ≤ 1048576) (hnys : ys.length ≤ 1048576) (hT : Tab w.heap.size w) :
    Calls Tryd.prog 14 #[.agg #[.int .i64 ia, .int .i64 ib, .int .i64 ic, v, v2]] w fun e w' => e = .returned (.string (str (doubtT ia ib ic zs ys))) ∧ Below w.heap.size w w' := by
  obtain ⟨A, cap, rfl, _, _, hi1⟩ := hv.form
  have Hzs := Lib.hid hi1
  have hlzs := fmtN_len hi1.fits
  clear hv hi1
  obtain ⟨A2, cap2, rfl, _, _, hi2⟩ := hv2.form
  have Hys := Lib.hid hi2
  have hlys := fmtN_len hi2.fits
  clear hv2 hi2
  have hlia := itoa_len hia
  have Hia : Hid (I64 ia) := hia
  clear hia
  have hlib := itoa_len hib
  have Hib : Hid (I64 ib) := hib
  clear hib
  have hlic := itoa_len hic
  have Hic : Hid (I64 ic) := hic
  clear hic
  have HT := Lib.hid hT
  clear hT
  obtain ⟨L7, l7⟩ : ∃ L, L = Lib.itoa ia ++ [58] := ⟨_, rfl⟩
  obtain ⟨L11, l11⟩ : ∃ L, L = L7 ++ Lib.itoa ic := ⟨_, rfl⟩
  obtain ⟨L13, l13⟩ : ∃ L, L = L11 ++ [32, 116, 111, 32] := ⟨_, rfl⟩
  obtain ⟨L17, l17⟩ : ∃ L, L = L13 ++ Lib.itoa ib := ⟨_, rfl⟩
  obtain ⟨L18, l18⟩ : ∃ L, L = L17 ++ [32, 98, 121, 32] := ⟨_, rfl⟩
  obtain ⟨L22, l22⟩ : ∃ L, L = L18 ++ fmtN zs := ⟨_, rfl⟩
  obtain ⟨L23, l23⟩ : ∃ L, L = L22 ++ [32, 111, 114, 32] := ⟨_, rfl⟩
  obtain ⟨L27, l27⟩ : ∃ L, L = L23 ++ fmtN ys := ⟨_, rfl⟩
  have eT : Hid (L27 = doubtT ia ib ic zs ys) := by
    show L27 = _
    rw [l27, l23, l22, l18, l17, l13, l11, l7]
    simp only [doubtT, valT, List.append_assoc]
  have k7 : L7.length = (Lib.itoa ia).length + 1 := by rw [l7, List.length_append]; rfl
  have s7 : str (Lib.itoa ia) ++ (⟨#[58]⟩ : ByteArray) = str L7 := by rw [l7]; exact str_append _ _
  have n7 : ¬ 9223372036854775807 < (str (Lib.itoa ia)).size + 1 := by rw [str_size]; omega
  have k11 : L11.length = L7.length + (Lib.itoa ic).length := by rw [l11, List.length_append]
  have s11 : str L7 ++ str (Lib.itoa ic) = str L11 := by rw [l11]; exact str_append _ _
  have n11 : ¬ 9223372036854775807 < (str L7).size + (str (Lib.itoa ic)).size := by rw [str_size, str_size]; omega
  have k13 : L13.length = L11.length + 4 := by rw [l13, List.length_append]; rfl
  have s13 : str L11 ++ (⟨#[32, 116, 111, 32]⟩ : ByteArray) = str L13 := by rw [l13]; exact str_append _ _
  have n13 : ¬ 9223372036854775807 < (str L11).size + 4 := by rw [str_size]; omega
  have k17 : L17.length = L13.length + (Lib.itoa ib).length := by rw [l17, List.length_append]
  have s17 : str L13 ++ str (Lib.itoa ib) = str L17 := by rw [l17]; exact str_append _ _
  have n17 : ¬ 9223372036854775807 < (str L13).size + (str (Lib.itoa ib)).size := by rw [str_size, str_size]; omega
  have k18 : L18.length = L17.length + 4 := by rw [l18, List.length_append]; rfl
  have s18 : str L17 ++ (⟨#[32, 98, 121, 32]⟩ : ByteArray) = str L18 := by rw [l18]; exact str_append _ _
  have n18 : ¬ 9223372036854775807 < (str L17).size + 4 := by rw [str_size]; omega
  have k22 : L22.length = L18.length + (fmtN zs).length := by rw [l22, List.length_append]
  have s22 : str L18 ++ str (fmtN zs) = str L22 := by rw [l22]; exact str_append _ _
  have n22 : ¬ 9223372036854775807 < (str L18).size + (str (fmtN zs)).size := by rw [str_size, str_size]; omega
  have k23 : L23.length = L22.length + 4 := by rw [l23, List.length_append]; rfl
  have s23 : str L22 ++ (⟨#[32, 111, 114, 32]⟩ : ByteArray) = str L23 := by rw [l23]; exact str_append _ _
  have n23 : ¬ 9223372036854775807 < (str L22).size + 4 := by rw [str_size]; omega
  have k27 : L27.length = L23.length + (fmtN ys).length := by rw [l27, List.length_append]
  have s27 : str L23 ++ str (fmtN ys) = str L27 := by rw [l27]; exact str_append _ _
  have n27 : ¬ 9223372036854775807 < (str L23).size + (str (fmtN ys)).size := by rw [str_size, str_size]; omega
  clear l7 l11 l13 l17 l18 l22 l23 l27 k7 k11 k13 k17 k18 k22 k23 k27
  have Hcf : Hid (∀ u, Below (w.heap.size + 1) (w.alloc (.cells #[.int .i64 ia, .int .i64 ib, .int .i64 ic, .slice A zs.length cap, .slice A2 ys.length cap2] 31)) u → u.cell? ⟨w.heap.size, 0, none⟩ = some (.int .i64 ia) ∧ u.cell? ⟨w.heap.size, 1, none⟩ = some (.int .i64 ib) ∧ u.cell? ⟨w.heap.size, 2, none⟩ = some (.int .i64 ic) ∧ u.cell? ⟨w.heap.size, 3, none⟩ = some (.slice A zs.length cap) ∧ u.cell? ⟨w.heap.size, 4, none⟩ = some (.slice A2 ys.length cap2)) := fun u hb =>
    ⟨(hb.cell (p := ⟨w.heap.size, 0, none⟩) (by dsimp only; omega)).trans (by simp [go_sem]), (hb.cell (p := ⟨w.heap.size, 1, none⟩) (by dsimp only; omega)).trans (by simp [go_sem]), (hb.cell (p := ⟨w.heap.size, 2, none⟩) (by dsimp only; omega)).trans (by simp [go_sem]), (hb.cell (p := ⟨w.heap.size, 3, none⟩) (by dsimp only; omega)).trans (by simp [go_sem]), (hb.cell (p := ⟨w.heap.size, 4, none⟩) (by dsimp only; omega)).trans (by simp [go_sem])⟩
  have Hu : Hid (∀ u, Below (w.heap.size + 1) (w.alloc (.cells #[.int .i64 ia, .int .i64 ib, .int .i64 ic, .slice A zs.length cap, .slice A2 ys.length cap2] 31)) u → Below w.heap.size w u) := fun u hb => ((Below.refl _ w).alloc (Nat.le_refl _) _).trans (hb.mono (by omega))
  go_enter Tryd.func14, Tryd.ntmps14
  go_wp2_with fail
  go_wp2_with fail
  refine wp_region_inv (by kernel_rfl) (fun dn a u => ∃ x4 x5 x6 x7 x8 x9 x10 x11 x3, a = ⟨#[.agg #[.int .i64 ia, .int .i64 ib, .int .i64 ic, .slice A zs.length cap, .slice A2 ys.length cap2], .pointer (some ⟨w.heap.size, 0, none⟩), .string ⟨#[]⟩, x3, x4, x5, x6, x7, x8, x9, x10, x11, undef, undef, undef, undef, undef, undef, undef, undef, undef, undef, undef, undef, undef, undef, undef, undef], []⟩ ∧ Det (w.heap.size + 1) (w.alloc (.cells #[.int .i64 ia, .int .i64 ib, .int .i64 ic, .slice A zs.length cap, .slice A2 ys.length cap2] 31)) [.pointer (some ⟨w.heap.size, 0, none⟩), .int .i64 ia, .string (str (Lib.itoa ia)), .string (str L7), .pointer (some ⟨w.heap.size, 2, none⟩), .int .i64 ic, .string (str (Lib.itoa ic)), .string (str L11), .string (str L11)] dn [x4, x5, x6, x7, x8, x9, x10, x11, x3] u) (of_decide_eq_true (by kernel_rfl)) ⟨_, _, _, _, _, _, _, _, _, rfl, Det.start (by simp) (by rfl)⟩ ?_ ?_
  · rintro dn a u i o ho hfi hdep ⟨x4, x5, x6, x7, x8, x9, x10, x11, x3, rfl, hF⟩
    have hil : i < 9 := by have := (Array.getElem?_eq_some_iff.1 ho).1; simpa using this
    obtain ⟨p0, p1, p2, p3, p4⟩ := Hcf.out u hF.bel
    obtain rfl | rfl | rfl | rfl | rfl | rfl | rfl | rfl | rfl : i = 0 ∨ i = 1 ∨ i = 2 ∨ i = 3 ∨ i = 4 ∨ i = 5 ∨ i = 6 ∨ i = 7 ∨ i = 8 := by omega
    all_goals
      obtain rfl := Option.some.inj ho
      refine wpOp_step ho fun K hK => ?_
      simp [Region.binds] at hdep
      clear ho
    · refine det_yes rfl ?_
      have HF := Lib.hid hF
      clear hF
      unfold Oper.wp
      go_simp
      exact hK _ _ ⟨_, _, _, _, _, _, _, _, _, rfl, HF.out.same 0 rfl⟩
    · obtain rfl := hF.get 0 (by simp [hdep]) rfl rfl
      refine det_yes rfl ?_
      have HF := Lib.hid hF
      clear hF
      unfold Oper.wp
      go_simp
      exact hK _ _ ⟨_, _, _, _, _, _, _, _, _, rfl, HF.out.same 1 rfl⟩
    · obtain rfl := hF.get 1 (by simp [hdep]) rfl rfl
      refine det_yes rfl ?_
      have HF := Lib.hid hF
      clear hF
      unfold Oper.wp
      go_simp
      refine (itoaZ _ Hia.out u w.heap.size (HT.out.go (Hu.out u HF.out.bel) (Nat.le_refl _))).mono ?_
      rintro e u2 ⟨rfl, hb2⟩
      exact hK _ _ ⟨_, _, _, _, _, _, _, _, _, rfl, HF.out.step 2 rfl (hb2.mono (by have h := HF.out.bel.size; (try simp only [World.size_alloc] at h); omega))⟩
    · obtain rfl := hF.get 2 (by simp [hdep]) rfl rfl
      refine det_yes rfl ?_
      have HF := Lib.hid hF
      clear hF
      unfold Oper.wp
      go_simp
      exact hK _ _ ⟨_, _, _, _, _, _, _, _, _, rfl, HF.out.same 3 rfl⟩
    · refine det_yes rfl ?_
      have HF := Lib.hid hF
      clear hF
      unfold Oper.wp
      go_simp
      exact hK _ _ ⟨_, _, _, _, _, _, _, _, _, rfl, HF.out.same 4 rfl⟩
    · obtain rfl := hF.get 4 (by simp [hdep]) rfl rfl
      refine det_yes rfl ?_
      have HF := Lib.hid hF
      clear hF
      unfold Oper.wp
      go_simp
      exact hK _ _ ⟨_, _, _, _, _, _, _, _, _, rfl, HF.out.same 5 rfl⟩
    · obtain rfl := hF.get 5 (by simp [hdep]) rfl rfl
      refine det_yes rfl ?_
      have HF := Lib.hid hF
      clear hF
      unfold Oper.wp
      go_simp
      refine (itoaZ _ Hic.out u w.heap.size (HT.out.go (Hu.out u HF.out.bel) (Nat.le_refl _))).mono ?_
      rintro e u2 ⟨rfl, hb2⟩
      exact hK _ _ ⟨_, _, _, _, _, _, _, _, _, rfl, HF.out.step 6 rfl (hb2.mono (by have h := HF.out.bel.size; (try simp only [World.size_alloc] at h); omega))⟩
    · obtain rfl := hF.get 3 (by simp [hdep]) rfl rfl
      obtain rfl := hF.get 6 (by simp [hdep]) rfl rfl
      refine det_yes rfl ?_
      have HF := Lib.hid hF
      clear hF
      unfold Oper.wp
      go_simp
      exact hK _ _ ⟨_, _, _, _, _, _, _, _, _, rfl, HF.out.same 7 rfl⟩
    · obtain rfl := hF.get 7 (by simp [hdep]) rfl rfl
      refine det_yes rfl ?_
      have HF := Lib.hid hF
      clear hF
      unfold Oper.wp
      go_simp
      exact hK _ _ ⟨_, _, _, _, _, _, _, _, _, rfl, HF.out.same 8 rfl⟩
  · rintro dn a u hall ⟨x4, x5, x6, x7, x8, x9, x10, x11, x3, rfl, hF⟩
    have hall2 := hF.all (n := 9) rfl hall
    simp only [List.cons.injEq] at hall2
    obtain ⟨rfl, rfl, rfl, rfl, rfl, rfl, rfl, rfl, rfl, _⟩ := hall2
    obtain ⟨u1, rfl⟩ : ∃ x, x = u := ⟨_, rfl⟩
    have Hu1 := Lib.hid hF.bel
    have hN1 : w.heap.size + 1 ≤ u1.heap.size := by have h := hF.bel.size; simpa using h
    clear hF hall
    go_wp2_with fail
    refine wp_region_inv (by kernel_rfl) (fun dn a u => ∃ x12 x13 x14 x15 x16 x17 x18 x19 x20 x21 x22 x23 x24 x25 x26 x27 x2, a = ⟨#[.agg #[.int .i64 ia, .int .i64 ib, .int .i64 ic, .slice A zs.length cap, .slice A2 ys.length cap2], .pointer (some ⟨w.heap.size, 0, none⟩), x2, .string (str L11), .pointer (some ⟨w.heap.size, 0, none⟩), .int .i64 ia, .string (str (Lib.itoa ia)), .string (str L7), .pointer (some ⟨w.heap.size, 2, none⟩), .int .i64 ic, .string (str (Lib.itoa ic)), .string (str L11), x12, x13, x14, x15, x16, x17, x18, x19, x20, x21, x22, x23, x24, x25, x26, x27], []⟩ ∧ Det (w.heap.size + 1) (u1) [.string (str L11), .string (str L13), .pointer (some ⟨w.heap.size, 1, none⟩), .int .i64 ib, .string (str (Lib.itoa ib)), .string (str L17), .string (str L18), .pointer (some ⟨w.heap.size, 3, none⟩), .slice A zs.length cap, .string (str (fmtN zs)), .string (str L22), .string (str L23), .pointer (some ⟨w.heap.size, 4, none⟩), .slice A2 ys.length cap2, .string (str (fmtN ys)), .string (str L27), .string (str L27)] dn [x12, x13, x14, x15, x16, x17, x18, x19, x20, x21, x22, x23, x24, x25, x26, x27, x2] u) (of_decide_eq_true (by kernel_rfl)) ⟨_, _, _, _, _, _, _, _, _, _, _, _, _, _, _, _, _, rfl, Det.start hN1 (by rfl)⟩ ?_ ?_
    · rintro dn a u i o ho hfi hdep ⟨x12, x13, x14, x15, x16, x17, x18, x19, x20, x21, x22, x23, x24, x25, x26, x27, x2, rfl, hF⟩
      have hil : i < 17 := by have := (Array.getElem?_eq_some_iff.1 ho).1; simpa using this
      obtain ⟨p0, p1, p2, p3, p4⟩ := Hcf.out u (Hu1.out.trans hF.bel)
      obtain rfl | rfl | rfl | rfl | rfl | rfl | rfl | rfl | rfl | rfl | rfl | rfl | rfl | rfl | rfl | rfl | rfl : i = 0 ∨ i = 1 ∨ i = 2 ∨ i = 3 ∨ i = 4 ∨ i = 5 ∨ i = 6 ∨ i = 7 ∨ i = 8 ∨ i = 9 ∨ i = 10 ∨ i = 11 ∨ i = 12 ∨ i = 13 ∨ i = 14 ∨ i = 15 ∨ i = 16 := by omega
      all_goals
        obtain rfl := Option.some.inj ho
        refine wpOp_step ho fun K hK => ?_
        simp [Region.binds] at hdep
        clear ho
      · refine det_yes rfl ?_
        have HF := Lib.hid hF
        clear hF
        unfold Oper.wp
        go_simp
        exact hK _ _ ⟨_, _, _, _, _, _, _, _, _, _, _, _, _, _, _, _, _, rfl, HF.out.same 0 rfl⟩
      · obtain rfl := hF.get 0 (by simp [hdep]) rfl rfl
        refine det_yes rfl ?_
        have HF := Lib.hid hF
        clear hF
        unfold Oper.wp
        go_simp
        exact hK _ _ ⟨_, _, _, _, _, _, _, _, _, _, _, _, _, _, _, _, _, rfl, HF.out.same 1 rfl⟩
      · refine det_yes rfl ?_
        have HF := Lib.hid hF
        clear hF
        unfold Oper.wp
        go_simp
        exact hK _ _ ⟨_, _, _, _, _, _, _, _, _, _, _, _, _, _, _, _, _, rfl, HF.out.same 2 rfl⟩
      · obtain rfl := hF.get 2 (by simp [hdep]) rfl rfl
        refine det_yes rfl ?_
        have HF := Lib.hid hF
        clear hF
        unfold Oper.wp
        go_simp
        exact hK _ _ ⟨_, _, _, _, _, _, _, _, _, _, _, _, _, _, _, _, _, rfl, HF.out.same 3 rfl⟩
      · obtain rfl := hF.get 3 (by simp [hdep]) rfl rfl
        refine det_yes rfl ?_
        have HF := Lib.hid hF
        clear hF
        unfold Oper.wp
        go_simp
        refine (itoaZ _ Hib.out u w.heap.size (HT.out.go (Hu.out u (Hu1.out.trans HF.out.bel)) (Nat.le_refl _))).mono ?_
        rintro e u2 ⟨rfl, hb2⟩
        exact hK _ _ ⟨_, _, _, _, _, _, _, _, _, _, _, _, _, _, _, _, _, rfl, HF.out.step 4 rfl (hb2.mono (by have h := HF.out.bel.size; (try simp only [World.size_alloc] at h); omega))⟩
      · obtain rfl := hF.get 1 (by simp [hdep]) rfl rfl
        obtain rfl := hF.get 4 (by simp [hdep]) rfl rfl
        refine det_yes rfl ?_
        have HF := Lib.hid hF
        clear hF
        unfold Oper.wp
        go_simp
        exact hK _ _ ⟨_, _, _, _, _, _, _, _, _, _, _, _, _, _, _, _, _, rfl, HF.out.same 5 rfl⟩
      · obtain rfl := hF.get 5 (by simp [hdep]) rfl rfl
        refine det_yes rfl ?_
        have HF := Lib.hid hF
        clear hF
        unfold Oper.wp
        go_simp
        exact hK _ _ ⟨_, _, _, _, _, _, _, _, _, _, _, _, _, _, _, _, _, rfl, HF.out.same 6 rfl⟩
      · refine det_yes rfl ?_
        have HF := Lib.hid hF
        clear hF
        unfold Oper.wp
        go_simp
        exact hK _ _ ⟨_, _, _, _, _, _, _, _, _, _, _, _, _, _, _, _, _, rfl, HF.out.same 7 rfl⟩
      · obtain rfl := hF.get 7 (by simp [hdep]) rfl rfl
        refine det_yes rfl ?_
        have HF := Lib.hid hF
        clear hF
        unfold Oper.wp
        go_simp
        exact hK _ _ ⟨_, _, _, _, _, _, _, _, _, _, _, _, _, _, _, _, _, rfl, HF.out.same 8 rfl⟩
      · obtain rfl := hF.get 8 (by simp [hdep]) rfl rfl
        refine det_yes rfl ?_
        have HF := Lib.hid hF
        clear hF
        unfold Oper.wp
        go_simp
        refine (implFmtN lo hi _ zs u (Hzs.out.below (Hu.out u (Hu1.out.trans HF.out.bel)) hB) (by have h := (Hu.out u (Hu1.out.trans HF.out.bel)).size; omega) hnzs w.heap.size (HT.out.go (Hu.out u (Hu1.out.trans HF.out.bel)) (Nat.le_refl _)) (Hu.out u (Hu1.out.trans HF.out.bel)).size).mono ?_
        rintro e u2 ⟨rfl, hb2⟩
        exact hK _ _ ⟨_, _, _, _, _, _, _, _, _, _, _, _, _, _, _, _, _, rfl, HF.out.step 9 rfl (hb2.mono (by have h := HF.out.bel.size; (try simp only [World.size_alloc] at h); omega))⟩
      · obtain rfl := hF.get 6 (by simp [hdep]) rfl rfl
        obtain rfl := hF.get 9 (by simp [hdep]) rfl rfl
        refine det_yes rfl ?_
        have HF := Lib.hid hF
        clear hF
        unfold Oper.wp
        go_simp
        exact hK _ _ ⟨_, _, _, _, _, _, _, _, _, _, _, _, _, _, _, _, _, rfl, HF.out.same 10 rfl⟩
      · obtain rfl := hF.get 10 (by simp [hdep]) rfl rfl
        refine det_yes rfl ?_
        have HF := Lib.hid hF
        clear hF
        unfold Oper.wp
        go_simp
        exact hK _ _ ⟨_, _, _, _, _, _, _, _, _, _, _, _, _, _, _, _, _, rfl, HF.out.same 11 rfl⟩
      · refine det_yes rfl ?_
        have HF := Lib.hid hF
        clear hF
        unfold Oper.wp
        go_simp
        exact hK _ _ ⟨_, _, _, _, _, _, _, _, _, _, _, _, _, _, _, _, _, rfl, HF.out.same 12 rfl⟩
      · obtain rfl := hF.get 12 (by simp [hdep]) rfl rfl
        refine det_yes rfl ?_
        have HF := Lib.hid hF
        clear hF
        unfold Oper.wp
        go_simp
        exact hK _ _ ⟨_, _, _, _, _, _, _, _, _, _, _, _, _, _, _, _, _, rfl, HF.out.same 13 rfl⟩
      · obtain rfl := hF.get 13 (by simp [hdep]) rfl rfl
        refine det_yes rfl ?_
        have HF := Lib.hid hF
        clear hF
        unfold Oper.wp
        go_simp
        refine (implFmtN lo hi _ ys u (Hys.out.below (Hu.out u (Hu1.out.trans HF.out.bel)) hB) (by have h := (Hu.out u (Hu1.out.trans HF.out.bel)).size; omega) hnys w.heap.size (HT.out.go (Hu.out u (Hu1.out.trans HF.out.bel)) (Nat.le_refl _)) (Hu.out u (Hu1.out.trans HF.out.bel)).size).mono ?_
        rintro e u2 ⟨rfl, hb2⟩
        exact hK _ _ ⟨_, _, _, _, _, _, _, _, _, _, _, _, _, _, _, _, _, rfl, HF.out.step 14 rfl (hb2.mono (by have h := HF.out.bel.size; (try simp only [World.size_alloc] at h); omega))⟩
      · obtain rfl := hF.get 11 (by simp [hdep]) rfl rfl
        obtain rfl := hF.get 14 (by simp [hdep]) rfl rfl
        refine det_yes rfl ?_
        have HF := Lib.hid hF
        clear hF
        unfold Oper.wp
        go_simp
        exact hK _ _ ⟨_, _, _, _, _, _, _, _, _, _, _, _, _, _, _, _, _, rfl, HF.out.same 15 rfl⟩
      · obtain rfl := hF.get 15 (by simp [hdep]) rfl rfl
        refine det_yes rfl ?_
        have HF := Lib.hid hF
        clear hF
        unfold Oper.wp
        go_simp
        exact hK _ _ ⟨_, _, _, _, _, _, _, _, _, _, _, _, _, _, _, _, _, rfl, HF.out.same 16 rfl⟩
    · rintro dn a u hall ⟨x12, x13, x14, x15, x16, x17, x18, x19, x20, x21, x22, x23, x24, x25, x26, x27, x2, rfl, hF⟩
      have hall2 := hF.all (n := 17) rfl hall
      simp only [List.cons.injEq] at hall2
      obtain ⟨rfl, rfl, rfl, rfl, rfl, rfl, rfl, rfl, rfl, rfl, rfl, rfl, rfl, rfl, rfl, rfl, rfl, _⟩ := hall2
      have Hb5 := Lib.hid (Hu.out _ (Hu1.out.trans hF.bel))
      clear hF hall s7 s11 s13 s17 s18 s22 s23 s27 n7 n11 n13 n17 n18 n22 n23 n27
      go_wp2
      go_ret
      exact ⟨by rw [← eT.out]; rfl, Hb5.out⟩

end Go.Proofs.YtajannebpejpkaaDoor
