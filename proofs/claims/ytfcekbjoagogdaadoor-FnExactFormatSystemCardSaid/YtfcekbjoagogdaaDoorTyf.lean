/-
  The contract of the model's FormatSystem.
-/
import Derived.Test.YtfcekbjoagogdaaDoorTys
import Derived.Test.YtfcekbjoagogdaaDoorTxf
namespace Go.Proofs.YtfcekbjoagogdaaDoor
open Go.RowKit

set_option maxRecDepth 100000 in
set_option maxHeartbeats 4000000 in
theorem specFormatSy_any (lo hi : Nat) (sv cv fv : Value) (y : Sy) (w : World) (hv : SyAt w lo hi sv cv fv y) (hB : hi ≤ w.heap.size) :
    Calls Tryd.prog 22 #[.agg #[sv, cv, fv]] w fun e w' => e = .returned (.string (str (fmtSy y))) ∧ Below w.heap.size w w' := by
  obtain ⟨A, cap, rfl, hl1, hm1, hi1⟩ := hv.1.1.form
  obtain ⟨B, bap, rfl, hl2, hm2, hc1⟩ := hv.1.2.form
  obtain ⟨F, fap, rfl, hl3, hm3, hf1⟩ := hv.2.form
  unfold maxLen at hm3
  have h3 : Below w.heap.size w (w.alloc (.cells #[.slice A y.ty.sizes.length cap, .slice B y.ty.cos.length bap, .slice F y.fs.length fap] 45)) := by go_grown
  have H1 := Lib.hid (Below.refl (w.heap.size + 1) (w.alloc (.cells #[.slice A y.ty.sizes.length cap, .slice B y.ty.cos.length bap, .slice F y.fs.length fap] 45)))
  have Hf := Lib.hid hf1
  have Hv := Lib.hid hv
  clear hi1 hc1 hf1 hv hl1 hm1 hl2 hm2
  go_enter Tryd.func22, Tryd.ntmps22
  go_wp2_with fail
  refine (specSysValid_any lo hi _ _ _ y _ (Hv.out.below h3 hB) (by simp; omega)).mono ?_
  rintro e w2 ⟨rfl, hb2⟩
  have H2 := Lib.hid (H1.out.trans (hb2.mono (by simp)))
  obtain ⟨q0, q1, q2, hl2, hB2⟩ := box3 H2.out
  have HB2 := Lib.hid hB2
  clear hb2 hB2 h3
  by_cases hs : syB y = true
  · have hok := syB_iff.1 hs
    have hf : Hid (fmtSy y = syT y) := if_pos hs
    have hft : Hid (fmtTy y.ty = syTo y 0) := if_pos hok.ty
    have hd := Lib.hid (syDigs hok)
    have hlens := Lib.hid (@syTo_len y hok)
    have hc8 := hok.few
    rw [hs]
    clear hs
    go_wp2_with fail
    refine (specFormat_any lo hi _ _ y.ty _ (Hv.out.below HB2.out hB).1 (by omega)).mono ?_
    rintro e w3 ⟨rfl, hb3⟩
    have H3 := Lib.hid (H2.out.trans (hb3.mono (by omega)))
    obtain ⟨q0', q1', q2', hl3', _⟩ := box3 H3.out
    rw [hft.out]
    clear hb3 q0 q1 q2 hft hok
    go_wp2_with fail
    go_loopw [3, 15] (fun o i wr => ∃ k : Nat, k ≤ y.fs.length ∧ i = .int .i64 k ∧ o = .string (str (syTo y k)) ∧ Hid (Below (w.heap.size + 1) (w.alloc (.cells #[.slice A y.ty.sizes.length cap, .slice B y.ty.cos.length bap, .slice F y.fs.length fap] 45)) wr)) (fun _ i _ => y.fs.length - (intOf i).toNat)
    case atStart => exact ⟨0, Nat.zero_le _, rfl, rfl, H3.out⟩
    case round =>
      obtain ⟨k, hk, rfl, rfl, hbr⟩ := hrel
      obtain ⟨r0, r1, r2, hlr, hbw⟩ := box3 hbr.out
      have Hbw := Lib.hid hbw
      clear hbw q0' q1' q2'
      by_cases hkl : k < y.fs.length
      · obtain ⟨b4, off4, A1, cap1, A2, cap2, rfl, _, _, c0, c1, c2, c3, _, _, _, _, hfu⟩ := (Hf.out.below Hbw.out hB).at_ hkl
        have Hfu := Lib.hid hfu
        clear hfu
        have hz := Lib.hid (hd.out k hkl)
        have hlen := hlens.out k (by omega)
        have hsl := sigT_len hz.out
        have hnl := numsT_len y.fs[k].table
        have hml := hz.out.short
        have eg : y.fs.getD k default = y.fs[k] := by rw [List.getD_eq_getElem?_getD, List.getElem?_eq_getElem hkl]; rfl
        obtain ⟨L1, l1⟩ : ∃ L, L = syTo y k ++ [47] := ⟨_, rfl⟩
        obtain ⟨L2, l2⟩ : ∃ L, L = L1 ++ sigT y.fs[k] := ⟨_, rfl⟩
        obtain ⟨L3, l3⟩ : ∃ L, L = L2 ++ [58] := ⟨_, rfl⟩
        obtain ⟨L6, l6⟩ : ∃ L, L = L3 ++ numsT y.fs[k].table := ⟨_, rfl⟩
        have e6 : Hid (L6 = syTo y (k + 1)) := by
          show L6 = syTo y k ++ [47] ++ fuT (y.fs.getD k default)
          rw [eg, l6, l3, l2, l1]
          simp [fuT, List.append_assoc]
        have k1 : L1.length = (syTo y k).length + 1 := by rw [l1]; simp
        have k2 : L2.length = L1.length + (sigT y.fs[k]).length := by rw [l2]; simp
        have k3 : L3.length = L2.length + 1 := by rw [l3]; simp
        have s1 : str (syTo y k) ++ (⟨#[47]⟩ : ByteArray) = str L1 := by rw [l1]; exact str_append _ _
        have s2 : str L1 ++ str (sigT y.fs[k]) = str L2 := by rw [l2]; exact str_append _ _
        have s3 : str L2 ++ (⟨#[58]⟩ : ByteArray) = str L3 := by rw [l3]; exact str_append _ _
        have s6 : str L3 ++ str (numsT y.fs[k].table) = str L6 := by rw [l6]; exact str_append _ _
        have n1 : ¬ 9223372036854775807 < (str (syTo y k)).size + 1 := by rw [str_size]; omega
        have n2 : ¬ 9223372036854775807 < (str L1).size + (str (sigT y.fs[k])).size := by rw [str_size, str_size]; omega
        have n3 : ¬ 9223372036854775807 < (str L2).size + 1 := by rw [str_size]; omega
        have n6 : ¬ 9223372036854775807 < (str L3).size + (str (numsT y.fs[k].table)).size := by rw [str_size, str_size]; omega
        clear l1 l2 l3 l6 k1 k2 k3 eg hlen hnl hsl
        have Hb4 : Hid (Below (w.heap.size + 1) (w.alloc (.cells #[.slice A y.ty.sizes.length cap, .slice B y.ty.cos.length bap, .slice (some ⟨b4, off4, none⟩) y.fs.length fap] 45)) (wr.alloc (.cells #[.string y.fs[k].name, .slice A1 y.fs[k].args.length cap1, .int .i64 y.fs[k].res, .slice A2 y.fs[k].table.length cap2] 84))) := hbr.out.alloc (by omega) _
        have Hcf : Hid (∀ u, Below (wr.heap.size + 1) (wr.alloc (.cells #[.string y.fs[k].name, .slice A1 y.fs[k].args.length cap1, .int .i64 y.fs[k].res, .slice A2 y.fs[k].table.length cap2] 84)) u → u.cell? ⟨wr.heap.size, 0, none⟩ = some (.string y.fs[k].name) ∧ u.cell? ⟨wr.heap.size, 1, none⟩ = some (.slice A1 y.fs[k].args.length cap1) ∧ u.cell? ⟨wr.heap.size, 2, none⟩ = some (.int .i64 y.fs[k].res) ∧ u.cell? ⟨wr.heap.size, 3, none⟩ = some (.slice A2 y.fs[k].table.length cap2)) := fun u hb =>
          ⟨(box4 hb).1, (box4 hb).2.1, (box4 hb).2.2.1, (box4 hb).2.2.2.1⟩
        have Hu : Hid (∀ u, Below (wr.heap.size + 1) (wr.alloc (.cells #[.string y.fs[k].name, .slice A1 y.fs[k].args.length cap1, .int .i64 y.fs[k].res, .slice A2 y.fs[k].table.length cap2] 84)) u → Below w.heap.size wr u) := fun u hb => (((Below.refl _ wr).alloc (Nat.le_refl _) _).trans (hb.mono (by omega))).mono Hbw.out.size
        go_wp2_with fail
        refine wp_region_inv (by kernel_rfl) (fun f a u => ∃ x19 x20 x21 x22 x23 x24 x25 x26 x27 x28 x3, a = ⟨#[.agg #[.slice A y.ty.sizes.length cap, .slice B y.ty.cos.length bap, .slice (some ⟨b4, off4, none⟩) y.fs.length fap], .pointer (some ⟨w.heap.size, 0, none⟩), .string ⟨#[]⟩, x3, undef, .pointer (some ⟨wr.heap.size, 0, none⟩), .agg #[.slice A y.ty.sizes.length cap, .slice B y.ty.cos.length bap, .slice (some ⟨b4, off4, none⟩) y.fs.length fap], .bool true, .bool false, .pointer (some ⟨w.heap.size, 0, none⟩), .agg #[.slice A y.ty.sizes.length cap, .slice B y.ty.cos.length bap], .string (str (syTo y 0)), .pointer (some ⟨w.heap.size, 2, none⟩), .slice (some ⟨b4, off4, none⟩) y.fs.length fap, .int .i64 y.fs.length, .int .i64 k, .bool true, .pointer (some ⟨b4, off4 + k * 4, none⟩), .agg #[.string y.fs[k].name, .slice A1 y.fs[k].args.length cap1, .int .i64 y.fs[k].res, .slice A2 y.fs[k].table.length cap2], x19, x20, x21, x22, x23, x24, x25, x26, x27, x28, u29, undef], []⟩ ∧ Det (wr.heap.size + 1) (wr.alloc (.cells #[.string y.fs[k].name, .slice A1 y.fs[k].args.length cap1, .int .i64 y.fs[k].res, .slice A2 y.fs[k].table.length cap2] 84)) [.string (str (syTo y k)), .string (str L1), .agg #[.string y.fs[k].name, .slice A1 y.fs[k].args.length cap1, .int .i64 y.fs[k].res, .slice A2 y.fs[k].table.length cap2], .string (str (sigT y.fs[k])), .string (str L2), .string (str L3), .pointer (some ⟨wr.heap.size, 3, none⟩), .slice A2 y.fs[k].table.length cap2, .string (str (numsT y.fs[k].table)), .string (str L6), .string (str L6)] f [x19, x20, x21, x22, x23, x24, x25, x26, x27, x28, x3] u ∧ (f 10 = false → x3 = .string (str (syTo y k))) ∧ (f 10 = true → f 0 = true)) (of_decide_eq_true (by kernel_rfl)) ⟨_, _, _, _, _, _, _, _, _, _, _, rfl, Det.start (by simp) (by rfl), fun _ => rfl, fun h => by cases h⟩ ?_ ?_
        · rintro f a u i o ho hfi hdep ⟨x19, x20, x21, x22, x23, x24, x25, x26, x27, x28, x3, rfl, hF, hold, hcl⟩
          have hil : i < 11 := by have := (Array.getElem?_eq_some_iff.1 ho).1; simpa using this
          obtain ⟨p0, p1, p2, p3⟩ := Hcf.out u hF.bel
          obtain rfl | rfl | rfl | rfl | rfl | rfl | rfl | rfl | rfl | rfl | rfl : i = 0 ∨ i = 1 ∨ i = 2 ∨ i = 3 ∨ i = 4 ∨ i = 5 ∨ i = 6 ∨ i = 7 ∨ i = 8 ∨ i = 9 ∨ i = 10 := by omega
          all_goals
            obtain rfl := Option.some.inj ho
            refine wpOp_step ho fun K hK => ?_
            simp [Region.binds] at hdep
            clear ho
          · have d16 : f 10 = false := by
              cases h : f 10 with
              | false => rfl
              | true => rw [hcl h] at hfi; cases hfi
            obtain rfl := hold d16
            refine det_yes rfl ?_
            have HF := Lib.hid hF
            clear hF
            unfold Oper.wp
            go_simp
            exact hK _ _ ⟨_, _, _, _, _, _, _, _, _, _, _, rfl, HF.out.same 0 rfl, fun h => by simp [d16] at h ⊢, fun h => by simp⟩
          · obtain rfl := hF.get 0 (by simp [hdep]) rfl rfl
            refine det_yes rfl ?_
            have HF := Lib.hid hF
            clear hF
            unfold Oper.wp
            go_simp
            exact hK _ _ ⟨_, _, _, _, _, _, _, _, _, _, _, rfl, HF.out.same 1 rfl, fun h => hold (by simpa using h), fun h => by simp [hcl (by simpa using h)]⟩
          · refine det_yes rfl ?_
            have HF := Lib.hid hF
            clear hF
            unfold Oper.wp
            go_simp
            exact hK _ _ ⟨_, _, _, _, _, _, _, _, _, _, _, rfl, HF.out.same 2 rfl, fun h => hold (by simpa using h), fun h => by simp [hcl (by simpa using h)]⟩
          · obtain rfl := hF.get 2 (by simp [hdep]) rfl rfl
            refine det_yes rfl ?_
            have HF := Lib.hid hF
            clear hF
            unfold Oper.wp
            go_simp
            refine (specSig_any lo hi _ _ _ _ y.fs[k] u (Hfu.out.below (Hu.out u HF.out.bel) hB) (by have h := (Hu.out u HF.out.bel).size; omega) hz.out).mono ?_
            rintro e u2 ⟨rfl, hb2⟩
            exact hK _ _ ⟨_, _, _, _, _, _, _, _, _, _, _, rfl, HF.out.step 3 rfl (hb2.mono (by have h := HF.out.bel.size; simp only [World.size_alloc] at h; omega)), fun h => hold (by simpa using h), fun h => by simp [hcl (by simpa using h)]⟩
          · obtain rfl := hF.get 1 (by simp [hdep]) rfl rfl
            obtain rfl := hF.get 3 (by simp [hdep]) rfl rfl
            refine det_yes rfl ?_
            have HF := Lib.hid hF
            clear hF
            unfold Oper.wp
            go_simp
            exact hK _ _ ⟨_, _, _, _, _, _, _, _, _, _, _, rfl, HF.out.same 4 rfl, fun h => hold (by simpa using h), fun h => by simp [hcl (by simpa using h)]⟩
          · obtain rfl := hF.get 4 (by simp [hdep]) rfl rfl
            refine det_yes rfl ?_
            have HF := Lib.hid hF
            clear hF
            unfold Oper.wp
            go_simp
            exact hK _ _ ⟨_, _, _, _, _, _, _, _, _, _, _, rfl, HF.out.same 5 rfl, fun h => hold (by simpa using h), fun h => by simp [hcl (by simpa using h)]⟩
          · refine det_yes rfl ?_
            have HF := Lib.hid hF
            clear hF
            unfold Oper.wp
            go_simp
            exact hK _ _ ⟨_, _, _, _, _, _, _, _, _, _, _, rfl, HF.out.same 6 rfl, fun h => hold (by simpa using h), fun h => by simp [hcl (by simpa using h)]⟩
          · obtain rfl := hF.get 6 (by simp [hdep]) rfl rfl
            refine det_yes rfl ?_
            have HF := Lib.hid hF
            clear hF
            unfold Oper.wp
            go_simp
            exact hK _ _ ⟨_, _, _, _, _, _, _, _, _, _, _, rfl, HF.out.same 7 rfl, fun h => hold (by simpa using h), fun h => by simp [hcl (by simpa using h)]⟩
          · obtain rfl := hF.get 7 (by simp [hdep]) rfl rfl
            refine det_yes rfl ?_
            have HF := Lib.hid hF
            clear hF
            unfold Oper.wp
            go_simp
            refine (specNums_any lo hi _ y.fs[k].table u (Hfu.out.below (Hu.out u HF.out.bel) hB).2.2.2.2.2 (by have h := (Hu.out u HF.out.bel).size; omega) hz.out.table (by omega)).mono ?_
            rintro e u2 ⟨rfl, hb2⟩
            exact hK _ _ ⟨_, _, _, _, _, _, _, _, _, _, _, rfl, HF.out.step 8 rfl (hb2.mono (by have h := HF.out.bel.size; simp only [World.size_alloc] at h; omega)), fun h => hold (by simpa using h), fun h => by simp [hcl (by simpa using h)]⟩
          · obtain rfl := hF.get 5 (by simp [hdep]) rfl rfl
            obtain rfl := hF.get 8 (by simp [hdep]) rfl rfl
            refine det_yes rfl ?_
            have HF := Lib.hid hF
            clear hF
            unfold Oper.wp
            go_simp
            exact hK _ _ ⟨_, _, _, _, _, _, _, _, _, _, _, rfl, HF.out.same 9 rfl, fun h => hold (by simpa using h), fun h => by simp [hcl (by simpa using h)]⟩
          · obtain rfl := hF.get 9 (by simp [hdep]) rfl rfl
            have d0 : f 0 = true := by simp [hdep]
            refine det_yes rfl ?_
            have HF := Lib.hid hF
            clear hF
            unfold Oper.wp
            go_simp
            exact hK _ _ ⟨_, _, _, _, _, _, _, _, _, _, _, rfl, HF.out.same 10 rfl, fun h => by simp at h, fun _ => by simp [d0]⟩
        · rintro f a u hall ⟨x19, x20, x21, x22, x23, x24, x25, x26, x27, x28, x3, rfl, hF, _, _⟩
          have hall2 := hF.all (n := 11) rfl hall
          simp only [List.cons.injEq] at hall2
          obtain ⟨rfl, rfl, rfl, rfl, rfl, rfl, rfl, rfl, rfl, rfl, rfl, _⟩ := hall2
          have Hb5 := Lib.hid (Hb4.out.trans (hF.bel.mono (by omega)))
          clear hF hall s1 s2 s3 s6 n1 n2 n3 n6
          go_wp2
          rw [e6.out]
          go_roundw
          case rel => exact ⟨k + 1, by omega, by go_num, rfl, Hb5.out⟩
          case measure => simp [intOf]; omega
      · obtain rfl : k = y.fs.length := by omega
        go_wp2
        go_ret
        exact ⟨by rw [hf.out]; rfl, Hbw.out⟩
  · have hsf : syB y = false := by simpa using hs
    have hf : Hid (fmtSy y = []) := if_neg hs
    rw [hsf]
    go_wp2
    go_ret
    exact ⟨by rw [hf.out]; rfl, HB2.out⟩
end Go.Proofs.YtfcekbjoagogdaaDoor
