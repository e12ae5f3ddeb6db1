/-
  The contract of the model's FormatTypes.
-/
import Derived.Test.YtfcekbjoagogdaaDoorTxs
import Derived.Test.YtfcekbjoagogdaaDoorDet
import Derived.Test.YtfcekbjoagogdaaDoorSv
namespace Go.Proofs.YtfcekbjoagogdaaDoor
open Go.RowKit

set_option maxRecDepth 100000 in
set_option maxHeartbeats 4000000 in
theorem specFormat_any (lo hi : Nat) (sv cv : Value) (t : Ty) (w : World) (hv : TyAt w lo hi sv cv t) (hB : hi ≤ w.heap.size) :
    Calls Tryd.prog 9 #[.agg #[sv, cv]] w fun e w' => e = .returned (.string (str (fmtTy t))) ∧ Below w.heap.size w w' := by
  obtain ⟨A, cap, rfl, hl1, hm1, _⟩ := hv.1.form
  obtain ⟨B, bap, rfl, hl2, hm2, _⟩ := hv.2.form
  clear hl1 hm1 hl2 hm2
  have Hv := Lib.hid hv
  clear hv
  have h1 : Below (w.heap.size + 1) (w.alloc (.cells #[.slice A t.sizes.length cap, .slice B t.cos.length bap] 30)) (w.alloc (.cells #[.slice A t.sizes.length cap, .slice B t.cos.length bap] 30)) := Below.refl _ _
  have H1 := Lib.hid h1
  clear h1
  go_enter Tryd.func9, Tryd.ntmps9
  go_wp2_with fail
  refine (specValid_any lo hi _ _ t _ (Hv.out.below (box2 H1.out).2.2.2 hB) (by simp; omega)).mono ?_
  rintro e w2 ⟨rfl, hb2⟩
  have H2 := Lib.hid (H1.out.trans (hb2.mono (by simp)))
  obtain ⟨q0, q1, hl2, _⟩ := box2 H2.out
  clear hb2
  by_cases hok : tyOk t = true
  · have hd := Lib.hid (tyDigs hok)
    have hf : Hid (fmtTy t = tyT t) := if_pos hok
    rw [hok]
    have hl5 := hd.out.few
    go_wp2_with fail
    refine (specNums_any lo hi _ t.sizes _ (Hv.out.below (box2 H2.out).2.2.2 hB).1 (by omega) hd.out.sizes (by omega)).mono ?_
    rintro e w3 ⟨rfl, hb3⟩
    have H3 := Lib.hid (H2.out.trans (hb3.mono (by omega)))
    obtain ⟨q0', q1', hl3, _⟩ := box2 H3.out
    clear hb3 q0 q1
    go_wp2_with fail
    go_loopw [3, 15] (fun o i wr => ∃ k : Nat, k ≤ t.cos.length ∧ i = .int .i64 k ∧ o = .string (str (tyTo t k)) ∧ Hid (Below (w.heap.size + 1) (w.alloc (.cells #[.slice A t.sizes.length cap, .slice B t.cos.length bap] 30)) wr)) (fun _ i _ => t.cos.length - (intOf i).toNat)
    case atStart => exact ⟨0, Nat.zero_le _, rfl, rfl, H3.out⟩
    case round =>
      obtain ⟨k, hk, rfl, rfl, hbr⟩ := hrel
      obtain ⟨r0, r1, hlr, hbw⟩ := box2 hbr.out
      have Hbw := Lib.hid hbw
      clear hbw q0' q1'
      by_cases hkl : k < t.cos.length
      · obtain ⟨b4, off4, A2, cap2, rfl, _, _, c0, c1, c2, _, _, hs4, hd4, hz4⟩ := (Hv.out.below Hbw.out hB).2.at_ hkl
        have Hz4 := Lib.hid hz4
        clear hz4
        have hz := hd.out.each k hkl
        have hz1 := Lib.hid hz.1
        have hz2 := Lib.hid hz.2.1
        have hz3 := Lib.hid hz.2.2
        have hlen := tyTo_len hd.out k (by omega)
        have hnl := numsT_len t.cos[k].map
        have hml := hz.2.2.2
        have hc8 := hd.out.cos
        clear hz
        have eg : t.cos.getD k default = t.cos[k] := by rw [List.getD_eq_getElem?_getD, List.getElem?_eq_getElem hkl]; rfl
        obtain ⟨L1, l1⟩ : ∃ L, L = tyTo t k ++ [59] := ⟨_, rfl⟩
        obtain ⟨L2, l2⟩ : ∃ L, L = L1 ++ dg t.cos[k].src := ⟨_, rfl⟩
        obtain ⟨L3, l3⟩ : ∃ L, L = L2 ++ [62] := ⟨_, rfl⟩
        obtain ⟨L4, l4⟩ : ∃ L, L = L3 ++ dg t.cos[k].dst := ⟨_, rfl⟩
        obtain ⟨L5, l5⟩ : ∃ L, L = L4 ++ [58] := ⟨_, rfl⟩
        obtain ⟨L6, l6⟩ : ∃ L, L = L5 ++ numsT t.cos[k].map := ⟨_, rfl⟩
        have e6 : Hid (L6 = tyTo t (k + 1)) := by
          show L6 = tyTo t k ++ [59] ++ coT (t.cos.getD k default)
          rw [eg, l6, l5, l4, l3, l2, l1]
          simp [coT, List.append_assoc]
        have k1 : L1.length = (tyTo t k).length + 1 := by rw [l1]; simp
        have k2 : L2.length = L1.length + 1 := by rw [l2]; simp [dg]
        have k3 : L3.length = L2.length + 1 := by rw [l3]; simp
        have k4 : L4.length = L3.length + 1 := by rw [l4]; simp [dg]
        have k5 : L5.length = L4.length + 1 := by rw [l5]; simp
        have s1 : str (tyTo t k) ++ (⟨#[59]⟩ : ByteArray) = str L1 := by rw [l1]; exact str_append _ _
        have s2 : str L1 ++ str (dg t.cos[k].src) = str L2 := by rw [l2]; exact str_append _ _
        have s3 : str L2 ++ (⟨#[62]⟩ : ByteArray) = str L3 := by rw [l3]; exact str_append _ _
        have s4 : str L3 ++ str (dg t.cos[k].dst) = str L4 := by rw [l4]; exact str_append _ _
        have s5 : str L4 ++ (⟨#[58]⟩ : ByteArray) = str L5 := by rw [l5]; exact str_append _ _
        have s6 : str L5 ++ str (numsT t.cos[k].map) = str L6 := by rw [l6]; exact str_append _ _
        have n1 : ¬ 9223372036854775807 < (str (tyTo t k)).size + (⟨#[59]⟩ : ByteArray).size := by rw [str_size, show (⟨#[59]⟩ : ByteArray).size = 1 from rfl]; omega
        have n2 : ¬ 9223372036854775807 < (str L1).size + (str (dg t.cos[k].src)).size := by rw [str_size, str_size, show (dg t.cos[k].src).length = 1 from rfl]; omega
        have n3 : ¬ 9223372036854775807 < (str L2).size + (⟨#[62]⟩ : ByteArray).size := by rw [str_size, show (⟨#[62]⟩ : ByteArray).size = 1 from rfl]; omega
        have n4 : ¬ 9223372036854775807 < (str L3).size + (str (dg t.cos[k].dst)).size := by rw [str_size, str_size, show (dg t.cos[k].dst).length = 1 from rfl]; omega
        have n5 : ¬ 9223372036854775807 < (str L4).size + (⟨#[58]⟩ : ByteArray).size := by rw [str_size, show (⟨#[58]⟩ : ByteArray).size = 1 from rfl]; omega
        have n6 : ¬ 9223372036854775807 < (str L5).size + (str (numsT t.cos[k].map)).size := by rw [str_size, str_size]; omega
        have m1 : ¬ 9223372036854775807 < (str (tyTo t k)).size + 1 := n1
        have m3 : ¬ 9223372036854775807 < (str L2).size + 1 := n3
        have m5 : ¬ 9223372036854775807 < (str L4).size + 1 := n5
        clear l1 l2 l3 l4 l5 l6 k1 k2 k3 k4 k5 eg hlen hnl hml
        have Hb4 : Hid (Below (w.heap.size + 1) (w.alloc (.cells #[.slice A t.sizes.length cap, .slice (some ⟨b4, off4, none⟩) t.cos.length bap] 30)) (wr.alloc (.cells #[.int .i64 t.cos[k].src, .int .i64 t.cos[k].dst, .slice A2 t.cos[k].map.length cap2] 59))) := hbr.out.alloc (by omega) _
        have Hcf : Hid (∀ u, Below (wr.heap.size + 1) (wr.alloc (.cells #[.int .i64 t.cos[k].src, .int .i64 t.cos[k].dst, .slice A2 t.cos[k].map.length cap2] 59)) u → u.cell? ⟨wr.heap.size, 0, none⟩ = some (.int .i64 t.cos[k].src) ∧ u.cell? ⟨wr.heap.size, 1, none⟩ = some (.int .i64 t.cos[k].dst) ∧ u.cell? ⟨wr.heap.size, 2, none⟩ = some (.slice A2 t.cos[k].map.length cap2)) := fun u hb =>
          ⟨(hb.cell (p := ⟨wr.heap.size, 0, none⟩) (by dsimp only; omega)).trans (by simp [go_sem]), (hb.cell (p := ⟨wr.heap.size, 1, none⟩) (by dsimp only; omega)).trans (by simp [go_sem]), (hb.cell (p := ⟨wr.heap.size, 2, none⟩) (by dsimp only; omega)).trans (by simp [go_sem])⟩
        have Hu : Hid (∀ u, Below (wr.heap.size + 1) (wr.alloc (.cells #[.int .i64 t.cos[k].src, .int .i64 t.cos[k].dst, .slice A2 t.cos[k].map.length cap2] 59)) u → Below w.heap.size wr u) := fun u hb => (((Below.refl _ wr).alloc (Nat.le_refl _) _).trans (hb.mono (by omega))).mono Hbw.out.size
        go_wp2_with fail
        refine wp_region_inv (by kernel_rfl) (fun f a u => ∃ x19 x20 x21 x22 x23 x24 x25 x26 x27 x28 x29 x30 x31 x32 x33 x34 x3, a = ⟨#[.agg #[.slice A t.sizes.length cap, .slice (some ⟨b4, off4, none⟩) t.cos.length bap], .pointer (some ⟨w.heap.size, 0, none⟩), .string ⟨#[]⟩, x3, undef, .pointer (some ⟨wr.heap.size, 0, none⟩), .agg #[.slice A t.sizes.length cap, .slice (some ⟨b4, off4, none⟩) t.cos.length bap], .bool true, .bool false, .pointer (some ⟨w.heap.size, 0, none⟩), .slice A t.sizes.length cap, .string (str (numsT t.sizes)), .pointer (some ⟨w.heap.size, 1, none⟩), .slice (some ⟨b4, off4, none⟩) t.cos.length bap, .int .i64 t.cos.length, .int .i64 k, .bool true, .pointer (some ⟨b4, off4 + k * 3, none⟩), .agg #[.int .i64 t.cos[k].src, .int .i64 t.cos[k].dst, .slice A2 t.cos[k].map.length cap2], x19, x20, x21, x22, x23, x24, x25, x26, x27, x28, x29, x30, x31, x32, x33, x34, u35, undef], []⟩ ∧ Det (wr.heap.size + 1) (wr.alloc (.cells #[.int .i64 t.cos[k].src, .int .i64 t.cos[k].dst, .slice A2 t.cos[k].map.length cap2] 59)) [.string (str (tyTo t k)), .string (str L1), .pointer (some ⟨wr.heap.size, 0, none⟩), .int .i64 t.cos[k].src, .string (str (dg t.cos[k].src)), .string (str L2), .string (str L3), .pointer (some ⟨wr.heap.size, 1, none⟩), .int .i64 t.cos[k].dst, .string (str (dg t.cos[k].dst)), .string (str L4), .string (str L5), .pointer (some ⟨wr.heap.size, 2, none⟩), .slice A2 t.cos[k].map.length cap2, .string (str (numsT t.cos[k].map)), .string (str L6), .string (str L6)] f [x19, x20, x21, x22, x23, x24, x25, x26, x27, x28, x29, x30, x31, x32, x33, x34, x3] u ∧ (f 16 = false → x3 = .string (str (tyTo t k))) ∧ (f 16 = true → f 0 = true)) (of_decide_eq_true (by kernel_rfl)) ⟨_, _, _, _, _, _, _, _, _, _, _, _, _, _, _, _, _, rfl, Det.start (by simp) (by rfl), fun _ => rfl, fun h => by cases h⟩ ?_ ?_
        · rintro f a u i o ho hfi hdep ⟨x19, x20, x21, x22, x23, x24, x25, x26, x27, x28, x29, x30, x31, x32, x33, x34, x3, rfl, hF, hold, hcl⟩
          have hil : i < 17 := by have := (Array.getElem?_eq_some_iff.1 ho).1; simpa using this
          obtain ⟨p0, p1, p2⟩ := Hcf.out u hF.bel
          obtain rfl | rfl | rfl | rfl | rfl | rfl | rfl | rfl | rfl | rfl | rfl | rfl | rfl | rfl | rfl | rfl | rfl : i = 0 ∨ i = 1 ∨ i = 2 ∨ i = 3 ∨ i = 4 ∨ i = 5 ∨ i = 6 ∨ i = 7 ∨ i = 8 ∨ i = 9 ∨ i = 10 ∨ i = 11 ∨ i = 12 ∨ i = 13 ∨ i = 14 ∨ i = 15 ∨ i = 16 := by omega
          all_goals
            obtain rfl := Option.some.inj ho
            refine wpOp_step ho fun K hK => ?_
            simp [Region.binds] at hdep
            clear ho
          · have d16 : f 16 = false := by
              cases h : f 16 with
              | false => rfl
              | true => rw [hcl h] at hfi; cases hfi
            obtain rfl := hold d16
            refine det_yes rfl ?_
            have HF := Lib.hid hF
            clear hF
            unfold Oper.wp
            go_simp
            exact hK _ _ ⟨_, _, _, _, _, _, _, _, _, _, _, _, _, _, _, _, _, rfl, HF.out.same 0 rfl, fun h => by simp [d16] at h ⊢, fun h => by simp⟩
          · obtain rfl := hF.get 0 (by simp [hdep]) rfl rfl
            refine det_yes rfl ?_
            have HF := Lib.hid hF
            clear hF
            unfold Oper.wp
            go_simp
            exact hK _ _ ⟨_, _, _, _, _, _, _, _, _, _, _, _, _, _, _, _, _, rfl, HF.out.same 1 rfl, fun h => hold (by simpa using h), fun h => by simp [hcl (by simpa using h)]⟩
          · refine det_yes rfl ?_
            have HF := Lib.hid hF
            clear hF
            unfold Oper.wp
            go_simp
            exact hK _ _ ⟨_, _, _, _, _, _, _, _, _, _, _, _, _, _, _, _, _, rfl, HF.out.same 2 rfl, fun h => hold (by simpa using h), fun h => by simp [hcl (by simpa using h)]⟩
          · obtain rfl := hF.get 2 (by simp [hdep]) rfl rfl
            refine det_yes rfl ?_
            have HF := Lib.hid hF
            clear hF
            unfold Oper.wp
            go_simp
            exact hK _ _ ⟨_, _, _, _, _, _, _, _, _, _, _, _, _, _, _, _, _, rfl, HF.out.same 3 rfl, fun h => hold (by simpa using h), fun h => by simp [hcl (by simpa using h)]⟩
          · obtain rfl := hF.get 3 (by simp [hdep]) rfl rfl
            refine det_yes rfl ?_
            have HF := Lib.hid hF
            clear hF
            unfold Oper.wp
            go_simp
            refine (specDec_any _ hz1.out u).mono ?_
            rintro e u2 ⟨rfl, hb2⟩
            exact hK _ _ ⟨_, _, _, _, _, _, _, _, _, _, _, _, _, _, _, _, _, rfl, HF.out.step 4 rfl (hb2.mono (by have h := HF.out.bel.size; simp only [World.size_alloc] at h; omega)), fun h => hold (by simpa using h), fun h => by simp [hcl (by simpa using h)]⟩
          · obtain rfl := hF.get 1 (by simp [hdep]) rfl rfl
            obtain rfl := hF.get 4 (by simp [hdep]) rfl rfl
            refine det_yes rfl ?_
            have HF := Lib.hid hF
            clear hF
            unfold Oper.wp
            go_simp
            exact hK _ _ ⟨_, _, _, _, _, _, _, _, _, _, _, _, _, _, _, _, _, rfl, HF.out.same 5 rfl, fun h => hold (by simpa using h), fun h => by simp [hcl (by simpa using h)]⟩
          · obtain rfl := hF.get 5 (by simp [hdep]) rfl rfl
            refine det_yes rfl ?_
            have HF := Lib.hid hF
            clear hF
            unfold Oper.wp
            go_simp
            exact hK _ _ ⟨_, _, _, _, _, _, _, _, _, _, _, _, _, _, _, _, _, rfl, HF.out.same 6 rfl, fun h => hold (by simpa using h), fun h => by simp [hcl (by simpa using h)]⟩
          · refine det_yes rfl ?_
            have HF := Lib.hid hF
            clear hF
            unfold Oper.wp
            go_simp
            exact hK _ _ ⟨_, _, _, _, _, _, _, _, _, _, _, _, _, _, _, _, _, rfl, HF.out.same 7 rfl, fun h => hold (by simpa using h), fun h => by simp [hcl (by simpa using h)]⟩
          · obtain rfl := hF.get 7 (by simp [hdep]) rfl rfl
            refine det_yes rfl ?_
            have HF := Lib.hid hF
            clear hF
            unfold Oper.wp
            go_simp
            exact hK _ _ ⟨_, _, _, _, _, _, _, _, _, _, _, _, _, _, _, _, _, rfl, HF.out.same 8 rfl, fun h => hold (by simpa using h), fun h => by simp [hcl (by simpa using h)]⟩
          · obtain rfl := hF.get 8 (by simp [hdep]) rfl rfl
            refine det_yes rfl ?_
            have HF := Lib.hid hF
            clear hF
            unfold Oper.wp
            go_simp
            refine (specDec_any _ hz2.out u).mono ?_
            rintro e u2 ⟨rfl, hb2⟩
            exact hK _ _ ⟨_, _, _, _, _, _, _, _, _, _, _, _, _, _, _, _, _, rfl, HF.out.step 9 rfl (hb2.mono (by have h := HF.out.bel.size; simp only [World.size_alloc] at h; omega)), fun h => hold (by simpa using h), fun h => by simp [hcl (by simpa using h)]⟩
          · obtain rfl := hF.get 6 (by simp [hdep]) rfl rfl
            obtain rfl := hF.get 9 (by simp [hdep]) rfl rfl
            refine det_yes rfl ?_
            have HF := Lib.hid hF
            clear hF
            unfold Oper.wp
            go_simp
            exact hK _ _ ⟨_, _, _, _, _, _, _, _, _, _, _, _, _, _, _, _, _, rfl, HF.out.same 10 rfl, fun h => hold (by simpa using h), fun h => by simp [hcl (by simpa using h)]⟩
          · obtain rfl := hF.get 10 (by simp [hdep]) rfl rfl
            refine det_yes rfl ?_
            have HF := Lib.hid hF
            clear hF
            unfold Oper.wp
            go_simp
            exact hK _ _ ⟨_, _, _, _, _, _, _, _, _, _, _, _, _, _, _, _, _, rfl, HF.out.same 11 rfl, fun h => hold (by simpa using h), fun h => by simp [hcl (by simpa using h)]⟩
          · refine det_yes rfl ?_
            have HF := Lib.hid hF
            clear hF
            unfold Oper.wp
            go_simp
            exact hK _ _ ⟨_, _, _, _, _, _, _, _, _, _, _, _, _, _, _, _, _, rfl, HF.out.same 12 rfl, fun h => hold (by simpa using h), fun h => by simp [hcl (by simpa using h)]⟩
          · obtain rfl := hF.get 12 (by simp [hdep]) rfl rfl
            refine det_yes rfl ?_
            have HF := Lib.hid hF
            clear hF
            unfold Oper.wp
            go_simp
            exact hK _ _ ⟨_, _, _, _, _, _, _, _, _, _, _, _, _, _, _, _, _, rfl, HF.out.same 13 rfl, fun h => hold (by simpa using h), fun h => by simp [hcl (by simpa using h)]⟩
          · obtain rfl := hF.get 13 (by simp [hdep]) rfl rfl
            refine det_yes rfl ?_
            have HF := Lib.hid hF
            clear hF
            unfold Oper.wp
            go_simp
            refine (specNums_any lo hi _ t.cos[k].map u (Hz4.out.below (Hu.out u HF.out.bel) hB) (by have h := (Hu.out u HF.out.bel).size; omega) hz3.out.1 (by have h := hz3.out.2; omega)).mono ?_
            rintro e u2 ⟨rfl, hb2⟩
            exact hK _ _ ⟨_, _, _, _, _, _, _, _, _, _, _, _, _, _, _, _, _, rfl, HF.out.step 14 rfl (hb2.mono (by have h := HF.out.bel.size; simp only [World.size_alloc] at h; omega)), fun h => hold (by simpa using h), fun h => by simp [hcl (by simpa using h)]⟩
          · obtain rfl := hF.get 11 (by simp [hdep]) rfl rfl
            obtain rfl := hF.get 14 (by simp [hdep]) rfl rfl
            refine det_yes rfl ?_
            have HF := Lib.hid hF
            clear hF
            unfold Oper.wp
            go_simp
            exact hK _ _ ⟨_, _, _, _, _, _, _, _, _, _, _, _, _, _, _, _, _, rfl, HF.out.same 15 rfl, fun h => hold (by simpa using h), fun h => by simp [hcl (by simpa using h)]⟩
          · obtain rfl := hF.get 15 (by simp [hdep]) rfl rfl
            have d0 : f 0 = true := by simp [hdep]
            refine det_yes rfl ?_
            have HF := Lib.hid hF
            clear hF
            unfold Oper.wp
            go_simp
            exact hK _ _ ⟨_, _, _, _, _, _, _, _, _, _, _, _, _, _, _, _, _, rfl, HF.out.same 16 rfl, fun h => by simp at h, fun _ => by simp [d0]⟩
        · rintro f a u hall ⟨x19, x20, x21, x22, x23, x24, x25, x26, x27, x28, x29, x30, x31, x32, x33, x34, x3, rfl, hF, _, _⟩
          have hall2 := hF.all (n := 17) rfl hall
          simp only [List.cons.injEq] at hall2
          obtain ⟨rfl, rfl, rfl, rfl, rfl, rfl, rfl, rfl, rfl, rfl, rfl, rfl, rfl, rfl, rfl, rfl, rfl, _⟩ := hall2
          have Hb5 := Lib.hid (Hb4.out.trans (hF.bel.mono (by omega)))
          clear hF hall m1 m3 m5 s1 s2 s3 s4 s5 s6 n1 n2 n3 n4 n5 n6
          go_wp2
          rw [e6.out]
          go_roundw
          case rel => exact ⟨k + 1, by omega, by go_num, rfl, Hb5.out⟩
          case measure => simp [intOf]; omega
      · obtain rfl : k = t.cos.length := by omega
        go_wp2
        go_ret
        exact ⟨by rw [hf.out]; rfl, Hbw.out⟩
  · have hff : tyOk t = false := by simpa using hok
    have hf : Hid (fmtTy t = []) := if_neg hok
    rw [hff]
    go_wp2
    go_ret
    exact ⟨by rw [hf.out]; rfl, (box2 H2.out).2.2.2⟩
end Go.Proofs.YtfcekbjoagogdaaDoor
