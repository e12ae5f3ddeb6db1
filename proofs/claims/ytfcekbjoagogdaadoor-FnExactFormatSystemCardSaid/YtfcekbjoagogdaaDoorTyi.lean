/-
  The contracts of strings.ReplaceAll at this program's numbers; of the program's Function.signature and Function.text.
-/
import Derived.Test.YtfcekbjoagogdaaDoorTys
import Derived.Test.YtfcekbjoagogdaaDoorTxi
import Derived.Test.YtfcekbjoagogdaaDoorDet
namespace Go.Proofs.YtfcekbjoagogdaaDoor
open Go.RowKit

theorem layX5 : Builder.Extra Tryd.prog laysM155_ren := {
  sizeBuilder := by kernel_rfl
  liesBuilder := by kernel_rfl
  t5 := Tryd.underlying5
  a5 := Tryd.isAgg5
  z5 := Tryd.sizeOf5
  v5 := Tryd.zeroValue5
  infoByte := by kernel_rfl
  cellsByte := by kernel_rfl
  sizeByte := by kernel_rfl
  neB5 := by decide }

/-- The library's variable MaxLen holds some number. -/
def ML (w : World) : Prop := ∃ m, w.cell? ⟨2, 0, none⟩ = some (.int .i64 m)
theorem ML.lt {w : World} (h : ML w) : 2 < w.heap.size := by
  obtain ⟨m, h⟩ := h
  exact World.block_lt_of_cell? _ _ h
theorem ML.below {B : Nat} {w w' : World} (h : ML w) (hb : Below B w w') (hB : 2 < B) : ML w' := by
  obtain ⟨m, h⟩ := h
  exact ⟨m, (hb.cell (p := ⟨2, 0, none⟩) hB).trans h⟩

theorem replaceAll_any (l : List UInt8) (w : World) (hm : ML w) (hl : l.length ≤ 1048576) :
    Calls Tryd.prog 89 #[.string (str l), .string ⟨#[32]⟩, .string ⟨#[44]⟩] w fun e w' => e = .returned (.string (str (Lib.replaceAll l [32] [44]))) ∧ Below w.heap.size w w' := by
  obtain ⟨m, hm⟩ := hm
  have hc := Lib.countB_le (⟨#[32]⟩ : ByteArray) (by decide) _ (str l) (Nat.le_refl _)
  rw [str_size] at hc
  have h := Any.strings_ReplaceAll { laysM155 with } layX5 (str l) ⟨#[32]⟩ ⟨#[44]⟩ m w (by rw [str_size]; omega) hm (by decide) (by
    rw [str_size, show (⟨#[44]⟩ : ByteArray).size = 1 from rfl]
    omega)
  refine Calls.mono h ?_
  rintro e w' ⟨rfl, hb⟩
  refine ⟨?_, hb⟩
  have e1 : (str l).data.toList = l := by simp [str]
  rw [e1]
  rfl

set_option maxRecDepth 100000 in
set_option maxHeartbeats 4000000 in
theorem implSig_any (lo hi : Nat) (x a r tv : Value) (f : Fu) (w : World) (hv : FuAt w lo hi x a r tv f) (hB : hi ≤ w.heap.size) (hd : FuDigs f) (hm : ML w) :
    Calls Tryd.prog 57 #[.agg #[x, a, r, tv]] w fun e w' => e = .returned (.string (str (sigT f))) ∧ Below w.heap.size w w' := by
  obtain ⟨rfl, rfl, hn, hr, ha, ht⟩ := hv
  obtain ⟨A1, cap1, rfl, hl1, hm1, hi1⟩ := ha.form
  obtain ⟨A2, cap2, rfl, hl2, hm2, _⟩ := ht.form
  obtain ⟨name, args, res, table⟩ := f
  have hx : name = str name.data.toList := (str_list _).symm
  have hd2 := Lib.hid hd
  have hsz : name.data.toList.length = 1 := hd.name
  have hes : Hid (sigT ⟨name, args, res, table⟩ = name.data.toList ++ [40] ++ comsT args ++ [41] ++ dg res) := rfl
  generalize hnm : name.data.toList = nm at hx hsz hes
  subst hx
  have Hi1 := Lib.hid hi1
  clear hn ha ht hl2 hm2 hi1 hd hnm
  have hda : Hid (∀ z ∈ args, Dig z) := hd2.out.args
  have hdr : Hid (Dig res) := hd2.out.res
  have hfew : args.length ≤ 2 := hd2.out.few
  clear hd2
  simp only at hl1 hm1
  have H1 := Lib.hid (Below.refl (w.heap.size + 1) (w.alloc (.cells #[.string (str nm), .slice A1 args.length cap1, .int .i64 res, .slice A2 table.length cap2] 84)))
  have hnl := numsT_len args
  have hcl : (comsT args).length ≤ 4 := by
    have := comsTo_len args args.length
    show (comsTo args args.length).length ≤ 4
    omega
  have HM := Lib.hid hm
  have hg := hm.lt
  clear hm
  go_enter Tryd.func57, Tryd.ntmps57
  go_wp2_with fail
  have hx1 : Below w.heap.size w (w.alloc (.cells #[.string (str nm), .slice A1 args.length cap1, .int .i64 res, .slice A2 table.length cap2] 84)) := (Below.refl _ w).alloc (Nat.le_refl _) _
  refine (implNums_any lo hi _ args _ (Hi1.out.below hx1 hB) (by simp; omega) hda.out (by omega)).mono ?_
  rintro e w1 ⟨rfl, hb1⟩
  have hs1 := hb1.size
  have H2 := Lib.hid (H1.out.trans (hb1.mono (by simp)))
  clear hb1 hx1
  have hm1' : ML w1 := HM.out.below (box4 H2.out).2.2.2.2.2 hg
  go_wp2_with fail
  refine (replaceAll_any (numsT args) w1 hm1' (by omega)).mono ?_
  rintro e w2 ⟨rfl, hb2⟩
  rw [repl_nums args hfew hda.out]
  have hw1 := (box4 H2.out).2.2.2.2.1
  have H3 := Lib.hid (H2.out.trans (hb2.mono (by omega)))
  obtain ⟨q0, q1, q2, q3, hlt, hbw⟩ := box4 H3.out
  have Hbw := Lib.hid hbw
  clear hb2 hbw hm1' H2 hs1
  obtain ⟨L1, l1⟩ : ∃ L, L = nm ++ [40] := ⟨_, rfl⟩
  obtain ⟨L2, l2⟩ : ∃ L, L = L1 ++ comsT args := ⟨_, rfl⟩
  obtain ⟨L3, l3⟩ : ∃ L, L = L2 ++ [41] := ⟨_, rfl⟩
  obtain ⟨L6, l6⟩ : ∃ L, L = L3 ++ dg res := ⟨_, rfl⟩
  have e6 : Hid (L6 = sigT ⟨str nm, args, res, table⟩) := by
    show L6 = _
    rw [hes.out, l6, l3, l2, l1]
  have k1 : L1.length = 2 := by rw [l1]; simp [hsz]
  have k2 : L2.length = L1.length + (comsT args).length := by rw [l2]; simp
  have k3 : L3.length = L2.length + 1 := by rw [l3]; simp
  have s1 : str nm ++ (⟨#[40]⟩ : ByteArray) = str L1 := by rw [l1]; exact str_append _ _
  have s2 : str L1 ++ str (comsT args) = str L2 := by rw [l2]; exact str_append _ _
  have s3 : str L2 ++ (⟨#[41]⟩ : ByteArray) = str L3 := by rw [l3]; exact str_append _ _
  have s6 : str L3 ++ str (dg res) = str L6 := by rw [l6]; exact str_append _ _
  have n1 : ¬ 9223372036854775807 < (str nm).size + 1 := by rw [str_size, hsz]; decide
  have n2 : ¬ 9223372036854775807 < (str L1).size + (str (comsT args)).size := by rw [str_size, str_size]; omega
  have n3 : ¬ 9223372036854775807 < (str L2).size + 1 := by rw [str_size]; omega
  have n6 : ¬ 9223372036854775807 < (str L3).size + (str (dg res)).size := by rw [str_size, str_size, show (dg res).length = 1 from rfl]; omega
  clear l1 l2 l3 l6 k1 k2 k3 hcl hnl
  have Hcf : Hid (∀ u, Below w2.heap.size w2 u → u.cell? ⟨w.heap.size, 0, none⟩ = some (.string (str nm)) ∧ u.cell? ⟨w.heap.size, 2, none⟩ = some (.int .i64 res)) := fun u hb =>
    ⟨(hb.cell (p := ⟨w.heap.size, 0, none⟩) hlt).trans q0, (hb.cell (p := ⟨w.heap.size, 2, none⟩) hlt).trans q2⟩
  clear q0 q1 q2 q3
  go_wp2_with fail
  refine wp_region_inv (by kernel_rfl) (fun dn a u => ∃ x8 x9 x10 x11 x12 x13 x14 x15 x16 x17 x2, a = ⟨#[.agg #[.string (str nm), .slice A1 args.length cap1, .int .i64 res, .slice A2 table.length cap2], .pointer (some ⟨w.heap.size, 0, none⟩), x2, .string (str (comsT args)), .pointer (some ⟨w.heap.size, 1, none⟩), .slice A1 args.length cap1, .string (str (numsT args)), .string (str (comsT args)), x8, x9, x10, x11, x12, x13, x14, x15, x16, x17], []⟩ ∧ Det (w2.heap.size) (w2) [.pointer (some ⟨w.heap.size, 0, none⟩), .string (str nm), .string (str L1), .string (str (comsT args)), .string (str L2), .string (str L3), .pointer (some ⟨w.heap.size, 2, none⟩), .int .i64 res, .string (str (dg res)), .string (str L6), .string (str L6)] dn [x8, x9, x10, x11, x12, x13, x14, x15, x16, x17, x2] u) (of_decide_eq_true (by kernel_rfl)) ⟨_, _, _, _, _, _, _, _, _, _, _, rfl, Det.start (Nat.le_refl _) (by rfl)⟩ ?_ ?_
  · rintro dn a u i o ho hfi hdep ⟨x8, x9, x10, x11, x12, x13, x14, x15, x16, x17, x2, rfl, hF⟩
    have hil : i < 11 := by have := (Array.getElem?_eq_some_iff.1 ho).1; simpa using this
    obtain ⟨p0, p2⟩ := Hcf.out u hF.bel
    obtain rfl | rfl | rfl | rfl | rfl | rfl | rfl | rfl | rfl | rfl | rfl : i = 0 ∨ i = 1 ∨ i = 2 ∨ i = 3 ∨ i = 4 ∨ i = 5 ∨ i = 6 ∨ i = 7 ∨ i = 8 ∨ i = 9 ∨ i = 10 := by omega
    all_goals
      obtain rfl := Option.some.inj ho
      refine wpOp_step ho fun K hK => ?_
      simp [Region.binds] at hdep
      clear ho
    · refine det_yes rfl ?_
      have HF := Lib.hid hF
      clear hF
      unfold Oper.wp
      go_simp
      exact hK _ _ ⟨_, _, _, _, _, _, _, _, _, _, _, rfl, HF.out.same 0 rfl⟩
    · obtain rfl := hF.get 0 (by simp [hdep]) rfl rfl
      refine det_yes rfl ?_
      have HF := Lib.hid hF
      clear hF
      unfold Oper.wp
      go_simp
      exact hK _ _ ⟨_, _, _, _, _, _, _, _, _, _, _, rfl, HF.out.same 1 rfl⟩
    · obtain rfl := hF.get 1 (by simp [hdep]) rfl rfl
      refine det_yes rfl ?_
      have HF := Lib.hid hF
      clear hF
      unfold Oper.wp
      go_simp
      exact hK _ _ ⟨_, _, _, _, _, _, _, _, _, _, _, rfl, HF.out.same 2 rfl⟩
    · refine det_yes rfl ?_
      have HF := Lib.hid hF
      clear hF
      unfold Oper.wp
      go_simp
      exact hK _ _ ⟨_, _, _, _, _, _, _, _, _, _, _, rfl, HF.out.same 3 rfl⟩
    · obtain rfl := hF.get 2 (by simp [hdep]) rfl rfl
      obtain rfl := hF.get 3 (by simp [hdep]) rfl rfl
      refine det_yes rfl ?_
      have HF := Lib.hid hF
      clear hF
      unfold Oper.wp
      go_simp
      exact hK _ _ ⟨_, _, _, _, _, _, _, _, _, _, _, rfl, HF.out.same 4 rfl⟩
    · obtain rfl := hF.get 4 (by simp [hdep]) rfl rfl
      refine det_yes rfl ?_
      have HF := Lib.hid hF
      clear hF
      unfold Oper.wp
      go_simp
      exact hK _ _ ⟨_, _, _, _, _, _, _, _, _, _, _, rfl, HF.out.same 5 rfl⟩
    · refine det_yes rfl ?_
      have HF := Lib.hid hF
      clear hF
      unfold Oper.wp
      go_simp
      exact hK _ _ ⟨_, _, _, _, _, _, _, _, _, _, _, rfl, HF.out.same 6 rfl⟩
    · obtain rfl := hF.get 6 (by simp [hdep]) rfl rfl
      refine det_yes rfl ?_
      have HF := Lib.hid hF
      clear hF
      unfold Oper.wp
      go_simp
      exact hK _ _ ⟨_, _, _, _, _, _, _, _, _, _, _, rfl, HF.out.same 7 rfl⟩
    · obtain rfl := hF.get 7 (by simp [hdep]) rfl rfl
      refine det_yes rfl ?_
      have HF := Lib.hid hF
      clear hF
      unfold Oper.wp
      go_simp
      refine (itoa_any _ hdr.out u).mono ?_
      rintro e u2 ⟨rfl, rfl⟩
      exact hK _ _ ⟨_, _, _, _, _, _, _, _, _, _, _, rfl, HF.out.same 8 rfl⟩
    · obtain rfl := hF.get 5 (by simp [hdep]) rfl rfl
      obtain rfl := hF.get 8 (by simp [hdep]) rfl rfl
      refine det_yes rfl ?_
      have HF := Lib.hid hF
      clear hF
      unfold Oper.wp
      go_simp
      exact hK _ _ ⟨_, _, _, _, _, _, _, _, _, _, _, rfl, HF.out.same 9 rfl⟩
    · obtain rfl := hF.get 9 (by simp [hdep]) rfl rfl
      refine det_yes rfl ?_
      have HF := Lib.hid hF
      clear hF
      unfold Oper.wp
      go_simp
      exact hK _ _ ⟨_, _, _, _, _, _, _, _, _, _, _, rfl, HF.out.same 10 rfl⟩
  · rintro dn a u hall ⟨x8, x9, x10, x11, x12, x13, x14, x15, x16, x17, x2, rfl, hF⟩
    have hall2 := hF.all (n := 11) rfl hall
    simp only [List.cons.injEq] at hall2
    obtain ⟨rfl, rfl, rfl, rfl, rfl, rfl, rfl, rfl, rfl, rfl, rfl, _⟩ := hall2
    have Hb5 := Lib.hid (Hbw.out.trans (hF.bel.mono (by omega)))
    clear hF hall s1 s2 s3 s6 n1 n2 n3 n6
    go_wp2
    go_ret
    exact ⟨by rw [← e6.out]; rfl, Hb5.out⟩

set_option maxRecDepth 100000 in
set_option maxHeartbeats 4000000 in
theorem implFu_any (lo hi : Nat) (x a r tv : Value) (f : Fu) (w : World) (hv : FuAt w lo hi x a r tv f) (hB : hi ≤ w.heap.size) (hd : FuDigs f) (hm : ML w) :
    Calls Tryd.prog 61 #[.agg #[x, a, r, tv]] w fun e w' => e = .returned (.string (str (fuT f))) ∧ Below w.heap.size w w' := by
  have Hv := Lib.hid hv
  obtain ⟨rfl, rfl, hn, hr, ha, ht⟩ := hv
  obtain ⟨A1, cap1, rfl, hl1, hm1, hi1⟩ := ha.form
  obtain ⟨A2, cap2, rfl, hl2, hm2, _⟩ := ht.form
  have Hd := Lib.hid hd
  have HM := Lib.hid hm
  have hg := hm.lt
  have hsl := sigT_len hd
  have hnl := numsT_len f.table
  have hml := hd.short
  clear hn ha ht hl2 hm2 hi1 hd hm
  obtain ⟨L1, l1⟩ : ∃ L, L = sigT f ++ [58] := ⟨_, rfl⟩
  obtain ⟨L6, l6⟩ : ∃ L, L = L1 ++ numsT f.table := ⟨_, rfl⟩
  have e6 : Hid (L6 = fuT f) := by
    show L6 = _
    rw [l6, l1]
    rfl
  have k1 : L1.length = (sigT f).length + 1 := by rw [l1]; simp
  have s1 : str (sigT f) ++ (⟨#[58]⟩ : ByteArray) = str L1 := by rw [l1]; exact str_append _ _
  have s6 : str L1 ++ str (numsT f.table) = str L6 := by rw [l6]; exact str_append _ _
  have n1 : ¬ 9223372036854775807 < (str (sigT f)).size + 1 := by rw [str_size]; omega
  have n6 : ¬ 9223372036854775807 < (str L1).size + (str (numsT f.table)).size := by rw [str_size, str_size]; omega
  clear l1 l6 k1
  have Hcf : Hid (∀ u, Below (w.heap.size + 1) (w.alloc (.cells #[.string f.name, .slice A1 f.args.length cap1, .int .i64 f.res, .slice A2 f.table.length cap2] 84)) u → u.cell? ⟨w.heap.size, 0, none⟩ = some (.string f.name) ∧ u.cell? ⟨w.heap.size, 1, none⟩ = some (.slice A1 f.args.length cap1) ∧ u.cell? ⟨w.heap.size, 2, none⟩ = some (.int .i64 f.res) ∧ u.cell? ⟨w.heap.size, 3, none⟩ = some (.slice A2 f.table.length cap2)) := fun u hb =>
    ⟨(box4 hb).1, (box4 hb).2.1, (box4 hb).2.2.1, (box4 hb).2.2.2.1⟩
  have Hu : Hid (∀ u, Below (w.heap.size + 1) (w.alloc (.cells #[.string f.name, .slice A1 f.args.length cap1, .int .i64 f.res, .slice A2 f.table.length cap2] 84)) u → Below w.heap.size w u) := fun u hb => (box4 hb).2.2.2.2.2
  go_enter Tryd.func61, Tryd.ntmps61
  go_wp2_with fail
  refine wp_region_inv (by kernel_rfl) (fun dn a u => ∃ x3 x4 x5 x6 x7 x8 x9 x2, a = ⟨#[.agg #[.string f.name, .slice A1 f.args.length cap1, .int .i64 f.res, .slice A2 f.table.length cap2], .pointer (some ⟨w.heap.size, 0, none⟩), x2, x3, x4, x5, x6, x7, x8, x9], []⟩ ∧ Det (w.heap.size + 1) (w.alloc (.cells #[.string f.name, .slice A1 f.args.length cap1, .int .i64 f.res, .slice A2 f.table.length cap2] 84)) [.agg #[.string f.name, .slice A1 f.args.length cap1, .int .i64 f.res, .slice A2 f.table.length cap2], .string (str (sigT f)), .string (str L1), .pointer (some ⟨w.heap.size, 3, none⟩), .slice A2 f.table.length cap2, .string (str (numsT f.table)), .string (str L6), .string (str L6)] dn [x3, x4, x5, x6, x7, x8, x9, x2] u) (of_decide_eq_true (by kernel_rfl)) ⟨_, _, _, _, _, _, _, _, rfl, Det.start (by simp) (by rfl)⟩ ?_ ?_
  · rintro dn a u i o ho hfi hdep ⟨x3, x4, x5, x6, x7, x8, x9, x2, rfl, hF⟩
    have hil : i < 8 := by have := (Array.getElem?_eq_some_iff.1 ho).1; simpa using this
    obtain ⟨p0, p1, p2, p3⟩ := Hcf.out u hF.bel
    obtain rfl | rfl | rfl | rfl | rfl | rfl | rfl | rfl : i = 0 ∨ i = 1 ∨ i = 2 ∨ i = 3 ∨ i = 4 ∨ i = 5 ∨ i = 6 ∨ i = 7 := by omega
    all_goals
      obtain rfl := Option.some.inj ho
      refine wpOp_step ho fun K hK => ?_
      simp [Region.binds] at hdep
      clear ho
    · refine det_yes rfl ?_
      have HF := Lib.hid hF
      clear hF
      unfold Oper.wp
      go_simp
      exact hK _ _ ⟨_, _, _, _, _, _, _, _, rfl, HF.out.same 0 rfl⟩
    · obtain rfl := hF.get 0 (by simp [hdep]) rfl rfl
      refine det_yes rfl ?_
      have HF := Lib.hid hF
      clear hF
      unfold Oper.wp
      go_simp
      refine (implSig_any lo hi _ _ _ _ f u (Hv.out.below (Hu.out u HF.out.bel) hB) (by have h := (Hu.out u HF.out.bel).size; omega) Hd.out (HM.out.below (Hu.out u HF.out.bel) hg)).mono ?_
      rintro e u2 ⟨rfl, hb2⟩
      exact hK _ _ ⟨_, _, _, _, _, _, _, _, rfl, HF.out.step 1 rfl (hb2.mono (by have h := HF.out.bel.size; simp only [World.size_alloc] at h; omega))⟩
    · obtain rfl := hF.get 1 (by simp [hdep]) rfl rfl
      refine det_yes rfl ?_
      have HF := Lib.hid hF
      clear hF
      unfold Oper.wp
      go_simp
      exact hK _ _ ⟨_, _, _, _, _, _, _, _, rfl, HF.out.same 2 rfl⟩
    · refine det_yes rfl ?_
      have HF := Lib.hid hF
      clear hF
      unfold Oper.wp
      go_simp
      exact hK _ _ ⟨_, _, _, _, _, _, _, _, rfl, HF.out.same 3 rfl⟩
    · obtain rfl := hF.get 3 (by simp [hdep]) rfl rfl
      refine det_yes rfl ?_
      have HF := Lib.hid hF
      clear hF
      unfold Oper.wp
      go_simp
      exact hK _ _ ⟨_, _, _, _, _, _, _, _, rfl, HF.out.same 4 rfl⟩
    · obtain rfl := hF.get 4 (by simp [hdep]) rfl rfl
      refine det_yes rfl ?_
      have HF := Lib.hid hF
      clear hF
      unfold Oper.wp
      go_simp
      refine (implNums_any lo hi _ f.table u (Hv.out.below (Hu.out u HF.out.bel) hB).2.2.2.2.2 (by have h := (Hu.out u HF.out.bel).size; omega) Hd.out.table (by omega)).mono ?_
      rintro e u2 ⟨rfl, hb2⟩
      exact hK _ _ ⟨_, _, _, _, _, _, _, _, rfl, HF.out.step 5 rfl (hb2.mono (by have h := HF.out.bel.size; simp only [World.size_alloc] at h; omega))⟩
    · obtain rfl := hF.get 2 (by simp [hdep]) rfl rfl
      obtain rfl := hF.get 5 (by simp [hdep]) rfl rfl
      refine det_yes rfl ?_
      have HF := Lib.hid hF
      clear hF
      unfold Oper.wp
      go_simp
      exact hK _ _ ⟨_, _, _, _, _, _, _, _, rfl, HF.out.same 6 rfl⟩
    · obtain rfl := hF.get 6 (by simp [hdep]) rfl rfl
      refine det_yes rfl ?_
      have HF := Lib.hid hF
      clear hF
      unfold Oper.wp
      go_simp
      exact hK _ _ ⟨_, _, _, _, _, _, _, _, rfl, HF.out.same 7 rfl⟩
  · rintro dn a u hall ⟨x3, x4, x5, x6, x7, x8, x9, x2, rfl, hF⟩
    have hall2 := hF.all (n := 8) rfl hall
    simp only [List.cons.injEq] at hall2
    obtain ⟨rfl, rfl, rfl, rfl, rfl, rfl, rfl, rfl, _⟩ := hall2
    have Hb5 := Lib.hid (Hu.out _ hF.bel)
    clear hF hall s1 s6 n1 n6
    go_wp2
    go_ret
    exact ⟨by rw [← e6.out]; rfl, Hb5.out⟩
end Go.Proofs.YtfcekbjoagogdaaDoor
