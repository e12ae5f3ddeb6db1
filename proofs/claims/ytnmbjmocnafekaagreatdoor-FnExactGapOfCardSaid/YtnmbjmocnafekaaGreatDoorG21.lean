/-
  The contract of the program's LeastKind, where that of KindsOf is given.
  The contract of the program's resultsLead.
  The contract of NamedOf, the program's.
-/
import Derived.Test.YtnmbjmocnafekaaGreatDoorG20
import Derived.Test.YtnmbjmocnafekaaGreatDoorG9
import Derived.Test.YtnmbjmocnafekaaGreatDoorG14
import Derived.WalkMore
import Derived.Deep.LoopGhost
import Derived.Test.YtnmbjmocnafekaaGreatDoorG7
import Derived.Test.YtnmbjmocnafekaaGreatDoorG19
import Derived.Test.YtnmbjmocnafekaaGreatDoorG16
import Derived.Test.YtnmbjmocnafekaaGreatDoorG12
namespace Go.Proofs.YtnmbjmocnafekaaGreatDoor
open Go.RowKit

/-- The first of some types that leads to all of others. -/
def lstK2 (c : Int → Int → Bool) (ks : List Int) : List Int → Int
  | [] => -1
  | z :: l => if (ks.all fun o => c z o) = true then z else lstK2 c ks l
def lstK (c : Int → Int → Bool) (ks : List Int) : Int := lstK2 c ks ks
theorem lstK2_no {c : Int → Int → Bool} {ks l : List Int} {z : Int} (h : (ks.all fun o => c z o) = false) : lstK2 c ks (z :: l) = lstK2 c ks l := by
  rw [lstK2, if_neg (by rw [h]; decide)]
theorem lstK2_yes {c : Int → Int → Bool} {ks l : List Int} {z : Int} (h : (ks.all fun o => c z o) = true) : lstK2 c ks (z :: l) = z := by
  rw [lstK2, if_pos h]
theorem tb_in {t : Ty} {a b : Int} (ht : tyOk t = true) (ha : 0 ≤ a ∧ a < t.sizes.length) (hb : 0 ≤ b ∧ b < t.sizes.length) : typesB t a b = true := by
  unfold typesB
  rw [ht, show ixB a t.sizes.length = true by unfold ixB; exact decide_eq_true ha, show ixB b t.sizes.length = true by unfold ixB; exact decide_eq_true hb]
  rfl
theorem canC_in {t : Ty} {a b : Int} (ht : tyOk t = true) (ha : 0 ≤ a ∧ a < t.sizes.length) (hb : 0 ≤ b ∧ b < t.sizes.length) : canC t a b = canB t a b := by
  unfold canC
  rw [tb_in ht ha hb, Bool.true_and]

set_option maxRecDepth 100000 in
set_option maxHeartbeats 1000000 in
theorem implLeastK_any (lo hi : Nat) (sv cv fv : Value) (y : Sy) (Z : ByteArray) (ks : List Int) (w : World) (hv : SyAt w lo hi sv cv fv y) (hB : hi ≤ w.heap.size) (hks : ∀ z ∈ ks, 0 ≤ z ∧ z < 5 ∧ tyOk y.ty = true ∧ z < y.ty.sizes.length) (hkl : ks.length ≤ 5)
    (HK0 : ∀ u : World, Below w.heap.size w u → Calls Tryz.prog 26 #[.agg #[sv, cv, fv], .string Z] u fun e w' => ∃ v, e = .returned v ∧ Below u.heap.size u w' ∧ w'.ownsRow u.heap.size 3 1 v ks.length (ks.map (Value.int .i64))) :
    Calls Tryz.prog 31 #[.agg #[sv, cv, fv], .string Z] w fun e w' => e = .returned (.int .i64 (lstK (canB y.ty) ks)) ∧ Below w.heap.size w w' := by
  obtain ⟨A1, cap1, rfl, _, _, _⟩ := hv.1.1.form
  obtain ⟨A2, cap2, rfl, _, _, _⟩ := hv.1.2.form
  obtain ⟨A3, cap3, rfl, _, _, _⟩ := hv.2.form
  have hb1 : Below w.heap.size w (w.alloc (.cells #[.slice A1 y.ty.sizes.length cap1, .slice A2 y.ty.cos.length cap2, .slice A3 y.fs.length cap3] 36)) := (Below.refl _ _).alloc (Nat.le_refl _) _
  have HT := Lib.hid (HK0 _ hb1)
  have HR1 := Lib.hid (Row.new w 36 [.slice A1 y.ty.sizes.length cap1, .slice A2 y.ty.cos.length cap2, .slice A3 y.fs.length cap3])
  have HB1 := Lib.hid hb1
  have HV := Lib.hid hv
  have HKS := Lib.hid hks
  have hs1 : w.heap.size + 1 = (w.alloc (.cells #[.slice A1 y.ty.sizes.length cap1, .slice A2 y.ty.cos.length cap2, .slice A3 y.fs.length cap3] 36)).heap.size := by rw [World.size_alloc]
  have Hs1 := Lib.hid hs1
  clear hv HK0 hb1 hs1 hks
  go_enter Tryz.func31, Tryz.ntmps31
  go_wp2
  go_step3
  go_wp2_with fail
  refine HT.out.mono ?_
  rintro e w2 ⟨v, rfl, hb2, hown⟩
  rw [← Hs1.out] at hb2 hown
  have HB2 : Hid (Below w.heap.size w w2) := HB1.out.trans (hb2.mono (by omega))
  have hs2 : w.heap.size + 1 ≤ w2.heap.size := by have := hb2.size; rw [← Hs1.out] at this; exact this
  have hr2 := HR1.out.below hb2 (by omega)
  have HR2 := Lib.hid hr2
  have HO2 := Lib.hid hown
  obtain ⟨KA, KC, rfl⟩ := own_slice' hown
  clear hb2 hown HT HR1 hr2
  go_wp2
  go_step3
  go_wp2
  go_loopg [15] ks.length (fun gk ix wr => ∃ k : Nat, k + gk = ks.length ∧ ix = .int .i64 k ∧ Hid (Below w2.heap.size w2 wr) ∧ Hid (lstK (canB y.ty) ks = lstK2 (canB y.ty) ks (ks.drop k)))
  case atStart => exact ⟨0, by omega, rfl, Below.refl _ _, rfl⟩
  case round =>
    obtain ⟨k, hkg, rfl, hbr, hfin⟩ := hrel
    obtain ⟨wq, rfl⟩ : ∃ u, u = wr := ⟨_, rfl⟩
    have hsr := hbr.out.size
    cases gk with
    | zero =>
      obtain rfl : k = ks.length := by omega
      have HF : Hid (lstK (canB y.ty) ks = -1) := by
        show _ = _
        rw [hfin.out, List.drop_length]
        rfl
      have HBW : Hid (Below w.heap.size w wq) := HB2.out.trans (hbr.out.mono (by omega))
      go_wp2
      try rw [Exit.noGoto_ret]
      refine bodyPost_ret (v := .int .i64 (-1)) (by simp [results, Tryz.results31, go_sem]) rfl ?_
      exact ⟨by rw [HF.out], HBW.out⟩
    | succ g2 =>
      have hkl2 : k < ks.length := by omega
      obtain ⟨g, hKA, hg3, hgw, _, hcells⟩ := own_cells HO2.out (by omega)
      have HCL : Hid (∀ j, ∀ (hj : j < ks.length) (u : World), Below w2.heap.size w2 u → u.cell? ⟨g, j, none⟩ = some (.int .i64 ks[j])) := fun j hj u hu => (hu.cell (p := ⟨g, j, none⟩) hgw).trans ((hcells j hj).trans (by simp [hj]))
      subst hKA
      have c0 := HCL.out k hkl2 wq hbr.out
      have hkI : (k : Int) < (ks.length : Int) := by omega
      have HZK := Lib.hid (HKS.out _ (List.getElem_mem hkl2))
      have hdrop := List.drop_eq_getElem_cons hkl2
      have HDR := Lib.hid hdrop
      obtain ⟨ZK, hZK⟩ : ∃ z, z = ks[k] := ⟨_, rfl⟩
      rw [← hZK] at c0 HZK HDR
      clear hdrop hcells hZK
      go_wp2_with fail
      clear c0
      go_loopg [21] ks.length (fun gi ix wi => ∃ j : Nat, j + gi = ks.length ∧ ix = .int .i64 j ∧ Hid (Below w2.heap.size w2 wi) ∧ Hid ((ks.all fun o => canB y.ty ZK o) = ((ks.drop j).all fun o => canB y.ty ZK o)))
      case atStart => exact ⟨0, by omega, rfl, hbr.out, rfl⟩
      case round =>
        obtain ⟨j, hjg, rfl, hbi, hall⟩ := hrel
        obtain ⟨wi, rfl⟩ : ∃ u, u = wr := ⟨_, rfl⟩
        have hsi := hbi.out.size
        cases gk with
        | zero =>
          obtain rfl : j = ks.length := by omega
          have HF : Hid (lstK (canB y.ty) ks = ZK) := by
            show _ = _
            rw [hfin.out, HDR.out, lstK2_yes]
            rw [hall.out, List.drop_length]
            rfl
          have HBW : Hid (Below w.heap.size w wi) := HB2.out.trans (hbi.out.mono (by omega))
          go_wp2
          try rw [Exit.noGoto_ret]
          refine bodyPost_ret (v := .int .i64 ZK) (by simp [results, Tryz.results31, go_sem]) rfl ?_
          exact ⟨by rw [HF.out], HBW.out⟩
        | succ g3 =>
          have hjl : j < ks.length := by omega
          have c1 := HCL.out j hjl wi hbi.out
          have hjI : (j : Int) < (ks.length : Int) := by omega
          have HZJ := Lib.hid (HKS.out _ (List.getElem_mem hjl))
          have hdj := List.drop_eq_getElem_cons hjl
          have HDJ := Lib.hid hdj
          obtain ⟨ZJ, hZJ⟩ : ∃ z, z = ks[j] := ⟨_, rfl⟩
          rw [← hZJ] at c1 HZJ HDJ
          have hrw := HR2.out.below hbi.out (by omega)
          have q0 := hrw.cell 0
          have q1 := hrw.cell 1
          simp only [List.getElem?_cons_zero, List.getElem?_cons_succ] at q0 q1
          have HC := Lib.hid (implCan_any lo hi _ _ y.ty ZK ZJ wi (HV.out.below (HB2.out.trans (hbi.out.mono (by omega))) hB).1 (by omega) (by unfold I64; have := HZK.out; omega) (by unfold I64; have := HZJ.out; omega))
          obtain ⟨cb, hcb⟩ : ∃ b, b = canB y.ty ZK ZJ := ⟨_, rfl⟩
          rw [canC_in HZK.out.2.2.1 ⟨HZK.out.1, HZK.out.2.2.2⟩ ⟨HZJ.out.1, HZJ.out.2.2.2⟩] at HC
          rw [← hcb] at HC
          have HCB := Lib.hid hcb
          clear hdj hZJ hrw hcb
          go_wp2_with fail
          refine HC.out.mono ?_
          rintro e w5 ⟨rfl, hb5⟩
          have HB5 : Hid (Below w2.heap.size w2 w5) := hbi.out.trans (hb5.mono hsi)
          clear HC c1 q0 q1 hb5
          cases cb with
          | true =>
            have HA : Hid ((ks.all fun o => canB y.ty ZK o) = ((ks.drop (j + 1)).all fun o => canB y.ty ZK o)) := by
              show _ = _
              rw [hall.out, HDJ.out, List.all_cons, ← HCB.out, Bool.true_and]
            go_wp2
            go_roundg g3
            case measure => omega
            case rel => exact ⟨j + 1, by omega, by go_num, HB5.out, HA.out⟩
          | false =>
            have HF : Hid (lstK (canB y.ty) ks = lstK2 (canB y.ty) ks (ks.drop (k + 1))) := by
              show _ = _
              rw [hfin.out, HDR.out, lstK2_no]
              rw [hall.out, HDJ.out, List.all_cons, ← HCB.out, Bool.false_and]
            go_wp2
            go_roundg g2
            case measure => omega
            case rel => exact ⟨k + 1, by omega, by go_num, HB5.out, HF.out⟩
end Go.Proofs.YtnmbjmocnafekaaGreatDoor

namespace Go.Proofs.YtnmbjmocnafekaaGreatDoor
open Go.RowKit

set_option maxRecDepth 100000 in
set_option maxHeartbeats 1000000 in
theorem resultsLead_any (lo hi : Nat) (sv cv fv : Value) (y : Sy) (i k : Nat) (w : World) (hv : SyAt w lo hi sv cv fv y) (hB : hi ≤ w.heap.size) (hsy : SyOk y) (hil : i < y.fs.length) (hkl : k < y.fs.length) :
    Calls Tryz.prog 121 #[.agg #[sv, cv, fv], .int .i64 ((i : Nat) : Int), .int .i64 ((k : Nat) : Int)] w fun e w' => e = .returned (.bool (canB y.ty y.fs[i].res y.fs[k].res)) ∧ Below w.heap.size w w' := by
  obtain ⟨A1, cap1, rfl, _, _, _⟩ := hv.1.1.form
  obtain ⟨A2, cap2, rfl, _, _, _⟩ := hv.1.2.form
  obtain ⟨A3, cap3, rfl, _, _, hv2⟩ := hv.2.form
  obtain ⟨fb, foff, B1, cb1, B2, cb2, rfl, hfb1, hfb2, _, _, k2, _⟩ := hv2.at_ hil
  obtain ⟨fb', foff', C1, cc1, C2, cc2, e, _, _, _, _, l2, _⟩ := hv2.at_ hkl
  injection e with e
  injection e with e1 e2
  subst e1
  subst e2
  obtain ⟨W1, hW1⟩ : ∃ u, u = w.alloc (.cells #[.slice A1 y.ty.sizes.length cap1, .slice A2 y.ty.cos.length cap2, .slice (some ⟨fb, foff, none⟩) y.fs.length cap3] 36) := ⟨_, rfl⟩
  have hb1 : Below w.heap.size w W1 := by rw [hW1]; exact (Below.refl _ _).alloc (Nat.le_refl _) _
  have r1 : Row W1 w.heap.size 36 [.slice A1 y.ty.sizes.length cap1, .slice A2 y.ty.cos.length cap2, .slice (some ⟨fb, foff, none⟩) y.fs.length cap3] := by rw [hW1]; exact Row.new _ _ _
  have HB1 := Lib.hid hb1
  have hri := (hsy.each i hil).res
  have hrk := (hsy.each k hkl).res
  have hs5 := (sizesOk_of (tyOk_sizes hsy.ty)).2.1
  have hiI : (i : Int) < (y.fs.length : Int) := by omega
  have hkI : (k : Int) < (y.fs.length : Int) := by omega
  obtain ⟨RI, hRI⟩ : ∃ r, r = y.fs[i].res := ⟨_, rfl⟩
  obtain ⟨RK, hRK⟩ : ∃ r, r = y.fs[k].res := ⟨_, rfl⟩
  rw [← hRI] at hri k2 ⊢
  rw [← hRK] at hrk l2 ⊢
  have HLD : Hid (∀ u : World, Below W1.heap.size W1 u → u.cell? ⟨w.heap.size, 0, none⟩ = some (.slice A1 y.ty.sizes.length cap1) ∧ u.cell? ⟨w.heap.size, 1, none⟩ = some (.slice A2 y.ty.cos.length cap2) ∧ u.cell? ⟨w.heap.size, 2, none⟩ = some (.slice (some ⟨fb, foff, none⟩) y.fs.length cap3) ∧ u.cell? ⟨fb, foff + i * 4 + 2, none⟩ = some (.int .i64 RI) ∧ u.cell? ⟨fb, foff + k * 4 + 2, none⟩ = some (.int .i64 RK)) := fun u hu => by
    have r2 := r1.below hu r1.lt
    have hk := ((hb1.trans (hu.mono hb1.size)).block fb (by omega))
    exact ⟨r2.cell 0, r2.cell 1, r2.cell 2, (World.cell?_of_block (w := w) hk).trans k2, (World.cell?_of_block (w := w) hk).trans l2⟩
  obtain ⟨CB, hCB⟩ : ∃ b, b = canB y.ty RI RK := ⟨_, rfl⟩
  have HCC : Hid (∀ u : World, Below W1.heap.size W1 u → Calls Tryz.prog 58 #[.agg #[.slice A1 y.ty.sizes.length cap1, .slice A2 y.ty.cos.length cap2], .int .i64 RI, .int .i64 RK] u fun e w' => e = .returned (.bool CB) ∧ Below u.heap.size u w') := fun u hu => by
    have h := implCan_any lo hi _ _ y.ty RI RK u (hv.below (hb1.trans (hu.mono hb1.size)) hB).1 (by have := hb1.size; have := hu.size; omega) (by unfold I64; omega) (by unfold I64; omega)
    rw [canC_in hsy.ty hri hrk, ← hCB] at h
    exact h
  rw [← hCB]
  clear hv hv2 hb1 r1 k2 l2 hRI hRK hCB
  go_enter Tryz.func121, Tryz.ntmps121
  go_wp2_with fail
  rw [← hW1]
  clear hW1
  refine wp_region_inv (by kernel_rfl) (fun dn ac u => ∃ x7 x8 x9 x10 x11 x12 x13 x14 x15 x16 x17 x18 x19 x20 x21 x6, ac = ⟨List.toArray (.agg #[.slice A1 y.ty.sizes.length cap1, .slice A2 y.ty.cos.length cap2, .slice (some ⟨fb, foff, none⟩) y.fs.length cap3] :: .int .i64 ((i : Nat) : Int) :: .int .i64 ((k : Nat) : Int) :: .pointer (some ⟨w.heap.size, 0, none⟩) :: undef :: undef :: x6 :: x7 :: x8 :: x9 :: x10 :: x11 :: x12 :: x13 :: x14 :: x15 :: x16 :: x17 :: x18 :: x19 :: x20 :: x21 :: []), []⟩ ∧ DetQ [fun v : Value => v = .pointer (some ⟨w.heap.size, 0, none⟩), fun v : Value => v = .agg #[.slice A1 y.ty.sizes.length cap1, .slice A2 y.ty.cos.length cap2], fun v : Value => v = .pointer (some ⟨w.heap.size, 2, none⟩), fun v : Value => v = .slice (some ⟨fb, foff, none⟩) y.fs.length cap3, fun v : Value => v = .int .i64 ((i : Nat) : Int), fun v : Value => v = .pointer (some ⟨fb, foff + i * 4, none⟩), fun v : Value => v = .pointer (some ⟨fb, foff + i * 4 + 2, none⟩), fun v : Value => v = .int .i64 RI, fun v : Value => v = .pointer (some ⟨w.heap.size, 2, none⟩), fun v : Value => v = .slice (some ⟨fb, foff, none⟩) y.fs.length cap3, fun v : Value => v = .int .i64 ((k : Nat) : Int), fun v : Value => v = .pointer (some ⟨fb, foff + k * 4, none⟩), fun v : Value => v = .pointer (some ⟨fb, foff + k * 4 + 2, none⟩), fun v : Value => v = .int .i64 RK, fun v : Value => v = .bool CB, fun v : Value => v = .bool CB] dn [x7, x8, x9, x10, x11, x12, x13, x14, x15, x16, x17, x18, x19, x20, x21, x6] ∧ Ch dn [14] (fun _ u => Below W1.heap.size W1 u) u ∧ True) (of_decide_eq_true (by kernel_rfl)) ⟨_, _, _, _, _, _, _, _, _, _, _, _, _, _, _, _, rfl, DetQ.start (by rfl), Ch.start (show Below W1.heap.size W1 W1.drew from (Below.refl _ _).drew), trivial⟩ ?_ ?_
  · rintro dn ac u i8 op8 hop hfi hdep ⟨x7, x8, x9, x10, x11, x12, x13, x14, x15, x16, x17, x18, x19, x20, x21, x6, rfl, hD, hC, -⟩
    have hil : i8 < 16 := by have := (Array.getElem?_eq_some_iff.1 hop).1; simpa using this
    obtain rfl | rfl | rfl | rfl | rfl | rfl | rfl | rfl | rfl | rfl | rfl | rfl | rfl | rfl | rfl | rfl : i8 = 0 ∨ i8 = 1 ∨ i8 = 2 ∨ i8 = 3 ∨ i8 = 4 ∨ i8 = 5 ∨ i8 = 6 ∨ i8 = 7 ∨ i8 = 8 ∨ i8 = 9 ∨ i8 = 10 ∨ i8 = 11 ∨ i8 = 12 ∨ i8 = 13 ∨ i8 = 14 ∨ i8 = 15 := by omega
    all_goals
      obtain rfl := Option.some.inj hop
      refine wpOp_step hop fun K hK => ?_
      simp [Region.binds] at hdep
      clear hop
    · refine det_yes rfl ?_
      have HD := Lib.hid hD
      have HC := Lib.hid hC
      clear hD hC
      unfold Oper.wp
      go_simp
      exact hK _ _ ⟨_, _, _, _, _, _, _, _, _, _, _, _, _, _, _, _, rfl, HD.out.step 0 rfl rfl, HC.out.other 0 (by decide), trivial⟩
    · obtain rfl : x7 = .pointer (some ⟨w.heap.size, 0, none⟩) := hD.get (P := fun v : Value => v = .pointer (some ⟨w.heap.size, 0, none⟩)) 0 (by simp [hdep]) rfl rfl
      obtain ⟨j8, hj8, -, hW⟩ := hC.ex
      have hbu : Below W1.heap.size W1 u := hW
      clear hW
      obtain ⟨d1, d2, d3, d4, d5⟩ := HLD.out u hbu
      refine det_yes rfl ?_
      have HD := Lib.hid hD
      have HC := Lib.hid hC
      clear hD hC
      unfold Oper.wp
      go_simp
      exact hK _ _ ⟨_, _, _, _, _, _, _, _, _, _, _, _, _, _, _, _, rfl, HD.out.step 1 rfl rfl, HC.out.other 1 (by decide), trivial⟩
    · refine det_yes rfl ?_
      have HD := Lib.hid hD
      have HC := Lib.hid hC
      clear hD hC
      unfold Oper.wp
      go_simp
      exact hK _ _ ⟨_, _, _, _, _, _, _, _, _, _, _, _, _, _, _, _, rfl, HD.out.step 2 rfl rfl, HC.out.other 2 (by decide), trivial⟩
    · obtain rfl : x9 = .pointer (some ⟨w.heap.size, 2, none⟩) := hD.get (P := fun v : Value => v = .pointer (some ⟨w.heap.size, 2, none⟩)) 2 (by simp [hdep]) rfl rfl
      obtain ⟨j8, hj8, -, hW⟩ := hC.ex
      have hbu : Below W1.heap.size W1 u := hW
      clear hW
      obtain ⟨d1, d2, d3, d4, d5⟩ := HLD.out u hbu
      refine det_yes rfl ?_
      have HD := Lib.hid hD
      have HC := Lib.hid hC
      clear hD hC
      unfold Oper.wp
      go_simp
      exact hK _ _ ⟨_, _, _, _, _, _, _, _, _, _, _, _, _, _, _, _, rfl, HD.out.step 3 rfl rfl, HC.out.other 3 (by decide), trivial⟩
    · refine det_yes rfl ?_
      have HD := Lib.hid hD
      have HC := Lib.hid hC
      clear hD hC
      unfold Oper.wp
      go_simp
      exact hK _ _ ⟨_, _, _, _, _, _, _, _, _, _, _, _, _, _, _, _, rfl, HD.out.step 4 rfl rfl, HC.out.other 4 (by decide), trivial⟩
    · obtain rfl : x10 = .slice (some ⟨fb, foff, none⟩) y.fs.length cap3 := hD.get (P := fun v : Value => v = .slice (some ⟨fb, foff, none⟩) y.fs.length cap3) 3 (by simp [hdep]) rfl rfl
      obtain rfl : x11 = .int .i64 ((i : Nat) : Int) := hD.get (P := fun v : Value => v = .int .i64 ((i : Nat) : Int)) 4 (by simp [hdep]) rfl rfl
      refine det_yes rfl ?_
      have HD := Lib.hid hD
      have HC := Lib.hid hC
      clear hD hC
      unfold Oper.wp
      go_simp
      exact hK _ _ ⟨_, _, _, _, _, _, _, _, _, _, _, _, _, _, _, _, rfl, HD.out.step 5 rfl rfl, HC.out.other 5 (by decide), trivial⟩
    · obtain rfl : x12 = .pointer (some ⟨fb, foff + i * 4, none⟩) := hD.get (P := fun v : Value => v = .pointer (some ⟨fb, foff + i * 4, none⟩)) 5 (by simp [hdep]) rfl rfl
      refine det_yes rfl ?_
      have HD := Lib.hid hD
      have HC := Lib.hid hC
      clear hD hC
      unfold Oper.wp
      go_simp
      exact hK _ _ ⟨_, _, _, _, _, _, _, _, _, _, _, _, _, _, _, _, rfl, HD.out.step 6 rfl rfl, HC.out.other 6 (by decide), trivial⟩
    · obtain rfl : x13 = .pointer (some ⟨fb, foff + i * 4 + 2, none⟩) := hD.get (P := fun v : Value => v = .pointer (some ⟨fb, foff + i * 4 + 2, none⟩)) 6 (by simp [hdep]) rfl rfl
      obtain ⟨j8, hj8, -, hW⟩ := hC.ex
      have hbu : Below W1.heap.size W1 u := hW
      clear hW
      obtain ⟨d1, d2, d3, d4, d5⟩ := HLD.out u hbu
      refine det_yes rfl ?_
      have HD := Lib.hid hD
      have HC := Lib.hid hC
      clear hD hC
      unfold Oper.wp
      go_simp
      exact hK _ _ ⟨_, _, _, _, _, _, _, _, _, _, _, _, _, _, _, _, rfl, HD.out.step 7 rfl rfl, HC.out.other 7 (by decide), trivial⟩
    · refine det_yes rfl ?_
      have HD := Lib.hid hD
      have HC := Lib.hid hC
      clear hD hC
      unfold Oper.wp
      go_simp
      exact hK _ _ ⟨_, _, _, _, _, _, _, _, _, _, _, _, _, _, _, _, rfl, HD.out.step 8 rfl rfl, HC.out.other 8 (by decide), trivial⟩
    · obtain rfl : x15 = .pointer (some ⟨w.heap.size, 2, none⟩) := hD.get (P := fun v : Value => v = .pointer (some ⟨w.heap.size, 2, none⟩)) 8 (by simp [hdep]) rfl rfl
      obtain ⟨j8, hj8, -, hW⟩ := hC.ex
      have hbu : Below W1.heap.size W1 u := hW
      clear hW
      obtain ⟨d1, d2, d3, d4, d5⟩ := HLD.out u hbu
      refine det_yes rfl ?_
      have HD := Lib.hid hD
      have HC := Lib.hid hC
      clear hD hC
      unfold Oper.wp
      go_simp
      exact hK _ _ ⟨_, _, _, _, _, _, _, _, _, _, _, _, _, _, _, _, rfl, HD.out.step 9 rfl rfl, HC.out.other 9 (by decide), trivial⟩
    · refine det_yes rfl ?_
      have HD := Lib.hid hD
      have HC := Lib.hid hC
      clear hD hC
      unfold Oper.wp
      go_simp
      exact hK _ _ ⟨_, _, _, _, _, _, _, _, _, _, _, _, _, _, _, _, rfl, HD.out.step 10 rfl rfl, HC.out.other 10 (by decide), trivial⟩
    · obtain rfl : x16 = .slice (some ⟨fb, foff, none⟩) y.fs.length cap3 := hD.get (P := fun v : Value => v = .slice (some ⟨fb, foff, none⟩) y.fs.length cap3) 9 (by simp [hdep]) rfl rfl
      obtain rfl : x17 = .int .i64 ((k : Nat) : Int) := hD.get (P := fun v : Value => v = .int .i64 ((k : Nat) : Int)) 10 (by simp [hdep]) rfl rfl
      refine det_yes rfl ?_
      have HD := Lib.hid hD
      have HC := Lib.hid hC
      clear hD hC
      unfold Oper.wp
      go_simp
      exact hK _ _ ⟨_, _, _, _, _, _, _, _, _, _, _, _, _, _, _, _, rfl, HD.out.step 11 rfl rfl, HC.out.other 11 (by decide), trivial⟩
    · obtain rfl : x18 = .pointer (some ⟨fb, foff + k * 4, none⟩) := hD.get (P := fun v : Value => v = .pointer (some ⟨fb, foff + k * 4, none⟩)) 11 (by simp [hdep]) rfl rfl
      refine det_yes rfl ?_
      have HD := Lib.hid hD
      have HC := Lib.hid hC
      clear hD hC
      unfold Oper.wp
      go_simp
      exact hK _ _ ⟨_, _, _, _, _, _, _, _, _, _, _, _, _, _, _, _, rfl, HD.out.step 12 rfl rfl, HC.out.other 12 (by decide), trivial⟩
    · obtain rfl : x19 = .pointer (some ⟨fb, foff + k * 4 + 2, none⟩) := hD.get (P := fun v : Value => v = .pointer (some ⟨fb, foff + k * 4 + 2, none⟩)) 12 (by simp [hdep]) rfl rfl
      obtain ⟨j8, hj8, -, hW⟩ := hC.ex
      have hbu : Below W1.heap.size W1 u := hW
      clear hW
      obtain ⟨d1, d2, d3, d4, d5⟩ := HLD.out u hbu
      refine det_yes rfl ?_
      have HD := Lib.hid hD
      have HC := Lib.hid hC
      clear hD hC
      unfold Oper.wp
      go_simp
      exact hK _ _ ⟨_, _, _, _, _, _, _, _, _, _, _, _, _, _, _, _, rfl, HD.out.step 13 rfl rfl, HC.out.other 13 (by decide), trivial⟩
    · obtain rfl : x8 = .agg #[.slice A1 y.ty.sizes.length cap1, .slice A2 y.ty.cos.length cap2] := hD.get (P := fun v : Value => v = .agg #[.slice A1 y.ty.sizes.length cap1, .slice A2 y.ty.cos.length cap2]) 1 (by simp [hdep]) rfl rfl
      obtain rfl : x14 = .int .i64 RI := hD.get (P := fun v : Value => v = .int .i64 RI) 7 (by simp [hdep]) rfl rfl
      obtain rfl : x20 = .int .i64 RK := hD.get (P := fun v : Value => v = .int .i64 RK) 13 (by simp [hdep]) rfl rfl
      have hW := hC.at_ 0 (by decide) hfi (by intro j9 e9 _; omega)
      refine det_yes rfl ?_
      have HD := Lib.hid hD
      have HC := Lib.hid hC
      clear hD hC
      have hbu : Below W1.heap.size W1 u := hW
      clear hW
      unfold Oper.wp
      go_simp
      refine (HCC.out u hbu).mono ?_
      rintro e u2 ⟨rfl, hb8⟩
      have HW2 : (fun _ u => Below W1.heap.size W1 u) 1 u2 := hbu.trans (hb8.mono hbu.size)
      exact hK _ _ ⟨_, _, _, _, _, _, _, _, _, _, _, _, _, _, _, _, rfl, HD.out.step 14 rfl (by rfl), HC.out.next 0 (by decide) hfi (by intro j9 e9 _; omega) (by decide) HW2, trivial⟩
    · obtain rfl : x21 = .bool CB := hD.get (P := fun v : Value => v = .bool CB) 14 (by simp [hdep]) rfl rfl
      refine det_yes rfl ?_
      have HD := Lib.hid hD
      have HC := Lib.hid hC
      clear hD hC
      unfold Oper.wp
      go_simp
      exact hK _ _ ⟨_, _, _, _, _, _, _, _, _, _, _, _, _, _, _, _, rfl, HD.out.step 15 rfl rfl, HC.out.other 15 (by decide), trivial⟩
  · rintro dn ac u hall ⟨x7, x8, x9, x10, x11, x12, x13, x14, x15, x16, x17, x18, x19, x20, x21, x6, rfl, hD, hC, -⟩
    obtain rfl : x7 = .pointer (some ⟨w.heap.size, 0, none⟩) := hD.get (P := fun v : Value => v = .pointer (some ⟨w.heap.size, 0, none⟩)) 0 (hall 0 (by decide)) rfl rfl
    obtain rfl : x8 = .agg #[.slice A1 y.ty.sizes.length cap1, .slice A2 y.ty.cos.length cap2] := hD.get (P := fun v : Value => v = .agg #[.slice A1 y.ty.sizes.length cap1, .slice A2 y.ty.cos.length cap2]) 1 (hall 1 (by decide)) rfl rfl
    obtain rfl : x9 = .pointer (some ⟨w.heap.size, 2, none⟩) := hD.get (P := fun v : Value => v = .pointer (some ⟨w.heap.size, 2, none⟩)) 2 (hall 2 (by decide)) rfl rfl
    obtain rfl : x10 = .slice (some ⟨fb, foff, none⟩) y.fs.length cap3 := hD.get (P := fun v : Value => v = .slice (some ⟨fb, foff, none⟩) y.fs.length cap3) 3 (hall 3 (by decide)) rfl rfl
    obtain rfl : x11 = .int .i64 ((i : Nat) : Int) := hD.get (P := fun v : Value => v = .int .i64 ((i : Nat) : Int)) 4 (hall 4 (by decide)) rfl rfl
    obtain rfl : x12 = .pointer (some ⟨fb, foff + i * 4, none⟩) := hD.get (P := fun v : Value => v = .pointer (some ⟨fb, foff + i * 4, none⟩)) 5 (hall 5 (by decide)) rfl rfl
    obtain rfl : x13 = .pointer (some ⟨fb, foff + i * 4 + 2, none⟩) := hD.get (P := fun v : Value => v = .pointer (some ⟨fb, foff + i * 4 + 2, none⟩)) 6 (hall 6 (by decide)) rfl rfl
    obtain rfl : x14 = .int .i64 RI := hD.get (P := fun v : Value => v = .int .i64 RI) 7 (hall 7 (by decide)) rfl rfl
    obtain rfl : x15 = .pointer (some ⟨w.heap.size, 2, none⟩) := hD.get (P := fun v : Value => v = .pointer (some ⟨w.heap.size, 2, none⟩)) 8 (hall 8 (by decide)) rfl rfl
    obtain rfl : x16 = .slice (some ⟨fb, foff, none⟩) y.fs.length cap3 := hD.get (P := fun v : Value => v = .slice (some ⟨fb, foff, none⟩) y.fs.length cap3) 9 (hall 9 (by decide)) rfl rfl
    obtain rfl : x17 = .int .i64 ((k : Nat) : Int) := hD.get (P := fun v : Value => v = .int .i64 ((k : Nat) : Int)) 10 (hall 10 (by decide)) rfl rfl
    obtain rfl : x18 = .pointer (some ⟨fb, foff + k * 4, none⟩) := hD.get (P := fun v : Value => v = .pointer (some ⟨fb, foff + k * 4, none⟩)) 11 (hall 11 (by decide)) rfl rfl
    obtain rfl : x19 = .pointer (some ⟨fb, foff + k * 4 + 2, none⟩) := hD.get (P := fun v : Value => v = .pointer (some ⟨fb, foff + k * 4 + 2, none⟩)) 12 (hall 12 (by decide)) rfl rfl
    obtain rfl : x20 = .int .i64 RK := hD.get (P := fun v : Value => v = .int .i64 RK) 13 (hall 13 (by decide)) rfl rfl
    obtain rfl : x21 = .bool CB := hD.get (P := fun v : Value => v = .bool CB) 14 (hall 14 (by decide)) rfl rfl
    obtain rfl : x6 = .bool CB := hD.get (P := fun v : Value => v = .bool CB) 15 (hall 15 (by decide)) rfl rfl
    have hW := hC.all (by intro j9 h9; exact hall _ (by revert j9; decide))
    clear hall hD hC
    have HBU : Hid (Below w.heap.size w u) := HB1.out.trans ((show Below W1.heap.size W1 u from hW).mono HB1.out.size)
    clear hW
    go_wp2
    go_ret
    exact ⟨rfl, HBU.out⟩
end Go.Proofs.YtnmbjmocnafekaaGreatDoor

namespace Go.Proofs.YtnmbjmocnafekaaGreatDoor
open Go.RowKit Go.Maps

set_option maxRecDepth 100000 in
set_option maxHeartbeats 4000000 in
theorem implNamed_any (lo hi : Nat) (sv cv fv : Value) (y : Sy) (nm : ByteArray) (a : Int) (w : World) (hv : SyAt w lo hi sv cv fv y) (hB : hi ≤ w.heap.size) (hbk : y.bulk ≤ 1048576) (hnm : nm.size ≤ maxLen) :
    Calls Tryz.prog 99 #[.agg #[sv, cv, fv], .string nm, .int .i64 a] w fun e w' => ∃ v, e = .returned v ∧ Below w.heap.size w w' ∧ w'.ownsRow w.heap.size 3 1 v (namedV y nm a).length ((namedV y nm a).map (Value.int .i64)) := by
  obtain ⟨A, cap, rfl, hl1, hm1, hi1⟩ := hv.1.1.form
  obtain ⟨B, bap, rfl, hl2, hm2, hc1⟩ := hv.1.2.form
  obtain ⟨F, fap, rfl, hl3, hm3, hf1⟩ := hv.2.form
  unfold maxLen at hm3
  obtain ⟨i0, hi0, hz0, hz1, hz2⟩ := info_parts Tryz.infoInt
  have hn : y.fs.length ≤ 1048576 := by unfold Sy.bulk at hbk; omega
  have h3 : Below w.heap.size w (w.alloc (.cells #[.slice A y.ty.sizes.length cap, .slice B y.ty.cos.length bap, .slice F y.fs.length fap] 36)) := by go_grown
  have H1 := Lib.hid (Below.refl (w.heap.size + 1) (w.alloc (.cells #[.slice A y.ty.sizes.length cap, .slice B y.ty.cos.length bap, .slice F y.fs.length fap] 36)))
  have Hv := Lib.hid hv
  have Hf := Lib.hid hf1
  have Hnm := Lib.hid hnm
  clear hi1 hc1 hf1 hv hnm
  go_enter Tryz.func99, Tryz.ntmps99
  go_wp2_with fail
  refine (implSysValid_any lo hi _ _ _ y _ (Hv.out.below h3 hB) (by simp; omega)).mono ?_
  rintro e w1 ⟨rfl, hb1⟩
  have H2 := Lib.hid (H1.out.trans (hb1.mono (by simp)))
  obtain ⟨q0, q1, q2, hl, hB1⟩ := box3 H2.out
  have HB1 := Lib.hid hB1
  clear hb1 h3 hB1 H1
  by_cases hs : syB y = true
  case neg =>
    have hsf : syB y = false := by simpa using hs
    have hfin : Hid (namedV y nm a = []) := by show _ = _; unfold namedV; rw [if_neg hs]
    rw [hsf]
    clear hs
    go_wp2
    go_ret
    refine ⟨_, rfl, HB1.out, ?_⟩
    rw [hfin.out]
    exact World.ownsRow_nil _ _ _ _
  have hfin : Hid (namedV y nm a = nmT y.fs nm a y.fs.length) := by show _ = _; unfold namedV; rw [if_pos hs]
  rw [hs]
  clear hs
  go_wp2_with fail
  refine (indicesByName_any lo hi _ y.fs w1 (Hf.out.below HB1.out hB) (by omega) hn).mono ?_
  rintro e w3 ⟨D, rfl, hb3, hgrp, hown⟩
  have q2' := (hb3.cell (p := ⟨w.heap.size, 2, none⟩) hl).trans q2
  obtain ⟨v, zs, hlk0, hat, hoi, _, _⟩ := groups_look hown lawStr Tryz.underlying195 zeroInts (by unfold maxLen; omega) (kN_key Hnm.out)
  have hlk := hlk0 w3 rfl
  have hzs := hgrp.look Hnm.out hoi hat
  have hzi := ints_of_owns hoi
  obtain ⟨Z, zap, rfl, hlz, hmz, hz1'⟩ := hzi.form
  have Hzi := Lib.hid hz1'
  have Hzs := Lib.hid hzs
  have HB3 := Lib.hid (HB1.out.trans (hb3.mono HB1.out.size))
  have hl3 : w.heap.size < w3.heap.size := Nat.lt_of_lt_of_le hl hb3.size
  have Q2 := Lib.hid q2'
  have hzl : zs.length ≤ y.fs.length := by rw [hzs]; exact idxs_len _ _ _
  unfold maxLen at hmz
  clear hb3 hgrp hown hlk0 hat hoi hzi hz1' hzs q0 q1 q2 q2'
  go_wp2
  clear hlk
  go_loopw [7, 19] (fun l i wr => ∃ j : Nat, j ≤ zs.length ∧ i = .int .i64 j ∧ Hid (Below w3.heap.size w3 wr) ∧ Hid (wr.ownsRow w3.heap.size 3 1 l (withA y.fs a (zs.take j)).length ((withA y.fs a (zs.take j)).map (Value.int .i64)))) (fun _ i _ => zs.length - (intOf i).toNat)
  case atStart => exact ⟨0, Nat.zero_le _, rfl, Below.refl _ _, World.ownsRow_nil _ _ _ _⟩
  case round =>
    obtain ⟨j, hj, rfl, hb, hown⟩ := hrel
    have hbs := hb.out.size
    have HbW : Hid (Below w.heap.size w wr) := HB3.out.trans (hb.out.mono HB3.out.size)
    by_cases hlt : j < zs.length
    · obtain ⟨gz, oz, rfl, _, _, cz, _⟩ := (Hzi.out.below hb.out (Nat.le_refl _)).at_ hlt
      obtain ⟨i, hi', hni, ei⟩ := idxs_mem.1 (show zs[j] ∈ idxs y.fs y.fs.length nm by rw [← Hzs.out]; exact List.getElem_mem hlt)
      rw [ei] at cz
      have Hei := Lib.hid ei
      have p2 := (hb.out.cell (p := ⟨w.heap.size, 2, none⟩) hl3).trans Q2.out
      have hlw : w.heap.size < wr.heap.size := by omega
      obtain ⟨b, off, A1, cap1, A2, cap2, rfl, hlo, hhi, c0, c1, c2, c3, _, _, _, _, _⟩ := (Hf.out.below HbW.out hB).at_ hi'
      have hiI : (i : Int) < (y.fs.length : Int) := by omega
      have hle : (withA y.fs a (zs.take j)).length ≤ j := Nat.le_trans (withA_le _ _ _) (by rw [List.length_take]; omega)
      have hbw : b < wr.heap.size := by have := HbW.out.size; omega
      have Hg : Hid ((y.fs.getD zs[j].toNat default).args = y.fs[i].args) := by show _ = _; rw [Hei.out, Int.toNat_natCast, getD_of hi']
      clear ei hni c0 c2 c3
      by_cases hq : ((y.fs[i].args.length : Nat) : Int) = a
      · have hh := Lib.hid (withA_hit (fs := y.fs) (a := a) hlt (by rw [Hg.out]; exact hq))
        have htest : ((y.fs[i].args.length : Int) == a) = true := by simpa using hq
        clear hq
        go_wp2_with (at_builtin; refine wpList_append_own _ rfl (.tmp 32) (.tmp 34) 22 rfl w3.heap.size 3 i0 (.int .i64 0) 1 8 Tryz.underlying22 hi0 hz0 hz1 hz2 rfl (by decide) _ _ _ rfl (hown.out.alloc _) ⟨wr.heap.size, 0, none⟩ 1 1 [.int .i64 i] rfl rfl ?c1 ?c2 ?c3 ?c4 ?c5 ?_)
        case c1 =>
          intro n u hi
          match n, hi with
          | 0, hi => simp at hi; subst hi; simp [Addr.add]
        case c2 => intro u hu; simp at hu; subst hu; rfl
        case c3 => unfold maxLen; omega
        case c4 => omega
        case c5 => simp; omega
        intro v' w2 hown2 hgrow _
        have hb2 : Below w3.heap.size w3 w2 := (hb.out.alloc (by omega) _).grown hgrow (by simp; omega) (fun k hk => by
          obtain ⟨_, ⟨e, _⟩ | ⟨g, cap3, cur, e, hg, _⟩⟩ := hown.out
          · rw [e] at hk; simp [Value.ownBlock] at hk
          · rw [e] at hk; simp [Value.ownBlock] at hk; omega)
        have Hb2 := Lib.hid hb2
        have Hown2 := Lib.hid hown2
        clear hown2 hgrow hb2
        go_wp2
        go_roundw
        case rel => exact ⟨j + 1, by omega, by go_num, Hb2.out, ownsRow_cast Hown2.out (by rw [hh.out]; simp) (by rw [hh.out, Hei.out]; simp)⟩
        case measure => simp [intOf]; omega
      · have hh := Lib.hid (withA_miss (fs := y.fs) (a := a) hlt (by rw [Hg.out]; exact hq))
        have htest : ((y.fs[i].args.length : Int) == a) = false := by simpa using hq
        clear hq
        go_wp2
        go_roundw
        case rel => exact ⟨j + 1, by omega, by go_num, hb.out, by rw [hh.out]; exact hown.out⟩
        case measure => simp [intOf]; omega
    · obtain rfl : j = zs.length := by omega
      go_wp2
      go_ret
      refine ⟨_, rfl, HbW.out, ?_⟩
      have e : namedV y nm a = withA y.fs a (zs.take zs.length) := by rw [List.take_length, Hzs.out, withA_idxs, hfin.out]
      rw [e]
      exact ownsRow_base hown.out (by omega)
end Go.Proofs.YtnmbjmocnafekaaGreatDoor

