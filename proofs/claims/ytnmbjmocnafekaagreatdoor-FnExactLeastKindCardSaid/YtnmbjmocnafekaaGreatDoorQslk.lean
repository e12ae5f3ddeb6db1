/-
  The contract of the model's LeastKind, where that of KindsOf is given.
-/
import Derived.Test.YtnmbjmocnafekaaGreatDoorE14
import Derived.Test.YtnmbjmocnafekaaGreatDoorQilk
import Derived.Test.YtnmbjmocnafekaaGreatDoorE19
import Derived.WalkMore
import Derived.Deep.LoopGhost
namespace Go.Proofs.YtnmbjmocnafekaaGreatDoor
open Go.RowKit

set_option maxRecDepth 100000 in
set_option maxHeartbeats 1000000 in
theorem specLeastK_any (lo hi : Nat) (sv cv fv : Value) (y : Sy) (Z : ByteArray) (ks : List Int) (w : World) (hv : SyAt w lo hi sv cv fv y) (hB : hi ≤ w.heap.size) (hks : ∀ z ∈ ks, 0 ≤ z ∧ z < 5 ∧ tyOk y.ty = true ∧ z < y.ty.sizes.length) (hkl : ks.length ≤ 5)
    (HK0 : ∀ u : World, Below w.heap.size w u → Calls Tryz.prog 25 #[.agg #[sv, cv, fv], .string Z] u fun e w' => ∃ v, e = .returned v ∧ Below u.heap.size u w' ∧ w'.ownsRow u.heap.size 3 1 v ks.length (ks.map (Value.int .i64))) :
    Calls Tryz.prog 30 #[.agg #[sv, cv, fv], .string Z] w fun e w' => e = .returned (.int .i64 (lstK (canB y.ty) ks)) ∧ Below w.heap.size w w' := by
  obtain ⟨A1, cap1, rfl, _, _, _⟩ := hv.1.1.form
  obtain ⟨A2, cap2, rfl, _, _, _⟩ := hv.1.2.form
  obtain ⟨A3, cap3, rfl, _, _, _⟩ := hv.2.form
  have hb1 : Below w.heap.size w (w.alloc (.cells #[.slice A1 y.ty.sizes.length cap1, .slice A2 y.ty.cos.length cap2, .slice A3 y.fs.length cap3] 36)) := (Below.refl _ _).alloc (Nat.le_refl _) _
  have HT := Lib.hid (HK0 _ hb1)
  have HR1 := Lib.hid (Row.new w 36 [.slice A1 y.ty.sizes.length cap1, .slice A2 y.ty.cos.length cap2, .slice A3 y.fs.length cap3])
  have HB1 := Lib.hid hb1
  have HV := Lib.hid hv
  have HKS := Lib.hid hks
  have hs1 : w.heap.size + 1 = (w.alloc (.cells #[.slice A1 y.ty.sizes.length cap1, .slice A2 y.ty.cos.length cap2, .slice A3 y.fs.length cap3] 36)).heap.size := by rw [World.size_alloc]
  have Hs1 := Lib.hid hs1
  clear hv HK0 hb1 hs1 hks
  go_enter Tryz.func30, Tryz.ntmps30
  go_wp2
  go_step3
  go_wp2_with fail
  refine HT.out.mono ?_
  rintro e w2 ⟨v, rfl, hb2, hown⟩
  rw [← Hs1.out] at hb2 hown
  have HB2 : Hid (Below w.heap.size w w2) := HB1.out.trans (hb2.mono (by omega))
  have hs2 : w.heap.size + 1 ≤ w2.heap.size := by have := hb2.size; rw [← Hs1.out] at this; exact this
  have hr2 := HR1.out.below hb2 (by omega)
  have HR2 := Lib.hid hr2
  have HO2 := Lib.hid hown
  obtain ⟨KA, KC, rfl⟩ := own_slice' hown
  clear hb2 hown HT HR1 hr2
  go_wp2
  go_step3
  go_wp2
  go_loopg [15] ks.length (fun gk ix wr => ∃ k : Nat, k + gk = ks.length ∧ ix = .int .i64 k ∧ Hid (Below w2.heap.size w2 wr) ∧ Hid (lstK (canB y.ty) ks = lstK2 (canB y.ty) ks (ks.drop k)))
  case atStart => exact ⟨0, by omega, rfl, Below.refl _ _, rfl⟩
  case round =>
    obtain ⟨k, hkg, rfl, hbr, hfin⟩ := hrel
    obtain ⟨wq, rfl⟩ : ∃ u, u = wr := ⟨_, rfl⟩
    have hsr := hbr.out.size
    cases gk with
    | zero =>
      obtain rfl : k = ks.length := by omega
      have HF : Hid (lstK (canB y.ty) ks = -1) := by
        show _ = _
        rw [hfin.out, List.drop_length]
        rfl
      have HBW : Hid (Below w.heap.size w wq) := HB2.out.trans (hbr.out.mono (by omega))
      go_wp2
      try rw [Exit.noGoto_ret]
      refine bodyPost_ret (v := .int .i64 (-1)) (by simp [results, Tryz.results30, go_sem]) rfl ?_
      exact ⟨by rw [HF.out], HBW.out⟩
    | succ g2 =>
      have hkl2 : k < ks.length := by omega
      obtain ⟨g, hKA, hg3, hgw, _, hcells⟩ := own_cells HO2.out (by omega)
      have HCL : Hid (∀ j, ∀ (hj : j < ks.length) (u : World), Below w2.heap.size w2 u → u.cell? ⟨g, j, none⟩ = some (.int .i64 ks[j])) := fun j hj u hu => (hu.cell (p := ⟨g, j, none⟩) hgw).trans ((hcells j hj).trans (by simp [hj]))
      subst hKA
      have c0 := HCL.out k hkl2 wq hbr.out
      have hkI : (k : Int) < (ks.length : Int) := by omega
      have HZK := Lib.hid (HKS.out _ (List.getElem_mem hkl2))
      have hdrop := List.drop_eq_getElem_cons hkl2
      have HDR := Lib.hid hdrop
      obtain ⟨ZK, hZK⟩ : ∃ z, z = ks[k] := ⟨_, rfl⟩
      rw [← hZK] at c0 HZK HDR
      clear hdrop hcells hZK
      go_wp2_with fail
      clear c0
      go_loopg [21] ks.length (fun gi ix wi => ∃ j : Nat, j + gi = ks.length ∧ ix = .int .i64 j ∧ Hid (Below w2.heap.size w2 wi) ∧ Hid ((ks.all fun o => canB y.ty ZK o) = ((ks.drop j).all fun o => canB y.ty ZK o)))
      case atStart => exact ⟨0, by omega, rfl, hbr.out, rfl⟩
      case round =>
        obtain ⟨j, hjg, rfl, hbi, hall⟩ := hrel
        obtain ⟨wi, rfl⟩ : ∃ u, u = wr := ⟨_, rfl⟩
        have hsi := hbi.out.size
        cases gk with
        | zero =>
          obtain rfl : j = ks.length := by omega
          have HF : Hid (lstK (canB y.ty) ks = ZK) := by
            show _ = _
            rw [hfin.out, HDR.out, lstK2_yes]
            rw [hall.out, List.drop_length]
            rfl
          have HBW : Hid (Below w.heap.size w wi) := HB2.out.trans (hbi.out.mono (by omega))
          go_wp2
          try rw [Exit.noGoto_ret]
          refine bodyPost_ret (v := .int .i64 ZK) (by simp [results, Tryz.results30, go_sem]) rfl ?_
          exact ⟨by rw [HF.out], HBW.out⟩
        | succ g3 =>
          have hjl : j < ks.length := by omega
          have c1 := HCL.out j hjl wi hbi.out
          have hjI : (j : Int) < (ks.length : Int) := by omega
          have HZJ := Lib.hid (HKS.out _ (List.getElem_mem hjl))
          have hdj := List.drop_eq_getElem_cons hjl
          have HDJ := Lib.hid hdj
          obtain ⟨ZJ, hZJ⟩ : ∃ z, z = ks[j] := ⟨_, rfl⟩
          rw [← hZJ] at c1 HZJ HDJ
          have hrw := HR2.out.below hbi.out (by omega)
          have q0 := hrw.cell 0
          have q1 := hrw.cell 1
          simp only [List.getElem?_cons_zero, List.getElem?_cons_succ] at q0 q1
          have HC := Lib.hid (l2Can_any lo hi _ _ y.ty ZK ZJ wi (HV.out.below (HB2.out.trans (hbi.out.mono (by omega))) hB).1 (by omega) (tb_in HZK.out.2.2.1 ⟨HZK.out.1, HZK.out.2.2.2⟩ ⟨HZJ.out.1, HZJ.out.2.2.2⟩))
          obtain ⟨cb, hcb⟩ : ∃ b, b = canB y.ty ZK ZJ := ⟨_, rfl⟩
          skip
          rw [← hcb] at HC
          have HCB := Lib.hid hcb
          clear hdj hZJ hrw hcb
          go_wp2_with fail
          refine HC.out.mono ?_
          rintro e w5 ⟨rfl, hb5⟩
          have HB5 : Hid (Below w2.heap.size w2 w5) := hbi.out.trans (hb5.mono hsi)
          clear HC c1 q0 q1 hb5
          cases cb with
          | true =>
            have HA : Hid ((ks.all fun o => canB y.ty ZK o) = ((ks.drop (j + 1)).all fun o => canB y.ty ZK o)) := by
              show _ = _
              rw [hall.out, HDJ.out, List.all_cons, ← HCB.out, Bool.true_and]
            go_wp2
            go_roundg g3
            case measure => omega
            case rel => exact ⟨j + 1, by omega, by go_num, HB5.out, HA.out⟩
          | false =>
            have HF : Hid (lstK (canB y.ty) ks = lstK2 (canB y.ty) ks (ks.drop (k + 1))) := by
              show _ = _
              rw [hfin.out, HDR.out, lstK2_no]
              rw [hall.out, HDJ.out, List.all_cons, ← HCB.out, Bool.false_and]
            go_wp2
            go_roundg g2
            case measure => omega
            case rel => exact ⟨k + 1, by omega, by go_num, HB5.out, HF.out⟩
end Go.Proofs.YtnmbjmocnafekaaGreatDoor

