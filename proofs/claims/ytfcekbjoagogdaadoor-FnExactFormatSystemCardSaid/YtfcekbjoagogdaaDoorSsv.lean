/-
  The contract of the model's SystemValid.
-/
import Derived.Test.YtfcekbjoagogdaaDoorSfu
import Derived.Test.YtfcekbjoagogdaaDoorSame
import Derived.Test.YtfcekbjoagogdaaDoorGrp
namespace Go.Proofs.YtfcekbjoagogdaaDoor
open Go.RowKit

set_option maxRecDepth 100000 in
set_option maxHeartbeats 4000000 in
theorem specSysValid_any (lo hi : Nat) (sv cv fv : Value) (y : Sy) (w : World) (hv : SyAt w lo hi sv cv fv y) (hB : hi ≤ w.heap.size) :
    Calls Tryd.prog 59 #[.agg #[sv, cv, fv]] w fun e w' => e = .returned (.bool (syB y)) ∧ Below w.heap.size w w' := by
  obtain ⟨hty, hfs⟩ := hv
  obtain ⟨A, cap, rfl, hl1, hm1, hi1⟩ := hty.1.form
  obtain ⟨B, bap, rfl, hl2, hm2, hc1⟩ := hty.2.form
  obtain ⟨F, fap, rfl, hl3, hm3, hf1⟩ := hfs.form
  unfold maxLen at hm1 hm2 hm3
  have h3 : Below w.heap.size w (w.alloc (.cells #[.slice A y.ty.sizes.length cap, .slice B y.ty.cos.length bap, .slice F y.fs.length fap] 45)) := by go_grown
  have Hty := Lib.hid (show TyAt w lo hi (.slice A y.ty.sizes.length cap) (.slice B y.ty.cos.length bap) y.ty from ⟨hi1, hc1⟩)
  have Hf1 := Lib.hid hf1
  clear hty hfs hi1 hc1 hf1
  have H1 := Lib.hid (Below.refl (w.heap.size + 1) (w.alloc (.cells #[.slice A y.ty.sizes.length cap, .slice B y.ty.cos.length bap, .slice F y.fs.length fap] 45)))
  go_enter Tryd.func59, Tryd.ntmps59
  go_wp2_with fail
  refine (specValid_any lo hi _ _ y.ty _ (Hty.out.below h3 hB) (by simp; omega)).mono ?_
  rintro e w1 ⟨rfl, hb1⟩
  have H2 := Lib.hid (H1.out.trans (hb1.mono (by simp)))
  obtain ⟨q0, q1, q2, hl, hB1⟩ := box3 H2.out
  have HB1 := Lib.hid hB1
  clear hb1 h3 hB1 H1
  by_cases c1 : tyOk y.ty = true
  case neg =>
    have H : Hid (syB y = false) := syB_no fun h => c1 h.ty
    have c1f : tyOk y.ty = false := by simpa using c1
    rw [c1f]
    clear c1
    go_wp2
    go_ret
    exact ⟨ret_bool H.out.symm, HB1.out⟩
  have hok := Lib.hid (tyOk_sizes c1)
  have C1 := Lib.hid c1
  rw [c1]
  clear c1
  by_cases c2 : y.fs.length ≤ 8
  case neg =>
    have H : Hid (syB y = false) := syB_no fun h => c2 h.few
    have hd : decide ((8 : Int) < (y.fs.length : Int)) = true := by simp; omega
    go_wp2
    go_ret
    exact ⟨ret_bool H.out.symm, HB1.out⟩
  have hd : decide ((8 : Int) < (y.fs.length : Int)) = false := by simp; omega
  have C2 := Lib.hid c2
  go_wp2
  clear hd
  go_loopw [20] (fun i wr => ∃ k : Nat, k ≤ y.fs.length ∧ i = .int .i64 k ∧ Hid (Below (w.heap.size + 1) w1 wr) ∧ Hid (∀ j, j < k → ∀ (hj : j < y.fs.length), FuOk y.ty.sizes y.fs[j]) ∧
    Hid (∀ i j : Nat, i < k → j < i → ¬ ((y.fs.getD i default).name = (y.fs.getD j default).name ∧ (y.fs.getD i default).args = (y.fs.getD j default).args))) (fun i _ => y.fs.length - (intOf i).toNat)
  case atStart => exact ⟨0, Nat.zero_le _, rfl, Below.refl _ _, fun j hj => absurd hj (by omega), fun i j hi => absurd hi (by omega)⟩
  case round =>
    obtain ⟨k, hk, rfl, hbr, hok2, hdf⟩ := hrel
    have hbo : Below w.heap.size w wr := HB1.out.trans (hbr.out.mono (by omega))
    have hcl : ∀ o, wr.cell? ⟨w.heap.size, o, none⟩ = w1.cell? ⟨w.heap.size, o, none⟩ := fun o => hbr.out.cell (p := ⟨w.heap.size, o, none⟩) (by dsimp only; omega)
    have p0 := (hcl 0).trans q0
    have p1 := (hcl 1).trans q1
    have p2 := (hcl 2).trans q2
    have hlr : w.heap.size < wr.heap.size := Nat.lt_of_lt_of_le hl hbr.out.size
    clear hcl
    by_cases hkl : k < y.fs.length
    · obtain ⟨b, off, A1, cap1, A2, cap2, rfl, _, _, d0, d1, d2, d3, _, _, _, _, hfu⟩ := (Hf1.out.below hbo hB).at_ hkl
      have Hfu := Lib.hid hfu
      have HT4 := Lib.hid (Hty.out.below hbo hB)
      have Hbo := Lib.hid hbo
      clear hfu hbo
      by_cases hin : fuB y.ty.sizes y.fs[k] = true
      case neg =>
        have hinf : fuB y.ty.sizes y.fs[k] = false := by simpa using hin
        have H : Hid (syB y = false) := syB_no fun h => hin (fuB_yes (h.each k hkl))
        clear hin
        go_wp2_with fail
        refine (l4Function_any lo hi lo hi _ _ _ _ _ _ y.ty y.fs[k] (wr.alloc (.cells #[.string y.fs[k].name, .slice A1 y.fs[k].args.length cap1, .int .i64 y.fs[k].res, .slice A2 y.fs[k].table.length cap2] 84)) (HT4.out.below ((Below.refl _ _).alloc (Nat.le_refl _) _) (by omega)) (Hfu.out.below ((Below.refl _ _).alloc (Nat.le_refl _) _) (by omega)) (by simp; omega) (by simp; omega) hok.out).mono ?_
        rintro e w' ⟨rfl, hbb⟩
        have Hbb := Lib.hid hbb
        clear hbb
        rw [hinf]
        go_wp2
        go_ret
        exact ⟨ret_bool H.out.symm, (Hbo.out.alloc (by omega) _).trans (Hbb.out.mono (by simp; omega))⟩
      have hin' := Lib.hid (fuB_iff.1 hin)
      go_wp2_with fail
      refine (l4Function_any lo hi lo hi _ _ _ _ _ _ y.ty y.fs[k] (wr.alloc (.cells #[.string y.fs[k].name, .slice A1 y.fs[k].args.length cap1, .int .i64 y.fs[k].res, .slice A2 y.fs[k].table.length cap2] 84)) (HT4.out.below ((Below.refl _ _).alloc (Nat.le_refl _) _) (by omega)) (Hfu.out.below ((Below.refl _ _).alloc (Nat.le_refl _) _) (by omega)) (by simp; omega) (by simp; omega) hok.out).mono ?_
      rintro e w5 ⟨rfl, hb5⟩
      have hsx : (wr.alloc (.cells #[.string y.fs[k].name, .slice A1 y.fs[k].args.length cap1, .int .i64 y.fs[k].res, .slice A2 y.fs[k].table.length cap2] 84)).heap.size = wr.heap.size + 1 := by simp
      have hrk : Row w5 wr.heap.size 84 [.string y.fs[k].name, .slice A1 y.fs[k].args.length cap1, .int .i64 y.fs[k].res, .slice A2 y.fs[k].table.length cap2] := (Row.new wr _ _).below hb5 (by rw [hsx]; omega)
      have hb05 : Below (w.heap.size + 1) w1 w5 := (hbr.out.alloc (by omega) _).trans (hb5.mono (by rw [hsx]; omega))
      have Hrk := Lib.hid hrk
      have Hfu5 : Hid (IntsAt w5 lo hi (.slice A1 y.fs[k].args.length cap1) y.fs[k].args) := (Hfu.out.2.2.2.2.1.below ((Below.refl _ _).alloc (Nat.le_refl _) _) (by omega)).below hb5 (by rw [hsx]; omega)
      have Hb05 := Lib.hid hb05
      have h5s : wr.heap.size < w5.heap.size := hrk.lt
      have r0 := (hb05.cell (p := ⟨w.heap.size, 2, none⟩) (by dsimp only; omega)).trans q2
      have HbrS := Lib.hid hbr.out.size
      rw [hin]
      clear hb5 hrk hb05 hsx hin p0 p1 p2 d0 d1 d2 d3
      go_wp2
      obtain ⟨N, hN⟩ : ∃ N, N = wr.heap.size := ⟨_, rfl⟩
      rw [← hN] at h5s Hrk HbrS hlr ⊢
      clear hN
      go_loopw [35] (fun q wr => ∃ j : Nat, j ≤ k ∧ q = .int .i64 j ∧ Hid (Below w5.heap.size w5 wr) ∧ Hid (∀ i : Nat, i < j → ¬ ((y.fs.getD k default).name = (y.fs.getD i default).name ∧ (y.fs.getD k default).args = (y.fs.getD i default).args))) (fun q _ => k - (intOf q).toNat)
      case atStart => exact ⟨0, Nat.zero_le _, rfl, Below.refl _ _, fun i hi => absurd hi (by omega)⟩
      case round =>
        obtain ⟨j, hj, rfl, hb5, hd5⟩ := hrel
        have Hb0 : Hid (Below w.heap.size w wr) := HB1.out.trans ((Hb05.out.mono (by omega)).trans (hb5.out.mono (by omega)))
        have s0 := (Hrk.out.below hb5.out h5s).cell 0
        have s1 := (Hrk.out.below hb5.out h5s).cell 1
        have hs5 := hb5.out.size
        have hNw : N < wr.heap.size := by omega
        simp only [List.getElem?_cons_zero, List.getElem?_cons_succ] at s0 s1
        by_cases hjk : j < k
        · have hjl : j < y.fs.length := by omega
          obtain ⟨b', off', A3, cap3, A4, cap4, eF, _, _, d0, d1, d2, d3, _, _, _, _, hfj⟩ := (Hf1.out.below Hb0.out hB).at_ hjl
          obtain ⟨rfl, rfl⟩ : b = b' ∧ off = off' := by simpa using eF
          have Hfj := Lib.hid hfj
          have hjkI : (j : Int) < (k : Int) := by omega
          clear hfj eF
          have HgetK : Hid (y.fs.getD k default = y.fs[k]) := getD_of hkl
          have HgetJ : Hid (y.fs.getD j default = y.fs[j]) := getD_of hjl
          by_cases he : y.fs[k].name = y.fs[j].name
          · have hnm : y.fs[k].name.toList = y.fs[j].name.toList := by rw [he]
            have He := Lib.hid he
            clear he
            go_wp2_with fail
            refine (l3Same_any lo hi lo hi _ _ y.fs[k].args y.fs[j].args _ ((Hfu5.out.below hb5.out (by have := Hb05.out.size; omega)).below ((Below.refl _ _).alloc (Nat.le_refl _) _) (by omega)) (Hfj.out.2.2.2.2.1.below ((Below.refl _ _).alloc (Nat.le_refl _) _) (by omega)) (by simp; omega) (by simp; omega)).mono ?_
            rintro e w' ⟨rfl, hbb⟩
            have Hbb := Lib.hid ((hb5.out.alloc hs5 _).trans (hbb.mono (by simp; omega)))
            clear hbb
            by_cases ha : y.fs[k].args = y.fs[j].args
            · have H : Hid (syB y = false) := syB_no fun h => h.differ k j hkl hjk (by rw [HgetK.out, HgetJ.out]; exact ⟨He.out, ha⟩)
              rw [decide_eq_true ha]
              clear ha
              go_wp2
              go_ret
              exact ⟨ret_bool H.out.symm, HB1.out.trans ((Hb05.out.mono (by omega)).trans (Hbb.out.mono (by omega)))⟩
            · have hd6 : Hid (∀ i : Nat, i < j + 1 → ¬ ((y.fs.getD k default).name = (y.fs.getD i default).name ∧ (y.fs.getD k default).args = (y.fs.getD i default).args)) := fun i hi2 => by
                by_cases e : i = j
                · subst e; rw [HgetK.out, HgetJ.out]; exact fun h => ha h.2
                · exact hd5.out i (by omega)
              rw [decide_eq_false ha]
              clear ha
              go_wp2
              go_roundw
              case rel => exact ⟨j + 1, by omega, by go_num, Hbb.out, hd6⟩
              case measure => simp [intOf]; omega
          · have hnm : ¬ y.fs[k].name.toList = y.fs[j].name.toList := fun h => he (bytes_eq h)
            have hd6 : Hid (∀ i : Nat, i < j + 1 → ¬ ((y.fs.getD k default).name = (y.fs.getD i default).name ∧ (y.fs.getD k default).args = (y.fs.getD i default).args)) := fun i hi2 => by
              by_cases e : i = j
              · subst e; rw [HgetK.out, HgetJ.out]; exact fun h => he h.1
              · exact hd5.out i (by omega)
            clear he
            go_wp2
            go_roundw
            case rel => exact ⟨j + 1, by omega, by go_num, hb5.out.alloc hs5 _, hd6⟩
            case measure => simp [intOf]; omega
        · obtain rfl : j = k := by omega
          have hd6 : Hid (∀ i i' : Nat, i < j + 1 → i' < i → ¬ ((y.fs.getD i default).name = (y.fs.getD i' default).name ∧ (y.fs.getD i default).args = (y.fs.getD i' default).args)) := fun i i' h1 h2 => by
            by_cases e : i = j
            · subst e; exact hd5.out i' h2
            · exact hdf.out i i' (by omega) h2
          have hok6 : Hid (∀ i, i < j + 1 → ∀ (hi2 : i < y.fs.length), FuOk y.ty.sizes y.fs[i]) := fun i h1 h2 => by
            by_cases e : i = j
            · subst e; exact hin'.out
            · exact hok2.out i (by omega) h2
          have hb6 : Hid (Below (w.heap.size + 1) w1 wr) := Hb05.out.trans (hb5.out.mono (by have := Hb05.out.size; omega))
          go_wp2
          go_roundw
          case rel => exact ⟨j + 1, by omega, by go_num, hb6.out, hok6, hd6⟩
          case measure => simp [intOf]; omega
    · obtain rfl : k = y.fs.length := by omega
      have H : Hid (syB y = true) := syB_yes ⟨C1.out, C2.out, fun i hi => hok2.out i hi hi, hdf.out⟩
      go_wp2
      go_ret
      exact ⟨ret_bool H.out.symm, hbo⟩
end Go.Proofs.YtfcekbjoagogdaaDoor
