/-
  The contract of the program's SystemValid.
-/
import Derived.Test.YtfcekbjoagogdaaDoorCd
import Derived.Test.YtfcekbjoagogdaaDoorFit
import Derived.Test.YtfcekbjoagogdaaDoorIt
import Derived.Test.YtfcekbjoagogdaaDoorHas
namespace Go.Proofs.YtfcekbjoagogdaaDoor
open Go.RowKit

set_option maxRecDepth 100000 in
set_option maxHeartbeats 4000000 in
theorem implSysValid_any (lo hi : Nat) (sv cv fv : Value) (y : Sy) (w : World) (hv : SyAt w lo hi sv cv fv y) (hB : hi ≤ w.heap.size) :
    Calls Tryd.prog 60 #[.agg #[sv, cv, fv]] w fun e w' => e = .returned (.bool (syB y)) ∧ Below w.heap.size w w' := by
  obtain ⟨hty, hfs⟩ := hv
  obtain ⟨A, cap, rfl, hl1, hm1, hi1⟩ := hty.1.form
  obtain ⟨B, bap, rfl, hl2, hm2, hc1⟩ := hty.2.form
  obtain ⟨F, fap, rfl, hl3, hm3, hf1⟩ := hfs.form
  unfold maxLen at hm1 hm2 hm3
  have h3 : Below w.heap.size w (w.alloc (.cells #[.slice A y.ty.sizes.length cap, .slice B y.ty.cos.length bap, .slice F y.fs.length fap] 45)) := by go_grown
  have Hty := Lib.hid (show TyAt w lo hi (.slice A y.ty.sizes.length cap) (.slice B y.ty.cos.length bap) y.ty from ⟨hi1, hc1⟩)
  have Hf1 := Lib.hid hf1
  clear hty hfs hi1 hc1 hf1
  have H1 := Lib.hid (Below.refl (w.heap.size + 1) (w.alloc (.cells #[.slice A y.ty.sizes.length cap, .slice B y.ty.cos.length bap, .slice F y.fs.length fap] 45)))
  go_enter Tryd.func60, Tryd.ntmps60
  go_wp2_with fail
  refine (implValid_any lo hi _ _ y.ty _ (Hty.out.below h3 hB) (by simp; omega)).mono ?_
  rintro e w1 ⟨rfl, hb1⟩
  have H2 := Lib.hid (H1.out.trans (hb1.mono (by simp)))
  obtain ⟨q0, q1, q2, hl, hB1⟩ := box3 H2.out
  have HB1 := Lib.hid hB1
  clear hb1 h3 hB1 H1
  by_cases c1 : tyOk y.ty = true
  case neg =>
    have H : Hid (syB y = false) := syB_no fun h => c1 h.ty
    have c1f : tyOk y.ty = false := by simpa using c1
    rw [c1f]
    clear c1
    go_wp2
    go_ret
    exact ⟨ret_bool H.out.symm, HB1.out⟩
  have hok := Lib.hid (tyOk_sizes c1)
  have C1 := Lib.hid c1
  rw [c1]
  clear c1
  by_cases c2 : y.fs.length ≤ 8
  case neg =>
    have H : Hid (syB y = false) := syB_no fun h => c2 h.few
    have hd : decide ((8 : Int) < (y.fs.length : Int)) = true := by simp; omega
    go_wp2
    go_ret
    exact ⟨ret_bool H.out.symm, HB1.out⟩
  have hd : decide ((8 : Int) < (y.fs.length : Int)) = false := by simp; omega
  have C2 := Lib.hid c2
  go_wp2
  clear hd
  go_loopw [18] (fun i wr => ∃ k : Nat, k ≤ y.fs.length ∧ i = .int .i64 k ∧ Hid (Below (w.heap.size + 1) w1 wr) ∧ Hid (∀ j, j < k → ∀ (hj : j < y.fs.length), FuOk y.ty.sizes y.fs[j])) (fun i _ => y.fs.length - (intOf i).toNat)
  case atStart => exact ⟨0, Nat.zero_le _, rfl, Below.refl _ _, fun j hj => absurd hj (by omega)⟩
  case round =>
    obtain ⟨k, hk, rfl, hbr, hok2⟩ := hrel
    have hbo : Below w.heap.size w wr := HB1.out.trans (hbr.out.mono (by omega))
    have hcl : ∀ o, wr.cell? ⟨w.heap.size, o, none⟩ = w1.cell? ⟨w.heap.size, o, none⟩ := fun o => hbr.out.cell (p := ⟨w.heap.size, o, none⟩) (by dsimp only; omega)
    have p0 := (hcl 0).trans q0
    have p1 := (hcl 1).trans q1
    have p2 := (hcl 2).trans q2
    have hlr : w.heap.size < wr.heap.size := Nat.lt_of_lt_of_le hl hbr.out.size
    clear hcl
    by_cases hkl : k < y.fs.length
    · obtain ⟨b, off, A1, cap1, A2, cap2, rfl, _, _, d0, d1, d2, d3, _, _, _, _, hfu⟩ := (Hf1.out.below hbo hB).at_ hkl
      have Hfu := Lib.hid hfu
      have Hi4 := Lib.hid (Hty.out.1.below hbo hB)
      have Hbo := Lib.hid hbo
      clear hfu hbo
      by_cases hin : fuB y.ty.sizes y.fs[k] = true
      · have hin' := Lib.hid (fuB_iff.1 hin)
        go_wp2_with fail
        refine (fitsFu_any lo hi lo hi _ _ _ _ _ y.ty.sizes y.fs[k] (wr.alloc (.cells #[.string y.fs[k].name, .slice A1 y.fs[k].args.length cap1, .int .i64 y.fs[k].res, .slice A2 y.fs[k].table.length cap2] 84)) (Hi4.out.below ((Below.refl _ _).alloc (Nat.le_refl _) _) (by omega)) (Hfu.out.below ((Below.refl _ _).alloc (Nat.le_refl _) _) (by omega)) (by simp; omega) (by simp; omega) hok.out).mono ?_
        rintro e w' ⟨rfl, hbb⟩
        have Hbb := Lib.hid hbb
        clear hbb
        rw [hin]
        go_wp2
        go_roundw
        case rel =>
          refine ⟨k + 1, by omega, by go_num, (hbr.out.alloc (by omega) _).trans (Hbb.out.mono (by simp; omega)), fun j hj hjl => ?_⟩
          by_cases ej : j = k
          · subst ej; exact hin'.out
          · exact hok2.out j (by omega) hjl
        case measure => simp [intOf]; omega
      · have hinf : fuB y.ty.sizes y.fs[k] = false := by simpa using hin
        have H : Hid (syB y = false) := syB_no fun h => hin (fuB_yes (h.each k hkl))
        clear hin
        go_wp2_with fail
        refine (fitsFu_any lo hi lo hi _ _ _ _ _ y.ty.sizes y.fs[k] (wr.alloc (.cells #[.string y.fs[k].name, .slice A1 y.fs[k].args.length cap1, .int .i64 y.fs[k].res, .slice A2 y.fs[k].table.length cap2] 84)) (Hi4.out.below ((Below.refl _ _).alloc (Nat.le_refl _) _) (by omega)) (Hfu.out.below ((Below.refl _ _).alloc (Nat.le_refl _) _) (by omega)) (by simp; omega) (by simp; omega) hok.out).mono ?_
        rintro e w' ⟨rfl, hbb⟩
        have Hbb := Lib.hid hbb
        clear hbb
        rw [hinf]
        go_wp2
        go_ret
        exact ⟨ret_bool H.out.symm, (Hbo.out.alloc (by omega) _).trans (Hbb.out.mono (by simp; omega))⟩
    · obtain rfl : k = y.fs.length := by omega
      have H : Hid (differB y.fs = syB y) := by
        show _ = _
        rw [Bool.eq_iff_iff, differB_iff, syB_iff]
        exact ⟨fun h => ⟨C1.out, C2.out, fun i hi => hok2.out i hi hi, h⟩, fun h => h.differ⟩
      have Hbo := Lib.hid hbo
      clear hbo
      go_wp2_with fail
      refine (callsDiffer_any lo hi _ y.fs _ (Hf1.out.below Hbo.out hB) (by omega) (by omega)).mono ?_
      rintro e w' ⟨rfl, hbb⟩
      have Hbb := Lib.hid hbb
      clear hbb
      go_wp2
      go_ret
      exact ⟨ret_bool H.out, Hbo.out.trans (Hbb.out.mono (by omega))⟩
end Go.Proofs.YtfcekbjoagogdaaDoor
