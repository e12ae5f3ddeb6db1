/-
  The contract of the model's SystemValid.
  The contract of slices.Equal at slices of ints.
  The contract of the program's callsDiffer.
  The contract of the program's SystemValid.
-/
import Derived.Test.YtnmbjmocnafekaaGreatDoorG15
import Derived.Test.YtnmbjmocnafekaaGreatDoorG10
import Derived.Test.YtnmbjmocnafekaaGreatDoorG1
import Derived.Test.YtnmbjmocnafekaaGreatDoorRows
import Derived.Outline
import Derived.Handy
import Derived.BigQuiet
import Derived.Deep.QuietTactic
import Derived.Sort.KeysCollected
import Derived.Test.YtnmbjmocnafekaaGreatDoorG5
namespace Go.Proofs.YtnmbjmocnafekaaGreatDoor
open Go.RowKit

set_option maxRecDepth 100000 in
set_option maxHeartbeats 4000000 in
theorem specSysValid_any (lo hi : Nat) (sv cv fv : Value) (y : Sy) (w : World) (hv : SyAt w lo hi sv cv fv y) (hB : hi ≤ w.heap.size) :
    Calls Tryz.prog 36 #[.agg #[sv, cv, fv]] w fun e w' => e = .returned (.bool (syB y)) ∧ Below w.heap.size w w' := by
  obtain ⟨hty, hfs⟩ := hv
  obtain ⟨A, cap, rfl, hl1, hm1, hi1⟩ := hty.1.form
  obtain ⟨B, bap, rfl, hl2, hm2, hc1⟩ := hty.2.form
  obtain ⟨F, fap, rfl, hl3, hm3, hf1⟩ := hfs.form
  unfold maxLen at hm1 hm2 hm3
  have h3 : Below w.heap.size w (w.alloc (.cells #[.slice A y.ty.sizes.length cap, .slice B y.ty.cos.length bap, .slice F y.fs.length fap] 36)) := by go_grown
  have Hty := Lib.hid (show TyAt w lo hi (.slice A y.ty.sizes.length cap) (.slice B y.ty.cos.length bap) y.ty from ⟨hi1, hc1⟩)
  have Hf1 := Lib.hid hf1
  clear hty hfs hi1 hc1 hf1
  have H1 := Lib.hid (Below.refl (w.heap.size + 1) (w.alloc (.cells #[.slice A y.ty.sizes.length cap, .slice B y.ty.cos.length bap, .slice F y.fs.length fap] 36)))
  go_enter Tryz.func36, Tryz.ntmps36
  go_wp2_with fail
  refine (specValid_any lo hi _ _ y.ty _ (Hty.out.below h3 hB) (by simp; omega)).mono ?_
  rintro e w1 ⟨rfl, hb1⟩
  have H2 := Lib.hid (H1.out.trans (hb1.mono (by simp)))
  obtain ⟨q0, q1, q2, hl, hB1⟩ := box3 H2.out
  have HB1 := Lib.hid hB1
  clear hb1 h3 hB1 H1
  by_cases c1 : tyOk y.ty = true
  case neg =>
    have H : Hid (syB y = false) := syB_no fun h => c1 h.ty
    have c1f : tyOk y.ty = false := by simpa using c1
    rw [c1f]
    clear c1
    go_wp2
    go_ret
    exact ⟨ret_bool H.out.symm, HB1.out⟩
  have hok := Lib.hid (tyOk_sizes c1)
  have C1 := Lib.hid c1
  rw [c1]
  clear c1
  by_cases c2 : y.fs.length ≤ 8
  case neg =>
    have H : Hid (syB y = false) := syB_no fun h => c2 h.few
    have hd : decide ((8 : Int) < (y.fs.length : Int)) = true := by simp; omega
    go_wp2
    go_ret
    exact ⟨ret_bool H.out.symm, HB1.out⟩
  have hd : decide ((8 : Int) < (y.fs.length : Int)) = false := by simp; omega
  have C2 := Lib.hid c2
  go_wp2
  clear hd
  go_loopw [20] (fun i wr => ∃ k : Nat, k ≤ y.fs.length ∧ i = .int .i64 k ∧ Hid (Below (w.heap.size + 1) w1 wr) ∧ Hid (∀ j, j < k → ∀ (hj : j < y.fs.length), FuOk y.ty.sizes y.fs[j]) ∧
    Hid (∀ i j : Nat, i < k → j < i → ¬ ((y.fs.getD i default).name = (y.fs.getD j default).name ∧ (y.fs.getD i default).args = (y.fs.getD j default).args))) (fun i _ => y.fs.length - (intOf i).toNat)
  case atStart => exact ⟨0, Nat.zero_le _, rfl, Below.refl _ _, fun j hj => absurd hj (by omega), fun i j hi => absurd hi (by omega)⟩
  case round =>
    obtain ⟨k, hk, rfl, hbr, hok2, hdf⟩ := hrel
    have hbo : Below w.heap.size w wr := HB1.out.trans (hbr.out.mono (by omega))
    have hcl : ∀ o, wr.cell? ⟨w.heap.size, o, none⟩ = w1.cell? ⟨w.heap.size, o, none⟩ := fun o => hbr.out.cell (p := ⟨w.heap.size, o, none⟩) (by dsimp only; omega)
    have p0 := (hcl 0).trans q0
    have p1 := (hcl 1).trans q1
    have p2 := (hcl 2).trans q2
    have hlr : w.heap.size < wr.heap.size := Nat.lt_of_lt_of_le hl hbr.out.size
    clear hcl
    by_cases hkl : k < y.fs.length
    · obtain ⟨b, off, A1, cap1, A2, cap2, rfl, _, _, d0, d1, d2, d3, _, _, _, _, hfu⟩ := (Hf1.out.below hbo hB).at_ hkl
      have Hfu := Lib.hid hfu
      have HT4 := Lib.hid (Hty.out.below hbo hB)
      have Hbo := Lib.hid hbo
      clear hfu hbo
      by_cases hin : fuB y.ty.sizes y.fs[k] = true
      case neg =>
        have hinf : fuB y.ty.sizes y.fs[k] = false := by simpa using hin
        have H : Hid (syB y = false) := syB_no fun h => hin (fuB_yes (h.each k hkl))
        clear hin
        go_wp2_with fail
        refine (l4Function_any lo hi lo hi _ _ _ _ _ _ y.ty y.fs[k] (wr.alloc (.cells #[.string y.fs[k].name, .slice A1 y.fs[k].args.length cap1, .int .i64 y.fs[k].res, .slice A2 y.fs[k].table.length cap2] 111)) (HT4.out.below ((Below.refl _ _).alloc (Nat.le_refl _) _) (by omega)) (Hfu.out.below ((Below.refl _ _).alloc (Nat.le_refl _) _) (by omega)) (by simp; omega) (by simp; omega) hok.out).mono ?_
        rintro e w' ⟨rfl, hbb⟩
        have Hbb := Lib.hid hbb
        clear hbb
        rw [hinf]
        go_wp2
        go_ret
        exact ⟨ret_bool H.out.symm, (Hbo.out.alloc (by omega) _).trans (Hbb.out.mono (by simp; omega))⟩
      have hin' := Lib.hid (fuB_iff.1 hin)
      go_wp2_with fail
      refine (l4Function_any lo hi lo hi _ _ _ _ _ _ y.ty y.fs[k] (wr.alloc (.cells #[.string y.fs[k].name, .slice A1 y.fs[k].args.length cap1, .int .i64 y.fs[k].res, .slice A2 y.fs[k].table.length cap2] 111)) (HT4.out.below ((Below.refl _ _).alloc (Nat.le_refl _) _) (by omega)) (Hfu.out.below ((Below.refl _ _).alloc (Nat.le_refl _) _) (by omega)) (by simp; omega) (by simp; omega) hok.out).mono ?_
      rintro e w5 ⟨rfl, hb5⟩
      have hsx : (wr.alloc (.cells #[.string y.fs[k].name, .slice A1 y.fs[k].args.length cap1, .int .i64 y.fs[k].res, .slice A2 y.fs[k].table.length cap2] 111)).heap.size = wr.heap.size + 1 := by simp
      have hrk : Row w5 wr.heap.size 111 [.string y.fs[k].name, .slice A1 y.fs[k].args.length cap1, .int .i64 y.fs[k].res, .slice A2 y.fs[k].table.length cap2] := (Row.new wr _ _).below hb5 (by rw [hsx]; omega)
      have hb05 : Below (w.heap.size + 1) w1 w5 := (hbr.out.alloc (by omega) _).trans (hb5.mono (by rw [hsx]; omega))
      have Hrk := Lib.hid hrk
      have Hfu5 : Hid (IntsAt w5 lo hi (.slice A1 y.fs[k].args.length cap1) y.fs[k].args) := (Hfu.out.2.2.2.2.1.below ((Below.refl _ _).alloc (Nat.le_refl _) _) (by omega)).below hb5 (by rw [hsx]; omega)
      have Hb05 := Lib.hid hb05
      have h5s : wr.heap.size < w5.heap.size := hrk.lt
      have r0 := (hb05.cell (p := ⟨w.heap.size, 2, none⟩) (by dsimp only; omega)).trans q2
      have HbrS := Lib.hid hbr.out.size
      rw [hin]
      clear hb5 hrk hb05 hsx hin p0 p1 p2 d0 d1 d2 d3
      go_wp2
      obtain ⟨N, hN⟩ : ∃ N, N = wr.heap.size := ⟨_, rfl⟩
      rw [← hN] at h5s Hrk HbrS hlr ⊢
      clear hN
      go_loopw [35] (fun q wr => ∃ j : Nat, j ≤ k ∧ q = .int .i64 j ∧ Hid (Below w5.heap.size w5 wr) ∧ Hid (∀ i : Nat, i < j → ¬ ((y.fs.getD k default).name = (y.fs.getD i default).name ∧ (y.fs.getD k default).args = (y.fs.getD i default).args))) (fun q _ => k - (intOf q).toNat)
      case atStart => exact ⟨0, Nat.zero_le _, rfl, Below.refl _ _, fun i hi => absurd hi (by omega)⟩
      case round =>
        obtain ⟨j, hj, rfl, hb5, hd5⟩ := hrel
        have Hb0 : Hid (Below w.heap.size w wr) := HB1.out.trans ((Hb05.out.mono (by omega)).trans (hb5.out.mono (by omega)))
        have s0 := (Hrk.out.below hb5.out h5s).cell 0
        have s1 := (Hrk.out.below hb5.out h5s).cell 1
        have hs5 := hb5.out.size
        have hNw : N < wr.heap.size := by omega
        simp only [List.getElem?_cons_zero, List.getElem?_cons_succ] at s0 s1
        by_cases hjk : j < k
        · have hjl : j < y.fs.length := by omega
          obtain ⟨b', off', A3, cap3, A4, cap4, eF, _, _, d0, d1, d2, d3, _, _, _, _, hfj⟩ := (Hf1.out.below Hb0.out hB).at_ hjl
          obtain ⟨rfl, rfl⟩ : b = b' ∧ off = off' := by simpa using eF
          have Hfj := Lib.hid hfj
          have hjkI : (j : Int) < (k : Int) := by omega
          clear hfj eF
          have HgetK : Hid (y.fs.getD k default = y.fs[k]) := getD_of hkl
          have HgetJ : Hid (y.fs.getD j default = y.fs[j]) := getD_of hjl
          by_cases he : y.fs[k].name = y.fs[j].name
          · have hnm : y.fs[k].name.toList = y.fs[j].name.toList := by rw [he]
            have He := Lib.hid he
            clear he
            go_wp2_with fail
            refine (l3Same_any lo hi lo hi _ _ y.fs[k].args y.fs[j].args _ ((Hfu5.out.below hb5.out (by have := Hb05.out.size; omega)).below ((Below.refl _ _).alloc (Nat.le_refl _) _) (by omega)) (Hfj.out.2.2.2.2.1.below ((Below.refl _ _).alloc (Nat.le_refl _) _) (by omega)) (by simp; omega) (by simp; omega)).mono ?_
            rintro e w' ⟨rfl, hbb⟩
            have Hbb := Lib.hid ((hb5.out.alloc hs5 _).trans (hbb.mono (by simp; omega)))
            clear hbb
            by_cases ha : y.fs[k].args = y.fs[j].args
            · have H : Hid (syB y = false) := syB_no fun h => h.differ k j hkl hjk (by rw [HgetK.out, HgetJ.out]; exact ⟨He.out, ha⟩)
              rw [decide_eq_true ha]
              clear ha
              go_wp2
              go_ret
              exact ⟨ret_bool H.out.symm, HB1.out.trans ((Hb05.out.mono (by omega)).trans (Hbb.out.mono (by omega)))⟩
            · have hd6 : Hid (∀ i : Nat, i < j + 1 → ¬ ((y.fs.getD k default).name = (y.fs.getD i default).name ∧ (y.fs.getD k default).args = (y.fs.getD i default).args)) := fun i hi2 => by
                by_cases e : i = j
                · subst e; rw [HgetK.out, HgetJ.out]; exact fun h => ha h.2
                · exact hd5.out i (by omega)
              rw [decide_eq_false ha]
              clear ha
              go_wp2
              go_roundw
              case rel => exact ⟨j + 1, by omega, by go_num, Hbb.out, hd6⟩
              case measure => simp [intOf]; omega
          · have hnm : ¬ y.fs[k].name.toList = y.fs[j].name.toList := fun h => he (bytes_eq h)
            have hd6 : Hid (∀ i : Nat, i < j + 1 → ¬ ((y.fs.getD k default).name = (y.fs.getD i default).name ∧ (y.fs.getD k default).args = (y.fs.getD i default).args)) := fun i hi2 => by
              by_cases e : i = j
              · subst e; rw [HgetK.out, HgetJ.out]; exact fun h => he h.1
              · exact hd5.out i (by omega)
            clear he
            go_wp2
            go_roundw
            case rel => exact ⟨j + 1, by omega, by go_num, hb5.out.alloc hs5 _, hd6⟩
            case measure => simp [intOf]; omega
        · obtain rfl : j = k := by omega
          have hd6 : Hid (∀ i i' : Nat, i < j + 1 → i' < i → ¬ ((y.fs.getD i default).name = (y.fs.getD i' default).name ∧ (y.fs.getD i default).args = (y.fs.getD i' default).args)) := fun i i' h1 h2 => by
            by_cases e : i = j
            · subst e; exact hd5.out i' h2
            · exact hdf.out i i' (by omega) h2
          have hok6 : Hid (∀ i, i < j + 1 → ∀ (hi2 : i < y.fs.length), FuOk y.ty.sizes y.fs[i]) := fun i h1 h2 => by
            by_cases e : i = j
            · subst e; exact hin'.out
            · exact hok2.out i (by omega) h2
          have hb6 : Hid (Below (w.heap.size + 1) w1 wr) := Hb05.out.trans (hb5.out.mono (by have := Hb05.out.size; omega))
          go_wp2
          go_roundw
          case rel => exact ⟨j + 1, by omega, by go_num, hb6.out, hok6, hd6⟩
          case measure => simp [intOf]; omega
    · obtain rfl : k = y.fs.length := by omega
      have H : Hid (syB y = true) := syB_yes ⟨C1.out, C2.out, fun i hi => hok2.out i hi hi, hdf.out⟩
      go_wp2
      go_ret
      exact ⟨ret_bool H.out.symm, hbo⟩
end Go.Proofs.YtnmbjmocnafekaaGreatDoor

namespace Go.Proofs.YtnmbjmocnafekaaGreatDoor
open Go.RowKit

set_option maxRecDepth 100000 in
set_option maxHeartbeats 2000000 in
theorem slicesEqual_any (lo hi lo2 hi2 : Nat) (xv yv : Value) (xs ys : List Int) (w : World) (hx : IntsAt w lo hi xv xs) (hy : IntsAt w lo2 hi2 yv ys) (_hB : hi ≤ w.heap.size) (_hB2 : hi2 ≤ w.heap.size) :
    Calls Tryz.prog 145 #[xv, yv] w fun e w' => e = .returned (.bool (decide (xs = ys))) ∧ ∃ m, w' = w.drewN m := by
  obtain ⟨X, xap, rfl, hlx, hmx, hx1⟩ := hx.form
  obtain ⟨Y, yap, rfl, hly, hmy, hy1⟩ := hy.form
  unfold maxLen at hmx hmy
  have Hx := Lib.hid hx1
  have Hy := Lib.hid hy1
  clear hx hy hx1 hy1
  by_cases hl : xs.length = ys.length
  · have hd : ((xs.length : Int) != (ys.length : Int)) = false := by simp [hl]
    go_enter Tryz.func145, Tryz.ntmps145
    go_wp2
    clear hd
    have Hl := Lib.hid hl
    clear hl
    go_loopw [13] (fun i wr => ∃ j : Nat, j ≤ ys.length ∧ i = .int .i64 j ∧ Hid (∃ m, wr = w.drewN m) ∧ Hid (∀ k, ∀ (h1 : k < xs.length) (h2 : k < ys.length), k < j → xs[k] = ys[k])) (fun i _ => ys.length - (intOf i).toNat)
    case atStart => exact ⟨0, Nat.zero_le _, rfl, ⟨0, rfl⟩, fun k _ _ h => absurd h (by omega)⟩
    case round =>
      obtain ⟨j, hj, rfl, hb, hpre⟩ := hrel
      by_cases hlt2 : j < ys.length
      · have hlt : j < xs.length := by have := Hl.out; omega
        obtain ⟨b, off, rfl, _, _, c0, _⟩ := (show IntsAt wr lo hi _ xs from by obtain ⟨m, rfl⟩ := hb.out; exact Hx.out).at_ (k := j) hlt
        obtain ⟨b', off', rfl, _, _, c0', _⟩ := (show IntsAt wr lo2 hi2 _ ys from by obtain ⟨m, rfl⟩ := hb.out; exact Hy.out).at_ (k := j) hlt2
        have hi1 : (j : Int) < (xs.length : Int) := by omega
        have hi2' : (j : Int) < (ys.length : Int) := by omega
        by_cases he : xs[j] = ys[j]
        · have htest : (xs[j] != ys[j]) = false := by simpa using he
          have hpre2 : Hid (∀ k, ∀ (h1 : k < xs.length) (h2 : k < ys.length), k < j + 1 → xs[k] = ys[k]) := fun k h1 h2 h => by
            by_cases e : k = j
            · subst e; exact he
            · exact hpre.out k h1 h2 (by omega)
          clear he
          go_wp2
          go_quiet (fail)
          go_wp2
          go_roundw
          case rel => exact ⟨j + 1, by omega, by go_num, (by show ∃ m, _ = _; obtain ⟨m, rfl⟩ := hb.out; exact ⟨_, World.drewN_drewN ..⟩), hpre2⟩
          case measure => simp [intOf]; omega
        · have htest : (xs[j] != ys[j]) = true := by simpa using he
          have hno : Hid (decide (xs = ys) = false) := by show _ = _; exact decide_eq_false fun e => he (by subst e; rfl)
          clear he
          go_wp2
          go_quiet (fail)
          go_wp2
          go_ret
          exact ⟨ret_bool hno.out.symm, by obtain ⟨m, rfl⟩ := hb.out; exact ⟨_, World.drewN_drewN ..⟩⟩
      · obtain rfl : j = ys.length := by omega
        have hyes : Hid (decide (xs = ys) = true) := by show _ = _; exact decide_eq_true (List.ext_getElem Hl.out fun k h1 h2 => hpre.out k h1 h2 h2)
        go_wp2
        go_ret
        exact ⟨ret_bool hyes.out.symm, hb.out⟩
  · have hno : Hid (decide (xs = ys) = false) := by show _ = _; exact decide_eq_false fun e => hl (by rw [e])
    have hd : ((xs.length : Int) != (ys.length : Int)) = true := by simp; omega
    go_enter Tryz.func145, Tryz.ntmps145
    go_wp2
    go_ret
    exact ⟨ret_bool hno.out.symm, ⟨0, rfl⟩⟩
theorem slicesEqual_quiet (lo hi lo2 hi2 : Nat) (xv yv : Value) (xs ys : List Int) (w : World) (n : Nat) (b : Bool) (hb : decide (xs = ys) = b) (hx : IntsAt w lo hi xv xs) (hy : IntsAt w lo2 hi2 yv ys) (hB : hi ≤ w.heap.size) (hB2 : hi2 ≤ w.heap.size) :
    Calls Tryz.prog 145 #[xv, yv] (w.drewN n) fun e w' => e = .returned (.bool b) ∧ ∃ m, w' = w.drewN m :=
  (slicesEqual_any lo hi lo2 hi2 xv yv xs ys (w.drewN n) hx hy hB hB2).mono fun _ _ ⟨h1, m, h2⟩ => ⟨hb ▸ h1, n + m, h2.trans (World.drewN_drewN ..)⟩
end Go.Proofs.YtnmbjmocnafekaaGreatDoor

namespace Go.Proofs.YtnmbjmocnafekaaGreatDoor
open Go.RowKit Go.Maps
open Go.ChangeShapes (lits)

theorem ints_of_owns {w : World} {base : Nat} {v : Value} {zs : List Int} (h : w.ownsInts base 3 .i64 v zs) : IntsAt w base w.heap.size v zs := by
  obtain ⟨g, ho, hg⟩ := OwnI.of_owns h.1
  exact ho.ints (fun z hz => by have := h.2 z hz; simpa [Lit.wf, IntKind.min, IntKind.max, IntKind.signed, IntKind.bits, I64] using this) hg

/-- What is left when nothing else than the iterator has turned. -/
theorem ranges_of_heap {w w' : World} {k : TypeId} {R : Value → Option (DataW Unit × List MemPlace)} {b r n cnt : Nat} {D : DataW Unit} {left : Lit → Bool} (h : w.ranges Tryz.prog k R b r n D left cnt) (hh : w'.heap = w.heap) : w'.ranges Tryz.prog k R b r n D left cnt := by
  obtain ⟨es, clock, since, seen, c0, h1, h2, h3, h4, h5, h6⟩ := h
  exact ⟨es, clock, since, seen, c0, by rw [hh]; exact h1, h2, h3, h4, by rw [hh]; exact h5, h6⟩

set_option maxRecDepth 100000 in
set_option maxHeartbeats 4000000 in
theorem callsDiffer_any (lo hi : Nat) (v : Value) (fs : List Fu) (w : World) (hv : FusAt w lo hi v fs) (hB : hi ≤ w.heap.size) (hlen : fs.length ≤ 1048576) :
    Calls Tryz.prog 111 #[v] w fun e w' => e = .returned (.bool (differB fs)) ∧ Below w.heap.size w w' := by
  obtain ⟨F, cap, rfl, hl1, hm1, hv1⟩ := hv.form
  unfold maxLen at hm1
  have Hv := Lib.hid hv1
  clear hv hv1
  go_enter Tryz.func111, Tryz.ntmps111
  go_wp2_with fail
  refine (indicesByName_any lo hi _ fs w Hv.out hB hlen).mono ?_
  rintro e w1 ⟨D, rfl, hb1, hgrp, hown⟩
  have hmap : w1.ownsMap Tryz.prog 9 (rowElem w1 (w.heap.size + 1) 3 .i64) w.heap.size fs.length D := by
    obtain ⟨es, clock, h1, h2, h3, h4, _⟩ := hown
    exact ⟨es, clock, h1, h2, h3, h4⟩
  have Hgrp := Lib.hid hgrp
  have Hb1 := Lib.hid hb1
  clear hgrp hb1 hown
  go_wp2_with (first | (at_range; refine wpList_range_own _ rfl _ 195 rfl 9 22 lawStr Tryz.underlying195 _ w.heap.size fs.length D rfl hmap ?_; intro w2 hrg2 hg2 hs2) | go_in)
  go_frame
  have Hrg2 := Lib.hid hrg2
  have Hg2 := Lib.hid hg2
  clear hrg2 hg2 hs2 hmap
  go_loopw [12] (fun _ wr => ∃ left cnt, Hid (wr.ranges Tryz.prog 9 (rowElem w1 (w.heap.size + 1) 3 .i64) w.heap.size w1.heap.size fs.length D left cnt) ∧ Hid (Below w1.heap.size w1 wr) ∧
    Hid (∀ nm : ByteArray, nm.size ≤ maxLen → left (kN nm) = false → Parts fs (idxs fs fs.length nm))) (fun _ wr => wr.rangeLeft w.heap.size w1.heap.size)
  case atStart =>
    refine ⟨Maps.has D, Maps.size D, Hrg2.out, ⟨Hg2.out.os, Hg2.out.tape, Hg2.out.output, Hg2.out.size, fun k hk => Hg2.out.block k hk (by simp)⟩, fun nm hs hl a b ha _ => ?_⟩
    have hno : ¬ idxs fs fs.length nm ≠ [] := fun h => by rw [(Hgrp.out.has nm hs).2 h] at hl; cases hl
    have hnil : idxs fs fs.length nm = [] := Classical.not_not.1 hno
    rw [hnil] at ha
    cases ha
  case round =>
    obtain ⟨left, cnt, hrg, hb, hparts⟩ := hrel
    go_wp2_with (first | (at_next; refine wpList_next_ranges wr rfl _ rfl 9 lawStr (rowElem w1 (w.heap.size + 1) 3 .i64) encStr (fun v : Value => v) (fun key kl hk => by obtain ⟨x, hx, _⟩ := Maps.keyOf_str Tryz.underlying9 hk; exact ⟨x, hx⟩) (fun v y _ => ⟨v, rfl⟩) w.heap.size w1.heap.size fs.length D left cnt rfl hrg.out ?_ ?_) | go_in)
    · intro hc0 hl0
      have hyes : Hid (differB fs = true) := by
        show _ = _
        refine differB_yes (differ_of_parts fun nm hne => ?_)
        have hs : nm.size ≤ maxLen := by
          rcases hx : idxs fs fs.length nm with _ | ⟨z, r⟩
          · exact absurd hx hne
          · obtain ⟨i, hi, hn, _⟩ := idxs_mem.1 (show z ∈ idxs fs fs.length nm by rw [hx]; simp)
            obtain ⟨_, _, _, _, _, _, _, _, _, _, _, _, _, _, _, _, _, hfu⟩ := Hv.out.at_ hi
            rw [getD_of hi] at hn
            rw [← hn]; exact hfu.2.2.1
        exact hparts.out nm hs (hl0 _)
      have hbw := Lib.hid (Hb1.out.trans (hb.out.mono Hb1.out.size))
      clear hl0 hparts hrg hb
      go_wp2
      go_ret
      exact ⟨ret_bool hyes.out.symm, hbw.out⟩
    · intro x c kl yd yp w3 cnt2 hkey hlk hv hat hrg3 hlt hg3 hs3 hen
      obtain ⟨x', ex, rfl, hxl⟩ := Maps.keyOf_str Tryz.underlying9 hkey
      obtain rfl : x = x' := encStr_inj ex
      clear ex hkey
      have hkn : Lit.string x = kN ⟨x.toArray⟩ := by simp [kN]
      rw [hkn] at hat hlk hrg3
      have hsx : (⟨x.toArray⟩ : ByteArray).size ≤ maxLen := by simpa [ByteArray.size] using hxl
      obtain ⟨zs, ho, hyd⟩ := rowElem_inv hv
      have hyd1 : yd = rowDatum .i64 c zs := congrArg Prod.fst hyd
      have hzs := Hgrp.out.look hsx ho ((hat .nil).trans hyd1)
      have hzi := ints_of_owns ho
      have hb3 : Below w1.heap.size w1 w3 := ⟨hg3.os.trans hb.out.os, hg3.tape.trans hb.out.tape, hg3.output.trans hb.out.output, Nat.le_trans hb.out.size hg3.size, fun k hk => (hg3.block k (Nat.lt_of_lt_of_le hk hb.out.size) (by simp; omega)).trans (hb.out.block k hk)⟩
      obtain ⟨Z, zap, rfl, hlz, hmz, hz1⟩ := hzi.form
      have hz3 := Lib.hid (hz1.below hb3 (Nat.le_refl _))
      have hb03 : Hid (Below w.heap.size w w3) := Hb1.out.trans (hb3.mono Hb1.out.size)
      have hmeas : Hid (w3.rangeLeft w.heap.size w1.heap.size < wr.rangeLeft w.heap.size w1.heap.size) := by show _ < _; rw [hrg3.left_eq, hrg.out.left_eq]; exact hlt
      have Hzs := Lib.hid hzs
      have Hrg3 := Lib.hid hrg3
      have Hb3 := Lib.hid hb3
      have hparts2 : Hid (Parts fs (idxs fs fs.length ⟨x.toArray⟩) → ∀ nm : ByteArray, nm.size ≤ maxLen → (left (kN nm) && !(kN nm).sameKey (kN ⟨x.toArray⟩)) = false → Parts fs (idxs fs fs.length nm)) := by
        intro hP nm hs h
        by_cases e : kN nm = kN ⟨x.toArray⟩
        · rw [kN_inj e]; exact hP
        · rw [sameKey_ne e] at h
          exact hparts.out nm hs (by simpa using h)
      unfold maxLen at hmz
      clear hat hlk hv hyd hyd1 hzi ho hg3 hs3 hb3 hz1 hrg3 hzs hparts hrg hb hkn hsx hxl hlt
      generalize (⟨x.toArray⟩ : ByteArray) = nm at *
      go_wp2
      go_loopw [18] (fun i wm => ∃ n : Nat, n ≤ zs.length ∧ i = .int .i64 n ∧ Hid (∃ m, wm = w3.drewN m) ∧ Hid (∀ a b : Nat, a < n → b < a → (fs.getD (zs.getD a 0).toNat default).args ≠ (fs.getD (zs.getD b 0).toNat default).args)) (fun i _ => zs.length - (intOf i).toNat)
      case atStart => exact ⟨0, Nat.zero_le _, rfl, ⟨0, rfl⟩, fun a b h => absurd h (by omega)⟩
      case round =>
        obtain ⟨n, hn, rfl, hwm, hpre⟩ := hrel
        by_cases hln : n < zs.length
        · obtain ⟨gz, oz, rfl, _, _, cz, _⟩ := (show IntsAt wr _ _ _ zs from by obtain ⟨m, rfl⟩ := hwm.out; exact hz3.out).at_ (k := n) hln
          obtain ⟨i, hi, hni, ei⟩ := idxs_mem.1 (show zs[n] ∈ idxs fs fs.length nm by rw [← Hzs.out]; exact List.getElem_mem hln)
          rw [ei] at cz
          have Hei := Lib.hid ei
          have hlnI : (n : Int) < (zs.length : Int) := by omega
          clear ei
          go_wp2
          go_loopw [27] (fun q wi => ∃ j : Nat, j ≤ n ∧ q = .int .i64 j ∧ Hid (∃ m, wi = w3.drewN m) ∧ Hid (∀ b : Nat, b < j → (fs.getD (zs.getD n 0).toNat default).args ≠ (fs.getD (zs.getD b 0).toNat default).args)) (fun q _ => n - (intOf q).toNat)
          case atStart => exact ⟨0, Nat.zero_le _, rfl, hwm.out, fun b h => absurd h (by omega)⟩
          case round =>
            obtain ⟨j, hj, rfl, hwi, hpre2⟩ := hrel
            by_cases hlj : j < n
            · have hljz : j < zs.length := by omega
              obtain ⟨gz', oz', eZ, _, _, cz2, _⟩ := (show IntsAt wr _ _ _ zs from by obtain ⟨m, rfl⟩ := hwi.out; exact hz3.out).at_ (k := j) hljz
              obtain ⟨rfl, rfl⟩ : gz = gz' ∧ oz = oz' := by simpa using eZ
              obtain ⟨k, hk, hnk, ek⟩ := idxs_mem.1 (show zs[j] ∈ idxs fs fs.length nm by rw [← Hzs.out]; exact List.getElem_mem hljz)
              rw [ek] at cz2
              have Hek := Lib.hid ek
              clear ek eZ
              have hbw : Below w.heap.size w wr := by obtain ⟨m, rfl⟩ := hwi.out; exact below_drewN hb03.out m
              obtain ⟨b, off, A1, cap1, A2, cap2, rfl, _, _, c0, c1, c2, c3, _, _, _, _, hfi⟩ := (Hv.out.below hbw hB).at_ hi
              obtain ⟨b', off', A1', cap1', A2', cap2', eF, _, _, d0, d1, d2, d3, _, _, _, _, hfk⟩ := (Hv.out.below hbw hB).at_ hk
              obtain ⟨rfl, rfl⟩ : b = b' ∧ off = off' := by simpa using eF
              have hai := Lib.hid hfi.2.2.2.2.1
              have hak := Lib.hid hfk.2.2.2.2.1
              have hBw := Lib.hid (Nat.le_trans hB hbw.size)
              have Hgn : Hid ((fs.getD (zs.getD n 0).toNat default).args = fs[i].args) := by show _ = _; rw [getD_of hln, Hei.out, Int.toNat_natCast, getD_of hi]
              have Hgj : Hid ((fs.getD (zs.getD j 0).toNat default).args = fs[k].args) := by show _ = _; rw [getD_of hljz, Hek.out, Int.toNat_natCast, getD_of hk]
              have hljI : (j : Int) < (n : Int) := by omega
              have hiI : (i : Int) < (fs.length : Int) := by omega
              have hkI : (k : Int) < (fs.length : Int) := by omega
              clear hfi hfk eF c0 c2 c3 d0 d2 d3 hni hnk hbw
              by_cases he : fs[i].args = fs[k].args
              · have htest : Hid (decide (fs[i].args = fs[k].args) = true) := decide_eq_true he
                have hno : Hid (differB fs = false) := by
                  show _ = _
                  refine differB_no (not_differ (nm := nm) (a := n) (b := j) (by rw [← Hzs.out]; exact hln) hlj ?_)
                  rw [← Hzs.out, Hgn.out, Hgj.out]; exact he
                clear he
                go_wp2
                go_quiet ((first | (go_at_call 145; exact slicesEqual_quiet _ _ _ _ _ _ fs[i].args fs[k].args _ _ _ htest.out hai.out hak.out hBw.out hBw.out)))
                go_wp2
                go_ret
                exact ⟨ret_bool hno.out.symm, by obtain ⟨m, rfl⟩ := hwi.out; exact below_drewN (below_drewN hb03.out m) _⟩
              · have htest : Hid (decide (fs[i].args = fs[k].args) = false) := decide_eq_false he
                have hpre3 : Hid (∀ b : Nat, b < j + 1 → (fs.getD (zs.getD n 0).toNat default).args ≠ (fs.getD (zs.getD b 0).toNat default).args) := fun b hb => by
                  by_cases e : b = j
                  · subst e; rw [Hgn.out, Hgj.out]; exact he
                  · exact hpre2.out b (by omega)
                clear he
                go_wp2
                go_quiet ((first | (go_at_call 145; exact slicesEqual_quiet _ _ _ _ _ _ fs[i].args fs[k].args _ _ _ htest.out hai.out hak.out hBw.out hBw.out)))
                go_wp2
                go_roundw
                case rel => exact ⟨j + 1, by omega, by go_num, (by show ∃ m, _ = _; obtain ⟨m, rfl⟩ := hwi.out; exact ⟨_, World.drewN_drewN ..⟩), hpre3⟩
                case measure => simp [intOf]; omega
            · obtain rfl : j = n := by omega
              have hpre3 : Hid (∀ a b : Nat, a < j + 1 → b < a → (fs.getD (zs.getD a 0).toNat default).args ≠ (fs.getD (zs.getD b 0).toNat default).args) := fun a b ha hb => by
                by_cases e : a = j
                · subst e; exact hpre2.out b hb
                · exact hpre.out a b (by omega) hb
              go_wp2
              go_roundw
              case rel => exact ⟨j + 1, by omega, by go_num, hwi.out, hpre3⟩
              case measure => simp [intOf]; omega
        · obtain rfl : n = zs.length := by omega
          have hP : Hid (∀ m : ByteArray, m.size ≤ maxLen → (left (kN m) && !(kN m).sameKey (kN nm)) = false → Parts fs (idxs fs fs.length m)) := hparts2.out (by rw [← Hzs.out]; exact fun a b ha hb => hpre.out a b ha hb)
          have hrgw : Hid (wr.ranges Tryz.prog 9 (rowElem w1 (w.heap.size + 1) 3 .i64) w.heap.size w1.heap.size fs.length D (fun z => left z && !z.sameKey (kN nm)) cnt2) := by obtain ⟨m, rfl⟩ := hwm.out; exact ranges_of_heap Hrg3.out rfl
          have hbw : Hid (Below w1.heap.size w1 wr) := by obtain ⟨m, rfl⟩ := hwm.out; exact below_drewN Hb3.out m
          have hme : Hid (wr.rangeLeft w.heap.size w1.heap.size = w3.rangeLeft w.heap.size w1.heap.size) := by obtain ⟨m, rfl⟩ := hwm.out; rfl
          go_wp2
          go_roundw
          case rel => exact ⟨_, _, hrgw, hbw, hP⟩
          case measure => have h1 := hme.out; have h2 := hmeas.out; omega
end Go.Proofs.YtnmbjmocnafekaaGreatDoor

namespace Go.Proofs.YtnmbjmocnafekaaGreatDoor
open Go.RowKit

set_option maxRecDepth 100000 in
set_option maxHeartbeats 4000000 in
theorem implSysValid_any (lo hi : Nat) (sv cv fv : Value) (y : Sy) (w : World) (hv : SyAt w lo hi sv cv fv y) (hB : hi ≤ w.heap.size) :
    Calls Tryz.prog 73 #[.agg #[sv, cv, fv]] w fun e w' => e = .returned (.bool (syB y)) ∧ Below w.heap.size w w' := by
  obtain ⟨hty, hfs⟩ := hv
  obtain ⟨A, cap, rfl, hl1, hm1, hi1⟩ := hty.1.form
  obtain ⟨B, bap, rfl, hl2, hm2, hc1⟩ := hty.2.form
  obtain ⟨F, fap, rfl, hl3, hm3, hf1⟩ := hfs.form
  unfold maxLen at hm1 hm2 hm3
  have h3 : Below w.heap.size w (w.alloc (.cells #[.slice A y.ty.sizes.length cap, .slice B y.ty.cos.length bap, .slice F y.fs.length fap] 36)) := by go_grown
  have Hty := Lib.hid (show TyAt w lo hi (.slice A y.ty.sizes.length cap) (.slice B y.ty.cos.length bap) y.ty from ⟨hi1, hc1⟩)
  have Hf1 := Lib.hid hf1
  clear hty hfs hi1 hc1 hf1
  have H1 := Lib.hid (Below.refl (w.heap.size + 1) (w.alloc (.cells #[.slice A y.ty.sizes.length cap, .slice B y.ty.cos.length bap, .slice F y.fs.length fap] 36)))
  go_enter Tryz.func73, Tryz.ntmps73
  go_wp2_with fail
  refine (implValid_any lo hi _ _ y.ty _ (Hty.out.below h3 hB) (by simp; omega)).mono ?_
  rintro e w1 ⟨rfl, hb1⟩
  have H2 := Lib.hid (H1.out.trans (hb1.mono (by simp)))
  obtain ⟨q0, q1, q2, hl, hB1⟩ := box3 H2.out
  have HB1 := Lib.hid hB1
  clear hb1 h3 hB1 H1
  by_cases c1 : tyOk y.ty = true
  case neg =>
    have H : Hid (syB y = false) := syB_no fun h => c1 h.ty
    have c1f : tyOk y.ty = false := by simpa using c1
    rw [c1f]
    clear c1
    go_wp2
    go_ret
    exact ⟨ret_bool H.out.symm, HB1.out⟩
  have hok := Lib.hid (tyOk_sizes c1)
  have C1 := Lib.hid c1
  rw [c1]
  clear c1
  by_cases c2 : y.fs.length ≤ 8
  case neg =>
    have H : Hid (syB y = false) := syB_no fun h => c2 h.few
    have hd : decide ((8 : Int) < (y.fs.length : Int)) = true := by simp; omega
    go_wp2
    go_ret
    exact ⟨ret_bool H.out.symm, HB1.out⟩
  have hd : decide ((8 : Int) < (y.fs.length : Int)) = false := by simp; omega
  have C2 := Lib.hid c2
  go_wp2
  clear hd
  go_loopw [18] (fun i wr => ∃ k : Nat, k ≤ y.fs.length ∧ i = .int .i64 k ∧ Hid (Below (w.heap.size + 1) w1 wr) ∧ Hid (∀ j, j < k → ∀ (hj : j < y.fs.length), FuOk y.ty.sizes y.fs[j])) (fun i _ => y.fs.length - (intOf i).toNat)
  case atStart => exact ⟨0, Nat.zero_le _, rfl, Below.refl _ _, fun j hj => absurd hj (by omega)⟩
  case round =>
    obtain ⟨k, hk, rfl, hbr, hok2⟩ := hrel
    have hbo : Below w.heap.size w wr := HB1.out.trans (hbr.out.mono (by omega))
    have hcl : ∀ o, wr.cell? ⟨w.heap.size, o, none⟩ = w1.cell? ⟨w.heap.size, o, none⟩ := fun o => hbr.out.cell (p := ⟨w.heap.size, o, none⟩) (by dsimp only; omega)
    have p0 := (hcl 0).trans q0
    have p1 := (hcl 1).trans q1
    have p2 := (hcl 2).trans q2
    have hlr : w.heap.size < wr.heap.size := Nat.lt_of_lt_of_le hl hbr.out.size
    clear hcl
    by_cases hkl : k < y.fs.length
    · obtain ⟨b, off, A1, cap1, A2, cap2, rfl, _, _, d0, d1, d2, d3, _, _, _, _, hfu⟩ := (Hf1.out.below hbo hB).at_ hkl
      have Hfu := Lib.hid hfu
      have Hi4 := Lib.hid (Hty.out.1.below hbo hB)
      have Hbo := Lib.hid hbo
      clear hfu hbo
      by_cases hin : fuB y.ty.sizes y.fs[k] = true
      · have hin' := Lib.hid (fuB_iff.1 hin)
        go_wp2_with fail
        refine (fitsFu_any lo hi lo hi _ _ _ _ _ y.ty.sizes y.fs[k] (wr.alloc (.cells #[.string y.fs[k].name, .slice A1 y.fs[k].args.length cap1, .int .i64 y.fs[k].res, .slice A2 y.fs[k].table.length cap2] 111)) (Hi4.out.below ((Below.refl _ _).alloc (Nat.le_refl _) _) (by omega)) (Hfu.out.below ((Below.refl _ _).alloc (Nat.le_refl _) _) (by omega)) (by simp; omega) (by simp; omega) hok.out).mono ?_
        rintro e w' ⟨rfl, hbb⟩
        have Hbb := Lib.hid hbb
        clear hbb
        rw [hin]
        go_wp2
        go_roundw
        case rel =>
          refine ⟨k + 1, by omega, by go_num, (hbr.out.alloc (by omega) _).trans (Hbb.out.mono (by simp; omega)), fun j hj hjl => ?_⟩
          by_cases ej : j = k
          · subst ej; exact hin'.out
          · exact hok2.out j (by omega) hjl
        case measure => simp [intOf]; omega
      · have hinf : fuB y.ty.sizes y.fs[k] = false := by simpa using hin
        have H : Hid (syB y = false) := syB_no fun h => hin (fuB_yes (h.each k hkl))
        clear hin
        go_wp2_with fail
        refine (fitsFu_any lo hi lo hi _ _ _ _ _ y.ty.sizes y.fs[k] (wr.alloc (.cells #[.string y.fs[k].name, .slice A1 y.fs[k].args.length cap1, .int .i64 y.fs[k].res, .slice A2 y.fs[k].table.length cap2] 111)) (Hi4.out.below ((Below.refl _ _).alloc (Nat.le_refl _) _) (by omega)) (Hfu.out.below ((Below.refl _ _).alloc (Nat.le_refl _) _) (by omega)) (by simp; omega) (by simp; omega) hok.out).mono ?_
        rintro e w' ⟨rfl, hbb⟩
        have Hbb := Lib.hid hbb
        clear hbb
        rw [hinf]
        go_wp2
        go_ret
        exact ⟨ret_bool H.out.symm, (Hbo.out.alloc (by omega) _).trans (Hbb.out.mono (by simp; omega))⟩
    · obtain rfl : k = y.fs.length := by omega
      have H : Hid (differB y.fs = syB y) := by
        show _ = _
        rw [Bool.eq_iff_iff, differB_iff, syB_iff]
        exact ⟨fun h => ⟨C1.out, C2.out, fun i hi => hok2.out i hi hi, h⟩, fun h => h.differ⟩
      have Hbo := Lib.hid hbo
      clear hbo
      go_wp2_with fail
      refine (callsDiffer_any lo hi _ y.fs _ (Hf1.out.below Hbo.out hB) (by omega) (by omega)).mono ?_
      rintro e w' ⟨rfl, hbb⟩
      have Hbb := Lib.hid hbb
      clear hbb
      go_wp2
      go_ret
      exact ⟨ret_bool H.out, Hbo.out.trans (Hbb.out.mono (by omega))⟩
end Go.Proofs.YtnmbjmocnafekaaGreatDoor

