/-
  The contracts of the model's GapOf (whether there is a gap) and IsRegular.
  The contract of the model's IsRegular.
  The program and the model find the same systems regular.
  From the reading of an argument to the words for memory: types and a coercion that come in by value.
  From the reading of an argument to the words for memory: a function and a system that come in by value.
-/
import Derived.Test.YtnmbjmocnafekaaGreatDoorG27
import Derived.Test.YtnmbjmocnafekaaGreatDoorG28
import Derived.Test.YtnmbjmocnafekaaGreatDoorG16
import Derived.BigQuiet
import Derived.Test.YtnmbjmocnafekaaGreatDoorG25
import Derived.Test.YtnmbjmocnafekaaGreatDoorRows
import Derived.Test.YtnmbjmocnafekaaGreatDoorG1
import Derived.WalkKit
import Derived.ProofKit
import Derived.OpenShut
import Derived.Lib.SmallJoins
import Derived.Deep.Slices
import Derived.Deep.Fields
import Derived.Test.YtnmbjmocnafekaaGreatDoorG2
namespace Go.Proofs.YtnmbjmocnafekaaGreatDoor
open Go.RowKit

/-- The names that functions can have. -/
def namesM : List ByteArray := (List.range 6).map fun i => str [UInt8.ofNat (102 + i)]
noncomputable def regK (y : Sy) (nm : ByteArray) (n : Nat) : Bool := (kindsS y.ty.sizes.length n).all fun ks => regB y nm ks
noncomputable def regN (y : Sy) (nm : ByteArray) : Bool := (List.range 3).all fun n => regK y nm n
/-- All calls are regular. -/
noncomputable def allReg (y : Sy) : Bool := namesM.all fun nm => regN y nm
theorem names_drop {i : Nat} (hi : i < 6) (p : ByteArray → Bool) : ((namesM.drop i).all p) = (p (str [UInt8.ofNat (102 + i)]) && (namesM.drop (i + 1)).all p) := by
  have hl : i < namesM.length := by simp [namesM]; omega
  rw [List.drop_eq_getElem_cons hl, List.all_cons]
  congr 2
  simp [namesM]
theorem range3_drop {n : Nat} (hn : n < 3) (p : Nat → Bool) : (((List.range 3).drop n).all p) = (p n && ((List.range 3).drop (n + 1)).all p) := by
  have hl : n < (List.range 3).length := by simp; omega
  rw [List.drop_eq_getElem_cons hl, List.all_cons]
  congr 2
  simp
theorem kindsS_in {t : Nat} : ∀ {n : Nat} {ks : List Int}, ks ∈ kindsS t n → ks.length = n ∧ ∀ z ∈ ks, 0 ≤ z ∧ z < (t : Int)
  | 0, ks, h => by
    rw [kindsS, List.mem_singleton] at h
    subst h
    exact ⟨rfl, fun z hz => (by cases hz)⟩
  | n + 1, ks, h => by
    rw [kindsS] at h
    obtain ⟨l, hl, hk⟩ := List.mem_flatten.1 h
    obtain ⟨r, hr, rfl⟩ := List.mem_map.1 hl
    obtain ⟨k, hk2, rfl⟩ := List.mem_map.1 hk
    obtain ⟨h1, h2⟩ := kindsS_in hr
    have := List.mem_range.1 hk2
    refine ⟨by simp [h1], fun z hz => ?_⟩
    rcases List.mem_append.1 hz with h | h
    · exact h2 z h
    · rw [List.mem_singleton] at h
      subst h
      omega
theorem kindsS_len (t : Nat) : ∀ n, (kindsS t n).length = t ^ n
  | 0 => rfl
  | n + 1 => by
    rw [kindsS, List.length_flatten, List.map_map]
    have e : (List.length ∘ fun r : List Int => (List.range t).map fun k : Nat => r ++ [(k : Int)]) = fun _ => t := by
      funext r
      simp
    rw [e, List.map_const', List.sum_replicate_nat, kindsS_len t n, Nat.pow_succ]
theorem kindsS_len25 {t n : Nat} (ht : t ≤ 5) (hn : n ≤ 2) : (kindsS t n).length ≤ 25 := by
  rw [kindsS_len]
  exact Nat.le_trans (Nat.pow_le_pow_left ht n) (Nat.le_trans (Nat.pow_le_pow_right (by decide) hn) (by decide))
theorem kindsB_in {y : Sy} (hy : SyOk y) {n : Nat} {ks : List Int} (h : ks ∈ kindsS y.ty.sizes.length n) : kindsB y ks = true := by
  obtain ⟨_, h2⟩ := kindsS_in h
  unfold kindsB
  rw [Bool.and_eq_true]
  exact ⟨allIx_iff.2 fun j hj => h2 _ (List.getElem_mem hj), syB_iff.2 hy⟩

theorem conv_name (v : World) (i : Nat) (hi : i < 6) : (convert 74 9 (.slice (some ⟨v.heap.size, 0, none⟩) 1 1)).run Tryz.prog (v.alloc (.cells #[.int .u8 (102 + (i : Int))] 5)) = .ok (.string (str [UInt8.ofNat (102 + i)])) (v.alloc (.cells #[.int .u8 (102 + (i : Int))] 5)) :=
  run_convert_bytes_back (P := Tryz.prog) _ 74 9 5 ⟨v.heap.size, 0, none⟩ 1 [UInt8.ofNat (102 + i)] Tryz.underlying74 Tryz.underlying5 Tryz.underlying9 fun j hj => by
    obtain rfl : j = 0 := by simp at hj; omega
    have e : (([UInt8.ofNat (102 + i)] : List UInt8)[0].toNat : Int) = 102 + i := by
      show ((UInt8.ofNat (102 + i)).toNat : Int) = _
      rw [UInt8.toNat_ofNat']
      omega
    rw [e]
    simp [go_sem]

set_option maxRecDepth 100000 in
set_option maxHeartbeats 1000000 in
theorem specGapOf_any (lo hi : Nat) (sv cv fv : Value) (y : Sy) (hbk : y.bulk ≤ 1048576) (w : World) (hv : SyAt w lo hi sv cv fv y) (hB : hi ≤ w.heap.size) :
    Calls Tryz.prog 14 #[.agg #[sv, cv, fv]] w fun e w' => ∃ nm A n c, e = .returned (.tuple #[.agg #[.string nm, .slice A n c], .bool (syB y && !allReg y)]) ∧ Below w.heap.size w w' := by
  obtain ⟨A1, cap1, rfl, _, _, _⟩ := hv.1.1.form
  obtain ⟨A2, cap2, rfl, _, _, _⟩ := hv.1.2.form
  obtain ⟨A3, cap3, rfl, _, _, _⟩ := hv.2.form
  obtain ⟨W2, hW2⟩ : ∃ u, u = (w.alloc (.cells #[.slice A1 y.ty.sizes.length cap1, .slice A2 y.ty.cos.length cap2, .slice A3 y.fs.length cap3] 36)).alloc (.cells #[.string ⟨#[]⟩, .slice none 0 0] 41) := ⟨_, rfl⟩
  have h2s : W2.heap.size = w.heap.size + 2 := by rw [hW2]; simp
  have HB2 : Hid (Below w.heap.size w W2) := by show Below _ _ _; rw [hW2]; exact ((Below.refl _ _).alloc (Nat.le_refl _) _).alloc (by simp) _
  have HP2 : Hid (Row W2 w.heap.size 36 [.slice A1 y.ty.sizes.length cap1, .slice A2 y.ty.cos.length cap2, .slice A3 y.fs.length cap3]) := by show Row _ _ _ _; rw [hW2]; exact (Row.new _ _ _).alloc _
  have HG2 : Hid (Row W2 (w.heap.size + 1) 41 [.string ⟨#[]⟩, .slice none 0 0]) := by
    show Row _ _ _ _
    rw [hW2]
    have h := Row.new (w.alloc (.cells #[.slice A1 y.ty.sizes.length cap1, .slice A2 y.ty.cos.length cap2, .slice A3 y.fs.length cap3] 36)) 41 [.string ⟨#[]⟩, .slice none 0 0]
    rw [World.size_alloc] at h
    exact h
  have HV := Lib.hid hv
  clear hv
  go_enter Tryz.func14, Tryz.ntmps14
  go_wp2_with fail
  rw [← hW2]
  clear hW2
  cases hs : syB y with
  | false =>
    go_loopw [4] (fun cx wr => cx = .int .u8 102 ∧ Hid (Below w.heap.size w wr) ∧ Hid (Row wr w.heap.size 36 [.slice A1 y.ty.sizes.length cap1, .slice A2 y.ty.cos.length cap2, .slice A3 y.fs.length cap3]) ∧ Hid (Row wr (w.heap.size + 1) 41 [.string ⟨#[]⟩, .slice none 0 0])) (fun _ _ => 0)
    case atStart => exact ⟨rfl, HB2.out, HP2.out, HG2.out⟩
    case round =>
      obtain ⟨rfl, hbr, hpr, hgr⟩ := hrel
      have p0 := hpr.out.cell 0
      have p1 := hpr.out.cell 1
      have p2 := hpr.out.cell 2
      simp only [List.getElem?_cons_zero, List.getElem?_cons_succ] at p0 p1 p2
      have HS := Lib.hid (specSysValid_any lo hi _ _ _ y wr (HV.out.below hbr.out hB) (by have := hbr.out.size; omega))
      go_wp2_with fail
      refine HS.out.mono ?_
      rintro e w3 ⟨rfl, hb3⟩
      rw [hs]
      have hg3 := hgr.out.below hb3 hgr.out.lt
      have hg4 := hg3.alloc (.cells #[] 3)
      have hg5 := hg4.set_ 0 (.string ⟨#[]⟩)
      have hg6 := hg5.set_ 1 (.slice (some ⟨w3.heap.size, 0, none⟩) 0 0)
      have g0 := hg4.cell 0
      have f0 := hg4.frozen 0
      have g1 := hg5.cell 1
      have f1 := hg5.frozen 1
      have G6 := Lib.hid hg6
      have HBZ : Hid (Below w.heap.size w (((w3.alloc (.cells #[] 3)).setCell ⟨w.heap.size + 1, 0, none⟩ (.string ⟨#[]⟩)).setCell ⟨w.heap.size + 1, 1, none⟩ (.slice (some ⟨w3.heap.size, 0, none⟩) 0 0))) := ((((hbr.out.trans (hb3.mono (by have := hbr.out.size; omega))).alloc (by have := hbr.out.size; have := hb3.size; omega) _).setCell (by dsimp only; omega) _).setCell (by dsimp only; omega) _)
      simp only [List.getElem?_cons_zero, List.getElem?_cons_succ, List.set_cons_zero] at g0 g1
      clear hg3 hg4 hg5 hg6 p0 p1 p2 HS
      go_wp2
      try rw [Exit.noGoto_ret]
      have r0 := G6.out.cell 0
      have r1 := G6.out.cell 1
      simp only [List.getElem?_cons_zero, List.getElem?_cons_succ, List.set_cons_zero, List.set_cons_succ] at r0 r1
      refine bodyPost_ret (v := .tuple #[.agg #[.string ⟨#[]⟩, .slice (some ⟨w3.heap.size, 0, none⟩) 0 0], .bool false]) (by simp [results, Tryz.results14, go_sem, r0, r1]) rfl ?_
      exact ⟨_, _, _, _, by rw [hs]; rfl, HBZ.out⟩
  | true =>
    have hyok := syB_iff.1 hs
    have hs5 := (sizesOk_of (tyOk_sizes hyok.ty)).2.1
    go_loopw [4] (fun cx wr => ∃ i : Nat, i ≤ 6 ∧ cx = .int .u8 (102 + (i : Int)) ∧ Hid (Below w.heap.size w wr) ∧ Hid (Row wr w.heap.size 36 [.slice A1 y.ty.sizes.length cap1, .slice A2 y.ty.cos.length cap2, .slice A3 y.fs.length cap3]) ∧ Hid (Row wr (w.heap.size + 1) 41 [.string ⟨#[]⟩, .slice none 0 0]) ∧ Hid (allReg y = ((namesM.drop i).all fun nm => regN y nm))) (fun cx _ => 108 - (intOf cx).toNat)
    case atStart => exact ⟨0, Nat.zero_le _, rfl, HB2.out, HP2.out, HG2.out, rfl⟩
    case round =>
      obtain ⟨i, hi6, rfl, hbr, hpr, hgr, hall⟩ := hrel
      obtain ⟨wr, rfl⟩ : ∃ u, u = wr := ⟨_, rfl⟩
      have p0 := hpr.out.cell 0
      have p1 := hpr.out.cell 1
      have p2 := hpr.out.cell 2
      simp only [List.getElem?_cons_zero, List.getElem?_cons_succ] at p0 p1 p2
      have hsr := hbr.out.size
      have HS := Lib.hid (specSysValid_any lo hi _ _ _ y wr (HV.out.below hbr.out hB) (by omega))
      by_cases hil : i < 6
      · have hcI : 102 + (i : Int) ≤ 107 := by omega
        obtain ⟨nm, hnm⟩ : ∃ nm, nm = str [UInt8.ofNat (102 + i)] := ⟨_, rfl⟩
        have hd := names_drop hil fun nm => regN y nm
        rw [← hnm] at hd
        go_wp2_with fail
        refine HS.out.mono ?_
        rintro e w3 ⟨rfl, hb3⟩
        rw [hs]
        have hs3 := hb3.size
        have HB3 : Hid (Below w.heap.size w w3) := hbr.out.trans (hb3.mono hsr)
        have HP3 : Hid (Row w3 w.heap.size 36 [.slice A1 y.ty.sizes.length cap1, .slice A2 y.ty.cos.length cap2, .slice A3 y.fs.length cap3]) := hpr.out.below hb3 hpr.out.lt
        have HG3 : Hid (Row w3 (w.heap.size + 1) 41 [.string ⟨#[]⟩, .slice none 0 0]) := hgr.out.below hb3 hgr.out.lt
        obtain ⟨RR, hRR⟩ : ∃ b, b = ((namesM.drop (i + 1)).all fun nm => regN y nm) := ⟨_, rfl⟩
        rw [← hRR] at hd
        have HA3 : Hid (allReg y = (((List.range 3).drop 0).all (fun n => regK y nm n) && RR)) := by show _ = _; rw [hall.out, hd]; rfl
        have HRR := Lib.hid hRR
        have HNM := Lib.hid hnm
        clear hb3 HS p0 p1 p2 hd hall hRR hnm
        go_wp2_with fail
        go_loopw [16] (fun nx wm => ∃ n : Nat, n ≤ 3 ∧ nx = .int .i64 n ∧ Hid (Below w.heap.size w wm) ∧ Hid (Row wm w.heap.size 36 [.slice A1 y.ty.sizes.length cap1, .slice A2 y.ty.cos.length cap2, .slice A3 y.fs.length cap3]) ∧ Hid (Row wm (w.heap.size + 1) 41 [.string ⟨#[]⟩, .slice none 0 0]) ∧ Hid (allReg y = (((List.range 3).drop n).all (fun n => regK y nm n) && RR))) (fun nx _ => 3 - (intOf nx).toNat)
        case atStart => exact ⟨0, Nat.zero_le _, rfl, HB3.out, HP3.out, HG3.out, HA3.out⟩
        case round =>
          obtain ⟨n, hn, rfl, hbm, hpm, hgm, ham⟩ := hrel
          obtain ⟨wm, rfl⟩ : ∃ u, u = wr := ⟨_, rfl⟩
          have hsm := hbm.out.size
          by_cases hn3 : n < 3
          · have hnI : (n : Int) < 3 := by omega
            have p0 := hpm.out.cell 0
            simp only [List.getElem?_cons_zero] at p0
            have HK := Lib.hid (l10Kinds_any y.ty.sizes.length n hs5 (by omega) wm)
            have hd := range3_drop hn3 fun n => regK y nm n
            go_wp2_with fail
            refine HK.out.mono ?_
            rintro e w4 ⟨ov, rfl, hb4, xs, S, ho, hread, hS⟩
            have hs4 := hb4.size
            have hin := fun (ks : List Int) (h : ks ∈ kindsS y.ty.sizes.length n) => kindsB_in hyok h
            obtain ⟨RK, hRK⟩ : ∃ b, b = (((List.range 3).drop (n + 1)).all (fun n => regK y nm n) && RR) := ⟨_, rfl⟩
            have HA4 : Hid (allReg y = (((kindsS y.ty.sizes.length n).drop 0).all (fun ks => regB y nm ks) && RK)) := by show _ = _; rw [ham.out, hd, hRK, Bool.and_assoc]; rfl
            obtain ⟨kss, hkss⟩ : ∃ kss, kss = kindsS y.ty.sizes.length n := ⟨_, rfl⟩
            rw [← hkss] at ho hread hin HA4
            obtain ⟨OA, OC, rfl⟩ := owns_form ho
            have HO := Lib.hid ho
            have HRD := Lib.hid hread
            have HSS := Lib.hid hS
            have HIN := Lib.hid hin
            have HRK := Lib.hid hRK
            have HB4 : Hid (Below w.heap.size w w4) := hbm.out.trans (hb4.mono hsm)
            have HP4 : Hid (Row w4 w.heap.size 36 [.slice A1 y.ty.sizes.length cap1, .slice A2 y.ty.cos.length cap2, .slice A3 y.fs.length cap3]) := hpm.out.below hb4 hpm.out.lt
            have HG4 : Hid (Row w4 (w.heap.size + 1) 41 [.string ⟨#[]⟩, .slice none 0 0]) := hgm.out.below hb4 hgm.out.lt
            have hgl := hgm.out.lt
            have hkl : kss.length ≤ 25 := by rw [hkss]; exact kindsS_len25 hs5 (by omega)
            clear hb4 HK ho hread hS hin p0 hd hkss hRK ham
            go_wp2_with fail
            go_loopw [26] (fun jx wi => ∃ j : Nat, j ≤ kss.length ∧ jx = .int .i64 j ∧ Hid (Below w4.heap.size w4 wi) ∧ Hid (allReg y = ((kss.drop j).all (fun ks => regB y nm ks) && RK))) (fun jx _ => kss.length - (intOf jx).toNat)
            case atStart => exact ⟨0, Nat.zero_le _, rfl, Below.refl _ _, HA4.out⟩
            case round =>
              obtain ⟨j, hj, rfl, hbi, hai⟩ := hrel
              obtain ⟨wi, rfl⟩ : ∃ u, u = wr := ⟨_, rfl⟩
              have hsi := hbi.out.size
              have hpi := HP4.out.below hbi.out HP4.out.lt
              have hgi := HG4.out.below hbi.out HG4.out.lt
              by_cases hjl : j < kss.length
              · obtain ⟨og, hOA, hg1, hg2, _, hcells⟩ := own_cells HO.out (by omega)
                subst hOA
                obtain ⟨x, hx, hxin⟩ := HRD.out j hjl
                have hok := HIN.out kss[j] (List.getElem_mem hjl)
                have hck : wi.cell? ⟨og, j, none⟩ = some x := (World.cell?_of_block (w := w4) (hbi.out.block og hg2)).trans ((hcells j hjl).trans hx)
                have hdj : ((kss.drop j).all fun ks => regB y nm ks) = (regB y nm kss[j] && (kss.drop (j + 1)).all fun ks => regB y nm ks) := by rw [List.drop_eq_getElem_cons hjl, List.all_cons]
                obtain ⟨ks, hks⟩ : ∃ ks, ks = kss[j] := ⟨_, rfl⟩
                rw [← hks] at hxin hok hdj
                obtain ⟨XA, XC, rfl, _, _, _, _⟩ := id hxin
                have hjI : (j : Int) < (kss.length : Int) := by omega
                have q0 := hpi.cell 0
                have q1 := hpi.cell 1
                have q2 := hpi.cell 2
                simp only [List.getElem?_cons_zero, List.getElem?_cons_succ] at q0 q1 q2
                have hcv := conv_name wi i hil
                rw [← HNM.out] at hcv
                have hal : Below wi.heap.size wi (wi.alloc (.cells #[.int .u8 (102 + (i : Int))] 5)) := (Below.refl _ _).alloc (Nat.le_refl _) _
                have hb4a : Below w4.heap.size w4 (wi.alloc (.cells #[.int .u8 (102 + (i : Int))] 5)) := hbi.out.trans (hal.mono hsi)
                have hbwa : Below w.heap.size w (wi.alloc (.cells #[.int .u8 (102 + (i : Int))] 5)) := HB4.out.trans (hb4a.mono (by omega))
                have HRG := Lib.hid (l10Regular_any lo hi wm.heap.size w4.heap.size _ _ _ _ y nm ks _ (HV.out.below hbwa hB) ((hxin.keep fun b hb => hb4a.block b (HSS.out b hb).2.1).at fun b hb => ⟨(HSS.out b hb).1, (HSS.out b hb).2.1⟩) (by have := hbwa.size; omega) (by have := hb4a.size; omega) hbk hok)
                have HAL := Lib.hid hal
                have HB4A := Lib.hid hb4a
                obtain ⟨rg, hrg⟩ : ∃ b, b = regB y nm ks := ⟨_, rfl⟩
                rw [← hrg] at HRG hdj
                have hrl := HAL.out.size
                rw [World.size_alloc] at hrl
                clear hx hxin hcells hal hb4a hbwa hrg hok
                rw [← hks] at *
                clear hks
                go_wp2_with fail
                refine HRG.out.mono ?_
                clear HRG hck q0 q1 q2
                rintro e w6 ⟨rfl, hb6⟩
                rw [World.size_alloc] at hb6
                have hs6 := hb6.size
                rw [World.size_alloc] at hs6
                have HB6 : Hid (Below w4.heap.size w4 w6) := HB4A.out.trans (hb6.mono (by omega))
                cases rg with
                | true =>
                  have HA6 : Hid (allReg y = (((kss.drop (j + 1)).all fun ks => regB y nm ks) && RK)) := by show _ = _; rw [hai.out, hdj, Bool.true_and]
                  clear hb6 hdj
                  go_wp2
                  go_roundw
                  case rel => exact ⟨j + 1, by omega, by go_num, HB6.out, HA6.out⟩
                  case measure => simp [intOf]; omega
                | false =>
                  have HAF : Hid (allReg y = false) := by show _ = _; rw [hai.out, hdj, Bool.false_and, Bool.false_and]
                  have hg6 := HG4.out.below HB6.out HG4.out.lt
                  have hcv6 := conv_name w6 i hil
                  rw [← HNM.out] at hcv6
                  have hg7 := hg6.alloc (.cells #[.int .u8 (102 + (i : Int))] 5)
                  have hg8 := hg7.set_ 0 (.string nm)
                  have hg9 := hg8.set_ 1 (.slice XA ks.length XC)
                  have g0 := hg7.cell 0
                  have f0 := hg7.frozen 0
                  have g1 := hg8.cell 1
                  have f1 := hg8.frozen 1
                  have G9 := Lib.hid hg9
                  have HBZ : Hid (Below w.heap.size w (((w6.alloc (.cells #[.int .u8 (102 + (i : Int))] 5)).setCell ⟨w.heap.size + 1, 0, none⟩ (.string nm)).setCell ⟨w.heap.size + 1, 1, none⟩ (.slice XA ks.length XC))) := ((((HB4.out.trans (HB6.out.mono (by have := HB4.out.size; omega))).alloc (by have := HB4.out.size; have := HB6.out.size; omega) _).setCell (by dsimp only; omega) _).setCell (by dsimp only; omega) _)
                  simp only [List.getElem?_cons_zero, List.getElem?_cons_succ, List.set_cons_zero] at g0 g1
                  clear hg6 hg7 hg8 hg9 hb6 hdj hai
                  go_wp2
                  try rw [Exit.noGoto_ret]
                  have r0 := G9.out.cell 0
                  have r1 := G9.out.cell 1
                  simp only [List.getElem?_cons_zero, List.getElem?_cons_succ, List.set_cons_zero, List.set_cons_succ] at r0 r1
                  refine bodyPost_ret (v := .tuple #[.agg #[.string nm, .slice XA ks.length XC], .bool true]) (by simp [results, Tryz.results14, go_sem, r0, r1]) rfl ?_
                  exact ⟨_, _, _, _, by rw [hs, HAF.out]; rfl, HBZ.out⟩
              · obtain rfl : j = kss.length := by omega
                have HA5 : Hid (allReg y = (((List.range 3).drop (n + 1)).all (fun n => regK y nm n) && RR)) := by
                  show _ = _
                  rw [hai.out, List.drop_length, ← HRK.out]
                  rfl
                go_wp2
                go_roundw
                case rel => exact ⟨n + 1, by omega, by go_num, HB4.out.trans (hbi.out.mono (by have := HB4.out.size; omega)), hpi, hgi, HA5.out⟩
                case measure => simp [intOf]; omega
          · obtain rfl : n = 3 := by omega
            have HA5 : Hid (allReg y = ((namesM.drop (i + 1)).all fun nm => regN y nm)) := by
              show _ = _
              rw [ham.out, ← HRR.out]
              rfl
            go_wp2
            go_roundw
            case rel => exact ⟨i + 1, by omega, by rw [show (102 + (i : Int) + 1) = 102 + ((i + 1 : Nat) : Int) by omega], hbm.out, hpm.out, hgm.out, HA5.out⟩
            case measure => simp [intOf]; omega
      · obtain rfl : i = 6 := by omega
        have HAT : Hid (allReg y = true) := by
          show _ = _
          rw [hall.out, show namesM.drop 6 = [] from List.drop_eq_nil_of_le (by simp [namesM])]
          rfl
        go_wp2_with fail
        refine HS.out.mono ?_
        rintro e w3 ⟨rfl, hb3⟩
        rw [hs]
        have hg3 := hgr.out.below hb3 hgr.out.lt
        have hg4 := hg3.alloc (.cells #[] 3)
        have hg5 := hg4.set_ 0 (.string ⟨#[]⟩)
        have hg6 := hg5.set_ 1 (.slice (some ⟨w3.heap.size, 0, none⟩) 0 0)
        have g0 := hg4.cell 0
        have f0 := hg4.frozen 0
        have g1 := hg5.cell 1
        have f1 := hg5.frozen 1
        have G6 := Lib.hid hg6
        have HBZ : Hid (Below w.heap.size w (((w3.alloc (.cells #[] 3)).setCell ⟨w.heap.size + 1, 0, none⟩ (.string ⟨#[]⟩)).setCell ⟨w.heap.size + 1, 1, none⟩ (.slice (some ⟨w3.heap.size, 0, none⟩) 0 0))) := ((((hbr.out.trans (hb3.mono (by have := hbr.out.size; omega))).alloc (by have := hbr.out.size; have := hb3.size; omega) _).setCell (by dsimp only; omega) _).setCell (by dsimp only; omega) _)
        simp only [List.getElem?_cons_zero, List.getElem?_cons_succ, List.set_cons_zero] at g0 g1
        clear hg3 hg4 hg5 hg6 p0 p1 p2 HS
        go_wp2
        try rw [Exit.noGoto_ret]
        have r0 := G6.out.cell 0
        have r1 := G6.out.cell 1
        simp only [List.getElem?_cons_zero, List.getElem?_cons_succ, List.set_cons_zero, List.set_cons_succ] at r0 r1
        refine bodyPost_ret (v := .tuple #[.agg #[.string ⟨#[]⟩, .slice (some ⟨w3.heap.size, 0, none⟩) 0 0], .bool false]) (by simp [results, Tryz.results14, go_sem, r0, r1]) rfl ?_
        exact ⟨_, _, _, _, by rw [hs, HAT.out]; rfl, HBZ.out⟩
end Go.Proofs.YtnmbjmocnafekaaGreatDoor

namespace Go.Proofs.YtnmbjmocnafekaaGreatDoor
open Go.RowKit

set_option maxRecDepth 100000 in
set_option maxHeartbeats 1000000 in
theorem specIsRegular_any (lo hi : Nat) (sv cv fv : Value) (y : Sy) (hbk : y.bulk ≤ 1048576) (w : World) (hv : SyAt w lo hi sv cv fv y) (hB : hi ≤ w.heap.size) :
    Calls Tryz.prog 10 #[.agg #[sv, cv, fv]] w fun e w' => e = .returned (.bool (syB y && allReg y)) ∧ Below w.heap.size w w' := by
  obtain ⟨A1, cap1, rfl, _, _, _⟩ := hv.1.1.form
  obtain ⟨A2, cap2, rfl, _, _, _⟩ := hv.1.2.form
  obtain ⟨A3, cap3, rfl, _, _, _⟩ := hv.2.form
  obtain ⟨W1, hW1⟩ : ∃ u, u = w.alloc (.cells #[.slice A1 y.ty.sizes.length cap1, .slice A2 y.ty.cos.length cap2, .slice A3 y.fs.length cap3] 36) := ⟨_, rfl⟩
  have hb1 : Below w.heap.size w W1 := by rw [hW1]; exact (Below.refl _ _).alloc (Nat.le_refl _) _
  have r1 : Row W1 w.heap.size 36 [.slice A1 y.ty.sizes.length cap1, .slice A2 y.ty.cos.length cap2, .slice A3 y.fs.length cap3] := by rw [hW1]; exact Row.new _ _ _
  have hs1 := hb1.size
  have HG := Lib.hid (specGapOf_any lo hi _ _ _ y hbk W1 (hv.below hb1 hB) (by omega))
  have HV := Lib.hid hv
  have HB1 := Lib.hid hb1
  have HR1 := Lib.hid r1
  have p0 := r1.cell 0
  have p1 := r1.cell 1
  have p2 := r1.cell 2
  simp only [List.getElem?_cons_zero, List.getElem?_cons_succ] at p0 p1 p2
  rw [hW1] at p0 p1 p2
  clear hv hb1 r1
  go_enter Tryz.func10, Tryz.ntmps10
  go_wp2_with fail
  rw [← hW1]
  refine HG.out.mono ?_
  clear hW1 HG p0 p1 p2
  rintro e w2 ⟨nm, A, n, c, rfl, hb2⟩
  have hs2 := hb2.size
  have HB2 : Hid (Below w.heap.size w w2) := HB1.out.trans (hb2.mono hs1)
  have hr2 := HR1.out.below hb2 HR1.out.lt
  have hr3 := hr2.alloc (.cells #[.string nm, .slice A n c] 41)
  have p0 := hr3.cell 0
  have p1 := hr3.cell 1
  have p2 := hr3.cell 2
  simp only [List.getElem?_cons_zero, List.getElem?_cons_succ] at p0 p1 p2
  have hb3 : Below w.heap.size w (w2.alloc (.cells #[.string nm, .slice A n c] 41)) := HB2.out.alloc (by omega) _
  have HS := Lib.hid (specSysValid_any lo hi _ _ _ y _ (HV.out.below hb3 hB) (by rw [World.size_alloc]; omega))
  have HB3 := Lib.hid hb3
  clear hb2 hr2 hr3 hb3
  go_wp2_with fail
  refine HS.out.mono ?_
  clear HS p0 p1 p2
  rintro e w4 ⟨rfl, hb4⟩
  have HB4 : Hid (Below w.heap.size w w4) := HB3.out.trans (hb4.mono (by rw [World.size_alloc]; omega))
  clear hb4
  cases hs : syB y with
  | false =>
    go_wp2
    go_ret
    exact ⟨by rw [hs]; rfl, HB4.out⟩
  | true =>
    cases hr : allReg y with
    | false =>
      go_wp2
      go_ret
      exact ⟨by rw [hs, hr]; rfl, HB4.out⟩
    | true =>
      go_wp2
      go_ret
      exact ⟨by rw [hs, hr]; rfl, HB4.out⟩
end Go.Proofs.YtnmbjmocnafekaaGreatDoor

namespace Go.Proofs.YtnmbjmocnafekaaGreatDoor
open Go.RowKit

theorem regs_same {y : Sy} (hy : SyOk y) : regL y (callsL y.ty.sizes.length (namesY y)) = allReg y := by
  rw [Bool.eq_iff_iff]
  constructor
  · intro h
    unfold allReg regN regK
    refine List.all_eq_true.2 fun nm hnm => List.all_eq_true.2 fun n hn => List.all_eq_true.2 fun ks hks => ?_
    cases hL : applicV y nm ks with
    | nil => exact regB_nil hL
    | cons z l =>
      obtain ⟨_, i, hi, hname, _, _⟩ := applicV_mem.1 (show z ∈ applicV y nm ks by rw [hL]; simp)
      rw [getD_of hi] at hname
      obtain ⟨k, _, rfl⟩ := List.mem_map.1 hnm
      have hn3 := List.mem_range.1 hn
      exact List.all_eq_true.1 h ([UInt8.ofNat (102 + k)], ks) (callsL_in.2 ⟨namesY_mem.2 ⟨i, hi, hname⟩, n, hn3, by rw [← kindsS_rows _ (by omega)]; exact hks⟩)
  · intro h
    unfold allReg regN regK at h
    refine List.all_eq_true.2 fun p hp => ?_
    obtain ⟨h1, n, hn, h2⟩ := callsL_in.1 hp
    obtain ⟨i, hi, e⟩ := namesY_mem.1 h1
    obtain ⟨b, hb, h3, h4⟩ := (hy.each i hi).name
    have hm : str p.1 ∈ namesM := by
      rw [← e, hb]
      refine List.mem_map.2 ⟨b.toNat - 102, List.mem_range.2 (by omega), ?_⟩
      rw [show 102 + (b.toNat - 102) = b.toNat by omega, UInt8.ofNat_toNat]
      rfl
    exact List.all_eq_true.1 (List.all_eq_true.1 (List.all_eq_true.1 h _ hm) n (List.mem_range.2 hn)) p.2 (by rw [kindsS_rows _ (by omega)]; exact h2)
theorem isReg_same (y : Sy) : isReg y = (syB y && allReg y) := by
  unfold isReg
  cases hs : syB y with
  | false => rfl
  | true => rw [regs_same (syB_iff.1 hs)]
end Go.Proofs.YtnmbjmocnafekaaGreatDoor

namespace Go.Proofs.YtnmbjmocnafekaaGreatDoor
open Go.ChangeShapes Go.WideShapes Go.ChangeAt Go.RowKit Go.Joins Go.Deep

theorem Tryz.own : ownKnob Tryz.prog.godebug = none := by kernel_rfl
theorem Tryz.laidOut : laidOutB Tryz.prog = true := by kernel_rfl
theorem Tryz.cellsInt : Tryz.prog.cellsOf 3 = 1 := by kernel_rfl
theorem Tryz.cellsTypes : Tryz.prog.cellsOf 25 = 2 := by kernel_rfl
theorem Tryz.cellsCo : Tryz.prog.cellsOf 184 = 3 := by kernel_rfl

theorem wf_I64 {z : Int} (h : (Lit.int .i64 z).wf = true) : I64 z := by
  simpa [Lit.wf, IntKind.min, IntKind.max, IntKind.signed, IntKind.bits, I64] using h

section
variable {H : Type} {enc : TypeId × Value → H} {W : World} {base : Nat} {held : Bool}

/-- A slice of ints that comes in. -/
theorem open_intsAt {fuel : Nat} {v : Value} {x : DataW H × List MemPlace} (h : DataW.trod enc Tryz.prog W base (fun _ => true) held fuel 22 [v] = some x) : ∃ zs, IntsAt W 0 W.heap.size v zs := by
  rcases open_ints Tryz.underlying22 Tryz.underlying3 Tryz.cellsInt h with ⟨hcs, _⟩ | ⟨a, len, cap, zs, hcs, _, hl, hm, hz, _, hcell, hwz⟩
  · simp only [List.cons.injEq, and_true] at hcs
    subst hcs
    exact ⟨[], _, _, rfl, Nat.le_refl _, Nat.zero_le _, fun z hz => absurd hz (by simp), fun h => absurd h (by simp)⟩
  · simp only [List.cons.injEq, and_true] at hcs
    subst hcs
    simp only [if_true] at hz
    have e : (zs.take len).length = len := by rw [List.length_take]; omega
    refine ⟨zs.take len, some a, cap, by rw [e], by rw [e]; exact hl, hm, fun z hzm => wf_I64 (hwz z (List.mem_of_mem_take hzm)), fun h0 => ?_⟩
    rw [e] at h0
    obtain ⟨b, off, spot⟩ := a
    have hspot : spot = none := by simpa [Addr.add] using World.cell?_spot (hcell 0 (by omega))
    subst hspot
    refine ⟨b, off, rfl, Nat.zero_le _, World.block_lt_of_cell? W _ (hcell 0 (by omega)), fun k hk => ?_⟩
    rw [e] at hk
    rw [← add_plain, hcell k (by omega), List.getD_eq_getElem?_getD, List.getD_eq_getElem?_getD, List.getElem?_take_of_lt hk]

theorem three_fields {P : Program} {spare : Nat → Bool} {t : TypeId} {f0 f1 f2 : Field} {n : Nat} {x y z : Value} {r : DataW H × List MemPlace} (hs : P.underlying t = some (.struct #[f0, f1, f2])) (hone : oneCellFields P #[f0, f1, f2] = true)
    (h : DataW.trod enc P W base spare held n t [x, y, z] = some r) :
    ∃ (y0 y1 y2 : DataW H × List MemPlace) (m : Nat), DataW.trod enc P W base spare held m f0.type [x] = some y0 ∧ DataW.trod enc P W base spare held m f1.type [y] = some y1 ∧ DataW.trod enc P W base spare held m f2.type [z] = some y2 := by
  obtain ⟨ys, m, _, _, _, hyl, hf⟩ := DataW.trod_struct hs h
  obtain ⟨o0, k0⟩ := hone_of hone 0 f0 rfl
  obtain ⟨o1, k1⟩ := hone_of hone 1 f1 rfl
  obtain ⟨o2, k2⟩ := hone_of hone 2 f2 rfl
  match ys, hyl with
  | [y0, y1, y2], _ =>
    exact ⟨y0, y1, y2, m, by simpa [o0, k0] using hf 0 f0 rfl, by simpa [o1, k1] using hf 1 f1 rfl, by simpa [o2, k2] using hf 2 f2 rfl⟩

/-- A coercion's three cells. -/
theorem open_coAt {n : Nat} {x y z : Value} {r : DataW H × List MemPlace} (h : DataW.trod enc Tryz.prog W base (fun _ => true) held n 184 [x, y, z] = some r) : ∃ c, CoAt W 0 W.heap.size x y z c := by
  obtain ⟨y0, y1, y2, m, e0, e1, e2⟩ := three_fields Tryz.underlying184 (by kernel_rfl) h
  obtain ⟨a, ea, _, wa⟩ := DataW.trod_int Tryz.underlying3 e0
  obtain ⟨b, eb, _, wb⟩ := DataW.trod_int Tryz.underlying3 e1
  obtain ⟨zs, hz⟩ := open_intsAt e2
  simp only [List.cons.injEq, and_true] at ea eb
  exact ⟨⟨a, b, zs⟩, ea, eb, wf_I64 wa, wf_I64 wb, hz⟩

theorem open_cosAt {fuel : Nat} {v : Value} {x : DataW H × List MemPlace} (h : DataW.trod enc Tryz.prog W base (fun _ => true) held fuel 23 [v] = some x) : ∃ cs, CosAt W 0 W.heap.size v cs := by
  rcases open_slice Tryz.underlying23 h with ⟨hcs, _⟩ | ⟨a, len, cap, m, n, D, Pl, hcs, hb, hl, hm, hmm, hx, hi⟩
  · simp only [List.cons.injEq, and_true] at hcs
    subst hcs
    exact ⟨[], _, _, rfl, Nat.le_refl _, Nat.zero_le _, fun h => absurd h (by simp)⟩
  · simp only [List.cons.injEq, and_true] at hcs
    subst hcs
    simp only [if_true] at hmm
    have key : ∀ i, i < len → ∃ c : Co, ∃ x y z, W.cell? (a.add (i * 3)) = some x ∧ W.cell? ((a.add (i * 3)).add 1) = some y ∧ W.cell? ((a.add (i * 3)).add 2) = some z ∧ CoAt W 0 W.heap.size x y z c := by
      intro i hil
      obtain ⟨cs', hc, ht⟩ := hi i (by omega)
      rw [Tryz.cellsCo] at hc
      obtain ⟨_, hcl, hat⟩ := World.cells?_some hc
      match cs', hcl with
      | [x, y, z], _ =>
        obtain ⟨c, hco⟩ := open_coAt ht
        exact ⟨c, x, y, z, by simpa [Addr.add] using hat 0 (by omega), hat 1 (by omega), hat 2 (by omega), hco⟩
    obtain ⟨f, hfx⟩ := choose_lt key
    have e : ((List.range len).map f).length = len := by simp
    refine ⟨(List.range len).map f, some a, cap, by rw [e], by rw [e]; exact hl, hm, fun h0 => ?_⟩
    rw [e] at h0
    obtain ⟨b, off, spot⟩ := a
    obtain ⟨x0, _, _, h00, _⟩ := hfx 0 h0
    have hspot : spot = none := by simpa [Addr.add] using World.cell?_spot h00
    subst hspot
    refine ⟨b, off, rfl, Nat.zero_le _, ?_, fun k hk => ?_⟩
    · have := World.block_lt_of_cell? W _ h00
      simpa [Addr.add] using this
    · rw [e] at hk
      obtain ⟨x, y, z, c0, c1, c2, hco⟩ := hfx k hk
      rw [add_plain] at c0 c1 c2
      rw [add_plain] at c1 c2
      refine ⟨x, y, z, c0, c1, c2, ?_⟩
      rw [List.getD_eq_getElem?_getD, List.getElem?_eq_getElem (by rw [e]; exact hk)]
      simpa using hco

set_option maxRecDepth 100000 in
/-- Types that come in by value. -/
theorem open_tyAt {r : Reach} {b0 : Nat} {v : Value} {d : DataW H} {p : List MemPlace} (hv : Value.okWide Tryz.prog W r b0 25 v) (h : DataW.Trod enc Tryz.prog W base (fun _ => true) held 25 v d p) :
    ∃ sv cv t, v = .agg #[sv, cv] ∧ TyAt W 0 W.heap.size sv cv t := by
  obtain ⟨c0, c1, y0, y1, m, rfl, _, _, hy0, hy1⟩ := open_agg2 Tryz.underlying25 (by kernel_rfl) Tryz.cellsTypes hv h
  obtain ⟨zs, hz⟩ := open_intsAt hy0
  obtain ⟨cs, hc⟩ := open_cosAt hy1
  exact ⟨c0, c1, ⟨zs, cs⟩, rfl, hz, hc⟩

set_option maxRecDepth 100000 in
/-- A coercion that comes in by value. -/
theorem open_coVal {r : Reach} {b0 : Nat} {v : Value} {d : DataW H} {p : List MemPlace} (hv : Value.okWide Tryz.prog W r b0 184 v) (h : DataW.Trod enc Tryz.prog W base (fun _ => true) held 184 v d p) :
    ∃ x y z c, v = .agg #[x, y, z] ∧ CoAt W 0 W.heap.size x y z c := by
  obtain ⟨cs, rfl, hsz⟩ := okWide_struct Tryz.underlying184 hv
  obtain ⟨l⟩ := cs
  match l, hsz.trans Tryz.cellsCo with
  | [x, y, z], _ =>
    obtain ⟨fuel, hf⟩ := h
    obtain ⟨c, hc⟩ := open_coAt (by simpa [Value.cells] using hf)
    exact ⟨x, y, z, c, rfl, hc⟩
end
end Go.Proofs.YtnmbjmocnafekaaGreatDoor

namespace Go.Proofs.YtnmbjmocnafekaaGreatDoor
open Go.ChangeShapes Go.WideShapes Go.ChangeAt Go.RowKit Go.Joins Go.Deep

theorem Tryz.cellsFunction : Tryz.prog.cellsOf 109 = 4 := by kernel_rfl
theorem Tryz.cellsSystem : Tryz.prog.cellsOf 28 = 3 := by kernel_rfl

section
variable {H : Type} {enc : TypeId × Value → H} {W : World} {base : Nat} {held : Bool}

theorem four_fields {P : Program} {spare : Nat → Bool} {t : TypeId} {f0 f1 f2 f3 : Field} {n : Nat} {x y z u : Value} {r : DataW H × List MemPlace} (hs : P.underlying t = some (.struct #[f0, f1, f2, f3])) (hone : oneCellFields P #[f0, f1, f2, f3] = true)
    (h : DataW.trod enc P W base spare held n t [x, y, z, u] = some r) :
    ∃ (y0 y1 y2 y3 : DataW H × List MemPlace) (m : Nat), DataW.trod enc P W base spare held m f0.type [x] = some y0 ∧ DataW.trod enc P W base spare held m f1.type [y] = some y1 ∧ DataW.trod enc P W base spare held m f2.type [z] = some y2 ∧ DataW.trod enc P W base spare held m f3.type [u] = some y3 := by
  obtain ⟨ys, m, _, _, _, hyl, hf⟩ := DataW.trod_struct hs h
  obtain ⟨o0, k0⟩ := hone_of hone 0 f0 rfl
  obtain ⟨o1, k1⟩ := hone_of hone 1 f1 rfl
  obtain ⟨o2, k2⟩ := hone_of hone 2 f2 rfl
  obtain ⟨o3, k3⟩ := hone_of hone 3 f3 rfl
  match ys, hyl with
  | [y0, y1, y2, y3], _ =>
    exact ⟨y0, y1, y2, y3, m, by simpa [o0, k0] using hf 0 f0 rfl, by simpa [o1, k1] using hf 1 f1 rfl, by simpa [o2, k2] using hf 2 f2 rfl, by simpa [o3, k3] using hf 3 f3 rfl⟩

theorem two_fields {P : Program} {spare : Nat → Bool} {t : TypeId} {f0 f1 : Field} {n : Nat} {x y : Value} {r : DataW H × List MemPlace} (hs : P.underlying t = some (.struct #[f0, f1])) (hone : oneCellFields P #[f0, f1] = true)
    (h : DataW.trod enc P W base spare held n t [x, y] = some r) :
    ∃ (y0 y1 : DataW H × List MemPlace) (m : Nat), DataW.trod enc P W base spare held m f0.type [x] = some y0 ∧ DataW.trod enc P W base spare held m f1.type [y] = some y1 := by
  obtain ⟨ys, m, _, _, _, hyl, hf⟩ := DataW.trod_struct hs h
  obtain ⟨o0, k0⟩ := hone_of hone 0 f0 rfl
  obtain ⟨o1, k1⟩ := hone_of hone 1 f1 rfl
  match ys, hyl with
  | [y0, y1], _ =>
    exact ⟨y0, y1, m, by simpa [o0, k0] using hf 0 f0 rfl, by simpa [o1, k1] using hf 1 f1 rfl⟩

theorem two_one_fields {P : Program} {spare : Nat → Bool} {t : TypeId} {f0 f1 : Field} {n : Nat} {x y z : Value} {r : DataW H × List MemPlace} (hs : P.underlying t = some (.struct #[f0, f1])) (o0 : f0.offset = 0) (k0 : P.cellsOf f0.type = 2) (o1 : f1.offset = 2) (k1 : P.cellsOf f1.type = 1)
    (h : DataW.trod enc P W base spare held n t [x, y, z] = some r) :
    ∃ (y0 y1 : DataW H × List MemPlace) (m : Nat), DataW.trod enc P W base spare held m f0.type [x, y] = some y0 ∧ DataW.trod enc P W base spare held m f1.type [z] = some y1 := by
  obtain ⟨ys, m, _, _, _, hyl, hf⟩ := DataW.trod_struct hs h
  match ys, hyl with
  | [y0, y1], _ =>
    exact ⟨y0, y1, m, by simpa [o0, k0] using hf 0 f0 rfl, by simpa [o1, k1] using hf 1 f1 rfl⟩

/-- A function's four cells. -/
theorem open_fuAt {n : Nat} {x a r t : Value} {d : DataW H × List MemPlace} (h : DataW.trod enc Tryz.prog W base (fun _ => true) held n 109 [x, a, r, t] = some d) : ∃ f, FuAt W 0 W.heap.size x a r t f := by
  obtain ⟨y0, y1, y2, y3, m, e0, e1, e2, e3⟩ := four_fields Tryz.underlying109 (by kernel_rfl) h
  obtain ⟨s, es, _, hs⟩ := DataW.trod_string Tryz.underlying9 e0
  obtain ⟨zs, hz⟩ := open_intsAt e1
  obtain ⟨b, eb, _, wb⟩ := DataW.trod_int Tryz.underlying3 e2
  obtain ⟨us, hu⟩ := open_intsAt e3
  simp only [List.cons.injEq, and_true] at es eb
  exact ⟨⟨s, zs, b, us⟩, es, eb, hs, wf_I64 wb, hz, hu⟩

theorem open_fusAt {fuel : Nat} {v : Value} {x : DataW H × List MemPlace} (h : DataW.trod enc Tryz.prog W base (fun _ => true) held fuel 26 [v] = some x) : ∃ fs, FusAt W 0 W.heap.size v fs := by
  rcases open_slice Tryz.underlying26 h with ⟨hcs, _⟩ | ⟨a, len, cap, m, n, D, Pl, hcs, hb, hl, hm, hmm, hx, hi⟩
  · simp only [List.cons.injEq, and_true] at hcs
    subst hcs
    exact ⟨[], _, _, rfl, Nat.le_refl _, Nat.zero_le _, fun h => absurd h (by simp)⟩
  · simp only [List.cons.injEq, and_true] at hcs
    subst hcs
    simp only [if_true] at hmm
    have key : ∀ i, i < len → ∃ c : Fu, ∃ x y z u, W.cell? (a.add (i * 4)) = some x ∧ W.cell? ((a.add (i * 4)).add 1) = some y ∧ W.cell? ((a.add (i * 4)).add 2) = some z ∧ W.cell? ((a.add (i * 4)).add 3) = some u ∧ FuAt W 0 W.heap.size x y z u c := by
      intro i hil
      obtain ⟨cs', hc, ht⟩ := hi i (by omega)
      rw [Tryz.cellsFunction] at hc
      obtain ⟨_, hcl, hat⟩ := World.cells?_some hc
      match cs', hcl with
      | [x, y, z, u], _ =>
        obtain ⟨c, hco⟩ := open_fuAt ht
        exact ⟨c, x, y, z, u, by simpa [Addr.add] using hat 0 (by omega), hat 1 (by omega), hat 2 (by omega), hat 3 (by omega), hco⟩
    obtain ⟨f, hfx⟩ := choose_lt key
    have e : ((List.range len).map f).length = len := by simp
    refine ⟨(List.range len).map f, some a, cap, by rw [e], by rw [e]; exact hl, hm, fun h0 => ?_⟩
    rw [e] at h0
    obtain ⟨b, off, spot⟩ := a
    obtain ⟨x0, _, _, _, h00, _⟩ := hfx 0 h0
    have hspot : spot = none := by simpa [Addr.add] using World.cell?_spot h00
    subst hspot
    refine ⟨b, off, rfl, Nat.zero_le _, ?_, fun k hk => ?_⟩
    · have := World.block_lt_of_cell? W _ h00
      simpa [Addr.add] using this
    · rw [e] at hk
      obtain ⟨x, y, z, u, c0, c1, c2, c3, hco⟩ := hfx k hk
      rw [add_plain] at c0 c1 c2 c3
      rw [add_plain] at c1 c2 c3
      refine ⟨x, y, z, u, c0, c1, c2, c3, ?_⟩
      rw [List.getD_eq_getElem?_getD, List.getElem?_eq_getElem (by rw [e]; exact hk)]
      simpa using hco

set_option maxRecDepth 100000 in
/-- A system that comes in by value. -/
theorem open_syAt {r : Reach} {b0 : Nat} {v : Value} {d : DataW H} {p : List MemPlace} (hv : Value.okWide Tryz.prog W r b0 28 v) (h : DataW.Trod enc Tryz.prog W base (fun _ => true) held 28 v d p) :
    ∃ sv cv fv y, v = .agg #[sv, cv, fv] ∧ SyAt W 0 W.heap.size sv cv fv y := by
  obtain ⟨cs, rfl, hsz⟩ := okWide_struct Tryz.underlying28 hv
  obtain ⟨l⟩ := cs
  match l, hsz.trans Tryz.cellsSystem with
  | [x, y, z], _ =>
    obtain ⟨fuel, hf⟩ := h
    obtain ⟨y0, y1, m, e0, e1⟩ := two_one_fields Tryz.underlying28 (by kernel_rfl) (by kernel_rfl) (by kernel_rfl) (by kernel_rfl) (by simpa [Value.cells] using hf)
    obtain ⟨z0, z1, m2, d0, d1⟩ := two_fields Tryz.underlying25 (by kernel_rfl) e0
    obtain ⟨zs, hz⟩ := open_intsAt d0
    obtain ⟨cs, hc⟩ := open_cosAt d1
    obtain ⟨fs, hfu⟩ := open_fusAt e1
    exact ⟨x, y, z, ⟨⟨zs, cs⟩, fs⟩, rfl, ⟨hz, hc⟩, hfu⟩

set_option maxRecDepth 100000 in
/-- A function that comes in by value. -/
theorem open_fuVal {r : Reach} {b0 : Nat} {v : Value} {d : DataW H} {p : List MemPlace} (hv : Value.okWide Tryz.prog W r b0 109 v) (h : DataW.Trod enc Tryz.prog W base (fun _ => true) held 109 v d p) :
    ∃ x a r t f, v = .agg #[x, a, r, t] ∧ FuAt W 0 W.heap.size x a r t f := by
  obtain ⟨cs, rfl, hsz⟩ := okWide_struct Tryz.underlying109 hv
  obtain ⟨l⟩ := cs
  match l, hsz.trans Tryz.cellsFunction with
  | [x, y, z, u], _ =>
    obtain ⟨fuel, hf⟩ := h
    obtain ⟨c, hc⟩ := open_fuAt (by simpa [Value.cells] using hf)
    exact ⟨x, y, z, u, c, rfl, hc⟩
end
end Go.Proofs.YtnmbjmocnafekaaGreatDoor

