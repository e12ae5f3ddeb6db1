/-
  The contract of the model's GapOf: which call is the first that is not regular, and its row.
-/
import Derived.Test.YtnmbjmocnafekaaGreatDoorQfigf
import Derived.Test.YtnmbjmocnafekaaGreatDoorG29
namespace Go.Proofs.YtnmbjmocnafekaaGreatDoor
open Go.RowKit

/-- As the model answers. -/
noncomputable def gapS (y : Sy) : Option (List UInt8 × List Int) := if syB y then gapM y else none
theorem noInts {w : World} {lo hi : Nat} {A : Option Addr} : IntsAt w lo hi (.slice A 0 0) [] :=
  IntsIn.at (S := fun _ => False) ⟨_, 0, rfl, Nat.le_refl _, by unfold maxLen; omega, fun z hz => (by cases hz), fun h => absurd h (by simp)⟩ fun b hb => hb.elim

set_option maxRecDepth 100000 in
set_option maxHeartbeats 1000000 in
theorem specGapF_any (lo hi : Nat) (sv cv fv : Value) (y : Sy) (hbk : y.bulk ≤ 1048576) (w : World) (hv : SyAt w lo hi sv cv fv y) (hB : hi ≤ w.heap.size) :
    Calls Tryz.prog 14 #[.agg #[sv, cv, fv]] w fun e w' => ∃ v, e = .returned (.tuple #[.agg #[.string (gapN (gapS y)), v], .bool (gapS y).isSome]) ∧ Below w.heap.size w w' ∧ IntsAt w' w.heap.size w'.heap.size v (gapK (gapS y)) := by
  obtain ⟨A1, cap1, rfl, _, _, _⟩ := hv.1.1.form
  obtain ⟨A2, cap2, rfl, _, _, _⟩ := hv.1.2.form
  obtain ⟨A3, cap3, rfl, _, _, _⟩ := hv.2.form
  obtain ⟨W2, hW2⟩ : ∃ u, u = (w.alloc (.cells #[.slice A1 y.ty.sizes.length cap1, .slice A2 y.ty.cos.length cap2, .slice A3 y.fs.length cap3] 36)).alloc (.cells #[.string ⟨#[]⟩, .slice none 0 0] 41) := ⟨_, rfl⟩
  have h2s : W2.heap.size = w.heap.size + 2 := by rw [hW2]; simp
  have HB2 : Hid (Below w.heap.size w W2) := by show Below _ _ _; rw [hW2]; exact ((Below.refl _ _).alloc (Nat.le_refl _) _).alloc (by simp) _
  have HP2 : Hid (Row W2 w.heap.size 36 [.slice A1 y.ty.sizes.length cap1, .slice A2 y.ty.cos.length cap2, .slice A3 y.fs.length cap3]) := by show Row _ _ _ _; rw [hW2]; exact (Row.new _ _ _).alloc _
  have HG2 : Hid (Row W2 (w.heap.size + 1) 41 [.string ⟨#[]⟩, .slice none 0 0]) := by
    show Row _ _ _ _
    rw [hW2]
    have h := Row.new (w.alloc (.cells #[.slice A1 y.ty.sizes.length cap1, .slice A2 y.ty.cos.length cap2, .slice A3 y.fs.length cap3] 36)) 41 [.string ⟨#[]⟩, .slice none 0 0]
    rw [World.size_alloc] at h
    exact h
  have HV := Lib.hid hv
  clear hv
  go_enter Tryz.func14, Tryz.ntmps14
  go_wp2_with fail
  rw [← hW2]
  clear hW2
  cases hs : syB y with
  | false =>
    go_loopw [4] (fun cx wr => cx = .int .u8 102 ∧ Hid (Below w.heap.size w wr) ∧ Hid (Row wr w.heap.size 36 [.slice A1 y.ty.sizes.length cap1, .slice A2 y.ty.cos.length cap2, .slice A3 y.fs.length cap3]) ∧ Hid (Row wr (w.heap.size + 1) 41 [.string ⟨#[]⟩, .slice none 0 0])) (fun _ _ => 0)
    case atStart => exact ⟨rfl, HB2.out, HP2.out, HG2.out⟩
    case round =>
      obtain ⟨rfl, hbr, hpr, hgr⟩ := hrel
      have p0 := hpr.out.cell 0
      have p1 := hpr.out.cell 1
      have p2 := hpr.out.cell 2
      simp only [List.getElem?_cons_zero, List.getElem?_cons_succ] at p0 p1 p2
      have HS := Lib.hid (specSysValid_any lo hi _ _ _ y wr (HV.out.below hbr.out hB) (by have := hbr.out.size; omega))
      go_wp2_with fail
      refine HS.out.mono ?_
      rintro e w3 ⟨rfl, hb3⟩
      rw [hs]
      have hg3 := hgr.out.below hb3 hgr.out.lt
      have hg4 := hg3.alloc (.cells #[] 3)
      have hg5 := hg4.set_ 0 (.string ⟨#[]⟩)
      have hg6 := hg5.set_ 1 (.slice (some ⟨w3.heap.size, 0, none⟩) 0 0)
      have g0 := hg4.cell 0
      have f0 := hg4.frozen 0
      have g1 := hg5.cell 1
      have f1 := hg5.frozen 1
      have G6 := Lib.hid hg6
      have HBZ : Hid (Below w.heap.size w (((w3.alloc (.cells #[] 3)).setCell ⟨w.heap.size + 1, 0, none⟩ (.string ⟨#[]⟩)).setCell ⟨w.heap.size + 1, 1, none⟩ (.slice (some ⟨w3.heap.size, 0, none⟩) 0 0))) := ((((hbr.out.trans (hb3.mono (by have := hbr.out.size; omega))).alloc (by have := hbr.out.size; have := hb3.size; omega) _).setCell (by dsimp only; omega) _).setCell (by dsimp only; omega) _)
      simp only [List.getElem?_cons_zero, List.getElem?_cons_succ, List.set_cons_zero] at g0 g1
      clear hg3 hg4 hg5 hg6 p0 p1 p2 HS
      go_wp2
      try rw [Exit.noGoto_ret]
      have r0 := G6.out.cell 0
      have r1 := G6.out.cell 1
      simp only [List.getElem?_cons_zero, List.getElem?_cons_succ, List.set_cons_zero, List.set_cons_succ] at r0 r1
      refine bodyPost_ret (v := .tuple #[.agg #[.string ⟨#[]⟩, .slice (some ⟨w3.heap.size, 0, none⟩) 0 0], .bool false]) (by simp [results, Tryz.results14, go_sem, r0, r1]) rfl ?_
      have e0 : gapS y = none := by unfold gapS; rw [hs]; rfl
      exact ⟨_, by rw [e0]; rfl, HBZ.out, by rw [e0]; exact noInts⟩
  | true =>
    have hyok := syB_iff.1 hs
    have hs5 := (sizesOk_of (tyOk_sizes hyok.ty)).2.1
    go_loopw [4] (fun cx wr => ∃ i : Nat, i ≤ 6 ∧ cx = .int .u8 (102 + (i : Int)) ∧ Hid (Below w.heap.size w wr) ∧ Hid (Row wr w.heap.size 36 [.slice A1 y.ty.sizes.length cap1, .slice A2 y.ty.cos.length cap2, .slice A3 y.fs.length cap3]) ∧ Hid (Row wr (w.heap.size + 1) 41 [.string ⟨#[]⟩, .slice none 0 0]) ∧ Hid (gapM y = ((letters.drop i).findSome? fun nm => gapNm y nm))) (fun cx _ => 108 - (intOf cx).toNat)
    case atStart => exact ⟨0, Nat.zero_le _, rfl, HB2.out, HP2.out, HG2.out, rfl⟩
    case round =>
      obtain ⟨i, hi6, rfl, hbr, hpr, hgr, hall⟩ := hrel
      obtain ⟨wr, rfl⟩ : ∃ u, u = wr := ⟨_, rfl⟩
      have p0 := hpr.out.cell 0
      have p1 := hpr.out.cell 1
      have p2 := hpr.out.cell 2
      simp only [List.getElem?_cons_zero, List.getElem?_cons_succ] at p0 p1 p2
      have hsr := hbr.out.size
      have HS := Lib.hid (specSysValid_any lo hi _ _ _ y wr (HV.out.below hbr.out hB) (by omega))
      by_cases hil : i < 6
      · have hcI : 102 + (i : Int) ≤ 107 := by omega
        obtain ⟨nl, hnl⟩ : ∃ nl, nl = [UInt8.ofNat (102 + i)] := ⟨_, rfl⟩
        obtain ⟨nm, hnm⟩ : ∃ nm, nm = str [UInt8.ofNat (102 + i)] := ⟨_, rfl⟩
        have HNN : Hid (nm = str nl) := by show _ = _; rw [hnm, hnl]
        have hd := letters_drop hil fun nm => gapNm y nm
        rw [← hnl] at hd
        clear hnl
        go_wp2_with fail
        refine HS.out.mono ?_
        rintro e w3 ⟨rfl, hb3⟩
        rw [hs]
        have hs3 := hb3.size
        have HB3 : Hid (Below w.heap.size w w3) := hbr.out.trans (hb3.mono hsr)
        have HP3 : Hid (Row w3 w.heap.size 36 [.slice A1 y.ty.sizes.length cap1, .slice A2 y.ty.cos.length cap2, .slice A3 y.fs.length cap3]) := hpr.out.below hb3 hpr.out.lt
        have HG3 : Hid (Row w3 (w.heap.size + 1) 41 [.string ⟨#[]⟩, .slice none 0 0]) := hgr.out.below hb3 hgr.out.lt
        obtain ⟨RR, hRR⟩ : ∃ b, b = ((letters.drop (i + 1)).findSome? fun nm => gapNm y nm) := ⟨_, rfl⟩
        rw [← hRR] at hd
        have HA3 : Hid (gapM y = (((List.range 3).drop 0).findSome? (fun n => gapRow y nl n)).or RR) := by show _ = _; rw [hall.out, hd]; rfl
        have HRR := Lib.hid hRR
        have HNM := Lib.hid hnm
        clear hb3 HS p0 p1 p2 hd hall hRR hnm
        go_wp2_with fail
        go_loopw [16] (fun nx wm => ∃ n : Nat, n ≤ 3 ∧ nx = .int .i64 n ∧ Hid (Below w.heap.size w wm) ∧ Hid (Row wm w.heap.size 36 [.slice A1 y.ty.sizes.length cap1, .slice A2 y.ty.cos.length cap2, .slice A3 y.fs.length cap3]) ∧ Hid (Row wm (w.heap.size + 1) 41 [.string ⟨#[]⟩, .slice none 0 0]) ∧ Hid (gapM y = (((List.range 3).drop n).findSome? (fun n => gapRow y nl n)).or RR)) (fun nx _ => 3 - (intOf nx).toNat)
        case atStart => exact ⟨0, Nat.zero_le _, rfl, HB3.out, HP3.out, HG3.out, HA3.out⟩
        case round =>
          obtain ⟨n, hn, rfl, hbm, hpm, hgm, ham⟩ := hrel
          obtain ⟨wm, rfl⟩ : ∃ u, u = wr := ⟨_, rfl⟩
          have hsm := hbm.out.size
          by_cases hn3 : n < 3
          · have hnI : (n : Int) < 3 := by omega
            have p0 := hpm.out.cell 0
            simp only [List.getElem?_cons_zero] at p0
            have HK := Lib.hid (l10Kinds_any y.ty.sizes.length n hs5 (by omega) wm)
            have hd := range3_dropS hn3 fun n => gapRow y nl n
            go_wp2_with fail
            refine HK.out.mono ?_
            rintro e w4 ⟨ov, rfl, hb4, xs, S, ho, hread, hS⟩
            have hs4 := hb4.size
            have hin := fun (ks : List Int) (h : ks ∈ kindsS y.ty.sizes.length n) => kindsB_in hyok h
            obtain ⟨RK, hRK⟩ : ∃ b, b = (((List.range 3).drop (n + 1)).findSome? (fun n => gapRow y nl n)).or RR := ⟨_, rfl⟩
            have HA4 : Hid (gapM y = (((kindsS y.ty.sizes.length n).drop 0).findSome? (fun ks => if regB y nm ks then none else some (nl, ks))).or RK) := by show _ = _; rw [ham.out, hd, hRK, Option.or_assoc, HNN.out]; rfl
            obtain ⟨kss, hkss⟩ : ∃ kss, kss = kindsS y.ty.sizes.length n := ⟨_, rfl⟩
            rw [← hkss] at ho hread hin HA4
            obtain ⟨OA, OC, rfl⟩ := owns_form ho
            have HO := Lib.hid ho
            have HRD := Lib.hid hread
            have HSS := Lib.hid hS
            have HIN := Lib.hid hin
            have HRK := Lib.hid hRK
            have HB4 : Hid (Below w.heap.size w w4) := hbm.out.trans (hb4.mono hsm)
            have HP4 : Hid (Row w4 w.heap.size 36 [.slice A1 y.ty.sizes.length cap1, .slice A2 y.ty.cos.length cap2, .slice A3 y.fs.length cap3]) := hpm.out.below hb4 hpm.out.lt
            have HG4 : Hid (Row w4 (w.heap.size + 1) 41 [.string ⟨#[]⟩, .slice none 0 0]) := hgm.out.below hb4 hgm.out.lt
            have hgl := hgm.out.lt
            have hkl : kss.length ≤ 25 := by rw [hkss]; exact kindsS_len25 hs5 (by omega)
            clear hb4 HK ho hread hS hin p0 hd hkss hRK ham
            go_wp2_with fail
            go_loopw [26] (fun jx wi => ∃ j : Nat, j ≤ kss.length ∧ jx = .int .i64 j ∧ Hid (Below w4.heap.size w4 wi) ∧ Hid (gapM y = ((kss.drop j).findSome? (fun ks => if regB y nm ks then none else some (nl, ks))).or RK)) (fun jx _ => kss.length - (intOf jx).toNat)
            case atStart => exact ⟨0, Nat.zero_le _, rfl, Below.refl _ _, HA4.out⟩
            case round =>
              obtain ⟨j, hj, rfl, hbi, hai⟩ := hrel
              obtain ⟨wi, rfl⟩ : ∃ u, u = wr := ⟨_, rfl⟩
              have hsi := hbi.out.size
              have hpi := HP4.out.below hbi.out HP4.out.lt
              have hgi := HG4.out.below hbi.out HG4.out.lt
              by_cases hjl : j < kss.length
              · obtain ⟨og, hOA, hg1, hg2, _, hcells⟩ := own_cells HO.out (by omega)
                subst hOA
                obtain ⟨x, hx, hxin⟩ := HRD.out j hjl
                have hok := HIN.out kss[j] (List.getElem_mem hjl)
                have hck : wi.cell? ⟨og, j, none⟩ = some x := (World.cell?_of_block (w := w4) (hbi.out.block og hg2)).trans ((hcells j hjl).trans hx)
                have hdj : ((kss.drop j).findSome? fun ks => if regB y nm ks then none else some (nl, ks)) = (if regB y nm kss[j] then none else some (nl, kss[j])).or ((kss.drop (j + 1)).findSome? fun ks => if regB y nm ks then none else some (nl, ks)) := by rw [List.drop_eq_getElem_cons hjl, findSome_or]
                obtain ⟨ks, hks⟩ : ∃ ks, ks = kss[j] := ⟨_, rfl⟩
                rw [← hks] at hxin hok hdj
                obtain ⟨XA, XC, rfl, _, _, _, _⟩ := id hxin
                have HXI := Lib.hid hxin
                have hjI : (j : Int) < (kss.length : Int) := by omega
                have q0 := hpi.cell 0
                have q1 := hpi.cell 1
                have q2 := hpi.cell 2
                simp only [List.getElem?_cons_zero, List.getElem?_cons_succ] at q0 q1 q2
                have hcv := conv_name wi i hil
                rw [← HNM.out] at hcv
                have hal : Below wi.heap.size wi (wi.alloc (.cells #[.int .u8 (102 + (i : Int))] 5)) := (Below.refl _ _).alloc (Nat.le_refl _) _
                have hb4a : Below w4.heap.size w4 (wi.alloc (.cells #[.int .u8 (102 + (i : Int))] 5)) := hbi.out.trans (hal.mono hsi)
                have hbwa : Below w.heap.size w (wi.alloc (.cells #[.int .u8 (102 + (i : Int))] 5)) := HB4.out.trans (hb4a.mono (by omega))
                have HRG := Lib.hid (l10Regular_any lo hi wm.heap.size w4.heap.size _ _ _ _ y nm ks _ (HV.out.below hbwa hB) ((hxin.keep fun b hb => hb4a.block b (HSS.out b hb).2.1).at fun b hb => ⟨(HSS.out b hb).1, (HSS.out b hb).2.1⟩) (by have := hbwa.size; omega) (by have := hb4a.size; omega) hbk hok)
                have HAL := Lib.hid hal
                have HB4A := Lib.hid hb4a
                obtain ⟨rg, hrg⟩ : ∃ b, b = regB y nm ks := ⟨_, rfl⟩
                rw [← hrg] at HRG hdj
                have hrl := HAL.out.size
                rw [World.size_alloc] at hrl
                clear hx hxin hcells hal hb4a hbwa hrg hok
                rw [← hks] at *
                clear hks
                go_wp2_with fail
                refine HRG.out.mono ?_
                clear HRG hck q0 q1 q2
                rintro e w6 ⟨rfl, hb6⟩
                rw [World.size_alloc] at hb6
                have hs6 := hb6.size
                rw [World.size_alloc] at hs6
                have HB6 : Hid (Below w4.heap.size w4 w6) := HB4A.out.trans (hb6.mono (by omega))
                cases rg with
                | true =>
                  have HA6 : Hid (gapM y = (((kss.drop (j + 1)).findSome? fun ks => if regB y nm ks then none else some (nl, ks))).or RK) := by show _ = _; rw [hai.out, hdj, if_pos rfl, Option.none_or]
                  clear hb6 hdj
                  go_wp2
                  go_roundw
                  case rel => exact ⟨j + 1, by omega, by go_num, HB6.out, HA6.out⟩
                  case measure => simp [intOf]; omega
                | false =>
                  have HAF : Hid (gapM y = some (nl, ks)) := by show _ = _; rw [hai.out, hdj, if_neg (by simp)]; rfl
                  have hg6 := HG4.out.below HB6.out HG4.out.lt
                  have hcv6 := conv_name w6 i hil
                  rw [← HNM.out] at hcv6
                  have hg7 := hg6.alloc (.cells #[.int .u8 (102 + (i : Int))] 5)
                  have hg8 := hg7.set_ 0 (.string nm)
                  have hg9 := hg8.set_ 1 (.slice XA ks.length XC)
                  have g0 := hg7.cell 0
                  have f0 := hg7.frozen 0
                  have g1 := hg8.cell 1
                  have f1 := hg8.frozen 1
                  have G9 := Lib.hid hg9
                  have HBZ : Hid (Below w.heap.size w (((w6.alloc (.cells #[.int .u8 (102 + (i : Int))] 5)).setCell ⟨w.heap.size + 1, 0, none⟩ (.string nm)).setCell ⟨w.heap.size + 1, 1, none⟩ (.slice XA ks.length XC))) := ((((HB4.out.trans (HB6.out.mono (by have := HB4.out.size; omega))).alloc (by have := HB4.out.size; have := HB6.out.size; omega) _).setCell (by dsimp only; omega) _).setCell (by dsimp only; omega) _)
                  simp only [List.getElem?_cons_zero, List.getElem?_cons_succ, List.set_cons_zero] at g0 g1
                  clear hg6 hg7 hg8 hg9 hb6 hdj hai
                  go_wp2
                  try rw [Exit.noGoto_ret]
                  have r0 := G9.out.cell 0
                  have r1 := G9.out.cell 1
                  simp only [List.getElem?_cons_zero, List.getElem?_cons_succ, List.set_cons_zero, List.set_cons_succ] at r0 r1
                  refine bodyPost_ret (v := .tuple #[.agg #[.string nm, .slice XA ks.length XC], .bool true]) (by simp [results, Tryz.results14, go_sem, r0, r1]) rfl ?_
                  have e0 : gapS y = some (nl, ks) := by unfold gapS; rw [hs, HAF.out]; rfl
                  refine ⟨.slice XA ks.length XC, by rw [e0, HNN.out]; rfl, HBZ.out, ?_⟩
                  rw [e0]
                  refine (HXI.out.keep fun b hb => ?_).at fun b hb => ⟨?_, ?_⟩
                  · have h1 := (HSS.out b hb).1
                    have h2 := (HSS.out b hb).2.1
                    have h3 := HB6.out.size
                    exact (Below.heap_setCell _ _ _ _ (fun e => by have e' : b = w.heap.size + 1 := e; omega)).trans ((Below.heap_setCell _ _ _ _ (fun e => by have e' : b = w.heap.size + 1 := e; omega)).trans ((HB6.out.alloc h3 _).block b h2))
                  · have h1 := (HSS.out b hb).1
                    omega
                  · have h2 := (HSS.out b hb).2.1
                    have h3 := HB6.out.size
                    simp [World.setCell]
                    omega
              · obtain rfl : j = kss.length := by omega
                have HA5 : Hid (gapM y = (((List.range 3).drop (n + 1)).findSome? (fun n => gapRow y nl n)).or RR) := by
                  show _ = _
                  rw [hai.out, List.drop_length, ← HRK.out]
                  rfl
                go_wp2
                go_roundw
                case rel => exact ⟨n + 1, by omega, by go_num, HB4.out.trans (hbi.out.mono (by have := HB4.out.size; omega)), hpi, hgi, HA5.out⟩
                case measure => simp [intOf]; omega
          · obtain rfl : n = 3 := by omega
            have HA5 : Hid (gapM y = ((letters.drop (i + 1)).findSome? fun nm => gapNm y nm)) := by
              show _ = _
              rw [ham.out, ← HRR.out]
              rfl
            go_wp2
            go_roundw
            case rel => exact ⟨i + 1, by omega, by rw [show (102 + (i : Int) + 1) = 102 + ((i + 1 : Nat) : Int) by omega], hbm.out, hpm.out, hgm.out, HA5.out⟩
            case measure => simp [intOf]; omega
      · obtain rfl : i = 6 := by omega
        have HAT : Hid (gapM y = none) := by
          show _ = _
          rw [hall.out, show letters.drop 6 = [] from List.drop_eq_nil_of_le (by simp [letters])]
          rfl
        go_wp2_with fail
        refine HS.out.mono ?_
        rintro e w3 ⟨rfl, hb3⟩
        rw [hs]
        have hg3 := hgr.out.below hb3 hgr.out.lt
        have hg4 := hg3.alloc (.cells #[] 3)
        have hg5 := hg4.set_ 0 (.string ⟨#[]⟩)
        have hg6 := hg5.set_ 1 (.slice (some ⟨w3.heap.size, 0, none⟩) 0 0)
        have g0 := hg4.cell 0
        have f0 := hg4.frozen 0
        have g1 := hg5.cell 1
        have f1 := hg5.frozen 1
        have G6 := Lib.hid hg6
        have HBZ : Hid (Below w.heap.size w (((w3.alloc (.cells #[] 3)).setCell ⟨w.heap.size + 1, 0, none⟩ (.string ⟨#[]⟩)).setCell ⟨w.heap.size + 1, 1, none⟩ (.slice (some ⟨w3.heap.size, 0, none⟩) 0 0))) := ((((hbr.out.trans (hb3.mono (by have := hbr.out.size; omega))).alloc (by have := hbr.out.size; have := hb3.size; omega) _).setCell (by dsimp only; omega) _).setCell (by dsimp only; omega) _)
        simp only [List.getElem?_cons_zero, List.getElem?_cons_succ, List.set_cons_zero] at g0 g1
        clear hg3 hg4 hg5 hg6 p0 p1 p2 HS
        go_wp2
        try rw [Exit.noGoto_ret]
        have r0 := G6.out.cell 0
        have r1 := G6.out.cell 1
        simp only [List.getElem?_cons_zero, List.getElem?_cons_succ, List.set_cons_zero, List.set_cons_succ] at r0 r1
        refine bodyPost_ret (v := .tuple #[.agg #[.string ⟨#[]⟩, .slice (some ⟨w3.heap.size, 0, none⟩) 0 0], .bool false]) (by simp [results, Tryz.results14, go_sem, r0, r1]) rfl ?_
        have e0 : gapS y = none := by unfold gapS; rw [hs, HAT.out]; rfl
        exact ⟨_, by rw [e0]; rfl, HBZ.out, by rw [e0]; exact noInts⟩
end Go.Proofs.YtnmbjmocnafekaaGreatDoor

