/-
  The contract of the program's IsBelow.
  The contracts of the program's rules, of choose for both, and of withWord.
  The contract of the program's isGap.
-/
import Derived.Test.YtnmbjmocnafekaaGreatDoorG19
import Derived.Test.YtnmbjmocnafekaaGreatDoorG23
import Derived.Test.YtnmbjmocnafekaaGreatDoorG20
import Derived.Test.YtnmbjmocnafekaaGreatDoorG22
import Derived.WalkMore
import Derived.Deep.LoopGhost
import Derived.BigQuiet
import Derived.Test.YtnmbjmocnafekaaGreatDoorG21
namespace Go.Proofs.YtnmbjmocnafekaaGreatDoor
open Go.RowKit
attribute [local go_sem] Oper.semAt_some

set_option maxRecDepth 100000 in
set_option maxHeartbeats 4000000 in
theorem sysIsBelow_any (lo hi : Nat) (sv cv fv : Value) (y : Sy) (i k : Int) (w : World) (hv : SyAt w lo hi sv cv fv y) (hB : hi ≤ w.heap.size) (c1 : hasFB y i = true) (c2 : hasFB y k = true) :
    Calls Tryz.prog 235 #[.agg #[sv, cv, fv], .int .i64 i, .int .i64 k] w fun e w' => e = .returned (.bool (belowB y i k)) ∧ Below w.heap.size w w' := by
  obtain ⟨A, cap, rfl, hl1, hm1, hi1⟩ := hv.1.1.form
  obtain ⟨B, bap, rfl, hl2, hm2, hc1⟩ := hv.1.2.form
  obtain ⟨F, fap, rfl, hl3, hm3, hf1⟩ := hv.2.form
  unfold maxLen at hm3
  have h3 : Below w.heap.size w (w.alloc (.cells #[.slice A y.ty.sizes.length cap, .slice B y.ty.cos.length bap, .slice F y.fs.length fap] 36)) := by go_grown
  have Hty := Lib.hid hv.1
  have Hf := Lib.hid hf1
  have C1 := Lib.hid c1
  have C2 := Lib.hid c2
  clear hi1 hc1 hf1 hv c1 c2
  obtain ⟨hsy, hi0, hi1, hilt⟩ := hasFB_of C1.out
  obtain ⟨_, hk0, hk1, hklt⟩ := hasFB_of C2.out
  have Hsy := Lib.hid hsy
  clear hsy
  go_enter Tryz.func235, Tryz.ntmps235
  go_wp2_with fail
  obtain ⟨w2, hw2⟩ : ∃ w2, w2 = w.alloc (.cells #[.slice A y.ty.sizes.length cap, .slice B y.ty.cos.length bap, .slice F y.fs.length fap] 36) := ⟨_, rfl⟩
  have hrow : Row w2 w.heap.size 36 [.slice A y.ty.sizes.length cap, .slice B y.ty.cos.length bap, .slice F y.fs.length fap] := by rw [hw2]; exact Row.new _ _ _
  have HB2 : Hid (Below w.heap.size w w2) := by rw [hw2]; exact h3
  have hl2 := hrow.lt
  have p0 := hrow.cell 0
  have p1 := hrow.cell 1
  have p2 := hrow.cell 2
  simp only [List.getElem?_cons_zero, List.getElem?_cons_succ] at p0 p1 p2
  rw [← hw2]
  have Hp01 := Lib.hid (And.intro p0 p1)
  clear hw2 h3 hrow
  obtain ⟨b, off, A1, cap1, A2, cap2, rfl, _, hbh, d0, d1, d2, d3, _, _, _, _, hfi⟩ := (Hf.out.below HB2.out hB).at_ hilt
  obtain ⟨b', off', A3, cap3, A4, cap4, eF, _, _, e0, e1, e2, e3, _, _, _, _, hfk⟩ := (Hf.out.below HB2.out hB).at_ hklt
  obtain ⟨rfl, rfl⟩ : b = b' ∧ off = off' := by simpa using eF
  have Hfi := Lib.hid hfi
  have Hfk := Lib.hid hfk
  have hbW : b < w2.heap.size := by omega
  have Hcf : Hid (∀ u : World, Below w2.heap.size w2.drew u → u.cell? ⟨w.heap.size, 2, none⟩ = some (.slice (some ⟨b, off, none⟩) y.fs.length fap) ∧ u.cell? ⟨b, off + i.toNat * 4, none⟩ = some (.string y.fs[i.toNat].name) ∧ u.cell? ⟨b, off + i.toNat * 4 + 1, none⟩ = some (.slice A1 y.fs[i.toNat].args.length cap1) ∧ u.cell? ⟨b, off + i.toNat * 4 + 2, none⟩ = some (.int .i64 y.fs[i.toNat].res) ∧ u.cell? ⟨b, off + i.toNat * 4 + 3, none⟩ = some (.slice A2 y.fs[i.toNat].table.length cap2) ∧ u.cell? ⟨b, off + k.toNat * 4, none⟩ = some (.string y.fs[k.toNat].name) ∧ u.cell? ⟨b, off + k.toNat * 4 + 1, none⟩ = some (.slice A3 y.fs[k.toNat].args.length cap3) ∧ u.cell? ⟨b, off + k.toNat * 4 + 2, none⟩ = some (.int .i64 y.fs[k.toNat].res) ∧ u.cell? ⟨b, off + k.toNat * 4 + 3, none⟩ = some (.slice A4 y.fs[k.toNat].table.length cap4)) := fun u hu =>
    ⟨(hu.cell (p := ⟨w.heap.size, 2, none⟩) (by dsimp only; omega)).trans p2, (hu.cell (p := ⟨b, off + i.toNat * 4, none⟩) hbW).trans d0, (hu.cell (p := ⟨b, off + i.toNat * 4 + 1, none⟩) hbW).trans d1, (hu.cell (p := ⟨b, off + i.toNat * 4 + 2, none⟩) hbW).trans d2, (hu.cell (p := ⟨b, off + i.toNat * 4 + 3, none⟩) hbW).trans d3, (hu.cell (p := ⟨b, off + k.toNat * 4, none⟩) hbW).trans e0, (hu.cell (p := ⟨b, off + k.toNat * 4 + 1, none⟩) hbW).trans e1, (hu.cell (p := ⟨b, off + k.toNat * 4 + 2, none⟩) hbW).trans e2, (hu.cell (p := ⟨b, off + k.toNat * 4 + 3, none⟩) hbW).trans e3⟩
  clear d0 d1 d2 d3 e0 e1 e2 e3 hfi hfk eF p0 p1 p2
  refine wp_region_inv (by kernel_rfl) (fun f a u => ∃ x0 x1 x2 x3 x4 x5 x6 x7 x8 x9 y_ z_, a = ⟨#[.agg #[.slice A y.ty.sizes.length cap, .slice B y.ty.cos.length bap, .slice (some ⟨b, off, none⟩) y.fs.length fap], .int .i64 i, .int .i64 k, .pointer (some ⟨w.heap.size, 0, none⟩), undef, undef, .bool false, y_, z_, undef, undef, undef, x0, x1, x2, x3, x4, x5, x6, x7, x8, x9, undef, undef, undef, undef, undef, undef, undef, undef, undef, undef, undef, undef, undef, undef, undef, undef, undef, undef, undef, undef, undef, undef, undef, undef, undef, undef, undef, undef, undef, undef, undef, undef, undef, undef, undef, undef], []⟩ ∧ TwoF w2.drew w.heap.size (.slice (some ⟨b, off, none⟩) y.fs.length fap) (.int .i64 i) (.int .i64 k) (.pointer (some ⟨b, off + i.toNat * 4, none⟩)) (.pointer (some ⟨b, off + k.toNat * 4, none⟩)) (.agg #[.string y.fs[i.toNat].name, .slice A1 y.fs[i.toNat].args.length cap1, .int .i64 y.fs[i.toNat].res, .slice A2 y.fs[i.toNat].table.length cap2]) (.agg #[.string y.fs[k.toNat].name, .slice A3 y.fs[k.toNat].args.length cap3, .int .i64 y.fs[k.toNat].res, .slice A4 y.fs[k.toNat].table.length cap4]) [.string y.fs[i.toNat].name, .slice A1 y.fs[i.toNat].args.length cap1, .int .i64 y.fs[i.toNat].res, .slice A2 y.fs[i.toNat].table.length cap2] [.string y.fs[k.toNat].name, .slice A3 y.fs[k.toNat].args.length cap3, .int .i64 y.fs[k.toNat].res, .slice A4 y.fs[k.toNat].table.length cap4] f x0 x1 x2 x3 x4 x5 x6 x7 x8 x9 y_ z_ u) (of_decide_eq_true (by kernel_rfl)) ⟨_, _, _, _, _, _, _, _, _, _, _, _, rfl, ⟨Below.refl _ _, nofun, nofun, nofun, nofun, nofun, nofun, nofun, nofun, nofun, nofun, nofun, nofun, nofun, nofun, nofun, nofun, nofun⟩⟩ ?_ ?_
  · rintro f a u q o ho hfi hdep ⟨x0, x1, x2, x3, x4, x5, x6, x7, x8, x9, y_, z_, rfl, hF⟩
    have hil : q < 14 := by have := (Array.getElem?_eq_some_iff.1 ho).1; simpa using this
    obtain ⟨r0, r1, r2, r3, r4, t1, t2, t3, t4⟩ := Hcf.out u hF.bel
    obtain rfl | rfl | rfl | rfl | rfl | rfl | rfl | rfl | rfl | rfl | rfl | rfl | rfl | rfl : q = 0 ∨ q = 1 ∨ q = 2 ∨ q = 3 ∨ q = 4 ∨ q = 5 ∨ q = 6 ∨ q = 7 ∨ q = 8 ∨ q = 9 ∨ q = 10 ∨ q = 11 ∨ q = 12 ∨ q = 13 := by omega
    all_goals
      obtain rfl := Option.some.inj ho
      refine wpOp_step ho fun K hK => ?_
      simp [Region.binds] at hdep
      clear ho
    · refine if_yes rfl ?_
      have HF := Lib.hid hF
      clear hF
      unfold Oper.wp
      go_simp
      exact hK _ _ ⟨_, _, _, _, _, _, _, _, _, _, _, _, rfl, HF.out.s0⟩
    · have d0 : f 0 = true := by simp [hdep]
      obtain rfl := hF.a0 d0
      refine if_yes rfl ?_
      have HF := Lib.hid hF
      clear hF
      unfold Oper.wp
      go_simp
      exact hK _ _ ⟨_, _, _, _, _, _, _, _, _, _, _, _, rfl, HF.out.s1⟩
    · refine if_yes rfl ?_
      have HF := Lib.hid hF
      clear hF
      unfold Oper.wp
      go_simp
      exact hK _ _ ⟨_, _, _, _, _, _, _, _, _, _, _, _, rfl, HF.out.s2⟩
    · have d1 : f 1 = true := by simp [hdep]
      obtain rfl := hF.a1 d1
      have d2 : f 2 = true := by simp [hdep]
      obtain rfl := hF.a2 d2
      refine if_yes rfl ?_
      have HF := Lib.hid hF
      clear hF
      unfold Oper.wp
      go_simp
      exact hK _ _ ⟨_, _, _, _, _, _, _, _, _, _, _, _, rfl, HF.out.s3⟩
    · have d3 : f 3 = true := by simp [hdep]
      obtain rfl := hF.a3 d3
      refine if_yes rfl ?_
      have HF := Lib.hid hF
      clear hF
      unfold Oper.wp
      go_simp
      exact hK _ _ ⟨_, _, _, _, _, _, _, _, _, _, _, _, rfl, HF.out.s4⟩
    · refine if_yes rfl ?_
      have HF := Lib.hid hF
      clear hF
      unfold Oper.wp
      go_simp
      exact hK _ _ ⟨_, _, _, _, _, _, _, _, _, _, _, _, rfl, HF.out.s5⟩
    · have d5 : f 5 = true := by simp [hdep]
      obtain rfl := hF.a5 d5
      refine if_yes rfl ?_
      have HF := Lib.hid hF
      clear hF
      unfold Oper.wp
      go_simp
      exact hK _ _ ⟨_, _, _, _, _, _, _, _, _, _, _, _, rfl, HF.out.s6⟩
    · refine if_yes rfl ?_
      have HF := Lib.hid hF
      clear hF
      unfold Oper.wp
      go_simp
      exact hK _ _ ⟨_, _, _, _, _, _, _, _, _, _, _, _, rfl, HF.out.s7⟩
    · have d6 : f 6 = true := by simp [hdep]
      obtain rfl := hF.a6 d6
      have d7 : f 7 = true := by simp [hdep]
      obtain rfl := hF.a7 d7
      refine if_yes rfl ?_
      have HF := Lib.hid hF
      clear hF
      unfold Oper.wp
      go_simp
      exact hK _ _ ⟨_, _, _, _, _, _, _, _, _, _, _, _, rfl, HF.out.s8⟩
    · have d8 : f 8 = true := by simp [hdep]
      obtain rfl := hF.a8 d8
      refine if_yes rfl ?_
      have HF := Lib.hid hF
      clear hF
      unfold Oper.wp
      go_simp
      exact hK _ _ ⟨_, _, _, _, _, _, _, _, _, _, _, _, rfl, HF.out.s9⟩
    · refine if_yes rfl ?_
      have HF := Lib.hid hF
      clear hF
      unfold Oper.wp
      go_simp
      exact hK _ _ ⟨_, _, _, _, _, _, _, _, _, _, _, _, rfl, HF.out.s10 hfi⟩
    · refine if_yes rfl ?_
      have HF := Lib.hid hF
      clear hF
      unfold Oper.wp
      go_simp
      exact hK _ _ ⟨_, _, _, _, _, _, _, _, _, _, _, _, rfl, HF.out.s11 hfi⟩
    · have d10 : f 10 = true := by simp [hdep]
      have d4 : f 4 = true := by simp [hdep]
      obtain rfl := hF.a4 d4
      obtain ⟨p, hp, rfl, hrow⟩ := hF.b0 d10 hfi
      have m0 := hrow.cell 0
      have m1 := hrow.cell 1
      have m2 := hrow.cell 2
      have m3 := hrow.cell 3
      have n0 := hrow.frozen 0
      have n1 := hrow.frozen 1
      have n2 := hrow.frozen 2
      have n3 := hrow.frozen 3
      unfold zeroFu at m0 m1 m2 m3
      simp only [List.getElem?_cons_zero, List.getElem?_cons_succ] at m0 m1 m2 m3
      refine if_yes rfl ?_
      have HF := Lib.hid hF
      have Hrow := Lib.hid hrow
      clear hF hrow r0 r1 r2 r3 r4 t1 t2 t3 t4
      unfold Oper.wp
      go_simp
      exact hK _ _ ⟨_, _, _, _, _, _, _, _, _, _, _, _, rfl, HF.out.s12 d10 hp Hrow.out⟩
    · have d11 : f 11 = true := by simp [hdep]
      have d9 : f 9 = true := by simp [hdep]
      obtain rfl := hF.a9 d9
      obtain ⟨p, hp, rfl, hrow⟩ := hF.b1 d11 hfi
      have m0 := hrow.cell 0
      have m1 := hrow.cell 1
      have m2 := hrow.cell 2
      have m3 := hrow.cell 3
      have n0 := hrow.frozen 0
      have n1 := hrow.frozen 1
      have n2 := hrow.frozen 2
      have n3 := hrow.frozen 3
      unfold zeroFu at m0 m1 m2 m3
      simp only [List.getElem?_cons_zero, List.getElem?_cons_succ] at m0 m1 m2 m3
      refine if_yes rfl ?_
      have HF := Lib.hid hF
      have Hrow := Lib.hid hrow
      clear hF hrow r0 r1 r2 r3 r4 t1 t2 t3 t4
      unfold Oper.wp
      go_simp
      exact hK _ _ ⟨_, _, _, _, _, _, _, _, _, _, _, _, rfl, HF.out.s13 d11 hp Hrow.out⟩
  · rintro f a u hall ⟨x0, x1, x2, x3, x4, x5, x6, x7, x8, x9, y_, z_, rfl, hF⟩
    have g : ∀ j, j < 14 → f j = true := fun j hj => hall j (by simpa using hj)
    obtain rfl := hF.a0 (g 0 (by omega))
    obtain rfl := hF.a1 (g 1 (by omega))
    obtain rfl := hF.a2 (g 2 (by omega))
    obtain rfl := hF.a3 (g 3 (by omega))
    obtain rfl := hF.a4 (g 4 (by omega))
    obtain rfl := hF.a5 (g 5 (by omega))
    obtain rfl := hF.a6 (g 6 (by omega))
    obtain rfl := hF.a7 (g 7 (by omega))
    obtain rfl := hF.a8 (g 8 (by omega))
    obtain rfl := hF.a9 (g 9 (by omega))
    obtain ⟨p, hp, rfl, hrp⟩ := hF.b2 (g 12 (by omega))
    obtain ⟨q, hq, rfl, hrq⟩ := hF.b3 (g 13 (by omega))
    have hbu : Below w2.heap.size w2 u := ⟨hF.bel.os, hF.bel.tape, hF.bel.output, hF.bel.size, hF.bel.block⟩
    clear hF hall g
    have hbW2 : Below w.heap.size w u := HB2.out.trans (hbu.mono HB2.out.size)
    have r0 := (hbu.cell (p := ⟨w.heap.size, 0, none⟩) hl2).trans Hp01.out.1
    have r1 := (hbu.cell (p := ⟨w.heap.size, 1, none⟩) hl2).trans Hp01.out.2
    have s0 := hrp.cell 0
    have s1 := hrp.cell 1
    have t0 := hrq.cell 0
    have t1 := hrq.cell 1
    simp only [List.getElem?_cons_zero, List.getElem?_cons_succ] at s0 s1 t0 t1
    have hsu := hbu.size
    have Hai := Lib.hid (Hfi.out.2.2.2.2.1.below hbu (Nat.le_trans hB HB2.out.size))
    have Hak := Lib.hid (Hfk.out.2.2.2.2.1.below hbu (Nat.le_trans hB HB2.out.size))
    have HT := Lib.hid (Hty.out.below hbW2 hB)
    have HbW := Lib.hid hbW2
    have hBu : hi ≤ u.heap.size := Nat.le_trans hB hbW2.size
    have HgI : Hid (y.fs.getD i.toNat default = y.fs[i.toNat]) := getD_of hilt
    have HgK : Hid (y.fs.getD k.toNat default = y.fs[k.toNat]) := getD_of hklt
    have Hrp := Lib.hid hrp
    have Hrq := Lib.hid hrq
    have hql := hrq.lt
    have hpl := hrp.lt
    have hlu : w.heap.size < u.heap.size := Nat.lt_of_lt_of_le hl2 hsu
    clear hbu hbW2 hrp hrq hp hq
    have H : Hid (belowB y i k = true ↔ y.fs[i.toNat].name = y.fs[k.toNat].name ∧ FitsTo y.ty y.fs[i.toNat].args y.fs[k.toNat].args) := by
      show _ ↔ _
      rw [belowB_iff]
      unfold BelowP
      rw [HgI.out, HgK.out]
      exact ⟨fun h => h.2.2, fun h => ⟨C1.out, C2.out, h⟩⟩
    have Hno : Hid (¬ (y.fs[i.toNat].name = y.fs[k.toNat].name ∧ FitsTo y.ty y.fs[i.toNat].args y.fs[k.toNat].args) → belowB y i k = false) := fun h => by
      cases e : belowB y i k with
      | false => rfl
      | true => exact absurd (H.out.1 e) h
    by_cases he : y.fs[i.toNat].name = y.fs[k.toNat].name
    case neg =>
      have hnm : ¬ y.fs[i.toNat].name.toList = y.fs[k.toNat].name.toList := fun h => he (bytes_eq h)
      have hfin := Lib.hid (Hno.out fun h => he h.1)
      clear he
      go_wp2
      go_ret
      exact ⟨ret_bool hfin.out.symm, HbW.out⟩
    have hnm : y.fs[i.toNat].name.toList = y.fs[k.toNat].name.toList := by rw [he]
    have He := Lib.hid he
    clear he
    by_cases hlen : y.fs[i.toNat].args.length = y.fs[k.toNat].args.length
    case neg =>
      have hd : ((y.fs[i.toNat].args.length : Int) != (y.fs[k.toNat].args.length : Int)) = true := by simp; omega
      have hfin := Lib.hid (Hno.out fun h => hlen h.2.1)
      clear hlen
      go_wp2
      go_ret
      exact ⟨ret_bool hfin.out.symm, HbW.out⟩
    have hd : ((y.fs[i.toNat].args.length : Int) != (y.fs[k.toNat].args.length : Int)) = false := by simp [hlen]
    have Hlen := Lib.hid hlen
    have hsm : y.fs[k.toNat].args.length ≤ 2 := (Hsy.out.each _ hklt).few
    clear hlen
    go_wp2
    obtain ⟨wf, hwf⟩ : ∃ wf, wf = u.alloc (.cells #[.slice A y.ty.sizes.length cap, .slice B y.ty.cos.length bap] 159) := ⟨_, rfl⟩
    have hfr : Row wf u.heap.size 159 [.slice A y.ty.sizes.length cap, .slice B y.ty.cos.length bap] := by rw [hwf]; exact Row.new _ _ _
    have huf : Below u.heap.size u wf := by rw [hwf]; exact (Below.refl _ _).alloc (Nat.le_refl _) _
    rw [← hwf]
    have Hfr := Lib.hid hfr
    have Huf := Lib.hid huf
    have hfl := hfr.lt
    have Hufs := Lib.hid huf.size
    clear hwf hfr huf r0 r1 s0 s1 t0 t1 hd hnm
    go_loopw [43] (fun r wr => ∃ j : Nat, j ≤ y.fs[i.toNat].args.length ∧ r = .int .i64 j ∧ Hid (Below wf.heap.size wf wr) ∧ Hid (∀ n, n < j → canB y.ty (y.fs[i.toNat].args.getD n 0) (y.fs[k.toNat].args.getD n 0) = true)) (fun r _ => y.fs[i.toNat].args.length - (intOf r).toNat)
    case atStart => exact ⟨0, Nat.zero_le _, rfl, Below.refl _ _, fun n hn => absurd hn (by omega)⟩
    case round =>
      obtain ⟨j, hj, rfl, hbr, hok2⟩ := hrel
      have hsr := hbr.out.size
      have Hur : Hid (Below u.heap.size u wr) := Huf.out.trans (hbr.out.mono Hufs.out)
      have HWr : Hid (Below w.heap.size w wr) := HbW.out.trans (Hur.out.mono HbW.out.size)
      by_cases hjl : j < y.fs[i.toNat].args.length
      · have hjk : j < y.fs[k.toNat].args.length := by have := Hlen.out; omega
        have t1 := (Hrq.out.below Hur.out hql).cell 1
        simp only [List.getElem?_cons_zero, List.getElem?_cons_succ] at t1
        have hqw : q < wr.heap.size := Nat.lt_of_lt_of_le hql Hur.out.size
        obtain ⟨g1, o1, rfl, _, _, e1, _⟩ := (Hai.out.below Hur.out hBu).at_ hjl
        obtain ⟨g2, o2, rfl, _, _, e2, _⟩ := (Hak.out.below Hur.out hBu).at_ hjk
        have htb := Lib.hid (typesB_mk Hsy.out.ty ((Hsy.out.each _ hilt).args j hjl) ((Hsy.out.each _ hklt).args j hjk))
        have HTr := Lib.hid (HT.out.below Hur.out hBu)
        have Hrr := Lib.hid (Hfr.out.below hbr.out hfl)
        have hBr : hi ≤ wr.heap.size := Nat.le_trans hBu Hur.out.size
        have hg : Hid (canB y.ty (y.fs[i.toNat].args.getD j 0) (y.fs[k.toNat].args.getD j 0) = canB y.ty y.fs[i.toNat].args[j] y.fs[k.toNat].args[j]) := by show _ = _; rw [getD_of hjl, getD_of hjk]
        have hjI : (j : Int) < (y.fs[k.toNat].args.length : Int) := by omega
        by_cases hc : canB y.ty y.fs[i.toNat].args[j] y.fs[k.toNat].args[j] = true
        · have hok3 : Hid (∀ n, n < j + 1 → canB y.ty (y.fs[i.toNat].args.getD n 0) (y.fs[k.toNat].args.getD n 0) = true) := fun n hn => by
            by_cases e : n = j
            · subst e; rw [hg.out]; exact hc
            · exact hok2.out n (by omega)
          have Hc := Lib.hid hc
          clear hc
          go_wp2_with (go_at_call 102; refine (leads_any lo hi u.heap.size _ _ y.ty _ _ wr HTr.out hBr Hrr.out htb.out).mono ?_; rintro e w' ⟨rfl, hbx⟩; rw [Hc.out])
          go_roundw
          case rel => exact ⟨j + 1, by omega, by go_num, hbr.out.trans (hbx.mono hsr), hok3⟩
          case measure => simp [intOf]; omega
        · have hcf : Hid (canB y.ty y.fs[i.toNat].args[j] y.fs[k.toNat].args[j] = false) := by show _ = _; simpa using hc
          have hfin := Lib.hid (Hno.out fun h => hc (by rw [← hg.out]; exact h.2.2 j hjl))
          clear hc
          go_wp2_with (go_at_call 102; refine (leads_any lo hi u.heap.size _ _ y.ty _ _ wr HTr.out hBr Hrr.out htb.out).mono ?_; rintro e w' ⟨rfl, hbx⟩; rw [hcf.out])
          go_ret
          exact ⟨ret_bool hfin.out.symm, HWr.out.trans (hbx.mono HWr.out.size)⟩
      · obtain rfl : j = y.fs[i.toNat].args.length := by omega
        have hfin : Hid (belowB y i k = true) := H.out.2 ⟨He.out, Hlen.out, fun n hn => hok2.out n hn⟩
        go_wp2
        go_ret
        exact ⟨ret_bool hfin.out.symm, HWr.out⟩
end Go.Proofs.YtnmbjmocnafekaaGreatDoor

namespace Go.Proofs.YtnmbjmocnafekaaGreatDoor
open Go.RowKit Go.Maps

/-- The error that stands for a word. -/
def errOf (a0 a1 : Addr) (s : ByteArray) : Value := if s = wOne then .nilIface else if s = wNone then .iface 314 (.pointer (some a0)) else .iface 314 (.pointer (some a1))
theorem errOf_one (a0 a1 : Addr) : errOf a0 a1 wOne = .nilIface := rfl
theorem errOf_none (a0 a1 : Addr) : errOf a0 a1 wNone = .iface 314 (.pointer (some a0)) := rfl
theorem errOf_many (a0 a1 : Addr) : errOf a0 a1 wMany = .iface 314 (.pointer (some a1)) := rfl

/-- Some numbers are functions of one name. -/
def NamedIn (y : Sy) (nm : ByteArray) (L : List Int) : Prop := ∀ m, ∀ (hm : m < L.length), ∃ i : Nat, L[m] = (i : Int) ∧ ∃ hi : i < y.fs.length, y.fs[i].name = nm
theorem namedIn_applic (y : Sy) (nm : ByteArray) (ks : List Int) : NamedIn y nm (applicV y nm ks) := fun m hm => by
  obtain ⟨_, i, e, hi, hn, _⟩ := applicV_at hm
  exact ⟨i, e, hi, hn⟩

set_option maxRecDepth 100000 in
set_option maxHeartbeats 2000000 in
theorem belowRule_any (lo hi : Nat) (sv cv fv : Value) (y : Sy) (i k : Nat) (w : World) (hv : SyAt w lo hi sv cv fv y) (hB : hi ≤ w.heap.size) (hsy : SyOk y) (hil : i < y.fs.length) (hkl : k < y.fs.length) (hn : y.fs[i].name = y.fs[k].name) :
    Calls Tryz.prog 295 #[.agg #[sv, cv, fv], .int .i64 i, .int .i64 k] w fun e w' => e = .returned (.bool (ltB y i k)) ∧ Below w.heap.size w w' := by
  obtain ⟨A, cap, rfl, hl1, hm1, hi1⟩ := hv.1.1.form
  obtain ⟨B, bap, rfl, hl2, hm2, hc1⟩ := hv.1.2.form
  obtain ⟨F, fap, rfl, hl3, hm3, hf1⟩ := hv.2.form
  obtain ⟨f1, f2, f3⟩ := below_fits hsy hil hkl hn
  have h3 : Below w.heap.size w (w.alloc (.cells #[.slice A y.ty.sizes.length cap, .slice B y.ty.cos.length bap, .slice F y.fs.length fap] 204)) := by go_grown
  have Hv := Lib.hid (hv.below h3 hB)
  have H3 := Lib.hid h3
  have F3 : Hid (belowB y (i : Int) (k : Int) = ltB y i k) := f3
  clear hi1 hc1 hf1 hv h3 f3
  go_enter Tryz.func295, Tryz.ntmps295
  go_wp2_with fail
  refine (sysIsBelow_any lo hi _ _ _ y i k _ Hv.out (by simp; omega) f1 f2).mono ?_
  rintro e w1 ⟨rfl, hb1⟩
  rw [F3.out]
  have Hb1 := Lib.hid (H3.out.trans (hb1.mono (by simp)))
  clear hb1
  go_wp2
  go_ret
  exact ⟨rfl, Hb1.out⟩

set_option maxRecDepth 100000 in
set_option maxHeartbeats 4000000 in
theorem chooseB_any (lo' hi' n : Nat) (lo hi : Nat) (sv cv fv : Value) (y : Sy) (nm : ByteArray) (lv : Value) (L : List Int) (a0 a1 : Addr) (w : World) (hv : SyAt w lo hi sv cv fv y) (hB : hi ≤ w.heap.size) (hsy : L ≠ [] → SyOk y) (hat : NamedIn y nm L) (hL : IntsAt w lo' hi' lv L) (hB' : hi' ≤ w.heap.size) (hE : Errs w n a0 a1) (hnw : n ≤ w.heap.size) :
    Calls Tryz.prog 119 #[.iface 204 (.agg #[sv, cv, fv]), lv] w fun e w' => e = .returned (.tuple #[.int .i64 (pickI (ltB y) L), errOf a0 a1 (pickW (ltB y) L)]) ∧ Below w.heap.size w w' := by
  obtain ⟨K, kap, rfl, hlk, hmk, hk1⟩ := hL.form
  unfold maxLen at hmk
  have hmeth : ∀ u : World, (Go.method 475 204 (.agg #[sv, cv, fv]) "loop.example/overloads/impl.isBefore").run Tryz.prog u = .ok (295, (.agg #[sv, cv, fv])) u := fun u => by kernel_rfl
  have Hk := Lib.hid hk1
  have HE := Lib.hid hE
  have g0 := hE.g0
  have Hv := Lib.hid hv
  have Hsy0 := Lib.hid hsy
  have Hat := Lib.hid hat
  clear hv hsy hat
  clear hk1 hL hE
  by_cases h0 : 0 < L.length
  case neg =>
    have hL0 : L = [] := by
      cases L with
      | nil => rfl
      | cons x l => simp at h0
    have hp := Lib.hid (show pickI (ltB y) L = -1 ∧ errOf a0 a1 (pickW (ltB y) L) = .iface 314 (.pointer (some a0)) by rw [hL0]; exact ⟨rfl, rfl⟩)
    clear hL0
    go_enter Tryz.func119, Tryz.ntmps119
    go_wp2
    go_step3
    go_wp2_with fail
    go_quiet (fail)
    go_wp2
    try rw [Exit.noGoto_ret]
    refine bodyPost_ret (v := .tuple #[.int .i64 (-1), .iface 314 (.pointer (some a0))]) (by simp [results, Tryz.results119, go_sem]) rfl ?_
    exact ⟨by rw [hp.out.1, hp.out.2], below_drewN (Below.refl _ _) _⟩
  have hl0 : ((L.length : Int) == 0) = false := by rw [beq_eq_false_iff_ne]; omega
  clear g0
  have Hsy := Lib.hid (Hsy0.out fun e => by rw [e] at h0; simp at h0)
  go_enter Tryz.func119, Tryz.ntmps119
  go_wp2
  go_step3
  go_wp2
  go_step3
  go_wp2
  go_loopg [16] L.length (fun gk i wx => ∃ j : Nat, j + gk = L.length ∧ i = .int .i64 j ∧ Hid (Below w.heap.size w wx) ∧ Hid (∀ m, m < j → ∀ (hm : m < L.length), chiefB (ltB y) L L[m] = false))
  case atStart => exact ⟨0, by omega, rfl, Below.refl _ _, fun m h => absurd h (by omega)⟩
  case round =>
    obtain ⟨j, hjg, rfl, hbx, hno⟩ := hrel
    obtain ⟨wx, rfl⟩ : ∃ u, u = wr := ⟨_, rfl⟩
    have hsx := hbx.out.size
    cases gk with
    | zero =>
      obtain rfl : j = L.length := by omega
      have hp := Lib.hid (show pickI (ltB y) L = -1 ∧ errOf a0 a1 (pickW (ltB y) L) = .iface 314 (.pointer (some a1)) by
        obtain ⟨e1, e2⟩ := pick_many (lt := ltB y) (L := L) (fun e => by rw [e] at h0; simp at h0) fun m hm => hno.out m hm hm
        rw [e2]
        exact ⟨e1, rfl⟩)
      have g1 := (HE.out.below hbx.out hnw).g1
      go_wp2_with fail
      go_quiet (fail)
      go_wp2
      try rw [Exit.noGoto_ret]
      refine bodyPost_ret (v := .tuple #[.int .i64 (-1), .iface 314 (.pointer (some a1))]) (by simp [results, Tryz.results119, go_sem]) rfl ?_
      exact ⟨by rw [hp.out.1, hp.out.2], below_drewN hbx.out _⟩
    | succ g2 =>
      have hlt : j < L.length := by omega
      have Hbix := Lib.hid (Hk.out.below hbx.out hB')
      obtain ⟨ij, ej, hij1, hij2⟩ := Hat.out j hlt
      obtain ⟨b8, off8, rfl, _, _, c8, i8⟩ := Hbix.out.at_ hlt
      have Hmj := Lib.hid (show (ij : Int) ∈ L by rw [← ej]; exact List.getElem_mem hlt)
      rw [ej] at c8 i8
      have Ej := Lib.hid ej
      have I8 := Lib.hid i8
      have Hij2 := Lib.hid hij2
      clear ej i8 hij2
      go_wp2
      go_loopg [22] L.length (fun gi i wy => ∃ m : Nat, m + gi = L.length ∧ i = .int .i64 m ∧ Hid (Below wx.heap.size wx wy) ∧ Hid (∀ q, ∀ (hq : q < L.length), q < m → L[q] ≠ (ij : Int) → ltB y (ij : Int) L[q] = true))
      case atStart => exact ⟨0, by omega, rfl, Below.refl _ _, fun q _ h => absurd h (by omega)⟩
      case round =>
        obtain ⟨m, hmg, rfl, hby, hall⟩ := hrel
        obtain ⟨wy, rfl⟩ : ∃ u, u = wr := ⟨_, rfl⟩
        have Hbxy := Lib.hid (hbx.out.trans (hby.out.mono hsx))
        have hsy := hby.out.size
        cases gk with
        | zero =>
          obtain rfl : m = L.length := by omega
          have hp := Lib.hid (show pickI (ltB y) L = (ij : Int) ∧ errOf a0 a1 (pickW (ltB y) L) = .nilIface by
            obtain ⟨e1, e2⟩ := pick_at (lt := ltB y) hlt hno.out (by rw [Ej.out]; exact chiefB_yes fun q hq hne => hall.out q hq hq hne)
            rw [e2, e1, Ej.out]
            exact ⟨rfl, rfl⟩)
          go_wp2
          try rw [Exit.noGoto_ret]
          refine bodyPost_ret (v := .tuple #[.int .i64 (ij : Nat), .nilIface]) (by simp [results, Tryz.results119, go_sem]) rfl ?_
          exact ⟨by rw [hp.out.1, hp.out.2], Hbxy.out⟩
        | succ g3 =>
          have hmt : m < L.length := by omega
          have Hbiy := Lib.hid (Hk.out.below Hbxy.out hB')
          obtain ⟨im, em, him1, him2⟩ := Hat.out m hmt
          obtain ⟨b9, off9, e9, _, _, c9, i9⟩ := Hbiy.out.at_ hmt
          injection e9 with e9
          injection e9 with e91 e92
          subst e91
          subst e92
          have Hmm := Lib.hid (show (im : Int) ∈ L by rw [← em]; exact List.getElem_mem hmt)
          rw [em] at c9 i9
          have Em := Lib.hid em
          have I9 := Lib.hid i9
          have Him2 := Lib.hid him2
          clear em i9 him2
          by_cases hne : im = ij
          · have htest : ((im : Int) != (ij : Int)) = false := by rw [hne]; simp
            have hall2 : Hid (∀ q, ∀ (hq : q < L.length), q < m + 1 → L[q] ≠ (ij : Int) → ltB y (ij : Int) L[q] = true) := fun q hq h h2 => by
              by_cases e : q = m
              · subst e; exact absurd (by rw [Em.out, hne]) h2
              · exact hall.out q hq (by omega) h2
            clear hne
            go_wp2
            go_roundg g3
            case measure => omega
            case rel => exact ⟨m + 1, by omega, by go_num, hby, hall2⟩
          · have htest : ((im : Int) != (ij : Int)) = true := by simp; omega
            have hne2 : L[m] ≠ (ij : Int) := by rw [Em.out]; omega
            go_wp2_with fail
            refine (belowRule_any lo hi _ _ _ y ij im _ (Hv.out.below Hbxy.out hB) (by omega) Hsy.out hij1 him1 (Hij2.out.trans Him2.out.symm)).mono ?_
            rintro e w4 ⟨rfl, hb4⟩
            have Hb4 := Lib.hid hb4
            have hs4 := hb4.size
            clear hb4
            by_cases hc : ltB y (ij : Int) (im : Int) = true
            · have hall2 : Hid (∀ q, ∀ (hq : q < L.length), q < m + 1 → L[q] ≠ (ij : Int) → ltB y (ij : Int) L[q] = true) := fun q hq h h2 => by
                by_cases e : q = m
                · subst e; rw [Em.out]; exact hc
                · exact hall.out q hq (by omega) h2
              have hby4 := Lib.hid (hby.out.trans (Hb4.out.mono hsy))
              rw [hc]
              clear hc hne hne2
              go_wp2
              go_roundg g3
              case measure => omega
              case rel => exact ⟨m + 1, by omega, by go_num, hby4, hall2⟩
            · have hcf : ltB y (ij : Int) (im : Int) = false := by simpa using hc
              have hno2 : Hid (∀ q, q < j + 1 → ∀ (hq : q < L.length), chiefB (ltB y) L L[q] = false) := fun q h1 hq => by
                by_cases e : q = j
                · subst e; rw [Ej.out]; exact chiefB_no hmt hne2 (by rw [Em.out]; exact hcf)
                · exact hno.out q (by omega) hq
              have hb5 := Lib.hid (Hbxy.out.trans (Hb4.out.mono (by omega)))
              rw [hcf]
              clear hc hcf hne hne2
              go_wp2
              go_roundg g2
              case measure => omega
              case rel => exact ⟨j + 1, by omega, by go_num, hb5, hno2⟩

end Go.Proofs.YtnmbjmocnafekaaGreatDoor

namespace Go.Proofs.YtnmbjmocnafekaaGreatDoor
open Go.RowKit

theorem all_next {α : Type} {p : α → Bool} {l : List α} {j : Nat} (hj : j < l.length) (h : p l[j] = true) : ((l.drop j).all p) = ((l.drop (j + 1)).all p) := by
  rw [List.drop_eq_getElem_cons hj, List.all_cons, h, Bool.true_and]
theorem all_stop {α : Type} {p : α → Bool} {l : List α} {j : Nat} (hj : j < l.length) (h : p l[j] = false) : ((l.drop j).all p) = false := by
  rw [List.drop_eq_getElem_cons hj, List.all_cons, h, Bool.false_and]

set_option maxRecDepth 100000 in
set_option maxHeartbeats 1000000 in
theorem isGap_any (lo hi lo' hi' n : Nat) (sv cv fv kv : Value) (y : Sy) (nm : ByteArray) (ks : List Int) (a0 a1 : Addr) (w : World) (hv : SyAt w lo hi sv cv fv y) (hk : IntsAt w lo' hi' kv ks) (hB : hi ≤ w.heap.size) (hB' : hi' ≤ w.heap.size) (hbk : y.bulk ≤ 1048576) (hnm : nm.size ≤ maxLen) (hsy : SyOk y) (hE : Errs w n a0 a1) (hnw : n ≤ w.heap.size) :
    Calls Tryz.prog 75 #[.agg #[sv, cv, fv], .string nm, kv] w fun e w' => e = .returned (.bool (!regB y nm ks)) ∧ Below w.heap.size w w' := by
  obtain ⟨A1, cap1, rfl, _, _, _⟩ := hv.1.1.form
  obtain ⟨A2, cap2, rfl, _, _, _⟩ := hv.1.2.form
  obtain ⟨A3, cap3, rfl, _, _, _⟩ := hv.2.form
  obtain ⟨KA, KC, rfl, _, _, _⟩ := hk.form
  obtain ⟨W1, hW1⟩ : ∃ u, u = w.alloc (.cells #[.slice A1 y.ty.sizes.length cap1, .slice A2 y.ty.cos.length cap2, .slice A3 y.fs.length cap3] 36) := ⟨_, rfl⟩
  have hb1 : Below w.heap.size w W1 := by rw [hW1]; exact (Below.refl _ _).alloc (Nat.le_refl _) _
  have r1 : Row W1 w.heap.size 36 [.slice A1 y.ty.sizes.length cap1, .slice A2 y.ty.cos.length cap2, .slice A3 y.fs.length cap3] := by rw [hW1]; exact Row.new _ _ _
  have HB1 := Lib.hid hb1
  have hs1 := hb1.size
  have HA := Lib.hid (implApplic_any lo hi lo' hi' _ _ _ _ y nm ks W1 (hv.below hb1 hB) (hk.below hb1 hB') (by omega) (by omega) hbk hnm)
  obtain ⟨L, hL⟩ : ∃ L, L = applicV y nm ks := ⟨_, rfl⟩
  have hwf := applicV_wf y nm ks hbk
  have hfs := fun z (h : z ∈ L) => applic_at (y := y) (nm := nm) (ks := ks) (by rw [← hL]; exact h)
  have hnin := namedIn_applic y nm ks
  have hlen := applicV_le y nm ks
  have hfew := hsy.few
  rw [← hL] at HA hwf hnin hlen
  have HL := Lib.hid hL
  have HWF := Lib.hid hwf
  have HFS := Lib.hid hfs
  have HNI := Lib.hid hnin
  have HV := Lib.hid hv
  have HE := Lib.hid hE
  have HR1 := Lib.hid r1
  have p0 := r1.cell 0
  have p1 := r1.cell 1
  have p2 := r1.cell 2
  simp only [List.getElem?_cons_zero, List.getElem?_cons_succ] at p0 p1 p2
  rw [hW1] at p0 p1 p2
  clear hv hk hb1 r1 hL hwf hfs hnin hE
  go_enter Tryz.func75, Tryz.ntmps75
  go_wp2_with fail
  rw [← hW1]
  refine HA.out.mono ?_
  clear hW1 HA p0 p1 p2
  rintro e w2 ⟨v, rfl, hb2, hown⟩
  have hs2 := hb2.size
  obtain ⟨gv, hgo, hgl⟩ := OwnI.of_owns hown
  have HVI := Lib.hid (hgo.ints (lo := W1.heap.size) (hi := w2.heap.size) HWF.out hgl)
  obtain ⟨VA, VC, rfl, _, _, _⟩ := HVI.out.form
  have HB2 : Hid (Below w.heap.size w w2) := HB1.out.trans (hb2.mono hs1)
  have hr2 := HR1.out.below hb2 HR1.out.lt
  have p0 := hr2.cell 0
  have p1 := hr2.cell 1
  have p2 := hr2.cell 2
  simp only [List.getElem?_cons_zero, List.getElem?_cons_succ] at p0 p1 p2
  have HR2 := Lib.hid hr2
  have HC := Lib.hid (chooseB_any W1.heap.size w2.heap.size n lo hi _ _ _ y nm _ L a0 a1 w2 (HV.out.below HB2.out hB) (by omega) (fun _ => hsy) HNI.out HVI.out (Nat.le_refl _) (HE.out.below HB2.out hnw) (by omega))
  clear hb2 hown hgo hgl hr2 HR1
  go_wp2_with fail
  refine HC.out.mono ?_
  clear HC p0 p1 p2
  rintro e w3 ⟨rfl, hb3⟩
  have hs3 := hb3.size
  have HB3 : Hid (Below w.heap.size w w3) := HB2.out.trans (hb3.mono (by omega))
  have HR3 : Hid (Row w3 w.heap.size 36 [.slice A1 y.ty.sizes.length cap1, .slice A2 y.ty.cos.length cap2, .slice A3 y.fs.length cap3]) := HR2.out.below hb3 HR2.out.lt
  have HI3 : Hid (IntsAt w3 W1.heap.size w2.heap.size (.slice VA L.length VC) L) := HVI.out.below hb3 (Nat.le_refl _)
  have HE3 := Lib.hid (HE.out.below HB3.out hnw)
  clear hb3 HVI HR2 HNI
  rcases pickW_cases (ltB y) L with ⟨hw, hmem⟩ | ⟨hw, hnil⟩ | ⟨hw, hnil⟩
  · obtain ⟨i, hi, hil⟩ := HFS.out _ hmem
    have h0 : applicV y nm ks ≠ [] := by rw [← HL.out]; intro h; rw [h] at hmem; cases hmem
    have HG : Hid (regB y nm ks = L.all fun k => canB y.ty (resOf y ((i : Nat) : Int)) (resOf y k)) := by
      show _ = _
      rw [regB_one h0 (by rw [← HL.out]; exact hw), ← HL.out, hi]
    rw [hw, hi, errOf_one]
    clear hw hmem h0 hi
    go_wp2_with fail
    go_loopw [31] (fun ix wr => ∃ j : Nat, j ≤ L.length ∧ ix = .int .i64 j ∧ Hid (Below w3.heap.size w3 wr) ∧ Hid (regB y nm ks = ((L.drop j).all fun k => canB y.ty (resOf y ((i : Nat) : Int)) (resOf y k)))) (fun ix _ => L.length - (intOf ix).toNat)
    case atStart => exact ⟨0, Nat.zero_le _, rfl, Below.refl _ _, HG.out⟩
    case round =>
      obtain ⟨j, hj, rfl, hbr, hall⟩ := hrel
      have hsr := hbr.out.size
      by_cases hjl : j < L.length
      · obtain ⟨b, off, rfl, hb1, hb2, hc, _⟩ := HI3.out.at_ (k := j) hjl
        obtain ⟨k, hk, hkl⟩ := HFS.out L[j] (List.getElem_mem hjl)
        have hck : wr.cell? ⟨b, off + j, none⟩ = some (.int .i64 ((k : Nat) : Int)) := by
          rw [← hk]
          exact (World.cell?_of_block (w := w3) (hbr.out.block b (by omega))).trans hc
        have hjI : (j : Int) < (L.length : Int) := by omega
        have hwr : Below w.heap.size w wr := HB3.out.trans (hbr.out.mono (by omega))
        have HRL := Lib.hid (resultsLead_any lo hi _ _ _ y i k wr (HV.out.below hwr hB) (by omega) hsy hil hkl)
        have hcan : canB y.ty (resOf y ((i : Nat) : Int)) (resOf y L[j]) = canB y.ty y.fs[i].res y.fs[k].res := by rw [hk, resOf_at hil, resOf_at hkl]
        have HCN := Lib.hid hcan
        obtain ⟨CB, hCB⟩ : ∃ b, b = canB y.ty y.fs[i].res y.fs[k].res := ⟨_, rfl⟩
        rw [← hCB] at HRL HCN
        have hr4 := HR3.out.below hbr.out (by have := HR3.out.lt; exact this)
        have p0 := hr4.cell 0
        have p1 := hr4.cell 1
        have p2 := hr4.cell 2
        simp only [List.getElem?_cons_zero, List.getElem?_cons_succ] at p0 p1 p2
        clear hk hc hb1 hb2 hcan hCB hr4 hwr
        go_wp2_with fail
        refine HRL.out.mono ?_
        clear HRL p0 p1 p2 hck
        rintro e w5 ⟨rfl, hb5⟩
        have HB5 : Hid (Below w3.heap.size w3 w5) := hbr.out.trans (hb5.mono hsr)
        clear hb5
        cases CB with
        | true =>
          have HA5 : Hid (regB y nm ks = ((L.drop (j + 1)).all fun k => canB y.ty (resOf y ((i : Nat) : Int)) (resOf y k))) := by
            show _ = _
            rw [hall.out]
            exact all_next (p := fun k => canB y.ty (resOf y ((i : Nat) : Int)) (resOf y k)) hjl HCN.out
          go_wp2
          go_roundw
          case rel => exact ⟨j + 1, by omega, by go_num, HB5.out, HA5.out⟩
          case measure => simp [intOf]; omega
        | false =>
          have HF : Hid (regB y nm ks = false) := by
            show _ = _
            rw [hall.out]
            exact all_stop (p := fun k => canB y.ty (resOf y ((i : Nat) : Int)) (resOf y k)) hjl HCN.out
          go_wp2
          try rw [Exit.noGoto_ret]
          refine bodyPost_ret (v := .bool true) (by simp [results, Tryz.results75, go_sem]) rfl ?_
          exact ⟨by rw [HF.out]; rfl, HB3.out.trans (HB5.out.mono (by omega))⟩
      · obtain rfl : j = L.length := by omega
        have HF : Hid (regB y nm ks = true) := by
          show _ = _
          rw [hall.out, List.drop_length]
          rfl
        go_wp2
        try rw [Exit.noGoto_ret]
        refine bodyPost_ret (v := .bool false) (by simp [results, Tryz.results75, go_sem]) rfl ?_
        exact ⟨by rw [HF.out]; rfl, HB3.out.trans (hbr.out.mono (by omega))⟩
  · have HF : Hid (regB y nm ks = true) := regB_nil (by rw [← HL.out]; exact hnil)
    rw [hw, errOf_none]
    have g1 := HE3.out.g1
    obtain ⟨c0, t0, hc0⟩ := HE3.out.b0
    obtain ⟨c1, t1, hc1⟩ := HE3.out.b1
    have HI := Lib.hid (is_other a0 a1 c0 c1 t0 t1 w3 HE3.out.ne hc0 hc1)
    clear hw hc0 hc1
    go_wp2_with fail
    refine HI.out.mono ?_
    rintro e w5 ⟨rfl, rfl⟩
    go_wp2
    try rw [Exit.noGoto_ret]
    refine bodyPost_ret (v := .bool false) (by simp [results, Tryz.results75, go_sem]) rfl ?_
    exact ⟨by rw [HF.out]; rfl, HB3.out⟩
  · have HF : Hid (regB y nm ks = false) := regB_no (by rw [← HL.out]; exact hnil) (by rw [← HL.out, hw]; decide)
    rw [hw, errOf_many]
    have g1 := HE3.out.g1
    have HI := Lib.hid (is_same a1 w3)
    clear hw
    go_wp2_with fail
    refine HI.out.mono ?_
    rintro e w5 ⟨rfl, rfl⟩
    go_wp2
    try rw [Exit.noGoto_ret]
    refine bodyPost_ret (v := .bool true) (by simp [results, Tryz.results75, go_sem]) rfl ?_
    exact ⟨by rw [HF.out]; rfl, HB3.out⟩
end Go.Proofs.YtnmbjmocnafekaaGreatDoor

