/-
  The contract of the model's l10Regular.
-/
import Derived.Test.YtnmbjmocnafekaaGreatDoorG20
import Derived.Test.YtnmbjmocnafekaaGreatDoorG18
import Derived.Test.YtnmbjmocnafekaaGreatDoorG27
import Derived.Test.YtnmbjmocnafekaaGreatDoorG14
import Derived.Test.YtnmbjmocnafekaaGreatDoorG7
namespace Go.Proofs.YtnmbjmocnafekaaGreatDoor
open Go.RowKit

theorem all_nextS {α : Type} {p : α → Bool} {l : List α} {j : Nat} (hj : j < l.length) (h : p l[j] = true) : ((l.drop j).all p) = ((l.drop (j + 1)).all p) := by
  rw [List.drop_eq_getElem_cons hj, List.all_cons, h, Bool.true_and]
theorem all_stopS {α : Type} {p : α → Bool} {l : List α} {j : Nat} (hj : j < l.length) (h : p l[j] = false) : ((l.drop j).all p) = false := by
  rw [List.drop_eq_getElem_cons hj, List.all_cons, h, Bool.false_and]

set_option maxRecDepth 100000 in
set_option maxHeartbeats 1000000 in
theorem l10Regular_any (lo hi lo' hi' : Nat) (sv cv fv kv : Value) (y : Sy) (nm : ByteArray) (ks : List Int) (w : World) (hv : SyAt w lo hi sv cv fv y) (hk : IntsAt w lo' hi' kv ks) (hB : hi ≤ w.heap.size) (hB' : hi' ≤ w.heap.size) (hbk : y.bulk ≤ 1048576) (hok : kindsB y ks = true) :
    Calls Tryz.prog 44 #[.agg #[sv, cv, fv], .string nm, kv] w fun e w' => e = .returned (.bool (regB y nm ks)) ∧ Below w.heap.size w w' := by
  obtain ⟨A1, cap1, rfl, _, _, _⟩ := hv.1.1.form
  obtain ⟨A2, cap2, rfl, _, _, _⟩ := hv.1.2.form
  obtain ⟨A3, cap3, rfl, _, _, hv2⟩ := hv.2.form
  obtain ⟨KA, KC, rfl, _, _, _⟩ := hk.form
  have hsy := (kindsB_of hok).1
  obtain ⟨W1, hW1⟩ : ∃ u, u = w.alloc (.cells #[.slice A1 y.ty.sizes.length cap1, .slice A2 y.ty.cos.length cap2, .slice A3 y.fs.length cap3] 36) := ⟨_, rfl⟩
  have hb1 : Below w.heap.size w W1 := by rw [hW1]; exact (Below.refl _ _).alloc (Nat.le_refl _) _
  have r1 : Row W1 w.heap.size 36 [.slice A1 y.ty.sizes.length cap1, .slice A2 y.ty.cos.length cap2, .slice A3 y.fs.length cap3] := by rw [hW1]; exact Row.new _ _ _
  have HB1 := Lib.hid hb1
  have hs1 := hb1.size
  have HA := Lib.hid (l5Applicable_any lo hi lo' hi' _ _ _ _ y nm ks W1 (hv.below hb1 hB) (hk.below hb1 hB') (by omega) (by omega) hbk hok)
  obtain ⟨L, hL⟩ : ∃ L, L = applicV y nm ks := ⟨_, rfl⟩
  have hwf := applicV_wf y nm ks hbk
  have hfs := fun z (h : z ∈ L) => applic_at (y := y) (nm := nm) (ks := ks) (by rw [← hL]; exact h)
  have hlen := applicV_le y nm ks
  have hfew := hsy.few
  rw [← hL] at HA hwf hlen
  have HL := Lib.hid hL
  have HWF := Lib.hid hwf
  have HFS := Lib.hid hfs
  have HV := Lib.hid hv
  have HV2 := Lib.hid hv2
  have HK := Lib.hid hk
  have HOK := Lib.hid hok
  have HR1 := Lib.hid r1
  have p0 := r1.cell 0
  have p1 := r1.cell 1
  have p2 := r1.cell 2
  simp only [List.getElem?_cons_zero, List.getElem?_cons_succ] at p0 p1 p2
  rw [hW1] at p0 p1 p2
  clear hv hk hb1 r1 hL hwf hfs hv2 hok
  go_enter Tryz.func44, Tryz.ntmps44
  go_wp2_with fail
  rw [← hW1]
  refine HA.out.mono ?_
  clear hW1 HA p0 p1 p2
  rintro e w2 ⟨v, rfl, hb2, hown⟩
  have hs2 := hb2.size
  obtain ⟨gv, hgo, hgl⟩ := OwnI.of_owns hown
  have HVI := Lib.hid (hgo.ints (lo := W1.heap.size) (hi := w2.heap.size) HWF.out hgl)
  obtain ⟨VA, VC, rfl, _, _, _⟩ := HVI.out.form
  have HB2 : Hid (Below w.heap.size w w2) := HB1.out.trans (hb2.mono hs1)
  have hr2 := HR1.out.below hb2 HR1.out.lt
  have p0 := hr2.cell 0
  have p1 := hr2.cell 1
  have p2 := hr2.cell 2
  simp only [List.getElem?_cons_zero, List.getElem?_cons_succ] at p0 p1 p2
  have HR2 := Lib.hid hr2
  have HC := Lib.hid (l5Resolve_any lo hi lo' hi' _ _ _ _ y nm ks w2 (HV.out.below HB2.out hB) (HK.out.below HB2.out hB') (by omega) (by omega) hbk HOK.out)
  rw [← HL.out] at HC
  clear hb2 hown hgo hgl hr2 HR1
  by_cases hL0 : L.length = 0
  · have HF : Hid (regB y nm ks = true) := regB_nil (by rw [← HL.out]; exact List.eq_nil_of_length_eq_zero hL0)
    clear HC p0 p1 p2
    have hl0 : (L.length : Int) = 0 := by omega
    go_wp2
    try rw [Exit.noGoto_ret]
    refine bodyPost_ret (v := .bool true) (by simp [results, Tryz.results44, go_sem]) rfl ?_
    exact ⟨by rw [HF.out], HB2.out⟩
  have hl0 : ¬ (L.length : Int) = 0 := by omega
  go_wp2_with fail
  refine HC.out.mono ?_
  clear HC p0 p1 p2
  rintro e w3 ⟨rfl, hb3⟩
  have hs3 := hb3.size
  have HB3 : Hid (Below w.heap.size w w3) := HB2.out.trans (hb3.mono (by omega))
  have HR3 : Hid (Row w3 w.heap.size 36 [.slice A1 y.ty.sizes.length cap1, .slice A2 y.ty.cos.length cap2, .slice A3 y.fs.length cap3]) := HR2.out.below hb3 HR2.out.lt
  have HI3 : Hid (IntsAt w3 W1.heap.size w2.heap.size (.slice VA L.length VC) L) := HVI.out.below hb3 (Nat.le_refl _)
  clear hb3 HVI HR2
  rcases pickW_cases (ltB y) L with ⟨hw, hmem⟩ | ⟨hw, hnil⟩ | ⟨hw, hnil⟩
  · obtain ⟨i, hi, hil⟩ := HFS.out _ hmem
    have h0 : applicV y nm ks ≠ [] := by rw [← HL.out]; intro h; rw [h] at hmem; cases hmem
    have HG : Hid (regB y nm ks = L.all fun k => canB y.ty (resOf y ((i : Nat) : Int)) (resOf y k)) := by
      show _ = _
      rw [regB_one h0 (by rw [← HL.out]; exact hw), ← HL.out, hi]
    rw [hw, hi]
    have hw1 : wOne = ⟨#[111, 110, 101]⟩ := rfl
    rw [hw1]
    clear hw hmem h0 hi hw1
    go_wp2_with fail
    go_loopw [30] (fun ix wr => ∃ j : Nat, j ≤ L.length ∧ ix = .int .i64 j ∧ Hid (Below w3.heap.size w3 wr) ∧ Hid (regB y nm ks = ((L.drop j).all fun k => canB y.ty (resOf y ((i : Nat) : Int)) (resOf y k)))) (fun ix _ => L.length - (intOf ix).toNat)
    case atStart => exact ⟨0, Nat.zero_le _, rfl, Below.refl _ _, HG.out⟩
    case round =>
      obtain ⟨j, hj, rfl, hbr, hall⟩ := hrel
      have hsr := hbr.out.size
      obtain ⟨wr, rfl⟩ : ∃ u, u = wr := ⟨_, rfl⟩
      by_cases hjl : j < L.length
      · obtain ⟨vb, vo, rfl, hb1, hb2, hc, _⟩ := HI3.out.at_ (k := j) hjl
        obtain ⟨k, hk, hkl⟩ := HFS.out L[j] (List.getElem_mem hjl)
        have hck : wr.cell? ⟨vb, vo + j, none⟩ = some (.int .i64 ((k : Nat) : Int)) := by
          rw [← hk]
          exact (World.cell?_of_block (w := w3) (hbr.out.block vb (by omega))).trans hc
        have hjI : (j : Int) < (L.length : Int) := by omega
        have hwr : Below w.heap.size w wr := HB3.out.trans (hbr.out.mono (by omega))
        have hcan : canB y.ty (resOf y ((i : Nat) : Int)) (resOf y L[j]) = canB y.ty y.fs[i].res y.fs[k].res := by rw [hk, resOf_at hil, resOf_at hkl]
        have HCN := Lib.hid hcan
        obtain ⟨fb, foff, B1, cb1, B2, cb2, rfl, hfb1, hfb2, _, _, k2, _⟩ := HV2.out.at_ hil
        obtain ⟨fb', foff', C1, cc1, C2, cc2, e, _, _, _, _, l2, _⟩ := HV2.out.at_ hkl
        injection e with e
        injection e with e1 e2
        subst e1
        subst e2
        have hri := (hsy.each i hil).res
        have hrk := (hsy.each k hkl).res
        have hiI : (i : Int) < (y.fs.length : Int) := by omega
        have hkI : (k : Int) < (y.fs.length : Int) := by omega
        obtain ⟨RI, hRI⟩ : ∃ r, r = y.fs[i].res := ⟨_, rfl⟩
        obtain ⟨RK, hRK⟩ : ∃ r, r = y.fs[k].res := ⟨_, rfl⟩
        rw [← hRI] at hri k2 HCN
        rw [← hRK] at hrk l2 HCN
        have hr4 := HR3.out.below hbr.out HR3.out.lt
        have HLD : Hid (∀ u : World, Below wr.heap.size wr u → u.cell? ⟨w.heap.size, 0, none⟩ = some (.slice A1 y.ty.sizes.length cap1) ∧ u.cell? ⟨w.heap.size, 1, none⟩ = some (.slice A2 y.ty.cos.length cap2) ∧ u.cell? ⟨w.heap.size, 2, none⟩ = some (.slice (some ⟨fb, foff, none⟩) y.fs.length cap3) ∧ u.cell? ⟨fb, foff + i * 4 + 2, none⟩ = some (.int .i64 RI) ∧ u.cell? ⟨fb, foff + k * 4 + 2, none⟩ = some (.int .i64 RK)) := fun u hu => by
          have r2 := hr4.below hu hr4.lt
          have hk := ((hwr.trans (hu.mono hwr.size)).block fb (by omega))
          exact ⟨r2.cell 0, r2.cell 1, r2.cell 2, (World.cell?_of_block (w := w) hk).trans k2, (World.cell?_of_block (w := w) hk).trans l2⟩
        obtain ⟨CB, hCB⟩ : ∃ b, b = canB y.ty RI RK := ⟨_, rfl⟩
        have HCC : Hid (∀ u : World, Below wr.heap.size wr u → Calls Tryz.prog 57 #[.agg #[.slice A1 y.ty.sizes.length cap1, .slice A2 y.ty.cos.length cap2], .int .i64 RI, .int .i64 RK] u fun e w' => e = .returned (.bool CB) ∧ Below u.heap.size u w') := fun u hu => by
          have h := l2Can_any lo hi _ _ y.ty RI RK u (HV.out.below (hwr.trans (hu.mono hwr.size)) hB).1 (by have := hwr.size; have := hu.size; omega) (by unfold typesB ixB; rw [hsy.ty, decide_eq_true hri, decide_eq_true hrk]; rfl)
          rw [← hCB] at h
          exact h
        rw [← hCB] at HCN
        clear hk hc hb1 hb2 hcan hCB hr4 hwr k2 l2 hRI hRK hri hrk
        go_wp2_with fail
        refine wp_region_inv (by kernel_rfl) (fun dn ac u => ∃ x34 x35 x36 x37 x38 x39 x40 x41 x42 x43 x44 x45 x46 x47 x48 x49, ac = ⟨List.toArray (.agg #[.slice A1 y.ty.sizes.length cap1, .slice A2 y.ty.cos.length cap2, .slice (some ⟨fb, foff, none⟩) y.fs.length cap3] :: .string nm :: .slice KA ks.length KC :: .pointer (some ⟨w.heap.size, 0, none⟩) :: undef :: undef :: u6 :: .slice (some ⟨vb, vo, none⟩) L.length VC :: .int .i64 ((i : Nat) : Int) :: .string ⟨#[111, 110, 101]⟩ :: undef :: .int .i64 ((k : Nat) : Int) :: .agg #[.slice A1 y.ty.sizes.length cap1, .slice A2 y.ty.cos.length cap2, .slice (some ⟨fb, foff, none⟩) y.fs.length cap3] :: .string nm :: .slice KA ks.length KC :: .slice (some ⟨vb, vo, none⟩) L.length VC :: .slice (some ⟨vb, vo, none⟩) L.length VC :: .int .i64 ((L.length : Nat) : Int) :: .bool false :: .tuple #[.int .i64 ((i : Nat) : Int), .string ⟨#[111, 110, 101]⟩] :: .agg #[.slice A1 y.ty.sizes.length cap1, .slice A2 y.ty.cos.length cap2, .slice (some ⟨fb, foff, none⟩) y.fs.length cap3] :: .string nm :: .slice KA ks.length KC :: .tuple #[.int .i64 ((i : Nat) : Int), .string ⟨#[111, 110, 101]⟩] :: .int .i64 ((i : Nat) : Int) :: .string ⟨#[111, 110, 101]⟩ :: .string ⟨#[111, 110, 101]⟩ :: .bool false :: .slice (some ⟨vb, vo, none⟩) L.length VC :: .int .i64 ((L.length : Nat) : Int) :: .int .i64 ((j : Nat) : Int) :: .bool true :: .pointer (some ⟨vb, vo + j, none⟩) :: .int .i64 ((k : Nat) : Int) :: x34 :: x35 :: x36 :: x37 :: x38 :: x39 :: x40 :: x41 :: x42 :: x43 :: x44 :: x45 :: x46 :: x47 :: x48 :: x49 :: u50 :: []), []⟩ ∧ DetQ [fun v : Value => v = .pointer (some ⟨w.heap.size, 0, none⟩), fun v : Value => v = .agg #[.slice A1 y.ty.sizes.length cap1, .slice A2 y.ty.cos.length cap2], fun v : Value => v = .pointer (some ⟨w.heap.size, 2, none⟩), fun v : Value => v = .slice (some ⟨fb, foff, none⟩) y.fs.length cap3, fun v : Value => v = .int .i64 ((i : Nat) : Int), fun v : Value => v = .pointer (some ⟨fb, foff + i * 4, none⟩), fun v : Value => v = .pointer (some ⟨fb, foff + i * 4 + 2, none⟩), fun v : Value => v = .int .i64 RI, fun v : Value => v = .pointer (some ⟨w.heap.size, 2, none⟩), fun v : Value => v = .slice (some ⟨fb, foff, none⟩) y.fs.length cap3, fun v : Value => v = .int .i64 ((k : Nat) : Int), fun v : Value => v = .pointer (some ⟨fb, foff + k * 4, none⟩), fun v : Value => v = .pointer (some ⟨fb, foff + k * 4 + 2, none⟩), fun v : Value => v = .int .i64 RK, fun v : Value => v = .bool CB, fun v : Value => v = .bool (!CB)] dn [x34, x35, x36, x37, x38, x39, x40, x41, x42, x43, x44, x45, x46, x47, x48, x49] ∧ Ch dn [14] (fun _ u => Below wr.heap.size wr u) u ∧ True) (of_decide_eq_true (by kernel_rfl)) ⟨_, _, _, _, _, _, _, _, _, _, _, _, _, _, _, _, rfl, DetQ.start (by rfl), Ch.start (show Below wr.heap.size wr wr.drew from (Below.refl _ _).drew), trivial⟩ ?_ ?_
        · rintro dn ac u i8 op8 hop hfi hdep ⟨x34, x35, x36, x37, x38, x39, x40, x41, x42, x43, x44, x45, x46, x47, x48, x49, rfl, hD, hC, -⟩
          have hil : i8 < 16 := by have := (Array.getElem?_eq_some_iff.1 hop).1; simpa using this
          obtain rfl | rfl | rfl | rfl | rfl | rfl | rfl | rfl | rfl | rfl | rfl | rfl | rfl | rfl | rfl | rfl : i8 = 0 ∨ i8 = 1 ∨ i8 = 2 ∨ i8 = 3 ∨ i8 = 4 ∨ i8 = 5 ∨ i8 = 6 ∨ i8 = 7 ∨ i8 = 8 ∨ i8 = 9 ∨ i8 = 10 ∨ i8 = 11 ∨ i8 = 12 ∨ i8 = 13 ∨ i8 = 14 ∨ i8 = 15 := by omega
          all_goals
            obtain rfl := Option.some.inj hop
            refine wpOp_step hop fun K hK => ?_
            simp [Region.binds] at hdep
            clear hop
          · refine det_yes rfl ?_
            have HD := Lib.hid hD
            have HC := Lib.hid hC
            clear hD hC
            unfold Oper.wp
            go_simp
            exact hK _ _ ⟨_, _, _, _, _, _, _, _, _, _, _, _, _, _, _, _, rfl, HD.out.step 0 rfl rfl, HC.out.other 0 (by decide), trivial⟩
          · obtain rfl : x34 = .pointer (some ⟨w.heap.size, 0, none⟩) := hD.get (P := fun v : Value => v = .pointer (some ⟨w.heap.size, 0, none⟩)) 0 (by simp [hdep]) rfl rfl
            obtain ⟨j8, hj8, -, hW⟩ := hC.ex
            have hbu : Below wr.heap.size wr u := hW
            clear hW
            obtain ⟨d1, d2, d3, d4, d5⟩ := HLD.out u hbu
            refine det_yes rfl ?_
            have HD := Lib.hid hD
            have HC := Lib.hid hC
            clear hD hC
            unfold Oper.wp
            go_simp
            exact hK _ _ ⟨_, _, _, _, _, _, _, _, _, _, _, _, _, _, _, _, rfl, HD.out.step 1 rfl rfl, HC.out.other 1 (by decide), trivial⟩
          · refine det_yes rfl ?_
            have HD := Lib.hid hD
            have HC := Lib.hid hC
            clear hD hC
            unfold Oper.wp
            go_simp
            exact hK _ _ ⟨_, _, _, _, _, _, _, _, _, _, _, _, _, _, _, _, rfl, HD.out.step 2 rfl rfl, HC.out.other 2 (by decide), trivial⟩
          · obtain rfl : x36 = .pointer (some ⟨w.heap.size, 2, none⟩) := hD.get (P := fun v : Value => v = .pointer (some ⟨w.heap.size, 2, none⟩)) 2 (by simp [hdep]) rfl rfl
            obtain ⟨j8, hj8, -, hW⟩ := hC.ex
            have hbu : Below wr.heap.size wr u := hW
            clear hW
            obtain ⟨d1, d2, d3, d4, d5⟩ := HLD.out u hbu
            refine det_yes rfl ?_
            have HD := Lib.hid hD
            have HC := Lib.hid hC
            clear hD hC
            unfold Oper.wp
            go_simp
            exact hK _ _ ⟨_, _, _, _, _, _, _, _, _, _, _, _, _, _, _, _, rfl, HD.out.step 3 rfl rfl, HC.out.other 3 (by decide), trivial⟩
          · refine det_yes rfl ?_
            have HD := Lib.hid hD
            have HC := Lib.hid hC
            clear hD hC
            unfold Oper.wp
            go_simp
            exact hK _ _ ⟨_, _, _, _, _, _, _, _, _, _, _, _, _, _, _, _, rfl, HD.out.step 4 rfl rfl, HC.out.other 4 (by decide), trivial⟩
          · obtain rfl : x37 = .slice (some ⟨fb, foff, none⟩) y.fs.length cap3 := hD.get (P := fun v : Value => v = .slice (some ⟨fb, foff, none⟩) y.fs.length cap3) 3 (by simp [hdep]) rfl rfl
            obtain rfl : x38 = .int .i64 ((i : Nat) : Int) := hD.get (P := fun v : Value => v = .int .i64 ((i : Nat) : Int)) 4 (by simp [hdep]) rfl rfl
            refine det_yes rfl ?_
            have HD := Lib.hid hD
            have HC := Lib.hid hC
            clear hD hC
            unfold Oper.wp
            go_simp
            exact hK _ _ ⟨_, _, _, _, _, _, _, _, _, _, _, _, _, _, _, _, rfl, HD.out.step 5 rfl rfl, HC.out.other 5 (by decide), trivial⟩
          · obtain rfl : x39 = .pointer (some ⟨fb, foff + i * 4, none⟩) := hD.get (P := fun v : Value => v = .pointer (some ⟨fb, foff + i * 4, none⟩)) 5 (by simp [hdep]) rfl rfl
            refine det_yes rfl ?_
            have HD := Lib.hid hD
            have HC := Lib.hid hC
            clear hD hC
            unfold Oper.wp
            go_simp
            exact hK _ _ ⟨_, _, _, _, _, _, _, _, _, _, _, _, _, _, _, _, rfl, HD.out.step 6 rfl rfl, HC.out.other 6 (by decide), trivial⟩
          · obtain rfl : x40 = .pointer (some ⟨fb, foff + i * 4 + 2, none⟩) := hD.get (P := fun v : Value => v = .pointer (some ⟨fb, foff + i * 4 + 2, none⟩)) 6 (by simp [hdep]) rfl rfl
            obtain ⟨j8, hj8, -, hW⟩ := hC.ex
            have hbu : Below wr.heap.size wr u := hW
            clear hW
            obtain ⟨d1, d2, d3, d4, d5⟩ := HLD.out u hbu
            refine det_yes rfl ?_
            have HD := Lib.hid hD
            have HC := Lib.hid hC
            clear hD hC
            unfold Oper.wp
            go_simp
            exact hK _ _ ⟨_, _, _, _, _, _, _, _, _, _, _, _, _, _, _, _, rfl, HD.out.step 7 rfl rfl, HC.out.other 7 (by decide), trivial⟩
          · refine det_yes rfl ?_
            have HD := Lib.hid hD
            have HC := Lib.hid hC
            clear hD hC
            unfold Oper.wp
            go_simp
            exact hK _ _ ⟨_, _, _, _, _, _, _, _, _, _, _, _, _, _, _, _, rfl, HD.out.step 8 rfl rfl, HC.out.other 8 (by decide), trivial⟩
          · obtain rfl : x42 = .pointer (some ⟨w.heap.size, 2, none⟩) := hD.get (P := fun v : Value => v = .pointer (some ⟨w.heap.size, 2, none⟩)) 8 (by simp [hdep]) rfl rfl
            obtain ⟨j8, hj8, -, hW⟩ := hC.ex
            have hbu : Below wr.heap.size wr u := hW
            clear hW
            obtain ⟨d1, d2, d3, d4, d5⟩ := HLD.out u hbu
            refine det_yes rfl ?_
            have HD := Lib.hid hD
            have HC := Lib.hid hC
            clear hD hC
            unfold Oper.wp
            go_simp
            exact hK _ _ ⟨_, _, _, _, _, _, _, _, _, _, _, _, _, _, _, _, rfl, HD.out.step 9 rfl rfl, HC.out.other 9 (by decide), trivial⟩
          · refine det_yes rfl ?_
            have HD := Lib.hid hD
            have HC := Lib.hid hC
            clear hD hC
            unfold Oper.wp
            go_simp
            exact hK _ _ ⟨_, _, _, _, _, _, _, _, _, _, _, _, _, _, _, _, rfl, HD.out.step 10 rfl rfl, HC.out.other 10 (by decide), trivial⟩
          · obtain rfl : x43 = .slice (some ⟨fb, foff, none⟩) y.fs.length cap3 := hD.get (P := fun v : Value => v = .slice (some ⟨fb, foff, none⟩) y.fs.length cap3) 9 (by simp [hdep]) rfl rfl
            obtain rfl : x44 = .int .i64 ((k : Nat) : Int) := hD.get (P := fun v : Value => v = .int .i64 ((k : Nat) : Int)) 10 (by simp [hdep]) rfl rfl
            refine det_yes rfl ?_
            have HD := Lib.hid hD
            have HC := Lib.hid hC
            clear hD hC
            unfold Oper.wp
            go_simp
            exact hK _ _ ⟨_, _, _, _, _, _, _, _, _, _, _, _, _, _, _, _, rfl, HD.out.step 11 rfl rfl, HC.out.other 11 (by decide), trivial⟩
          · obtain rfl : x45 = .pointer (some ⟨fb, foff + k * 4, none⟩) := hD.get (P := fun v : Value => v = .pointer (some ⟨fb, foff + k * 4, none⟩)) 11 (by simp [hdep]) rfl rfl
            refine det_yes rfl ?_
            have HD := Lib.hid hD
            have HC := Lib.hid hC
            clear hD hC
            unfold Oper.wp
            go_simp
            exact hK _ _ ⟨_, _, _, _, _, _, _, _, _, _, _, _, _, _, _, _, rfl, HD.out.step 12 rfl rfl, HC.out.other 12 (by decide), trivial⟩
          · obtain rfl : x46 = .pointer (some ⟨fb, foff + k * 4 + 2, none⟩) := hD.get (P := fun v : Value => v = .pointer (some ⟨fb, foff + k * 4 + 2, none⟩)) 12 (by simp [hdep]) rfl rfl
            obtain ⟨j8, hj8, -, hW⟩ := hC.ex
            have hbu : Below wr.heap.size wr u := hW
            clear hW
            obtain ⟨d1, d2, d3, d4, d5⟩ := HLD.out u hbu
            refine det_yes rfl ?_
            have HD := Lib.hid hD
            have HC := Lib.hid hC
            clear hD hC
            unfold Oper.wp
            go_simp
            exact hK _ _ ⟨_, _, _, _, _, _, _, _, _, _, _, _, _, _, _, _, rfl, HD.out.step 13 rfl rfl, HC.out.other 13 (by decide), trivial⟩
          · obtain rfl : x35 = .agg #[.slice A1 y.ty.sizes.length cap1, .slice A2 y.ty.cos.length cap2] := hD.get (P := fun v : Value => v = .agg #[.slice A1 y.ty.sizes.length cap1, .slice A2 y.ty.cos.length cap2]) 1 (by simp [hdep]) rfl rfl
            obtain rfl : x41 = .int .i64 RI := hD.get (P := fun v : Value => v = .int .i64 RI) 7 (by simp [hdep]) rfl rfl
            obtain rfl : x47 = .int .i64 RK := hD.get (P := fun v : Value => v = .int .i64 RK) 13 (by simp [hdep]) rfl rfl
            have hW := hC.at_ 0 (by decide) hfi (by intro j9 e9 _; omega)
            refine det_yes rfl ?_
            have HD := Lib.hid hD
            have HC := Lib.hid hC
            clear hD hC
            have hbu : Below wr.heap.size wr u := hW
            clear hW
            unfold Oper.wp
            go_simp
            refine (HCC.out u hbu).mono ?_
            rintro e u2 ⟨rfl, hb8⟩
            have HW2 : (fun _ u => Below wr.heap.size wr u) 1 u2 := hbu.trans (hb8.mono hbu.size)
            exact hK _ _ ⟨_, _, _, _, _, _, _, _, _, _, _, _, _, _, _, _, rfl, HD.out.step 14 rfl (by rfl), HC.out.next 0 (by decide) hfi (by intro j9 e9 _; omega) (by decide) HW2, trivial⟩
          · obtain rfl : x48 = .bool CB := hD.get (P := fun v : Value => v = .bool CB) 14 (by simp [hdep]) rfl rfl
            refine det_yes rfl ?_
            have HD := Lib.hid hD
            have HC := Lib.hid hC
            clear hD hC
            unfold Oper.wp
            go_simp
            exact hK _ _ ⟨_, _, _, _, _, _, _, _, _, _, _, _, _, _, _, _, rfl, HD.out.step 15 rfl rfl, HC.out.other 15 (by decide), trivial⟩
        · rintro dn ac u hall ⟨x34, x35, x36, x37, x38, x39, x40, x41, x42, x43, x44, x45, x46, x47, x48, x49, rfl, hD, hC, -⟩
          obtain rfl : x34 = .pointer (some ⟨w.heap.size, 0, none⟩) := hD.get (P := fun v : Value => v = .pointer (some ⟨w.heap.size, 0, none⟩)) 0 (hall 0 (by decide)) rfl rfl
          obtain rfl : x35 = .agg #[.slice A1 y.ty.sizes.length cap1, .slice A2 y.ty.cos.length cap2] := hD.get (P := fun v : Value => v = .agg #[.slice A1 y.ty.sizes.length cap1, .slice A2 y.ty.cos.length cap2]) 1 (hall 1 (by decide)) rfl rfl
          obtain rfl : x36 = .pointer (some ⟨w.heap.size, 2, none⟩) := hD.get (P := fun v : Value => v = .pointer (some ⟨w.heap.size, 2, none⟩)) 2 (hall 2 (by decide)) rfl rfl
          obtain rfl : x37 = .slice (some ⟨fb, foff, none⟩) y.fs.length cap3 := hD.get (P := fun v : Value => v = .slice (some ⟨fb, foff, none⟩) y.fs.length cap3) 3 (hall 3 (by decide)) rfl rfl
          obtain rfl : x38 = .int .i64 ((i : Nat) : Int) := hD.get (P := fun v : Value => v = .int .i64 ((i : Nat) : Int)) 4 (hall 4 (by decide)) rfl rfl
          obtain rfl : x39 = .pointer (some ⟨fb, foff + i * 4, none⟩) := hD.get (P := fun v : Value => v = .pointer (some ⟨fb, foff + i * 4, none⟩)) 5 (hall 5 (by decide)) rfl rfl
          obtain rfl : x40 = .pointer (some ⟨fb, foff + i * 4 + 2, none⟩) := hD.get (P := fun v : Value => v = .pointer (some ⟨fb, foff + i * 4 + 2, none⟩)) 6 (hall 6 (by decide)) rfl rfl
          obtain rfl : x41 = .int .i64 RI := hD.get (P := fun v : Value => v = .int .i64 RI) 7 (hall 7 (by decide)) rfl rfl
          obtain rfl : x42 = .pointer (some ⟨w.heap.size, 2, none⟩) := hD.get (P := fun v : Value => v = .pointer (some ⟨w.heap.size, 2, none⟩)) 8 (hall 8 (by decide)) rfl rfl
          obtain rfl : x43 = .slice (some ⟨fb, foff, none⟩) y.fs.length cap3 := hD.get (P := fun v : Value => v = .slice (some ⟨fb, foff, none⟩) y.fs.length cap3) 9 (hall 9 (by decide)) rfl rfl
          obtain rfl : x44 = .int .i64 ((k : Nat) : Int) := hD.get (P := fun v : Value => v = .int .i64 ((k : Nat) : Int)) 10 (hall 10 (by decide)) rfl rfl
          obtain rfl : x45 = .pointer (some ⟨fb, foff + k * 4, none⟩) := hD.get (P := fun v : Value => v = .pointer (some ⟨fb, foff + k * 4, none⟩)) 11 (hall 11 (by decide)) rfl rfl
          obtain rfl : x46 = .pointer (some ⟨fb, foff + k * 4 + 2, none⟩) := hD.get (P := fun v : Value => v = .pointer (some ⟨fb, foff + k * 4 + 2, none⟩)) 12 (hall 12 (by decide)) rfl rfl
          obtain rfl : x47 = .int .i64 RK := hD.get (P := fun v : Value => v = .int .i64 RK) 13 (hall 13 (by decide)) rfl rfl
          obtain rfl : x48 = .bool CB := hD.get (P := fun v : Value => v = .bool CB) 14 (hall 14 (by decide)) rfl rfl
          obtain rfl : x49 = .bool (!CB) := hD.get (P := fun v : Value => v = .bool (!CB)) 15 (hall 15 (by decide)) rfl rfl
          have hW := hC.all (by intro j9 h9; exact hall _ (by revert j9; decide))
          clear hall hD hC
          have HB5 : Hid (Below w3.heap.size w3 u) := hbr.out.trans ((show Below wr.heap.size wr u from hW).mono hsr)
          clear hW
          cases CB with
          | true =>
            have HA5 : Hid (regB y nm ks = ((L.drop (j + 1)).all fun k => canB y.ty (resOf y ((i : Nat) : Int)) (resOf y k))) := by
              show _ = _
              rw [hall.out]
              exact all_nextS (p := fun k => canB y.ty (resOf y ((i : Nat) : Int)) (resOf y k)) hjl HCN.out
            go_wp2
            go_roundw
            case rel => exact ⟨j + 1, by omega, by go_num, HB5.out, HA5.out⟩
            case measure => simp [intOf]; omega
          | false =>
            have HF : Hid (regB y nm ks = false) := by
              show _ = _
              rw [hall.out]
              exact all_stopS (p := fun k => canB y.ty (resOf y ((i : Nat) : Int)) (resOf y k)) hjl HCN.out
            go_wp2
            try rw [Exit.noGoto_ret]
            refine bodyPost_ret (v := .bool false) (by simp [results, Tryz.results44, go_sem]) rfl ?_
            exact ⟨by rw [HF.out], HB3.out.trans (HB5.out.mono (by omega))⟩
      · obtain rfl : j = L.length := by omega
        have HF : Hid (regB y nm ks = true) := by
          show _ = _
          rw [hall.out, List.drop_length]
          rfl
        go_wp2
        try rw [Exit.noGoto_ret]
        refine bodyPost_ret (v := .bool true) (by simp [results, Tryz.results44, go_sem]) rfl ?_
        exact ⟨by rw [HF.out], HB3.out.trans (hbr.out.mono (by omega))⟩
  · exact absurd (by rw [hnil]; rfl) hL0
  · have HF : Hid (regB y nm ks = false) := regB_no (by rw [← HL.out]; exact hnil) (by rw [← HL.out, hw]; decide)
    rw [hw]
    have hw1 : wMany = ⟨#[109, 97, 110, 121]⟩ := rfl
    rw [hw1]
    clear hw hw1
    go_wp2
    try rw [Exit.noGoto_ret]
    refine bodyPost_ret (v := .bool false) (by simp [results, Tryz.results44, go_sem]) rfl ?_
    exact ⟨by rw [HF.out], HB3.out⟩
end Go.Proofs.YtnmbjmocnafekaaGreatDoor

