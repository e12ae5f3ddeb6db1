/-
  The contracts of the program's SignatureOf and FormatSystem.
-/
import Derived.Test.YtfcekbjoagogdaaDoorTyi
import Derived.Test.YtfcekbjoagogdaaDoorTxg
namespace Go.Proofs.YtfcekbjoagogdaaDoor
open Go.RowKit

set_option maxRecDepth 100000 in
set_option maxHeartbeats 2000000 in
theorem implSigOf_any (lo hi : Nat) (sv cv fv : Value) (y : Sy) (i : Int) (w : World) (hv : SyAt w lo hi sv cv fv y) (hB : hi ≤ w.heap.size) (hI : I64 i) (hm : ML w) :
    Calls Tryd.prog 20 #[.agg #[sv, cv, fv], .int .i64 i] w fun e w' => e = .returned (.string (str (sigOf y i))) ∧ Below w.heap.size w w' := by
  obtain ⟨A, cap, rfl, hl1, hm1, hi1⟩ := hv.1.1.form
  obtain ⟨B, bap, rfl, hl2, hm2, hc1⟩ := hv.1.2.form
  obtain ⟨F, fap, rfl, hl3, hm3, hf1⟩ := hv.2.form
  unfold maxLen at hm3
  have H1 := Lib.hid (Below.refl (w.heap.size + 1) (w.alloc (.cells #[.slice A y.ty.sizes.length cap, .slice B y.ty.cos.length bap, .slice F y.fs.length fap] 45)))
  have Hf := Lib.hid hf1
  have Hv := Lib.hid hv
  have HM := Lib.hid hm
  have hg := hm.lt
  clear hi1 hc1 hf1 hv hm
  have Hx : Hid (Below (w.heap.size + 1) (w.alloc (.cells #[.slice A y.ty.sizes.length cap, .slice B y.ty.cos.length bap, .slice F y.fs.length fap] 45)) ((w.alloc (.cells #[.slice A y.ty.sizes.length cap, .slice B y.ty.cos.length bap, .slice F y.fs.length fap] 45)).alloc (.cells #[.int .i64 i] 3))) := H1.out.alloc (by simp) _
  have hone : Hid (IntsAt ((w.alloc (.cells #[.slice A y.ty.sizes.length cap, .slice B y.ty.cos.length bap, .slice F y.fs.length fap] 45)).alloc (.cells #[.int .i64 i] 3)) (w.heap.size + 1) (w.heap.size + 2) (.slice (some ⟨w.heap.size + 1, 0, none⟩) 1 1) [i]) := by
    have h := Row.new (w.alloc (.cells #[.slice A y.ty.sizes.length cap, .slice B y.ty.cos.length bap, .slice F y.fs.length fap] 45)) 3 ([i].map (Value.int .i64))
    rw [World.size_alloc] at h
    exact h.ints (lo := w.heap.size + 1) (hi := w.heap.size + 2) (cap := 1) (fun z hz => by simp at hz; subst hz; exact hI) (Nat.le_refl _) (by omega) (by simp) (by unfold maxLen; omega)
  go_enter Tryd.func20, Tryd.ntmps20
  go_wp2_with fail
  refine (hasFunctions_any lo hi (w.heap.size + 1) (w.heap.size + 2) _ _ _ _ y [i] _ (Hv.out.below (box3 Hx.out).2.2.2.2 hB) hone.out (by simp; omega) (by simp)).mono ?_
  rintro e w1 ⟨rfl, hb1⟩
  have H2 := Lib.hid (Hx.out.trans (hb1.mono (by simp)))
  obtain ⟨q0, q1, q2, hl, hB1⟩ := box3 H2.out
  have HB1 := Lib.hid hB1
  clear hb1 hB1 H1 Hx hone
  have hh : (syB y && allIx [i] y.fs.length) = hasFB y i := by simp [hasFB, allIx]
  rw [hh]
  by_cases hs : hasFB y i = true
  · obtain ⟨hok, i0, i1, i2⟩ := hasFB_of hs
    have hsig : Hid (sigOf y i = sigT y.fs[i.toNat]) := by
      show _ = _
      unfold sigOf
      rw [if_pos hs, List.getD_eq_getElem?_getD, List.getElem?_eq_getElem i2]
      rfl
    rw [hs]
    have hd := syDigs hok i.toNat i2
    obtain ⟨n, rfl⟩ : ∃ n : Nat, i = n := ⟨i.toNat, by omega⟩
    simp only [Int.toNat_natCast] at i2 hsig hd
    obtain ⟨b, off, A1, cap1, A2, cap2, rfl, _, _, c0, c1, c2, c3, _, _, _, _, hfu⟩ := (Hf.out.below HB1.out hB).at_ i2
    have Hfu := Lib.hid hfu
    clear hfu hs hh
    go_wp2_with fail
    refine (implSig_any lo hi _ _ _ _ y.fs[n] w1 Hfu.out (by omega) hd (HM.out.below HB1.out hg)).mono ?_
    rintro e w2 ⟨rfl, hb2⟩
    have HB2 := Lib.hid (HB1.out.trans (hb2.mono (by omega)))
    clear hb2
    go_wp2
    go_ret
    exact ⟨by rw [hsig.out]; rfl, HB2.out⟩
  · have hsf : hasFB y i = false := by simpa using hs
    have hsig : Hid (sigOf y i = []) := if_neg hs
    rw [hsf]
    clear hs hh
    go_wp2
    go_ret
    exact ⟨by rw [hsig.out]; rfl, HB1.out⟩

set_option maxRecDepth 100000 in
set_option maxHeartbeats 4000000 in
theorem implFormatSy_any (lo hi : Nat) (sv cv fv : Value) (y : Sy) (w : World) (hv : SyAt w lo hi sv cv fv y) (hB : hi ≤ w.heap.size) (hm : ML w) :
    Calls Tryd.prog 23 #[.agg #[sv, cv, fv]] w fun e w' => e = .returned (.string (str (fmtSy y))) ∧ Below w.heap.size w w' := by
  obtain ⟨A, cap, rfl, hl1, hm1, hi1⟩ := hv.1.1.form
  obtain ⟨B, bap, rfl, hl2, hm2, hc1⟩ := hv.1.2.form
  obtain ⟨F, fap, rfl, hl3, hm3, hf1⟩ := hv.2.form
  unfold maxLen at hm3
  have h3 : Below w.heap.size w (w.alloc (.cells #[.slice A y.ty.sizes.length cap, .slice B y.ty.cos.length bap, .slice F y.fs.length fap] 45)) := by go_grown
  have H1 := Lib.hid (Below.refl (w.heap.size + 1) (w.alloc (.cells #[.slice A y.ty.sizes.length cap, .slice B y.ty.cos.length bap, .slice F y.fs.length fap] 45)))
  have Hf := Lib.hid hf1
  have Hv := Lib.hid hv
  have HM := Lib.hid hm
  have hg := hm.lt
  clear hi1 hc1 hf1 hv hl1 hm1 hl2 hm2 hm
  go_enter Tryd.func23, Tryd.ntmps23
  go_wp2_with fail
  refine (implSysValid_any lo hi _ _ _ y _ (Hv.out.below h3 hB) (by simp; omega)).mono ?_
  rintro e w2 ⟨rfl, hb2⟩
  have H2 := Lib.hid (H1.out.trans (hb2.mono (by simp)))
  obtain ⟨q0, q1, q2, hl2, hB2⟩ := box3 H2.out
  have HB2 := Lib.hid hB2
  clear hb2 hB2 h3
  by_cases hs : syB y = true
  · have hok := syB_iff.1 hs
    have hf : Hid (fmtSy y = syT y) := if_pos hs
    have hft : Hid (fmtTy y.ty = syTo y 0) := if_pos hok.ty
    have hd := Lib.hid (syDigs hok)
    have hlens := Lib.hid (@syTo_len y hok)
    have hc8 := hok.few
    rw [hs]
    clear hs
    have hs2 : w.heap.size + 1 ≤ w2.heap.size := by omega
    have H2a : Hid (Below (w.heap.size + 1) (w.alloc (.cells #[.slice A y.ty.sizes.length cap, .slice B y.ty.cos.length bap, .slice F y.fs.length fap] 45)) (w2.alloc (.cells #[.pointer none, .slice none 0 0] 66))) := H2.out.alloc hs2 _
    have hb0 : Hid (Bld w2.heap.size [] (w2.alloc (.cells #[.pointer none, .slice none 0 0] 66))) := Bld.new w2
    go_wp2_with fail
    refine (implFormat_any lo hi _ _ y.ty _ (Hv.out.below (box3 H2a.out).2.2.2.2 hB).1 (by simp; omega)).mono ?_
    rintro e w3 ⟨rfl, hb3⟩
    have hs3 := hb3.size
    rw [World.size_alloc] at hs3
    have H3 := Lib.hid (H2a.out.trans (hb3.mono (by simp; omega)))
    have hB3 := Lib.hid (hb0.out.below hb3)
    rw [hft.out]
    have hl0 := hlens.out 0 (Nat.zero_le _)
    clear hb3 H2a hb0 q0 q1 q2 hft hok
    go_wp2_with fail
    refine (writeString_any w2.heap.size [] (syTo y 0) w3 hB3.out (by simp; omega)).mono ?_
    rintro e w4 ⟨⟨v4, rfl⟩, hB4, hb4, _⟩
    rw [List.nil_append] at hB4
    have H4 := Lib.hid (H3.out.trans (hb4.mono hs2))
    have HB4 := Lib.hid hB4
    obtain ⟨q0', q1', q2', hl4, _⟩ := box3 H4.out
    clear hb4 hB4 hB3 H3
    go_wp2_with fail
    go_loopw [16] (fun i wr => ∃ k : Nat, k ≤ y.fs.length ∧ i = .int .i64 k ∧ Hid (Bld w2.heap.size (syTo y k) wr) ∧ Hid (Below (w.heap.size + 1) (w.alloc (.cells #[.slice A y.ty.sizes.length cap, .slice B y.ty.cos.length bap, .slice F y.fs.length fap] 45)) wr)) (fun i _ => y.fs.length - (intOf i).toNat)
    case atStart => exact ⟨0, Nat.zero_le _, rfl, HB4.out, H4.out⟩
    case round =>
      obtain ⟨k, hk, rfl, hbl, hbr⟩ := hrel
      obtain ⟨r0, r1, r2, hlr, hbw⟩ := box3 hbr.out
      have Hbw := Lib.hid hbw
      have hltb := hbl.out.lt
      clear hbw q0' q1' q2' H4 HB4
      by_cases hkl : k < y.fs.length
      · obtain ⟨b4, off4, A1, cap1, A2, cap2, rfl, _, _, c0, c1, c2, c3, _, _, _, _, hfu⟩ := (Hf.out.below Hbw.out hB).at_ hkl
        have Hfu := Lib.hid hfu
        clear hfu
        have hz := Lib.hid (hd.out k hkl)
        have hlen := hlens.out k (by omega)
        have eg : Hid (y.fs.getD k default = y.fs[k]) := by
          show _ = _
          rw [List.getD_eq_getElem?_getD, List.getElem?_eq_getElem hkl]; rfl
        have hrow : Hid (Row (wr.alloc (.cells #[.string y.fs[k].name, .slice A1 y.fs[k].args.length cap1, .int .i64 y.fs[k].res, .slice A2 y.fs[k].table.length cap2] 84)) wr.heap.size 84 [.string y.fs[k].name, .slice A1 y.fs[k].args.length cap1, .int .i64 y.fs[k].res, .slice A2 y.fs[k].table.length cap2]) := Row.new _ _ _
        go_wp2_with fail
        refine (writeByte_any w2.heap.size (syTo y k) 47 47 rfl _ (hbl.out.alloc _) (by omega)).mono ?_
        rintro e w5 ⟨⟨v5, rfl⟩, hB5, hb5, ho5⟩
        have hs5 := hb5.size
        have hrow5 := others_row ho5 hrow.out (by omega) (by decide)
        have H5 := Lib.hid ((hbr.out.alloc (by omega) (.cells #[.string y.fs[k].name, .slice A1 y.fs[k].args.length cap1, .int .i64 y.fs[k].res, .slice A2 y.fs[k].table.length cap2] 84)).trans (hb5.mono hs2))
        have Hx5 := Lib.hid (((Below.refl w2.heap.size wr).alloc (by omega) (.cells #[.string y.fs[k].name, .slice A1 y.fs[k].args.length cap1, .int .i64 y.fs[k].res, .slice A2 y.fs[k].table.length cap2] 84)).trans hb5)
        have HB5 := Lib.hid hB5
        have p0 := hrow5.cell 0
        have p1 := hrow5.cell 1
        have p2 := hrow5.cell 2
        have p3 := hrow5.cell 3
        simp only [List.getElem?_cons_zero, List.getElem?_cons_succ] at p0 p1 p2 p3
        clear hb5 ho5 hrow hrow5 hB5 hbl hs5 c0 c1 c2 c3 r0 r1 r2
        have hlt5 := HB5.out.lt
        have hM5 := Lib.hid (HM.out.below (box3 H5.out).2.2.2.2 hg)
        go_wp2_with fail
        refine (implFu_any lo hi _ _ _ _ y.fs[k] w5 (Hfu.out.keep fun j _ hj => Hx5.out.block j (by omega)) (by omega) hz.out hM5.out).mono ?_
        rintro e w6 ⟨rfl, hb6⟩
        have hs6 := hb6.size
        have H6 := Lib.hid (H5.out.trans (hb6.mono (by omega)))
        have HB6 := Lib.hid (HB5.out.below hb6)
        clear hb6 H5 HB5 p0 p1 p2 p3
        have hcl := fuT_len hz.out
        go_wp2_with fail
        refine (writeString_any w2.heap.size (syTo y k ++ [47]) (fuT y.fs[k]) w6 HB6.out (by simp; omega)).mono ?_
        rintro e w7 ⟨⟨v7, rfl⟩, hB7, hb7, _⟩
        have H7 := Lib.hid (H6.out.trans (hb7.mono hs2))
        have HB7 : Hid (Bld w2.heap.size (syTo y (k + 1)) w7) := by
          show Bld w2.heap.size (syTo y k ++ [47] ++ fuT (y.fs.getD k default)) w7
          rw [eg.out]
          exact hB7
        clear hB7 hb7 H6 HB6
        go_wp2
        go_roundw
        case rel => exact ⟨k + 1, by omega, by go_num, HB7.out, H7.out⟩
        case measure => simp [intOf]; omega
      · obtain rfl : k = y.fs.length := by omega
        go_wp2_with fail
        refine (bldString_any w2.heap.size (syT y) wr hbl.out).mono ?_
        rintro e w5 ⟨rfl, hb5⟩
        have H5 := Lib.hid (hbr.out.trans (hb5.mono hs2))
        clear hb5
        go_wp2
        go_ret
        exact ⟨by rw [hf.out]; rfl, (box3 H5.out).2.2.2.2⟩
  · have hsf : syB y = false := by simpa using hs
    have hf : Hid (fmtSy y = []) := if_neg hs
    rw [hsf]
    go_wp2
    go_ret
    exact ⟨by rw [hf.out]; rfl, HB2.out⟩
end Go.Proofs.YtfcekbjoagogdaaDoor
