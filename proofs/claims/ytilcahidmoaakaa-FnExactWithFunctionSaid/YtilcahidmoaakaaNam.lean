/-
  The contracts of NamedOf, the program's and the model's.
-/
import Derived.Test.YtilcahidmoaakaaSsv
import Derived.Test.YtilcahidmoaakaaIsv
import Derived.Test.YtilcahidmoaakaaFrom
namespace Go.Proofs.Ytilcahidmoaakaa
open Go.RowKit Go.Maps

open Classical in
/-- The indices, below j, of the functions with a name and a number of arguments. -/
noncomputable def nmT (fs : List Fu) (nm : ByteArray) (a : Int) (j : Nat) : List Int := ((List.range j).filter fun i => decide ((fs.getD i default).name = nm ∧ ((fs.getD i default).args.length : Int) = a)).map fun i : Nat => (i : Int)
theorem nmT_hit {fs : List Fu} {nm : ByteArray} {a : Int} {j : Nat} (h : (fs.getD j default).name = nm ∧ ((fs.getD j default).args.length : Int) = a) : nmT fs nm a (j + 1) = nmT fs nm a j ++ [(j : Int)] := by
  unfold nmT
  rw [List.range_succ, List.filter_append, List.map_append]
  rw [List.getD_eq_getElem?_getD] at h
  simp [h.1, h.2]
theorem nmT_miss {fs : List Fu} {nm : ByteArray} {a : Int} {j : Nat} (h : ¬ ((fs.getD j default).name = nm ∧ ((fs.getD j default).args.length : Int) = a)) : nmT fs nm a (j + 1) = nmT fs nm a j := by
  unfold nmT
  rw [List.range_succ, List.filter_append, List.map_append]
  rw [List.getD_eq_getElem?_getD] at h
  have e : decide ((fs[j]?.getD default).name = nm ∧ ((fs[j]?.getD default).args.length : Int) = a) = false := decide_eq_false h
  simp only [List.getD_eq_getElem?_getD, List.filter_cons, List.filter_nil, e]
  simp
theorem nmT_le (fs : List Fu) (nm : ByteArray) (a : Int) (j : Nat) : (nmT fs nm a j).length ≤ j := by
  unfold nmT
  rw [List.length_map]
  exact Nat.le_trans (List.length_filter_le _ _) (by simp)
theorem nmT_wf (fs : List Fu) (nm : ByteArray) (a : Int) (j : Nat) (hj : j ≤ 1048576) : ∀ z ∈ nmT fs nm a j, I64 z := by
  intro z hz
  unfold nmT at hz
  obtain ⟨i, hi, rfl⟩ := List.mem_map.1 hz
  have := List.mem_range.1 (List.mem_filter.1 hi).1
  unfold I64
  omega
/-- What NamedOf returns. -/
noncomputable def namedV (y : Sy) (nm : ByteArray) (a : Int) : List Int := if syB y = true then nmT y.fs nm a y.fs.length else []
noncomputable def accN (y : Sy) (nm : ByteArray) (a : Int) (j : Nat) : List Int := if syB y = true then nmT y.fs nm a j else []
theorem accN_le (y : Sy) (nm : ByteArray) (a : Int) (j : Nat) : (accN y nm a j).length ≤ j := by
  unfold accN
  split
  · exact nmT_le _ _ _ _
  · simp
theorem namedV_le (y : Sy) (nm : ByteArray) (a : Int) : (namedV y nm a).length ≤ y.fs.length := by
  unfold namedV
  split
  · exact nmT_le _ _ _ _
  · simp
theorem namedV_wf (y : Sy) (nm : ByteArray) (a : Int) (hb : y.bulk ≤ 1048576) : ∀ z ∈ namedV y nm a, I64 z := by
  unfold namedV
  split
  · exact nmT_wf _ _ _ _ (by unfold Sy.bulk at hb; omega)
  · intro z hz; exact absurd hz (by simp)

/-- Those of some functions that have a number of arguments. -/
def withA (fs : List Fu) (a : Int) (zs : List Int) : List Int := zs.filter fun z => decide (((fs.getD z.toNat default).args.length : Int) = a)
theorem withA_hit {fs : List Fu} {a : Int} {zs : List Int} {j : Nat} (hj : j < zs.length) (h : ((fs.getD zs[j].toNat default).args.length : Int) = a) : withA fs a (zs.take (j + 1)) = withA fs a (zs.take j) ++ [zs[j]] := by
  unfold withA
  rw [List.take_succ_eq_append_getElem hj, List.filter_append]
  congr 1
  simp only [List.filter_cons, List.filter_nil, decide_eq_true h, if_true]
theorem withA_miss {fs : List Fu} {a : Int} {zs : List Int} {j : Nat} (hj : j < zs.length) (h : ¬ ((fs.getD zs[j].toNat default).args.length : Int) = a) : withA fs a (zs.take (j + 1)) = withA fs a (zs.take j) := by
  unfold withA
  rw [List.take_succ_eq_append_getElem hj, List.filter_append]
  have e : [zs[j]].filter (fun z => decide (((fs.getD z.toNat default).args.length : Int) = a)) = [] := by
    simp only [List.filter_cons, List.filter_nil, decide_eq_false h]
    simp
  rw [e, List.append_nil]
theorem withA_le (fs : List Fu) (a : Int) (zs : List Int) : (withA fs a zs).length ≤ zs.length := List.length_filter_le _ _
theorem withA_idxs (fs : List Fu) (nm : ByteArray) (a : Int) (k : Nat) : withA fs a (idxs fs k nm) = nmT fs nm a k := by
  unfold withA idxs nmT
  rw [List.filter_map, List.filter_filter]
  congr 1
  refine List.filter_congr fun i _ => ?_
  simp only [Function.comp, Int.toNat_natCast]
  rw [Bool.eq_iff_iff]
  simp only [Bool.and_eq_true, decide_eq_true_eq]
  exact ⟨fun h => ⟨h.2, h.1⟩, fun h => ⟨h.2, h.1⟩⟩

set_option maxRecDepth 100000 in
set_option maxHeartbeats 4000000 in
theorem implNamed_any (lo hi : Nat) (sv cv fv : Value) (y : Sy) (nm : ByteArray) (a : Int) (w : World) (hv : SyAt w lo hi sv cv fv y) (hB : hi ≤ w.heap.size) (hbk : y.bulk ≤ 1048576) (hnm : nm.size ≤ maxLen) :
    Calls Try.prog 25 #[.agg #[sv, cv, fv], .string nm, .int .i64 a] w fun e w' => ∃ v, e = .returned v ∧ Below w.heap.size w w' ∧ w'.ownsRow w.heap.size 3 1 v (namedV y nm a).length ((namedV y nm a).map (Value.int .i64)) := by
  obtain ⟨A, cap, rfl, hl1, hm1, hi1⟩ := hv.1.1.form
  obtain ⟨B, bap, rfl, hl2, hm2, hc1⟩ := hv.1.2.form
  obtain ⟨F, fap, rfl, hl3, hm3, hf1⟩ := hv.2.form
  unfold maxLen at hm3
  obtain ⟨i0, hi0, hz0, hz1, hz2⟩ := info_parts Try.infoInt
  have hn : y.fs.length ≤ 1048576 := by unfold Sy.bulk at hbk; omega
  have h3 : Below w.heap.size w (w.alloc (.cells #[.slice A y.ty.sizes.length cap, .slice B y.ty.cos.length bap, .slice F y.fs.length fap] 36)) := by go_grown
  have H1 := Lib.hid (Below.refl (w.heap.size + 1) (w.alloc (.cells #[.slice A y.ty.sizes.length cap, .slice B y.ty.cos.length bap, .slice F y.fs.length fap] 36)))
  have Hv := Lib.hid hv
  have Hf := Lib.hid hf1
  have Hnm := Lib.hid hnm
  clear hi1 hc1 hf1 hv hnm
  go_enter Try.func25, Try.ntmps25
  go_wp2_with fail
  refine (implSysValid_any lo hi _ _ _ y _ (Hv.out.below h3 hB) (by simp; omega)).mono ?_
  rintro e w1 ⟨rfl, hb1⟩
  have H2 := Lib.hid (H1.out.trans (hb1.mono (by simp)))
  obtain ⟨q0, q1, q2, hl, hB1⟩ := box3 H2.out
  have HB1 := Lib.hid hB1
  clear hb1 h3 hB1 H1
  by_cases hs : syB y = true
  case neg =>
    have hsf : syB y = false := by simpa using hs
    have hfin : Hid (namedV y nm a = []) := by show _ = _; unfold namedV; rw [if_neg hs]
    rw [hsf]
    clear hs
    go_wp2
    go_ret
    refine ⟨_, rfl, HB1.out, ?_⟩
    rw [hfin.out]
    exact World.ownsRow_nil _ _ _ _
  have hfin : Hid (namedV y nm a = nmT y.fs nm a y.fs.length) := by show _ = _; unfold namedV; rw [if_pos hs]
  rw [hs]
  clear hs
  go_wp2_with fail
  refine (indicesByName_any lo hi _ y.fs w1 (Hf.out.below HB1.out hB) (by omega) hn).mono ?_
  rintro e w3 ⟨D, rfl, hb3, hgrp, hown⟩
  have q2' := (hb3.cell (p := ⟨w.heap.size, 2, none⟩) hl).trans q2
  obtain ⟨v, zs, hlk0, hat, hoi, _, _⟩ := groups_look hown lawStr Try.underlying102 zeroInts (by unfold maxLen; omega) (kN_key Hnm.out)
  have hlk := hlk0 w3 rfl
  have hzs := hgrp.look Hnm.out hoi hat
  have hzi := ints_of_owns hoi
  obtain ⟨Z, zap, rfl, hlz, hmz, hz1'⟩ := hzi.form
  have Hzi := Lib.hid hz1'
  have Hzs := Lib.hid hzs
  have HB3 := Lib.hid (HB1.out.trans (hb3.mono HB1.out.size))
  have hl3 : w.heap.size < w3.heap.size := Nat.lt_of_lt_of_le hl hb3.size
  have Q2 := Lib.hid q2'
  have hzl : zs.length ≤ y.fs.length := by rw [hzs]; exact idxs_len _ _ _
  unfold maxLen at hmz
  clear hb3 hgrp hown hlk0 hat hoi hzi hz1' hzs q0 q1 q2 q2'
  go_wp2
  clear hlk
  go_loopw [7, 19] (fun l i wr => ∃ j : Nat, j ≤ zs.length ∧ i = .int .i64 j ∧ Hid (Below w3.heap.size w3 wr) ∧ Hid (wr.ownsRow w3.heap.size 3 1 l (withA y.fs a (zs.take j)).length ((withA y.fs a (zs.take j)).map (Value.int .i64)))) (fun _ i _ => zs.length - (intOf i).toNat)
  case atStart => exact ⟨0, Nat.zero_le _, rfl, Below.refl _ _, World.ownsRow_nil _ _ _ _⟩
  case round =>
    obtain ⟨j, hj, rfl, hb, hown⟩ := hrel
    have hbs := hb.out.size
    have HbW : Hid (Below w.heap.size w wr) := HB3.out.trans (hb.out.mono HB3.out.size)
    by_cases hlt : j < zs.length
    · obtain ⟨gz, oz, rfl, _, _, cz, _⟩ := (Hzi.out.below hb.out (Nat.le_refl _)).at_ hlt
      obtain ⟨i, hi', hni, ei⟩ := idxs_mem.1 (show zs[j] ∈ idxs y.fs y.fs.length nm by rw [← Hzs.out]; exact List.getElem_mem hlt)
      rw [ei] at cz
      have Hei := Lib.hid ei
      have p2 := (hb.out.cell (p := ⟨w.heap.size, 2, none⟩) hl3).trans Q2.out
      have hlw : w.heap.size < wr.heap.size := by omega
      obtain ⟨b, off, A1, cap1, A2, cap2, rfl, hlo, hhi, c0, c1, c2, c3, _, _, _, _, _⟩ := (Hf.out.below HbW.out hB).at_ hi'
      have hiI : (i : Int) < (y.fs.length : Int) := by omega
      have hle : (withA y.fs a (zs.take j)).length ≤ j := Nat.le_trans (withA_le _ _ _) (by rw [List.length_take]; omega)
      have hbw : b < wr.heap.size := by have := HbW.out.size; omega
      have Hg : Hid ((y.fs.getD zs[j].toNat default).args = y.fs[i].args) := by show _ = _; rw [Hei.out, Int.toNat_natCast, getD_of hi']
      clear ei hni c0 c2 c3
      by_cases hq : ((y.fs[i].args.length : Nat) : Int) = a
      · have hh := Lib.hid (withA_hit (fs := y.fs) (a := a) hlt (by rw [Hg.out]; exact hq))
        have htest : ((y.fs[i].args.length : Int) == a) = true := by simpa using hq
        clear hq
        go_wp2_with (at_builtin; refine wpList_append_own _ rfl (.tmp 32) (.tmp 34) 22 rfl w3.heap.size 3 i0 (.int .i64 0) 1 8 Try.underlying22 hi0 hz0 hz1 hz2 rfl (by decide) _ _ _ rfl (hown.out.alloc _) ⟨wr.heap.size, 0, none⟩ 1 1 [.int .i64 i] rfl rfl ?c1 ?c2 ?c3 ?c4 ?c5 ?_)
        case c1 =>
          intro n u hi
          match n, hi with
          | 0, hi => simp at hi; subst hi; simp [Addr.add]
        case c2 => intro u hu; simp at hu; subst hu; rfl
        case c3 => unfold maxLen; omega
        case c4 => omega
        case c5 => simp; omega
        intro v' w2 hown2 hgrow _
        have hb2 : Below w3.heap.size w3 w2 := (hb.out.alloc (by omega) _).grown hgrow (by simp; omega) (fun k hk => by
          obtain ⟨_, ⟨e, _⟩ | ⟨g, cap3, cur, e, hg, _⟩⟩ := hown.out
          · rw [e] at hk; simp [Value.ownBlock] at hk
          · rw [e] at hk; simp [Value.ownBlock] at hk; omega)
        have Hb2 := Lib.hid hb2
        have Hown2 := Lib.hid hown2
        clear hown2 hgrow hb2
        go_wp2
        go_roundw
        case rel => exact ⟨j + 1, by omega, by go_num, Hb2.out, ownsRow_cast Hown2.out (by rw [hh.out]; simp) (by rw [hh.out, Hei.out]; simp)⟩
        case measure => simp [intOf]; omega
      · have hh := Lib.hid (withA_miss (fs := y.fs) (a := a) hlt (by rw [Hg.out]; exact hq))
        have htest : ((y.fs[i].args.length : Int) == a) = false := by simpa using hq
        clear hq
        go_wp2
        go_roundw
        case rel => exact ⟨j + 1, by omega, by go_num, hb.out, by rw [hh.out]; exact hown.out⟩
        case measure => simp [intOf]; omega
    · obtain rfl : j = zs.length := by omega
      go_wp2
      go_ret
      refine ⟨_, rfl, HbW.out, ?_⟩
      have e : namedV y nm a = withA y.fs a (zs.take zs.length) := by rw [List.take_length, Hzs.out, withA_idxs, hfin.out]
      rw [e]
      exact ownsRow_base hown.out (by omega)

set_option maxRecDepth 100000 in
set_option maxHeartbeats 4000000 in
theorem specNamed_any (lo hi : Nat) (sv cv fv : Value) (y : Sy) (nm : ByteArray) (a : Int) (w : World) (hv : SyAt w lo hi sv cv fv y) (hB : hi ≤ w.heap.size) (hbk : y.bulk ≤ 1048576) :
    Calls Try.prog 24 #[.agg #[sv, cv, fv], .string nm, .int .i64 a] w fun e w' => ∃ v, e = .returned v ∧ Below w.heap.size w w' ∧ w'.ownsRow w.heap.size 3 1 v (namedV y nm a).length ((namedV y nm a).map (Value.int .i64)) := by
  obtain ⟨A, cap, rfl, hl1, hm1, hi1⟩ := hv.1.1.form
  obtain ⟨B, bap, rfl, hl2, hm2, hc1⟩ := hv.1.2.form
  obtain ⟨F, fap, rfl, hl3, hm3, hf1⟩ := hv.2.form
  unfold maxLen at hm3
  obtain ⟨i0, hi0, hz0, hz1, hz2⟩ := info_parts Try.infoInt
  have hn : y.fs.length ≤ 1048576 := by unfold Sy.bulk at hbk; omega
  have Hv := Lib.hid hv
  have Hf := Lib.hid hf1
  clear hi1 hc1 hf1 hv
  obtain ⟨WS, hWS⟩ : ∃ WS, WS = w.alloc (.cells #[.slice A y.ty.sizes.length cap, .slice B y.ty.cos.length bap, .slice F y.fs.length fap] 36) := ⟨_, rfl⟩
  have HWS := Lib.hid hWS
  have H3 : Hid (Below (w.heap.size + 1) (w.alloc (.cells #[.slice A y.ty.sizes.length cap, .slice B y.ty.cos.length bap, .slice F y.fs.length fap] 36)) WS) := by rw [hWS]; exact Below.refl _ _
  have hsS : WS.heap.size = w.heap.size + 1 := by rw [hWS]; simp
  clear hWS
  go_enter Try.func24, Try.ntmps24
  go_wp2
  go_loopw [7, 14] (fun l i wr => ∃ j : Nat, j ≤ y.fs.length ∧ i = .int .i64 j ∧ Hid (Below (w.heap.size + 1) (w.alloc (.cells #[.slice A y.ty.sizes.length cap, .slice B y.ty.cos.length bap, .slice F y.fs.length fap] 36)) wr) ∧ Hid (wr.ownsRow (w.heap.size + 1) 3 1 l (accN y nm a j).length ((accN y nm a j).map (Value.int .i64)))) (fun _ i _ => y.fs.length - (intOf i).toNat)
  case atStart =>
    refine ⟨0, Nat.zero_le _, rfl, (Below.refl _ _).alloc (by simp) _, ?_⟩
    have e : accN y nm a 0 = [] := by unfold accN; split <;> rfl
    show World.ownsRow _ _ _ _ _ _ _
    rw [e]
    have := World.ownsRow_lit (base := w.heap.size + 1) (e := 3) (size := 1) (w.alloc (.cells #[.slice A y.ty.sizes.length cap, .slice B y.ty.cos.length bap, .slice F y.fs.length fap] 36)) #[] 0 (by simp) (by unfold maxLen; omega) rfl
    simpa using this
  case round =>
    obtain ⟨j, hj, rfl, hb, hown⟩ := hrel
    by_cases hlt : j < y.fs.length
    · obtain ⟨q0, q1, q2, hlr, hb0⟩ := box3 hb.out
      obtain ⟨b, off, A1, cap1, A2, cap2, rfl, hlo, hhi, c0, c1, c2, c3, _, _, _, _, _⟩ := (Hf.out.below hb0 hB).at_ hlt
      have hle := accN_le y nm a j
      have Hb0 := Lib.hid hb0
      clear hb0
      have hg : Hid (y.fs.getD j default = y.fs[j]) := getD_of hlt
      go_wp2_with fail
      have hbc : Below wr.heap.size wr (wr.alloc (.cells #[.string y.fs[j].name, .slice A1 y.fs[j].args.length cap1, .int .i64 y.fs[j].res, .slice A2 y.fs[j].table.length cap2] 55)) := (Below.refl _ _).alloc (Nat.le_refl _) _
      refine (specSysValid_any lo hi _ _ _ y _ (Hv.out.below (Hb0.out.trans (hbc.mono (by omega))) hB) (by simp; omega)).mono ?_
      rintro e w1 ⟨rfl, hb1⟩
      have hrw : Row w1 wr.heap.size 55 [.string y.fs[j].name, .slice A1 y.fs[j].args.length cap1, .int .i64 y.fs[j].res, .slice A2 y.fs[j].table.length cap2] := (Row.new wr _ _).below hb1 (by simp)
      have d0 := hrw.cell 0
      have d1 := hrw.cell 1
      simp only [List.getElem?_cons_zero, List.getElem?_cons_succ] at d0 d1
      have hown1 := ownsRow_below (hown.out.alloc (.cells #[.string y.fs[j].name, .slice A1 y.fs[j].args.length cap1, .int .i64 y.fs[j].res, .slice A2 y.fs[j].table.length cap2] 55)) hb1 (Nat.le_refl _)
      have hbx := (hb.out.alloc (by omega) _).trans (hb1.mono (B' := w.heap.size + 1) (by simp; omega))
      have Hown1 := Lib.hid hown1
      have Hbx := Lib.hid hbx
      have hsz1 : w.heap.size + 1 ≤ w1.heap.size := by have := hb1.size; simp at this; omega
      clear hown1 hbx hb1 hbc hrw
      by_cases hok : syB y = true
      · have Eacc : Hid (∀ i, accN y nm a i = nmT y.fs nm a i) := fun i => by unfold accN; rw [if_pos hok]
        rw [hok]
        clear hok
        by_cases he : y.fs[j].name = nm
        · have hnm : y.fs[j].name.toList = nm.toList := by rw [he]
          by_cases hq : ((y.fs[j].args.length : Nat) : Int) = a
          · have hh := Lib.hid (nmT_hit (fs := y.fs) (nm := nm) (a := a) (j := j) (by rw [hg.out]; exact ⟨he, hq⟩))
            have htest : ((y.fs[j].args.length : Int) == a) = true := by simpa using hq
            clear hq he
            go_wp2_with (at_builtin; refine wpList_append_own _ rfl (.tmp 34) (.tmp 36) 22 rfl (w.heap.size + 1) 3 i0 (.int .i64 0) 1 8 Try.underlying22 hi0 hz0 hz1 hz2 rfl (by decide) _ _ _ rfl (Hown1.out.alloc _) ⟨w1.heap.size, 0, none⟩ 1 1 [.int .i64 j] rfl rfl ?c1 ?c2 ?c3 ?c4 ?c5 ?_)
            case c1 =>
              intro i u hi
              match i, hi with
              | 0, hi => simp at hi; subst hi; simp [Addr.add]
            case c2 => intro u hu; simp at hu; subst hu; rfl
            case c3 => unfold maxLen; omega
            case c4 => omega
            case c5 => simp; omega
            intro v' w2 hown2 hgrow _
            have hb2 := (Hbx.out.alloc (by omega) _).grown hgrow (by simp; omega) (fun k hk => by
              obtain ⟨_, ⟨e, _⟩ | ⟨g, cap3, cur, e, hg, _⟩⟩ := hown.out
              · rw [e] at hk; simp [Value.ownBlock] at hk
              · rw [e] at hk; simp [Value.ownBlock] at hk; omega)
            have Hb2 := Lib.hid hb2
            have Hown2 := Lib.hid hown2
            clear hown2 hgrow hb2
            go_wp2
            go_roundw
            case rel => exact ⟨j + 1, by omega, by go_num, Hb2.out, ownsRow_cast Hown2.out (by rw [Eacc.out, Eacc.out, hh.out]; simp) (by rw [Eacc.out, Eacc.out, hh.out]; simp)⟩
            case measure => simp [intOf]; omega
          · have hh := Lib.hid (nmT_miss (fs := y.fs) (nm := nm) (a := a) (j := j) (by rw [hg.out]; exact fun h => hq h.2))
            have htest : ((y.fs[j].args.length : Int) == a) = false := by simpa using hq
            clear hq he
            go_wp2
            go_roundw
            case rel => exact ⟨j + 1, by omega, by go_num, Hbx.out, ownsRow_cast Hown1.out (by rw [Eacc.out, Eacc.out, hh.out]) (by rw [Eacc.out, Eacc.out, hh.out])⟩
            case measure => simp [intOf]; omega
        · have hnm : ¬ y.fs[j].name.toList = nm.toList := fun h => he (bytes_eq h)
          have hh := Lib.hid (nmT_miss (fs := y.fs) (nm := nm) (a := a) (j := j) (by rw [hg.out]; exact fun h => he h.1))
          clear he
          go_wp2
          go_roundw
          case rel => exact ⟨j + 1, by omega, by go_num, Hbx.out, ownsRow_cast Hown1.out (by rw [Eacc.out, Eacc.out, hh.out]) (by rw [Eacc.out, Eacc.out, hh.out])⟩
          case measure => simp [intOf]; omega
      · have Eacc : Hid (∀ i, accN y nm a i = []) := fun i => by unfold accN; rw [if_neg hok]
        have hokf : syB y = false := by simpa using hok
        rw [hokf]
        clear hok
        go_wp2
        go_roundw
        case rel => exact ⟨j + 1, by omega, by go_num, Hbx.out, ownsRow_cast Hown1.out (by rw [Eacc.out, Eacc.out]) (by rw [Eacc.out, Eacc.out])⟩
        case measure => simp [intOf]; omega
    · obtain rfl : j = y.fs.length := by omega
      go_wp2
      go_ret
      exact ⟨_, rfl, (box3 hb.out).2.2.2.2, ownsRow_base hown.out (by omega)⟩
end Go.Proofs.Ytilcahidmoaakaa
