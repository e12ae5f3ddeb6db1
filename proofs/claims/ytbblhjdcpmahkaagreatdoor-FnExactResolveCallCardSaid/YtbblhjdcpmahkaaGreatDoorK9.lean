/-
  The contract of NamedOf, the program's.
  The contract of the program's costsOfCall: a map of the call's own from the applicable functions to their costs.
  The contract of the program's indicesIn: the keys of a map of the call's own, in ascending order.
  The contracts of the program's ApplicableOf and CostOf.
  What holds in a region that lays two functions of a list into boxes of their own: by what has been done.
  The contract of the program's IsBelow.
  The contract of the program's LeastOf.
-/
import Derived.Test.YtbblhjdcpmahkaaGreatDoorK8
import Derived.Test.YtbblhjdcpmahkaaGreatDoorK4
import Derived.Test.YtbblhjdcpmahkaaGreatDoorK6
import Derived.Test.YtbblhjdcpmahkaaGreatDoorK7
import Derived.Test.YtbblhjdcpmahkaaGreatDoorK5
import Derived.Maps.Own
import Derived.WalkMore
import Derived.Deep.LoopGhost
import Derived.Deep.RegionHeld3
import Derived.Test.YtbblhjdcpmahkaaGreatDoorKeys
import Derived.Lib.SlKeysI
import Derived.Maps.OwnSet
import Derived.Test.YtbblhjdcpmahkaaGreatDoorK1
import Derived.Test.YtbblhjdcpmahkaaGreatDoorRows
namespace Go.Proofs.YtbblhjdcpmahkaaGreatDoor
open Go.RowKit Go.Maps

set_option maxRecDepth 100000 in
set_option maxHeartbeats 4000000 in
theorem implNamed_any (lo hi : Nat) (sv cv fv : Value) (y : Sy) (nm : ByteArray) (a : Int) (w : World) (hv : SyAt w lo hi sv cv fv y) (hB : hi ≤ w.heap.size) (hbk : y.bulk ≤ 1048576) (hnm : nm.size ≤ maxLen) :
    Calls Tryz.prog 45 #[.agg #[sv, cv, fv], .string nm, .int .i64 a] w fun e w' => ∃ v, e = .returned v ∧ Below w.heap.size w w' ∧ w'.ownsRow w.heap.size 3 1 v (namedV y nm a).length ((namedV y nm a).map (Value.int .i64)) := by
  obtain ⟨A, cap, rfl, hl1, hm1, hi1⟩ := hv.1.1.form
  obtain ⟨B, bap, rfl, hl2, hm2, hc1⟩ := hv.1.2.form
  obtain ⟨F, fap, rfl, hl3, hm3, hf1⟩ := hv.2.form
  unfold maxLen at hm3
  obtain ⟨i0, hi0, hz0, hz1, hz2⟩ := info_parts Tryz.infoInt
  have hn : y.fs.length ≤ 1048576 := by unfold Sy.bulk at hbk; omega
  have h3 : Below w.heap.size w (w.alloc (.cells #[.slice A y.ty.sizes.length cap, .slice B y.ty.cos.length bap, .slice F y.fs.length fap] 37)) := by go_grown
  have H1 := Lib.hid (Below.refl (w.heap.size + 1) (w.alloc (.cells #[.slice A y.ty.sizes.length cap, .slice B y.ty.cos.length bap, .slice F y.fs.length fap] 37)))
  have Hv := Lib.hid hv
  have Hf := Lib.hid hf1
  have Hnm := Lib.hid hnm
  clear hi1 hc1 hf1 hv hnm
  go_enter Tryz.func45, Tryz.ntmps45
  go_wp2_with fail
  refine (implSysValid_any lo hi _ _ _ y _ (Hv.out.below h3 hB) (by simp; omega)).mono ?_
  rintro e w1 ⟨rfl, hb1⟩
  have H2 := Lib.hid (H1.out.trans (hb1.mono (by simp)))
  obtain ⟨q0, q1, q2, hl, hB1⟩ := box3 H2.out
  have HB1 := Lib.hid hB1
  clear hb1 h3 hB1 H1
  by_cases hs : syB y = true
  case neg =>
    have hsf : syB y = false := by simpa using hs
    have hfin : Hid (namedV y nm a = []) := by show _ = _; unfold namedV; rw [if_neg hs]
    rw [hsf]
    clear hs
    go_wp2
    go_ret
    refine ⟨_, rfl, HB1.out, ?_⟩
    rw [hfin.out]
    exact World.ownsRow_nil _ _ _ _
  have hfin : Hid (namedV y nm a = nmT y.fs nm a y.fs.length) := by show _ = _; unfold namedV; rw [if_pos hs]
  rw [hs]
  clear hs
  go_wp2_with fail
  refine (indicesByName_any lo hi _ y.fs w1 (Hf.out.below HB1.out hB) (by omega) hn).mono ?_
  rintro e w3 ⟨D, rfl, hb3, hgrp, hown⟩
  have q2' := (hb3.cell (p := ⟨w.heap.size, 2, none⟩) hl).trans q2
  obtain ⟨v, zs, hlk0, hat, hoi, _, _⟩ := groups_look hown lawStr Tryz.underlying105 zeroInts (by unfold maxLen; omega) (kN_key Hnm.out)
  have hlk := hlk0 w3 rfl
  have hzs := hgrp.look Hnm.out hoi hat
  have hzi := ints_of_owns hoi
  obtain ⟨Z, zap, rfl, hlz, hmz, hz1'⟩ := hzi.form
  have Hzi := Lib.hid hz1'
  have Hzs := Lib.hid hzs
  have HB3 := Lib.hid (HB1.out.trans (hb3.mono HB1.out.size))
  have hl3 : w.heap.size < w3.heap.size := Nat.lt_of_lt_of_le hl hb3.size
  have Q2 := Lib.hid q2'
  have hzl : zs.length ≤ y.fs.length := by rw [hzs]; exact idxs_len _ _ _
  unfold maxLen at hmz
  clear hb3 hgrp hown hlk0 hat hoi hzi hz1' hzs q0 q1 q2 q2'
  go_wp2
  clear hlk
  go_loopw [7, 19] (fun l i wr => ∃ j : Nat, j ≤ zs.length ∧ i = .int .i64 j ∧ Hid (Below w3.heap.size w3 wr) ∧ Hid (wr.ownsRow w3.heap.size 3 1 l (withA y.fs a (zs.take j)).length ((withA y.fs a (zs.take j)).map (Value.int .i64)))) (fun _ i _ => zs.length - (intOf i).toNat)
  case atStart => exact ⟨0, Nat.zero_le _, rfl, Below.refl _ _, World.ownsRow_nil _ _ _ _⟩
  case round =>
    obtain ⟨j, hj, rfl, hb, hown⟩ := hrel
    have hbs := hb.out.size
    have HbW : Hid (Below w.heap.size w wr) := HB3.out.trans (hb.out.mono HB3.out.size)
    by_cases hlt : j < zs.length
    · obtain ⟨gz, oz, rfl, _, _, cz, _⟩ := (Hzi.out.below hb.out (Nat.le_refl _)).at_ hlt
      obtain ⟨i, hi', hni, ei⟩ := idxs_mem.1 (show zs[j] ∈ idxs y.fs y.fs.length nm by rw [← Hzs.out]; exact List.getElem_mem hlt)
      rw [ei] at cz
      have Hei := Lib.hid ei
      have p2 := (hb.out.cell (p := ⟨w.heap.size, 2, none⟩) hl3).trans Q2.out
      have hlw : w.heap.size < wr.heap.size := by omega
      obtain ⟨b, off, A1, cap1, A2, cap2, rfl, hlo, hhi, c0, c1, c2, c3, _, _, _, _, _⟩ := (Hf.out.below HbW.out hB).at_ hi'
      have hiI : (i : Int) < (y.fs.length : Int) := by omega
      have hle : (withA y.fs a (zs.take j)).length ≤ j := Nat.le_trans (withA_le _ _ _) (by rw [List.length_take]; omega)
      have hbw : b < wr.heap.size := by have := HbW.out.size; omega
      have Hg : Hid ((y.fs.getD zs[j].toNat default).args = y.fs[i].args) := by show _ = _; rw [Hei.out, Int.toNat_natCast, getD_of hi']
      clear ei hni c0 c2 c3
      by_cases hq : ((y.fs[i].args.length : Nat) : Int) = a
      · have hh := Lib.hid (withA_hit (fs := y.fs) (a := a) hlt (by rw [Hg.out]; exact hq))
        have htest : ((y.fs[i].args.length : Int) == a) = true := by simpa using hq
        clear hq
        go_wp2_with (at_builtin; refine wpList_append_own _ rfl (.tmp 32) (.tmp 34) 22 rfl w3.heap.size 3 i0 (.int .i64 0) 1 8 Tryz.underlying22 hi0 hz0 hz1 hz2 rfl (by decide) _ _ _ rfl (hown.out.alloc _) ⟨wr.heap.size, 0, none⟩ 1 1 [.int .i64 i] rfl rfl ?c1 ?c2 ?c3 ?c4 ?c5 ?_)
        case c1 =>
          intro n u hi
          match n, hi with
          | 0, hi => simp at hi; subst hi; simp [Addr.add]
        case c2 => intro u hu; simp at hu; subst hu; rfl
        case c3 => unfold maxLen; omega
        case c4 => omega
        case c5 => simp; omega
        intro v' w2 hown2 hgrow _
        have hb2 : Below w3.heap.size w3 w2 := (hb.out.alloc (by omega) _).grown hgrow (by simp; omega) (fun k hk => by
          obtain ⟨_, ⟨e, _⟩ | ⟨g, cap3, cur, e, hg, _⟩⟩ := hown.out
          · rw [e] at hk; simp [Value.ownBlock] at hk
          · rw [e] at hk; simp [Value.ownBlock] at hk; omega)
        have Hb2 := Lib.hid hb2
        have Hown2 := Lib.hid hown2
        clear hown2 hgrow hb2
        go_wp2
        go_roundw
        case rel => exact ⟨j + 1, by omega, by go_num, Hb2.out, ownsRow_cast Hown2.out (by rw [hh.out]; simp) (by rw [hh.out, Hei.out]; simp)⟩
        case measure => simp [intOf]; omega
      · have hh := Lib.hid (withA_miss (fs := y.fs) (a := a) hlt (by rw [Hg.out]; exact hq))
        have htest : ((y.fs[i].args.length : Int) == a) = false := by simpa using hq
        clear hq
        go_wp2
        go_roundw
        case rel => exact ⟨j + 1, by omega, by go_num, hb.out, by rw [hh.out]; exact hown.out⟩
        case measure => simp [intOf]; omega
    · obtain rfl : j = zs.length := by omega
      go_wp2
      go_ret
      refine ⟨_, rfl, HbW.out, ?_⟩
      have e : namedV y nm a = withA y.fs a (zs.take zs.length) := by rw [List.take_length, Hzs.out, withA_idxs, hfin.out]
      rw [e]
      exact ownsRow_base hown.out (by omega)
end Go.Proofs.YtbblhjdcpmahkaaGreatDoor

namespace Go.Proofs.YtbblhjdcpmahkaaGreatDoor
open Go.RowKit Go.Maps

theorem keyInt : Keyed Tryz.prog 3 := int_keyed Tryz.underlying3
theorem wfInt {z : Int} (h : I64 z) : (Lit.int .i64 z).wf = true := by
  unfold I64 at h
  simp [Lit.wf, IntKind.min, IntKind.max, IntKind.signed, IntKind.bits]
  omega
theorem apTo_step {t : Ty} {ks gs : List Int} {k : Nat} (h : ∀ j, j < k → canC t (ks.getD j 0) (gs.getD j 0) = true) (hk : k < ks.length) (hg : k < gs.length) (hc : canC t ks[k] gs[k] = true) : ∀ j, j < k + 1 → canC t (ks.getD j 0) (gs.getD j 0) = true := fun j hj => by
  by_cases e : j = k
  · subst e; rw [getD_of hk, getD_of hg]; exact hc
  · exact h j (by omega)
theorem costTo_step {t : Ty} {ks gs : List Int} {k : Nat} (hk : k < ks.length) (hg : k < gs.length) : costTo t ks gs (k + 1) = costTo t ks gs k + (shortV t ks[k] gs[k]).length := by
  show costTo t ks gs k + (shortV t (ks.getD k 0) (gs.getD k 0)).length = _
  rw [getD_of hk, getD_of hg]

/-- What costsOfCall returns. -/
def CostsAt (w : World) (lo : Nat) (y : Sy) (nm : ByteArray) (ks : List Int) (e : Ending) (w' : World) : Prop :=
  ∃ (b n : Nat) (D : DataW Unit), e = .returned (.map (some b)) ∧ lo ≤ b ∧ n ≤ 1048576 ∧ Below lo w w' ∧ Cst y ks (applicV y nm ks) D ∧ w'.ownsMap Tryz.prog 3 (plainElem Tryz.prog 3) b n D

set_option maxRecDepth 100000 in
set_option maxHeartbeats 4000000 in
theorem costsOfCall_any (lo hi lo' hi' : Nat) (sv cv fv kv : Value) (y : Sy) (nm : ByteArray) (ks : List Int) (w : World) (hv : SyAt w lo hi sv cv fv y) (hk : IntsAt w lo' hi' kv ks) (hB : hi ≤ w.heap.size) (hB' : hi' ≤ w.heap.size) (hbk : y.bulk ≤ 1048576) (hnm : nm.size ≤ maxLen) :
    Calls Tryz.prog 30 #[.agg #[sv, cv, fv], .string nm, kv] w (CostsAt w w.heap.size y nm ks) := by
  obtain ⟨A, cap, rfl, hl1, hm1, hi1⟩ := hv.1.1.form
  obtain ⟨B, bap, rfl, hl2, hm2, hc1⟩ := hv.1.2.form
  obtain ⟨F, fap, rfl, hl3, hm3, hf1⟩ := hv.2.form
  obtain ⟨K, kap, rfl, hlk, hmk, hk1⟩ := hk.form
  unfold maxLen at hm3 hmk
  have hmm := @run_makeMap Tryz.prog
  have hn : y.fs.length ≤ 1048576 := by unfold Sy.bulk at hbk; omega
  have Hv := Lib.hid hv
  have Hf := Lib.hid hf1
  have Hk := Lib.hid hk1
  have HT := Lib.hid (show TyAt w lo hi (.slice A y.ty.sizes.length cap) (.slice B y.ty.cos.length bap) y.ty from ⟨hi1, hc1⟩)
  have Hnm := Lib.hid hnm
  clear hi1 hc1 hf1 hk1 hk hv hnm
  have hzle := namedV_le y nm (ks.length : Int)
  have hzwf := namedV_wf y nm (ks.length : Int) hbk
  have hval : Hid (applicV y nm ks = apsIn y ks (namedV y nm (ks.length : Int))) := rfl
  have hzat : Hid (∀ m, ∀ (hm : m < (namedV y nm (ks.length : Int)).length), SyOk y ∧ ∃ i : Nat, (namedV y nm (ks.length : Int))[m] = (i : Int) ∧ ∃ hi : i < y.fs.length, y.fs[i].args.length = ks.length) := fun m hm => by
    obtain ⟨hs, i, hi, _, ha, e⟩ := namedV_mem.1 (List.getElem_mem hm)
    rw [getD_of hi] at ha
    exact ⟨hs, i, e, hi, by omega⟩
  have h3 : Below w.heap.size w ((w.alloc (.cells #[.slice A y.ty.sizes.length cap, .slice B y.ty.cos.length bap, .slice F y.fs.length fap] 37)).alloc (.map #[] 0)) := by go_grown
  have H3 := Lib.hid h3
  have hmade : ((w.alloc (.cells #[.slice A y.ty.sizes.length cap, .slice B y.ty.cos.length bap, .slice F y.fs.length fap] 37)).alloc (.map #[] 0)).ownsMap Tryz.prog 3 (plainElem Tryz.prog 3) (w.heap.size + 1) 0 (.map [] : DataW Unit) := by
    have h := World.ownsMap_made (H := Unit) (w.alloc (.cells #[.slice A y.ty.sizes.length cap, .slice B y.ty.cos.length bap, .slice F y.fs.length fap] 37)) Tryz.prog 3 (plainElem Tryz.prog 3)
    rwa [World.size_alloc] at h
  have Hmade := Lib.hid hmade
  have H31 := Lib.hid ((Below.refl (w.heap.size + 1) (w.alloc (.cells #[.slice A y.ty.sizes.length cap, .slice B y.ty.cos.length bap, .slice F y.fs.length fap] 37))).alloc (by simp) (.map #[] 0))
  clear h3 hmade
  go_enter Tryz.func30, Tryz.ntmps30
  go_wp2
  go_step3
  go_wp2
  go_step3
  go_wp2_with fail
  refine (implNamed_any lo hi _ _ _ y nm (ks.length : Int) _ (Hv.out.below H3.out hB) (by simp; omega) hbk Hnm.out).mono ?_
  rintro e wL ⟨v, rfl, hbL, hown⟩
  simp only [World.size_alloc] at hbL hown
  generalize namedV y nm (ks.length : Int) = zs at *
  have hbi := Lib.hid (ownsRow.intsAt (lo := w.heap.size + 2) (hi := wL.heap.size) (show wL.ownsRow (w.heap.size + 2) 3 1 _ zs.length (zs.map (Value.int .i64)) from hown) hzwf (Nat.le_refl _) (Nat.le_refl _))
  obtain ⟨OA, OC, rfl⟩ := owns_form hown
  have Hbi := hbi
  have HbL := Lib.hid (H3.out.trans (hbL.mono (by omega)))
  have HbX := Lib.hid (H31.out.trans (hbL.mono (by omega)))
  have Hm0 := Lib.hid (Hmade.out.kept (row := none) ⟨hbL.os, hbL.tape, hbL.output, hbL.size, fun j hj _ => hbL.block j (by simpa using hj)⟩ (by simp))
  have hLs : w.heap.size + 2 ≤ wL.heap.size := by have := hbL.size; simp at this; omega
  clear hzwf hbL hown
  go_wp2
  go_loopg [22] zs.length (fun gk i wx => ∃ j : Nat, j + gk = zs.length ∧ i = .int .i64 j ∧ Hid (Below w.heap.size w wx) ∧ Hid (wL.heap.size ≤ wx.heap.size ∧ ∀ k, k < wL.heap.size → k ≠ w.heap.size + 1 → wx.heap[k]? = wL.heap[k]?) ∧
    Hid (∃ D : DataW Unit, Cst y ks (apsIn y ks (zs.take j)) D ∧ wx.ownsMap Tryz.prog 3 (plainElem Tryz.prog 3) (w.heap.size + 1) j D))
  case atStart => exact ⟨0, by omega, rfl, HbL, ⟨Nat.le_refl _, fun _ _ _ => rfl⟩, ⟨_, by rw [List.take_zero]; exact Cst.nil y ks, Hm0.out⟩⟩
  case round =>
    obtain ⟨j, hjg, rfl, hbx, hhx, hmx⟩ := hrel
    obtain ⟨wx, rfl⟩ : ∃ u, u = wr := ⟨_, rfl⟩
    cases gk with
    | zero =>
      obtain rfl : j = zs.length := by omega
      go_wp2
      try rw [Exit.noGoto_ret]
      go_ret
      obtain ⟨D, hC, hO⟩ := hmx.out
      exact ⟨_, _, D, rfl, by omega, by omega, hbx.out, by rw [hval.out, ← List.take_length (l := zs)]; exact hC, hO⟩
    | succ g2 =>
      have hlt : j < zs.length := by omega
      have Hbix := Lib.hid (Hbi.out.keep (w' := wx) fun k hk1 hk2 => hhx.out.2 k hk2 (by omega))
      obtain ⟨hsy, ij, ej, hij, hal⟩ := hzat.out j hlt
      obtain ⟨b8, off8, rfl, _, _, c8, _⟩ := Hbix.out.at_ hlt
      rw [ej] at c8
      have Ej := Lib.hid ej
      have Hsy := Lib.hid hsy
      have Hal := Lib.hid hal
      have hgz : Hid ((y.fs.getD zs[j].toNat default).args = y.fs[ij].args) := by show _ = _; rw [Ej.out, Int.toNat_natCast, getD_of hij]
      have hsx := hhx.out.1
      have hfew : y.fs[ij].args.length ≤ 2 := (Hsy.out.each ij hij).few
      have hkf : ks.length ≤ 2 := by have := Hal.out; omega
      clear ej hsy hal
      go_wp2
      go_loopg [10, 28] ks.length (fun gi n i wy => ∃ m : Nat, m + gi = ks.length ∧ i = .int .i64 m ∧ n = .int .i64 (costTo y.ty ks y.fs[ij].args m : Nat) ∧ Hid (Below wx.heap.size wx wy) ∧ Hid (∀ q, q < m → canC y.ty (ks.getD q 0) (y.fs[ij].args.getD q 0) = true))
      case atStart => exact ⟨0, by omega, rfl, rfl, Below.refl _ _, fun q h => absurd h (by omega)⟩
      case round =>
        obtain ⟨m, hmg, rfl, rfl, hby, hall⟩ := hrel
        obtain ⟨wy, rfl⟩ : ∃ u, u = wr := ⟨_, rfl⟩
        have hbxy := hbx.out.trans (hby.out.mono (by omega))
        have Hbxy := Lib.hid hbxy
        have hsy := hby.out.size
        clear hbxy
        cases gk with
        | zero =>
          obtain rfl : m = ks.length := by omega
          have hap : ApTo y.ty ks (y.fs.getD zs[j].toNat default).args := by rw [hgz.out]; exact ⟨by have := Hal.out; omega, hall.out⟩
          have hh := Lib.hid (apsIn_hit hlt hap)
          obtain ⟨D, hC, hO⟩ := hmx.out
          have hcost : costOf y ks (ij : Int) = (costTo y.ty ks y.fs[ij].args ks.length : Nat) := by unfold costOf costV; rw [Int.toNat_natCast, getD_of hij]
          have hcle := costTo_le y.ty ks y.fs[ij].args ks.length
          have hOy : wy.ownsMap Tryz.prog 3 (plainElem Tryz.prog 3) (w.heap.size + 1) j D := hO.kept (row := none) ⟨hby.out.os, hby.out.tape, hby.out.output, hby.out.size, fun k hk _ => hby.out.block k hk⟩ (by simp)
          have hC2 := hC.step (ij : Int)
          rw [hcost] at hC2
          have HC2 := Lib.hid hC2
          clear hcost hC hO hC2 hap
          go_wp2_with (at_mapUpdate; refine wpList_mapUpdate_own _ rfl _ _ _ 60 rfl 3 3 keyInt Tryz.underlying60 _ (w.heap.size + 1) j D rfl hOy (by unfold maxLen; omega) (.int .i64 (ij : Nat)) (.int .i64 (costTo y.ty ks y.fs[ij].args ks.length : Nat)) (.int .i64 (ij : Nat)) rfl rfl (keyOf_int_mk Tryz.underlying3 (wfInt (by unfold I64; omega))) (.lit (.int .i64 (costTo y.ty ks y.fs[ij].args ks.length : Nat))) [] (plainElem_int Tryz.underlying3 (wfInt (by unfold I64; omega))) ?_)
          intro w3 hO3 hg3
          have hs3 := hg3.size
          have hb3 := Lib.hid (Hbxy.out.grown hg3 (by omega) (fun k hk => by simp at hk; omega))
          have Hh3 := Lib.hid (show wL.heap.size ≤ w3.heap.size ∧ ∀ k, k < wL.heap.size → k ≠ w.heap.size + 1 → w3.heap[k]? = wL.heap[k]? from ⟨by omega, fun k h1 h2 => (hg3.block k (by omega) (fun e => h2 (by simpa using e))).trans ((hby.out.block k (by omega)).trans (hhx.out.2 k h1 h2))⟩)
          have HO3 : Hid (∃ D : DataW Unit, Cst y ks (apsIn y ks (zs.take (j + 1))) D ∧ w3.ownsMap Tryz.prog 3 (plainElem Tryz.prog 3) (w.heap.size + 1) (j + 1) D) := ⟨_, by rw [hh.out, Ej.out]; exact HC2.out, hO3⟩
          clear hO3 hg3 hs3 hOy
          go_wp2
          go_roundg g2
          case measure => omega
          case rel => exact ⟨j + 1, by omega, by go_num, hb3, Hh3, HO3⟩
        | succ g3 =>
          have hmt : m < ks.length := by omega
          have hma : m < y.fs[ij].args.length := by have := Hal.out; omega
          have hrow : Row wL w.heap.size 37 [.slice A y.ty.sizes.length cap, .slice B y.ty.cos.length bap, .slice F y.fs.length fap] := (Row.new w _ _).below HbX.out (by simp)
          have hrow2 : wy.heap[w.heap.size]? = wL.heap[w.heap.size]? := (hby.out.block _ (by omega)).trans (hhx.out.2 _ (by omega) (by omega))
          have hrowy : Row wy w.heap.size 37 [.slice A y.ty.sizes.length cap, .slice B y.ty.cos.length bap, .slice F y.fs.length fap] := hrow.keep hrow2
          have z0 := hrowy.cell 0
          have z1 := hrowy.cell 1
          have z2 := hrowy.cell 2
          simp only [List.getElem?_cons_zero, List.getElem?_cons_succ] at z0 z1 z2
          clear hrow hrow2 hrowy
          obtain ⟨b1, o1, eK, _, hb1, e0, hki⟩ := (Hk.out.below Hbxy.out hB').at_ hmt
          obtain rfl := eK
          obtain ⟨b, off, A1, cap1, A2, cap2, rfl, hlo, hhi, _, d1, _, _, _, _, _, _, hfm⟩ := (Hf.out.below Hbxy.out hB).at_ hij
          obtain ⟨b2, o2, eA, _, hb2, e1, hai⟩ := hfm.2.2.2.2.1.at_ hma
          obtain rfl := eA
          have hijI : (ij : Int) < (y.fs.length : Int) := by omega
          have hmaI : (m : Int) < (y.fs[ij].args.length : Int) := by omega
          have K1 : Hid (wy.drew.cell? ⟨w.heap.size, 0, none⟩ = some (.slice A y.ty.sizes.length cap) ∧ wy.drew.cell? ⟨w.heap.size, 1, none⟩ = some (.slice B y.ty.cos.length bap) ∧ wy.drew.cell? ⟨w.heap.size, 2, none⟩ = some (.slice (some ⟨b, off, none⟩) y.fs.length fap) ∧ wy.drew.cell? ⟨b, off + ij * 4 + 1, none⟩ = some (.slice (some ⟨b2, o2, none⟩) y.fs[ij].args.length cap1) ∧ wy.drew.cell? ⟨b2, o2 + m, none⟩ = some (.int .i64 y.fs[ij].args[m])) := ⟨z0, z1, z2, d1, e1⟩
          have hsucc := Lib.hid (costTo_step (t := y.ty) hmt hma)
          have hct := costTo_le y.ty ks y.fs[ij].args m
          have hsl := (shortV_wf y.ty ks[m] y.fs[ij].args[m]).2
          have hsum : costTo y.ty ks y.fs[ij].args m + (shortV y.ty ks[m] y.fs[ij].args[m]).length ≤ 4611686018427387904 := by omega
          have hyB : hi ≤ wy.heap.size := by omega
          have hwy : w.heap.size < wy.heap.size := by omega
          have hbwy : b < wy.heap.size := by omega
          have hb2y : b2 < wy.heap.size := by omega
          clear hfm d1 e1 z0 z1 z2
          by_cases hc : canC y.ty ks[m] y.fs[ij].args[m] = true
          · have hall2 := Lib.hid (apTo_step hall.out hmt hma hc)
            have Hc := Lib.hid hc
            clear hc
            go_wp2_with fail
            go_region_held3 (fun w' => w'.cell? ⟨w.heap.size, 0, none⟩ = some (.slice A y.ty.sizes.length cap) ∧ w'.cell? ⟨w.heap.size, 1, none⟩ = some (.slice B y.ty.cos.length bap) ∧ w'.cell? ⟨w.heap.size, 2, none⟩ = some (.slice (some ⟨b, off, none⟩) y.fs.length fap) ∧ w'.cell? ⟨b, off + ij * 4 + 1, none⟩ = some (.slice (some ⟨b2, o2, none⟩) y.fs[ij].args.length cap1) ∧ w'.cell? ⟨b2, o2 + m, none⟩ = some (.int .i64 y.fs[ij].args[m]))
              (first | exact K1.out | exact K2.out)
              (first
                | (go_at_call 46
                   refine (implShort_any lo hi _ _ y.ty ks[m] y.fs[ij].args[m] wy.drew (HT.out.below Hbxy.out.drew hB) hyB hki hai).mono ?_
                   rintro e w8 ⟨v, rfl, hb8, hown8⟩
                   obtain ⟨V, vap, rfl⟩ := owns_form hown8
                   rw [Hc.out]
                   have K2 : Hid (w8.cell? ⟨w.heap.size, 0, none⟩ = some (.slice A y.ty.sizes.length cap) ∧ w8.cell? ⟨w.heap.size, 1, none⟩ = some (.slice B y.ty.cos.length bap) ∧ w8.cell? ⟨w.heap.size, 2, none⟩ = some (.slice (some ⟨b, off, none⟩) y.fs.length fap) ∧ w8.cell? ⟨b, off + ij * 4 + 1, none⟩ = some (.slice (some ⟨b2, o2, none⟩) y.fs[ij].args.length cap1) ∧ w8.cell? ⟨b2, o2 + m, none⟩ = some (.int .i64 y.fs[ij].args[m])) :=
                   ⟨(hb8.cell (p := ⟨w.heap.size, 0, none⟩) hwy).trans K1.out.1, (hb8.cell (p := ⟨w.heap.size, 1, none⟩) hwy).trans K1.out.2.1, (hb8.cell (p := ⟨w.heap.size, 2, none⟩) hwy).trans K1.out.2.2.1, (hb8.cell (p := ⟨b, off + ij * 4 + 1, none⟩) hbwy).trans K1.out.2.2.2.1, (hb8.cell (p := ⟨b2, o2 + m, none⟩) hb2y).trans K1.out.2.2.2.2⟩
                   have Hb8 := Lib.hid (hby.out.drew.trans (hb8.mono (B' := wx.heap.size) hsy))
                   clear hb8 hown8))
            go_wp2
            go_roundg g3
            case measure => omega
            case rel => exact ⟨m + 1, by omega, by go_num, by rw [hsucc.out, Int.natCast_add], Hb8, hall2⟩
          · have Hcf := Lib.hid (show canC y.ty ks[m] y.fs[ij].args[m] = false by simpa using hc)
            have hh := Lib.hid (apsIn_miss hlt (show ¬ ApTo y.ty ks (y.fs.getD zs[j].toNat default).args from fun h => hc (by rw [hgz.out] at h; have := h.2 m hmt; rwa [getD_of hmt, getD_of hma] at this)))
            clear hc
            go_wp2_with fail
            go_region_held3 (fun w' => w'.cell? ⟨w.heap.size, 0, none⟩ = some (.slice A y.ty.sizes.length cap) ∧ w'.cell? ⟨w.heap.size, 1, none⟩ = some (.slice B y.ty.cos.length bap) ∧ w'.cell? ⟨w.heap.size, 2, none⟩ = some (.slice (some ⟨b, off, none⟩) y.fs.length fap) ∧ w'.cell? ⟨b, off + ij * 4 + 1, none⟩ = some (.slice (some ⟨b2, o2, none⟩) y.fs[ij].args.length cap1) ∧ w'.cell? ⟨b2, o2 + m, none⟩ = some (.int .i64 y.fs[ij].args[m]))
              (first | exact K1.out | exact K2.out)
              (first
                | (go_at_call 46
                   refine (implShort_any lo hi _ _ y.ty ks[m] y.fs[ij].args[m] wy.drew (HT.out.below Hbxy.out.drew hB) hyB hki hai).mono ?_
                   rintro e w8 ⟨v, rfl, hb8, hown8⟩
                   rw [Hcf.out]
                   have K2 : Hid (w8.cell? ⟨w.heap.size, 0, none⟩ = some (.slice A y.ty.sizes.length cap) ∧ w8.cell? ⟨w.heap.size, 1, none⟩ = some (.slice B y.ty.cos.length bap) ∧ w8.cell? ⟨w.heap.size, 2, none⟩ = some (.slice (some ⟨b, off, none⟩) y.fs.length fap) ∧ w8.cell? ⟨b, off + ij * 4 + 1, none⟩ = some (.slice (some ⟨b2, o2, none⟩) y.fs[ij].args.length cap1) ∧ w8.cell? ⟨b2, o2 + m, none⟩ = some (.int .i64 y.fs[ij].args[m])) :=
                   ⟨(hb8.cell (p := ⟨w.heap.size, 0, none⟩) hwy).trans K1.out.1, (hb8.cell (p := ⟨w.heap.size, 1, none⟩) hwy).trans K1.out.2.1, (hb8.cell (p := ⟨w.heap.size, 2, none⟩) hwy).trans K1.out.2.2.1, (hb8.cell (p := ⟨b, off + ij * 4 + 1, none⟩) hbwy).trans K1.out.2.2.2.1, (hb8.cell (p := ⟨b2, o2 + m, none⟩) hb2y).trans K1.out.2.2.2.2⟩
                   have Hb8 := Lib.hid (Hbxy.out.drew.trans (hb8.mono (B' := w.heap.size) (Nat.le_of_lt hwy)))
                   have Hx8 := Lib.hid (hby.out.drew.trans (hb8.mono (B' := wx.heap.size) hsy))
                   have hs8 : wy.heap.size ≤ w8.heap.size := hb8.size
                   clear hb8 hown8))
            have Hh3 := Lib.hid (show wL.heap.size ≤ w8.heap.size ∧ ∀ k, k < wL.heap.size → k ≠ w.heap.size + 1 → w8.heap[k]? = wL.heap[k]? from ⟨by omega, fun k h1 h2 => (Hx8.out.block k (by omega)).trans (hhx.out.2 k h1 h2)⟩)
            have HO3 : Hid (∃ D : DataW Unit, Cst y ks (apsIn y ks (zs.take (j + 1))) D ∧ w8.ownsMap Tryz.prog 3 (plainElem Tryz.prog 3) (w.heap.size + 1) (j + 1) D) := by
              obtain ⟨D, hC, hO⟩ := hmx.out
              exact ⟨D, by rw [hh.out]; exact hC, (hO.kept (row := none) ⟨Hx8.out.os, Hx8.out.tape, Hx8.out.output, Hx8.out.size, fun k hk _ => Hx8.out.block k hk⟩ (by simp)).mono (by omega)⟩
            go_wp2
            go_roundg g2
            case measure => omega
            case rel => exact ⟨j + 1, by omega, by go_num, Hb8, Hh3, HO3⟩
end Go.Proofs.YtbblhjdcpmahkaaGreatDoor

namespace Go.Proofs.YtbblhjdcpmahkaaGreatDoor
open Go.RowKit Go.Maps Go.Sort Go.Shelf

theorem sortsIn (m : Nat) : AnyZI.SortsIn Tryz.prog sortedA_ren Fence.wide m :=
  ⟨fun blk off cap ss W hH hblk hsz => callsIn_wide.2 (AnyM.slices_Sort_int sortA blk off cap ss W hH hblk hsz),
   fun p cap W => callsIn_wide.2 (AnyM.slices_Sort_int_none sortA p cap W)⟩

theorem keys_perm {y : Sy} {ks L : List Int} {D : DataW Unit} {w : World} {b n : Nat} {R : Value → Option (DataW Unit × List MemPlace)} (hC : Cst y ks L D) (hasc : L.Pairwise (· < ·)) (hown : w.ownsMap Tryz.prog 3 R b n D) : L.Perm (intKeys D) := by
  obtain ⟨es, rfl, hp, hk⟩ := hown.entries (int_keyed Tryz.underlying3)
  obtain ⟨es', e', hk'⟩ := hown.keysOf
  injection e' with e'
  subst e'
  refine perm_intKeys hp (fun p hp' => ?_) (hasc.imp fun h => by omega) fun x => (hC.has x).symm
  obtain ⟨v, hv⟩ := hk' p hp'
  obtain ⟨x, _, h2, _⟩ := Maps.keyOf_i64 Tryz.underlying3 hv
  exact ⟨x, h2⟩

set_option maxRecDepth 100000 in
set_option maxHeartbeats 2000000 in
theorem indicesIn_any (b nn : Nat) (y : Sy) (ks L : List Int) (D : DataW Unit) (w : World) (hown : w.ownsMap Tryz.prog 3 (plainElem Tryz.prog 3) b nn D) (hC : Cst y ks L D) (hasc : L.Pairwise (· < ·)) (hnn : nn ≤ 1048576) :
    Calls Tryz.prog 31 #[.map (some b)] w fun e w' => ∃ v, e = .returned v ∧ Below w.heap.size w w' ∧ w'.ownsRow w.heap.size 3 1 v L.length (L.map (Value.int .i64)) := by
  refine (callsIn_wide (n := 6)).1 ?_
  have hbl := hown.lt
  have hsz := hown.size_le
  have hperm := keys_perm hC hasc hown
  have hmax : Maps.size D ≤ maxLen := by unfold maxLen; omega
  have hbytes : Maps.size D * 8 ≤ 140737488355328 := by omega
  have hseq : SeqGives Fence.wide 2 Tryz.prog 65 #[.pointer (some ⟨w.heap.size, 0, none⟩)] encZ (fun ss => ss.Perm (intKeys D)) (Maps.size D) (w.alloc (.cells #[.map (some b)] 60)) :=
    AnyZI.keys_gives (ρ := keysA_ren) { keysA with } Fence.wide _ trivial rfl (by omega) w.heap.size b nn D _ (by simp) (by simp) (by
      obtain ⟨es, clock, hb, Ft, hs, hD⟩ := hown
      exact ⟨es, clock, (Below.heap_alloc _ _ b hbl).trans hb, Ft, hs, hD⟩)
  have cK : ∀ mb W, CallsIn Fence.wide 5 Tryz.prog 48 #[.map mb] W fun e w' => e = .returned (.func (.func 65) #[] #[.pointer (some ⟨W.heap.size, 0, none⟩)]) ∧ w' = W.alloc (.cells #[.map mb] 60) := fun mb W => AnyZI.keys_in keysA Fence.wide 5 trivial rfl mb W
  have cS := AnyZI.sorted_in sortedA Fence.wide 5 trivial trivial trivial trivial rfl (by omega) (sortsIn _) (enters_of Tryz.func64 (by kernel_rfl) rfl) 65 #[.pointer (some ⟨w.heap.size, 0, none⟩)] trivial (enters_of Tryz.func65 (by kernel_rfl) rfl) _ _ hmax hbytes _ hseq
  change CallsIn _ _ Tryz.prog 47 _ _ _ at cS
  have hfK : Fence.wide.fn 48 := trivial
  have hfS : Fence.wide.fn 47 := trivial
  refine callsIn_of_wp Tryz.func31 rfl trivial ?_ rfl
  simp only [Tryz.ntmps31, List.size_toArray, List.length_cons, List.length_nil, Nat.reduceAdd, Nat.reduceSub, Array.replicate_succ, Array.replicate_zero, List.push_toArray, List.append_toArray, List.nil_append, List.cons_append]
  gi_wp2_with (first
    | (gi_at_call 48; refine (cK _ _).mono ?_; rintro e w' ⟨rfl, rfl⟩)
    | (gi_at_call 47; refine cS.mono ?_; rintro e w' ⟨v, ss, rfl, hS, hrow, hnil, hb⟩))
  go_ret
  have e1 : ss.mergeSort (fun x y => decide (x ≤ y)) = L := by
    rw [← sort_asc hasc]
    exact mergeSort_of_perm_i (hS.trans hperm.symm)
  have e2 : ss.length = L.length := (hS.trans hperm.symm).length_eq
  refine ⟨v, rfl, ((Below.refl _ w).alloc (Nat.le_refl _) _).trans (hb.mono (by simp)), ?_⟩
  rw [e1, e2] at hrow
  exact ownsRow_base_a hrow (by simp)
end Go.Proofs.YtbblhjdcpmahkaaGreatDoor

namespace Go.Proofs.YtbblhjdcpmahkaaGreatDoor
open Go.RowKit Go.Maps

set_option maxRecDepth 100000 in
set_option maxHeartbeats 4000000 in
theorem implApplic_any (lo hi lo' hi' : Nat) (sv cv fv kv : Value) (y : Sy) (nm : ByteArray) (ks : List Int) (w : World) (hv : SyAt w lo hi sv cv fv y) (hk : IntsAt w lo' hi' kv ks) (hB : hi ≤ w.heap.size) (hB' : hi' ≤ w.heap.size) (hbk : y.bulk ≤ 1048576) (hnm : nm.size ≤ maxLen) :
    Calls Tryz.prog 25 #[.agg #[sv, cv, fv], .string nm, kv] w fun e w' => ∃ v, e = .returned v ∧ Below w.heap.size w w' ∧ w'.ownsRow w.heap.size 3 1 v (applicV y nm ks).length ((applicV y nm ks).map (Value.int .i64)) := by
  obtain ⟨A, cap, rfl, hl1, hm1, hi1⟩ := hv.1.1.form
  obtain ⟨B, bap, rfl, hl2, hm2, hc1⟩ := hv.1.2.form
  obtain ⟨F, fap, rfl, hl3, hm3, hf1⟩ := hv.2.form
  obtain ⟨K, kap, rfl, hlk, hmk, hk1⟩ := hk.form
  have h3 : Below w.heap.size w (w.alloc (.cells #[.slice A y.ty.sizes.length cap, .slice B y.ty.cos.length bap, .slice F y.fs.length fap] 37)) := by go_grown
  have Hv := Lib.hid hv
  have Hk := Lib.hid hk1
  have H3 := Lib.hid h3
  have Hnm := Lib.hid hnm
  clear hi1 hc1 hf1 hk1 hk hv h3 hnm
  go_enter Tryz.func25, Tryz.ntmps25
  go_wp2_with fail
  refine (costsOfCall_any lo hi lo' hi' _ _ _ _ y nm ks _ (Hv.out.below H3.out hB) (Hk.out.below H3.out hB') (by simp; omega) (by simp; omega) hbk Hnm.out).mono ?_
  rintro e w1 ⟨b, n, D, rfl, hlb, hn, hb1, hC, hO⟩
  have Hb1 := Lib.hid (H3.out.trans (hb1.mono (by simp)))
  have HC := Lib.hid hC
  have HO := Lib.hid hO
  clear hb1 hC hO
  go_wp2_with fail
  refine (indicesIn_any b n y ks _ D _ HO.out HC.out (applicV_asc y nm ks) hn).mono ?_
  rintro e w2 ⟨v, rfl, hb2, hown⟩
  have hs1 := Hb1.out.size
  have Hb2 := Lib.hid (Hb1.out.trans (hb2.mono hs1))
  have Hown := Lib.hid (ownsRow_base (base' := w.heap.size) hown hs1)
  clear hb2 hown
  go_wp2
  go_ret
  exact ⟨_, rfl, Hb2.out, Hown.out⟩

end Go.Proofs.YtbblhjdcpmahkaaGreatDoor

namespace Go.Proofs.YtbblhjdcpmahkaaGreatDoor
open Go.RowKit

def zeroFu : List Value := [.string ByteArray.empty, .slice none 0 0, .int .i64 0, .slice none 0 0]

/-- w0: the world where the region begins; bx: the system's box; F: its list; i, k: the indices; pi, pk: where the two lie; ci, ck: their cells. -/
structure TwoF (w0 : World) (bx : Nat) (F ii kk pi pk vi vk : Value) (ci ck : List Value) (f : Nat → Bool) (x0 x1 x2 x3 x4 x5 x6 x7 x8 x9 y z : Value) (u : World) : Prop where
  bel : Below w0.heap.size w0 u
  a0 : f 0 = true → x0 = (.pointer (some ⟨bx, 2, none⟩))
  a1 : f 1 = true → x1 = F
  a2 : f 2 = true → x2 = ii
  a3 : f 3 = true → x3 = pi
  a4 : f 4 = true → x4 = vi
  a5 : f 5 = true → x5 = (.pointer (some ⟨bx, 2, none⟩))
  a6 : f 6 = true → x6 = F
  a7 : f 7 = true → x7 = kk
  a8 : f 8 = true → x8 = pk
  a9 : f 9 = true → x9 = vk
  b0 : f 10 = true → f 12 = false → ∃ p, w0.heap.size ≤ p ∧ y = .pointer (some ⟨p, 0, none⟩) ∧ Row u p 74 zeroFu
  b1 : f 11 = true → f 13 = false → ∃ p, w0.heap.size ≤ p ∧ z = .pointer (some ⟨p, 0, none⟩) ∧ Row u p 74 zeroFu
  b2 : f 12 = true → ∃ p, w0.heap.size ≤ p ∧ y = .pointer (some ⟨p, 0, none⟩) ∧ Row u p 74 ci
  b3 : f 13 = true → ∃ p, w0.heap.size ≤ p ∧ z = .pointer (some ⟨p, 0, none⟩) ∧ Row u p 74 ck
  apart : f 10 = true → f 11 = true → ∀ p q, y = .pointer (some ⟨p, 0, none⟩) → z = .pointer (some ⟨q, 0, none⟩) → p ≠ q
  c2 : f 12 = true → f 10 = true
  c3 : f 13 = true → f 11 = true

section
variable {w0 u : World} {bx : Nat} {F ii kk pi pk vi vk : Value} {ci ck : List Value} {f : Nat → Bool} {x0 x1 x2 x3 x4 x5 x6 x7 x8 x9 y z : Value}

theorem TwoF.ylt (h : TwoF w0 bx F ii kk pi pk vi vk ci ck f x0 x1 x2 x3 x4 x5 x6 x7 x8 x9 y z u) (h10 : f 10 = true) : ∃ p, y = .pointer (some ⟨p, 0, none⟩) ∧ p < u.heap.size := by
  cases h12 : f 12 with
  | false => obtain ⟨p, _, e, hr⟩ := h.b0 h10 h12; exact ⟨p, e, hr.lt⟩
  | true => obtain ⟨p, _, e, hr⟩ := h.b2 h12; exact ⟨p, e, hr.lt⟩
theorem TwoF.zlt (h : TwoF w0 bx F ii kk pi pk vi vk ci ck f x0 x1 x2 x3 x4 x5 x6 x7 x8 x9 y z u) (h11 : f 11 = true) : ∃ p, z = .pointer (some ⟨p, 0, none⟩) ∧ p < u.heap.size := by
  cases h13 : f 13 with
  | false => obtain ⟨p, _, e, hr⟩ := h.b1 h11 h13; exact ⟨p, e, hr.lt⟩
  | true => obtain ⟨p, _, e, hr⟩ := h.b3 h13; exact ⟨p, e, hr.lt⟩
theorem TwoF.s0 (h : TwoF w0 bx F ii kk pi pk vi vk ci ck f x0 x1 x2 x3 x4 x5 x6 x7 x8 x9 y z u) : TwoF w0 bx F ii kk pi pk vi vk ci ck (fun k => decide (k = 0) || f k) (.pointer (some ⟨bx, 2, none⟩)) x1 x2 x3 x4 x5 x6 x7 x8 x9 y z u where
  bel := h.bel
  a0 := fun _ => rfl
  a1 := fun e => h.a1 (by simpa using e)
  a2 := fun e => h.a2 (by simpa using e)
  a3 := fun e => h.a3 (by simpa using e)
  a4 := fun e => h.a4 (by simpa using e)
  a5 := fun e => h.a5 (by simpa using e)
  a6 := fun e => h.a6 (by simpa using e)
  a7 := fun e => h.a7 (by simpa using e)
  a8 := fun e => h.a8 (by simpa using e)
  a9 := fun e => h.a9 (by simpa using e)
  b0 := fun e e2 => h.b0 (by simpa using e) (by simpa using e2)
  b1 := fun e e2 => h.b1 (by simpa using e) (by simpa using e2)
  b2 := fun e => h.b2 (by simpa using e)
  b3 := fun e => h.b3 (by simpa using e)
  apart := fun e e2 => h.apart (by simpa using e) (by simpa using e2)
  c2 := fun e => by have := h.c2 (by simpa using e); simp [this]
  c3 := fun e => by have := h.c3 (by simpa using e); simp [this]
theorem TwoF.s1 (h : TwoF w0 bx F ii kk pi pk vi vk ci ck f x0 x1 x2 x3 x4 x5 x6 x7 x8 x9 y z u) : TwoF w0 bx F ii kk pi pk vi vk ci ck (fun k => decide (k = 1) || f k) x0 F x2 x3 x4 x5 x6 x7 x8 x9 y z u where
  bel := h.bel
  a0 := fun e => h.a0 (by simpa using e)
  a1 := fun _ => rfl
  a2 := fun e => h.a2 (by simpa using e)
  a3 := fun e => h.a3 (by simpa using e)
  a4 := fun e => h.a4 (by simpa using e)
  a5 := fun e => h.a5 (by simpa using e)
  a6 := fun e => h.a6 (by simpa using e)
  a7 := fun e => h.a7 (by simpa using e)
  a8 := fun e => h.a8 (by simpa using e)
  a9 := fun e => h.a9 (by simpa using e)
  b0 := fun e e2 => h.b0 (by simpa using e) (by simpa using e2)
  b1 := fun e e2 => h.b1 (by simpa using e) (by simpa using e2)
  b2 := fun e => h.b2 (by simpa using e)
  b3 := fun e => h.b3 (by simpa using e)
  apart := fun e e2 => h.apart (by simpa using e) (by simpa using e2)
  c2 := fun e => by have := h.c2 (by simpa using e); simp [this]
  c3 := fun e => by have := h.c3 (by simpa using e); simp [this]
theorem TwoF.s2 (h : TwoF w0 bx F ii kk pi pk vi vk ci ck f x0 x1 x2 x3 x4 x5 x6 x7 x8 x9 y z u) : TwoF w0 bx F ii kk pi pk vi vk ci ck (fun k => decide (k = 2) || f k) x0 x1 ii x3 x4 x5 x6 x7 x8 x9 y z u where
  bel := h.bel
  a0 := fun e => h.a0 (by simpa using e)
  a1 := fun e => h.a1 (by simpa using e)
  a2 := fun _ => rfl
  a3 := fun e => h.a3 (by simpa using e)
  a4 := fun e => h.a4 (by simpa using e)
  a5 := fun e => h.a5 (by simpa using e)
  a6 := fun e => h.a6 (by simpa using e)
  a7 := fun e => h.a7 (by simpa using e)
  a8 := fun e => h.a8 (by simpa using e)
  a9 := fun e => h.a9 (by simpa using e)
  b0 := fun e e2 => h.b0 (by simpa using e) (by simpa using e2)
  b1 := fun e e2 => h.b1 (by simpa using e) (by simpa using e2)
  b2 := fun e => h.b2 (by simpa using e)
  b3 := fun e => h.b3 (by simpa using e)
  apart := fun e e2 => h.apart (by simpa using e) (by simpa using e2)
  c2 := fun e => by have := h.c2 (by simpa using e); simp [this]
  c3 := fun e => by have := h.c3 (by simpa using e); simp [this]
theorem TwoF.s3 (h : TwoF w0 bx F ii kk pi pk vi vk ci ck f x0 x1 x2 x3 x4 x5 x6 x7 x8 x9 y z u) : TwoF w0 bx F ii kk pi pk vi vk ci ck (fun k => decide (k = 3) || f k) x0 x1 x2 pi x4 x5 x6 x7 x8 x9 y z u where
  bel := h.bel
  a0 := fun e => h.a0 (by simpa using e)
  a1 := fun e => h.a1 (by simpa using e)
  a2 := fun e => h.a2 (by simpa using e)
  a3 := fun _ => rfl
  a4 := fun e => h.a4 (by simpa using e)
  a5 := fun e => h.a5 (by simpa using e)
  a6 := fun e => h.a6 (by simpa using e)
  a7 := fun e => h.a7 (by simpa using e)
  a8 := fun e => h.a8 (by simpa using e)
  a9 := fun e => h.a9 (by simpa using e)
  b0 := fun e e2 => h.b0 (by simpa using e) (by simpa using e2)
  b1 := fun e e2 => h.b1 (by simpa using e) (by simpa using e2)
  b2 := fun e => h.b2 (by simpa using e)
  b3 := fun e => h.b3 (by simpa using e)
  apart := fun e e2 => h.apart (by simpa using e) (by simpa using e2)
  c2 := fun e => by have := h.c2 (by simpa using e); simp [this]
  c3 := fun e => by have := h.c3 (by simpa using e); simp [this]
theorem TwoF.s4 (h : TwoF w0 bx F ii kk pi pk vi vk ci ck f x0 x1 x2 x3 x4 x5 x6 x7 x8 x9 y z u) : TwoF w0 bx F ii kk pi pk vi vk ci ck (fun k => decide (k = 4) || f k) x0 x1 x2 x3 vi x5 x6 x7 x8 x9 y z u where
  bel := h.bel
  a0 := fun e => h.a0 (by simpa using e)
  a1 := fun e => h.a1 (by simpa using e)
  a2 := fun e => h.a2 (by simpa using e)
  a3 := fun e => h.a3 (by simpa using e)
  a4 := fun _ => rfl
  a5 := fun e => h.a5 (by simpa using e)
  a6 := fun e => h.a6 (by simpa using e)
  a7 := fun e => h.a7 (by simpa using e)
  a8 := fun e => h.a8 (by simpa using e)
  a9 := fun e => h.a9 (by simpa using e)
  b0 := fun e e2 => h.b0 (by simpa using e) (by simpa using e2)
  b1 := fun e e2 => h.b1 (by simpa using e) (by simpa using e2)
  b2 := fun e => h.b2 (by simpa using e)
  b3 := fun e => h.b3 (by simpa using e)
  apart := fun e e2 => h.apart (by simpa using e) (by simpa using e2)
  c2 := fun e => by have := h.c2 (by simpa using e); simp [this]
  c3 := fun e => by have := h.c3 (by simpa using e); simp [this]
theorem TwoF.s5 (h : TwoF w0 bx F ii kk pi pk vi vk ci ck f x0 x1 x2 x3 x4 x5 x6 x7 x8 x9 y z u) : TwoF w0 bx F ii kk pi pk vi vk ci ck (fun k => decide (k = 5) || f k) x0 x1 x2 x3 x4 (.pointer (some ⟨bx, 2, none⟩)) x6 x7 x8 x9 y z u where
  bel := h.bel
  a0 := fun e => h.a0 (by simpa using e)
  a1 := fun e => h.a1 (by simpa using e)
  a2 := fun e => h.a2 (by simpa using e)
  a3 := fun e => h.a3 (by simpa using e)
  a4 := fun e => h.a4 (by simpa using e)
  a5 := fun _ => rfl
  a6 := fun e => h.a6 (by simpa using e)
  a7 := fun e => h.a7 (by simpa using e)
  a8 := fun e => h.a8 (by simpa using e)
  a9 := fun e => h.a9 (by simpa using e)
  b0 := fun e e2 => h.b0 (by simpa using e) (by simpa using e2)
  b1 := fun e e2 => h.b1 (by simpa using e) (by simpa using e2)
  b2 := fun e => h.b2 (by simpa using e)
  b3 := fun e => h.b3 (by simpa using e)
  apart := fun e e2 => h.apart (by simpa using e) (by simpa using e2)
  c2 := fun e => by have := h.c2 (by simpa using e); simp [this]
  c3 := fun e => by have := h.c3 (by simpa using e); simp [this]
theorem TwoF.s6 (h : TwoF w0 bx F ii kk pi pk vi vk ci ck f x0 x1 x2 x3 x4 x5 x6 x7 x8 x9 y z u) : TwoF w0 bx F ii kk pi pk vi vk ci ck (fun k => decide (k = 6) || f k) x0 x1 x2 x3 x4 x5 F x7 x8 x9 y z u where
  bel := h.bel
  a0 := fun e => h.a0 (by simpa using e)
  a1 := fun e => h.a1 (by simpa using e)
  a2 := fun e => h.a2 (by simpa using e)
  a3 := fun e => h.a3 (by simpa using e)
  a4 := fun e => h.a4 (by simpa using e)
  a5 := fun e => h.a5 (by simpa using e)
  a6 := fun _ => rfl
  a7 := fun e => h.a7 (by simpa using e)
  a8 := fun e => h.a8 (by simpa using e)
  a9 := fun e => h.a9 (by simpa using e)
  b0 := fun e e2 => h.b0 (by simpa using e) (by simpa using e2)
  b1 := fun e e2 => h.b1 (by simpa using e) (by simpa using e2)
  b2 := fun e => h.b2 (by simpa using e)
  b3 := fun e => h.b3 (by simpa using e)
  apart := fun e e2 => h.apart (by simpa using e) (by simpa using e2)
  c2 := fun e => by have := h.c2 (by simpa using e); simp [this]
  c3 := fun e => by have := h.c3 (by simpa using e); simp [this]
theorem TwoF.s7 (h : TwoF w0 bx F ii kk pi pk vi vk ci ck f x0 x1 x2 x3 x4 x5 x6 x7 x8 x9 y z u) : TwoF w0 bx F ii kk pi pk vi vk ci ck (fun k => decide (k = 7) || f k) x0 x1 x2 x3 x4 x5 x6 kk x8 x9 y z u where
  bel := h.bel
  a0 := fun e => h.a0 (by simpa using e)
  a1 := fun e => h.a1 (by simpa using e)
  a2 := fun e => h.a2 (by simpa using e)
  a3 := fun e => h.a3 (by simpa using e)
  a4 := fun e => h.a4 (by simpa using e)
  a5 := fun e => h.a5 (by simpa using e)
  a6 := fun e => h.a6 (by simpa using e)
  a7 := fun _ => rfl
  a8 := fun e => h.a8 (by simpa using e)
  a9 := fun e => h.a9 (by simpa using e)
  b0 := fun e e2 => h.b0 (by simpa using e) (by simpa using e2)
  b1 := fun e e2 => h.b1 (by simpa using e) (by simpa using e2)
  b2 := fun e => h.b2 (by simpa using e)
  b3 := fun e => h.b3 (by simpa using e)
  apart := fun e e2 => h.apart (by simpa using e) (by simpa using e2)
  c2 := fun e => by have := h.c2 (by simpa using e); simp [this]
  c3 := fun e => by have := h.c3 (by simpa using e); simp [this]
theorem TwoF.s8 (h : TwoF w0 bx F ii kk pi pk vi vk ci ck f x0 x1 x2 x3 x4 x5 x6 x7 x8 x9 y z u) : TwoF w0 bx F ii kk pi pk vi vk ci ck (fun k => decide (k = 8) || f k) x0 x1 x2 x3 x4 x5 x6 x7 pk x9 y z u where
  bel := h.bel
  a0 := fun e => h.a0 (by simpa using e)
  a1 := fun e => h.a1 (by simpa using e)
  a2 := fun e => h.a2 (by simpa using e)
  a3 := fun e => h.a3 (by simpa using e)
  a4 := fun e => h.a4 (by simpa using e)
  a5 := fun e => h.a5 (by simpa using e)
  a6 := fun e => h.a6 (by simpa using e)
  a7 := fun e => h.a7 (by simpa using e)
  a8 := fun _ => rfl
  a9 := fun e => h.a9 (by simpa using e)
  b0 := fun e e2 => h.b0 (by simpa using e) (by simpa using e2)
  b1 := fun e e2 => h.b1 (by simpa using e) (by simpa using e2)
  b2 := fun e => h.b2 (by simpa using e)
  b3 := fun e => h.b3 (by simpa using e)
  apart := fun e e2 => h.apart (by simpa using e) (by simpa using e2)
  c2 := fun e => by have := h.c2 (by simpa using e); simp [this]
  c3 := fun e => by have := h.c3 (by simpa using e); simp [this]
theorem TwoF.s9 (h : TwoF w0 bx F ii kk pi pk vi vk ci ck f x0 x1 x2 x3 x4 x5 x6 x7 x8 x9 y z u) : TwoF w0 bx F ii kk pi pk vi vk ci ck (fun k => decide (k = 9) || f k) x0 x1 x2 x3 x4 x5 x6 x7 x8 vk y z u where
  bel := h.bel
  a0 := fun e => h.a0 (by simpa using e)
  a1 := fun e => h.a1 (by simpa using e)
  a2 := fun e => h.a2 (by simpa using e)
  a3 := fun e => h.a3 (by simpa using e)
  a4 := fun e => h.a4 (by simpa using e)
  a5 := fun e => h.a5 (by simpa using e)
  a6 := fun e => h.a6 (by simpa using e)
  a7 := fun e => h.a7 (by simpa using e)
  a8 := fun e => h.a8 (by simpa using e)
  a9 := fun _ => rfl
  b0 := fun e e2 => h.b0 (by simpa using e) (by simpa using e2)
  b1 := fun e e2 => h.b1 (by simpa using e) (by simpa using e2)
  b2 := fun e => h.b2 (by simpa using e)
  b3 := fun e => h.b3 (by simpa using e)
  apart := fun e e2 => h.apart (by simpa using e) (by simpa using e2)
  c2 := fun e => by have := h.c2 (by simpa using e); simp [this]
  c3 := fun e => by have := h.c3 (by simpa using e); simp [this]
theorem TwoF.s10 (h : TwoF w0 bx F ii kk pi pk vi vk ci ck f x0 x1 x2 x3 x4 x5 x6 x7 x8 x9 y z u) (hfi : f 10 = false) : TwoF w0 bx F ii kk pi pk vi vk ci ck (fun k => decide (k = 10) || f k) x0 x1 x2 x3 x4 x5 x6 x7 x8 x9 (.pointer (some ⟨u.heap.size, 0, none⟩)) z (u.alloc (.cells #[.string ByteArray.empty, .slice none 0 0, .int .i64 0, .slice none 0 0] 74)) where
  bel := h.bel.alloc h.bel.size _
  a0 := fun e => h.a0 (by simpa using e)
  a1 := fun e => h.a1 (by simpa using e)
  a2 := fun e => h.a2 (by simpa using e)
  a3 := fun e => h.a3 (by simpa using e)
  a4 := fun e => h.a4 (by simpa using e)
  a5 := fun e => h.a5 (by simpa using e)
  a6 := fun e => h.a6 (by simpa using e)
  a7 := fun e => h.a7 (by simpa using e)
  a8 := fun e => h.a8 (by simpa using e)
  a9 := fun e => h.a9 (by simpa using e)
  b0 := fun _ _ => ⟨u.heap.size, h.bel.size, rfl, Row.new u _ zeroFu⟩
  b1 := fun e e2 => by
    obtain ⟨p, h1, h2, h3⟩ := h.b1 (by simpa using e) (by simpa using e2)
    exact ⟨p, h1, h2, h3.alloc _⟩
  b2 := fun e => by have := h.c2 (by simpa using e); rw [hfi] at this; cases this
  b3 := fun e => by
    obtain ⟨p, h1, h2, h3⟩ := h.b3 (by simpa using e)
    exact ⟨p, h1, h2, h3.alloc _⟩
  apart := fun _ e2 p q e3 e4 => by
    obtain ⟨q', e5, hlt⟩ := h.zlt (by simpa using e2)
    rw [e5] at e4
    simp only [Value.pointer.injEq, Option.some.injEq, Addr.mk.injEq, and_true] at e3 e4
    omega
  c2 := fun _ => by simp
  c3 := fun e => by have := h.c3 (by simpa using e); simp [this]
theorem TwoF.s11 (h : TwoF w0 bx F ii kk pi pk vi vk ci ck f x0 x1 x2 x3 x4 x5 x6 x7 x8 x9 y z u) (hfi : f 11 = false) : TwoF w0 bx F ii kk pi pk vi vk ci ck (fun k => decide (k = 11) || f k) x0 x1 x2 x3 x4 x5 x6 x7 x8 x9 y (.pointer (some ⟨u.heap.size, 0, none⟩)) (u.alloc (.cells #[.string ByteArray.empty, .slice none 0 0, .int .i64 0, .slice none 0 0] 74)) where
  bel := h.bel.alloc h.bel.size _
  a0 := fun e => h.a0 (by simpa using e)
  a1 := fun e => h.a1 (by simpa using e)
  a2 := fun e => h.a2 (by simpa using e)
  a3 := fun e => h.a3 (by simpa using e)
  a4 := fun e => h.a4 (by simpa using e)
  a5 := fun e => h.a5 (by simpa using e)
  a6 := fun e => h.a6 (by simpa using e)
  a7 := fun e => h.a7 (by simpa using e)
  a8 := fun e => h.a8 (by simpa using e)
  a9 := fun e => h.a9 (by simpa using e)
  b0 := fun e e2 => by
    obtain ⟨p, h1, h2, h3⟩ := h.b0 (by simpa using e) (by simpa using e2)
    exact ⟨p, h1, h2, h3.alloc _⟩
  b1 := fun _ _ => ⟨u.heap.size, h.bel.size, rfl, Row.new u _ zeroFu⟩
  b2 := fun e => by
    obtain ⟨p, h1, h2, h3⟩ := h.b2 (by simpa using e)
    exact ⟨p, h1, h2, h3.alloc _⟩
  b3 := fun e => by have := h.c3 (by simpa using e); rw [hfi] at this; cases this
  apart := fun e2 _ p q e3 e4 => by
    obtain ⟨q', e5, hlt⟩ := h.ylt (by simpa using e2)
    rw [e5] at e3
    simp only [Value.pointer.injEq, Option.some.injEq, Addr.mk.injEq, and_true] at e3 e4
    omega
  c2 := fun e => by have := h.c2 (by simpa using e); simp [this]
  c3 := fun _ => by simp
theorem TwoF.s12 {p : Nat} {c0 c1 c2 c3 : Value} (h : TwoF w0 bx F ii kk pi pk vi vk [c0, c1, c2, c3] ck f x0 x1 x2 x3 x4 x5 x6 x7 x8 x9 (.pointer (some ⟨p, 0, none⟩)) z u) (h10 : f 10 = true) (hp : w0.heap.size ≤ p) (hr : Row u p 74 zeroFu) : TwoF w0 bx F ii kk pi pk vi vk [c0, c1, c2, c3] ck (fun k => decide (k = 12) || f k) x0 x1 x2 x3 x4 x5 x6 x7 x8 x9 (.pointer (some ⟨p, 0, none⟩)) z ((((u.setCell ⟨p, 0, none⟩ c0).setCell ⟨p, 1, none⟩ c1).setCell ⟨p, 2, none⟩ c2).setCell ⟨p, 3, none⟩ c3) where
  bel := (((h.bel.setCell hp _).setCell hp _).setCell hp _).setCell hp _
  a0 := fun e => h.a0 (by simpa using e)
  a1 := fun e => h.a1 (by simpa using e)
  a2 := fun e => h.a2 (by simpa using e)
  a3 := fun e => h.a3 (by simpa using e)
  a4 := fun e => h.a4 (by simpa using e)
  a5 := fun e => h.a5 (by simpa using e)
  a6 := fun e => h.a6 (by simpa using e)
  a7 := fun e => h.a7 (by simpa using e)
  a8 := fun e => h.a8 (by simpa using e)
  a9 := fun e => h.a9 (by simpa using e)
  b0 := fun _ e2 => by simp at e2
  b1 := fun e e2 => by
    obtain ⟨q, h1, h2, h3⟩ := h.b1 (by simpa using e) (by simpa using e2)
    have hne := h.apart h10 (by simpa using e) p q rfl h2
    exact ⟨q, h1, h2, (((h3.far (fun e => hne e.symm) _).far (fun e => hne e.symm) _).far (fun e => hne e.symm) _).far (fun e => hne e.symm) _⟩
  b2 := fun _ => ⟨p, hp, rfl, (((hr.set_ 0 c0).set_ 1 c1).set_ 2 c2).set_ 3 c3⟩
  b3 := fun e => by
    obtain ⟨q, h1, h2, h3⟩ := h.b3 (by simpa using e)
    have hne := h.apart h10 (h.c3 (by simpa using e)) p q rfl h2
    exact ⟨q, h1, h2, (((h3.far (fun e => hne e.symm) _).far (fun e => hne e.symm) _).far (fun e => hne e.symm) _).far (fun e => hne e.symm) _⟩
  apart := fun _ e2 => h.apart h10 (by simpa using e2)
  c2 := fun _ => by simp [h10]
  c3 := fun e => by have := h.c3 (by simpa using e); simp [this]
theorem TwoF.s13 {p : Nat} {c0 c1 c2 c3 : Value} (h : TwoF w0 bx F ii kk pi pk vi vk ci [c0, c1, c2, c3] f x0 x1 x2 x3 x4 x5 x6 x7 x8 x9 y (.pointer (some ⟨p, 0, none⟩)) u) (h11 : f 11 = true) (hp : w0.heap.size ≤ p) (hr : Row u p 74 zeroFu) : TwoF w0 bx F ii kk pi pk vi vk ci [c0, c1, c2, c3] (fun k => decide (k = 13) || f k) x0 x1 x2 x3 x4 x5 x6 x7 x8 x9 y (.pointer (some ⟨p, 0, none⟩)) ((((u.setCell ⟨p, 0, none⟩ c0).setCell ⟨p, 1, none⟩ c1).setCell ⟨p, 2, none⟩ c2).setCell ⟨p, 3, none⟩ c3) where
  bel := (((h.bel.setCell hp _).setCell hp _).setCell hp _).setCell hp _
  a0 := fun e => h.a0 (by simpa using e)
  a1 := fun e => h.a1 (by simpa using e)
  a2 := fun e => h.a2 (by simpa using e)
  a3 := fun e => h.a3 (by simpa using e)
  a4 := fun e => h.a4 (by simpa using e)
  a5 := fun e => h.a5 (by simpa using e)
  a6 := fun e => h.a6 (by simpa using e)
  a7 := fun e => h.a7 (by simpa using e)
  a8 := fun e => h.a8 (by simpa using e)
  a9 := fun e => h.a9 (by simpa using e)
  b0 := fun e e2 => by
    obtain ⟨q, h1, h2, h3⟩ := h.b0 (by simpa using e) (by simpa using e2)
    have hne := h.apart (by simpa using e) h11 q p h2 rfl
    exact ⟨q, h1, h2, (((h3.far hne _).far hne _).far hne _).far hne _⟩
  b1 := fun _ e2 => by simp at e2
  b2 := fun e => by
    obtain ⟨q, h1, h2, h3⟩ := h.b2 (by simpa using e)
    have hne := h.apart (h.c2 (by simpa using e)) h11 q p h2 rfl
    exact ⟨q, h1, h2, (((h3.far hne _).far hne _).far hne _).far hne _⟩
  b3 := fun _ => ⟨p, hp, rfl, (((hr.set_ 0 c0).set_ 1 c1).set_ 2 c2).set_ 3 c3⟩
  apart := fun e2 _ => h.apart (by simpa using e2) h11
  c2 := fun e => by have := h.c2 (by simpa using e); simp [this]
  c3 := fun _ => by simp [h11]
end
end Go.Proofs.YtbblhjdcpmahkaaGreatDoor

namespace Go.Proofs.YtbblhjdcpmahkaaGreatDoor
open Go.RowKit
attribute [local go_sem] Oper.semAt_some

set_option maxRecDepth 100000 in
set_option maxHeartbeats 4000000 in
theorem sysIsBelow_any (lo hi : Nat) (sv cv fv : Value) (y : Sy) (i k : Int) (w : World) (hv : SyAt w lo hi sv cv fv y) (hB : hi ≤ w.heap.size) (c1 : hasFB y i = true) (c2 : hasFB y k = true) :
    Calls Tryz.prog 119 #[.agg #[sv, cv, fv], .int .i64 i, .int .i64 k] w fun e w' => e = .returned (.bool (belowB y i k)) ∧ Below w.heap.size w w' := by
  obtain ⟨A, cap, rfl, hl1, hm1, hi1⟩ := hv.1.1.form
  obtain ⟨B, bap, rfl, hl2, hm2, hc1⟩ := hv.1.2.form
  obtain ⟨F, fap, rfl, hl3, hm3, hf1⟩ := hv.2.form
  unfold maxLen at hm3
  have h3 : Below w.heap.size w (w.alloc (.cells #[.slice A y.ty.sizes.length cap, .slice B y.ty.cos.length bap, .slice F y.fs.length fap] 37)) := by go_grown
  have Hty := Lib.hid hv.1
  have Hf := Lib.hid hf1
  have C1 := Lib.hid c1
  have C2 := Lib.hid c2
  clear hi1 hc1 hf1 hv c1 c2
  obtain ⟨hsy, hi0, hi1, hilt⟩ := hasFB_of C1.out
  obtain ⟨_, hk0, hk1, hklt⟩ := hasFB_of C2.out
  have Hsy := Lib.hid hsy
  clear hsy
  go_enter Tryz.func119, Tryz.ntmps119
  go_wp2_with fail
  obtain ⟨w2, hw2⟩ : ∃ w2, w2 = w.alloc (.cells #[.slice A y.ty.sizes.length cap, .slice B y.ty.cos.length bap, .slice F y.fs.length fap] 37) := ⟨_, rfl⟩
  have hrow : Row w2 w.heap.size 37 [.slice A y.ty.sizes.length cap, .slice B y.ty.cos.length bap, .slice F y.fs.length fap] := by rw [hw2]; exact Row.new _ _ _
  have HB2 : Hid (Below w.heap.size w w2) := by rw [hw2]; exact h3
  have hl2 := hrow.lt
  have p0 := hrow.cell 0
  have p1 := hrow.cell 1
  have p2 := hrow.cell 2
  simp only [List.getElem?_cons_zero, List.getElem?_cons_succ] at p0 p1 p2
  rw [← hw2]
  have Hp01 := Lib.hid (And.intro p0 p1)
  clear hw2 h3 hrow
  obtain ⟨b, off, A1, cap1, A2, cap2, rfl, _, hbh, d0, d1, d2, d3, _, _, _, _, hfi⟩ := (Hf.out.below HB2.out hB).at_ hilt
  obtain ⟨b', off', A3, cap3, A4, cap4, eF, _, _, e0, e1, e2, e3, _, _, _, _, hfk⟩ := (Hf.out.below HB2.out hB).at_ hklt
  obtain ⟨rfl, rfl⟩ : b = b' ∧ off = off' := by simpa using eF
  have Hfi := Lib.hid hfi
  have Hfk := Lib.hid hfk
  have hbW : b < w2.heap.size := by omega
  have Hcf : Hid (∀ u : World, Below w2.heap.size w2.drew u → u.cell? ⟨w.heap.size, 2, none⟩ = some (.slice (some ⟨b, off, none⟩) y.fs.length fap) ∧ u.cell? ⟨b, off + i.toNat * 4, none⟩ = some (.string y.fs[i.toNat].name) ∧ u.cell? ⟨b, off + i.toNat * 4 + 1, none⟩ = some (.slice A1 y.fs[i.toNat].args.length cap1) ∧ u.cell? ⟨b, off + i.toNat * 4 + 2, none⟩ = some (.int .i64 y.fs[i.toNat].res) ∧ u.cell? ⟨b, off + i.toNat * 4 + 3, none⟩ = some (.slice A2 y.fs[i.toNat].table.length cap2) ∧ u.cell? ⟨b, off + k.toNat * 4, none⟩ = some (.string y.fs[k.toNat].name) ∧ u.cell? ⟨b, off + k.toNat * 4 + 1, none⟩ = some (.slice A3 y.fs[k.toNat].args.length cap3) ∧ u.cell? ⟨b, off + k.toNat * 4 + 2, none⟩ = some (.int .i64 y.fs[k.toNat].res) ∧ u.cell? ⟨b, off + k.toNat * 4 + 3, none⟩ = some (.slice A4 y.fs[k.toNat].table.length cap4)) := fun u hu =>
    ⟨(hu.cell (p := ⟨w.heap.size, 2, none⟩) (by dsimp only; omega)).trans p2, (hu.cell (p := ⟨b, off + i.toNat * 4, none⟩) hbW).trans d0, (hu.cell (p := ⟨b, off + i.toNat * 4 + 1, none⟩) hbW).trans d1, (hu.cell (p := ⟨b, off + i.toNat * 4 + 2, none⟩) hbW).trans d2, (hu.cell (p := ⟨b, off + i.toNat * 4 + 3, none⟩) hbW).trans d3, (hu.cell (p := ⟨b, off + k.toNat * 4, none⟩) hbW).trans e0, (hu.cell (p := ⟨b, off + k.toNat * 4 + 1, none⟩) hbW).trans e1, (hu.cell (p := ⟨b, off + k.toNat * 4 + 2, none⟩) hbW).trans e2, (hu.cell (p := ⟨b, off + k.toNat * 4 + 3, none⟩) hbW).trans e3⟩
  clear d0 d1 d2 d3 e0 e1 e2 e3 hfi hfk eF p0 p1 p2
  refine wp_region_inv (by kernel_rfl) (fun f a u => ∃ x0 x1 x2 x3 x4 x5 x6 x7 x8 x9 y_ z_, a = ⟨#[.agg #[.slice A y.ty.sizes.length cap, .slice B y.ty.cos.length bap, .slice (some ⟨b, off, none⟩) y.fs.length fap], .int .i64 i, .int .i64 k, .pointer (some ⟨w.heap.size, 0, none⟩), undef, undef, .bool false, y_, z_, undef, undef, undef, x0, x1, x2, x3, x4, x5, x6, x7, x8, x9, undef, undef, undef, undef, undef, undef, undef, undef, undef, undef, undef, undef, undef, undef, undef, undef, undef, undef, undef, undef, undef, undef, undef, undef, undef, undef, undef, undef, undef, undef, undef, undef, undef, undef, undef, undef], []⟩ ∧ TwoF w2.drew w.heap.size (.slice (some ⟨b, off, none⟩) y.fs.length fap) (.int .i64 i) (.int .i64 k) (.pointer (some ⟨b, off + i.toNat * 4, none⟩)) (.pointer (some ⟨b, off + k.toNat * 4, none⟩)) (.agg #[.string y.fs[i.toNat].name, .slice A1 y.fs[i.toNat].args.length cap1, .int .i64 y.fs[i.toNat].res, .slice A2 y.fs[i.toNat].table.length cap2]) (.agg #[.string y.fs[k.toNat].name, .slice A3 y.fs[k.toNat].args.length cap3, .int .i64 y.fs[k.toNat].res, .slice A4 y.fs[k.toNat].table.length cap4]) [.string y.fs[i.toNat].name, .slice A1 y.fs[i.toNat].args.length cap1, .int .i64 y.fs[i.toNat].res, .slice A2 y.fs[i.toNat].table.length cap2] [.string y.fs[k.toNat].name, .slice A3 y.fs[k.toNat].args.length cap3, .int .i64 y.fs[k.toNat].res, .slice A4 y.fs[k.toNat].table.length cap4] f x0 x1 x2 x3 x4 x5 x6 x7 x8 x9 y_ z_ u) (of_decide_eq_true (by kernel_rfl)) ⟨_, _, _, _, _, _, _, _, _, _, _, _, rfl, ⟨Below.refl _ _, nofun, nofun, nofun, nofun, nofun, nofun, nofun, nofun, nofun, nofun, nofun, nofun, nofun, nofun, nofun, nofun, nofun⟩⟩ ?_ ?_
  · rintro f a u q o ho hfi hdep ⟨x0, x1, x2, x3, x4, x5, x6, x7, x8, x9, y_, z_, rfl, hF⟩
    have hil : q < 14 := by have := (Array.getElem?_eq_some_iff.1 ho).1; simpa using this
    obtain ⟨r0, r1, r2, r3, r4, t1, t2, t3, t4⟩ := Hcf.out u hF.bel
    obtain rfl | rfl | rfl | rfl | rfl | rfl | rfl | rfl | rfl | rfl | rfl | rfl | rfl | rfl : q = 0 ∨ q = 1 ∨ q = 2 ∨ q = 3 ∨ q = 4 ∨ q = 5 ∨ q = 6 ∨ q = 7 ∨ q = 8 ∨ q = 9 ∨ q = 10 ∨ q = 11 ∨ q = 12 ∨ q = 13 := by omega
    all_goals
      obtain rfl := Option.some.inj ho
      refine wpOp_step ho fun K hK => ?_
      simp [Region.binds] at hdep
      clear ho
    · refine if_yes rfl ?_
      have HF := Lib.hid hF
      clear hF
      unfold Oper.wp
      go_simp
      exact hK _ _ ⟨_, _, _, _, _, _, _, _, _, _, _, _, rfl, HF.out.s0⟩
    · have d0 : f 0 = true := by simp [hdep]
      obtain rfl := hF.a0 d0
      refine if_yes rfl ?_
      have HF := Lib.hid hF
      clear hF
      unfold Oper.wp
      go_simp
      exact hK _ _ ⟨_, _, _, _, _, _, _, _, _, _, _, _, rfl, HF.out.s1⟩
    · refine if_yes rfl ?_
      have HF := Lib.hid hF
      clear hF
      unfold Oper.wp
      go_simp
      exact hK _ _ ⟨_, _, _, _, _, _, _, _, _, _, _, _, rfl, HF.out.s2⟩
    · have d1 : f 1 = true := by simp [hdep]
      obtain rfl := hF.a1 d1
      have d2 : f 2 = true := by simp [hdep]
      obtain rfl := hF.a2 d2
      refine if_yes rfl ?_
      have HF := Lib.hid hF
      clear hF
      unfold Oper.wp
      go_simp
      exact hK _ _ ⟨_, _, _, _, _, _, _, _, _, _, _, _, rfl, HF.out.s3⟩
    · have d3 : f 3 = true := by simp [hdep]
      obtain rfl := hF.a3 d3
      refine if_yes rfl ?_
      have HF := Lib.hid hF
      clear hF
      unfold Oper.wp
      go_simp
      exact hK _ _ ⟨_, _, _, _, _, _, _, _, _, _, _, _, rfl, HF.out.s4⟩
    · refine if_yes rfl ?_
      have HF := Lib.hid hF
      clear hF
      unfold Oper.wp
      go_simp
      exact hK _ _ ⟨_, _, _, _, _, _, _, _, _, _, _, _, rfl, HF.out.s5⟩
    · have d5 : f 5 = true := by simp [hdep]
      obtain rfl := hF.a5 d5
      refine if_yes rfl ?_
      have HF := Lib.hid hF
      clear hF
      unfold Oper.wp
      go_simp
      exact hK _ _ ⟨_, _, _, _, _, _, _, _, _, _, _, _, rfl, HF.out.s6⟩
    · refine if_yes rfl ?_
      have HF := Lib.hid hF
      clear hF
      unfold Oper.wp
      go_simp
      exact hK _ _ ⟨_, _, _, _, _, _, _, _, _, _, _, _, rfl, HF.out.s7⟩
    · have d6 : f 6 = true := by simp [hdep]
      obtain rfl := hF.a6 d6
      have d7 : f 7 = true := by simp [hdep]
      obtain rfl := hF.a7 d7
      refine if_yes rfl ?_
      have HF := Lib.hid hF
      clear hF
      unfold Oper.wp
      go_simp
      exact hK _ _ ⟨_, _, _, _, _, _, _, _, _, _, _, _, rfl, HF.out.s8⟩
    · have d8 : f 8 = true := by simp [hdep]
      obtain rfl := hF.a8 d8
      refine if_yes rfl ?_
      have HF := Lib.hid hF
      clear hF
      unfold Oper.wp
      go_simp
      exact hK _ _ ⟨_, _, _, _, _, _, _, _, _, _, _, _, rfl, HF.out.s9⟩
    · refine if_yes rfl ?_
      have HF := Lib.hid hF
      clear hF
      unfold Oper.wp
      go_simp
      exact hK _ _ ⟨_, _, _, _, _, _, _, _, _, _, _, _, rfl, HF.out.s10 hfi⟩
    · refine if_yes rfl ?_
      have HF := Lib.hid hF
      clear hF
      unfold Oper.wp
      go_simp
      exact hK _ _ ⟨_, _, _, _, _, _, _, _, _, _, _, _, rfl, HF.out.s11 hfi⟩
    · have d10 : f 10 = true := by simp [hdep]
      have d4 : f 4 = true := by simp [hdep]
      obtain rfl := hF.a4 d4
      obtain ⟨p, hp, rfl, hrow⟩ := hF.b0 d10 hfi
      have m0 := hrow.cell 0
      have m1 := hrow.cell 1
      have m2 := hrow.cell 2
      have m3 := hrow.cell 3
      have n0 := hrow.frozen 0
      have n1 := hrow.frozen 1
      have n2 := hrow.frozen 2
      have n3 := hrow.frozen 3
      unfold zeroFu at m0 m1 m2 m3
      simp only [List.getElem?_cons_zero, List.getElem?_cons_succ] at m0 m1 m2 m3
      refine if_yes rfl ?_
      have HF := Lib.hid hF
      have Hrow := Lib.hid hrow
      clear hF hrow r0 r1 r2 r3 r4 t1 t2 t3 t4
      unfold Oper.wp
      go_simp
      exact hK _ _ ⟨_, _, _, _, _, _, _, _, _, _, _, _, rfl, HF.out.s12 d10 hp Hrow.out⟩
    · have d11 : f 11 = true := by simp [hdep]
      have d9 : f 9 = true := by simp [hdep]
      obtain rfl := hF.a9 d9
      obtain ⟨p, hp, rfl, hrow⟩ := hF.b1 d11 hfi
      have m0 := hrow.cell 0
      have m1 := hrow.cell 1
      have m2 := hrow.cell 2
      have m3 := hrow.cell 3
      have n0 := hrow.frozen 0
      have n1 := hrow.frozen 1
      have n2 := hrow.frozen 2
      have n3 := hrow.frozen 3
      unfold zeroFu at m0 m1 m2 m3
      simp only [List.getElem?_cons_zero, List.getElem?_cons_succ] at m0 m1 m2 m3
      refine if_yes rfl ?_
      have HF := Lib.hid hF
      have Hrow := Lib.hid hrow
      clear hF hrow r0 r1 r2 r3 r4 t1 t2 t3 t4
      unfold Oper.wp
      go_simp
      exact hK _ _ ⟨_, _, _, _, _, _, _, _, _, _, _, _, rfl, HF.out.s13 d11 hp Hrow.out⟩
  · rintro f a u hall ⟨x0, x1, x2, x3, x4, x5, x6, x7, x8, x9, y_, z_, rfl, hF⟩
    have g : ∀ j, j < 14 → f j = true := fun j hj => hall j (by simpa using hj)
    obtain rfl := hF.a0 (g 0 (by omega))
    obtain rfl := hF.a1 (g 1 (by omega))
    obtain rfl := hF.a2 (g 2 (by omega))
    obtain rfl := hF.a3 (g 3 (by omega))
    obtain rfl := hF.a4 (g 4 (by omega))
    obtain rfl := hF.a5 (g 5 (by omega))
    obtain rfl := hF.a6 (g 6 (by omega))
    obtain rfl := hF.a7 (g 7 (by omega))
    obtain rfl := hF.a8 (g 8 (by omega))
    obtain rfl := hF.a9 (g 9 (by omega))
    obtain ⟨p, hp, rfl, hrp⟩ := hF.b2 (g 12 (by omega))
    obtain ⟨q, hq, rfl, hrq⟩ := hF.b3 (g 13 (by omega))
    have hbu : Below w2.heap.size w2 u := ⟨hF.bel.os, hF.bel.tape, hF.bel.output, hF.bel.size, hF.bel.block⟩
    clear hF hall g
    have hbW2 : Below w.heap.size w u := HB2.out.trans (hbu.mono HB2.out.size)
    have r0 := (hbu.cell (p := ⟨w.heap.size, 0, none⟩) hl2).trans Hp01.out.1
    have r1 := (hbu.cell (p := ⟨w.heap.size, 1, none⟩) hl2).trans Hp01.out.2
    have s0 := hrp.cell 0
    have s1 := hrp.cell 1
    have t0 := hrq.cell 0
    have t1 := hrq.cell 1
    simp only [List.getElem?_cons_zero, List.getElem?_cons_succ] at s0 s1 t0 t1
    have hsu := hbu.size
    have Hai := Lib.hid (Hfi.out.2.2.2.2.1.below hbu (Nat.le_trans hB HB2.out.size))
    have Hak := Lib.hid (Hfk.out.2.2.2.2.1.below hbu (Nat.le_trans hB HB2.out.size))
    have HT := Lib.hid (Hty.out.below hbW2 hB)
    have HbW := Lib.hid hbW2
    have hBu : hi ≤ u.heap.size := Nat.le_trans hB hbW2.size
    have HgI : Hid (y.fs.getD i.toNat default = y.fs[i.toNat]) := getD_of hilt
    have HgK : Hid (y.fs.getD k.toNat default = y.fs[k.toNat]) := getD_of hklt
    have Hrp := Lib.hid hrp
    have Hrq := Lib.hid hrq
    have hql := hrq.lt
    have hpl := hrp.lt
    have hlu : w.heap.size < u.heap.size := Nat.lt_of_lt_of_le hl2 hsu
    clear hbu hbW2 hrp hrq hp hq
    have H : Hid (belowB y i k = true ↔ y.fs[i.toNat].name = y.fs[k.toNat].name ∧ FitsTo y.ty y.fs[i.toNat].args y.fs[k.toNat].args) := by
      show _ ↔ _
      rw [belowB_iff]
      unfold BelowP
      rw [HgI.out, HgK.out]
      exact ⟨fun h => h.2.2, fun h => ⟨C1.out, C2.out, h⟩⟩
    have Hno : Hid (¬ (y.fs[i.toNat].name = y.fs[k.toNat].name ∧ FitsTo y.ty y.fs[i.toNat].args y.fs[k.toNat].args) → belowB y i k = false) := fun h => by
      cases e : belowB y i k with
      | false => rfl
      | true => exact absurd (H.out.1 e) h
    by_cases he : y.fs[i.toNat].name = y.fs[k.toNat].name
    case neg =>
      have hnm : ¬ y.fs[i.toNat].name.toList = y.fs[k.toNat].name.toList := fun h => he (bytes_eq h)
      have hfin := Lib.hid (Hno.out fun h => he h.1)
      clear he
      go_wp2
      go_ret
      exact ⟨ret_bool hfin.out.symm, HbW.out⟩
    have hnm : y.fs[i.toNat].name.toList = y.fs[k.toNat].name.toList := by rw [he]
    have He := Lib.hid he
    clear he
    by_cases hlen : y.fs[i.toNat].args.length = y.fs[k.toNat].args.length
    case neg =>
      have hd : ((y.fs[i.toNat].args.length : Int) != (y.fs[k.toNat].args.length : Int)) = true := by simp; omega
      have hfin := Lib.hid (Hno.out fun h => hlen h.2.1)
      clear hlen
      go_wp2
      go_ret
      exact ⟨ret_bool hfin.out.symm, HbW.out⟩
    have hd : ((y.fs[i.toNat].args.length : Int) != (y.fs[k.toNat].args.length : Int)) = false := by simp [hlen]
    have Hlen := Lib.hid hlen
    have hsm : y.fs[k.toNat].args.length ≤ 2 := (Hsy.out.each _ hklt).few
    clear hlen
    go_wp2
    obtain ⟨wf, hwf⟩ : ∃ wf, wf = u.alloc (.cells #[.slice A y.ty.sizes.length cap, .slice B y.ty.cos.length bap] 136) := ⟨_, rfl⟩
    have hfr : Row wf u.heap.size 136 [.slice A y.ty.sizes.length cap, .slice B y.ty.cos.length bap] := by rw [hwf]; exact Row.new _ _ _
    have huf : Below u.heap.size u wf := by rw [hwf]; exact (Below.refl _ _).alloc (Nat.le_refl _) _
    rw [← hwf]
    have Hfr := Lib.hid hfr
    have Huf := Lib.hid huf
    have hfl := hfr.lt
    have Hufs := Lib.hid huf.size
    clear hwf hfr huf r0 r1 s0 s1 t0 t1 hd hnm
    go_loopw [43] (fun r wr => ∃ j : Nat, j ≤ y.fs[i.toNat].args.length ∧ r = .int .i64 j ∧ Hid (Below wf.heap.size wf wr) ∧ Hid (∀ n, n < j → canB y.ty (y.fs[i.toNat].args.getD n 0) (y.fs[k.toNat].args.getD n 0) = true)) (fun r _ => y.fs[i.toNat].args.length - (intOf r).toNat)
    case atStart => exact ⟨0, Nat.zero_le _, rfl, Below.refl _ _, fun n hn => absurd hn (by omega)⟩
    case round =>
      obtain ⟨j, hj, rfl, hbr, hok2⟩ := hrel
      have hsr := hbr.out.size
      have Hur : Hid (Below u.heap.size u wr) := Huf.out.trans (hbr.out.mono Hufs.out)
      have HWr : Hid (Below w.heap.size w wr) := HbW.out.trans (Hur.out.mono HbW.out.size)
      by_cases hjl : j < y.fs[i.toNat].args.length
      · have hjk : j < y.fs[k.toNat].args.length := by have := Hlen.out; omega
        have t1 := (Hrq.out.below Hur.out hql).cell 1
        simp only [List.getElem?_cons_zero, List.getElem?_cons_succ] at t1
        have hqw : q < wr.heap.size := Nat.lt_of_lt_of_le hql Hur.out.size
        obtain ⟨g1, o1, rfl, _, _, e1, _⟩ := (Hai.out.below Hur.out hBu).at_ hjl
        obtain ⟨g2, o2, rfl, _, _, e2, _⟩ := (Hak.out.below Hur.out hBu).at_ hjk
        have htb := Lib.hid (typesB_mk Hsy.out.ty ((Hsy.out.each _ hilt).args j hjl) ((Hsy.out.each _ hklt).args j hjk))
        have HTr := Lib.hid (HT.out.below Hur.out hBu)
        have Hrr := Lib.hid (Hfr.out.below hbr.out hfl)
        have hBr : hi ≤ wr.heap.size := Nat.le_trans hBu Hur.out.size
        have hg : Hid (canB y.ty (y.fs[i.toNat].args.getD j 0) (y.fs[k.toNat].args.getD j 0) = canB y.ty y.fs[i.toNat].args[j] y.fs[k.toNat].args[j]) := by show _ = _; rw [getD_of hjl, getD_of hjk]
        have hjI : (j : Int) < (y.fs[k.toNat].args.length : Int) := by omega
        by_cases hc : canB y.ty y.fs[i.toNat].args[j] y.fs[k.toNat].args[j] = true
        · have hok3 : Hid (∀ n, n < j + 1 → canB y.ty (y.fs[i.toNat].args.getD n 0) (y.fs[k.toNat].args.getD n 0) = true) := fun n hn => by
            by_cases e : n = j
            · subst e; rw [hg.out]; exact hc
            · exact hok2.out n (by omega)
          have Hc := Lib.hid hc
          clear hc
          go_wp2_with (go_at_call 121; refine (leads_any lo hi u.heap.size _ _ y.ty _ _ wr HTr.out hBr Hrr.out htb.out).mono ?_; rintro e w' ⟨rfl, hbx⟩; rw [Hc.out])
          go_roundw
          case rel => exact ⟨j + 1, by omega, by go_num, hbr.out.trans (hbx.mono hsr), hok3⟩
          case measure => simp [intOf]; omega
        · have hcf : Hid (canB y.ty y.fs[i.toNat].args[j] y.fs[k.toNat].args[j] = false) := by show _ = _; simpa using hc
          have hfin := Lib.hid (Hno.out fun h => hc (by rw [← hg.out]; exact h.2.2 j hjl))
          clear hc
          go_wp2_with (go_at_call 121; refine (leads_any lo hi u.heap.size _ _ y.ty _ _ wr HTr.out hBr Hrr.out htb.out).mono ?_; rintro e w' ⟨rfl, hbx⟩; rw [hcf.out])
          go_ret
          exact ⟨ret_bool hfin.out.symm, HWr.out.trans (hbx.mono HWr.out.size)⟩
      · obtain rfl : j = y.fs[i.toNat].args.length := by omega
        have hfin : Hid (belowB y i k = true) := H.out.2 ⟨He.out, Hlen.out, fun n hn => hok2.out n hn⟩
        go_wp2
        go_ret
        exact ⟨ret_bool hfin.out.symm, HWr.out⟩
end Go.Proofs.YtbblhjdcpmahkaaGreatDoor

namespace Go.Proofs.YtbblhjdcpmahkaaGreatDoor
open Go.RowKit

end Go.Proofs.YtbblhjdcpmahkaaGreatDoor

