/-
  The contract of the program's callsDiffer.
  The contract of the program's SystemValid.
  The contract of the model's test for a way.
  The contracts of l4Has, hasFunctions and l4Fits.
  A finder for two types.
  The contracts of ShortestWay, the program's and the model's.
-/
import Derived.Test.YtnmbjmocnafekaaGreatDoorE13
import Derived.Sort.KeysCollected
import Derived.Test.YtnmbjmocnafekaaGreatDoorE11
import Derived.Test.YtnmbjmocnafekaaGreatDoorE7
import Derived.Test.YtnmbjmocnafekaaGreatDoorE10
import Derived.Test.YtnmbjmocnafekaaGreatDoorE12
import Derived.BigQuiet
namespace Go.Proofs.YtnmbjmocnafekaaGreatDoor
open Go.RowKit Go.Maps
open Go.ChangeShapes (lits)

theorem ints_of_owns {w : World} {base : Nat} {v : Value} {zs : List Int} (h : w.ownsInts base 3 .i64 v zs) : IntsAt w base w.heap.size v zs := by
  obtain ⟨g, ho, hg⟩ := OwnI.of_owns h.1
  exact ho.ints (fun z hz => by have := h.2 z hz; simpa [Lit.wf, IntKind.min, IntKind.max, IntKind.signed, IntKind.bits, I64] using this) hg

/-- What is left when nothing else than the iterator has turned. -/
theorem ranges_of_heap {w w' : World} {k : TypeId} {R : Value → Option (DataW Unit × List MemPlace)} {b r n cnt : Nat} {D : DataW Unit} {left : Lit → Bool} (h : w.ranges Tryz.prog k R b r n D left cnt) (hh : w'.heap = w.heap) : w'.ranges Tryz.prog k R b r n D left cnt := by
  obtain ⟨es, clock, since, seen, c0, h1, h2, h3, h4, h5, h6⟩ := h
  exact ⟨es, clock, since, seen, c0, by rw [hh]; exact h1, h2, h3, h4, by rw [hh]; exact h5, h6⟩

set_option maxRecDepth 100000 in
set_option maxHeartbeats 4000000 in
theorem callsDiffer_any (lo hi : Nat) (v : Value) (fs : List Fu) (w : World) (hv : FusAt w lo hi v fs) (hB : hi ≤ w.heap.size) (hlen : fs.length ≤ 1048576) :
    Calls Tryz.prog 111 #[v] w fun e w' => e = .returned (.bool (differB fs)) ∧ Below w.heap.size w w' := by
  obtain ⟨F, cap, rfl, hl1, hm1, hv1⟩ := hv.form
  unfold maxLen at hm1
  have Hv := Lib.hid hv1
  clear hv hv1
  go_enter Tryz.func111, Tryz.ntmps111
  go_wp2_with fail
  refine (indicesByName_any lo hi _ fs w Hv.out hB hlen).mono ?_
  rintro e w1 ⟨D, rfl, hb1, hgrp, hown⟩
  have hmap : w1.ownsMap Tryz.prog 9 (rowElem w1 (w.heap.size + 1) 3 .i64) w.heap.size fs.length D := by
    obtain ⟨es, clock, h1, h2, h3, h4, _⟩ := hown
    exact ⟨es, clock, h1, h2, h3, h4⟩
  have Hgrp := Lib.hid hgrp
  have Hb1 := Lib.hid hb1
  clear hgrp hb1 hown
  go_wp2_with (first | (at_range; refine wpList_range_own _ rfl _ 195 rfl 9 22 lawStr Tryz.underlying195 _ w.heap.size fs.length D rfl hmap ?_; intro w2 hrg2 hg2 hs2) | go_in)
  go_frame
  have Hrg2 := Lib.hid hrg2
  have Hg2 := Lib.hid hg2
  clear hrg2 hg2 hs2 hmap
  go_loopw [12] (fun _ wr => ∃ left cnt, Hid (wr.ranges Tryz.prog 9 (rowElem w1 (w.heap.size + 1) 3 .i64) w.heap.size w1.heap.size fs.length D left cnt) ∧ Hid (Below w1.heap.size w1 wr) ∧
    Hid (∀ nm : ByteArray, nm.size ≤ maxLen → left (kN nm) = false → Parts fs (idxs fs fs.length nm))) (fun _ wr => wr.rangeLeft w.heap.size w1.heap.size)
  case atStart =>
    refine ⟨Maps.has D, Maps.size D, Hrg2.out, ⟨Hg2.out.os, Hg2.out.tape, Hg2.out.output, Hg2.out.size, fun k hk => Hg2.out.block k hk (by simp)⟩, fun nm hs hl a b ha _ => ?_⟩
    have hno : ¬ idxs fs fs.length nm ≠ [] := fun h => by rw [(Hgrp.out.has nm hs).2 h] at hl; cases hl
    have hnil : idxs fs fs.length nm = [] := Classical.not_not.1 hno
    rw [hnil] at ha
    cases ha
  case round =>
    obtain ⟨left, cnt, hrg, hb, hparts⟩ := hrel
    go_wp2_with (first | (at_next; refine wpList_next_ranges wr rfl _ rfl 9 lawStr (rowElem w1 (w.heap.size + 1) 3 .i64) encStr (fun v : Value => v) (fun key kl hk => by obtain ⟨x, hx, _⟩ := Maps.keyOf_str Tryz.underlying9 hk; exact ⟨x, hx⟩) (fun v y _ => ⟨v, rfl⟩) w.heap.size w1.heap.size fs.length D left cnt rfl hrg.out ?_ ?_) | go_in)
    · intro hc0 hl0
      have hyes : Hid (differB fs = true) := by
        show _ = _
        refine differB_yes (differ_of_parts fun nm hne => ?_)
        have hs : nm.size ≤ maxLen := by
          rcases hx : idxs fs fs.length nm with _ | ⟨z, r⟩
          · exact absurd hx hne
          · obtain ⟨i, hi, hn, _⟩ := idxs_mem.1 (show z ∈ idxs fs fs.length nm by rw [hx]; simp)
            obtain ⟨_, _, _, _, _, _, _, _, _, _, _, _, _, _, _, _, _, hfu⟩ := Hv.out.at_ hi
            rw [getD_of hi] at hn
            rw [← hn]; exact hfu.2.2.1
        exact hparts.out nm hs (hl0 _)
      have hbw := Lib.hid (Hb1.out.trans (hb.out.mono Hb1.out.size))
      clear hl0 hparts hrg hb
      go_wp2
      go_ret
      exact ⟨ret_bool hyes.out.symm, hbw.out⟩
    · intro x c kl yd yp w3 cnt2 hkey hlk hv hat hrg3 hlt hg3 hs3 hen
      obtain ⟨x', ex, rfl, hxl⟩ := Maps.keyOf_str Tryz.underlying9 hkey
      obtain rfl : x = x' := encStr_inj ex
      clear ex hkey
      have hkn : Lit.string x = kN ⟨x.toArray⟩ := by simp [kN]
      rw [hkn] at hat hlk hrg3
      have hsx : (⟨x.toArray⟩ : ByteArray).size ≤ maxLen := by simpa [ByteArray.size] using hxl
      obtain ⟨zs, ho, hyd⟩ := rowElem_inv hv
      have hyd1 : yd = rowDatum .i64 c zs := congrArg Prod.fst hyd
      have hzs := Hgrp.out.look hsx ho ((hat .nil).trans hyd1)
      have hzi := ints_of_owns ho
      have hb3 : Below w1.heap.size w1 w3 := ⟨hg3.os.trans hb.out.os, hg3.tape.trans hb.out.tape, hg3.output.trans hb.out.output, Nat.le_trans hb.out.size hg3.size, fun k hk => (hg3.block k (Nat.lt_of_lt_of_le hk hb.out.size) (by simp; omega)).trans (hb.out.block k hk)⟩
      obtain ⟨Z, zap, rfl, hlz, hmz, hz1⟩ := hzi.form
      have hz3 := Lib.hid (hz1.below hb3 (Nat.le_refl _))
      have hb03 : Hid (Below w.heap.size w w3) := Hb1.out.trans (hb3.mono Hb1.out.size)
      have hmeas : Hid (w3.rangeLeft w.heap.size w1.heap.size < wr.rangeLeft w.heap.size w1.heap.size) := by show _ < _; rw [hrg3.left_eq, hrg.out.left_eq]; exact hlt
      have Hzs := Lib.hid hzs
      have Hrg3 := Lib.hid hrg3
      have Hb3 := Lib.hid hb3
      have hparts2 : Hid (Parts fs (idxs fs fs.length ⟨x.toArray⟩) → ∀ nm : ByteArray, nm.size ≤ maxLen → (left (kN nm) && !(kN nm).sameKey (kN ⟨x.toArray⟩)) = false → Parts fs (idxs fs fs.length nm)) := by
        intro hP nm hs h
        by_cases e : kN nm = kN ⟨x.toArray⟩
        · rw [kN_inj e]; exact hP
        · rw [sameKey_ne e] at h
          exact hparts.out nm hs (by simpa using h)
      unfold maxLen at hmz
      clear hat hlk hv hyd hyd1 hzi ho hg3 hs3 hb3 hz1 hrg3 hzs hparts hrg hb hkn hsx hxl hlt
      generalize (⟨x.toArray⟩ : ByteArray) = nm at *
      go_wp2
      go_loopw [18] (fun i wm => ∃ n : Nat, n ≤ zs.length ∧ i = .int .i64 n ∧ Hid (∃ m, wm = w3.drewN m) ∧ Hid (∀ a b : Nat, a < n → b < a → (fs.getD (zs.getD a 0).toNat default).args ≠ (fs.getD (zs.getD b 0).toNat default).args)) (fun i _ => zs.length - (intOf i).toNat)
      case atStart => exact ⟨0, Nat.zero_le _, rfl, ⟨0, rfl⟩, fun a b h => absurd h (by omega)⟩
      case round =>
        obtain ⟨n, hn, rfl, hwm, hpre⟩ := hrel
        by_cases hln : n < zs.length
        · obtain ⟨gz, oz, rfl, _, _, cz, _⟩ := (show IntsAt wr _ _ _ zs from by obtain ⟨m, rfl⟩ := hwm.out; exact hz3.out).at_ (k := n) hln
          obtain ⟨i, hi, hni, ei⟩ := idxs_mem.1 (show zs[n] ∈ idxs fs fs.length nm by rw [← Hzs.out]; exact List.getElem_mem hln)
          rw [ei] at cz
          have Hei := Lib.hid ei
          have hlnI : (n : Int) < (zs.length : Int) := by omega
          clear ei
          go_wp2
          go_loopw [27] (fun q wi => ∃ j : Nat, j ≤ n ∧ q = .int .i64 j ∧ Hid (∃ m, wi = w3.drewN m) ∧ Hid (∀ b : Nat, b < j → (fs.getD (zs.getD n 0).toNat default).args ≠ (fs.getD (zs.getD b 0).toNat default).args)) (fun q _ => n - (intOf q).toNat)
          case atStart => exact ⟨0, Nat.zero_le _, rfl, hwm.out, fun b h => absurd h (by omega)⟩
          case round =>
            obtain ⟨j, hj, rfl, hwi, hpre2⟩ := hrel
            by_cases hlj : j < n
            · have hljz : j < zs.length := by omega
              obtain ⟨gz', oz', eZ, _, _, cz2, _⟩ := (show IntsAt wr _ _ _ zs from by obtain ⟨m, rfl⟩ := hwi.out; exact hz3.out).at_ (k := j) hljz
              obtain ⟨rfl, rfl⟩ : gz = gz' ∧ oz = oz' := by simpa using eZ
              obtain ⟨k, hk, hnk, ek⟩ := idxs_mem.1 (show zs[j] ∈ idxs fs fs.length nm by rw [← Hzs.out]; exact List.getElem_mem hljz)
              rw [ek] at cz2
              have Hek := Lib.hid ek
              clear ek eZ
              have hbw : Below w.heap.size w wr := by obtain ⟨m, rfl⟩ := hwi.out; exact below_drewN hb03.out m
              obtain ⟨b, off, A1, cap1, A2, cap2, rfl, _, _, c0, c1, c2, c3, _, _, _, _, hfi⟩ := (Hv.out.below hbw hB).at_ hi
              obtain ⟨b', off', A1', cap1', A2', cap2', eF, _, _, d0, d1, d2, d3, _, _, _, _, hfk⟩ := (Hv.out.below hbw hB).at_ hk
              obtain ⟨rfl, rfl⟩ : b = b' ∧ off = off' := by simpa using eF
              have hai := Lib.hid hfi.2.2.2.2.1
              have hak := Lib.hid hfk.2.2.2.2.1
              have hBw := Lib.hid (Nat.le_trans hB hbw.size)
              have Hgn : Hid ((fs.getD (zs.getD n 0).toNat default).args = fs[i].args) := by show _ = _; rw [getD_of hln, Hei.out, Int.toNat_natCast, getD_of hi]
              have Hgj : Hid ((fs.getD (zs.getD j 0).toNat default).args = fs[k].args) := by show _ = _; rw [getD_of hljz, Hek.out, Int.toNat_natCast, getD_of hk]
              have hljI : (j : Int) < (n : Int) := by omega
              have hiI : (i : Int) < (fs.length : Int) := by omega
              have hkI : (k : Int) < (fs.length : Int) := by omega
              clear hfi hfk eF c0 c2 c3 d0 d2 d3 hni hnk hbw
              by_cases he : fs[i].args = fs[k].args
              · have htest : Hid (decide (fs[i].args = fs[k].args) = true) := decide_eq_true he
                have hno : Hid (differB fs = false) := by
                  show _ = _
                  refine differB_no (not_differ (nm := nm) (a := n) (b := j) (by rw [← Hzs.out]; exact hln) hlj ?_)
                  rw [← Hzs.out, Hgn.out, Hgj.out]; exact he
                clear he
                go_wp2
                go_quiet ((first | (go_at_call 145; exact slicesEqual_quiet _ _ _ _ _ _ fs[i].args fs[k].args _ _ _ htest.out hai.out hak.out hBw.out hBw.out)))
                go_wp2
                go_ret
                exact ⟨ret_bool hno.out.symm, by obtain ⟨m, rfl⟩ := hwi.out; exact below_drewN (below_drewN hb03.out m) _⟩
              · have htest : Hid (decide (fs[i].args = fs[k].args) = false) := decide_eq_false he
                have hpre3 : Hid (∀ b : Nat, b < j + 1 → (fs.getD (zs.getD n 0).toNat default).args ≠ (fs.getD (zs.getD b 0).toNat default).args) := fun b hb => by
                  by_cases e : b = j
                  · subst e; rw [Hgn.out, Hgj.out]; exact he
                  · exact hpre2.out b (by omega)
                clear he
                go_wp2
                go_quiet ((first | (go_at_call 145; exact slicesEqual_quiet _ _ _ _ _ _ fs[i].args fs[k].args _ _ _ htest.out hai.out hak.out hBw.out hBw.out)))
                go_wp2
                go_roundw
                case rel => exact ⟨j + 1, by omega, by go_num, (by show ∃ m, _ = _; obtain ⟨m, rfl⟩ := hwi.out; exact ⟨_, World.drewN_drewN ..⟩), hpre3⟩
                case measure => simp [intOf]; omega
            · obtain rfl : j = n := by omega
              have hpre3 : Hid (∀ a b : Nat, a < j + 1 → b < a → (fs.getD (zs.getD a 0).toNat default).args ≠ (fs.getD (zs.getD b 0).toNat default).args) := fun a b ha hb => by
                by_cases e : a = j
                · subst e; exact hpre2.out b hb
                · exact hpre.out a b (by omega) hb
              go_wp2
              go_roundw
              case rel => exact ⟨j + 1, by omega, by go_num, hwi.out, hpre3⟩
              case measure => simp [intOf]; omega
        · obtain rfl : n = zs.length := by omega
          have hP : Hid (∀ m : ByteArray, m.size ≤ maxLen → (left (kN m) && !(kN m).sameKey (kN nm)) = false → Parts fs (idxs fs fs.length m)) := hparts2.out (by rw [← Hzs.out]; exact fun a b ha hb => hpre.out a b ha hb)
          have hrgw : Hid (wr.ranges Tryz.prog 9 (rowElem w1 (w.heap.size + 1) 3 .i64) w.heap.size w1.heap.size fs.length D (fun z => left z && !z.sameKey (kN nm)) cnt2) := by obtain ⟨m, rfl⟩ := hwm.out; exact ranges_of_heap Hrg3.out rfl
          have hbw : Hid (Below w1.heap.size w1 wr) := by obtain ⟨m, rfl⟩ := hwm.out; exact below_drewN Hb3.out m
          have hme : Hid (wr.rangeLeft w.heap.size w1.heap.size = w3.rangeLeft w.heap.size w1.heap.size) := by obtain ⟨m, rfl⟩ := hwm.out; rfl
          go_wp2
          go_roundw
          case rel => exact ⟨_, _, hrgw, hbw, hP⟩
          case measure => have h1 := hme.out; have h2 := hmeas.out; omega
end Go.Proofs.YtnmbjmocnafekaaGreatDoor

namespace Go.Proofs.YtnmbjmocnafekaaGreatDoor
open Go.RowKit

set_option maxRecDepth 100000 in
set_option maxHeartbeats 4000000 in
theorem implSysValid_any (lo hi : Nat) (sv cv fv : Value) (y : Sy) (w : World) (hv : SyAt w lo hi sv cv fv y) (hB : hi ≤ w.heap.size) :
    Calls Tryz.prog 73 #[.agg #[sv, cv, fv]] w fun e w' => e = .returned (.bool (syB y)) ∧ Below w.heap.size w w' := by
  obtain ⟨hty, hfs⟩ := hv
  obtain ⟨A, cap, rfl, hl1, hm1, hi1⟩ := hty.1.form
  obtain ⟨B, bap, rfl, hl2, hm2, hc1⟩ := hty.2.form
  obtain ⟨F, fap, rfl, hl3, hm3, hf1⟩ := hfs.form
  unfold maxLen at hm1 hm2 hm3
  have h3 : Below w.heap.size w (w.alloc (.cells #[.slice A y.ty.sizes.length cap, .slice B y.ty.cos.length bap, .slice F y.fs.length fap] 36)) := by go_grown
  have Hty := Lib.hid (show TyAt w lo hi (.slice A y.ty.sizes.length cap) (.slice B y.ty.cos.length bap) y.ty from ⟨hi1, hc1⟩)
  have Hf1 := Lib.hid hf1
  clear hty hfs hi1 hc1 hf1
  have H1 := Lib.hid (Below.refl (w.heap.size + 1) (w.alloc (.cells #[.slice A y.ty.sizes.length cap, .slice B y.ty.cos.length bap, .slice F y.fs.length fap] 36)))
  go_enter Tryz.func73, Tryz.ntmps73
  go_wp2_with fail
  refine (implValid_any lo hi _ _ y.ty _ (Hty.out.below h3 hB) (by simp; omega)).mono ?_
  rintro e w1 ⟨rfl, hb1⟩
  have H2 := Lib.hid (H1.out.trans (hb1.mono (by simp)))
  obtain ⟨q0, q1, q2, hl, hB1⟩ := box3 H2.out
  have HB1 := Lib.hid hB1
  clear hb1 h3 hB1 H1
  by_cases c1 : tyOk y.ty = true
  case neg =>
    have H : Hid (syB y = false) := syB_no fun h => c1 h.ty
    have c1f : tyOk y.ty = false := by simpa using c1
    rw [c1f]
    clear c1
    go_wp2
    go_ret
    exact ⟨ret_bool H.out.symm, HB1.out⟩
  have hok := Lib.hid (tyOk_sizes c1)
  have C1 := Lib.hid c1
  rw [c1]
  clear c1
  by_cases c2 : y.fs.length ≤ 8
  case neg =>
    have H : Hid (syB y = false) := syB_no fun h => c2 h.few
    have hd : decide ((8 : Int) < (y.fs.length : Int)) = true := by simp; omega
    go_wp2
    go_ret
    exact ⟨ret_bool H.out.symm, HB1.out⟩
  have hd : decide ((8 : Int) < (y.fs.length : Int)) = false := by simp; omega
  have C2 := Lib.hid c2
  go_wp2
  clear hd
  go_loopw [18] (fun i wr => ∃ k : Nat, k ≤ y.fs.length ∧ i = .int .i64 k ∧ Hid (Below (w.heap.size + 1) w1 wr) ∧ Hid (∀ j, j < k → ∀ (hj : j < y.fs.length), FuOk y.ty.sizes y.fs[j])) (fun i _ => y.fs.length - (intOf i).toNat)
  case atStart => exact ⟨0, Nat.zero_le _, rfl, Below.refl _ _, fun j hj => absurd hj (by omega)⟩
  case round =>
    obtain ⟨k, hk, rfl, hbr, hok2⟩ := hrel
    have hbo : Below w.heap.size w wr := HB1.out.trans (hbr.out.mono (by omega))
    have hcl : ∀ o, wr.cell? ⟨w.heap.size, o, none⟩ = w1.cell? ⟨w.heap.size, o, none⟩ := fun o => hbr.out.cell (p := ⟨w.heap.size, o, none⟩) (by dsimp only; omega)
    have p0 := (hcl 0).trans q0
    have p1 := (hcl 1).trans q1
    have p2 := (hcl 2).trans q2
    have hlr : w.heap.size < wr.heap.size := Nat.lt_of_lt_of_le hl hbr.out.size
    clear hcl
    by_cases hkl : k < y.fs.length
    · obtain ⟨b, off, A1, cap1, A2, cap2, rfl, _, _, d0, d1, d2, d3, _, _, _, _, hfu⟩ := (Hf1.out.below hbo hB).at_ hkl
      have Hfu := Lib.hid hfu
      have Hi4 := Lib.hid (Hty.out.1.below hbo hB)
      have Hbo := Lib.hid hbo
      clear hfu hbo
      by_cases hin : fuB y.ty.sizes y.fs[k] = true
      · have hin' := Lib.hid (fuB_iff.1 hin)
        go_wp2_with fail
        refine (fitsFu_any lo hi lo hi _ _ _ _ _ y.ty.sizes y.fs[k] (wr.alloc (.cells #[.string y.fs[k].name, .slice A1 y.fs[k].args.length cap1, .int .i64 y.fs[k].res, .slice A2 y.fs[k].table.length cap2] 111)) (Hi4.out.below ((Below.refl _ _).alloc (Nat.le_refl _) _) (by omega)) (Hfu.out.below ((Below.refl _ _).alloc (Nat.le_refl _) _) (by omega)) (by simp; omega) (by simp; omega) hok.out).mono ?_
        rintro e w' ⟨rfl, hbb⟩
        have Hbb := Lib.hid hbb
        clear hbb
        rw [hin]
        go_wp2
        go_roundw
        case rel =>
          refine ⟨k + 1, by omega, by go_num, (hbr.out.alloc (by omega) _).trans (Hbb.out.mono (by simp; omega)), fun j hj hjl => ?_⟩
          by_cases ej : j = k
          · subst ej; exact hin'.out
          · exact hok2.out j (by omega) hjl
        case measure => simp [intOf]; omega
      · have hinf : fuB y.ty.sizes y.fs[k] = false := by simpa using hin
        have H : Hid (syB y = false) := syB_no fun h => hin (fuB_yes (h.each k hkl))
        clear hin
        go_wp2_with fail
        refine (fitsFu_any lo hi lo hi _ _ _ _ _ y.ty.sizes y.fs[k] (wr.alloc (.cells #[.string y.fs[k].name, .slice A1 y.fs[k].args.length cap1, .int .i64 y.fs[k].res, .slice A2 y.fs[k].table.length cap2] 111)) (Hi4.out.below ((Below.refl _ _).alloc (Nat.le_refl _) _) (by omega)) (Hfu.out.below ((Below.refl _ _).alloc (Nat.le_refl _) _) (by omega)) (by simp; omega) (by simp; omega) hok.out).mono ?_
        rintro e w' ⟨rfl, hbb⟩
        have Hbb := Lib.hid hbb
        clear hbb
        rw [hinf]
        go_wp2
        go_ret
        exact ⟨ret_bool H.out.symm, (Hbo.out.alloc (by omega) _).trans (Hbb.out.mono (by simp; omega))⟩
    · obtain rfl : k = y.fs.length := by omega
      have H : Hid (differB y.fs = syB y) := by
        show _ = _
        rw [Bool.eq_iff_iff, differB_iff, syB_iff]
        exact ⟨fun h => ⟨C1.out, C2.out, fun i hi => hok2.out i hi hi, h⟩, fun h => h.differ⟩
      have Hbo := Lib.hid hbo
      clear hbo
      go_wp2_with fail
      refine (callsDiffer_any lo hi _ y.fs _ (Hf1.out.below Hbo.out hB) (by omega) (by omega)).mono ?_
      rintro e w' ⟨rfl, hbb⟩
      have Hbb := Lib.hid hbb
      clear hbb
      go_wp2
      go_ret
      exact ⟨ret_bool H.out, Hbo.out.trans (Hbb.out.mono (by omega))⟩
end Go.Proofs.YtnmbjmocnafekaaGreatDoor

namespace Go.Proofs.YtnmbjmocnafekaaGreatDoor
open Go.RowKit
attribute [local go_sem] Oper.semAt_some

set_option maxRecDepth 100000 in
set_option maxHeartbeats 1000000 in
theorem l2Can_any (lo hi : Nat) (sv cv : Value) (t : Ty) (a b : Int) (w : World) (hv : TyAt w lo hi sv cv t) (hB : hi ≤ w.heap.size) (htb : typesB t a b = true) :
    Calls Tryz.prog 57 #[.agg #[sv, cv], .int .i64 a, .int .i64 b] w fun e w' => e = .returned (.bool (canB t a b)) ∧ Below w.heap.size w w' := by
  obtain ⟨A, cap, rfl, hl1, hm1, _⟩ := hv.1.form
  obtain ⟨B, bap, rfl, hl2, hm2, _⟩ := hv.2.form
  have h3 : Below w.heap.size w (w.alloc (.cells #[.slice A t.sizes.length cap, .slice B t.cos.length bap] 33)) := by go_grown
  have hv3 := Lib.hid (hv.below h3 hB)
  have hwl := waysOf_len (typesB_of htb).1 a b
  clear hv
  go_enter Tryz.func57, Tryz.ntmps57
  go_wp2_with fail
  refine (l2Ways_any lo hi _ _ t a b _ hv3.out (by simp; omega) htb).mono ?_
  rintro e w1 ⟨ov, rfl, hb1, hwy⟩
  obtain ⟨xs, S, hown, _⟩ := hwy
  obtain ⟨OA, OC, rfl⟩ := owns_form hown
  have Hb1 := Lib.hid (h3.trans (hb1.mono (by simp)))
  clear hb1 hown
  go_wp2
  go_ret
  refine ⟨ret_bool ?_, Hb1.out⟩
  unfold canB
  rw [decide_eq_decide]
end Go.Proofs.YtnmbjmocnafekaaGreatDoor

namespace Go.Proofs.YtnmbjmocnafekaaGreatDoor
open Go.RowKit
attribute [local go_sem] Oper.semAt_some

/-- A valid system has a function. -/
noncomputable def hasFB (y : Sy) (i : Int) : Bool := syB y && ixB i y.fs.length
theorem hasFB_of {y : Sy} {i : Int} (h : hasFB y i = true) : SyOk y ∧ 0 ≤ i ∧ i < y.fs.length ∧ i.toNat < y.fs.length := by
  simp only [hasFB, Bool.and_eq_true, ixB, decide_eq_true_eq] at h
  exact ⟨syB_iff.1 h.1, h.2.1, h.2.2, by omega⟩

/-- Types can be coerced to others, one by one. -/
def FitsTo (t : Ty) (xs ys : List Int) : Prop := xs.length = ys.length ∧ ∀ j, j < xs.length → canB t (xs.getD j 0) (ys.getD j 0) = true
open Classical in
noncomputable def fitsToB (t : Ty) (xs ys : List Int) : Bool := decide (FitsTo t xs ys)
theorem fitsToB_yes {t : Ty} {xs ys : List Int} (h : FitsTo t xs ys) : fitsToB t xs ys = true := by unfold fitsToB; exact @decide_eq_true _ (Classical.propDecidable _) h
theorem fitsToB_no {t : Ty} {xs ys : List Int} (h : ¬ FitsTo t xs ys) : fitsToB t xs ys = false := by unfold fitsToB; exact @decide_eq_false _ (Classical.propDecidable _) h
theorem fitsToB_iff {t : Ty} {xs ys : List Int} : fitsToB t xs ys = true ↔ FitsTo t xs ys := by unfold fitsToB; exact @decide_eq_true_iff _ (Classical.propDecidable _)
theorem typesB_mk {t : Ty} {a b : Int} (h : tyOk t = true) (ha : 0 ≤ a ∧ a < t.sizes.length) (hb : 0 ≤ b ∧ b < t.sizes.length) : typesB t a b = true := by
  simp [typesB, h, ixB, ha, hb]

set_option maxRecDepth 100000 in
set_option maxHeartbeats 4000000 in
theorem l4Fits_any (lo hi lo1 hi1 lo2 hi2 : Nat) (sv cv xv yv : Value) (t : Ty) (xs ys : List Int) (w : World) (hv : TyAt w lo hi sv cv t) (hx : IntsAt w lo1 hi1 xv xs) (hy : IntsAt w lo2 hi2 yv ys) (hB : hi ≤ w.heap.size) (hB1 : hi1 ≤ w.heap.size) (hB2 : hi2 ≤ w.heap.size) (hok : tyOk t = true)
    (hxs : ∀ j, ∀ (hj : j < xs.length), 0 ≤ xs[j] ∧ xs[j] < t.sizes.length) (hys : ∀ j, ∀ (hj : j < ys.length), 0 ≤ ys[j] ∧ ys[j] < t.sizes.length) :
    Calls Tryz.prog 124 #[.agg #[sv, cv], xv, yv] w fun e w' => e = .returned (.bool (fitsToB t xs ys)) ∧ Below w.heap.size w w' := by
  obtain ⟨A, cap, rfl, hl1, hm1, hi0⟩ := hv.1.form
  obtain ⟨B, bap, rfl, hl2, hm2, hc0⟩ := hv.2.form
  obtain ⟨X, xap, rfl, hlx, hmx, hx1⟩ := hx.form
  obtain ⟨Y, yap, rfl, hly, hmy, hy1⟩ := hy.form
  unfold maxLen at hmx hmy
  have hT : TyAt w lo hi (.slice A t.sizes.length cap) (.slice B t.cos.length bap) t := ⟨hi0, hc0⟩
  have h3 : Below w.heap.size w (w.alloc (.cells #[.slice A t.sizes.length cap, .slice B t.cos.length bap] 33)) := by go_grown
  have HT := Lib.hid hT
  have Hx := Lib.hid hx1
  have Hy := Lib.hid hy1
  have Hxs := Lib.hid hxs
  have Hys := Lib.hid hys
  clear hv hx hy hi0 hc0 hx1 hy1 hT hxs hys
  go_enter Tryz.func124, Tryz.ntmps124
  go_wp2
  · rename_i hmin
    obtain ⟨wb, hwb⟩ : ∃ wb, wb = w.alloc (.cells #[.slice A t.sizes.length cap, .slice B t.cos.length bap] 33) := ⟨_, rfl⟩
    have hrow : Row wb w.heap.size 33 [.slice A t.sizes.length cap, .slice B t.cos.length bap] := by rw [hwb]; exact Row.new _ _ _
    have hbb : Below w.heap.size w wb := by rw [hwb]; exact h3
    have HTb := Lib.hid (HT.out.below hbb hB)
    have Hxb := Lib.hid (Hx.out.below hbb hB1)
    have Hyb := Lib.hid (Hy.out.below hbb hB2)
    have Hrow := Lib.hid hrow
    have Hbb := Lib.hid hbb
    have Hsz := Lib.hid hbb.size
    rw [← hwb]
    clear h3 hrow hbb hwb
    go_loopw [13] (fun i wr => ∃ k : Nat, k ≤ ys.length ∧ i = .int .i64 k ∧ Hid (Below wb.heap.size wb wr) ∧ Hid (∀ j, j < k → canB t (xs.getD j 0) (ys.getD j 0) = true)) (fun i _ => ys.length - (intOf i).toNat)
    case atStart => exact ⟨0, Nat.zero_le _, rfl, Below.refl _ _, fun j hj => absurd hj (by omega)⟩
    case round =>
      obtain ⟨k, hk, rfl, hbr, hok2⟩ := hrel
      have hsr := hbr.out.size
      have HbW : Hid (Below w.heap.size w wr) := Hbb.out.trans (hbr.out.mono Hsz.out)
      have hBr : hi ≤ wr.heap.size := by have := Hsz.out; omega
      have hBr1 : hi1 ≤ wr.heap.size := by have := Hsz.out; omega
      have hBr2 : hi2 ≤ wr.heap.size := by have := Hsz.out; omega
      by_cases hkl : k < ys.length
      · have hkx : k < xs.length := by omega
        have hky : k < ys.length := by omega
        have q0 := (Hrow.out.below hbr.out Hrow.out.lt).cell 0
        have q1 := (Hrow.out.below hbr.out Hrow.out.lt).cell 1
        simp only [List.getElem?_cons_zero, List.getElem?_cons_succ] at q0 q1
        have hls : w.heap.size < wr.heap.size := Nat.lt_of_lt_of_le Hrow.out.lt hsr
        obtain ⟨b1, o1, rfl, _, hb1, e0, _⟩ := (Hxb.out.below hbr.out (by have := Hsz.out; omega)).at_ hkx
        obtain ⟨b2, o2, rfl, _, hb2, e1, _⟩ := (Hyb.out.below hbr.out (by have := Hsz.out; omega)).at_ hky
        have htb := Lib.hid (typesB_mk hok (Hxs.out k hkx) (Hys.out k hky))
        have HTr := Lib.hid (HTb.out.below hbr.out (by have := Hsz.out; omega))
        have hg : Hid (canB t (xs.getD k 0) (ys.getD k 0) = canB t xs[k] ys[k]) := by show _ = _; rw [getD_of hkx, getD_of hky]
        have k0 : ∀ z : InC (Below wr.heap.size wr), z.val.cell? ⟨w.heap.size, 0, none⟩ = some (.slice A t.sizes.length cap) := fun z => (z.inD.cell (p := ⟨w.heap.size, 0, none⟩) (by dsimp only; omega)).trans q0
        have k1 : ∀ z : InC (Below wr.heap.size wr), z.val.cell? ⟨w.heap.size, 1, none⟩ = some (.slice B t.cos.length bap) := fun z => (z.inD.cell (p := ⟨w.heap.size, 1, none⟩) (by dsimp only; omega)).trans q1
        have k2 : ∀ z : InC (Below wr.heap.size wr), z.val.cell? ⟨b1, o1 + k, none⟩ = some (.int .i64 xs[k]) := fun z => (z.inD.cell (p := ⟨b1, o1 + k, none⟩) (by dsimp only; omega)).trans e0
        have k3 : ∀ z : InC (Below wr.heap.size wr), z.val.cell? ⟨b2, o2 + k, none⟩ = some (.int .i64 ys[k]) := fun z => (z.inD.cell (p := ⟨b2, o2 + k, none⟩) (by dsimp only; omega)).trans e1
        have hne : Nonempty (InC (Below wr.heap.size wr)) := ⟨⟨wr, Below.refl _ _⟩⟩
        have hkxI : (k : Int) < (xs.length : Int) := by omega
        have hkyI : (k : Int) < (ys.length : Int) := by omega
        clear q0 q1 e0 e1
        by_cases hc : canB t xs[k] ys[k] = true
        · have hok3 : Hid (∀ j, j < k + 1 → canB t (xs.getD j 0) (ys.getD j 0) = true) := fun j hj => by
            by_cases e : j = k
            · subst e; rw [hg.out]; exact hc
            · exact hok2.out j (by omega)
          have Hc := Lib.hid hc
          clear hc
          go_wp2_with fail
          refine wp_region_class (Below wr.heap.size wr) (by kernel_rfl) (by kernel_rfl) ((Below.refl _ _).drew) ?_
          repeat (go_big_quiet_step ((go_at_call 57; rename_i z; exact (l2Can_any lo hi _ _ t xs[k] ys[k] z.val (HTr.out.below z.inD hBr) (by have := z.inD.size; omega) htb.out).mono fun e w' ⟨he, hbx⟩ => ⟨by rw [he, Hc.out], ⟨_, z.inD.trans (hbx.mono z.inD.size)⟩, rfl⟩)))
          refine wpQuiet_nil ?_
          intro _ hw'
          obtain ⟨⟨wz, hbz⟩, rfl⟩ := hw'
          have Hbz := Lib.hid (hbr.out.trans (hbz.mono hsr))
          clear hbz
          go_wp2
          go_roundw
          case rel => exact ⟨k + 1, by omega, by go_num, Hbz.out, hok3⟩
          case measure => simp [intOf]; omega
        · have hcf : Hid (canB t xs[k] ys[k] = false) := by show _ = _; simpa using hc
          have H : Hid (fitsToB t xs ys = false) := fitsToB_no fun h => hc (by rw [← hg.out]; exact h.2 k hkx)
          clear hc
          go_wp2_with fail
          refine wp_region_class (Below wr.heap.size wr) (by kernel_rfl) (by kernel_rfl) ((Below.refl _ _).drew) ?_
          repeat (go_big_quiet_step ((go_at_call 57; rename_i z; exact (l2Can_any lo hi _ _ t xs[k] ys[k] z.val (HTr.out.below z.inD hBr) (by have := z.inD.size; omega) htb.out).mono fun e w' ⟨he, hbx⟩ => ⟨by rw [he, hcf.out], ⟨_, z.inD.trans (hbx.mono z.inD.size)⟩, rfl⟩)))
          refine wpQuiet_nil ?_
          intro _ hw'
          obtain ⟨⟨wz, hbz⟩, rfl⟩ := hw'
          have Hbz := Lib.hid (HbW.out.trans (hbz.mono HbW.out.size))
          clear hbz
          go_wp2
          go_ret
          exact ⟨ret_bool H.out.symm, Hbz.out⟩
      · obtain rfl : k = ys.length := by omega
        have H : Hid (fitsToB t xs ys = ((xs.length : Int) == (ys.length : Int))) := by
          show _ = _
          rw [Bool.eq_iff_iff, fitsToB_iff, beq_iff_eq]
          exact ⟨fun h => by have := h.1; omega, fun h => ⟨by omega, fun j hj => hok2.out j (by omega)⟩⟩
        go_wp2
        go_ret
        exact ⟨ret_bool H.out.symm, HbW.out⟩
  · rename_i hmin
    obtain ⟨wb, hwb⟩ : ∃ wb, wb = w.alloc (.cells #[.slice A t.sizes.length cap, .slice B t.cos.length bap] 33) := ⟨_, rfl⟩
    have hrow : Row wb w.heap.size 33 [.slice A t.sizes.length cap, .slice B t.cos.length bap] := by rw [hwb]; exact Row.new _ _ _
    have hbb : Below w.heap.size w wb := by rw [hwb]; exact h3
    have HTb := Lib.hid (HT.out.below hbb hB)
    have Hxb := Lib.hid (Hx.out.below hbb hB1)
    have Hyb := Lib.hid (Hy.out.below hbb hB2)
    have Hrow := Lib.hid hrow
    have Hbb := Lib.hid hbb
    have Hsz := Lib.hid hbb.size
    rw [← hwb]
    clear h3 hrow hbb hwb
    go_loopw [13] (fun i wr => ∃ k : Nat, k ≤ xs.length ∧ i = .int .i64 k ∧ Hid (Below wb.heap.size wb wr) ∧ Hid (∀ j, j < k → canB t (xs.getD j 0) (ys.getD j 0) = true)) (fun i _ => xs.length - (intOf i).toNat)
    case atStart => exact ⟨0, Nat.zero_le _, rfl, Below.refl _ _, fun j hj => absurd hj (by omega)⟩
    case round =>
      obtain ⟨k, hk, rfl, hbr, hok2⟩ := hrel
      have hsr := hbr.out.size
      have HbW : Hid (Below w.heap.size w wr) := Hbb.out.trans (hbr.out.mono Hsz.out)
      have hBr : hi ≤ wr.heap.size := by have := Hsz.out; omega
      have hBr1 : hi1 ≤ wr.heap.size := by have := Hsz.out; omega
      have hBr2 : hi2 ≤ wr.heap.size := by have := Hsz.out; omega
      by_cases hkl : k < xs.length
      · have hkx : k < xs.length := by omega
        have hky : k < ys.length := by omega
        have q0 := (Hrow.out.below hbr.out Hrow.out.lt).cell 0
        have q1 := (Hrow.out.below hbr.out Hrow.out.lt).cell 1
        simp only [List.getElem?_cons_zero, List.getElem?_cons_succ] at q0 q1
        have hls : w.heap.size < wr.heap.size := Nat.lt_of_lt_of_le Hrow.out.lt hsr
        obtain ⟨b1, o1, rfl, _, hb1, e0, _⟩ := (Hxb.out.below hbr.out (by have := Hsz.out; omega)).at_ hkx
        obtain ⟨b2, o2, rfl, _, hb2, e1, _⟩ := (Hyb.out.below hbr.out (by have := Hsz.out; omega)).at_ hky
        have htb := Lib.hid (typesB_mk hok (Hxs.out k hkx) (Hys.out k hky))
        have HTr := Lib.hid (HTb.out.below hbr.out (by have := Hsz.out; omega))
        have hg : Hid (canB t (xs.getD k 0) (ys.getD k 0) = canB t xs[k] ys[k]) := by show _ = _; rw [getD_of hkx, getD_of hky]
        have k0 : ∀ z : InC (Below wr.heap.size wr), z.val.cell? ⟨w.heap.size, 0, none⟩ = some (.slice A t.sizes.length cap) := fun z => (z.inD.cell (p := ⟨w.heap.size, 0, none⟩) (by dsimp only; omega)).trans q0
        have k1 : ∀ z : InC (Below wr.heap.size wr), z.val.cell? ⟨w.heap.size, 1, none⟩ = some (.slice B t.cos.length bap) := fun z => (z.inD.cell (p := ⟨w.heap.size, 1, none⟩) (by dsimp only; omega)).trans q1
        have k2 : ∀ z : InC (Below wr.heap.size wr), z.val.cell? ⟨b1, o1 + k, none⟩ = some (.int .i64 xs[k]) := fun z => (z.inD.cell (p := ⟨b1, o1 + k, none⟩) (by dsimp only; omega)).trans e0
        have k3 : ∀ z : InC (Below wr.heap.size wr), z.val.cell? ⟨b2, o2 + k, none⟩ = some (.int .i64 ys[k]) := fun z => (z.inD.cell (p := ⟨b2, o2 + k, none⟩) (by dsimp only; omega)).trans e1
        have hne : Nonempty (InC (Below wr.heap.size wr)) := ⟨⟨wr, Below.refl _ _⟩⟩
        have hkxI : (k : Int) < (xs.length : Int) := by omega
        have hkyI : (k : Int) < (ys.length : Int) := by omega
        clear q0 q1 e0 e1
        by_cases hc : canB t xs[k] ys[k] = true
        · have hok3 : Hid (∀ j, j < k + 1 → canB t (xs.getD j 0) (ys.getD j 0) = true) := fun j hj => by
            by_cases e : j = k
            · subst e; rw [hg.out]; exact hc
            · exact hok2.out j (by omega)
          have Hc := Lib.hid hc
          clear hc
          go_wp2_with fail
          refine wp_region_class (Below wr.heap.size wr) (by kernel_rfl) (by kernel_rfl) ((Below.refl _ _).drew) ?_
          repeat (go_big_quiet_step ((go_at_call 57; rename_i z; exact (l2Can_any lo hi _ _ t xs[k] ys[k] z.val (HTr.out.below z.inD hBr) (by have := z.inD.size; omega) htb.out).mono fun e w' ⟨he, hbx⟩ => ⟨by rw [he, Hc.out], ⟨_, z.inD.trans (hbx.mono z.inD.size)⟩, rfl⟩)))
          refine wpQuiet_nil ?_
          intro _ hw'
          obtain ⟨⟨wz, hbz⟩, rfl⟩ := hw'
          have Hbz := Lib.hid (hbr.out.trans (hbz.mono hsr))
          clear hbz
          go_wp2
          go_roundw
          case rel => exact ⟨k + 1, by omega, by go_num, Hbz.out, hok3⟩
          case measure => simp [intOf]; omega
        · have hcf : Hid (canB t xs[k] ys[k] = false) := by show _ = _; simpa using hc
          have H : Hid (fitsToB t xs ys = false) := fitsToB_no fun h => hc (by rw [← hg.out]; exact h.2 k hkx)
          clear hc
          go_wp2_with fail
          refine wp_region_class (Below wr.heap.size wr) (by kernel_rfl) (by kernel_rfl) ((Below.refl _ _).drew) ?_
          repeat (go_big_quiet_step ((go_at_call 57; rename_i z; exact (l2Can_any lo hi _ _ t xs[k] ys[k] z.val (HTr.out.below z.inD hBr) (by have := z.inD.size; omega) htb.out).mono fun e w' ⟨he, hbx⟩ => ⟨by rw [he, hcf.out], ⟨_, z.inD.trans (hbx.mono z.inD.size)⟩, rfl⟩)))
          refine wpQuiet_nil ?_
          intro _ hw'
          obtain ⟨⟨wz, hbz⟩, rfl⟩ := hw'
          have Hbz := Lib.hid (HbW.out.trans (hbz.mono HbW.out.size))
          clear hbz
          go_wp2
          go_ret
          exact ⟨ret_bool H.out.symm, Hbz.out⟩
      · obtain rfl : k = xs.length := by omega
        have H : Hid (fitsToB t xs ys = ((xs.length : Int) == (ys.length : Int))) := by
          show _ = _
          rw [Bool.eq_iff_iff, fitsToB_iff, beq_iff_eq]
          exact ⟨fun h => by have := h.1; omega, fun h => ⟨by omega, fun j hj => hok2.out j (by omega)⟩⟩
        go_wp2
        go_ret
        exact ⟨ret_bool H.out.symm, HbW.out⟩
end Go.Proofs.YtnmbjmocnafekaaGreatDoor

namespace Go.Proofs.YtnmbjmocnafekaaGreatDoor
open Go.RowKit

theorem findOk_two {t : Ty} {a b : Int} : findOk t [a, b] = typesB t a b := by simp [findOk, typesB, Bool.and_assoc]
theorem ints_two (w : World) (a b : Int) (ha : I64 a) (hb : I64 b) (t : TypeId) : IntsAt (w.alloc (.cells #[.int .i64 a, .int .i64 b] t)) w.heap.size (w.heap.size + 1) (.slice (some ⟨w.heap.size, 0, none⟩) 2 2) [a, b] :=
  (show Row (w.alloc (.cells #[.int .i64 a, .int .i64 b] t)) w.heap.size t ([a, b].map (Value.int .i64)) from Row.new w t [.int .i64 a, .int .i64 b]).ints (fun x hx => by
    simp only [List.mem_cons, List.not_mem_nil, or_false] at hx
    rcases hx with rfl | rfl
    · exact ha
    · exact hb) (Nat.le_refl _) (by omega) (Nat.le_refl _) (by unfold maxLen; simp)
end Go.Proofs.YtnmbjmocnafekaaGreatDoor

namespace Go.Proofs.YtnmbjmocnafekaaGreatDoor
open Go.RowKit
attribute [local go_sem] Oper.semAt_some

/-- The first one of the shortest. -/
def pickS : Option (List Int) → List Int → Option (List Int)
  | none, z => some z
  | some y, z => if z.length < y.length then some z else some y
def shortO (s : List (List Int)) : Option (List Int) := s.foldl pickS none
theorem shortO_nil : shortO [] = none := rfl
theorem shortO_snoc (s : List (List Int)) (z : List Int) : shortO (s ++ [z]) = pickS (shortO s) z := by simp [shortO, List.foldl_append]
theorem pickS_some (y z : List Int) : ∃ x, pickS (some y) z = some x ∧ (x = y ∨ x = z) := by
  by_cases h : z.length < y.length
  · exact ⟨z, by simp [pickS, h], .inr rfl⟩
  · exact ⟨y, by simp [pickS, h], .inl rfl⟩
theorem foldS (s : List (List Int)) : ∀ y, ∃ x, s.foldl pickS (some y) = some x ∧ (x = y ∨ x ∈ s) := by
  induction s with
  | nil => intro y; exact ⟨y, rfl, .inl rfl⟩
  | cons z s ih =>
    intro y
    obtain ⟨u, hu, hor⟩ := pickS_some y z
    obtain ⟨x, hx, hor2⟩ := ih u
    refine ⟨x, by rw [List.foldl_cons, hu]; exact hx, ?_⟩
    rcases hor2 with rfl | h
    · rcases hor with rfl | rfl
      · exact .inl rfl
      · exact .inr (by simp)
    · exact .inr (List.mem_cons_of_mem _ h)
theorem shortO_some (s : List (List Int)) (hs : s ≠ []) : ∃ y, shortO s = some y := by
  cases s with
  | nil => exact absurd rfl hs
  | cons z s =>
    obtain ⟨x, hx, _⟩ := foldS s z
    exact ⟨x, hx⟩
theorem shortO_mem (s : List (List Int)) (y : List Int) (h : shortO s = some y) : y ∈ s := by
  cases s with
  | nil => cases h
  | cons z s =>
    obtain ⟨x, hx, hor⟩ := foldS s z
    have h2 : s.foldl pickS (some z) = some y := h
    rw [hx] at h2
    simp only [Option.some.injEq] at h2
    subst h2
    rcases hor with rfl | h
    · simp
    · exact List.mem_cons_of_mem _ h
def shortV (t : Ty) (a b : Int) : List Int := if typesB t a b = true then (shortO (waysOf t a b)).getD [] else []
theorem shortV_yes {t : Ty} {a b : Int} (h : typesB t a b = true) : shortV t a b = (shortO (waysOf t a b)).getD [] := by unfold shortV; rw [if_pos h]
theorem shortV_no {t : Ty} {a b : Int} (h : typesB t a b = false) : shortV t a b = [] := by unfold shortV; rw [if_neg (by simp [h])]
theorem short_wf {t : Ty} (h : tyOk t = true) (a b : Int) (y : List Int) (hy : y ∈ waysOf t a b) : (∀ z ∈ y, I64 z) ∧ y.length ≤ 5 :=
  ⟨waysF_wf (tyOk_few h) 5 a b y hy, by have := waysF_short 5 a b y hy; omega⟩
theorem shortV_wf (t : Ty) (a b : Int) : (∀ z ∈ shortV t a b, I64 z) ∧ (shortV t a b).length ≤ 5 := by
  by_cases h : typesB t a b = true
  · rw [shortV_yes h]
    cases hs : shortO (waysOf t a b) with
    | none => exact ⟨fun z hz => absurd hz (by simp), by simp⟩
    | some y => exact short_wf (typesB_of h).1 a b y (shortO_mem _ y hs)
  · rw [shortV_no (by simpa using h)]
    exact ⟨fun z hz => absurd hz (by simp), by simp⟩

end Go.Proofs.YtnmbjmocnafekaaGreatDoor

