/-
  The contract of the program's callsDiffer.
-/
import Derived.Test.YtfcekbjoagogdaaDoorIxn
import Derived.Test.YtfcekbjoagogdaaDoorSeq
import Derived.Sort.KeysCollected
namespace Go.Proofs.YtfcekbjoagogdaaDoor
open Go.RowKit Go.Maps
open Go.ChangeShapes (lits)

theorem ints_of_owns {w : World} {base : Nat} {v : Value} {zs : List Int} (h : w.ownsInts base 3 .i64 v zs) : IntsAt w base w.heap.size v zs := by
  obtain ⟨g, ho, hg⟩ := OwnI.of_owns h.1
  exact ho.ints (fun z hz => by have := h.2 z hz; simpa [Lit.wf, IntKind.min, IntKind.max, IntKind.signed, IntKind.bits, I64] using this) hg

/-- What is left when nothing else than the iterator has turned. -/
theorem ranges_of_heap {w w' : World} {k : TypeId} {R : Value → Option (DataW Unit × List MemPlace)} {b r n cnt : Nat} {D : DataW Unit} {left : Lit → Bool} (h : w.ranges Tryd.prog k R b r n D left cnt) (hh : w'.heap = w.heap) : w'.ranges Tryd.prog k R b r n D left cnt := by
  obtain ⟨es, clock, since, seen, c0, h1, h2, h3, h4, h5, h6⟩ := h
  exact ⟨es, clock, since, seen, c0, by rw [hh]; exact h1, h2, h3, h4, by rw [hh]; exact h5, h6⟩

set_option maxRecDepth 100000 in
set_option maxHeartbeats 4000000 in
theorem callsDiffer_any (lo hi : Nat) (v : Value) (fs : List Fu) (w : World) (hv : FusAt w lo hi v fs) (hB : hi ≤ w.heap.size) (hlen : fs.length ≤ 1048576) :
    Calls Tryd.prog 94 #[v] w fun e w' => e = .returned (.bool (differB fs)) ∧ Below w.heap.size w w' := by
  obtain ⟨F, cap, rfl, hl1, hm1, hv1⟩ := hv.form
  unfold maxLen at hm1
  have Hv := Lib.hid hv1
  clear hv hv1
  go_enter Tryd.func94, Tryd.ntmps94
  go_wp2_with fail
  refine (indicesByName_any lo hi _ fs w Hv.out hB hlen).mono ?_
  rintro e w1 ⟨D, rfl, hb1, hgrp, hown⟩
  have hmap : w1.ownsMap Tryd.prog 9 (rowElem w1 (w.heap.size + 1) 3 .i64) w.heap.size fs.length D := by
    obtain ⟨es, clock, h1, h2, h3, h4, _⟩ := hown
    exact ⟨es, clock, h1, h2, h3, h4⟩
  have Hgrp := Lib.hid hgrp
  have Hb1 := Lib.hid hb1
  clear hgrp hb1 hown
  go_wp2_with (first | (at_range; refine wpList_range_own _ rfl _ 136 rfl 9 22 lawStr Tryd.underlying136 _ w.heap.size fs.length D rfl hmap ?_; intro w2 hrg2 hg2 hs2) | go_in)
  go_frame
  have Hrg2 := Lib.hid hrg2
  have Hg2 := Lib.hid hg2
  clear hrg2 hg2 hs2 hmap
  go_loopw [12] (fun _ wr => ∃ left cnt, Hid (wr.ranges Tryd.prog 9 (rowElem w1 (w.heap.size + 1) 3 .i64) w.heap.size w1.heap.size fs.length D left cnt) ∧ Hid (Below w1.heap.size w1 wr) ∧
    Hid (∀ nm : ByteArray, nm.size ≤ maxLen → left (kN nm) = false → Parts fs (idxs fs fs.length nm))) (fun _ wr => wr.rangeLeft w.heap.size w1.heap.size)
  case atStart =>
    refine ⟨Maps.has D, Maps.size D, Hrg2.out, ⟨Hg2.out.os, Hg2.out.tape, Hg2.out.output, Hg2.out.size, fun k hk => Hg2.out.block k hk (by simp)⟩, fun nm hs hl a b ha _ => ?_⟩
    have hno : ¬ idxs fs fs.length nm ≠ [] := fun h => by rw [(Hgrp.out.has nm hs).2 h] at hl; cases hl
    have hnil : idxs fs fs.length nm = [] := Classical.not_not.1 hno
    rw [hnil] at ha
    cases ha
  case round =>
    obtain ⟨left, cnt, hrg, hb, hparts⟩ := hrel
    go_wp2_with (first | (at_next; refine wpList_next_ranges wr rfl _ rfl 9 lawStr (rowElem w1 (w.heap.size + 1) 3 .i64) encStr (fun v : Value => v) (fun key kl hk => by obtain ⟨x, hx, _⟩ := Maps.keyOf_str Tryd.underlying9 hk; exact ⟨x, hx⟩) (fun v y _ => ⟨v, rfl⟩) w.heap.size w1.heap.size fs.length D left cnt rfl hrg.out ?_ ?_) | go_in)
    · intro hc0 hl0
      have hyes : Hid (differB fs = true) := by
        show _ = _
        refine differB_yes (differ_of_parts fun nm hne => ?_)
        have hs : nm.size ≤ maxLen := by
          rcases hx : idxs fs fs.length nm with _ | ⟨z, r⟩
          · exact absurd hx hne
          · obtain ⟨i, hi, hn, _⟩ := idxs_mem.1 (show z ∈ idxs fs fs.length nm by rw [hx]; simp)
            obtain ⟨_, _, _, _, _, _, _, _, _, _, _, _, _, _, _, _, _, hfu⟩ := Hv.out.at_ hi
            rw [getD_of hi] at hn
            rw [← hn]; exact hfu.2.2.1
        exact hparts.out nm hs (hl0 _)
      have hbw := Lib.hid (Hb1.out.trans (hb.out.mono Hb1.out.size))
      clear hl0 hparts hrg hb
      go_wp2
      go_ret
      exact ⟨ret_bool hyes.out.symm, hbw.out⟩
    · intro x c kl yd yp w3 cnt2 hkey hlk hv hat hrg3 hlt hg3 hs3 hen
      obtain ⟨x', ex, rfl, hxl⟩ := Maps.keyOf_str Tryd.underlying9 hkey
      obtain rfl : x = x' := encStr_inj ex
      clear ex hkey
      have hkn : Lit.string x = kN ⟨x.toArray⟩ := by simp [kN]
      rw [hkn] at hat hlk hrg3
      have hsx : (⟨x.toArray⟩ : ByteArray).size ≤ maxLen := by simpa [ByteArray.size] using hxl
      obtain ⟨zs, ho, hyd⟩ := rowElem_inv hv
      have hyd1 : yd = rowDatum .i64 c zs := congrArg Prod.fst hyd
      have hzs := Hgrp.out.look hsx ho ((hat .nil).trans hyd1)
      have hzi := ints_of_owns ho
      have hb3 : Below w1.heap.size w1 w3 := ⟨hg3.os.trans hb.out.os, hg3.tape.trans hb.out.tape, hg3.output.trans hb.out.output, Nat.le_trans hb.out.size hg3.size, fun k hk => (hg3.block k (Nat.lt_of_lt_of_le hk hb.out.size) (by simp; omega)).trans (hb.out.block k hk)⟩
      obtain ⟨Z, zap, rfl, hlz, hmz, hz1⟩ := hzi.form
      have hz3 := Lib.hid (hz1.below hb3 (Nat.le_refl _))
      have hb03 : Hid (Below w.heap.size w w3) := Hb1.out.trans (hb3.mono Hb1.out.size)
      have hmeas : Hid (w3.rangeLeft w.heap.size w1.heap.size < wr.rangeLeft w.heap.size w1.heap.size) := by show _ < _; rw [hrg3.left_eq, hrg.out.left_eq]; exact hlt
      have Hzs := Lib.hid hzs
      have Hrg3 := Lib.hid hrg3
      have Hb3 := Lib.hid hb3
      have hparts2 : Hid (Parts fs (idxs fs fs.length ⟨x.toArray⟩) → ∀ nm : ByteArray, nm.size ≤ maxLen → (left (kN nm) && !(kN nm).sameKey (kN ⟨x.toArray⟩)) = false → Parts fs (idxs fs fs.length nm)) := by
        intro hP nm hs h
        by_cases e : kN nm = kN ⟨x.toArray⟩
        · rw [kN_inj e]; exact hP
        · rw [sameKey_ne e] at h
          exact hparts.out nm hs (by simpa using h)
      unfold maxLen at hmz
      clear hat hlk hv hyd hyd1 hzi ho hg3 hs3 hb3 hz1 hrg3 hzs hparts hrg hb hkn hsx hxl hlt
      generalize (⟨x.toArray⟩ : ByteArray) = nm at *
      go_wp2
      go_loopw [18] (fun i wm => ∃ n : Nat, n ≤ zs.length ∧ i = .int .i64 n ∧ Hid (∃ m, wm = w3.drewN m) ∧ Hid (∀ a b : Nat, a < n → b < a → (fs.getD (zs.getD a 0).toNat default).args ≠ (fs.getD (zs.getD b 0).toNat default).args)) (fun i _ => zs.length - (intOf i).toNat)
      case atStart => exact ⟨0, Nat.zero_le _, rfl, ⟨0, rfl⟩, fun a b h => absurd h (by omega)⟩
      case round =>
        obtain ⟨n, hn, rfl, hwm, hpre⟩ := hrel
        by_cases hln : n < zs.length
        · obtain ⟨gz, oz, rfl, _, _, cz, _⟩ := (show IntsAt wr _ _ _ zs from by obtain ⟨m, rfl⟩ := hwm.out; exact hz3.out).at_ (k := n) hln
          obtain ⟨i, hi, hni, ei⟩ := idxs_mem.1 (show zs[n] ∈ idxs fs fs.length nm by rw [← Hzs.out]; exact List.getElem_mem hln)
          rw [ei] at cz
          have Hei := Lib.hid ei
          have hlnI : (n : Int) < (zs.length : Int) := by omega
          clear ei
          go_wp2
          go_loopw [27] (fun q wi => ∃ j : Nat, j ≤ n ∧ q = .int .i64 j ∧ Hid (∃ m, wi = w3.drewN m) ∧ Hid (∀ b : Nat, b < j → (fs.getD (zs.getD n 0).toNat default).args ≠ (fs.getD (zs.getD b 0).toNat default).args)) (fun q _ => n - (intOf q).toNat)
          case atStart => exact ⟨0, Nat.zero_le _, rfl, hwm.out, fun b h => absurd h (by omega)⟩
          case round =>
            obtain ⟨j, hj, rfl, hwi, hpre2⟩ := hrel
            by_cases hlj : j < n
            · have hljz : j < zs.length := by omega
              obtain ⟨gz', oz', eZ, _, _, cz2, _⟩ := (show IntsAt wr _ _ _ zs from by obtain ⟨m, rfl⟩ := hwi.out; exact hz3.out).at_ (k := j) hljz
              obtain ⟨rfl, rfl⟩ : gz = gz' ∧ oz = oz' := by simpa using eZ
              obtain ⟨k, hk, hnk, ek⟩ := idxs_mem.1 (show zs[j] ∈ idxs fs fs.length nm by rw [← Hzs.out]; exact List.getElem_mem hljz)
              rw [ek] at cz2
              have Hek := Lib.hid ek
              clear ek eZ
              have hbw : Below w.heap.size w wr := by obtain ⟨m, rfl⟩ := hwi.out; exact below_drewN hb03.out m
              obtain ⟨b, off, A1, cap1, A2, cap2, rfl, _, _, c0, c1, c2, c3, _, _, _, _, hfi⟩ := (Hv.out.below hbw hB).at_ hi
              obtain ⟨b', off', A1', cap1', A2', cap2', eF, _, _, d0, d1, d2, d3, _, _, _, _, hfk⟩ := (Hv.out.below hbw hB).at_ hk
              obtain ⟨rfl, rfl⟩ : b = b' ∧ off = off' := by simpa using eF
              have hai := Lib.hid hfi.2.2.2.2.1
              have hak := Lib.hid hfk.2.2.2.2.1
              have hBw := Lib.hid (Nat.le_trans hB hbw.size)
              have Hgn : Hid ((fs.getD (zs.getD n 0).toNat default).args = fs[i].args) := by show _ = _; rw [getD_of hln, Hei.out, Int.toNat_natCast, getD_of hi]
              have Hgj : Hid ((fs.getD (zs.getD j 0).toNat default).args = fs[k].args) := by show _ = _; rw [getD_of hljz, Hek.out, Int.toNat_natCast, getD_of hk]
              have hljI : (j : Int) < (n : Int) := by omega
              have hiI : (i : Int) < (fs.length : Int) := by omega
              have hkI : (k : Int) < (fs.length : Int) := by omega
              clear hfi hfk eF c0 c2 c3 d0 d2 d3 hni hnk hbw
              by_cases he : fs[i].args = fs[k].args
              · have htest : Hid (decide (fs[i].args = fs[k].args) = true) := decide_eq_true he
                have hno : Hid (differB fs = false) := by
                  show _ = _
                  refine differB_no (not_differ (nm := nm) (a := n) (b := j) (by rw [← Hzs.out]; exact hln) hlj ?_)
                  rw [← Hzs.out, Hgn.out, Hgj.out]; exact he
                clear he
                go_wp2
                go_quiet ((first | (go_at_call 111; exact slicesEqual_quiet _ _ _ _ _ _ fs[i].args fs[k].args _ _ _ htest.out hai.out hak.out hBw.out hBw.out)))
                go_wp2
                go_ret
                exact ⟨ret_bool hno.out.symm, by obtain ⟨m, rfl⟩ := hwi.out; exact below_drewN (below_drewN hb03.out m) _⟩
              · have htest : Hid (decide (fs[i].args = fs[k].args) = false) := decide_eq_false he
                have hpre3 : Hid (∀ b : Nat, b < j + 1 → (fs.getD (zs.getD n 0).toNat default).args ≠ (fs.getD (zs.getD b 0).toNat default).args) := fun b hb => by
                  by_cases e : b = j
                  · subst e; rw [Hgn.out, Hgj.out]; exact he
                  · exact hpre2.out b (by omega)
                clear he
                go_wp2
                go_quiet ((first | (go_at_call 111; exact slicesEqual_quiet _ _ _ _ _ _ fs[i].args fs[k].args _ _ _ htest.out hai.out hak.out hBw.out hBw.out)))
                go_wp2
                go_roundw
                case rel => exact ⟨j + 1, by omega, by go_num, (by show ∃ m, _ = _; obtain ⟨m, rfl⟩ := hwi.out; exact ⟨_, World.drewN_drewN ..⟩), hpre3⟩
                case measure => simp [intOf]; omega
            · obtain rfl : j = n := by omega
              have hpre3 : Hid (∀ a b : Nat, a < j + 1 → b < a → (fs.getD (zs.getD a 0).toNat default).args ≠ (fs.getD (zs.getD b 0).toNat default).args) := fun a b ha hb => by
                by_cases e : a = j
                · subst e; exact hpre2.out b hb
                · exact hpre.out a b (by omega) hb
              go_wp2
              go_roundw
              case rel => exact ⟨j + 1, by omega, by go_num, hwi.out, hpre3⟩
              case measure => simp [intOf]; omega
        · obtain rfl : n = zs.length := by omega
          have hP : Hid (∀ m : ByteArray, m.size ≤ maxLen → (left (kN m) && !(kN m).sameKey (kN nm)) = false → Parts fs (idxs fs fs.length m)) := hparts2.out (by rw [← Hzs.out]; exact fun a b ha hb => hpre.out a b ha hb)
          have hrgw : Hid (wr.ranges Tryd.prog 9 (rowElem w1 (w.heap.size + 1) 3 .i64) w.heap.size w1.heap.size fs.length D (fun z => left z && !z.sameKey (kN nm)) cnt2) := by obtain ⟨m, rfl⟩ := hwm.out; exact ranges_of_heap Hrg3.out rfl
          have hbw : Hid (Below w1.heap.size w1 wr) := by obtain ⟨m, rfl⟩ := hwm.out; exact below_drewN Hb3.out m
          have hme : Hid (wr.rangeLeft w.heap.size w1.heap.size = w3.rangeLeft w.heap.size w1.heap.size) := by obtain ⟨m, rfl⟩ := hwm.out; rfl
          go_wp2
          go_roundw
          case rel => exact ⟨_, _, hrgw, hbw, hP⟩
          case measure => have h1 := hme.out; have h2 := hmeas.out; omega
end Go.Proofs.YtfcekbjoagogdaaDoor
