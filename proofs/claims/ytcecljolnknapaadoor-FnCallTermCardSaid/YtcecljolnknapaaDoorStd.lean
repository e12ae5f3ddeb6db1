/-
  Rows of strings in memory; the contracts of the law's szStringS, toStringS, eqStringS.
-/
import Derived.Test.YtcecljolnknapaaDoorTmg
import Derived.Test.YtcecljolnknapaaDoorMem
import Derived.BigQuiet
namespace Go.Proofs.YtcecljolnknapaaDoor
open Go.RowKit

/-- A slice reads as texts. -/
def StrsAt (w : World) (v : Value) (ps : List (List UInt8)) : Prop := ∃ A c, v = .slice A ps.length c ∧ ps.length ≤ c ∧ (0 < ps.length → ∃ g off, A = some ⟨g, off, none⟩ ∧ g < w.heap.size ∧ ∀ j, ∀ hj : j < ps.length, w.cell? ⟨g, off + j, none⟩ = some (.string (str ps[j])))
theorem StrsAt.below {w w' : World} {v : Value} {ps : List (List UInt8)} (h : StrsAt w v ps) (hb : Below w.heap.size w w') : StrsAt w' v ps := by
  obtain ⟨A, c, e, hc, h⟩ := h
  refine ⟨A, c, e, hc, fun h0 => ?_⟩
  obtain ⟨g, off, e2, hg, hcell⟩ := h h0
  exact ⟨g, off, e2, Nat.lt_of_lt_of_le hg hb.size, fun j hj => (World.cell?_of_block (w := w) (hb.block g hg)).trans (hcell j hj)⟩
def strVs (ps : List (List UInt8)) : List Value := ps.map fun p => Value.string (str p)
theorem strsAt_own {w : World} {N : Nat} {t : TypeId} {v : Value} {ps : List (List UInt8)} (h : w.ownsRow N t 1 v ps.length (strVs ps)) : StrsAt w v ps := by
  obtain ⟨_, ⟨rfl, e⟩ | ⟨g, cap, cur, rfl, hg, hh, hc1, hc2, hcs, htake⟩⟩ := h
  · exact ⟨none, 0, by rw [e], by omega, fun h0 => by omega⟩
  · refine ⟨some ⟨g, 0, none⟩, cap, rfl, hc1, fun h0 => ⟨g, 0, rfl, ?_, fun j hj => ?_⟩⟩
    · rcases Nat.lt_or_ge g w.heap.size with h' | h'
      · exact h'
      · rw [Array.getElem?_eq_none h'] at hh; cases hh
    · have e : w.cell? ⟨g, 0 + j, none⟩ = cur[j]? := by simp [World.cell?, hh]
      rw [e]
      have e2 : cur[j]? = (cur.toList.take (ps.length * 1))[j]? := by
        rw [List.getElem?_take_of_lt (by omega)]
        simp
      rw [e2, htake]
      simp [strVs, hj]
theorem str_tl (l : List UInt8) : (str l).toList = l := ByteArray.toList_mk l
/-- How much texts are. -/
def bulkS (ps : List (List UInt8)) : Nat := ps.length + (ps.map List.length).sum
theorem sum_take_le' : ∀ (l : List Nat) (k : Nat), (l.take k).sum ≤ l.sum
  | [], k => by simp
  | a :: l, 0 => by simp
  | a :: l, k + 1 => by have := sum_take_le' l k; simp only [List.take_succ_cons, List.sum_cons]; omega
theorem sumlen_take {ps : List (List UInt8)} {k : Nat} (hk : k < ps.length) : ((ps.map List.length).take (k + 1)).sum = ((ps.map List.length).take k).sum + ps[k].length := by
  rw [List.take_succ_eq_append_getElem (by simpa using hk), List.sum_append]
  simp

set_option maxRecDepth 100000 in
set_option maxHeartbeats 2000000 in
theorem szStrs_any (v : Value) (ps : List (List UInt8)) (z : Int) (w : World) (hv : StrsAt w v ps) (hz : 0 ≤ z ∧ z ≤ 1048576) (hn : ps.length ≤ 9223372036854775807) (hl : ∀ p ∈ ps, p.length ≤ 9223372036854775807) :
    Calls Tryd.prog 27 #[v, .int .i64 z] w fun e w' => ∃ r : Int, e = .returned (.int .i64 r) ∧ (0 ≤ r → (bulkS ps : Int) ≤ z) ∧ w' = w := by
  obtain ⟨A, c, rfl, hcap, hcells⟩ := hv
  have HC := Lib.hid hcells
  have HL := Lib.hid hl
  obtain ⟨hz0, hz1⟩ := hz
  clear hcells hl
  go_enter Tryd.func27, Tryd.ntmps27
  have w0 : IntKind.i64.wrap (z - (ps.length : Int)) = z - (ps.length : Int) := by rw [IntKind.wrap_i64]; omega
  by_cases h0 : z - (ps.length : Int) < 0
  · go_wp2
    go_ret
    exact ⟨-1, rfl, fun h => absurd h (by decide), rfl⟩
  · go_wp2
    go_loopw [1, 5] (fun l i wr => ∃ k : Nat, k ≤ ps.length ∧ i = .int .i64 k ∧ wr = w ∧ ∃ y : Int, l = .int .i64 y ∧ 0 ≤ y ∧ y ≤ 1048576 ∧ Hid (y = z - (ps.length : Int) - (((ps.map List.length).take k).sum : Nat))) (fun _ i _ => ps.length - (intOf i).toNat)
    case atStart => exact ⟨0, Nat.zero_le _, rfl, rfl, _, rfl, by omega, by omega, by show _ = _; simp⟩
    case round =>
      obtain ⟨k, hk, rfl, rfl, y, rfl, hy0, hy1, hye⟩ := hrel
      by_cases hkl : k < ps.length
      · obtain ⟨g, off, hA, hgw, hcs⟩ := HC.out (by omega)
        subst hA
        have hck := hcs k hkl
        have hpl := HL.out ps[k] (List.getElem_mem hkl)
        have hss := str_size ps[k]
        have hst := Lib.hid (sumlen_take hkl)
        obtain ⟨q, hq⟩ : ∃ q, q = ps[k] := ⟨_, rfl⟩
        rw [← hq] at hck hpl hss hst
        have w1 : IntKind.i64.wrap (y - (q.length : Int)) = y - (q.length : Int) := by rw [IntKind.wrap_i64]; omega
        clear hcs hq
        by_cases hneg : y - (q.length : Int) < 0
        · go_wp2
          go_ret
          exact ⟨-1, rfl, fun h => absurd h (by decide), rfl⟩
        · go_wp2
          go_roundw
          case rel => exact ⟨k + 1, by omega, by go_num, trivial, _, rfl, by omega, by omega, by show _ = _; rw [hye.out, hst.out]; omega⟩
          case measure => simp [intOf]; omega
      · have hke : k = ps.length := by omega
        have hfin : Hid ((bulkS ps : Int) ≤ z) := by
          show _ ≤ _
          have h := hye.out
          rw [hke, List.take_of_length_le (by simp)] at h
          unfold bulkS
          omega
        have hki : ¬ ((k : Int) < (ps.length : Int)) := by omega
        go_wp2
        go_ret
        exact ⟨_, rfl, fun _ => hfin.out, rfl⟩

set_option maxRecDepth 100000 in
set_option maxHeartbeats 2000000 in
theorem toStrs_any (v : Value) (ps : List (List UInt8)) (w : World) (hv : StrsAt w v ps) (hn : ps.length ≤ 1048576) :
    Calls Tryd.prog 29 #[v] w fun e w' => ∃ v', e = .returned v' ∧ StrsAt w' v' ps ∧ Below w.heap.size w w' := by
  obtain ⟨A, c, rfl, hcap, hcells⟩ := hv
  have HC := Lib.hid hcells
  have hmk : Hid ((Instr.makeSlice 24 (.int .i64 ps.length) (.int .i64 ps.length)).run Tryd.prog w = .ok (.slice (some ⟨w.heap.size, 0, none⟩) ps.length ps.length) (w.alloc (.cells (List.replicate ps.length (Value.string ⟨#[]⟩)).toArray 9))) := by
    have hinfo : (Tryd.prog.info? 9).map (fun i => (i.zero, i.size, i.bytes)) = some (some (.string ⟨#[]⟩), 1, 16) := by kernel_rfl
    obtain ⟨i, hi, hz, hs, hy⟩ := info_parts hinfo
    have h := run_make (P := Tryd.prog) w 24 9 i _ Tryd.underlying24 hi hz .i64 .i64 (ps.length : Int) (ps.length : Int) (by omega) (Int.le_refl _) (by rw [hy]; omega) (by omega)
    simp only [Int.toNat_natCast, hs, Nat.mul_one] at h
    have e : (Value.string ⟨#[]⟩).cells = #[Value.string ⟨#[]⟩] := rfl
    rw [e, madeCells_one] at h
    exact h
  have HR : Hid (Row (w.alloc (.cells (List.replicate ps.length (Value.string ⟨#[]⟩)).toArray 9)) w.heap.size 9 (List.replicate ps.length (Value.string ⟨#[]⟩))) := Row.new _ _ _
  clear hcells
  go_enter Tryd.func29, Tryd.ntmps29
  go_wp2_with fail
  rw [hmk.out]
  go_wp2_with fail
  go_loopw [4] (fun i wr => ∃ k : Nat, k ≤ ps.length ∧ i = .int .i64 k ∧ Hid (Below w.heap.size w wr) ∧ Hid (∃ cs : List Value, cs.length = ps.length ∧ Row wr w.heap.size 9 cs ∧ ∀ j, j < k → ∀ (hj : j < ps.length), cs[j]? = some (.string (str ps[j])))) (fun i _ => ps.length - (intOf i).toNat)
  case atStart => exact ⟨0, Nat.zero_le _, rfl, (Below.refl _ w).alloc (Nat.le_refl _) _, _, by simp, HR.out, fun j hj => absurd hj (by omega)⟩
  case round =>
    obtain ⟨k, hk, rfl, hbr, hcs⟩ := hrel
    by_cases hkl : k < ps.length
    · obtain ⟨g, off, hA, hgw, hcel⟩ := HC.out (by omega)
      subst hA
      have hck0 : wr.cell? ⟨g, off + k, none⟩ = some (.string (str ps[k])) := (World.cell?_of_block (w := w) (hbr.out.block g hgw)).trans (hcel k hkl)
      obtain ⟨cs, hcl, hrow, hj⟩ := hcs.out
      have hf := hrow.frozen k
      have hck : wr.cell? ⟨w.heap.size, k, none⟩ = some cs[k] := hrow.cell_some (by omega)
      have Hrow := Lib.hid hrow
      have Hj := Lib.hid hj
      obtain ⟨q, hq⟩ : ∃ q, q = ps[k] := ⟨_, rfl⟩
      rw [← hq] at hck0
      have Hq := Lib.hid hq
      clear hrow hj hcs hcel hq
      go_wp2
      go_roundw
      case rel =>
        refine ⟨k + 1, by omega, by go_num, hbr.out.setCell (Nat.le_refl _) _, _, by rw [List.length_set]; exact hcl, Hrow.out.set_ k _, fun j hj1 hj2 => ?_⟩
        by_cases ej : j = k
        · subst ej
          rw [List.getElem?_set_self (by omega), Hq.out]
        · rw [List.getElem?_set_ne (fun h => ej h.symm)]
          exact Hj.out j (by omega) hj2
      case measure => simp [intOf]; omega
    · have hke : k = ps.length := by omega
      subst hke
      have hki : ¬ ((ps.length : Int) < (ps.length : Int)) := by omega
      have hres : Hid (StrsAt wr (.slice (some ⟨w.heap.size, 0, none⟩) ps.length ps.length) ps) := by
        obtain ⟨cs, hcl, hrow, hj⟩ := hcs.out
        refine ⟨_, _, rfl, Nat.le_refl _, fun _ => ⟨_, 0, rfl, Row.lt hrow, fun j hj2 => ?_⟩⟩
        rw [Nat.zero_add]
        exact (hrow.cell j).trans (hj j hj2 hj2)
      clear hcs
      go_wp2
      go_ret
      exact ⟨_, rfl, hres.out, hbr.out⟩

set_option maxRecDepth 100000 in
set_option maxHeartbeats 2000000 in
theorem eqStrs_any (v1 v2 : Value) (ps qs : List (List UInt8)) (w : World) (h1 : StrsAt w v1 ps) (h2 : StrsAt w v2 qs) (hn : ps.length ≤ 1048576) :
    Calls Tryd.prog 22 #[v1, v2] w fun e w' => e = .returned (.bool (decide (ps = qs))) ∧ Below w.heap.size w w' := by
  obtain ⟨A, c, rfl, hcap, hcells⟩ := h1
  obtain ⟨A2, c2, rfl, hcap2, hcells2⟩ := h2
  have HC := Lib.hid hcells
  have HC2 := Lib.hid hcells2
  clear hcells hcells2
  go_enter Tryd.func22, Tryd.ntmps22
  by_cases hlen : ps.length = qs.length
  · have n0 : ((ps.length : Int) != (qs.length : Int)) = false := by simp [hlen]
    go_wp2
    go_loopw [5] (fun i wr => ∃ k : Nat, k ≤ ps.length ∧ i = .int .i64 k ∧ Hid (∃ m, wr = w.drewN m) ∧ Hid (∀ j, ∀ (h1 : j < ps.length) (h2 : j < qs.length), j < k → ps[j] = qs[j])) (fun i _ => ps.length - (intOf i).toNat)
    case atStart => exact ⟨0, Nat.zero_le _, rfl, ⟨0, rfl⟩, fun j _ _ h => absurd h (by omega)⟩
    case round =>
      obtain ⟨k, hk, rfl, hwr, heq⟩ := hrel
      have hbw : Hid (Below w.heap.size w wr) := by obtain ⟨m, rfl⟩ := hwr.out; exact below_drewN (Below.refl _ _) m
      by_cases hkl : k < ps.length
      · obtain ⟨g, off, hA, hgw, hcs⟩ := HC.out (by omega)
        obtain ⟨g2, off2, hA2, hgw2, hcs2⟩ := HC2.out (by omega)
        subst hA; subst hA2
        have hck : wr.cell? ⟨g, off + k, none⟩ = some (.string (str ps[k])) := (World.cell?_of_block (w := w) (hbw.out.block g hgw)).trans (hcs k hkl)
        have hck2 : wr.cell? ⟨g2, off2 + k, none⟩ = some (.string (str (qs[k]'(by omega)))) := (World.cell?_of_block (w := w) (hbw.out.block g2 hgw2)).trans (hcs2 k (by omega))
        obtain ⟨p, hp⟩ : ∃ p, p = ps[k] := ⟨_, rfl⟩
        obtain ⟨q, hq⟩ : ∃ q, q = qs[k]'(by omega) := ⟨_, rfl⟩
        rw [← hp] at hck
        rw [← hq] at hck2
        have t1 := str_tl p
        have t2 := str_tl q
        have hk2 : (k : Int) < (qs.length : Int) := by omega
        by_cases hpq : p = q
        · have hnx : Hid (∀ j, ∀ (h1 : j < ps.length) (h2 : j < qs.length), j < k + 1 → ps[j] = qs[j]) := by
            intro j h1 h2 hj
            by_cases e : j = k
            · subst e; rw [← hp, ← hq, hpq]
            · exact heq.out j h1 h2 (by omega)
          have hne : (p == q) = true := by simpa using hpq
          have hne2 : (p != q) = false := by simp [bne, hne]
          subst hpq
          clear hcs hcs2 hp hq heq hbw
          go_wp2_with fail
          go_quiet (fail)
          go_wp2
          go_roundw
          case rel => exact ⟨k + 1, by omega, by go_num, (by show ∃ m, _ = _; obtain ⟨m, h⟩ := hwr.out; exact ⟨_, by rw [h]; exact World.drewN_drewN ..⟩), hnx.out⟩
          case measure => simp [intOf]; omega
        · have hno : Hid (¬ ps = qs) := by
            intro h
            apply hpq
            rw [hp, hq]
            subst h
            rfl
          have hne : (p == q) = false := by simpa using hpq
          have hne2 : (p != q) = true := by simp [bne, hne]
          clear hcs hcs2 hp hq heq hpq
          go_wp2_with fail
          go_quiet (fail)
          go_wp2
          go_ret
          exact ⟨ret_bool (by simpa using hno.out), below_drewN hbw.out _⟩
      · have hke : k = ps.length := by omega
        have hall : Hid (ps = qs) := List.ext_getElem hlen fun j h1 h2 => heq.out j h1 h2 (by omega)
        have hki : ¬ ((k : Int) < (ps.length : Int)) := by omega
        go_wp2
        go_ret
        exact ⟨ret_bool (by simpa using hall.out), hbw.out⟩
  · have n0 : ((ps.length : Int) != (qs.length : Int)) = true := by simp; omega
    have hne : Hid (¬ ps = qs) := fun h => hlen (by rw [h])
    go_wp2
    go_ret
    exact ⟨ret_bool (by simpa using hne.out), Below.refl _ _⟩
end Go.Proofs.YtcecljolnknapaaDoor
