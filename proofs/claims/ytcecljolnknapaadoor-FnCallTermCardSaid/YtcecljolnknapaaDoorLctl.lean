/-
  The walk of the law FnCallTerm.
-/
import Derived.Test.YtcecljolnknapaaDoorDsz
import Derived.Test.YtcecljolnknapaaDoorDct
import Derived.Test.YtcecljolnknapaaDoorPti
import Derived.Test.YtcecljolnknapaaDoorCti
import Derived.Test.YtcecljolnknapaaDoorTrs
import Derived.Test.YtcecljolnknapaaDoorTrx
namespace Go.Proofs.YtcecljolnknapaaDoor
open Go.RowKit

theorem mk_text (n : UInt8) : ∀ {ts : List Tm}, ts.length ≤ 2 → tmT (mkCall n ts) = callL [n] (ts.map tmT) ∧ headT (mkCall n ts) = [n]
  | [], _ => ⟨rfl, rfl⟩
  | [a], _ => ⟨by simp [callL, mkCall, tmT, Lib.join_one], rfl⟩
  | [a, b], _ => ⟨by simp [callL, mkCall, tmT, Lib.join_cons, Lib.joinTail], rfl⟩
  | a :: b :: c :: r, h => absurd h (by simp)
theorem mk_ok {n : UInt8} (hn : isN n = true) : ∀ {ts : List Tm}, ts.length ≤ 2 → (∀ t ∈ ts, TmOk t) → TmOk (mkCall n ts)
  | [], _, _ => hn
  | [a], _, h => ⟨hn, h a (by simp)⟩
  | [a, b], _, h => ⟨hn, h a (by simp), h b (by simp)⟩
  | a :: b :: c :: r, h, _ => absurd h (by simp)
/-- A term called gives back its name and its arguments. -/
theorem call_back {nm : List UInt8} {ps : List (List UInt8)} {T : List UInt8} (h : callV nm ps = some T) : (parseT T).isSome = true ∧ headP T = nm ∧ partsP T = ps ∧ T.length ≤ 60 := by
  unfold callV at h
  split at h
  · rename_i hc
    simp only [Bool.and_eq_true] at hc
    obtain ⟨hv, hs⟩ := hc
    have hT := Option.some.inj h
    obtain ⟨ts, hps, hok⟩ := allV_terms hv
    have h2 : ts.length ≤ 2 := by
      by_cases hl : 2 < ps.length
      · rw [call_two hv hl] at hs; cases hs
      · rw [hps, List.length_map] at hl; omega
    obtain ⟨t, ht⟩ := Option.isSome_iff_exists.1 hs
    obtain ⟨ho, e, hl⟩ := parseT_tmT.1 ht
    have hm := mat_call nm ts hok
    rw [← hps, e] at hm
    obtain ⟨n, rfl, hn⟩ := mat_one ho hm
    have e2 := mk_text n h2
    have hp : parseT T = some (mkCall n ts) := parseT_tmT.2 ⟨mk_ok hn h2 hok, by rw [e2.1, ← hps, hT], by rw [← hT]; exact hl⟩
    exact ⟨by rw [hp]; rfl, by rw [headP_some hp, e2.2], by rw [partsP_call hp, partsT_mk n h2, hps], by rw [← hT]; exact hl⟩
  · cases h
theorem sum_bound {c : Nat} : ∀ {ps : List (List UInt8)}, (∀ p ∈ ps, p.length ≤ c) → (ps.map List.length).sum ≤ c * ps.length
  | [], _ => by simp
  | p :: r, h => by
    have h1 := h p (by simp)
    have h2 := sum_bound (c := c) (ps := r) fun q hq => h q (by simp [hq])
    simp only [List.map_cons, List.sum_cons, List.length_cons, Nat.mul_add, Nat.mul_one]
    omega

set_option maxRecDepth 100000 in
set_option maxHeartbeats 2000000 in
theorem lawCtl_walk (v : Value) (n : Nat) (a : Addr) (W : World) (hE : Ev W n a) (hn : n ≤ W.heap.size) (hv : CodeAt W W.heap.size v) :
    Calls Tryd.prog 14 #[v] W fun e W' => e = .returned (.bool true) ∧ Below W.heap.size W W' := by
  have HD := Lib.hid (drawCall_any v W hv)
  have HEv := Lib.hid hE
  obtain ⟨A, cl, cc, rfl, hcl, hcc, _⟩ := hv
  unfold maxLen at hcc
  clear hE
  by_cases hbig : 1048576 < cl
  · have h1 : (1048576 : Int) < (cl : Int) := by omega
    go_enter Tryd.func14, Tryd.ntmps14
    go_wp2
    go_ret
    exact ⟨rfl, Below.refl _ _⟩
  have h1 : ¬ (1048576 : Int) < (cl : Int) := by omega
  go_enter Tryd.func14, Tryd.ntmps14
  go_wp2_with fail
  refine HD.out.mono ?_
  rintro e w1 ⟨nm, ps, r, rfl, hnm, hst, h3, hpl, hb1⟩
  have HB1 := Lib.hid hb1
  have HS1 := Lib.hid hst
  have hbk : bulkS ps ≤ 1048576 := by have := sum_bound hpl; unfold bulkS; omega
  obtain ⟨RA, RC, hr, _⟩ := hst
  subst hr
  clear hb1 HD hpl
  have I0 : Hid (∀ u, Below W.heap.size W u → StrsAt u (.slice RA ps.length RC) ps → Calls Tryd.prog 30 #[.string (str nm), .slice RA ps.length RC] u fun e w' => e = optE (callV nm ps) ∧ Below u.heap.size u w') := fun u hb hs => implCall_any nm _ ps n a u (HEv.out.under hb) (Nat.le_trans hn hb.size) hs (by omega) hbk
  have S0 : Hid (∀ u, StrsAt u (.slice RA ps.length RC) ps → Calls Tryd.prog 28 #[.string (str nm), .slice RA ps.length RC] u fun e w' => e = optE (callV nm ps) ∧ Below u.heap.size u w') := fun u hs => specCall_any nm _ ps u hs (by omega) hbk
  cases hP : callV nm ps with
  | none =>
    rw [hP] at I0 S0
    have e0 : optE none = .returned (.tuple #[.string ⟨#[]⟩, .bool false]) := rfl
    rw [e0] at I0 S0
    clear hP e0
    have HC := Lib.hid (I0.out w1 HB1.out HS1.out)
    go_wp2_with fail
    refine HC.out.mono ?_
    rintro e w2 ⟨rfl, hb⟩
    have HB2 := Lib.hid (HB1.out.trans (hb.mono HB1.out.size))
    have HC2 := Lib.hid (S0.out w2 (HS1.out.below hb))
    clear hb HC
    go_wp2_with fail
    refine HC2.out.mono ?_
    rintro e w3 ⟨rfl, hb⟩
    have HB3 := Lib.hid (HB2.out.trans (hb.mono HB2.out.size))
    clear hb
    go_wp2
    go_ret
    exact ⟨rfl, HB3.out⟩
  | some T =>
    obtain ⟨p1, p2, p3, p4⟩ := call_back hP
    have hT1 : T.length ≤ 1048576 := by omega
    rw [hP] at I0 S0
    have e0 : optE (some T) = .returned (.tuple #[.string (str T), .bool true]) := rfl
    rw [e0] at I0 S0
    have V0 : Hid (∀ u, Below W.heap.size W u → Calls Tryd.prog 17 #[.string (str T)] u fun e w' => e = .returned (.bool true) ∧ Below u.heap.size u w') := fun u hb => (implTermValid_any T n a u (HEv.out.under hb) (Nat.le_trans hn hb.size) hT1).mono fun e w' h => ⟨by rw [h.1, p1], h.2⟩
    have H0 : Hid (∀ u, Below W.heap.size W u → Calls Tryd.prog 19 #[.string (str T)] u fun e w' => e = .returned (.string (str nm)) ∧ Below u.heap.size u w') := fun u hb => (implHead_any T n a u (HEv.out.under hb) (Nat.le_trans hn hb.size) hT1).mono fun e w' h => ⟨by rw [h.1, p2], h.2⟩
    have P0 : Hid (∀ u, Below W.heap.size W u → Calls Tryd.prog 21 #[.string (str T)] u fun e w' => ∃ v, e = .returned v ∧ w'.ownsRow u.heap.size 9 1 v ps.length (strVs ps) ∧ Below u.heap.size u w') := fun u hb => (implParts_any T n a u (HEv.out.under hb) (Nat.le_trans hn hb.size) hT1).mono fun e w' h => by rw [p3] at h; exact h
    clear hP e0 p1 p2 p3 p4
    have HC := Lib.hid (I0.out w1 HB1.out HS1.out)
    go_wp2_with fail
    refine HC.out.mono ?_
    rintro e w2 ⟨rfl, hb⟩
    have HB2 := Lib.hid (HB1.out.trans (hb.mono HB1.out.size))
    have HS2 := Lib.hid (HS1.out.below hb)
    have HC2 := Lib.hid (S0.out w2 HS2.out)
    clear hb HC HS1
    go_wp2_with fail
    refine HC2.out.mono ?_
    rintro e w3 ⟨rfl, hb⟩
    have HB3 := Lib.hid (HB2.out.trans (hb.mono HB2.out.size))
    have HS3 := Lib.hid (HS2.out.below hb)
    clear hb HC2 HS2
    go_wp2_with fail
    refine (P0.out w3 HB3.out).mono ?_
    rintro e w4 ⟨q, rfl, ho, hb⟩
    have HB4 := Lib.hid (HB3.out.trans (hb.mono HB3.out.size))
    have HS4 := Lib.hid (HS3.out.below hb)
    have HQ4 := Lib.hid (strsAt_own ho)
    obtain ⟨QA, QC, rfl⟩ := own_slice' ho
    clear hb ho HS3 P0 I0 S0
    go_wp2_with fail
    go_loopw [60] (fun i wr => ∃ k : Nat, k ≤ ps.length ∧ i = .int .i64 k ∧ wr = w4) (fun i _ => ps.length - (intOf i).toNat)
    case atStart => exact ⟨0, Nat.zero_le _, rfl, rfl⟩
    case round =>
      obtain ⟨k, hk, rfl, rfl⟩ := hrel
      by_cases hkl : k < ps.length
      · obtain ⟨B0, c0, e0, _, hc0⟩ := HS4.out
        obtain ⟨B1, c1, e1, _, hc1⟩ := HQ4.out
        obtain ⟨g, off, hA, _, hcs⟩ := hc0 (by omega)
        obtain ⟨g2, off2, hA2, _, hcs2⟩ := hc1 (by omega)
        simp only [Value.slice.injEq] at e0 e1
        obtain ⟨rfl, -, -⟩ := e0
        obtain ⟨rfl, -, -⟩ := e1
        subst hA; subst hA2
        have hck := hcs k hkl
        have hck2 := hcs2 k hkl
        obtain ⟨p, hp⟩ : ∃ p, p = ps[k] := ⟨_, rfl⟩
        rw [← hp] at hck hck2
        have hne : (p == p) = true := by simp
        have hne2 : (p != p) = false := by simp
        have t1 := str_tl p
        clear hp hcs hcs2 hc0 hc1 HS4 HQ4 V0 H0 HB1 HB2 HB3 HEv
        go_wp2
        go_roundw
        case rel => exact ⟨k + 1, by omega, by go_num, trivial⟩
        case measure => simp [intOf]; omega
      · have hke : k = ps.length := by omega
        have hki : ¬ ((k : Int) < (ps.length : Int)) := by omega
        clear hke
        go_wp2_with fail
        refine (V0.out _ HB4.out).mono ?_
        rintro e w5 ⟨rfl, hb⟩
        have HB5 := Lib.hid (HB4.out.trans (hb.mono HB4.out.size))
        clear hb
        go_wp2_with fail
        refine (H0.out w5 HB5.out).mono ?_
        rintro e w6 ⟨rfl, hb⟩
        have HB6 := Lib.hid (HB5.out.trans (hb.mono HB5.out.size))
        clear hb
        go_wp2
        go_ret
        exact ⟨rfl, HB6.out⟩
end Go.Proofs.YtcecljolnknapaaDoor
