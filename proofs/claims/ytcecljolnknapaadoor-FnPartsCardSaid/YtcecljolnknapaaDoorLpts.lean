/-
  The walk of the law FnParts.
-/
import Derived.Test.YtcecljolnknapaaDoorDsz
import Derived.Test.YtcecljolnknapaaDoorPti
import Derived.Test.YtcecljolnknapaaDoorCti
import Derived.Test.YtcecljolnknapaaDoorTrs
import Derived.Test.YtcecljolnknapaaDoorSh6
import Derived.Test.YtcecljolnknapaaDoorSe6
import Derived.Test.YtcecljolnknapaaDoorTrx
namespace Go.Proofs.YtcecljolnknapaaDoor
open Go.RowKit

set_option maxRecDepth 100000 in
set_option maxHeartbeats 1000000 in
theorem drawParts_any (v : Value) (w : World) (h : CodeAt w w.heap.size v) :
    Calls Tryd.prog 40 #[v] w fun e w' => ∃ M : List UInt8, e = .returned (.string (str M)) ∧ M.length ≤ 122 ∧ Below w.heap.size w w' := by
  have HO := Lib.hid (l13Open_any w.heap.size v w h (Nat.le_refl _))
  clear h
  go_enter Tryd.func40, Tryd.ntmps40
  go_wp2_with fail
  refine HO.out.mono ?_
  rintro e w1 ⟨rfl, hb, hs, hr⟩
  have HB := Lib.hid hb
  have HR := Lib.hid hr
  clear hb hr
  go_wp2_with fail
  refine (some_any w.heap.size 0 w1 HR.out (by omega)).mono ?_
  rintro e w2 ⟨M, rfl, hM, _, hk⟩
  have HB2 := Lib.hid (HB.out.trans (hk.below (Nat.le_refl _) (by omega)))
  clear hk
  go_wp2
  go_ret
  exact ⟨M, rfl, hM, HB2.out⟩

theorem bulk_parts {t : Tm} : bulkS ((partsT t).map tmT) ≤ (tmT t).length := by
  cases t with
  | lit k v => simp [partsT, bulkS]
  | c0 n => simp [partsT, bulkS]
  | c1 n a => simp [partsT, bulkS, tmT]; omega
  | c2 n a b => simp [partsT, bulkS, tmT]; omega
/-- What is known of a text that may be a term. -/
theorem parts_facts (L : List UInt8) : ∃ ts : List Tm, partsP L = ts.map tmT ∧ ts.length ≤ 2 ∧ (∀ k, ∀ h : k < ts.length, parseT (tmT ts[k]) = some ts[k] ∧ (tmT ts[k]).length ≤ 60) ∧
    ((headP L = [] ∧ ts = [] ∧ (litP L).2.2 = (parseT L).isSome) ∨
     (∃ nm, headP L = [nm] ∧ callV [nm] (ts.map tmT) = some L ∧ bulkS (ts.map tmT) ≤ 60 ∧ numP sizeT L = ((1 + (ts.map sizeT).sum : Nat) : Int) ∧ numP depthT L = (((ts.map depthT).foldl max 0 + 1 : Nat) : Int))) := by
  cases hp : parseT L with
  | none => exact ⟨[], by unfold partsP; rw [hp]; rfl, by simp, fun k h => absurd h (by simp), .inl ⟨headP_none hp, rfl, by rw [litP_none hp]; rfl⟩⟩
  | some t =>
    obtain ⟨ho, e, hl⟩ := parseT_tmT.1 hp
    rw [e] at hl
    have hps : ∀ k, ∀ h : k < (partsT t).length, parseT (tmT (partsT t)[k]) = some (partsT t)[k] ∧ (tmT (partsT t)[k]).length ≤ 60 := fun k h => by
      have h1 := partsT_len (List.getElem_mem h)
      exact ⟨parseT_tmT.2 ⟨partsT_ok ho (List.getElem_mem h), rfl, by omega⟩, by omega⟩
    refine ⟨partsT t, partsP_call hp, partsT_two t, hps, ?_⟩
    cases hc : isCallT t with
    | false => 
      refine .inl ⟨by rw [headP_some hp, (headT_call hc).1], (headT_call hc).2, ?_⟩
      rw [litP_some hp]
      cases t with
      | lit k v => rfl
      | c0 n => cases hc
      | c1 n a => cases hc
      | c2 n a b => cases hc
    | true =>
      obtain ⟨a, c, r, _, h2⟩ := tmT_second ho
      refine .inr ⟨a, by rw [headP_some hp, (h2 hc).1], ?_, by have := bulk_parts (t := t); omega, by rw [numP_some _ hp, size_sum], by rw [numP_some _ hp, depth_max t hc]⟩
      have h3 := call_tmT hc
      rw [(h2 hc).1] at h3
      unfold callV
      rw [h3, ← e, hp]
      have hv : allV ((partsT t).map tmT) = true := by
        unfold allV
        rw [List.all_eq_true]
        intro p hm
        obtain ⟨j, hj, rfl⟩ := List.getElem_of_mem hm
        rw [List.length_map] at hj
        rw [List.getElem_map, (hps j hj).1]
        rfl
      rw [hv]
      rfl

set_option maxRecDepth 100000 in
set_option maxHeartbeats 4000000 in
theorem lawPts_walk (v : Value) (n : Nat) (a : Addr) (W : World) (hE : Ev W n a) (hn : n ≤ W.heap.size) (hv : CodeAt W W.heap.size v) :
    Calls Tryd.prog 13 #[v] W fun e W' => e = .returned (.bool true) ∧ Below W.heap.size W W' := by
  have HD := Lib.hid (drawParts_any v W hv)
  have HEv := Lib.hid hE
  obtain ⟨A, cl, cc, rfl, hcl, hcc, _⟩ := hv
  unfold maxLen at hcc
  clear hE
  by_cases hbig : 1048576 < cl
  · have h1 : (1048576 : Int) < (cl : Int) := by omega
    go_enter Tryd.func13, Tryd.ntmps13
    go_wp2
    go_ret
    exact ⟨rfl, Below.refl _ _⟩
  · have h1 : ¬ (1048576 : Int) < (cl : Int) := by omega
    go_enter Tryd.func13, Tryd.ntmps13
    go_wp2_with fail
    refine HD.out.mono ?_
    rintro e w1 ⟨L, rfl, hL, hb1⟩
    have HB1 := Lib.hid hb1
    clear hb1 HD
    have hL1 : L.length ≤ 1048576 := by omega
    obtain ⟨ts, hts, h2, hk, hf⟩ := parts_facts L
    have hpl : (partsP L).length = ts.length := by rw [hts, List.length_map]
    have IA : Hid (∀ q : List UInt8, q.length ≤ 1048576 → ∀ u, Below W.heap.size W u → Calls Tryd.prog 17 #[.string (str q)] u fun e w' => e = .returned (.bool (parseT q).isSome) ∧ Below u.heap.size u w') := fun q hq u hb => implTermValid_any q n a u (HEv.out.under hb) (Nat.le_trans hn hb.size) hq
    have IS : Hid (∀ q : List UInt8, q.length ≤ 1048576 → ∀ u, Below W.heap.size W u → Calls Tryd.prog 32 #[.string (str q)] u fun e w' => e = .returned (.int .i64 (numP sizeT q)) ∧ Below u.heap.size u w') := fun q hq u hb => implSizeOf_any q n a u (HEv.out.under hb) (Nat.le_trans hn hb.size) hq
    have ID : Hid (∀ q : List UInt8, q.length ≤ 1048576 → ∀ u, Below W.heap.size W u → Calls Tryd.prog 34 #[.string (str q)] u fun e w' => e = .returned (.int .i64 (numP depthT q)) ∧ Below u.heap.size u w') := fun q hq u hb => implDepthOf_any q n a u (HEv.out.under hb) (Nat.le_trans hn hb.size) hq
    have IC : Hid (∀ (nm : List UInt8) (x : Value) (ps : List (List UInt8)) (u : World), Below W.heap.size W u → StrsAt u x ps → nm.length ≤ 1048576 → bulkS ps ≤ 1048576 → Calls Tryd.prog 30 #[.string (str nm), x] u fun e w' => e = optE (callV nm ps) ∧ Below u.heap.size u w') := fun nm x ps u hb hs h1 h2 => implCall_any nm x ps n a u (HEv.out.under hb) (Nat.le_trans hn hb.size) hs h1 h2
    have IP : Hid (∀ u, Below W.heap.size W u → Calls Tryd.prog 21 #[.string (str L)] u fun e w' => ∃ v, e = .returned v ∧ w'.ownsRow u.heap.size 9 1 v (partsP L).length (strVs (partsP L)) ∧ Below u.heap.size u w') := fun u hb => implParts_any L n a u (HEv.out.under hb) (Nat.le_trans hn hb.size) hL1
    have SP : Hid (∀ u, Calls Tryd.prog 20 #[.string (str L)] u fun e w' => ∃ v, e = .returned v ∧ w'.ownsRow u.heap.size 9 1 v (partsP L).length (strVs (partsP L)) ∧ Below u.heap.size u w') := fun u => specParts_any L hL1 u
    have IH : Hid (∀ u, Below W.heap.size W u → Calls Tryd.prog 19 #[.string (str L)] u fun e w' => e = .returned (.string (str (headP L))) ∧ Below u.heap.size u w') := fun u hb => implHead_any L n a u (HEv.out.under hb) (Nat.le_trans hn hb.size) hL1
    have SH : Hid (∀ u, Calls Tryd.prog 18 #[.string (str L)] u fun e w' => e = .returned (.string (str (headP L))) ∧ u = w') := fun u => (specHead_any L hL1 u).mono fun e w' h => ⟨h.1, h.2.symm⟩
    have SV : Hid (∀ u, Calls Tryd.prog 16 #[.string (str L)] u fun e w' => e = .returned (.bool (parseT L).isSome) ∧ u = w') := fun u => (specTermValid_any L hL1 u).mono fun e w' h => ⟨h.1, h.2.symm⟩
    have IL : Hid (∀ u, Below W.heap.size W u → Calls Tryd.prog 26 #[.string (str L)] u fun e w' => e = .returned (.tuple #[.int .i64 (litP L).1, .int .i64 (litP L).2.1, .bool (litP L).2.2]) ∧ Below u.heap.size u w') := fun u hb => implLiteral_any L n a u (HEv.out.under hb) (Nat.le_trans hn hb.size) hL1
    have IV := Lib.hid (IA.out L hL1)
    have IS0 := Lib.hid (IS.out L hL1)
    have ID0 := Lib.hid (ID.out L hL1)
    obtain ⟨X, hX⟩ : ∃ X, X = headP L := ⟨_, rfl⟩
    obtain ⟨V, hV⟩ : ∃ V, V = (parseT L).isSome := ⟨_, rfl⟩
    obtain ⟨N, hN⟩ : ∃ N, N = numP sizeT L := ⟨_, rfl⟩
    obtain ⟨D, hD⟩ : ∃ D, D = numP depthT L := ⟨_, rfl⟩
    obtain ⟨l1, hl1⟩ : ∃ l1, l1 = (litP L).1 := ⟨_, rfl⟩
    obtain ⟨l2, hl2⟩ : ∃ l2, l2 = (litP L).2.1 := ⟨_, rfl⟩
    obtain ⟨l3, hl3⟩ : ∃ l3, l3 = (litP L).2.2 := ⟨_, rfl⟩
    rw [← hX] at IH SH hf
    rw [← hV] at IV SV hf
    rw [← hN] at IS0 hf
    rw [← hD] at ID0 hf
    rw [← hl1, ← hl2, ← hl3] at IL
    rw [← hl3] at hf
    have HF := Lib.hid hf
    have HK := Lib.hid hk
    clear hX hV hN hD hl1 hl2 hl3 hf hk
    go_wp2_with fail
    refine (IP.out w1 HB1.out).mono ?_
    rintro e w2 ⟨v0, rfl, ho0, hb⟩
    have hs0 := strsAt_own ho0
    rw [hts] at hs0
    obtain ⟨A0, C0, rfl⟩ := own_slice' ho0
    rw [hpl] at hs0
    have HS0 := Lib.hid hs0
    have HB2 := Lib.hid (HB1.out.trans (hb.mono HB1.out.size))
    rw [hpl]
    clear ho0 hb hs0
    go_wp2_with fail
    refine (SP.out w2).mono ?_
    rintro e w3 ⟨v1, rfl, ho1, hb⟩
    have hs1 := strsAt_own ho1
    rw [hts] at hs1
    obtain ⟨A1, C1, rfl⟩ := own_slice' ho1
    rw [hpl] at hs1
    have HS1 := Lib.hid hs1
    have HS2 := Lib.hid (HS0.out.below hb)
    have HB3 := Lib.hid (HB2.out.trans (hb.mono HB2.out.size))
    rw [hpl]
    clear ho1 hb hs1 HS0
    go_wp2_with fail
    refine (IH.out w3 HB3.out).mono ?_
    rintro e w4 ⟨rfl, hb⟩
    have HS3 := Lib.hid (HS1.out.below hb)
    have HS4 := Lib.hid (HS2.out.below hb)
    have HB4 := Lib.hid (HB3.out.trans (hb.mono HB3.out.size))
    clear hb HS1 HS2
    clear hpl hts
    have n0 : ((ts.length : Int) != (ts.length : Int)) = false := by simp
    go_wp2_with fail
    refine (SH.out w4).mono ?_
    rintro e w5 ⟨rfl, hw⟩
    subst hw
    go_wp2_with fail
    refine (IV.out w4 HB4.out).mono ?_
    rintro e w5 ⟨rfl, hb⟩
    have HS5 := Lib.hid (HS3.out.below hb)
    have HS6 := Lib.hid (HS4.out.below hb)
    have HB5 := Lib.hid (HB4.out.trans (hb.mono HB4.out.size))
    clear hb HS3 HS4
    go_wp2_with fail
    refine (SV.out w5).mono ?_
    rintro e w6 ⟨rfl, hw⟩
    subst hw
    go_wp2_with fail
    go_loopw [7, 8, 47] (fun l c i wr => ∃ k : Nat, k ≤ ts.length ∧ i = .int .i64 k ∧ ∃ s d : Nat, l = .int .i64 s ∧ c = .int .i64 d ∧ s ≤ 1 + 60 * k ∧ d ≤ 60 ∧ Hid (Below w5.heap.size w5 wr) ∧ Hid (s = 1 + ((ts.map sizeT).take k).sum ∧ d = ((ts.map depthT).take k).foldl max 0)) (fun _ _ i _ => ts.length - (intOf i).toNat)
    case atStart => exact ⟨0, Nat.zero_le _, rfl, 1, 0, rfl, rfl, by omega, by omega, Below.refl _ _, by show _ ∧ _; simp⟩
    case round =>
      obtain ⟨k, hk, rfl, s, d, rfl, rfl, hs, hd, hbr, hsd⟩ := hrel
      have hbw : Hid (Below W.heap.size W wr) := HB5.out.trans (hbr.out.mono HB5.out.size)
      by_cases hkl : k < ts.length
      · obtain ⟨B0, c0, e0, _, hc0⟩ := HS6.out
        obtain ⟨B1, c1, e1, _, hc1⟩ := HS5.out
        obtain ⟨g, off, hA, hgw, hcs⟩ := hc0 (by simp; omega)
        obtain ⟨g2, off2, hA2, hgw2, hcs2⟩ := hc1 (by simp; omega)
        simp only [Value.slice.injEq] at e0 e1
        obtain ⟨rfl, -, -⟩ := e0
        obtain ⟨rfl, -, -⟩ := e1
        subst hA; subst hA2
        have hck : wr.cell? ⟨g, off + k, none⟩ = some (.string (str (tmT ts[k]))) := by
          have h := (World.cell?_of_block (w := w5) (a := ⟨g, off + k, none⟩) (hbr.out.block g hgw)).trans (hcs k (by simp; omega))
          rw [List.getElem_map] at h
          exact h
        have hck2 : wr.cell? ⟨g2, off2 + k, none⟩ = some (.string (str (tmT ts[k]))) := by
          have h := (World.cell?_of_block (w := w5) (a := ⟨g2, off2 + k, none⟩) (hbr.out.block g2 hgw2)).trans (hcs2 k (by simp; omega))
          rw [List.getElem_map] at h
          exact h
        obtain ⟨hpk, hlk⟩ := HK.out k hkl
        have z1 := sizeT_le ts[k]
        have z2 := depthT_le ts[k]
        have hst : Hid (s + sizeT ts[k] = 1 + ((ts.map sizeT).take (k + 1)).sum ∧ max d (depthT ts[k]) = ((ts.map depthT).take (k + 1)).foldl max 0) := by
          show _ ∧ _
          rw [sum_take (by simpa using hkl), maxTo_take _ (by simpa using hkl), ← hsd.out.2]
          have h1 := hsd.out.1
          simp only [List.getElem_map]
          exact ⟨by omega, trivial⟩
        have T1 := Lib.hid (IA.out (tmT ts[k]) (by omega))
        have T2 := Lib.hid (IS.out (tmT ts[k]) (by omega))
        have T3 := Lib.hid (ID.out (tmT ts[k]) (by omega))
        rw [hpk] at T1
        rw [numP_some _ hpk] at T2 T3
        simp only [Option.isSome_some] at T1
        obtain ⟨p, hp⟩ : ∃ p, p = tmT ts[k] := ⟨_, rfl⟩
        obtain ⟨sk, hsk⟩ : ∃ sk, sk = sizeT ts[k] := ⟨_, rfl⟩
        obtain ⟨dk, hdk⟩ : ∃ dk, dk = depthT ts[k] := ⟨_, rfl⟩
        rw [← hp] at hck hck2 T1 T2 T3 z1 z2 hlk
        rw [← hsk] at T2 z1 hst
        rw [← hdk] at T3 z2 hst
        have hne : (p == p) = true := by simp
        have hne2 : (p != p) = false := by simp
        have t1 := str_tl p
        clear hp hsk hdk hpk hcs hcs2 hc0 hc1 hsd HF IS0 ID0 IP SP IH SH SV IL IV HS5 HS6 HB1 HB2 HB3 HB4 IA IS ID IC HK HEv
        go_wp2_with fail
        refine (T1.out _ hbw.out).mono ?_
        rintro e u1 ⟨rfl, hb⟩
        have HU1 := Lib.hid (hbr.out.trans (hb.mono hbr.out.size))
        clear hb
        go_wp2_with fail
        refine (T2.out u1 (HB5.out.trans (HU1.out.mono HB5.out.size))).mono ?_
        rintro e u2 ⟨rfl, hb⟩
        have HU2 := Lib.hid (HU1.out.trans (hb.mono HU1.out.size))
        clear hb
        go_wp2_with fail
        refine (T3.out u2 (HB5.out.trans (HU2.out.mono HB5.out.size))).mono ?_
        rintro e u3 ⟨rfl, hb⟩
        have HU3 := Lib.hid (HU2.out.trans (hb.mono HU2.out.size))
        clear hb
        go_wp2
        go_roundw
        case rel => exact ⟨k + 1, by omega, by go_num, s + sk, max d dk, by go_num, by go_num, by omega, by omega, HU3.out, hst.out⟩
        case measure => simp [intOf]; omega
      · have hke : k = ts.length := by omega
        have hki : ¬ ((k : Int) < (ts.length : Int)) := by omega
        have hsd2 := hsd.out
        rw [hke, List.take_of_length_le (by simp), List.take_of_length_le (by simp)] at hsd2
        have HSD := Lib.hid hsd2
        have HSr := Lib.hid (HS6.out.below hbr.out)
        clear hsd hsd2
        rcases HF.out with ⟨rfl, hnil, rfl⟩ | ⟨nm, rfl, hcv, hbk, rfl, rfl⟩
        · have e0 : str [] = (⟨#[]⟩ : ByteArray) := rfl
          have hl0 : (ts.length : Int) = 0 := by rw [hnil]; rfl
          clear HF
          rw [e0]
          go_wp2_with fail
          refine (IL.out wr hbw.out).mono ?_
          rintro e u1 ⟨rfl, hb⟩
          have HU1 := Lib.hid (hbw.out.trans (hb.mono hbw.out.size))
          clear hb
          go_wp2_with fail
          refine (IV.out u1 HU1.out).mono ?_
          rintro e u2 ⟨rfl, hb⟩
          have HU2 := Lib.hid (HU1.out.trans (hb.mono HU1.out.size))
          clear hb
          go_wp2
          go_ret
          exact ⟨ret_bool (by simp), HU2.out⟩
        · have e1 : (str [nm]).toList = [nm] := str_toList _
          have HC1 := Lib.hid (IC.out [nm] _ _ wr hbw.out HSr.out (by simp) (by omega))
          rw [hcv] at HC1
          rw [← HSD.out.1] at IS0
          rw [← HSD.out.2] at ID0
          clear HF hcv
          go_wp2_with fail
          refine HC1.out.mono ?_
          rintro e u1 ⟨rfl, hb⟩
          have HU1 := Lib.hid (hbw.out.trans (hb.mono hbw.out.size))
          clear hb
          go_wp2_with fail
          refine (IS0.out u1 HU1.out).mono ?_
          rintro e u2 ⟨rfl, hb⟩
          have HU2 := Lib.hid (HU1.out.trans (hb.mono HU1.out.size))
          clear hb
          go_wp2_with fail
          refine (ID0.out u2 HU2.out).mono ?_
          rintro e u3 ⟨rfl, hb⟩
          have HU3 := Lib.hid (HU2.out.trans (hb.mono HU2.out.size))
          clear hb
          go_wp2
          go_ret
          exact ⟨ret_bool (by simp), HU3.out⟩
end Go.Proofs.YtcecljolnknapaaDoor
