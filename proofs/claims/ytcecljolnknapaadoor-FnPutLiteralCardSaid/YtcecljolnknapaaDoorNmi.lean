/-
  The contracts of the program's namesIn, NamesIn.
-/
import Derived.Test.YtcecljolnknapaaDoorTrs
import Derived.Test.YtcecljolnknapaaDoorNmd
import Derived.Test.YtcecljolnknapaaDoorCti
import Derived.Test.YtcecljolnknapaaDoorLay2
import Derived.Lib.OwnBridge
import Derived.Laws.AppendOwnNone
namespace Go.Proofs.YtcecljolnknapaaDoor
open Go.RowKit Go.Sort

theorem nms_call {t : Tm} (h : isCallT t = true) : ∃ n, headT t = [n] ∧ nmsT t = n :: ((partsT t).map nmsT).flatten := by
  cases t with
  | lit k v => cases h
  | c0 n => exact ⟨n, rfl, rfl⟩
  | c1 n a => exact ⟨n, rfl, by simp [nmsT, partsT]⟩
  | c2 n a b => exact ⟨n, rfl, by simp [nmsT, partsT]⟩
/-- The names of the call and of its first k parts. -/
def accN (n : UInt8) (ts : List Tm) (k : Nat) : List UInt8 := n :: ((ts.take k).map nmsT).flatten
theorem accN_step (n : UInt8) (ts : List Tm) {k : Nat} (hk : k < ts.length) : accN n ts (k + 1) = accN n ts k ++ nmsT ts[k] := by
  unfold accN
  rw [List.take_succ_eq_append_getElem hk, List.map_append, List.flatten_append]
  simp
theorem accN_le (n : UInt8) (ts : List Tm) : ∀ k, (accN n ts k).length ≤ (accN n ts ts.length).length := by
  intro k
  unfold accN
  rw [List.take_length]
  have h : ((ts.take k).map nmsT).flatten.length ≤ (ts.map nmsT).flatten.length := by
    have e : ts.map nmsT = (ts.take k).map nmsT ++ (ts.drop k).map nmsT := by rw [← List.map_append, List.take_append_drop]
    rw [e, List.flatten_append, List.length_append]
    omega
  simp only [List.length_cons]
  omega
def oneV (ns : List UInt8) : List Value := ns.map fun c => Value.string (str (one c))
theorem oneV_len (ns : List UInt8) : (oneV ns).length = ns.length := by unfold oneV; rw [List.length_map]
theorem below_own3 {w w' w'' : World} {N : Nat} {t : TypeId} {v : Value} {n : Nat} {xs : List Value} (hb : Below N w w') (ho : w'.ownsRow N t 1 v n xs) (hg : w'.grownBy w'' v.ownBlock) (hs : N ≤ w'.heap.size) : Below N w w'' :=
  hb.grown hg hs (fun j hj => by
    obtain ⟨_, ⟨e, _⟩ | ⟨g, cap3, cur, e, hg', _⟩⟩ := ho
    · rw [e] at hj; simp [Value.ownBlock] at hj
    · rw [e] at hj; simp [Value.ownBlock] at hj; omega)

set_option maxRecDepth 100000 in
set_option maxHeartbeats 4000000 in
theorem names_any : ∀ (q : Nat) (t : Tm) (B : Nat) (o : Value) (w : World), (tmT t).length ≤ q → (tmT t).length ≤ 1048576 → NodeAt w B t o →
    Calls Tryd.prog 58 #[o] w fun e w' => ∃ v, e = .returned v ∧ w'.ownsRow w.heap.size 9 1 v (nmsT t).length (oneV (nmsT t)) ∧ Below w.heap.size w w' := by
  intro q
  induction q with
  | zero =>
    intro t B o w hq
    exact absurd hq (by cases t <;> simp [tmT])
  | succ q ih =>
    intro t B o w hq hm hnod
    have IH := Lib.hid ih
    clear ih
    have fC := asCC
    have fL := asLC
    cases hc : isCallT t with
    | false =>
      obtain ⟨k, v, rfl, rfl⟩ := hnod.lit hc
      clear hnod hc
      go_enter Tryd.func58, Tryd.ntmps58
      go_wp2
      go_ret
      exact ⟨_, rfl, ⟨by simp [oneV, nmsT], .inl ⟨rfl, rfl⟩⟩, Below.refl _ _⟩
    | true =>
      obtain ⟨i0, hi0, hz0, hz1, hz2⟩ := info_parts (show (Tryd.prog.info? 9).map (fun i => (i.zero, i.size, i.bytes)) = some (some (.string ⟨#[]⟩), 1, 16) by kernel_rfl)
      obtain ⟨nm, hnm, hnms⟩ := nms_call hc
      obtain ⟨ps, vs, rfl, hown, hnods⟩ := hnod.open hc
      obtain ⟨PA, PC, rfl⟩ := own_slice' hown
      obtain ⟨ts, hts⟩ : ∃ ts, ts = partsT t := ⟨_, rfl⟩
      have hall : Hid (∀ p ∈ ts, (tmT p).length + 3 ≤ (tmT t).length) := fun p hp => partsT_len (by rw [← hts]; exact hp)
      have hlen2 : ts.length ≤ 2 := by rw [hts]; exact partsT_two t
      have hfin : Hid (nmsT t = accN nm ts ts.length) := by show _ = _; rw [hnms, ← hts]; unfold accN; rw [List.take_length]
      have hnl := nmsT_len t
      rw [hfin.out] at hnl
      rw [hnm]
      rw [← hts] at hown hnods ⊢
      have Hown := Lib.hid hown
      have Hnods := Lib.hid hnods
      have r2 := Row.new w 52 [.string (str [nm]), .slice PA ts.length PC]
      have hbB : Below w.heap.size w (w.alloc (.cells #[.string (str [nm]), .slice PA ts.length PC] 52)) := (Below.refl _ _).alloc (Nat.le_refl _) _
      have hb0 : Below w.heap.size w ((w.alloc (.cells #[.string (str [nm]), .slice PA ts.length PC] 52)).alloc (.cells #[.string (str [nm])] 9)) := hbB.alloc hbB.size _
      have HB0 := Lib.hid hb0
      have Ho0 : Hid (((w.alloc (.cells #[.string (str [nm]), .slice PA ts.length PC] 52)).alloc (.cells #[.string (str [nm])] 9)).ownsRow w.heap.size 9 1 (.slice (some ⟨w.heap.size + 1, 0, none⟩) 1 1) 1 [.string (str [nm])]) := by
        have h := World.ownsRow_lit (e := 9) (size := 1) (base := w.heap.size) (w.alloc (.cells #[.string (str [nm]), .slice PA ts.length PC] 52)) #[.string (str [nm])] 1 (by rw [World.size_alloc]; omega) (by unfold maxLen; omega) rfl
        rw [World.size_alloc] at h
        exact h
      have m0 := r2.cell 0
      have m1 := r2.cell 1
      have m1b := (r2.alloc (.cells #[.string (str [nm])] 9)).cell 1
      simp only [List.getElem?_cons_zero, List.getElem?_cons_succ] at m0 m1 m1b
      clear hown hnods hnod hc hb0 r2 hts hnm hnms hbB
      go_enter Tryd.func58, Tryd.ntmps58
      go_wp2_with fail
      go_loopw [4, 18] (fun s i wr => ∃ k : Nat, k ≤ ts.length ∧ i = .int .i64 k ∧ Hid (Below w.heap.size w wr) ∧ Hid (wr.ownsRow w.heap.size 9 1 s (accN nm ts k).length (oneV (accN nm ts k)))) (fun _ i _ => ts.length - (intOf i).toNat)
      case atStart => exact ⟨0, Nat.zero_le _, rfl, HB0.out, Ho0.out⟩
      case round =>
        clear HB0 Ho0 m0 m1 m1b
        obtain ⟨k, hk, rfl, hbr, hor⟩ := hrel
        have hbs := hbr.out.size
        by_cases hkl : k < ts.length
        · obtain ⟨g, hPA, _, hgw, _, hcells⟩ := own_cells Hown.out (by omega)
          obtain ⟨v, hv, hnv⟩ := Hnods.out.at k hkl
          have hck : wr.cell? ⟨g, k, none⟩ = some v := (World.cell?_of_block (w := w) (hbr.out.block g hgw)).trans ((hcells k hkl).trans hv)
          have hpl := hall.out ts[k] (List.getElem_mem hkl)
          have HC := Lib.hid (IH.out ts[k] B v wr (by omega) (by omega) (hnv.same fun g _ hg => hbr.out.block g hg))
          have hstep := accN_step nm ts hkl
          have hle := accN_le nm ts (k + 1)
          rw [hstep] at hle
          subst hPA
          obtain ⟨ns, hns⟩ : ∃ ns, ns = nmsT ts[k] := ⟨_, rfl⟩
          obtain ⟨ac, hac⟩ : ∃ ac, ac = accN nm ts k := ⟨_, rfl⟩
          rw [← hns] at HC
          rw [← hns, ← hac] at hstep hle
          rw [← hac] at hor
          rw [List.length_append] at hle
          have Hstep := Lib.hid hstep
          have hoV : Hid (oneV ac ++ oneV ns = oneV (ac ++ ns)) := by show _ = _; unfold oneV; rw [List.map_append]
          clear hcells hv hnv hns hac hstep
          go_wp2_with fail
          refine HC.out.mono ?_
          rintro e w1 ⟨v1, rfl, ho1, hb1⟩
          have HB1 := Lib.hid (hbr.out.trans (hb1.mono hbs))
          have hs1 := HB1.out.size
          have Hor1 := Lib.hid (own_same hor.out fun g _ hg => hb1.block g hg)
          clear hb1
          have hform := ho1
          obtain ⟨hl1, ⟨rfl, hn0⟩ | ⟨g1, cap1, cur1, rfl, hg1, hh1, hc11, hc21, hcs1, htk1⟩⟩ := hform
          · have hns0 : ns = [] := List.eq_nil_of_length_eq_zero hn0
            subst hns0
            clear ho1 hl1
            go_wp2_with (at_builtin; refine wpList_append_own_none rfl (.tmp 22) (.tmp 24) 24 rfl w.heap.size 9 i0 1 Tryd.underlying24 hi0 _ _ _ rfl Hor1.out rfl ?_)
            go_wp2
            go_roundw
            case rel => exact ⟨k + 1, by omega, by go_num, HB1.out, by rw [Hstep.out, List.append_nil]; exact Hor1.out⟩
            case measure => simp [intOf]; omega
          · have hnw : ∀ j u, (oneV ns)[j]? = some u → w1.cell? ((⟨g1, 0, none⟩ : Addr).add j) = some u := fun j u hj => by
              have hjl : j < ns.length := by rw [← oneV_len]; exact (List.getElem?_eq_some_iff.1 hj).1
              obtain ⟨g2, hg2, _, _, _, hcl2⟩ := own_cells ho1 (by omega)
              injection hg2 with hg2
              injection hg2 with hg2
              subst hg2
              rw [Addr.add_lit, Nat.zero_add, hcl2 j hjl]
              exact hj
            have Hnw := Lib.hid hnw
            clear hnw ho1 hl1 hh1 hcs1 htk1
            go_wp2_with (at_builtin; refine wpList_append_own _ rfl (.tmp 22) (.tmp 24) 24 rfl w.heap.size 9 i0 (.string ⟨#[]⟩) 1 16 Tryd.underlying24 hi0 hz0 hz1 hz2 rfl (by decide) _ _ _ rfl Hor1.out ⟨g1, 0, none⟩ ns.length cap1 (oneV ns) rfl (by rw [oneV_len]; omega) ?d1 ?d2 ?d3 ?d4 ?d5 ?_)
            case d1 => exact Hnw.out
            case d2 => intro u hu; unfold oneV at hu; obtain ⟨c, _, rfl⟩ := List.mem_map.1 hu; rfl
            case d3 => unfold maxLen; omega
            case d4 => omega
            case d5 => exact hs1
            intro v2 w2 hown2 hgrow _
            have Hb2 := Lib.hid (below_own3 HB1.out Hor1.out hgrow hs1)
            have Hown2 := Lib.hid hown2
            clear hown2 hgrow
            go_wp2
            go_roundw
            case rel => exact ⟨k + 1, by omega, by go_num, Hb2.out, by rw [Hstep.out, List.length_append, ← hoV.out]; exact Hown2.out⟩
            case measure => simp [intOf]; omega
        · have hke : k = ts.length := by omega
          have hki : ¬ ((k : Int) < (ts.length : Int)) := by omega
          rw [hke, ← hfin.out] at hor
          go_wp2
          go_ret
          exact ⟨_, rfl, hor.out, hbr.out⟩

theorem below_grow_ahead {B : Nat} {a w : World} (h : Below B a w) (os : Array Obj) (hB : B ≤ w.heap.size) : Below B a (grow w os) :=
  h.trans ⟨rfl, rfl, rfl, by rw [size_grow]; omega, fun k hk => heap_grow_old w os (by omega)⟩
theorem oneV_enc (ns : List UInt8) : oneV ns = (ns.map one).map encStr := by unfold oneV; rw [List.map_map]; rfl

set_option maxRecDepth 100000 in
set_option maxHeartbeats 2000000 in
theorem implNames_any (l : List UInt8) (n : Nat) (a : Addr) (w : World) (hv : Ev w n a) (hn : n ≤ w.heap.size) (hm : l.length ≤ 1048576) :
    Calls Tryd.prog 36 #[.string (str l)] w fun e w' => e = .returned (.string (str (nmV l))) ∧ Below w.heap.size w w' := by
  have HR := Lib.hid (readTerm_any l n a w hv hn hm)
  clear hv
  go_enter Tryd.func36, Tryd.ntmps36
  go_wp2_with fail
  refine HR.out.mono ?_
  rintro e w1 ⟨⟨t, o, hp, rfl, hnod⟩ | ⟨hp, rfl⟩, hb⟩
  · have HB := Lib.hid hb
    have htl := (parseT_tmT.1 hp).2.1
    have HC := Lib.hid (names_any (tmT t).length t _ o w1 (Nat.le_refl _) (by rw [← htl]; exact hm) hnod)
    have hlen := nmsT_len t
    rw [← htl] at hlen
    have HS := Lib.hid (names_same hp)
    have HL : Hid (nmsT t = [] → nmV l = []) := fun h => by
      rw [← names_same hp, h]
      show Lib.join (Lib.compact (([] : List (List UInt8)).mergeSort fun x y => decide (x ≤ y))) [] = []
      rw [List.mergeSort_nil]
      rfl
    obtain ⟨ns, hns⟩ : ∃ ns, ns = nmsT t := ⟨_, rfl⟩
    rw [← hns] at HC hlen HS HL
    obtain ⟨X, hX⟩ : ∃ X, X = nmV l := ⟨_, rfl⟩
    have hX6 : Hid (X.length ≤ 6) := by
      rw [hX]
      show (nmV l).length ≤ 6
      unfold nmV
      split
      · exact List.length_filter_le _ _
      · simp
    rw [← hX] at HS HL
    have HX := Lib.hid hX
    clear hp hb hnod htl hns hX
    go_wp2_with fail
    refine HC.out.mono ?_
    rintro e w2 ⟨v, rfl, hown, hb2⟩
    have HB2 := Lib.hid (HB.out.trans (hb2.mono HB.out.size))
    have hs1 := HB.out.size
    obtain ⟨A, cap, rfl⟩ := own_slice' hown
    by_cases h0 : 0 < ns.length
    · rw [oneV_enc] at hown
      obtain ⟨g, cap', e1, hg1, hg2, hcap, _, _, hH⟩ := Lib.holds_of_ownsRow hown (by intro e; injection e with _ e _; omega)
      injection e1 with e1 _ e3
      subst e1; subst e3
      have hml : (ns.map one).length = ns.length := List.length_map _
      have hsort := Any.slices_Sort_string lays190 g 0 cap (ns.map one) w2 hH hg2 (by rw [hml]; omega)
      rw [hml] at hsort
      have Hsort := Lib.hid hsort
      have Hown := Lib.hid hown
      have HH := Lib.hid hH
      clear hown hb2 hH hsort
      go_wp2_with fail
      refine (show Calls Tryd.prog 59 #[.slice (some ⟨g, 0, none⟩) ns.length cap] w2 _ from Hsort.out).mono ?_
      rintro e w3 ⟨rfl, k, os, hw3⟩
      obtain ⟨S, hS⟩ : ∃ S, S = (ns.map one).mergeSort fun x y => decide (x ≤ y) := ⟨_, rfl⟩
      have hSl : S.length = ns.length := by rw [hS, List.length_mergeSort, List.length_map]
      have HS2 : Hid (Lib.join (Lib.compact S) [] = X) := by show _ = _; rw [hS]; exact HS.out
      rw [← hS] at hw3
      have hown3 := Lib.ownsRow_putRow (q := k) (k := ns.length) Hown.out hSl (Nat.le_refl _)
      rw [List.take_of_length_le (by omega)] at hown3
      have hown3' : w3.ownsRow w1.heap.size 9 1 (.slice (some ⟨g, 0, none⟩) ns.length cap) ns.length (S.map encStr) := by
        rw [hw3]
        exact own_same hown3 fun j _ hj => heap_grow_old _ _ hj
      have hb3 : Below w.heap.size w w3 := by
        rw [hw3]
        exact below_grow_ahead (Lib.below_putRow HB2.out (Nat.le_trans hs1 hg1)) _ (by rw [size_putRow]; exact HB2.out.size)
      obtain ⟨g', cap2, e1, _, hg3, _, _, _, hH3⟩ := Lib.holds_of_ownsRow hown3' (by intro e; injection e with _ e _; omega)
      injection e1 with e1 _ e3
      injection e1 with e1
      injection e1 with e1
      subst e1; subst e3
      have hcomp := Any.slices_Compact_string lays194 g 0 cap S w3 hH3 (by omega) (by omega)
      obtain ⟨Cs, hCs⟩ : ∃ Cs, Cs = Lib.compact S := ⟨_, rfl⟩
      rw [hSl, ← hCs] at hcomp
      have hcomp2 : Calls Tryd.prog 61 #[.slice (some ⟨g, 0, none⟩) ns.length cap] w3 (fun e w' => e = .returned (.slice (some ⟨g, 0, none⟩) Cs.length cap) ∧ ∃ q, w' = putRow encStr (Sort.ahead w3 q) g 0 (Cs ++ List.replicate (ns.length - Cs.length) []).toArray) := hcomp
      have Hcomp := Lib.hid hcomp2
      have Hown3 := Lib.hid hown3'
      have HB3 := Lib.hid hb3
      clear hS hw3 hown3 hown3' hb3 hH3 hcomp hcomp2 HH Hsort Hown HS
      go_wp2_with fail
      refine Hcomp.out.mono ?_
      rintro e w4 ⟨rfl, q, hw4⟩
      have hCl : Cs.length ≤ ns.length := by
        rw [hCs]
        unfold Lib.compact Lib.compactUpTo
        rw [List.length_map]
        refine Nat.le_trans (List.length_filter_le _ _) ?_
        rw [List.length_range]
        omega
      rw [← hCs] at HS2
      have hown4 := Lib.ownsRow_putRow (q := q) (k := Cs.length) (ys := Cs ++ List.replicate (ns.length - Cs.length) []) Hown3.out (by rw [List.length_append, List.length_replicate]; omega) hCl
      rw [List.take_left] at hown4
      rw [← hw4] at hown4
      have hb4 : Below w.heap.size w w4 := by
        rw [hw4]
        exact Lib.below_putRow HB3.out (Nat.le_trans hs1 hg1)
      have hst : StrsAt w4 (.slice (some ⟨g, 0, none⟩) Cs.length cap) Cs := strsAt_own (N := w1.heap.size) (t := 9) hown4
      have HJ : Hid (Calls Tryd.prog 60 #[.slice (some ⟨g, 0, none⟩) Cs.length cap, .string ⟨#[]⟩] w4 fun e w' => e = .returned (.string (str X)) ∧ Below w4.heap.size w4 w') := by
        obtain ⟨A5, c5, e5, hc5, hcel⟩ := hst
        injection e5 with e5 _ e6
        subst e5; subst e6
        show Calls _ _ _ _ _
        by_cases hz : 0 < Cs.length
        · obtain ⟨g5, off5, e7, hg5, hcs⟩ := hcel hz
          have hm : (Cs.map fun z => str z).map (·.data.toList) = Cs := by
            rw [List.map_map]
            simp [str, Function.comp_def]
          have hXl : X.length ≤ 6 := hX6.out
          have h := Any.strings_Join lays156 layJ g5 off5 cap (Cs.map fun z => str z) ⟨#[]⟩ w4 (fun j x hx => by
            rw [List.getElem?_map] at hx
            obtain ⟨z, hz, rfl⟩ := Option.map_eq_some_iff.1 hx
            obtain ⟨hj, rfl⟩ := List.getElem?_eq_some_iff.1 hz
            exact hcs j hj) hg5 (by rw [List.length_map]; omega) (by rw [List.length_map]; exact hc5) (by rw [hm]; show (Lib.join Cs []).length ≤ _; rw [HS2.out]; omega)
          rw [List.length_map, hm, ← e7] at h
          refine Calls.mono h ?_
          rintro e w' ⟨rfl, hb'⟩
          refine ⟨?_, hb'⟩
          show Ending.returned (.string ⟨(Lib.join Cs []).toArray⟩) = _
          rw [HS2.out]
          rfl
        · have e : Cs = [] := List.eq_nil_of_length_eq_zero (by omega)
          subst e
          refine (Any.strings_Join_none lays156 layJ _ cap ⟨#[]⟩ w4).mono ?_
          rintro e w' ⟨rfl, rfl⟩
          refine ⟨?_, Below.refl _ _⟩
          rw [← HS2.out]
          rfl
      have HB4 := Lib.hid hb4
      clear hw4 hown4 hb4 hst hCs Hcomp HS2 Hown3
      go_wp2_with fail
      refine HJ.out.mono ?_
      rintro e w5 ⟨rfl, hb5⟩
      have HB5 := Lib.hid (HB4.out.trans (hb5.mono HB4.out.size))
      clear hb5
      go_wp2
      go_ret
      exact ⟨by rw [HX.out]; rfl, HB5.out⟩
    · have e0 : ns = [] := List.eq_nil_of_length_eq_zero (by omega)
      subst e0
      have hX0 := Lib.hid (HL.out rfl)
      have Hs := Lib.hid (Any.slices_Sort_string_none lays190 A cap w2)
      have Hc := Lib.hid (Any.slices_Compact_string_empty lays194 A cap w2)
      have Hj := Lib.hid (Any.strings_Join_none lays156 layJ A cap ⟨#[]⟩ w2)
      clear hown hb2 HS HL hlen
      go_wp2_with fail
      refine (show Calls Tryd.prog 59 #[.slice A 0 cap] w2 _ from Hs.out).mono ?_
      rintro e w3 ⟨rfl, hw3⟩
      subst hw3
      go_wp2_with fail
      refine (show Calls Tryd.prog 61 #[.slice A 0 cap] w3 _ from Hc.out).mono ?_
      rintro e w4 ⟨rfl, hw4⟩
      subst hw4
      go_wp2_with fail
      refine (show Calls Tryd.prog 60 #[.slice A 0 cap, .string ⟨#[]⟩] w4 _ from Hj.out).mono ?_
      rintro e w5 ⟨rfl, hw5⟩
      subst hw5
      go_wp2
      go_ret
      exact ⟨by rw [← HX.out, hX0.out]; rfl, HB2.out⟩
  · have HP : Hid (nmV l = []) := by show _ = _; unfold nmV; rw [hp]; rfl
    have HB := Lib.hid hb
    clear hp hb
    go_wp2
    go_ret
    exact ⟨by rw [HP.out]; rfl, HB.out⟩
end Go.Proofs.YtcecljolnknapaaDoor
