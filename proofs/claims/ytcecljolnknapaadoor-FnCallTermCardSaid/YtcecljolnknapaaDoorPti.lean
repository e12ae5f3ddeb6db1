/-
  The contracts of PartsOf on both sides; of the law's functions that mark rows of strings and look whether the marks hold.
-/
import Derived.Test.YtcecljolnknapaaDoorPto
import Derived.Test.YtcecljolnknapaaDoorSp6
import Derived.Test.YtcecljolnknapaaDoorMtext
namespace Go.Proofs.YtcecljolnknapaaDoor
open Go.RowKit

def partsP (L : List UInt8) : List (List UInt8) := (((parseT L).map partsT).getD []).map tmT
theorem partsP_call {L : List UInt8} {t : Tm} (h : parseT L = some t) : partsP L = (partsT t).map tmT := by unfold partsP; rw [h]; rfl
theorem partsP_no {L : List UInt8} (h : callP L = false) : partsP L = [] := by
  unfold partsP
  cases hp : parseT L with
  | none => rfl
  | some t =>
    rw [callP_some hp] at h
    show (partsT t).map tmT = []
    rw [(headT_call h).2]
    rfl
theorem partsP_two (L : List UInt8) : (partsP L).length ≤ 2 := by
  unfold partsP
  rw [List.length_map]
  cases parseT L with
  | none => simp
  | some t => exact partsT_two t
theorem strVs_map (ts : List Tm) : strVs (ts.map tmT) = strV ts := by unfold strVs strV; rw [List.map_map]; rfl

set_option maxRecDepth 100000 in
set_option maxHeartbeats 1000000 in
theorem implParts_any (l : List UInt8) (n : Nat) (a : Addr) (w : World) (hv : Ev w n a) (hn : n ≤ w.heap.size) (hm : l.length ≤ 1048576) :
    Calls Tryd.prog 21 #[.string (str l)] w fun e w' => ∃ v, e = .returned v ∧ w'.ownsRow w.heap.size 9 1 v (partsP l).length (strVs (partsP l)) ∧ Below w.heap.size w w' := by
  have HR := Lib.hid (readCall_any l n a w hv hn hm)
  clear hv
  go_enter Tryd.func21, Tryd.ntmps21
  go_wp2_with fail
  refine HR.out.mono ?_
  rintro e w1 ⟨⟨ps, vs, ts, hts, rfl, hown, hnods⟩, hb⟩
  obtain ⟨PA, PC, rfl⟩ := own_slice' hown
  have hb2 : Below w1.heap.size w1 (w1.alloc (.cells #[.string (str (headP l)), .slice PA ts.length PC] 52)) := (Below.refl _ _).alloc (Nat.le_refl _) _
  have HB := Lib.hid (hb.alloc hb.size (.cells #[.string (str (headP l)), .slice PA ts.length PC] 52))
  have r2 := Row.new w1 52 [.string (str (headP l)), .slice PA ts.length PC]
  have m1 := r2.cell 1
  simp only [List.getElem?_cons_zero, List.getElem?_cons_succ] at m1
  have hok : ts.length ≤ 2 ∧ (∀ t ∈ ts, TmOk t ∧ (tmT t).length ≤ 60) := by
    rw [hts]
    cases hp : parseT l with
    | none => exact ⟨by simp, fun t h => by simp at h⟩
    | some t =>
      obtain ⟨ho, e, hl⟩ := parseT_tmT.1 hp
      refine ⟨partsT_two t, fun p hp => ⟨partsT_ok ho hp, ?_⟩⟩
      have := partsT_len (t := t) hp
      rw [e] at hl
      omega
  obtain ⟨h1, h2⟩ := nodes_below hown hnods hb2
  have HT := Lib.hid (texts_ok 60 ts _ _ vs _ hok.1 hok.2 (by omega) h1 h2)
  have hpp : Hid (partsP l = ts.map tmT) := by show _ = _; unfold partsP; rw [← hts]
  clear hts hown hnods hb r2 hb2 h1 h2 hok
  go_wp2_with fail
  refine HT.out.mono ?_
  rintro e w2 ⟨v, rfl, ho2, hb3⟩
  have HB2 := Lib.hid (HB.out.trans (hb3.mono HB.out.size))
  have HO : Hid (w2.ownsRow w.heap.size 9 1 v (partsP l).length (strVs (partsP l))) := by
    show World.ownsRow _ _ _ _ _ _ _
    rw [hpp.out, List.length_map]
    exact ownsRow_base ho2 HB.out.size
  clear hb3 ho2
  go_wp2
  go_ret
  exact ⟨_, rfl, HO.out, HB2.out⟩

set_option maxRecDepth 100000 in
set_option maxHeartbeats 1000000 in
theorem specParts_any (L : List UInt8) (hL : L.length ≤ 1048576) (w : World) :
    Calls Tryd.prog 20 #[.string (str L)] w fun e w' => ∃ v, e = .returned v ∧ w'.ownsRow w.heap.size 9 1 v (partsP L).length (strVs (partsP L)) ∧ Below w.heap.size w w' := by
  have HC := Lib.hid (l6Call_any L hL w)
  cases hcp : callP L with
  | false =>
    rw [hcp] at HC
    have hp := Lib.hid (partsP_no hcp)
    have Hb0 : Hid (Below w.heap.size w (w.alloc (.cells #[] 9))) := (Below.refl _ _).alloc (Nat.le_refl _) _
    have Ho0 : Hid ((w.alloc (.cells #[] 9)).ownsRow w.heap.size 9 1 (.slice (some ⟨w.heap.size, 0, none⟩) 0 0) 0 []) := World.ownsRow_lit w #[] 0 (Nat.le_refl _) (by unfold maxLen; omega) rfl
    clear hcp
    go_enter Tryd.func20, Tryd.ntmps20
    go_wp2_with fail
    refine HC.out.mono ?_
    rintro e w1 ⟨rfl, hw⟩
    subst hw
    go_wp2
    go_ret
    exact ⟨_, rfl, by rw [hp.out]; exact Ho0.out, Hb0.out⟩
  | true =>
    rw [hcp] at HC
    cases hp : parseT L with
    | none => rw [callP_none hp] at hcp; cases hcp
    | some t =>
      obtain ⟨ho, e, hl⟩ := parseT_tmT.1 hp
      have hct : isCallT t = true := by rw [← callP_some hp]; exact hcp
      have HP := l6Parts_any t ho hct w (by rw [← e]; exact hL)
      rw [← e] at HP
      have HP := Lib.hid HP
      have hpp := Lib.hid (partsP_call hp)
      clear hp hcp e hct ho
      go_enter Tryd.func20, Tryd.ntmps20
      go_wp2_with fail
      refine HC.out.mono ?_
      rintro e w1 ⟨rfl, hw⟩
      subst hw
      go_wp2_with fail
      refine HP.out.mono ?_
      rintro e w2 ⟨v, rfl, hb, hown⟩
      have HB := Lib.hid hb
      have HO : Hid (w2.ownsRow w1.heap.size 9 1 v (partsP L).length (strVs (partsP L))) := by
        show World.ownsRow _ _ _ _ _ _ _
        rw [hpp.out, List.length_map, strVs_map]
        exact hown
      clear hb hown
      go_wp2
      go_ret
      exact ⟨_, rfl, HO.out, HB.out⟩

/-- A row of strings in block g. -/
def RowS (w : World) (g : Nat) (v : Value) (n : Nat) (f : Nat → ByteArray) : Prop := ∃ A c, v = .slice A n c ∧ n ≤ c ∧ (0 < n → A = some ⟨g, 0, none⟩ ∧ ∃ cs, Row w g 9 cs ∧ n ≤ cs.length ∧ ∀ j, j < n → cs[j]? = some (.string (f j)))
theorem RowS.keep {w w' : World} {g : Nat} {v : Value} {n : Nat} {f : Nat → ByteArray} (h : RowS w g v n f) (hb : Below w.heap.size w w') : RowS w' g v n f := by
  obtain ⟨A, c, e, hc, h⟩ := h
  refine ⟨A, c, e, hc, fun h0 => ?_⟩
  obtain ⟨e2, cs, hr, h2⟩ := h h0
  exact ⟨e2, cs, hr.below hb (Row.lt hr), h2⟩
theorem rowS_own {w : World} {N : Nat} {v : Value} {ps : List (List UInt8)} (h : w.ownsRow N 9 1 v ps.length (strVs ps)) (_hN : N ≤ w.heap.size) : ∃ g, N ≤ g ∧ RowS w g v ps.length (fun j => str (ps.getD j [])) := by
  obtain ⟨_, ⟨rfl, e⟩ | ⟨g, cap, cur, rfl, hg, hh, hc1, hc2, hcs, htake⟩⟩ := h
  · exact ⟨N, Nat.le_refl _, none, 0, by rw [e], by omega, fun h0 => by omega⟩
  · refine ⟨g, hg, _, _, rfl, hc1, fun _ => ⟨rfl, cur.toList, by show w.heap[g]? = _; rw [hh], by have h := congrArg List.length htake; rw [List.length_take] at h; simp only [strVs, List.length_map] at h; omega, fun j hj => ?_⟩⟩
    have e2 : cur.toList[j]? = (cur.toList.take (ps.length * 1))[j]? := by rw [List.getElem?_take_of_lt (by omega)]
    rw [e2, htake]
    simp [strVs, hj, List.getD_eq_getElem?_getD]
theorem Keep.setg {b : Nat} {w w' : World} (h : Keep b w w') (j : Nat) (v : Value) : Keep b w (w'.setCell ⟨b, j, none⟩ v) :=
  h.trans ⟨⟨rfl, rfl, rfl, by simp [World.setCell], fun j _ hb => Below.heap_setCell _ _ _ _ (fun e => hb (by simp [e]))⟩⟩

set_option maxRecDepth 100000 in
set_option maxHeartbeats 2000000 in
theorem markStrs_any (g : Nat) (v : Value) (n : Nat) (f : Nat → ByteArray) (k0 : Int) (w : World) (h : RowS w g v n f) (h0 : 0 ≤ k0) (h1 : k0 + n ≤ 1000000) :
    Calls Tryd.prog 23 #[v, .int .i64 k0] w fun e w' => e = .returned (.int .i64 (k0 + n)) ∧ Keep g w w' ∧ RowS w' g v n (fun j => mText (k0 + j)) := by
  obtain ⟨A, c, rfl, hc, hrow⟩ := h
  have HRW : Hid (0 < n → A = some ⟨g, 0, none⟩ ∧ ∃ cs, Row w g 9 cs ∧ n ≤ cs.length) := fun h => by
    obtain ⟨e, cs, h1, h2, _⟩ := hrow h
    exact ⟨e, cs, h1, h2⟩
  clear hrow
  go_enter Tryd.func23, Tryd.ntmps23
  go_wp2
  go_loopw [1, 5] (fun q i wr => ∃ j : Nat, j ≤ n ∧ i = .int .i64 j ∧ q = .int .i64 (k0 + j) ∧ Hid (Keep g w wr) ∧ Hid (0 < n → A = some ⟨g, 0, none⟩ ∧ ∃ cs, Row wr g 9 cs ∧ n ≤ cs.length ∧ ∀ x, x < j → cs[x]? = some (.string (mText (k0 + x))))) (fun _ i _ => n - (intOf i).toNat)
  case atStart => exact ⟨0, Nat.zero_le _, rfl, by go_num, Keep.refl _ _, fun h => by
    obtain ⟨e, cs, h1, h2⟩ := HRW.out h
    exact ⟨e, cs, h1, h2, fun x hx => absurd hx (by omega)⟩⟩
  case round =>
    clear HRW
    obtain ⟨j, hj, rfl, rfl, hk, hrw⟩ := hrel
    by_cases hlt : j < n
    · obtain ⟨hA, cs, hrow, hcl, hms⟩ := hrw.out (by omega)
      subst hA
      have Hrow := Lib.hid hrow
      have Hms := Lib.hid hms
      clear hrow hms hrw
      go_wp2_with fail
      refine (markText_any (k0 + j) wr (by omega) (by omega)).mono ?_
      rintro e w1 ⟨rfl, hb1⟩
      have hrow1 := Hrow.out.below hb1 (Row.lt Hrow.out)
      have ck := hrow1.cell_some (i := j) (by omega)
      have fk := hrow1.frozen j
      have Hrow1 := Lib.hid hrow1
      have Hk1 := Lib.hid (hk.out.of_below hb1)
      obtain ⟨u, hu⟩ : ∃ u, u = cs[j]'(by omega) := ⟨_, rfl⟩
      rw [← hu] at ck
      obtain ⟨M, hM⟩ : ∃ M, M = mText (k0 + j) := ⟨_, rfl⟩
      rw [← hM]
      have HM := Lib.hid hM
      clear hb1 hrow1 Hrow hu hM
      go_wp2
      go_roundw
      case rel =>
        refine ⟨j + 1, by omega, by go_num, by go_num, Hk1.out.setg j _, fun _ => ⟨trivial, _, Hrow1.out.set_ j _, by rw [List.length_set]; exact hcl, fun x hx => ?_⟩⟩
        by_cases ex : x = j
        · subst ex
          rw [List.getElem?_set_self (by omega), HM.out]
        · rw [List.getElem?_set_ne (fun h => ex h.symm)]
          exact Hms.out x (by omega)
      case measure => simp [intOf]; omega
    · have hje : j = n := by omega
      subst hje
      have hki : ¬ ((j : Int) < (j : Int)) := by omega
      go_wp2
      go_ret
      exact ⟨rfl, hk.out, A, c, rfl, hc, fun h => hrw.out h⟩

set_option maxRecDepth 100000 in
set_option maxHeartbeats 4000000 in
theorem heldStrs_any (g : Nat) (v : Value) (n : Nat) (k0 : Int) (w : World) (h : RowS w g v n (fun j => mText (k0 + j))) (h0 : 0 ≤ k0) (h1 : k0 + n ≤ 1000000) :
    Calls Tryd.prog 24 #[v, .int .i64 k0] w fun e w' => e = .returned (.int .i64 (k0 + n)) ∧ Below w.heap.size w w' := by
  obtain ⟨A, c, rfl, hc, hrow⟩ := h
  have HRW : Hid (0 < n → A = some ⟨g, 0, none⟩ ∧ g < w.heap.size ∧ ∀ j, j < n → w.cell? ⟨g, j, none⟩ = some (.string (mText (k0 + j)))) := fun h => by
    obtain ⟨e, cs, h1, h2, h3⟩ := hrow h
    exact ⟨e, Row.lt h1, fun j hj => (h1.cell j).trans (h3 j hj)⟩
  clear hrow
  go_enter Tryd.func24, Tryd.ntmps24
  go_wp2
  go_loopw [1, 5] (fun q i wr => ∃ j : Nat, j ≤ n ∧ i = .int .i64 j ∧ q = .int .i64 (k0 + j) ∧ Hid (Below w.heap.size w wr)) (fun _ i _ => n - (intOf i).toNat)
  case atStart => exact ⟨0, Nat.zero_le _, rfl, by go_num, Below.refl _ _⟩
  case round =>
    obtain ⟨j, hj, rfl, rfl, hbr⟩ := hrel
    by_cases hlt : j < n
    · obtain ⟨hA, hgl, hcel⟩ := HRW.out (by omega)
      subst hA
      have Hck : Hid (∀ u, Below wr.heap.size wr u → u.cell? ⟨g, j, none⟩ = some (.string (mText (k0 + j)))) := fun u hu => (World.cell?_of_block (w := w) (a := ⟨g, j, none⟩) ((hbr.out.trans (hu.mono hbr.out.size)).block g hgl)).trans (hcel j hlt)
      have HM : Hid (∀ u, Calls Tryd.prog 50 #[.int .i64 (k0 + j)] u fun e w' => e = .returned (.string (mText (k0 + j))) ∧ Below u.heap.size u w') := fun u => markText_any (k0 + j) u (by omega) (by omega)
      obtain ⟨M, hM⟩ : ∃ M, M = mText (k0 + j) := ⟨_, rfl⟩
      rw [← hM] at HM Hck
      clear hcel hM
      go_wp2_with fail
      refine wp_region_inv (by kernel_rfl) (fun dn a u => ∃ x12 x13 x14 x15 x16 x17 x18, a = ⟨#[.slice (some ⟨g, 0, none⟩) n c, .int .i64 (k0 + j), undef, undef, u4, .int .i64 j, .int .i64 j, .slice (some ⟨g, 0, none⟩) n c, .int .i64 n, .bool true, u10, u11, x12, x13, x14, x15, x16, x17, x18, u19, u20, undef], []⟩ ∧ Det (wr.heap.size) (wr) [.slice (some ⟨g, 0, none⟩) n c, .int .i64 j, .pointer (some ⟨g, j, none⟩), .string M, .int .i64 (k0 + j), .string M, .bool false] dn [x12, x13, x14, x15, x16, x17, x18] u) (of_decide_eq_true (by kernel_rfl)) ⟨_, _, _, _, _, _, _, rfl, Det.start (Nat.le_refl _) (by rfl)⟩ ?_ ?_
      · rintro dn a u i o ho hfi hdep ⟨x12, x13, x14, x15, x16, x17, x18, rfl, hF⟩
        have hil : i < 7 := by have := (Array.getElem?_eq_some_iff.1 ho).1; simpa using this
        have ck := Hck.out u hF.bel
        obtain rfl | rfl | rfl | rfl | rfl | rfl | rfl : i = 0 ∨ i = 1 ∨ i = 2 ∨ i = 3 ∨ i = 4 ∨ i = 5 ∨ i = 6 := by omega
        all_goals
          obtain rfl := Option.some.inj ho
          refine wpOp_step ho fun K hK => ?_
          simp [Region.binds] at hdep
          clear ho
        · refine det_yes rfl ?_
          have HF := Lib.hid hF
          clear hF
          unfold Oper.wp
          go_simp
          exact hK _ _ ⟨_, _, _, _, _, _, _, rfl, HF.out.same 0 rfl⟩
        · refine det_yes rfl ?_
          have HF := Lib.hid hF
          clear hF
          unfold Oper.wp
          go_simp
          exact hK _ _ ⟨_, _, _, _, _, _, _, rfl, HF.out.same 1 rfl⟩
        · obtain rfl := hF.get 0 (by simp [hdep]) rfl rfl
          obtain rfl := hF.get 1 (by simp [hdep]) rfl rfl
          refine det_yes rfl ?_
          have HF := Lib.hid hF
          clear hF
          unfold Oper.wp
          go_simp
          exact hK _ _ ⟨_, _, _, _, _, _, _, rfl, HF.out.same 2 rfl⟩
        · obtain rfl := hF.get 2 (by simp [hdep]) rfl rfl
          refine det_yes rfl ?_
          have HF := Lib.hid hF
          clear hF
          unfold Oper.wp
          go_simp
          exact hK _ _ ⟨_, _, _, _, _, _, _, rfl, HF.out.same 3 rfl⟩
        · refine det_yes rfl ?_
          have HF := Lib.hid hF
          clear hF
          unfold Oper.wp
          go_simp
          exact hK _ _ ⟨_, _, _, _, _, _, _, rfl, HF.out.same 4 rfl⟩
        · obtain rfl := hF.get 4 (by simp [hdep]) rfl rfl
          refine det_yes rfl ?_
          have HF := Lib.hid hF
          clear hF
          unfold Oper.wp
          go_simp
          refine (HM.out u).mono ?_
          rintro e u2 ⟨rfl, hb2⟩
          exact hK _ _ ⟨_, _, _, _, _, _, _, rfl, HF.out.step 5 rfl (hb2.mono (by have h := HF.out.bel.size; (try simp only [World.size_alloc] at h); omega))⟩
        · obtain rfl := hF.get 3 (by simp [hdep]) rfl rfl
          obtain rfl := hF.get 5 (by simp [hdep]) rfl rfl
          refine det_yes rfl ?_
          have HF := Lib.hid hF
          clear hF
          unfold Oper.wp
          go_simp
          exact hK _ _ ⟨_, _, _, _, _, _, _, rfl, HF.out.same 6 rfl⟩
      · rintro dn a u hall ⟨x12, x13, x14, x15, x16, x17, x18, rfl, hF⟩
        have hall2 := hF.all (n := 7) rfl hall
        simp only [List.cons.injEq] at hall2
        obtain ⟨rfl, rfl, rfl, rfl, rfl, rfl, rfl, _⟩ := hall2
        have HB := Lib.hid (hbr.out.trans (hF.bel.mono hbr.out.size))
        clear hF hall
        go_wp2
        go_roundw
        case rel => exact ⟨j + 1, by omega, by go_num, by go_num, HB.out⟩
        case measure => simp [intOf]; omega
    · have hje : j = n := by omega
      subst hje
      have hki : ¬ ((j : Int) < (j : Int)) := by omega
      go_wp2
      go_ret
      exact ⟨rfl, hbr.out⟩
end Go.Proofs.YtcecljolnknapaaDoor
