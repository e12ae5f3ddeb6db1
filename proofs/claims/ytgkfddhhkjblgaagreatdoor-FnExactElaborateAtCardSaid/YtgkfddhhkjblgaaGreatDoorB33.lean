/-
  The contracts of ElaborateAt on both sides.
-/
import Derived.Test.YtgkfddhhkjblgaaGreatDoorB32
import Derived.Test.YtgkfddhhkjblgaaGreatDoorB19
import Derived.Test.YtgkfddhhkjblgaaGreatDoorB9
namespace Go.Proofs.YtgkfddhhkjblgaaGreatDoor
open Go.RowKit Go.Shelf

set_option maxRecDepth 100000 in
set_option maxHeartbeats 1000000 in
theorem implElabAt_any (lo hi n : Nat) (a aU aN aW aM aL : Addr) (sv cv fv : Value) (y : Sy) (hbk : y.bulk ≤ 1048576) (L : List UInt8) (z : Int) (hz64 : I64 z) (w : World) (hv : SyAt w lo hi sv cv fv y) (hB : hi ≤ w.heap.size) (he : Ev w n a) (hE : Er5 w n aU aN aW aM aL) (hn : n ≤ w.heap.size) (hm : L.length ≤ 1048576) :
    Calls Tryz.prog 18 #[.agg #[sv, cv, fv], .string (str L), .int .i64 z] w fun e w' => e = .returned (.tuple #[.string (str (elA y L z).1), .string (elA y L z).2]) ∧ Below w.heap.size w w' := by
  obtain ⟨A1, cap1, rfl, _, _, _⟩ := hv.1.1.form
  obtain ⟨A2, cap2, rfl, _, _, _⟩ := hv.1.2.form
  obtain ⟨A3, cap3, rfl, _, _, _⟩ := hv.2.form
  have hb1 : Below w.heap.size w (w.alloc (.cells #[.slice A1 y.ty.sizes.length cap1, .slice A2 y.ty.cos.length cap2, .slice A3 y.fs.length cap3] 37)) := (Below.refl _ _).alloc (Nat.le_refl _) _
  have hs1 : w.heap.size < (w.alloc (.cells #[.slice A1 y.ty.sizes.length cap1, .slice A2 y.ty.cos.length cap2, .slice A3 y.fs.length cap3] 37)).heap.size := by rw [World.size_alloc]; omega
  have HC := Lib.hid (elabAt_any lo hi n a aU aN aW aM aL _ _ _ y hbk L z hz64 _ (hv.below hb1 hB) (Nat.le_trans hB (Nat.le_of_lt hs1)) (he.keep (b := w.heap.size) ((Keep.refl _ _).of_below hb1) hn) (hE.below hb1 hn) (Nat.le_trans hn (Nat.le_of_lt hs1)) hm)
  have HR1 := Lib.hid (Row.new w 37 [.slice A1 y.ty.sizes.length cap1, .slice A2 y.ty.cos.length cap2, .slice A3 y.fs.length cap3])
  have p0 := HR1.out.cell 0
  have p1 := HR1.out.cell 1
  have p2 := HR1.out.cell 2
  simp only [List.getElem?_cons_zero, List.getElem?_cons_succ] at p0 p1 p2
  have HB1 := Lib.hid hb1
  have HE := Lib.hid hE
  have Hs1 := Lib.hid hs1
  clear hv hE he hb1 hs1 hz64
  go_enter Tryz.func18, Tryz.ntmps18
  go_wp2_with fail
  refine HC.out.mono ?_
  clear HC p0 p1 p2
  rintro e w2 ⟨⟨m, o, hz, hmok, rfl, hno⟩ | ⟨ae, e0, hz, rfl, hch, hae⟩, hb2⟩
  · have HB2 := Lib.hid (HB1.out.trans (hb2.mono (Nat.le_of_lt Hs1.out)))
    have HTT : Hid (elA y L z = (mkT m, wOk)) := by show _ = _; unfold elA; rw [hz]
    obtain ⟨T, x, rfl⟩ := hno.form
    have hl4 := (elAZ_ok hz).2
    have HMT := Lib.hid (madeText_all hno (by omega) hmok w2 (Below.refl _ _))
    generalize mkT m = X at HMT HTT
    clear hb2 hz hno hmok hl4
    go_wp2_with fail
    refine HMT.out.mono ?_
    rintro e w3 ⟨rfl, hb3⟩
    have HB3 := Lib.hid (HB2.out.trans (hb3.mono HB2.out.size))
    clear hb3 HMT
    go_wp2
    try rw [Exit.noGoto_ret]
    refine bodyPost_ret (v := .tuple #[.string (str X), .string wOk]) (by simp [results, Tryz.results18, go_sem, wOk]) rfl ?_
    exact ⟨by rw [HTT.out], HB3.out⟩
  · have HB2 := Lib.hid (HB1.out.trans (hb2.mono (Nat.le_of_lt Hs1.out)))
    have HTT : Hid (elA y L z = ([], wordV aN aW aM aL ae)) := by show _ = _; unfold elA; rw [hz]
    have HW := Lib.hid (wordFor_any n aU aN aW aM aL ae e0 hch hae w2 (HE.out.below HB2.out hn) (Nat.le_trans hn HB2.out.size))
    obtain ⟨T, x, rfl⟩ := hch.form
    clear hb2 hch hz hae
    generalize wordV aN aW aM aL ae = WD at HTT HW
    go_wp2_with fail
    refine HW.out.mono ?_
    rintro e w3 ⟨rfl, hb3⟩
    have HB3 := Lib.hid (HB2.out.trans (hb3.mono HB2.out.size))
    clear hb3 HW
    go_wp2
    try rw [Exit.noGoto_ret]
    refine bodyPost_ret (v := .tuple #[.string ⟨#[]⟩, .string WD]) (by simp [results, Tryz.results18, go_sem]) rfl ?_
    exact ⟨by rw [HTT.out]; rfl, HB3.out⟩

/-- The words of elZ. -/
theorem elZ_words {y : Sy} {L : List UInt8} {e : ByteArray} (h : elZ y L = .error e) : e = wUnk ∨ e = wNone ∨ e = wMany ∨ e = wLong := by
  unfold elZ at h
  split at h
  · split at h
    · split at h
      · split at h
        · cases h
        · injection h with h; simp [h]
      · rename_i e' he
        injection h with h
        subst h
        rcases elM_words he with h | h | h <;> simp [h]
    · injection h with h; simp [h]
  · injection h with h; simp [h]

set_option maxRecDepth 100000 in
set_option maxHeartbeats 1000000 in
theorem specElabAt_any (lo hi : Nat) (sv cv fv : Value) (y : Sy) (L : List UInt8) (z : Int) (w : World) (hv : SyAt w lo hi sv cv fv y) (hB : hi ≤ w.heap.size) (hL : L.length ≤ 1048576)
    (HM0 : ∀ (t : Tm) (w1 : World), SyOk y → TmOk t → (tmT t).length ≤ 60 → SyAt w1 lo hi sv cv fv y → hi ≤ w1.heap.size → Calls Tryz.prog 37 #[.agg #[sv, cv, fv], .string (str (tmT t))] w1 fun e w' => e = .returned (elRes y t) ∧ Below w1.heap.size w1 w') :
    Calls Tryz.prog 17 #[.agg #[sv, cv, fv], .string (str L), .int .i64 z] w fun e w' => e = .returned (.tuple #[.string (str (elA y L z).1), .string (elA y L z).2]) ∧ Below w.heap.size w w' := by
  obtain ⟨A1, cap1, rfl, _, hm1, _⟩ := hv.1.1.form
  obtain ⟨A2, cap2, rfl, _, _, _⟩ := hv.1.2.form
  obtain ⟨A3, cap3, rfl, _, _, _⟩ := hv.2.form
  unfold maxLen at hm1
  have hb1 : Below w.heap.size w (w.alloc (.cells #[.slice A1 y.ty.sizes.length cap1, .slice A2 y.ty.cos.length cap2, .slice A3 y.fs.length cap3] 37)) := (Below.refl _ _).alloc (Nat.le_refl _) _
  have hs1 : w.heap.size < (w.alloc (.cells #[.slice A1 y.ty.sizes.length cap1, .slice A2 y.ty.cos.length cap2, .slice A3 y.fs.length cap3] 37)).heap.size := by rw [World.size_alloc]; omega
  have HA := Lib.hid (specElab_any lo hi _ _ _ y L _ (hv.below hb1 hB) (Nat.le_trans hB (Nat.le_of_lt hs1)) hL HM0)
  have HR1 := Lib.hid (Row.new w 37 [.slice A1 y.ty.sizes.length cap1, .slice A2 y.ty.cos.length cap2, .slice A3 y.fs.length cap3])
  have p0 := HR1.out.cell 0
  have p1 := HR1.out.cell 1
  have p2 := HR1.out.cell 2
  simp only [List.getElem?_cons_zero, List.getElem?_cons_succ] at p0 p1 p2
  have HB1 := Lib.hid hb1
  have HV := Lib.hid hv
  have Hs1 := Lib.hid hs1
  have hw1 := wrapIn ((y.ty.sizes.length : Int) - 1) (by omega) (by omega)
  clear hv hb1 hs1 HM0
  go_enter Tryz.func17, Tryz.ntmps17
  cases hz : elZ y L with
  | error wd =>
    have hwd := elZ_words hz
    have hT : elT y L = ([], -1, wd) := by rw [elT_elZ, hz]
    have HTT : Hid (elA y L z = ([], wd)) := by show _ = _; unfold elA elAZ; rw [hz]
    rw [hT] at HA
    clear hz hT
    go_wp2_with fail
    refine HA.out.mono ?_
    clear HA p0 p1 p2
    rintro e w2 ⟨rfl, hb2⟩
    have HB2 := Lib.hid (HB1.out.trans (hb2.mono (Nat.le_of_lt Hs1.out)))
    clear hb2
    rcases hwd with rfl | rfl | rfl | rfl
    · unfold wUnk
      go_wp2
      try rw [Exit.noGoto_ret]
      refine bodyPost_ret (v := .tuple #[.string ⟨#[]⟩, .string wUnk]) (by simp [results, Tryz.results17, go_sem, wUnk]) rfl ?_
      exact ⟨by rw [HTT.out]; rfl, HB2.out⟩
    · unfold wNone
      go_wp2
      try rw [Exit.noGoto_ret]
      refine bodyPost_ret (v := .tuple #[.string ⟨#[]⟩, .string wNone]) (by simp [results, Tryz.results17, go_sem, wNone]) rfl ?_
      exact ⟨by rw [HTT.out]; rfl, HB2.out⟩
    · unfold wMany
      go_wp2
      try rw [Exit.noGoto_ret]
      refine bodyPost_ret (v := .tuple #[.string ⟨#[]⟩, .string wMany]) (by simp [results, Tryz.results17, go_sem, wMany]) rfl ?_
      exact ⟨by rw [HTT.out]; rfl, HB2.out⟩
    · unfold wLong
      go_wp2
      try rw [Exit.noGoto_ret]
      refine bodyPost_ret (v := .tuple #[.string ⟨#[]⟩, .string wLong]) (by simp [results, Tryz.results17, go_sem, wLong]) rfl ?_
      exact ⟨by rw [HTT.out]; rfl, HB2.out⟩
  | ok m =>
    obtain ⟨hy, hmok, hl4⟩ := elZ_ok hz
    have hT : elT y L = (mkT m, kindM y m, wOk) := by rw [elT_elZ, hz]
    rw [hT] at HA
    have hki := kindM_in hy hmok
    have HTT : Hid (elA y L z = if canC y.ty (kindM y m) z = true then (if (wrT (mkT m) (shortV y.ty (kindM y m) z)).length ≤ 400 then (wrT (mkT m) (shortV y.ty (kindM y m) z), wOk) else ([], wLong)) else ([], wNone)) := by
      show _ = _
      unfold elA elAZ
      rw [hz]
      dsimp only
      by_cases hc : canC y.ty (kindM y m) z = true
      · rw [if_pos hc, if_pos hc]
        have ht : mkT (coM (shortV y.ty (kindM y m) z) m) = wrT (mkT m) (shortV y.ty (kindM y m) z) := coM_text _ _ (coM_ok (tyOk_few hy.ty) _ _ hmok (shortV_end hc)).2.2
        rw [ht]
        by_cases hl : (wrT (mkT m) (shortV y.ty (kindM y m) z)).length ≤ 400
        · rw [if_pos hl, if_pos hl]
          show (mkT (coM (shortV y.ty (kindM y m) z) m), wOk) = _
          rw [ht]
        · rw [if_neg hl, if_neg hl]
      · rw [if_neg hc, if_neg hc]
    have hcc : canC y.ty (kindM y m) z = (ixB z y.ty.sizes.length && canB y.ty (kindM y m) z) := by
      unfold canC typesB
      rw [hy.ty, Bool.true_and, show ixB (kindM y m) y.ty.sizes.length = true by unfold ixB; simp; omega, Bool.true_and]
    have htb : ixB z y.ty.sizes.length = true → typesB y.ty (kindM y m) z = true := fun h => by
      unfold typesB
      rw [hy.ty, h, show ixB (kindM y m) y.ty.sizes.length = true by unfold ixB; simp; omega]
      rfl
    have Hcc := Lib.hid hcc
    have Htb := Lib.hid htb
    obtain ⟨X, hX⟩ : ∃ X, X = mkT m := ⟨_, rfl⟩
    obtain ⟨KD, hKD⟩ : ∃ k, k = kindM y m := ⟨_, rfl⟩
    rw [← hX] at HTT HA hl4
    rw [← hKD] at HTT HA Hcc Htb
    have hw5 := (shortV_wf y.ty KD z).2
    clear hz hT hy hmok hki hcc htb hX hKD
    unfold wOk at HA
    go_wp2_with fail
    refine HA.out.mono ?_
    clear HA p0 p1 p2
    rintro e w2 ⟨rfl, hb2⟩
    have HB2 := Lib.hid (HB1.out.trans (hb2.mono (Nat.le_of_lt Hs1.out)))
    have hwl : w.heap.size < w2.heap.size := Nat.lt_of_lt_of_le Hs1.out hb2.size
    have hr2 := HR1.out.below hb2 Hs1.out
    have q0 := hr2.cell 0
    have q1 := hr2.cell 1
    have q2 := hr2.cell 2
    simp only [List.getElem?_cons_zero, List.getElem?_cons_succ] at q0 q1 q2
    have HR2 := Lib.hid hr2
    clear hb2 hr2
    cases hix : ixB z y.ty.sizes.length with
    | false =>
      have HT2 : Hid (elA y L z = ([], wNone)) := by show _ = _; rw [HTT.out, Hcc.out, hix]; rfl
      go_wp2_with (go_at_call 45; refine (l1In_any _ _ _ _).mono ?_; rintro e w' ⟨rfl, rfl⟩; rw [inB_ix, hix])
      try rw [Exit.noGoto_ret]
      refine bodyPost_ret (v := .tuple #[.string ⟨#[]⟩, .string wNone]) (by simp [results, Tryz.results17, go_sem, wNone]) rfl ?_
      exact ⟨by rw [HT2.out]; rfl, HB2.out⟩
    | true =>
      have htb := Htb.out hix
      have HCN := Lib.hid (l2Can_any lo hi _ _ y.ty KD z w2 (HV.out.below HB2.out hB).1 (Nat.le_trans hB HB2.out.size) htb)
      have HIX := Lib.hid hix
      go_wp2_with (go_at_call 45; refine (l1In_any _ _ _ _).mono ?_; rintro e w' ⟨rfl, rfl⟩; rw [inB_ix, HIX.out])
      refine HCN.out.mono ?_
      rintro e w3 ⟨rfl, hb3⟩
      have HB3 := Lib.hid (HB2.out.trans (hb3.mono HB2.out.size))
      have hr3 := HR2.out.below hb3 hwl
      have hs3 := hb3.size
      clear q0 q1 q2 hb3 HCN hix
      cases hcb : canB y.ty KD z with
      | false =>
        have HT2 : Hid (elA y L z = ([], wNone)) := by show _ = _; rw [HTT.out, Hcc.out, HIX.out, hcb]; rfl
        clear hcb hr3
        go_wp2
        try rw [Exit.noGoto_ret]
        refine bodyPost_ret (v := .tuple #[.string ⟨#[]⟩, .string wNone]) (by simp [results, Tryz.results17, go_sem, wNone]) rfl ?_
        exact ⟨by rw [HT2.out]; rfl, HB3.out⟩
      | true =>
        have HT2 : Hid (elA y L z = if (wrT X (shortV y.ty KD z)).length ≤ 400 then (wrT X (shortV y.ty KD z), wOk) else ([], wLong)) := by show _ = _; rw [HTT.out, Hcc.out, HIX.out, hcb]; rfl
        have HCO := Lib.hid (l7Coerced_any lo hi _ _ _ y X KD z w3 (HV.out.below HB3.out hB) (Nat.le_trans hB HB3.out.size) htb (by omega))
        have q0 := hr3.cell 0
        have q1 := hr3.cell 1
        have q2 := hr3.cell 2
        simp only [List.getElem?_cons_zero, List.getElem?_cons_succ] at q0 q1 q2
        have hsz := str_size (wrT X (shortV y.ty KD z))
        have hwl2 : (wrT X (shortV y.ty KD z)).length ≤ 1000000 := by
          have h1 := wrT_len (m := X) (w := shortV y.ty KD z) (shortV_wf y.ty KD z).1
          omega
        generalize wrT X (shortV y.ty KD z) = NW at HCO HT2 hsz hwl2
        clear hcb hr3 HTT Hcc htb hw5
        go_wp2_with fail
        refine HCO.out.mono ?_
        rintro e w4 ⟨rfl, hb4⟩
        have HB4 := Lib.hid (HB3.out.trans (hb4.mono HB3.out.size))
        clear hb4 HCO q0 q1 q2
        by_cases h4 : NW.length ≤ 400
        · have h4' : ¬ (400 : Int) < (NW.length : Int) := by omega
          have HT3 : Hid (elA y L z = (NW, wOk)) := by show _ = _; rw [HT2.out, if_pos h4]
          clear HT2
          go_wp2
          all_goals try (exfalso; omega)
          try rw [Exit.noGoto_ret]
          refine bodyPost_ret (v := .tuple #[.string (str NW), .string wOk]) (by simp [results, Tryz.results17, go_sem, wOk]) rfl ?_
          exact ⟨by rw [HT3.out], HB4.out⟩
        · have h4' : (400 : Int) < (NW.length : Int) := by omega
          have HT3 : Hid (elA y L z = ([], wLong)) := by show _ = _; rw [HT2.out, if_neg h4]
          clear HT2
          go_wp2
          all_goals try (exfalso; omega)
          try rw [Exit.noGoto_ret]
          refine bodyPost_ret (v := .tuple #[.string ⟨#[]⟩, .string wLong]) (by simp [results, Tryz.results17, go_sem, wLong]) rfl ?_
          exact ⟨by rw [HT3.out]; rfl, HB4.out⟩
end Go.Proofs.YtgkfddhhkjblgaaGreatDoor

