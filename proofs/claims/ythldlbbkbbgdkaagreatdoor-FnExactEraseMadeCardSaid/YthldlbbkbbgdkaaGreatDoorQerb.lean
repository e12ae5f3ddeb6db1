/-
  The contracts of erased by method, of a term node's text by method, of EraseMade on both sides.
-/
import Derived.Test.YthldlbbkbbgdkaaGreatDoorQera
namespace Go.Proofs.YthldlbbkbbgdkaaGreatDoor
open Go.RowKit Go.Shelf

theorem erase_all (y : Sy) (hy : SyOk y) : ∀ (q : Nat) (m : Mk), (mkT m).length ≤ q → MkOk y m → ∀ (B : Nat) (o : Value) (w : World), MNodeAt w B m o → Erases y (erM y m) o w := by
  intro q
  induction q with
  | zero =>
    intro m hq
    exact absurd hq (by cases m <;> simp [mkT, dg])
  | succ q ih =>
    intro m hq hok B o w hnod
    cases hc : isApM m with
    | false =>
      match m, hc, hnod, hok, hq with
      | .lit k v, _, hnod, hok, _ =>
        have e : o = .iface 201 (.agg #[.int .i64 k, .int .i64 v]) := hnod
        subst e
        refine ⟨_, _, 285, rfl, ⟨fun u => by kernel_rfl, fun u => by kernel_rfl, enters_of Tryz.func285 (by kernel_rfl) rfl⟩, fun lo hi sv cv fv u _ _ _ => ?_⟩
        refine (eraseLit_any k v sv cv fv u).mono ?_
        rintro e w' ⟨rfl, hb⟩
        exact ⟨_, rfl, rfl, hb⟩
      | .co i m, _, ⟨v, e, hv⟩, hok, hq =>
        subst e
        have hlen : (mkT m).length + 3 ≤ (mkT (.co i m)).length := by simp [mkT, dg]
        have hE := ih m (by omega) hok.2.2.1 B v w hv
        exact ⟨_, _, 279, rfl, ⟨fun u => by kernel_rfl, fun u => by kernel_rfl, enters_of Tryz.func279 (by kernel_rfl) rfl⟩, fun lo hi sv cv fv u hs hB hb => eraseCo_any lo hi i v sv cv fv y (erM y m) w u hE hs hB hb⟩
    | true =>
      obtain ⟨ps, vs, rfl, hown, hnods⟩ := hnod.open hc
      have hall : ∀ p ∈ partsM m, (mkT p).length + 3 ≤ (mkT m).length ∧ MkOk y p := fun p hp => ⟨partsM_len hp, by
        match m, hc, hp, hok with
        | .a1 i m, _, hp, hok => simp [partsM] at hp; subst hp; exact hok.2.2.2.1
        | .a2 i m r, _, hp, hok =>
          simp [partsM] at hp
          rcases hp with hp | hp
          · subst hp; exact hok.2.2.2.1
          · subst hp; exact hok.2.2.2.2.1⟩
      have hif : ixM m < y.fs.length := by
        match m, hc, hok with
        | .a0 i, _, hok => exact hok.1
        | .a1 i _, _, hok => exact hok.1
        | .a2 i _ _, _, hok => exact hok.1
      have her : erM y m = mkCall (nmOf y (ixM m)) ((partsM m).map (erM y)) := by
        match m, hc with
        | .a0 i, _ => rfl
        | .a1 i _, _ => rfl
        | .a2 i _ _, _ => rfl
      rw [her]
      exact ⟨_, _, 282, rfl, ⟨fun u => by kernel_rfl, fun u => by kernel_rfl, enters_of Tryz.func282 (by kernel_rfl) rfl⟩, fun lo hi sv cv fv u hs hB hb =>
        eraseAp_any lo hi (ixM m) sv cv fv ps y hy (partsM m) vs B w u hif (partsM_two m) hown (fun k h => by
          obtain ⟨v, hv, hn⟩ := hnods.at k h
          obtain ⟨hl, ho⟩ := hall _ (List.getElem_mem h)
          exact ⟨v, hv, ih _ (by omega) ho B v w hn⟩) hs hB hb⟩

/-- The text of a term node, by the method that its type has. -/
theorem NodeAt.textM {w : World} {B : Nat} {t : Tm} {o : Value} (h : NodeAt w B t o) (hok : TmOk t) (hl : (tmT t).length ≤ 1048576) : ∃ T x f, o = .iface T x ∧ Meth "loop.example/overloads/impl.text" T x f ∧
    Calls Tryz.prog f #[x] w fun e w' => e = .returned (.string (str (tmT t))) ∧ Below w.heap.size w w' := by
  cases hc : isCallT t with
  | false =>
    obtain ⟨k, v, rfl, rfl⟩ := h.lit hc
    exact ⟨_, _, 287, rfl, ⟨fun u => by kernel_rfl, fun u => by kernel_rfl, enters_of Tryz.func287 (by kernel_rfl) rfl⟩, litText_any k v hok.1 hok.2 w⟩
  | true =>
    obtain ⟨ps, vs, rfl, hown, hnods⟩ := h.open hc
    exact ⟨_, _, 274, rfl, ⟨fun u => by kernel_rfl, fun u => by kernel_rfl, enters_of Tryz.func274 (by kernel_rfl) rfl⟩, callText2_any (tmT t).length (texts_ok _) t B ps vs w hc hok (by omega) hl hown hnods⟩

set_option maxRecDepth 100000 in
set_option maxHeartbeats 4000000 in
theorem implErase_any (lo hi n : Nat) (a : Addr) (sv cv fv : Value) (y : Sy) (L : List UInt8) (w : World) (hv : SyAt w lo hi sv cv fv y) (hB : hi ≤ w.heap.size) (he : Ev w n a) (hn : n ≤ w.heap.size) (hm : L.length ≤ 1048576) :
    Calls Tryz.prog 15 #[.agg #[sv, cv, fv], .string (str L)] w fun e w' => e = .returned (.tuple #[.string (str (txL y L)), .bool (okM y L)]) ∧ Below w.heap.size w w' := by
  obtain ⟨A1, cap1, rfl, _, _, _⟩ := hv.1.1.form
  obtain ⟨A2, cap2, rfl, _, _, _⟩ := hv.1.2.form
  obtain ⟨A3, cap3, rfl, _, _, _⟩ := hv.2.form
  have hb1 : Below w.heap.size w (w.alloc (.cells #[.slice A1 y.ty.sizes.length cap1, .slice A2 y.ty.cos.length cap2, .slice A3 y.fs.length cap3] 37)) := (Below.refl _ _).alloc (Nat.le_refl _) _
  have HR := Lib.hid (readMade_any lo hi n a _ _ _ y L _ (hv.below hb1 hB) (by rw [World.size_alloc]; omega) (he.keep (b := w.heap.size) ((Keep.refl _ _).of_below hb1) hn) (by rw [World.size_alloc]; omega) hm)
  have hR1 := Row.new w 37 [.slice A1 y.ty.sizes.length cap1, .slice A2 y.ty.cos.length cap2, .slice A3 y.fs.length cap3]
  have HR1 := Lib.hid hR1
  have p0 := hR1.cell 0
  have p1 := hR1.cell 1
  have p2 := hR1.cell 2
  simp only [List.getElem?_cons_zero, List.getElem?_cons_succ] at p0 p1 p2
  have HB1 := Lib.hid hb1
  have HV := Lib.hid hv
  clear hv hb1 hR1 he
  go_enter Tryz.func15, Tryz.ntmps15
  go_wp2_with fail
  refine HR.out.mono ?_
  clear p0 p1 p2
  rintro e w2 ⟨⟨m, o, hr, hok, rfl, hno⟩ | ⟨hr, rfl⟩, hb2⟩
  · have HB2 := Lib.hid (HB1.out.trans (hb2.mono HB1.out.size))
    have R2 := HR1.out.keep (hb2.block _ (by rw [World.size_alloc]; omega))
    have q0 := R2.cell 0
    have q1 := R2.cell 1
    have q2 := R2.cell 2
    simp only [List.getElem?_cons_zero, List.getElem?_cons_succ] at q0 q1 q2
    obtain ⟨e1, -, e3, -⟩ := vals_some hr
    have E1 := Lib.hid e1
    have E3 := Lib.hid e3
    have hlm := readM_len hr
    have hyok : SyOk y := by
      by_cases hs : syB y = true
      · exact syB_iff.1 hs
      · rw [readM_bad (by simpa using hs)] at hr; cases hr
    have hlen : (tmT (erM y m)).length ≤ 1048576 := by have := mkT_er y m; omega
    have HTO := Lib.hid (erM_ok hyok hok)
    obtain ⟨T, x, fid, rfl, ⟨hmeth, hnil, hent⟩, hkd⟩ := erase_all y hyok (mkT m).length m (Nat.le_refl _) hok _ o w2 hno
    have HC := Lib.hid (hkd lo hi _ _ _ w2 (HV.out.below HB2.out hB) (Nat.le_trans hB HB2.out.size) (Below.refl _ _))
    obtain ⟨t, ht⟩ : ∃ t, t = erM y m := ⟨_, rfl⟩
    rw [← ht] at HC HTO hlen E3
    clear hr hok hno hb2 HR HB1 e1 e3 R2 hkd ht
    go_wp2_with fail
    refine HC.out.mono ?_
    rintro e w3 ⟨v, rfl, hno3, hb3⟩
    have HB3 := Lib.hid (HB2.out.trans (hb3.mono HB2.out.size))
    obtain ⟨T2, x2, f2, rfl, ⟨hmeth2, hnil2, hent2⟩, hcall2⟩ := hno3.textM HTO.out hlen
    have HC2 := Lib.hid hcall2
    clear hb3 hno3 hcall2 HC hmeth hnil hent q0 q1 q2
    go_wp2_with fail
    refine HC2.out.mono ?_
    rintro e w4 ⟨rfl, hb4⟩
    have HB4 := Lib.hid (HB3.out.trans (hb4.mono HB3.out.size))
    clear hb4 HC2
    go_wp2
    try rw [Exit.noGoto_ret]
    refine bodyPost_ret (v := .tuple #[.string (str (tmT t)), .bool true]) (by simp [results, Tryz.results15, go_sem]) rfl ?_
    exact ⟨by rw [E1.out, E3.out], HB4.out⟩
  · have HB2 := Lib.hid (HB1.out.trans (hb2.mono HB1.out.size))
    obtain ⟨e1, -, e3, -⟩ := vals_none hr
    have E1 := Lib.hid e1
    have E3 := Lib.hid e3
    clear hr hb2 HR HB1 e1 e3
    go_wp2
    try rw [Exit.noGoto_ret]
    refine bodyPost_ret (v := .tuple #[.string ⟨#[]⟩, .bool false]) (by simp [results, Tryz.results15, go_sem]) rfl ?_
    exact ⟨by rw [E1.out, E3.out]; rfl, HB2.out⟩

set_option maxRecDepth 100000 in
set_option maxHeartbeats 1000000 in
theorem specErase_any (lo hi : Nat) (sv cv fv : Value) (y : Sy) (L : List UInt8) (w : World) (hv : SyAt w lo hi sv cv fv y) (hB : hi ≤ w.heap.size) :
    Calls Tryz.prog 13 #[.agg #[sv, cv, fv], .string (str L)] w fun e w' => e = .returned (.tuple #[.string (str (txL y L)), .bool (okM y L)]) ∧ Below w.heap.size w w' := by
  obtain ⟨A1, cap1, rfl, _, _, _⟩ := hv.1.1.form
  obtain ⟨A2, cap2, rfl, _, _, _⟩ := hv.1.2.form
  obtain ⟨A3, cap3, rfl, _, _, _⟩ := hv.2.form
  have hb1 : Below w.heap.size w (w.alloc (.cells #[.slice A1 y.ty.sizes.length cap1, .slice A2 y.ty.cos.length cap2, .slice A3 y.fs.length cap3] 37)) := (Below.refl _ _).alloc (Nat.le_refl _) _
  have HR := Lib.hid (l7Read_any lo hi _ _ _ y L _ (hv.below hb1 hB) (by rw [World.size_alloc]; omega))
  have HB1 := Lib.hid hb1
  clear hv hb1
  go_enter Tryz.func13, Tryz.ntmps13
  go_wp2_with fail
  refine HR.out.mono ?_
  rintro e w2 ⟨⟨b, rfl, _, _⟩, hb2⟩
  have HB2 := Lib.hid (HB1.out.trans (hb2.mono (by rw [World.size_alloc]; omega)))
  clear hb2 HR HB1
  go_wp2
  try rw [Exit.noGoto_ret]
  refine bodyPost_ret (v := .tuple #[.string (str (txL y L)), .bool (okM y L)]) (by simp [results, Tryz.results13, go_sem]) rfl ?_
  exact ⟨rfl, HB2.out⟩
end Go.Proofs.YthldlbbkbbgdkaaGreatDoor

