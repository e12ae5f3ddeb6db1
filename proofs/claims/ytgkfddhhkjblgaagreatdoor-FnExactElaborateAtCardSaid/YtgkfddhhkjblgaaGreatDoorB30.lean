/-
  The contracts of the program's explicit and elaborated.
  The contracts of the program's Elaborate, TypeOf.
  The error of reading texts stays where it is.
  From the reading of an argument to the words for memory: types and a coercion that come in by value.
-/
import Derived.Test.YtgkfddhhkjblgaaGreatDoorB29
import Derived.Test.YtgkfddhhkjblgaaGreatDoorB7
import Derived.Test.YtgkfddhhkjblgaaGreatDoorB20
import Derived.Test.YtgkfddhhkjblgaaGreatDoorB16
import Derived.Test.YtgkfddhhkjblgaaGreatDoorB15
import Derived.Test.YtgkfddhhkjblgaaGreatDoorRows
import Derived.Test.YtgkfddhhkjblgaaGreatDoorB1
import Derived.WalkKit
import Derived.ProofKit
import Derived.OpenShut
import Derived.Lib.SmallJoins
import Derived.Deep.Slices
import Derived.Deep.Fields
namespace Go.Proofs.YtgkfddhhkjblgaaGreatDoor
open Go.RowKit Go.Shelf

theorem ExPost.under {y : Sy} {t : Tm} {A : List Addr} {wd : Addr → ByteArray} {w w1 w' : World} {e : Ending} (h : ExPost y t A wd w1 e w') (hb : Below w.heap.size w w1) : ExPost y t A wd w e w' := by
  obtain ⟨h1, h2⟩ := h
  refine ⟨?_, hb.trans (h2.mono hb.size)⟩
  rcases h1 with ⟨m, o, e1, e2, e3⟩ | h1
  · exact .inl ⟨m, o, e1, e2, e3.base hb.size⟩
  · exact .inr h1
theorem word_unk {aU aN aW aM aL : Addr} (h : [aU, aN, aW, aM, aL].Nodup) : wordV aN aW aM aL aU = wUnk := by
  simp only [List.nodup_cons, List.mem_cons, List.not_mem_nil, or_false, not_or] at h
  unfold wordV
  simp [h.1.1, h.1.2.1, h.1.2.2.1, h.1.2.2.2]
  rfl
theorem word_way {aU aN aW aM aL : Addr} (_h : [aU, aN, aW, aM, aL].Nodup) : wordV aN aW aM aL aW = wNone := by
  unfold wordV
  by_cases e : aW = aN
  · simp [e]; rfl
  · simp [e]; rfl
theorem word_long {aU aN aW aM aL : Addr} (h : [aU, aN, aW, aM, aL].Nodup) : wordV aN aW aM aL aL = wLong := by
  simp only [List.nodup_cons, List.mem_cons, List.not_mem_nil, or_false, not_or] at h
  unfold wordV
  simp [Ne.symm h.2.1.2.2, Ne.symm h.2.2.1.2, Ne.symm h.2.2.2.1]
  rfl

set_option maxRecDepth 100000 in
set_option maxHeartbeats 1000000 in
theorem explicit_any (lo hi n : Nat) (aU aN aW aM aL : Addr) (sv cv fv : Value) (y : Sy) (hy : SyOk y) (hbk : y.bulk ≤ 1048576) : ∀ (q : Nat) (t : Tm) (o : Value) (B : Nat) (w : World), (tmT t).length ≤ q → TmOk t → NodeAt w B t o → SyAt w lo hi sv cv fv y → hi ≤ w.heap.size → Er5 w n aU aN aW aM aL → n ≤ w.heap.size →
    Calls Tryz.prog 77 #[.agg #[sv, cv, fv], o] w fun e w' => ExPost y t [aU, aN, aW, aM, aL] (wordV aN aW aM aL) w e w' := by
  intro q
  induction q with
  | zero =>
    intro t o B w hq
    exact absurd hq (by cases t <;> simp [tmT])
  | succ q ih =>
    intro t o B w hq hok hnod hv hB hE hn
    obtain ⟨A1, cap1, rfl, _, _, _⟩ := hv.1.1.form
    obtain ⟨A2, cap2, rfl, _, _, _⟩ := hv.1.2.form
    obtain ⟨A3, cap3, rfl, _, _, _⟩ := hv.2.form
    have fC := asCC
    have fL := asLC
    have gL := asLL
    cases hc : isCallT t with
    | false =>
      obtain ⟨k, v, rfl, rfl⟩ := hnod.lit hc
      obtain ⟨W1, hW1⟩ : ∃ u, u = (w.alloc (.cells #[.slice A1 y.ty.sizes.length cap1, .slice A2 y.ty.cos.length cap2, .slice A3 y.fs.length cap3] 37)).alloc (.cells #[.int .i64 k, .int .i64 v] 145) := ⟨_, rfl⟩
      have HB1 : Hid (Below w.heap.size w W1) := by show Below _ _ _; rw [hW1]; exact ((Below.refl _ _).alloc (Nat.le_refl _) _).alloc (by simp) _
      have hW1s : W1.heap.size = w.heap.size + 2 := by rw [hW1]; simp
      have HR0 : Hid (Row W1 w.heap.size 37 [.slice A1 y.ty.sizes.length cap1, .slice A2 y.ty.cos.length cap2, .slice A3 y.fs.length cap3]) := by show Row _ _ _ _; rw [hW1]; exact (Row.new _ _ _).alloc _
      have HR1 : Hid (Row W1 (w.heap.size + 1) 145 [.int .i64 k, .int .i64 v]) := by
        show Row _ _ _ _
        rw [hW1]
        have h := Row.new (w.alloc (.cells #[.slice A1 y.ty.sizes.length cap1, .slice A2 y.ty.cos.length cap2, .slice A3 y.fs.length cap3] 37)) 145 [.int .i64 k, .int .i64 v]
        rwa [World.size_alloc] at h
      have HH := Lib.hid (implHas_any lo hi _ _ y.ty k v W1 (hv.below HB1.out hB).1 (by omega))
      have HG : Hid (∀ u, Below w.heap.size w u → u.cell? ⟨0, 0, none⟩ = some (.iface 270 (.pointer (some aU)))) := fun u hu => (hE.below hu hn).gU
      have hwu := word_unk hE.nd
      have p0 := HR0.out.cell 0
      have p1 := HR0.out.cell 1
      have s0 := HR1.out.cell 0
      have s1 := HR1.out.cell 1
      simp only [List.getElem?_cons_zero, List.getElem?_cons_succ] at p0 p1 s0 s1
      rw [hW1] at p0 p1 s0 s1
      have hhv : hasV y.ty k v = hasV0 y.ty.sizes k v := by unfold hasV; rw [hy.ty, Bool.true_and]
      rw [hhv] at HH
      clear hv hE hnod hc ih hhv
      go_enter Tryz.func77, Tryz.ntmps77
      go_wp2_with fail
      rw [← hW1]
      clear hW1 p0 p1 s0 s1
      refine HH.out.mono ?_
      rintro e w2 ⟨rfl, hb2⟩
      have HB2 : Hid (Below w.heap.size w w2) := HB1.out.trans (hb2.mono (by omega))
      have r1 := HR1.out.below hb2 (by omega)
      have s0 := r1.cell 0
      have s1 := r1.cell 1
      simp only [List.getElem?_cons_zero, List.getElem?_cons_succ] at s0 s1
      have g0 := HG.out w2 HB2.out
      clear hb2 r1 HH
      cases hh : hasV0 y.ty.sizes k v with
      | true =>
        have HEL : Hid (elM y (.lit k v) = .ok (.lit k v)) := by show _ = _; rw [elM, if_pos hh]
        clear g0
        go_wp2
        try rw [Exit.noGoto_ret]
        refine bodyPost_ret (v := .tuple #[.iface 145 (.agg #[.int .i64 k, .int .i64 v]), .nilIface]) (by simp [results, Tryz.results77, go_sem]) rfl ?_
        exact ⟨.inl ⟨_, _, HEL.out, rfl, rfl⟩, HB2.out⟩
      | false =>
        have HEL : Hid (elM y (.lit k v) = .error wUnk) := by show _ = _; rw [elM, if_neg (by rw [hh]; decide)]
        have HWU := Lib.hid hwu
        clear s0 s1 hwu
        go_wp2_with fail
        go_quiet (fail)
        go_wp2
        try rw [Exit.noGoto_ret]
        refine bodyPost_ret (v := .tuple #[.nilIface, .iface 270 (.pointer (some aU))]) (by simp [results, Tryz.results77, go_sem]) rfl ?_
        exact ⟨.inr ⟨aU, _, by rw [HWU.out]; exact HEL.out, rfl, .base, by simp⟩, below_drewN HB2.out _⟩
    | true =>
      obtain ⟨ps, vs, rfl, hown, hnods⟩ := hnod.open hc
      obtain ⟨a, c, r, hLe, hhd⟩ := tmT_second hok
      have hh := (hhd hc).1
      rw [hh]
      obtain ⟨PA, PC, rfl⟩ := own_slice' hown
      obtain ⟨W1, hW1⟩ : ∃ u, u = (w.alloc (.cells #[.slice A1 y.ty.sizes.length cap1, .slice A2 y.ty.cos.length cap2, .slice A3 y.fs.length cap3] 37)).alloc (.cells #[.string (str [a]), .slice PA (partsT t).length PC] 148) := ⟨_, rfl⟩
      have HB1 : Hid (Below w.heap.size w W1) := by show Below _ _ _; rw [hW1]; exact ((Below.refl _ _).alloc (Nat.le_refl _) _).alloc (by simp) _
      have hW1s : W1.heap.size = w.heap.size + 2 := by rw [hW1]; simp
      have HR0 : Hid (Row W1 w.heap.size 37 [.slice A1 y.ty.sizes.length cap1, .slice A2 y.ty.cos.length cap2, .slice A3 y.fs.length cap3]) := by show Row _ _ _ _; rw [hW1]; exact (Row.new _ _ _).alloc _
      have HR1 : Hid (Row W1 (w.heap.size + 1) 148 [.string (str [a]), .slice PA (partsT t).length PC]) := by
        show Row _ _ _ _
        rw [hW1]
        have h := Row.new (w.alloc (.cells #[.slice A1 y.ty.sizes.length cap1, .slice A2 y.ty.cos.length cap2, .slice A3 y.fs.length cap3] 37)) 148 [.string (str [a]), .slice PA (partsT t).length PC]
        rwa [World.size_alloc] at h
      have HEC := Lib.hid (explicitCall_any lo hi n aU aN aW aM aL _ _ _ y hy hbk t hc hok a hh (.slice PA (partsT t).length PC) vs B W1
        (fun k hk v hvk u hu => by
          obtain ⟨v', h1, h2⟩ := hnods.at k hk
          rw [hvk] at h1
          injection h1 with h1
          subst h1
          have hbu := HB1.out.trans (hu.mono (by omega))
          have hpl := partsT_len (List.getElem_mem hk)
          exact ih (partsT t)[k] v B u (by omega) (partsT_ok hok (List.getElem_mem hk)) (h2.same fun g _ hg => hbu.block g hg) (hv.below hbu hB) (Nat.le_trans hB hbu.size) (hE.below hbu hn) (Nat.le_trans hn hbu.size))
        (hv.below HB1.out hB) (by omega) (ownsRow_below hown HB1.out (Nat.le_refl _)) hnods.len (hE.below HB1.out hn) (by omega))
      have p0 := HR0.out.cell 0
      have p1 := HR0.out.cell 1
      have p2 := HR0.out.cell 2
      have s0 := HR1.out.cell 0
      have s1 := HR1.out.cell 1
      simp only [List.getElem?_cons_zero, List.getElem?_cons_succ] at p0 p1 p2 s0 s1
      rw [hW1] at p0 p1 p2 s0 s1
      obtain ⟨np, hnp⟩ : ∃ np, np = (partsT t).length := ⟨_, rfl⟩
      rw [← hnp] at hW1 HR1 HEC s0 s1 p0 p1 p2 ⊢
      clear hv hE hnod hc ih hown hnods hhd hLe hh hq hnp
      go_enter Tryz.func77, Tryz.ntmps77
      go_wp2_with fail
      rw [← hW1]
      clear hW1 p0 p1 p2 s0 s1
      refine HEC.out.mono ?_
      rintro e w2 ⟨⟨m, o, hel, rfl, hno⟩ | ⟨ae, e0, hel, rfl, hch, hae⟩, hb2⟩
      · have HB2 : Hid (Below w.heap.size w w2) := HB1.out.trans (hb2.mono (by omega))
        have HEL := Lib.hid hel
        have HNO := Lib.hid hno
        obtain ⟨T, x, rfl⟩ := hno.form
        clear hb2 hel hno HEC
        go_wp2
        try rw [Exit.noGoto_ret]
        refine bodyPost_ret (v := .tuple #[.iface T x, .nilIface]) (by simp [results, Tryz.results77, go_sem]) rfl ?_
        exact ⟨.inl ⟨m, _, HEL.out, rfl, HNO.out.base (by omega)⟩, HB2.out⟩
      · have HB2 : Hid (Below w.heap.size w w2) := HB1.out.trans (hb2.mono (by omega))
        have HEL := Lib.hid hel
        have HCH := Lib.hid hch
        have r1 := HR1.out.below hb2 (by omega)
        have s0 := r1.cell 0
        simp only [List.getElem?_cons_zero] at s0
        obtain ⟨T, x, rfl⟩ := hch.form
        clear hb2 hel hch HEC r1
        go_wp2_with fail
        go_quiet (fail)
        go_wp2
        try rw [Exit.noGoto_ret]
        refine bodyPost_ret (v := .tuple #[.nilIface, .iface 181 (.agg #[.string (str [a]), .iface T x])]) (by simp [results, Tryz.results77, go_sem]) rfl ?_
        exact ⟨.inr ⟨ae, _, HEL.out, rfl, .call _ _ HCH.out, hae⟩, below_drewN HB2.out _⟩

/-- What is made of a text, or the word for why nothing is. -/
noncomputable def elZ (y : Sy) (L : List UInt8) : Except ByteArray Mk :=
  if syB y = true then match parseT L with
    | some t => match elM y t with
      | .ok m => if (mkT m).length ≤ 400 then .ok m else .error wLong
      | .error wd => .error wd
    | none => .error wUnk
  else .error wUnk
theorem elT_elZ (y : Sy) (L : List UInt8) : elT y L = match elZ y L with
    | .ok m => (mkT m, kindM y m, wOk)
    | .error wd => ([], -1, wd) := by
  unfold elT elZ
  by_cases hs : syB y = true
  · rw [if_pos hs, if_pos hs]
    cases hp : parseT L with
    | none => rfl
    | some t =>
      dsimp only
      cases hm : elM y t with
      | error e => rfl
      | ok m =>
        dsimp only
        by_cases hl : (mkT m).length ≤ 400
        · rw [if_pos hl, if_pos hl]
        · rw [if_neg hl, if_neg hl]
  · rw [if_neg hs, if_neg hs]
theorem elZ_ok {y : Sy} {L : List UInt8} {m : Mk} (h : elZ y L = .ok m) : SyOk y ∧ MkOk y m ∧ (mkT m).length ≤ 400 := by
  unfold elZ at h
  split at h
  · rename_i hs
    split at h
    · rename_i t ht
      split at h
      · rename_i m' hm
        split at h
        · rename_i hl
          injection h with h
          subst h
          exact ⟨syB_iff.1 hs, elM_ok (syB_iff.1 hs) (parseT_tmT.1 ht).1 hm, hl⟩
        · cases h
      · cases h
    · cases h
  · cases h
/-- What elaborated comes to. -/
def ElPost (y : Sy) (L : List UInt8) (A : List Addr) (wd : Addr → ByteArray) (w : World) (e : Ending) (w' : World) : Prop :=
  ((∃ m o, elZ y L = .ok m ∧ e = .returned (.tuple #[o, .nilIface]) ∧ MNodeAt w' w.heap.size m o) ∨ (∃ a e0, elZ y L = .error (wd a) ∧ e = .returned (.tuple #[.nilIface, e0]) ∧ ErCh a e0 ∧ a ∈ A)) ∧ Below w.heap.size w w'

set_option maxRecDepth 100000 in
set_option maxHeartbeats 1000000 in
theorem elaborated_any (lo hi n : Nat) (a aU aN aW aM aL : Addr) (sv cv fv : Value) (y : Sy) (hbk : y.bulk ≤ 1048576) (L : List UInt8) (w : World) (hv : SyAt w lo hi sv cv fv y) (hB : hi ≤ w.heap.size) (he : Ev w n a) (hE : Er5 w n aU aN aW aM aL) (hn : n ≤ w.heap.size) (hm : L.length ≤ 1048576) :
    Calls Tryz.prog 40 #[.agg #[sv, cv, fv], .string (str L)] w fun e w' => ElPost y L [aU, aN, aW, aM, aL] (wordV aN aW aM aL) w e w' := by
  obtain ⟨A1, cap1, rfl, _, _, _⟩ := hv.1.1.form
  obtain ⟨A2, cap2, rfl, _, _, _⟩ := hv.1.2.form
  obtain ⟨A3, cap3, rfl, _, _, _⟩ := hv.2.form
  have hb1 : Below w.heap.size w (w.alloc (.cells #[.slice A1 y.ty.sizes.length cap1, .slice A2 y.ty.cos.length cap2, .slice A3 y.fs.length cap3] 37)) := (Below.refl _ _).alloc (Nat.le_refl _) _
  have HT := Lib.hid (readTerm_any L n a _ (he.keep (b := w.heap.size) ((Keep.refl _ _).of_below hb1) hn) (by rw [World.size_alloc]; omega) hm)
  have HR1 := Lib.hid (Row.new w 37 [.slice A1 y.ty.sizes.length cap1, .slice A2 y.ty.cos.length cap2, .slice A3 y.fs.length cap3])
  have HB1 := Lib.hid hb1
  have HV := Lib.hid hv
  have HE := Lib.hid hE
  have HG : Hid (∀ u, Below w.heap.size w u → u.cell? ⟨0, 0, none⟩ = some (.iface 270 (.pointer (some aU)))) := fun u hu => (hE.below hu hn).gU
  have HWU := Lib.hid (word_unk hE.nd)
  have hs1 : w.heap.size < (w.alloc (.cells #[.slice A1 y.ty.sizes.length cap1, .slice A2 y.ty.cos.length cap2, .slice A3 y.fs.length cap3] 37)).heap.size := by rw [World.size_alloc]; omega
  have Hs1 := Lib.hid hs1
  clear hv hE he hb1 hs1
  go_enter Tryz.func40, Tryz.ntmps40
  go_wp2_with fail
  refine HT.out.mono ?_
  rintro e w2 ⟨⟨t, o, hp, rfl, hnod⟩ | ⟨hp, rfl⟩, hb2⟩
  · have hs2 := hb2.size
    have HB2 := Lib.hid (HB1.out.trans (hb2.mono (Nat.le_of_lt Hs1.out)))
    have hwl : w.heap.size < w2.heap.size := Nat.lt_of_lt_of_le Hs1.out hs2
    have hr2 := HR1.out.below hb2 Hs1.out
    have q0 := hr2.cell 0
    have q1 := hr2.cell 1
    have q2 := hr2.cell 2
    simp only [List.getElem?_cons_zero, List.getElem?_cons_succ] at q0 q1 q2
    have HR2 := Lib.hid hr2
    have HSV := Lib.hid (implSysValid_any lo hi _ _ _ y w2 (HV.out.below HB2.out hB) (Nat.le_trans hB HB2.out.size))
    obtain ⟨hok, hLt, h60⟩ := parseT_tmT.1 hp
    obtain ⟨T, x, rfl⟩ : ∃ T x, o = .iface T x := by
      cases hc : isCallT t with
      | false => obtain ⟨k, v, _, e⟩ := hnod.lit hc; exact ⟨_, _, e⟩
      | true => obtain ⟨ps, vs, e, _⟩ := hnod.open hc; exact ⟨_, _, e⟩
    have HNOD := Lib.hid hnod
    have HP := Lib.hid hp
    clear hb2 hs2 hr2 HT hnod hp HR1
    go_wp2_with fail
    refine HSV.out.mono ?_
    rintro e w3 ⟨rfl, hb3⟩
    have HB3 := Lib.hid (HB2.out.trans (hb3.mono HB2.out.size))
    have hs3 := hb3.size
    cases hsy : syB y with
    | false =>
      have HZ : Hid (elZ y L = .error wUnk) := by show _ = _; unfold elZ; rw [if_neg (by rw [hsy]; decide)]
      have g0 := HG.out w3 HB3.out
      clear q0 q1 q2 hb3 HSV
      go_wp2_with fail
      go_quiet (fail)
      go_wp2
      try rw [Exit.noGoto_ret]
      refine bodyPost_ret (v := .tuple #[.nilIface, .iface 270 (.pointer (some aU))]) (by simp [results, Tryz.results40, go_sem]) rfl ?_
      exact ⟨.inr ⟨aU, _, by rw [HWU.out]; exact HZ.out, rfl, .base, by simp⟩, below_drewN HB3.out _⟩
    | true =>
      have hyok := syB_iff.1 hsy
      have hr3 := HR2.out.below hb3 hwl
      have q0 := hr3.cell 0
      have q1 := hr3.cell 1
      have q2 := hr3.cell 2
      simp only [List.getElem?_cons_zero, List.getElem?_cons_succ] at q0 q1 q2
      have HEX := Lib.hid (explicit_any lo hi n aU aN aW aM aL _ _ _ y hyok hbk (tmT t).length t _ _ w3 (Nat.le_refl _) hok (HNOD.out.same fun g _ hg => hb3.block g hg) (HV.out.below HB3.out hB) (Nat.le_trans hB HB3.out.size) (HE.out.below HB3.out hn) (Nat.le_trans hn HB3.out.size))
      have HZ : Hid (elZ y L = match elM y t with
        | .ok m => if (mkT m).length ≤ 400 then .ok m else .error wLong
        | .error wd => .error wd) := by show _ = _; unfold elZ; rw [if_pos hsy, HP.out]
      clear hb3 hr3 HSV HR2 hsy HG
      go_wp2_with fail
      refine HEX.out.mono ?_
      rintro e w4 ⟨⟨m, o, hel, rfl, hno⟩ | ⟨ae, e0, hel, rfl, hch, hae⟩, hb4⟩
      · have HB4 := Lib.hid (HB3.out.trans (hb4.mono HB3.out.size))
        rw [hel] at HZ
        have hmok := elM_ok hyok hok hel
        have hml := elM_len hel
        rw [← hLt] at hml
        obtain ⟨T2, x2, rfl⟩ := hno.form
        have hE4 := HE.out.below HB4.out hn
        have HW := Lib.hid (within_any hno (by omega) hmok w4 (Below.refl _ _) (show Lg w4 n _ from ⟨hE4.low.2.2.2.2, hE4.gL⟩) (Nat.le_trans hn HB4.out.size))
        have HNO := Lib.hid hno
        have HWL := Lib.hid (word_long hE4.nd)
        clear hb4 hel hno hE4 q0 q1 q2 HEX
        go_wp2_with fail
        refine HW.out.mono ?_
        rintro e w5 ⟨rfl, hb5⟩
        have HB5 := Lib.hid (HB4.out.trans (hb5.mono HB4.out.size))
        by_cases h4 : (mkT m).length ≤ 400
        · have HNO5 : Hid (MNodeAt w5 w.heap.size m (.iface T2 x2)) := (HNO.out.same fun g _ hg => hb5.block g hg).base (Nat.le_trans (Nat.le_of_lt hwl) hs3)
          rw [if_pos h4]
          rw [if_pos h4] at HZ
          clear hb5 HW h4 hml
          go_wp2
          try rw [Exit.noGoto_ret]
          refine bodyPost_ret (v := .tuple #[.iface T2 x2, .nilIface]) (by simp [results, Tryz.results40, go_sem]) rfl ?_
          exact ⟨.inl ⟨m, _, HZ.out, rfl, HNO5.out⟩, HB5.out⟩
        · rw [if_neg h4]
          rw [if_neg h4] at HZ
          clear hb5 HW h4 hml
          go_wp2
          try rw [Exit.noGoto_ret]
          refine bodyPost_ret (v := .tuple #[.nilIface, .iface 270 (.pointer (some aL))]) (by simp [results, Tryz.results40, go_sem]) rfl ?_
          exact ⟨.inr ⟨aL, _, by rw [HWL.out]; exact HZ.out, rfl, .base, by simp⟩, HB5.out⟩
      · have HB4 := Lib.hid (HB3.out.trans (hb4.mono HB3.out.size))
        rw [hel] at HZ
        have HCH := Lib.hid hch
        obtain ⟨T2, x2, rfl⟩ := hch.form
        clear hb4 hel hch HEX q0 q1 q2
        go_wp2
        try rw [Exit.noGoto_ret]
        refine bodyPost_ret (v := .tuple #[.nilIface, .iface T2 x2]) (by simp [results, Tryz.results40, go_sem]) rfl ?_
        exact ⟨.inr ⟨ae, _, HZ.out, rfl, HCH.out, hae⟩, HB4.out⟩
  · have HB2 := Lib.hid (HB1.out.trans (hb2.mono (Nat.le_of_lt Hs1.out)))
    have HZ : Hid (elZ y L = .error wUnk) := by show _ = _; unfold elZ; rw [hp]; split <;> rfl
    have g0 := HG.out w2 HB2.out
    clear hb2 HT hp
    go_wp2_with fail
    go_quiet (fail)
    go_wp2
    try rw [Exit.noGoto_ret]
    refine bodyPost_ret (v := .tuple #[.nilIface, .iface 270 (.pointer (some aU))]) (by simp [results, Tryz.results40, go_sem]) rfl ?_
    exact ⟨.inr ⟨aU, _, by rw [HWU.out]; exact HZ.out, rfl, .base, by simp⟩, below_drewN HB2.out _⟩
end Go.Proofs.YtgkfddhhkjblgaaGreatDoor

namespace Go.Proofs.YtgkfddhhkjblgaaGreatDoor
open Go.RowKit Go.Shelf

set_option maxRecDepth 100000 in
set_option maxHeartbeats 1000000 in
theorem implElab_any (lo hi n : Nat) (a aU aN aW aM aL : Addr) (sv cv fv : Value) (y : Sy) (hbk : y.bulk ≤ 1048576) (L : List UInt8) (w : World) (hv : SyAt w lo hi sv cv fv y) (hB : hi ≤ w.heap.size) (he : Ev w n a) (hE : Er5 w n aU aN aW aM aL) (hn : n ≤ w.heap.size) (hm : L.length ≤ 1048576) :
    Calls Tryz.prog 13 #[.agg #[sv, cv, fv], .string (str L)] w fun e w' => e = .returned (.tuple #[.string (str (elT y L).1), .int .i64 (elT y L).2.1, .string (elT y L).2.2]) ∧ Below w.heap.size w w' := by
  obtain ⟨A1, cap1, rfl, _, _, _⟩ := hv.1.1.form
  obtain ⟨A2, cap2, rfl, _, _, _⟩ := hv.1.2.form
  obtain ⟨A3, cap3, rfl, _, _, _⟩ := hv.2.form
  have hb1 : Below w.heap.size w (w.alloc (.cells #[.slice A1 y.ty.sizes.length cap1, .slice A2 y.ty.cos.length cap2, .slice A3 y.fs.length cap3] 37)) := (Below.refl _ _).alloc (Nat.le_refl _) _
  have hs1 : w.heap.size < (w.alloc (.cells #[.slice A1 y.ty.sizes.length cap1, .slice A2 y.ty.cos.length cap2, .slice A3 y.fs.length cap3] 37)).heap.size := by rw [World.size_alloc]; omega
  have HC := Lib.hid (elaborated_any lo hi n a aU aN aW aM aL _ _ _ y hbk L _ (hv.below hb1 hB) (Nat.le_trans hB (Nat.le_of_lt hs1)) (he.keep (b := w.heap.size) ((Keep.refl _ _).of_below hb1) hn) (hE.below hb1 hn) (Nat.le_trans hn (Nat.le_of_lt hs1)) hm)
  have HR1 := Lib.hid (Row.new w 37 [.slice A1 y.ty.sizes.length cap1, .slice A2 y.ty.cos.length cap2, .slice A3 y.fs.length cap3])
  have p0 := HR1.out.cell 0
  have p1 := HR1.out.cell 1
  have p2 := HR1.out.cell 2
  simp only [List.getElem?_cons_zero, List.getElem?_cons_succ] at p0 p1 p2
  have HB1 := Lib.hid hb1
  have HV := Lib.hid hv
  have HE := Lib.hid hE
  have Hs1 := Lib.hid hs1
  clear hv hE he hb1 hs1
  go_enter Tryz.func13, Tryz.ntmps13
  go_wp2_with fail
  refine HC.out.mono ?_
  clear HC p0 p1 p2
  rintro e w2 ⟨⟨m, o, hz, rfl, hno⟩ | ⟨ae, e0, hz, rfl, hch, hae⟩, hb2⟩
  · have HB2 := Lib.hid (HB1.out.trans (hb2.mono (Nat.le_of_lt Hs1.out)))
    have hr2 := HR1.out.below hb2 Hs1.out
    have hwl : w.heap.size < w2.heap.size := Nat.lt_of_lt_of_le Hs1.out hb2.size
    obtain ⟨hy, hmok, hl4⟩ := elZ_ok hz
    have HTT : Hid (elT y L = (mkT m, kindM y m, wOk)) := by show _ = _; rw [elT_elZ, hz]
    obtain ⟨T, x, fid, rfl, hmeth, hnil, hent, hkd⟩ := hno.kind hmok
    have HMT : Hid (∀ u : World, Below w2.heap.size w2 u → Calls Tryz.prog 42 #[.iface T x] u fun e w' => e = .returned (.string (str (mkT m))) ∧ Below u.heap.size u w') := fun u hu => madeText_all hno (by omega) hmok u hu
    have HKD : Hid (∀ u : World, Below w2.heap.size w2 u → Calls Tryz.prog fid #[x, .agg #[.slice A1 y.ty.sizes.length cap1, .slice A2 y.ty.cos.length cap2, .slice A3 y.fs.length cap3]] u fun e w' => e = .returned (.int .i64 (kindM y m)) ∧ Below u.heap.size u w') := fun u hu => hkd lo hi _ _ _ u (HV.out.below (HB2.out.trans (hu.mono (Nat.le_of_lt hwl))) hB) (Nat.le_trans hB (HB2.out.trans (hu.mono (Nat.le_of_lt hwl))).size)
    have HLD : Hid (∀ u : World, Below w2.heap.size w2 u → u.cell? ⟨w.heap.size, 0, none⟩ = some (.slice A1 y.ty.sizes.length cap1) ∧ u.cell? ⟨w.heap.size, 1, none⟩ = some (.slice A2 y.ty.cos.length cap2) ∧ u.cell? ⟨w.heap.size, 2, none⟩ = some (.slice A3 y.fs.length cap3)) := fun u hu => ⟨(hr2.below hu hwl).cell 0, (hr2.below hu hwl).cell 1, (hr2.below hu hwl).cell 2⟩
    have HST : Hid (Below w2.heap.size w2 w2.drew) := (Below.refl _ _).drew
    generalize mkT m = X at HMT HTT
    generalize kindM y m = KD at HKD HTT
    clear hb2 hr2 hz hno hmok hkd hl4 hy
    go_upto_region 4 with fail
    refine wp_region_inv (by kernel_rfl) (fun dn ac u => ∃ x19 x20 x21 x22 x23 x4 x5 x6, ac = ⟨List.toArray (.agg #[.slice A1 y.ty.sizes.length cap1, .slice A2 y.ty.cos.length cap2, .slice A3 y.fs.length cap3] :: .string (str L) :: .pointer (some ⟨w.heap.size, 0, none⟩) :: undef :: x4 :: x5 :: x6 :: .iface T x :: .nilIface :: .tuple #[.iface T x, .nilIface] :: .agg #[.slice A1 y.ty.sizes.length cap1, .slice A2 y.ty.cos.length cap2, .slice A3 y.fs.length cap3] :: .string (str L) :: .tuple #[.iface T x, .nilIface] :: .iface T x :: .nilIface :: .nilIface :: .bool false :: undef :: undef :: x19 :: x20 :: x21 :: x22 :: x23 :: []), []⟩ ∧ DetQ [fun v : Value => v = .iface T x, fun v : Value => v = .string (str X), fun v : Value => v = .iface T x, fun v : Value => v = .agg #[.slice A1 y.ty.sizes.length cap1, .slice A2 y.ty.cos.length cap2, .slice A3 y.fs.length cap3], fun v : Value => v = .int .i64 KD, fun v : Value => v = .string (str X), fun v : Value => v = .int .i64 KD, fun v : Value => v = .string ⟨#[111, 107]⟩] dn [x19, x20, x21, x22, x23, x4, x5, x6] ∧ Ch dn [] (fun _ u => Below w2.heap.size w2 u) u ∧ True) (of_decide_eq_true (by kernel_rfl)) ⟨_, _, _, _, _, _, _, _, rfl, DetQ.start (by rfl), Ch.start HST.out, trivial⟩ ?_ ?_
    · rintro dn ac u i8 op8 hop hfi hdep ⟨x19, x20, x21, x22, x23, x4, x5, x6, rfl, hD, hC, -⟩
      have hil : i8 < 8 := by have := (Array.getElem?_eq_some_iff.1 hop).1; simpa using this
      obtain rfl | rfl | rfl | rfl | rfl | rfl | rfl | rfl : i8 = 0 ∨ i8 = 1 ∨ i8 = 2 ∨ i8 = 3 ∨ i8 = 4 ∨ i8 = 5 ∨ i8 = 6 ∨ i8 = 7 := by omega
      all_goals
        obtain rfl := Option.some.inj hop
        refine wpOp_step hop fun K hK => ?_
        simp [Region.binds] at hdep
        clear hop
      · refine det_yes rfl ?_
        have HD := Lib.hid hD
        have HC := Lib.hid hC
        clear hD hC
        unfold Oper.wp
        go_simp
        exact hK _ _ ⟨_, _, _, _, _, _, _, _, rfl, HD.out.step 0 rfl rfl, HC.out.other 0 (by decide), trivial⟩
      · obtain rfl : x19 = .iface T x := hD.get (P := fun v : Value => v = .iface T x) 0 (by simp [hdep]) rfl rfl
        obtain ⟨j8, hj8, -, hW⟩ := hC.ex
        refine det_yes rfl ?_
        have HD := Lib.hid hD
        clear hD hC
        have hbu : Below w2.heap.size w2 u := hW
        clear hW
        unfold Oper.wp
        go_simp
        refine (HMT.out u hbu).mono ?_
        rintro e u2 ⟨rfl, hb8⟩
        have HW2 : (fun _ u => Below w2.heap.size w2 u) 0 u2 := hbu.trans (hb8.mono hbu.size)
        exact hK _ _ ⟨_, _, _, _, _, _, _, _, rfl, HD.out.step 1 rfl (by rfl), ⟨⟨0, Nat.zero_le _, fun i9 h9 => absurd h9 (by simp), HW2⟩⟩, trivial⟩
      · refine det_yes rfl ?_
        have HD := Lib.hid hD
        have HC := Lib.hid hC
        clear hD hC
        unfold Oper.wp
        go_simp
        exact hK _ _ ⟨_, _, _, _, _, _, _, _, rfl, HD.out.step 2 rfl rfl, HC.out.other 2 (by decide), trivial⟩
      · obtain ⟨j8, hj8, -, hW⟩ := hC.ex
        have hbu : Below w2.heap.size w2 u := hW
        clear hW
        obtain ⟨d1, d2, d3⟩ := HLD.out u hbu
        refine det_yes rfl ?_
        have HD := Lib.hid hD
        have HC := Lib.hid hC
        clear hD hC
        unfold Oper.wp
        go_simp
        exact hK _ _ ⟨_, _, _, _, _, _, _, _, rfl, HD.out.step 3 rfl rfl, HC.out.other 3 (by decide), trivial⟩
      · obtain rfl : x21 = .iface T x := hD.get (P := fun v : Value => v = .iface T x) 2 (by simp [hdep]) rfl rfl
        obtain rfl : x22 = .agg #[.slice A1 y.ty.sizes.length cap1, .slice A2 y.ty.cos.length cap2, .slice A3 y.fs.length cap3] := hD.get (P := fun v : Value => v = .agg #[.slice A1 y.ty.sizes.length cap1, .slice A2 y.ty.cos.length cap2, .slice A3 y.fs.length cap3]) 3 (by simp [hdep]) rfl rfl
        obtain ⟨j8, hj8, -, hW⟩ := hC.ex
        refine det_yes rfl ?_
        have HD := Lib.hid hD
        clear hD hC
        have hbu : Below w2.heap.size w2 u := hW
        clear hW
        unfold Oper.wp
        go_simp
        refine (HKD.out u hbu).mono ?_
        rintro e u2 ⟨rfl, hb8⟩
        have HW2 : (fun _ u => Below w2.heap.size w2 u) 0 u2 := hbu.trans (hb8.mono hbu.size)
        exact hK _ _ ⟨_, _, _, _, _, _, _, _, rfl, HD.out.step 4 rfl (by rfl), ⟨⟨0, Nat.zero_le _, fun i9 h9 => absurd h9 (by simp), HW2⟩⟩, trivial⟩
      · obtain rfl : x20 = .string (str X) := hD.get (P := fun v : Value => v = .string (str X)) 1 (by simp [hdep]) rfl rfl
        refine det_yes rfl ?_
        have HD := Lib.hid hD
        have HC := Lib.hid hC
        clear hD hC
        unfold Oper.wp
        go_simp
        exact hK _ _ ⟨_, _, _, _, _, _, _, _, rfl, HD.out.step 5 rfl rfl, HC.out.other 5 (by decide), trivial⟩
      · obtain rfl : x23 = .int .i64 KD := hD.get (P := fun v : Value => v = .int .i64 KD) 4 (by simp [hdep]) rfl rfl
        refine det_yes rfl ?_
        have HD := Lib.hid hD
        have HC := Lib.hid hC
        clear hD hC
        unfold Oper.wp
        go_simp
        exact hK _ _ ⟨_, _, _, _, _, _, _, _, rfl, HD.out.step 6 rfl rfl, HC.out.other 6 (by decide), trivial⟩
      · refine det_yes rfl ?_
        have HD := Lib.hid hD
        have HC := Lib.hid hC
        clear hD hC
        unfold Oper.wp
        go_simp
        exact hK _ _ ⟨_, _, _, _, _, _, _, _, rfl, HD.out.step 7 rfl rfl, HC.out.other 7 (by decide), trivial⟩
    · rintro dn ac u hall ⟨x19, x20, x21, x22, x23, x4, x5, x6, rfl, hD, hC, -⟩
      obtain rfl : x19 = .iface T x := hD.get (P := fun v : Value => v = .iface T x) 0 (hall 0 (by decide)) rfl rfl
      obtain rfl : x20 = .string (str X) := hD.get (P := fun v : Value => v = .string (str X)) 1 (hall 1 (by decide)) rfl rfl
      obtain rfl : x21 = .iface T x := hD.get (P := fun v : Value => v = .iface T x) 2 (hall 2 (by decide)) rfl rfl
      obtain rfl : x22 = .agg #[.slice A1 y.ty.sizes.length cap1, .slice A2 y.ty.cos.length cap2, .slice A3 y.fs.length cap3] := hD.get (P := fun v : Value => v = .agg #[.slice A1 y.ty.sizes.length cap1, .slice A2 y.ty.cos.length cap2, .slice A3 y.fs.length cap3]) 3 (hall 3 (by decide)) rfl rfl
      obtain rfl : x23 = .int .i64 KD := hD.get (P := fun v : Value => v = .int .i64 KD) 4 (hall 4 (by decide)) rfl rfl
      obtain rfl : x4 = .string (str X) := hD.get (P := fun v : Value => v = .string (str X)) 5 (hall 5 (by decide)) rfl rfl
      obtain rfl : x5 = .int .i64 KD := hD.get (P := fun v : Value => v = .int .i64 KD) 6 (hall 6 (by decide)) rfl rfl
      obtain rfl : x6 = .string ⟨#[111, 107]⟩ := hD.get (P := fun v : Value => v = .string ⟨#[111, 107]⟩) 7 (hall 7 (by decide)) rfl rfl
      obtain ⟨j8, hj8, -, hW⟩ := hC.ex
      clear hall hD hC
      have HBU : Hid (Below w2.heap.size w2 u) := hW
      clear hW
      go_wp2
      try rw [Exit.noGoto_ret]
      refine bodyPost_ret (v := .tuple #[.string (str X), .int .i64 KD, .string wOk]) (by simp [results, Tryz.results13, go_sem, wOk]) rfl ?_
      exact ⟨by rw [HTT.out], HB2.out.trans (HBU.out.mono HB2.out.size)⟩
  · have HB2 := Lib.hid (HB1.out.trans (hb2.mono (Nat.le_of_lt Hs1.out)))
    have HTT : Hid (elT y L = ([], -1, wordV aN aW aM aL ae)) := by show _ = _; rw [elT_elZ, hz]
    have HW := Lib.hid (wordFor_any n aU aN aW aM aL ae e0 hch hae w2 (HE.out.below HB2.out hn) (Nat.le_trans hn HB2.out.size))
    obtain ⟨T, x, rfl⟩ := hch.form
    clear hb2 hch hz hae
    generalize wordV aN aW aM aL ae = WD at HTT HW
    go_wp2_with fail
    refine HW.out.mono ?_
    rintro e w3 ⟨rfl, hb3⟩
    have HB3 := Lib.hid (HB2.out.trans (hb3.mono HB2.out.size))
    clear hb3 HW
    go_wp2
    try rw [Exit.noGoto_ret]
    refine bodyPost_ret (v := .tuple #[.string ⟨#[]⟩, .int .i64 (-1), .string WD]) (by simp [results, Tryz.results13, go_sem]) rfl ?_
    exact ⟨by rw [HTT.out]; rfl, HB3.out⟩

set_option maxRecDepth 100000 in
set_option maxHeartbeats 1000000 in
theorem implTypeOf_any (lo hi n : Nat) (a aU aN aW aM aL : Addr) (sv cv fv : Value) (y : Sy) (hbk : y.bulk ≤ 1048576) (L : List UInt8) (w : World) (hv : SyAt w lo hi sv cv fv y) (hB : hi ≤ w.heap.size) (he : Ev w n a) (hE : Er5 w n aU aN aW aM aL) (hn : n ≤ w.heap.size) (hm : L.length ≤ 1048576) :
    Calls Tryz.prog 16 #[.agg #[sv, cv, fv], .string (str L)] w fun e w' => e = .returned (.int .i64 (elT y L).2.1) ∧ Below w.heap.size w w' := by
  obtain ⟨A1, cap1, rfl, _, _, _⟩ := hv.1.1.form
  obtain ⟨A2, cap2, rfl, _, _, _⟩ := hv.1.2.form
  obtain ⟨A3, cap3, rfl, _, _, _⟩ := hv.2.form
  have hb1 : Below w.heap.size w (w.alloc (.cells #[.slice A1 y.ty.sizes.length cap1, .slice A2 y.ty.cos.length cap2, .slice A3 y.fs.length cap3] 37)) := (Below.refl _ _).alloc (Nat.le_refl _) _
  have hs1 : w.heap.size < (w.alloc (.cells #[.slice A1 y.ty.sizes.length cap1, .slice A2 y.ty.cos.length cap2, .slice A3 y.fs.length cap3] 37)).heap.size := by rw [World.size_alloc]; omega
  have HC := Lib.hid (implElab_any lo hi n a aU aN aW aM aL _ _ _ y hbk L _ (hv.below hb1 hB) (Nat.le_trans hB (Nat.le_of_lt hs1)) (he.keep (b := w.heap.size) ((Keep.refl _ _).of_below hb1) hn) (hE.below hb1 hn) (Nat.le_trans hn (Nat.le_of_lt hs1)) hm)
  have HR1 := Row.new w 37 [.slice A1 y.ty.sizes.length cap1, .slice A2 y.ty.cos.length cap2, .slice A3 y.fs.length cap3]
  have p0 := HR1.cell 0
  have p1 := HR1.cell 1
  have p2 := HR1.cell 2
  simp only [List.getElem?_cons_zero, List.getElem?_cons_succ] at p0 p1 p2
  have HB1 := Lib.hid hb1
  clear hv hE he hb1 HR1 hs1
  generalize elT y L = R at HC ⊢
  obtain ⟨R1, R2, R3⟩ := R
  dsimp only at HC ⊢
  go_enter Tryz.func16, Tryz.ntmps16
  go_wp2_with fail
  refine HC.out.mono ?_
  clear p0 p1 p2 HC
  rintro e w2 ⟨rfl, hb2⟩
  have HB2 := Lib.hid (HB1.out.trans (hb2.mono (by rw [World.size_alloc]; omega)))
  clear hb2 HB1
  go_wp2
  go_ret
  exact ⟨rfl, HB2.out⟩
end Go.Proofs.YtgkfddhhkjblgaaGreatDoor

namespace Go.Proofs.YtgkfddhhkjblgaaGreatDoor
open Go.RowKit

theorem Ev.under {w w' : World} {n : Nat} {a : Addr} (h : Ev w n a) (hb : Below w.heap.size w w') : Ev w' n a :=
  ⟨h.1, (World.cell?_of_block (w := w) (hb.block _ (World.block_lt_of_cell? _ _ h.2))).trans h.2⟩
end Go.Proofs.YtgkfddhhkjblgaaGreatDoor

namespace Go.Proofs.YtgkfddhhkjblgaaGreatDoor
open Go.ChangeShapes Go.WideShapes Go.ChangeAt Go.RowKit Go.Joins Go.Deep

theorem Tryz.own : ownKnob Tryz.prog.godebug = none := by kernel_rfl
theorem Tryz.laidOut : laidOutB Tryz.prog = true := by kernel_rfl
theorem Tryz.cellsInt : Tryz.prog.cellsOf 3 = 1 := by kernel_rfl
theorem Tryz.cellsTypes : Tryz.prog.cellsOf 25 = 2 := by kernel_rfl
theorem Tryz.cellsCo : Tryz.prog.cellsOf 165 = 3 := by kernel_rfl

theorem wf_I64 {z : Int} (h : (Lit.int .i64 z).wf = true) : I64 z := by
  simpa [Lit.wf, IntKind.min, IntKind.max, IntKind.signed, IntKind.bits, I64] using h

section
variable {H : Type} {enc : TypeId × Value → H} {W : World} {base : Nat} {held : Bool}

/-- A slice of ints that comes in. -/
theorem open_intsAt {fuel : Nat} {v : Value} {x : DataW H × List MemPlace} (h : DataW.trod enc Tryz.prog W base (fun _ => true) held fuel 22 [v] = some x) : ∃ zs, IntsAt W 0 W.heap.size v zs := by
  rcases open_ints Tryz.underlying22 Tryz.underlying3 Tryz.cellsInt h with ⟨hcs, _⟩ | ⟨a, len, cap, zs, hcs, _, hl, hm, hz, _, hcell, hwz⟩
  · simp only [List.cons.injEq, and_true] at hcs
    subst hcs
    exact ⟨[], _, _, rfl, Nat.le_refl _, Nat.zero_le _, fun z hz => absurd hz (by simp), fun h => absurd h (by simp)⟩
  · simp only [List.cons.injEq, and_true] at hcs
    subst hcs
    simp only [if_true] at hz
    have e : (zs.take len).length = len := by rw [List.length_take]; omega
    refine ⟨zs.take len, some a, cap, by rw [e], by rw [e]; exact hl, hm, fun z hzm => wf_I64 (hwz z (List.mem_of_mem_take hzm)), fun h0 => ?_⟩
    rw [e] at h0
    obtain ⟨b, off, spot⟩ := a
    have hspot : spot = none := by simpa [Addr.add] using World.cell?_spot (hcell 0 (by omega))
    subst hspot
    refine ⟨b, off, rfl, Nat.zero_le _, World.block_lt_of_cell? W _ (hcell 0 (by omega)), fun k hk => ?_⟩
    rw [e] at hk
    rw [← add_plain, hcell k (by omega), List.getD_eq_getElem?_getD, List.getD_eq_getElem?_getD, List.getElem?_take_of_lt hk]

theorem three_fields {P : Program} {spare : Nat → Bool} {t : TypeId} {f0 f1 f2 : Field} {n : Nat} {x y z : Value} {r : DataW H × List MemPlace} (hs : P.underlying t = some (.struct #[f0, f1, f2])) (hone : oneCellFields P #[f0, f1, f2] = true)
    (h : DataW.trod enc P W base spare held n t [x, y, z] = some r) :
    ∃ (y0 y1 y2 : DataW H × List MemPlace) (m : Nat), DataW.trod enc P W base spare held m f0.type [x] = some y0 ∧ DataW.trod enc P W base spare held m f1.type [y] = some y1 ∧ DataW.trod enc P W base spare held m f2.type [z] = some y2 := by
  obtain ⟨ys, m, _, _, _, hyl, hf⟩ := DataW.trod_struct hs h
  obtain ⟨o0, k0⟩ := hone_of hone 0 f0 rfl
  obtain ⟨o1, k1⟩ := hone_of hone 1 f1 rfl
  obtain ⟨o2, k2⟩ := hone_of hone 2 f2 rfl
  match ys, hyl with
  | [y0, y1, y2], _ =>
    exact ⟨y0, y1, y2, m, by simpa [o0, k0] using hf 0 f0 rfl, by simpa [o1, k1] using hf 1 f1 rfl, by simpa [o2, k2] using hf 2 f2 rfl⟩

/-- A coercion's three cells. -/
theorem open_coAt {n : Nat} {x y z : Value} {r : DataW H × List MemPlace} (h : DataW.trod enc Tryz.prog W base (fun _ => true) held n 165 [x, y, z] = some r) : ∃ c, CoAt W 0 W.heap.size x y z c := by
  obtain ⟨y0, y1, y2, m, e0, e1, e2⟩ := three_fields Tryz.underlying165 (by kernel_rfl) h
  obtain ⟨a, ea, _, wa⟩ := DataW.trod_int Tryz.underlying3 e0
  obtain ⟨b, eb, _, wb⟩ := DataW.trod_int Tryz.underlying3 e1
  obtain ⟨zs, hz⟩ := open_intsAt e2
  simp only [List.cons.injEq, and_true] at ea eb
  exact ⟨⟨a, b, zs⟩, ea, eb, wf_I64 wa, wf_I64 wb, hz⟩

theorem open_cosAt {fuel : Nat} {v : Value} {x : DataW H × List MemPlace} (h : DataW.trod enc Tryz.prog W base (fun _ => true) held fuel 23 [v] = some x) : ∃ cs, CosAt W 0 W.heap.size v cs := by
  rcases open_slice Tryz.underlying23 h with ⟨hcs, _⟩ | ⟨a, len, cap, m, n, D, Pl, hcs, hb, hl, hm, hmm, hx, hi⟩
  · simp only [List.cons.injEq, and_true] at hcs
    subst hcs
    exact ⟨[], _, _, rfl, Nat.le_refl _, Nat.zero_le _, fun h => absurd h (by simp)⟩
  · simp only [List.cons.injEq, and_true] at hcs
    subst hcs
    simp only [if_true] at hmm
    have key : ∀ i, i < len → ∃ c : Co, ∃ x y z, W.cell? (a.add (i * 3)) = some x ∧ W.cell? ((a.add (i * 3)).add 1) = some y ∧ W.cell? ((a.add (i * 3)).add 2) = some z ∧ CoAt W 0 W.heap.size x y z c := by
      intro i hil
      obtain ⟨cs', hc, ht⟩ := hi i (by omega)
      rw [Tryz.cellsCo] at hc
      obtain ⟨_, hcl, hat⟩ := World.cells?_some hc
      match cs', hcl with
      | [x, y, z], _ =>
        obtain ⟨c, hco⟩ := open_coAt ht
        exact ⟨c, x, y, z, by simpa [Addr.add] using hat 0 (by omega), hat 1 (by omega), hat 2 (by omega), hco⟩
    obtain ⟨f, hfx⟩ := choose_lt key
    have e : ((List.range len).map f).length = len := by simp
    refine ⟨(List.range len).map f, some a, cap, by rw [e], by rw [e]; exact hl, hm, fun h0 => ?_⟩
    rw [e] at h0
    obtain ⟨b, off, spot⟩ := a
    obtain ⟨x0, _, _, h00, _⟩ := hfx 0 h0
    have hspot : spot = none := by simpa [Addr.add] using World.cell?_spot h00
    subst hspot
    refine ⟨b, off, rfl, Nat.zero_le _, ?_, fun k hk => ?_⟩
    · have := World.block_lt_of_cell? W _ h00
      simpa [Addr.add] using this
    · rw [e] at hk
      obtain ⟨x, y, z, c0, c1, c2, hco⟩ := hfx k hk
      rw [add_plain] at c0 c1 c2
      rw [add_plain] at c1 c2
      refine ⟨x, y, z, c0, c1, c2, ?_⟩
      rw [List.getD_eq_getElem?_getD, List.getElem?_eq_getElem (by rw [e]; exact hk)]
      simpa using hco

set_option maxRecDepth 100000 in
/-- Types that come in by value. -/
theorem open_tyAt {r : Reach} {b0 : Nat} {v : Value} {d : DataW H} {p : List MemPlace} (hv : Value.okWide Tryz.prog W r b0 25 v) (h : DataW.Trod enc Tryz.prog W base (fun _ => true) held 25 v d p) :
    ∃ sv cv t, v = .agg #[sv, cv] ∧ TyAt W 0 W.heap.size sv cv t := by
  obtain ⟨c0, c1, y0, y1, m, rfl, _, _, hy0, hy1⟩ := open_agg2 Tryz.underlying25 (by kernel_rfl) Tryz.cellsTypes hv h
  obtain ⟨zs, hz⟩ := open_intsAt hy0
  obtain ⟨cs, hc⟩ := open_cosAt hy1
  exact ⟨c0, c1, ⟨zs, cs⟩, rfl, hz, hc⟩

set_option maxRecDepth 100000 in
/-- A coercion that comes in by value. -/
theorem open_coVal {r : Reach} {b0 : Nat} {v : Value} {d : DataW H} {p : List MemPlace} (hv : Value.okWide Tryz.prog W r b0 165 v) (h : DataW.Trod enc Tryz.prog W base (fun _ => true) held 165 v d p) :
    ∃ x y z c, v = .agg #[x, y, z] ∧ CoAt W 0 W.heap.size x y z c := by
  obtain ⟨cs, rfl, hsz⟩ := okWide_struct Tryz.underlying165 hv
  obtain ⟨l⟩ := cs
  match l, hsz.trans Tryz.cellsCo with
  | [x, y, z], _ =>
    obtain ⟨fuel, hf⟩ := h
    obtain ⟨c, hc⟩ := open_coAt (by simpa [Value.cells] using hf)
    exact ⟨x, y, z, c, rfl, hc⟩
end
end Go.Proofs.YtgkfddhhkjblgaaGreatDoor

