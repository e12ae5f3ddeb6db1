/-
  The contracts of the program's functionsIn, FunctionsIn.
-/
import Derived.Test.YthldlbbkbbgdkaaDoorQmrz
namespace Go.Proofs.YthldlbbkbbgdkaaDoor
open Go.RowKit

/-- The functions of the applied one and of its first k parts. -/
def accX (i : Int) (ts : List Mk) (k : Nat) : List Int := i :: ((ts.take k).map fnM).flatten
theorem accX_step (i : Int) (ts : List Mk) {k : Nat} (hk : k < ts.length) : accX i ts (k + 1) = accX i ts k ++ fnM ts[k] := by
  unfold accX
  rw [List.take_succ_eq_append_getElem hk, List.map_append, List.flatten_append]
  simp
theorem accX_le (i : Int) (ts : List Mk) : ∀ k, (accX i ts k).length ≤ (accX i ts ts.length).length := by
  intro k
  unfold accX
  rw [List.take_length]
  have h : ((ts.take k).map fnM).flatten.length ≤ (ts.map fnM).flatten.length := by
    have e : ts.map fnM = (ts.take k).map fnM ++ (ts.drop k).map fnM := by rw [← List.map_append, List.take_append_drop]
    rw [e, List.flatten_append, List.length_append]
    omega
  simp only [List.length_cons]
  omega
theorem fnM_call {m : Mk} (h : isApM m = true) : fnM m = (ixM m : Int) :: ((partsM m).map fnM).flatten := by
  match m, h with
  | .a0 i, _ => rfl
  | .a1 i m, _ => simp [fnM, partsM, ixM]
  | .a2 i m p, _ => simp [fnM, partsM, ixM]
theorem fnM_part {m p : Mk} (h : p ∈ partsM m) : ∀ z ∈ fnM p, z ∈ fnM m := by
  intro z hz
  match m, h with
  | .a1 i m, h => simp [partsM] at h; subst h; simp [fnM, hz]
  | .a2 i m q, h =>
    simp [partsM] at h
    rcases h with h | h
    · subst h; simp [fnM, hz]
    · subst h; simp [fnM, hz]

set_option maxRecDepth 100000 in
set_option maxHeartbeats 4000000 in
theorem fnIn_any : ∀ (q : Nat) (m : Mk) (B : Nat) (o : Value) (w : World), (mkT m).length ≤ q → (mkT m).length ≤ 1048576 → (∀ z ∈ fnM m, I64 z) → MNodeAt w B m o →
    Calls Tryd.prog 37 #[o] w fun e w' => ∃ v, e = .returned v ∧ w'.ownsRow w.heap.size 3 1 v (fnM m).length ((fnM m).map (Value.int .i64)) ∧ Below w.heap.size w w' := by
  intro q
  induction q with
  | zero =>
    intro m B o w hq
    exact absurd hq (by cases m <;> simp [mkT, dg])
  | succ q ih =>
    intro m B o w hq hm hwf hnod
    have IH := Lib.hid ih
    clear ih
    have fK := asKK
    have fL := asLK
    have fA := asAK
    have gA := asAA
    have gL := asLA
    cases hc : isApM m with
    | false =>
      match m, hc, hnod, hwf with
      | .lit k v, _, hnod, _ =>
        have e : o = .iface 126 (.agg #[.int .i64 k, .int .i64 v]) := hnod
        subst e
        clear hnod
        go_enter Tryd.func37, Tryd.ntmps37
        go_wp2
        go_ret
        exact ⟨_, rfl, ⟨by simp [fnM], .inl ⟨rfl, rfl⟩⟩, Below.refl _ _⟩
      | .co i m, _, ⟨v, e, hv⟩, hwf =>
        subst e
        have hlen : (mkT m).length + 3 ≤ (mkT (.co i m)).length := by simp [mkT, dg]
        have hb0 : Below w.heap.size w (w.alloc (.cells #[.int .i64 i, v] 101)) := (Below.refl _ _).alloc (Nat.le_refl _) _
        have HC := Lib.hid (IH.out m B v (w.alloc (.cells #[.int .i64 i, v] 101)) (by omega) (by omega) hwf (hv.same fun g _ hg => hb0.block g hg))
        have HB0 := Lib.hid hb0
        obtain ⟨T, x, rfl⟩ := hv.form
        have m1 := (Row.new w 101 [.int .i64 i, .iface T x]).cell 1
        simp only [List.getElem?_cons_zero, List.getElem?_cons_succ] at m1
        clear hv hb0 IH hwf
        go_enter Tryd.func37, Tryd.ntmps37
        go_wp2_with fail
        refine HC.out.mono ?_
        rintro e w2 ⟨v2, rfl, ho2, hb2⟩
        have HO2 : Hid (w2.ownsRow w.heap.size 3 1 v2 (fnM m).length ((fnM m).map (Value.int .i64))) := ownsRow_base ho2 (by rw [World.size_alloc]; omega)
        have HB2 := Lib.hid (HB0.out.trans (hb2.mono HB0.out.size))
        clear hb2 ho2
        go_wp2
        go_ret
        exact ⟨_, rfl, HO2.out, HB2.out⟩
    | true =>
      have hnms := fnM_call hc
      obtain ⟨ps, vs, rfl, hown, hnods⟩ := hnod.open hc
      obtain ⟨PA, PC, rfl⟩ := own_lt0 hown
      obtain ⟨ts, hts⟩ : ∃ ts, ts = partsM m := ⟨_, rfl⟩
      have hall : Hid (∀ p ∈ ts, (mkT p).length + 3 ≤ (mkT m).length ∧ ∀ z ∈ fnM p, I64 z) := fun p hp => ⟨partsM_len (by rw [← hts]; exact hp), fun z hz => hwf z (fnM_part (by rw [← hts]; exact hp) z hz)⟩
      have hlen2 : ts.length ≤ 2 := by rw [hts]; exact partsM_two m
      obtain ⟨ii, hii⟩ : ∃ ii : Int, ii = (ixM m : Int) := ⟨_, rfl⟩
      have hfin : Hid (fnM m = accX ii ts ts.length) := by show _ = _; rw [hnms, ← hts, ← hii]; unfold accX; rw [List.take_length]
      have hnl := fnM_le m
      rw [hfin.out] at hnl
      rw [← hts] at hown hnods ⊢
      rw [← hii]
      have Hown := Lib.hid hown
      have Hnods := Lib.hid hnods
      have r2 := Row.new w 104 [.int .i64 ii, .slice PA ts.length PC]
      have hbB : Below w.heap.size w (w.alloc (.cells #[.int .i64 ii, .slice PA ts.length PC] 104)) := (Below.refl _ _).alloc (Nat.le_refl _) _
      have hb0 : Below w.heap.size w ((w.alloc (.cells #[.int .i64 ii, .slice PA ts.length PC] 104)).alloc (.cells #[.int .i64 ii] 3)) := hbB.alloc hbB.size _
      have HB0 := Lib.hid hb0
      have Ho0 : Hid (((w.alloc (.cells #[.int .i64 ii, .slice PA ts.length PC] 104)).alloc (.cells #[.int .i64 ii] 3)).ownsRow w.heap.size 3 1 (.slice (some ⟨w.heap.size + 1, 0, none⟩) 1 1) 1 [.int .i64 ii]) := by
        have h := World.ownsRow_lit (e := 3) (size := 1) (base := w.heap.size) (w.alloc (.cells #[.int .i64 ii, .slice PA ts.length PC] 104)) #[.int .i64 ii] 1 (by rw [World.size_alloc]; omega) (by unfold maxLen; omega) rfl
        rw [World.size_alloc] at h
        exact h
      have m0 := r2.cell 0
      have m1 := r2.cell 1
      have m1b := (r2.alloc (.cells #[.int .i64 ii] 3)).cell 1
      simp only [List.getElem?_cons_zero, List.getElem?_cons_succ] at m0 m1 m1b
      clear hown hnods hnod hc hb0 r2 hts hnms hbB hii hwf
      go_enter Tryd.func37, Tryd.ntmps37
      go_wp2_with fail
      go_loopw [5, 25] (fun s i wr => ∃ k : Nat, k ≤ ts.length ∧ i = .int .i64 k ∧ Hid (Below w.heap.size w wr) ∧ Hid (wr.ownsRow w.heap.size 3 1 s (accX ii ts k).length ((accX ii ts k).map (Value.int .i64)))) (fun _ i _ => ts.length - (intOf i).toNat)
      case atStart => exact ⟨0, Nat.zero_le _, rfl, HB0.out, Ho0.out⟩
      case round =>
        clear HB0 Ho0 m0 m1 m1b
        obtain ⟨k, hk, rfl, hbr, hor⟩ := hrel
        have hbs := hbr.out.size
        by_cases hkl : k < ts.length
        · obtain ⟨g, hPA, hcell⟩ := own_at7 Hown.out k hkl
          obtain ⟨v, hv, hnv⟩ := Hnods.out.at k hkl
          have hgw : g < w.heap.size := World.block_lt_of_cell? _ _ (hcell.trans hv)
          have hck : wr.cell? ⟨g, k, none⟩ = some v := (World.cell?_of_block (w := w) (hbr.out.block g hgw)).trans (hcell.trans hv)
          obtain ⟨T, x, rfl⟩ := hnv.form
          obtain ⟨hpl, hwp⟩ := hall.out ts[k] (List.getElem_mem hkl)
          have HC := Lib.hid (IH.out ts[k] B _ wr (by omega) (by omega) hwp (hnv.same fun g _ hg => hbr.out.block g hg))
          have hstep := accX_step ii ts hkl
          have hle := accX_le ii ts (k + 1)
          rw [hstep] at hle
          subst hPA
          obtain ⟨ns, hns⟩ : ∃ ns, ns = fnM ts[k] := ⟨_, rfl⟩
          obtain ⟨ac, hac⟩ : ∃ ac, ac = accX ii ts k := ⟨_, rfl⟩
          rw [← hns] at HC hwp
          rw [← hns, ← hac] at hstep hle
          rw [← hac] at hor
          rw [List.length_append] at hle
          have Hstep := Lib.hid hstep
          have Hwp := Lib.hid hwp
          clear hcell hv hnv hns hac hstep hwp
          go_wp2_with fail
          refine HC.out.mono ?_
          rintro e w1 ⟨v1, rfl, ho1, hb1⟩
          have HB1 := Lib.hid (hbr.out.trans (hb1.mono hbs))
          have hs1 := HB1.out.size
          have Hor1 := Lib.hid (own_same7 hor.out fun g _ hg => hb1.block g hg)
          have HZ : Hid (IntsAt w1 0 w1.heap.size v1 ns) := ownsRow.intsAt ho1 Hwp.out (Nat.zero_le _) (Nat.le_refl _)
          obtain ⟨A1, C1, rfl⟩ := own_lt0 ho1
          clear hb1 ho1
          go_wp2_with (at_builtin; refine wpList_append_ints rfl (.tmp 29) (.tmp 31) rfl w.heap.size _ ac.length (ac.map (Value.int .i64)) rfl Hor1.out 0 w1.heap.size A1 ns.length C1 ns rfl HZ.out rfl (by omega) hs1 ?_)
          intro VA VC w3 hown3 hgrow
          have Hb3 : Hid (Below w.heap.size w w3) := HB1.out.grown hgrow hs1 (fun j hj => (own_lt9 Hor1.out j hj).1)
          have HO3 := Lib.hid hown3
          clear hgrow hown3
          go_wp2
          go_roundw
          case rel => exact ⟨k + 1, by omega, by go_num, Hb3.out, by rw [Hstep.out, List.length_append, List.map_append]; exact HO3.out⟩
          case measure => simp [intOf]; omega
        · have hke : k = ts.length := by omega
          have hki : ¬ ((k : Int) < (ts.length : Int)) := by omega
          rw [hke, ← hfin.out] at hor
          go_wp2
          go_ret
          exact ⟨_, rfl, hor.out, hbr.out⟩

set_option maxRecDepth 100000 in
set_option maxHeartbeats 4000000 in
theorem implFnIn_any (lo hi n : Nat) (a : Addr) (sv cv fv : Value) (y : Sy) (L : List UInt8) (w : World) (hv : SyAt w lo hi sv cv fv y) (hB : hi ≤ w.heap.size) (he : Ev w n a) (hn : n ≤ w.heap.size) (hm : L.length ≤ 1048576) :
    Calls Tryd.prog 19 #[.agg #[sv, cv, fv], .string (str L)] w fun e w' => ∃ v, e = .returned (.tuple #[v, .bool (okM y L)]) ∧ Below w.heap.size w w' ∧ w'.ownsRow w.heap.size 3 1 v (fnL y L).length ((fnL y L).map (Value.int .i64)) := by
  obtain ⟨A1, cap1, rfl, _, _, _⟩ := hv.1.1.form
  obtain ⟨A2, cap2, rfl, _, _, _⟩ := hv.1.2.form
  obtain ⟨A3, cap3, rfl, _, _, _⟩ := hv.2.form
  have hb1 : Below w.heap.size w (w.alloc (.cells #[.slice A1 y.ty.sizes.length cap1, .slice A2 y.ty.cos.length cap2, .slice A3 y.fs.length cap3] 41)) := (Below.refl _ _).alloc (Nat.le_refl _) _
  have HR := Lib.hid (readMade_any lo hi n a _ _ _ y L _ (hv.below hb1 hB) (by rw [World.size_alloc]; omega) (he.keep (b := w.heap.size) ((Keep.refl _ _).of_below hb1) hn) (by rw [World.size_alloc]; omega) hm)
  have HR1 := Row.new w 41 [.slice A1 y.ty.sizes.length cap1, .slice A2 y.ty.cos.length cap2, .slice A3 y.fs.length cap3]
  have p0 := HR1.cell 0
  have p1 := HR1.cell 1
  have p2 := HR1.cell 2
  simp only [List.getElem?_cons_zero, List.getElem?_cons_succ] at p0 p1 p2
  have HB1 := Lib.hid hb1
  clear hv hb1 HR1 he
  go_enter Tryd.func19, Tryd.ntmps19
  go_wp2_with fail
  refine HR.out.mono ?_
  rintro e w2 ⟨⟨m, o, hr, hok, rfl, hno⟩ | ⟨hr, rfl⟩, hb2⟩
  · have HB2 := Lib.hid (HB1.out.trans (hb2.mono HB1.out.size))
    have hs2 := HB2.out.size
    obtain ⟨e1, -, -, -, e5⟩ := vals_some hr
    have E1 := Lib.hid e1
    have E5 := Lib.hid e5
    have hlm := readM_len hr
    have HC := Lib.hid (fnIn_any (mkT m).length m _ o w2 (Nat.le_refl _) (by omega) (fnM_64 hok) hno)
    obtain ⟨T, x, rfl⟩ := hno.form
    clear hr hok hno hb2 HR HB1 e1 e5
    go_wp2_with fail
    refine HC.out.mono ?_
    rintro e w3 ⟨v, rfl, ho3, hb3⟩
    have HB3 := Lib.hid (HB2.out.trans (hb3.mono HB2.out.size))
    have HO3 := Lib.hid (ownsRow_base ho3 hs2)
    obtain ⟨A4, C4, rfl⟩ := own_lt0 ho3
    clear hb3 ho3
    go_wp2
    try rw [Exit.noGoto_ret]
    refine bodyPost_ret (v := .tuple #[.slice A4 (fnM m).length C4, .bool true]) (by simp [results, Tryd.results19, go_sem]) rfl ?_
    exact ⟨_, by rw [E1.out], HB3.out, by rw [E5.out]; exact HO3.out⟩
  · have HB2 := Lib.hid (HB1.out.trans (hb2.mono HB1.out.size))
    obtain ⟨e1, -, -, -, e5⟩ := vals_none hr
    have E1 := Lib.hid e1
    have E5 := Lib.hid e5
    clear hr hb2 HR HB1 e1 e5
    go_wp2
    try rw [Exit.noGoto_ret]
    refine bodyPost_ret (v := .tuple #[.slice none 0 0, .bool false]) (by simp [results, Tryd.results19, go_sem]) rfl ?_
    exact ⟨_, by rw [E1.out], HB2.out, by rw [E5.out]; exact ⟨by simp, .inl ⟨rfl, rfl⟩⟩⟩
end Go.Proofs.YthldlbbkbbgdkaaDoor

