/-
  The contract of the model's text of a number of one digit.
  The contracts of the model's l7Coerced and l7Called.
  The contracts of the model's l5Kinds, l5Applicable and ApplicableOf.
  The contracts of the model's l5Cost and CostOf.
  The contracts of the model's l5Below, l5Resolve, ResolveCall and ResolveByCost.
  The contracts of the program's reader: has, take, end, digit.
  The contract of the program's reader: digits.
-/
import Derived.Test.YtgkfddhhkjblgaaGreatDoorB3
import Derived.Test.YtgkfddhhkjblgaaGreatDoorB13
import Derived.Test.YtgkfddhhkjblgaaGreatDoorB14
import Derived.Test.YtgkfddhhkjblgaaGreatDoorB11
import Derived.Deep.RegionHeld3
import Derived.BigQuiet
import Derived.Test.YtgkfddhhkjblgaaGreatDoorB12
import Derived.Test.YtgkfddhhkjblgaaGreatDoorB8
import Derived.WalkMore
import Derived.WalkLawsBesides
import Derived.Test.YtgkfddhhkjblgaaGreatDoorB9
namespace Go.Proofs.YtgkfddhhkjblgaaGreatDoor
open Go.RowKit

set_option maxRecDepth 100000 in
set_option maxHeartbeats 2000000 in
theorem specDec_any (z : Int) (hz : Dig z) (w : World) :
    Calls Tryz.prog 110 #[.int .i64 z] w fun e w' => e = .returned (.string (str (dg z))) ∧ Below w.heap.size w w' := by
  obtain ⟨h0, h9⟩ := hz
  have hb : Below w.heap.size w w := Below.refl _ _
  have c1 : decide (z < -9223372036854775807) = false := by simp; omega
  have c2 : decide (z < 0) = false := by simp; omega
  have c3 : decide (9 < z) = false := by simp; omega
  have hk : Hid ((convert 117 9 (.slice (some ⟨w.heap.size, 0, none⟩) 1 1)).run Tryz.prog (w.alloc (.cells #[.int .u8 (48 + z)] 5)) = .ok (.string (str (dg z))) (w.alloc (.cells #[.int .u8 (48 + z)] 5))) :=
    run_convert_bytes_back (P := Tryz.prog) _ 117 9 5 ⟨w.heap.size, 0, none⟩ 1 (dg z) Tryz.underlying117 Tryz.underlying5 Tryz.underlying9 fun j hj => by
      obtain rfl : j = 0 := by simp [dg] at hj; omega
      have e : ((dg z)[0].toNat : Int) = 48 + z := by
        have : (dg z)[0] = UInt8.ofNat (48 + z.toNat) := rfl
        rw [this, UInt8.toNat_ofNat']
        omega
      rw [e]
      simp [go_sem]
  go_enter Tryz.func110, Tryz.ntmps110
  go_wp2
  go_loop [0, 3] (fun n o => n = .int .i64 z ∧ o = .string ⟨#[]⟩) (fun _ _ => 0)
  case atStart => exact ⟨rfl, rfl⟩
  case round =>
    obtain ⟨rfl, rfl⟩ := hrel
    go_wp2
    rw [hk.out]
    go_wp2
    go_ret
    exact ⟨rfl, (Below.refl _ w).alloc (Nat.le_refl _) _⟩

/-- The text of the first k numbers, as the model's loop makes it. -/
theorem numsTo_step (zs : List Int) (k : Nat) : (if 0 < k then numsTo zs k ++ [32] else numsTo zs k) ++ dg (zs.getD k 0) = numsTo zs (k + 1) := by
  rcases Nat.eq_zero_or_pos k with rfl | h
  · rfl
  · rw [if_pos h, numsTo_succ zs h]

end Go.Proofs.YtgkfddhhkjblgaaGreatDoor

namespace Go.Proofs.YtgkfddhhkjblgaaGreatDoor
open Go.RowKit

set_option maxRecDepth 100000 in
set_option maxHeartbeats 1000000 in
theorem l7Coerced_any (lo hi : Nat) (sv cv fv : Value) (y : Sy) (L : List UInt8) (a b : Int) (w : World) (hv : SyAt w lo hi sv cv fv y) (hB : hi ≤ w.heap.size) (htb : typesB y.ty a b = true) (hL : L.length ≤ 1048576) :
    Calls Tryz.prog 47 #[.agg #[sv, cv, fv], .string (str L), .int .i64 a, .int .i64 b] w fun e w' => e = .returned (.string (str (wrT L (shortV y.ty a b)))) ∧ Below w.heap.size w w' := by
  obtain ⟨A1, cap1, rfl, _, _, _⟩ := hv.1.1.form
  obtain ⟨A2, cap2, rfl, _, _, _⟩ := hv.1.2.form
  obtain ⟨A3, cap3, rfl, _, _, _⟩ := hv.2.form
  have hb1 : Below w.heap.size w (w.alloc (.cells #[.slice A1 y.ty.sizes.length cap1, .slice A2 y.ty.cos.length cap2, .slice A3 y.fs.length cap3] 37)) := (Below.refl _ _).alloc (Nat.le_refl _) _
  have HS := Lib.hid (l2Shortest_any lo hi _ _ y.ty a b _ (hv.below hb1 hB).1 (by rw [World.size_alloc]; omega) htb)
  have HR1 := Row.new w 37 [.slice A1 y.ty.sizes.length cap1, .slice A2 y.ty.cos.length cap2, .slice A3 y.fs.length cap3]
  have p0 := HR1.cell 0
  have p1 := HR1.cell 1
  simp only [List.getElem?_cons_zero, List.getElem?_cons_succ] at p0 p1
  have HB1 := Lib.hid hb1
  have h5 := (shortV_wf y.ty a b).2
  clear hv hb1 HR1
  go_enter Tryz.func47, Tryz.ntmps47
  go_wp2_with fail
  refine HS.out.mono ?_
  clear p0 p1 HS
  rintro e w2 ⟨v, rfl, hb2, hi2⟩
  have HB2 := Lib.hid (HB1.out.trans (hb2.mono (by rw [World.size_alloc]; omega)))
  have HW := Lib.hid (specWrap_any _ _ L v _ w2 hi2 (Nat.le_refl _) hL (by omega))
  clear hb2 HB1 hi2
  go_wp2_with fail
  refine HW.out.mono ?_
  rintro e w3 ⟨rfl, hb3⟩
  have HB3 := Lib.hid (HB2.out.trans (hb3.mono HB2.out.size))
  clear hb3 HB2 HW
  go_wp2
  go_ret
  exact ⟨rfl, HB3.out⟩

set_option maxRecDepth 100000 in
set_option maxHeartbeats 1000000 in
theorem l7Called_any (i : Int) (hi : Dig i) (v : Value) (ps : List (List UInt8)) (w : World) (hv : ∀ w', Below w.heap.size w w' → StrsAt w' v ps) (hb : bulkS ps ≤ 1048576) (hlen : (callL (dg i) ps).length ≤ 1048576) :
    Calls Tryz.prog 71 #[.int .i64 i, v] w fun e w' => e = .returned (.string (str (64 :: callL (dg i) ps))) ∧ Below w.heap.size w w' := by
  have HV := Lib.hid hv
  have HI := Lib.hid hi
  have s1 : (⟨#[64]⟩ : ByteArray) ++ str (callL (dg i) ps) = str (64 :: callL (dg i) ps) := str_append [64] _
  have n1 : ¬ 9223372036854775807 < 1 + (str (callL (dg i) ps)).size := by rw [str_size]; omega
  have hJ := fun (w' : World) (h : StrsAt w' v ps) => l6Join_any (dg i) v ps w' h (by simp [dg]) hb
  have HJ := Lib.hid hJ
  clear hJ hv hi
  generalize callL (dg i) ps = X at s1 n1 HJ hlen ⊢
  go_enter Tryz.func71, Tryz.ntmps71
  go_wp2_with fail
  refine (specDec_any i HI.out w).mono ?_
  rintro e w1 ⟨rfl, hb1⟩
  have HB1 := Lib.hid hb1
  clear hb1
  go_wp2_with fail
  refine (HJ.out w1 (HV.out w1 HB1.out)).mono ?_
  rintro e w2 ⟨rfl, rfl⟩
  go_wp2
  go_ret
  exact ⟨rfl, HB1.out⟩
end Go.Proofs.YtgkfddhhkjblgaaGreatDoor

namespace Go.Proofs.YtgkfddhhkjblgaaGreatDoor
open Go.RowKit
attribute [local go_sem] Oper.semAt_some

/-- Some types are those of a valid system. -/
noncomputable def kindsB (y : Sy) (ks : List Int) : Bool := allIx ks y.ty.sizes.length && syB y

/-- The applicable ones among the first j functions. -/
noncomputable def accA (y : Sy) (nm : ByteArray) (ks : List Int) (j : Nat) : List Int := apsIn y ks (nmT y.fs nm (ks.length : Int) j)
theorem accA_hit {y : Sy} {nm : ByteArray} {ks : List Int} {j : Nat} (h1 : (y.fs.getD j default).name = nm) (h2 : ApTo y.ty ks (y.fs.getD j default).args) : accA y nm ks (j + 1) = accA y nm ks j ++ [(j : Int)] := by
  unfold accA
  rw [nmT_hit ⟨h1, by rw [h2.1]⟩]
  unfold apsIn
  rw [List.filter_append]
  congr 1
  simp only [List.filter_cons, List.filter_nil, Int.toNat_natCast, apToB_yes h2, if_true]
theorem accA_miss {y : Sy} {nm : ByteArray} {ks : List Int} {j : Nat} (h : ¬ ((y.fs.getD j default).name = nm ∧ ApTo y.ty ks (y.fs.getD j default).args)) : accA y nm ks (j + 1) = accA y nm ks j := by
  unfold accA
  by_cases hn : (y.fs.getD j default).name = nm ∧ ((y.fs.getD j default).args.length : Int) = ks.length
  · rw [nmT_hit hn]
    unfold apsIn
    rw [List.filter_append]
    have e : apToB y.ty ks (y.fs.getD j default).args = false := apToB_no fun h2 => h ⟨hn.1, h2⟩
    simp only [List.filter_cons, List.filter_nil, Int.toNat_natCast, e]
    simp
  · rw [nmT_miss hn]
theorem accA_le (y : Sy) (nm : ByteArray) (ks : List Int) (j : Nat) : (accA y nm ks j).length ≤ j := Nat.le_trans (apsIn_le _ _ _) (nmT_le _ _ _ _)
theorem accA_end {y : Sy} {nm : ByteArray} {ks : List Int} (h : SyOk y) : applicV y nm ks = accA y nm ks y.fs.length := by
  unfold applicV accA namedV
  rw [if_pos (syB_yes h)]
theorem accA_zero (y : Sy) (nm : ByteArray) (ks : List Int) : accA y nm ks 0 = [] := rfl

theorem kindsB_of {y : Sy} {ks : List Int} (h : kindsB y ks = true) : SyOk y ∧ ∀ j, ∀ (hj : j < ks.length), 0 ≤ ks[j] ∧ ks[j] < y.ty.sizes.length := by
  simp only [kindsB, Bool.and_eq_true] at h
  exact ⟨syB_iff.1 h.2, allIx_iff.1 h.1⟩
theorem fits_apTo {y : Sy} {ks gs : List Int} (h : tyOk y.ty = true) (hk : ∀ j, ∀ (hj : j < ks.length), 0 ≤ ks[j] ∧ ks[j] < y.ty.sizes.length) (ha : ∀ j, ∀ (hj : j < gs.length), 0 ≤ gs[j] ∧ gs[j] < y.ty.sizes.length) : FitsTo y.ty ks gs ↔ ApTo y.ty ks gs := by
  unfold FitsTo ApTo canC
  refine and_congr_right fun hl => forall_congr' fun j => forall_congr' fun hj => ?_
  rw [getD_of hj, getD_of (show j < gs.length by omega), typesB_mk h (hk j hj) (ha j (by omega)), Bool.true_and]
theorem applicV_bad {y : Sy} {nm : ByteArray} {ks : List Int} (h : kindsB y ks = false) : applicV y nm ks = [] := by
  by_cases hs : SyOk y
  · rw [List.eq_nil_iff_forall_not_mem]
    intro z hz
    obtain ⟨_, i, hi, hn, ha, rfl⟩ := applicV_mem.1 hz
    have : allIx ks y.ty.sizes.length = true := allIx_iff.2 fun j hj => by
      have hc := ha.2 j hj
      simp only [canC, Bool.and_eq_true] at hc
      have ht := typesB_of hc.1
      rw [getD_of hj] at ht
      exact ⟨ht.2.1, ht.2.2.1⟩
    rw [kindsB, this, syB_yes hs] at h
    cases h
  · exact applicV_no hs

set_option maxRecDepth 100000 in
set_option maxHeartbeats 4000000 in
theorem l5Applicable_any (lo hi lo' hi' : Nat) (sv cv fv kv : Value) (y : Sy) (nm : ByteArray) (ks : List Int) (w : World) (hv : SyAt w lo hi sv cv fv y) (hk : IntsAt w lo' hi' kv ks) (hB : hi ≤ w.heap.size) (hB' : hi' ≤ w.heap.size) (hbk : y.bulk ≤ 1048576) (hok : kindsB y ks = true) :
    Calls Tryz.prog 107 #[.agg #[sv, cv, fv], .string nm, kv] w fun e w' => ∃ v, e = .returned v ∧ Below w.heap.size w w' ∧ w'.ownsRow w.heap.size 3 1 v (applicV y nm ks).length ((applicV y nm ks).map (Value.int .i64)) := by
  obtain ⟨A, cap, rfl, hl1, hm1, hi1⟩ := hv.1.1.form
  obtain ⟨B, bap, rfl, hl2, hm2, hc1⟩ := hv.1.2.form
  obtain ⟨F, fap, rfl, hl3, hm3, hf1⟩ := hv.2.form
  obtain ⟨K, kap, rfl, hlk, hmk, hk1⟩ := hk.form
  unfold maxLen at hm3
  obtain ⟨i0, hi0, hz0, hz1, hz2⟩ := info_parts Tryz.infoInt
  have hn : y.fs.length ≤ 1048576 := by unfold Sy.bulk at hbk; omega
  obtain ⟨hsy, hks⟩ := kindsB_of hok
  have Hsy := Lib.hid hsy
  have Hks := Lib.hid hks
  have hT : TyAt w lo hi (.slice A y.ty.sizes.length cap) (.slice B y.ty.cos.length bap) y.ty := ⟨hi1, hc1⟩
  have HT := Lib.hid hT
  have Hf := Lib.hid hf1
  have Hk := Lib.hid hk1
  clear hi1 hc1 hf1 hk1 hk hv hT hok hsy hks
  obtain ⟨WS, hWS⟩ : ∃ WS, WS = w.alloc (.cells #[.slice A y.ty.sizes.length cap, .slice B y.ty.cos.length bap, .slice F y.fs.length fap] 37) := ⟨_, rfl⟩
  have H3 : Hid (Below (w.heap.size + 1) (w.alloc (.cells #[.slice A y.ty.sizes.length cap, .slice B y.ty.cos.length bap, .slice F y.fs.length fap] 37)) WS) := by rw [hWS]; exact Below.refl _ _
  have hsS : WS.heap.size = w.heap.size + 1 := by rw [hWS]; simp
  clear hWS
  go_enter Tryz.func107, Tryz.ntmps107
  go_wp2
  go_loopw [7, 14] (fun l i wr => ∃ j : Nat, j ≤ y.fs.length ∧ i = .int .i64 j ∧ Hid (Below (w.heap.size + 1) (w.alloc (.cells #[.slice A y.ty.sizes.length cap, .slice B y.ty.cos.length bap, .slice F y.fs.length fap] 37)) wr) ∧ Hid (wr.ownsRow (w.heap.size + 1) 3 1 l (accA y nm ks j).length ((accA y nm ks j).map (Value.int .i64)))) (fun _ i _ => y.fs.length - (intOf i).toNat)
  case atStart =>
    refine ⟨0, Nat.zero_le _, rfl, (Below.refl _ _).alloc (by simp) _, ?_⟩
    show World.ownsRow _ _ _ _ _ _ _
    rw [accA_zero]
    have := World.ownsRow_lit (base := w.heap.size + 1) (e := 3) (size := 1) (w.alloc (.cells #[.slice A y.ty.sizes.length cap, .slice B y.ty.cos.length bap, .slice F y.fs.length fap] 37)) #[] 0 (by simp) (by unfold maxLen; omega) rfl
    simpa using this
  case round =>
    obtain ⟨j, hj, rfl, hb, hown⟩ := hrel
    by_cases hlt : j < y.fs.length
    · obtain ⟨q0, q1, q2, hlr, hb0⟩ := box3 hb.out
      obtain ⟨b, off, A1, cap1, A2, cap2, rfl, hlo, hhi, c0, c1, c2, c3, _, _, _, _, hfj⟩ := (Hf.out.below hb0 hB).at_ hlt
      have hle := accA_le y nm ks j
      have Hb0 := Lib.hid hb0
      have Hfj := Lib.hid hfj
      clear hb0 hfj
      have hg : Hid (y.fs.getD j default = y.fs[j]) := getD_of hlt
      have hbc : Hid (Below wr.heap.size wr (wr.alloc (.cells #[.string y.fs[j].name, .slice A1 y.fs[j].args.length cap1, .int .i64 y.fs[j].res, .slice A2 y.fs[j].table.length cap2] 106))) := (Below.refl _ _).alloc (Nat.le_refl _) _
      by_cases he : y.fs[j].name = nm
      · have hnm : y.fs[j].name.toList = nm.toList := by rw [he]
        have He := Lib.hid he
        clear he
        go_wp2_with fail
        refine (l4Fits_any lo hi lo' hi' lo hi _ _ _ _ y.ty ks y.fs[j].args _ (HT.out.below (Hb0.out.trans (hbc.out.mono (by omega))) hB) (Hk.out.below (Hb0.out.trans (hbc.out.mono (by omega))) hB') (Hfj.out.2.2.2.2.1.below hbc.out (by omega)) (by simp; omega) (by simp; omega) (by simp; omega) Hsy.out.ty Hks.out (Hsy.out.each j hlt).args).mono ?_
        rintro e w1 ⟨rfl, hb1⟩
        have hrw : Row w1 wr.heap.size 106 [.string y.fs[j].name, .slice A1 y.fs[j].args.length cap1, .int .i64 y.fs[j].res, .slice A2 y.fs[j].table.length cap2] := (Row.new wr _ _).below hb1 (by simp)
        have hown1 := ownsRow_below (hown.out.alloc (.cells #[.string y.fs[j].name, .slice A1 y.fs[j].args.length cap1, .int .i64 y.fs[j].res, .slice A2 y.fs[j].table.length cap2] 106)) hb1 (Nat.le_refl _)
        have hbx := (hb.out.alloc (by omega) _).trans (hb1.mono (B' := w.heap.size + 1) (by simp; omega))
        have Hown1 := Lib.hid hown1
        have Hbx := Lib.hid hbx
        have h1s : wr.heap.size < w1.heap.size := hrw.lt
        clear hb1 hrw hown1 hbx c0 c1 c2 c3
        by_cases hfit : fitsToB y.ty ks y.fs[j].args = true
        · have hap : ApTo y.ty ks y.fs[j].args := (fits_apTo Hsy.out.ty Hks.out (Hsy.out.each j hlt).args).1 (fitsToB_iff.1 hfit)
          have hh := Lib.hid (accA_hit (y := y) (nm := nm) (ks := ks) (j := j) (by rw [hg.out]; exact He.out) (by rw [hg.out]; exact hap))
          rw [hfit]
          clear hfit hap
          go_wp2_with (at_builtin; refine wpList_append_own _ rfl (.tmp 31) (.tmp 33) 22 rfl (w.heap.size + 1) 3 i0 (.int .i64 0) 1 8 Tryz.underlying22 hi0 hz0 hz1 hz2 rfl (by decide) _ _ _ rfl (Hown1.out.alloc _) ⟨w1.heap.size, 0, none⟩ 1 1 [.int .i64 j] rfl rfl ?c1 ?c2 ?c3 ?c4 ?c5 ?_)
          case c1 =>
            intro n u hi
            match n, hi with
            | 0, hi => simp at hi; subst hi; simp [Addr.add]
          case c2 => intro u hu; simp at hu; subst hu; rfl
          case c3 => unfold maxLen; omega
          case c4 => omega
          case c5 => simp; omega
          intro v' w2 hown2 hgrow _
          have hb2 := (Hbx.out.alloc (by omega) _).grown hgrow (by simp; omega) (fun k hk => by
            obtain ⟨_, ⟨e, _⟩ | ⟨g, cap3, cur, e, hg, _⟩⟩ := Hown1.out
            · rw [e] at hk; simp [Value.ownBlock] at hk
            · rw [e] at hk; simp [Value.ownBlock] at hk; omega)
          have Hb2 := Lib.hid hb2
          have Hown2 := Lib.hid hown2
          clear hown2 hgrow hb2
          go_wp2
          go_roundw
          case rel => exact ⟨j + 1, by omega, by go_num, Hb2.out, ownsRow_cast Hown2.out (by rw [hh.out]; simp) (by rw [hh.out]; simp)⟩
          case measure => simp [intOf]; omega
        · have hff : fitsToB y.ty ks y.fs[j].args = false := by simpa using hfit
          have hh := Lib.hid (accA_miss (y := y) (nm := nm) (ks := ks) (j := j) (by rw [hg.out]; exact fun h => hfit (fitsToB_yes ((fits_apTo Hsy.out.ty Hks.out (Hsy.out.each j hlt).args).2 h.2))))
          rw [hff]
          clear hfit
          go_wp2
          go_roundw
          case rel => exact ⟨j + 1, by omega, by go_num, Hbx.out, by rw [hh.out]; exact Hown1.out⟩
          case measure => simp [intOf]; omega
      · have hnm : ¬ y.fs[j].name.toList = nm.toList := fun h => he (bytes_eq h)
        have hh := Lib.hid (accA_miss (y := y) (nm := nm) (ks := ks) (j := j) (by rw [hg.out]; exact fun h => he h.1))
        have hbx := Lib.hid (hb.out.alloc (show w.heap.size + 1 ≤ wr.heap.size by omega) (.cells #[.string y.fs[j].name, .slice A1 y.fs[j].args.length cap1, .int .i64 y.fs[j].res, .slice A2 y.fs[j].table.length cap2] 106))
        clear he
        go_wp2
        go_roundw
        case rel => exact ⟨j + 1, by omega, by go_num, hbx.out, by rw [hh.out]; exact hown.out.alloc _⟩
        case measure => simp [intOf]; omega
    · obtain rfl : j = y.fs.length := by omega
      obtain ⟨_, _, _, _, hb0⟩ := box3 hb.out
      have Hb0 := Lib.hid hb0
      clear hb0
      go_wp2
      go_ret
      refine ⟨_, rfl, Hb0.out, ?_⟩
      rw [accA_end Hsy.out]
      exact ownsRow_base hown.out (by omega)

end Go.Proofs.YtgkfddhhkjblgaaGreatDoor

namespace Go.Proofs.YtgkfddhhkjblgaaGreatDoor
open Go.RowKit
attribute [local go_sem] Oper.semAt_some

theorem kinds_of_ap {y : Sy} {ks gs : List Int} (hs : SyOk y) (ha : ApTo y.ty ks gs) : kindsB y ks = true := by
  have : allIx ks y.ty.sizes.length = true := allIx_iff.2 fun j hj => by
    have hc := ha.2 j hj
    simp only [canC, Bool.and_eq_true] at hc
    have ht := typesB_of hc.1
    rw [getD_of hj] at ht
    exact ⟨ht.2.1, ht.2.2.1⟩
  rw [kindsB, this, syB_yes hs]
  rfl

/-- What CostOf returns. -/
def CostP (y : Sy) (i : Int) (ks : List Int) : Prop := hasFB y i = true ∧ ApTo y.ty ks (y.fs.getD i.toNat default).args
open Classical in
noncomputable def costR (y : Sy) (i : Int) (ks : List Int) : Int := if CostP y i ks then costOf y ks i else -1
theorem costR_yes {y : Sy} {i : Int} {ks : List Int} (h : CostP y i ks) : costR y i ks = costOf y ks i := by unfold costR; rw [if_pos h]
theorem costR_no {y : Sy} {i : Int} {ks : List Int} (h : ¬ CostP y i ks) : costR y i ks = -1 := by unfold costR; rw [if_neg h]

end Go.Proofs.YtgkfddhhkjblgaaGreatDoor

namespace Go.Proofs.YtgkfddhhkjblgaaGreatDoor
open Go.RowKit
attribute [local go_sem] Oper.semAt_some

/-- Some numbers are functions of a system. -/
def FnsIn (y : Sy) (L : List Int) : Prop := ∀ m, ∀ (hm : m < L.length), ∃ i : Nat, L[m] = (i : Int) ∧ i < y.fs.length
theorem fnsIn_applic (y : Sy) (nm : ByteArray) (ks : List Int) : FnsIn y (applicV y nm ks) := fun m hm => by
  obtain ⟨_, i, e, hi, _⟩ := applicV_at hm
  exact ⟨i, e, hi⟩

set_option maxRecDepth 100000 in
set_option maxHeartbeats 4000000 in
theorem l5Below_any (lo hi lo' hi' : Nat) (sv cv fv lv : Value) (y : Sy) (i : Nat) (L : List Int) (w : World) (hv : SyAt w lo hi sv cv fv y) (hL : IntsAt w lo' hi' lv L) (hB : hi ≤ w.heap.size) (hB' : hi' ≤ w.heap.size) (hsy : SyOk y) (hil : i < y.fs.length) (hfn : FnsIn y L) :
    Calls Tryz.prog 108 #[.agg #[sv, cv, fv], .int .i64 i, lv] w fun e w' => e = .returned (.bool (chiefB (ltB y) L i)) ∧ Below w.heap.size w w' := by
  obtain ⟨A, cap, rfl, hl1, hm1, hi1⟩ := hv.1.1.form
  obtain ⟨B, bap, rfl, hl2, hm2, hc1⟩ := hv.1.2.form
  obtain ⟨F, fap, rfl, hl3, hm3, hf1⟩ := hv.2.form
  obtain ⟨K, kap, rfl, hlk, hmk, hk1⟩ := hL.form
  unfold maxLen at hm3 hmk
  have HT := Lib.hid (show TyAt w lo hi (.slice A y.ty.sizes.length cap) (.slice B y.ty.cos.length bap) y.ty from ⟨hi1, hc1⟩)
  have Hf := Lib.hid hf1
  have Hk := Lib.hid hk1
  have Hsy := Lib.hid hsy
  have Hfn := Lib.hid hfn
  have H1 := Lib.hid (Below.refl (w.heap.size + 1) (w.alloc (.cells #[.slice A y.ty.sizes.length cap, .slice B y.ty.cos.length bap, .slice F y.fs.length fap] 37)))
  clear hi1 hc1 hf1 hk1 hL hv hsy hfn
  go_enter Tryz.func108, Tryz.ntmps108
  go_wp2
  go_loopw [11] (fun p wr => ∃ k : Nat, k ≤ L.length ∧ p = .int .i64 k ∧ Hid (Below (w.heap.size + 1) (w.alloc (.cells #[.slice A y.ty.sizes.length cap, .slice B y.ty.cos.length bap, .slice F y.fs.length fap] 37)) wr) ∧ Hid (∀ j, j < k → ∀ (hj : j < L.length), ltB y i L[j] = true)) (fun p _ => L.length - (intOf p).toNat)
  case atStart => exact ⟨0, Nat.zero_le _, rfl, H1.out, fun j hj => absurd hj (by omega)⟩
  case round =>
    obtain ⟨k, hk, rfl, hb, hall⟩ := hrel
    obtain ⟨q0, q1, q2, hl, hB1⟩ := box3 hb.out
    have HB1 := Lib.hid hB1
    clear hB1
    by_cases hlt : k < L.length
    · obtain ⟨im, em, him⟩ := Hfn.out k hlt
      obtain ⟨b, off, A1, cap1, A2, cap2, rfl, hlo, hhi, _, d1, _, _, _, _, _, _, hfi⟩ := (Hf.out.below HB1.out hB).at_ hil
      obtain ⟨b', off', A3, cap3, A4, cap4, eF, _, _, _, f1, _, _, _, _, _, _, hfm⟩ := (Hf.out.below HB1.out hB).at_ him
      obtain ⟨rfl, rfl⟩ : b = b' ∧ off = off' := by simpa using eF
      obtain ⟨b9, off9, e9, _, _, c9, _⟩ := (Hk.out.below HB1.out hB').at_ hlt
      obtain rfl := e9
      rw [em] at c9
      have Em := Lib.hid em
      have himI : (im : Int) < (y.fs.length : Int) := by omega
      have hilI : (i : Int) < (y.fs.length : Int) := by omega
      have hwh : hi ≤ wr.heap.size := by omega
      have k0 : ∀ z : InC (Below wr.heap.size wr), z.val.cell? ⟨w.heap.size, 0, none⟩ = some (.slice A y.ty.sizes.length cap) := fun z => (z.inD.cell (p := ⟨w.heap.size, 0, none⟩) hl).trans q0
      have k1 : ∀ z : InC (Below wr.heap.size wr), z.val.cell? ⟨w.heap.size, 1, none⟩ = some (.slice B y.ty.cos.length bap) := fun z => (z.inD.cell (p := ⟨w.heap.size, 1, none⟩) hl).trans q1
      have k2 : ∀ z : InC (Below wr.heap.size wr), z.val.cell? ⟨w.heap.size, 2, none⟩ = some (.slice (some ⟨b, off, none⟩) y.fs.length fap) := fun z => (z.inD.cell (p := ⟨w.heap.size, 2, none⟩) hl).trans q2
      have k3 : ∀ z : InC (Below wr.heap.size wr), z.val.cell? ⟨b, off + i * 4 + 1, none⟩ = some (.slice A1 y.fs[i].args.length cap1) := fun z => (z.inD.cell (p := ⟨b, off + i * 4 + 1, none⟩) (by show b < wr.heap.size; omega)).trans d1
      have k4 : ∀ z : InC (Below wr.heap.size wr), z.val.cell? ⟨b, off + im * 4 + 1, none⟩ = some (.slice A3 y.fs[im].args.length cap3) := fun z => (z.inD.cell (p := ⟨b, off + im * 4 + 1, none⟩) (by show b < wr.heap.size; omega)).trans f1
      have Hfi := Lib.hid hfi.2.2.2.2.1
      have Hfm := Lib.hid hfm.2.2.2.2.1
      have Hks2 := Lib.hid (fun z : InC (Below wr.heap.size wr) => l4Fits_any lo hi lo hi lo hi _ _ _ _ y.ty y.fs[i].args y.fs[im].args z.val (HT.out.below (HB1.out.trans (z.inD.mono (by omega))) hB) (Hfi.out.below z.inD hwh) (Hfm.out.below z.inD hwh) (by have := z.inD.size; omega) (by have := z.inD.size; omega) (by have := z.inD.size; omega) Hsy.out.ty (Hsy.out.each i hil).args (Hsy.out.each im him).args)
      have hneC : Nonempty (InC (Below wr.heap.size wr)) := ⟨⟨wr, Below.refl _ _⟩⟩
      have hfe : Hid (ltB y i L[k] = fitsToB y.ty y.fs[i].args y.fs[im].args) := by show _ = _; unfold ltB; rw [Em.out, argsOf_at him, argsOf_at hil]
      have hself : Hid (fitsToB y.ty y.fs[i].args y.fs[im].args = false → L[k] ≠ (i : Int)) := fun h e => by
        rw [← hfe.out, e] at h
        unfold ltB at h
        rw [fits_self] at h
        cases h
      clear hfi hfm d1 f1 q0 q1 q2 eF em
      by_cases hc : fitsToB y.ty y.fs[i].args y.fs[im].args = true
      · have Hc := Lib.hid hc
        have hall2 : Hid (∀ j, j < k + 1 → ∀ (hj : j < L.length), ltB y i L[j] = true) := fun j hj hjl => by
          by_cases e : j = k
          · subst e; rw [hfe.out]; exact hc
          · exact hall.out j (by omega) hjl
        clear hc
        go_wp2_with fail
        refine wp_region_class (Below wr.heap.size wr) (by kernel_rfl) (by kernel_rfl) ((Below.refl _ _).drew) ?_
        repeat (go_big_quiet_step ((go_at_call 130; rename_i z; exact (Hks2.out z).mono fun e w' ⟨he, hbx⟩ => ⟨by rw [he, Hc.out], ⟨_, z.inD.trans (hbx.mono z.inD.size)⟩, rfl⟩)))
        refine wpQuiet_nil ?_
        intro w4 hw'
        have hb4 : Hid (Below (w.heap.size + 1) (w.alloc (.cells #[.slice A y.ty.sizes.length cap, .slice B y.ty.cos.length bap, .slice (some ⟨b, off, none⟩) y.fs.length fap] 37)) w4) := by obtain ⟨z, rfl⟩ := hw'; exact hb.out.trans (z.inD.mono (by omega))
        clear hw'
        go_wp2
        go_roundw
        case rel => exact ⟨k + 1, by omega, by go_num, hb4.out, hall2⟩
        case measure => simp [intOf]; omega
      · have hcf := Lib.hid (show fitsToB y.ty y.fs[i].args y.fs[im].args = false by simpa using hc)
        have hfin := Lib.hid (chiefB_no (lt := ltB y) (i := (i : Int)) hlt (hself.out hcf.out) (by rw [hfe.out]; exact hcf.out))
        clear hc
        go_wp2_with fail
        refine wp_region_class (Below wr.heap.size wr) (by kernel_rfl) (by kernel_rfl) ((Below.refl _ _).drew) ?_
        repeat (go_big_quiet_step ((go_at_call 130; rename_i z; exact (Hks2.out z).mono fun e w' ⟨he, hbx⟩ => ⟨by rw [he, hcf.out], ⟨_, z.inD.trans (hbx.mono z.inD.size)⟩, rfl⟩)))
        refine wpQuiet_nil ?_
        intro w4 hw'
        have hb4 : Hid (Below w.heap.size w w4) := by obtain ⟨z, rfl⟩ := hw'; exact HB1.out.trans (z.inD.mono (by omega))
        clear hw'
        go_wp2
        go_ret
        exact ⟨ret_bool hfin.out.symm, hb4.out⟩
    · obtain rfl : k = L.length := by omega
      have hfin := Lib.hid (chiefB_yes (lt := ltB y) (L := L) (i := (i : Int)) fun m hm _ => hall.out m hm hm)
      go_wp2
      go_ret
      exact ⟨ret_bool hfin.out.symm, HB1.out⟩

set_option maxRecDepth 100000 in
set_option maxHeartbeats 4000000 in
theorem l5Resolve_any (lo hi lo' hi' : Nat) (sv cv fv kv : Value) (y : Sy) (nm : ByteArray) (ks : List Int) (w : World) (hv : SyAt w lo hi sv cv fv y) (hk : IntsAt w lo' hi' kv ks) (hB : hi ≤ w.heap.size) (hB' : hi' ≤ w.heap.size) (hbk : y.bulk ≤ 1048576) (hok : kindsB y ks = true) :
    Calls Tryz.prog 70 #[.agg #[sv, cv, fv], .string nm, kv] w fun e w' => e = .returned (.tuple #[.int .i64 (pickI (ltB y) (applicV y nm ks)), .string (pickW (ltB y) (applicV y nm ks))]) ∧ Below w.heap.size w w' := by
  obtain ⟨A, cap, rfl, hl1, hm1, hi1⟩ := hv.1.1.form
  obtain ⟨B, bap, rfl, hl2, hm2, hc1⟩ := hv.1.2.form
  obtain ⟨F, fap, rfl, hl3, hm3, hf1⟩ := hv.2.form
  obtain ⟨K, kap, rfl, hlk, hmk, hk1⟩ := hk.form
  unfold maxLen at hm3
  have hn : y.fs.length ≤ 1048576 := by unfold Sy.bulk at hbk; omega
  have Hv := Lib.hid hv
  have Hk := Lib.hid hk1
  have Hsy := Lib.hid (kindsB_of hok).1
  have H3 := Lib.hid (show Below w.heap.size w (w.alloc (.cells #[.slice A y.ty.sizes.length cap, .slice B y.ty.cos.length bap, .slice F y.fs.length fap] 37)) by go_grown)
  have H1 := Lib.hid (Below.refl (w.heap.size + 1) (w.alloc (.cells #[.slice A y.ty.sizes.length cap, .slice B y.ty.cos.length bap, .slice F y.fs.length fap] 37)))
  have hLle := applicV_le y nm ks
  have hLwf := applicV_wf y nm ks hbk
  have Hfn := Lib.hid (fnsIn_applic y nm ks)
  have Hok := Lib.hid hok
  clear hi1 hc1 hf1 hk1 hk hv hok
  go_enter Tryz.func70, Tryz.ntmps70
  go_wp2_with fail
  refine (l5Applicable_any lo hi lo' hi' _ _ _ _ y nm ks _ (Hv.out.below H3.out hB) (Hk.out.below H3.out hB') (by simp; omega) (by simp; omega) hbk Hok.out).mono ?_
  rintro e wL ⟨v, rfl, hbL, hown⟩
  simp only [World.size_alloc] at hbL hown
  obtain ⟨L, hLe⟩ : ∃ L, L = applicV y nm ks := ⟨_, rfl⟩
  rw [← hLe] at hLle hLwf Hfn hown
  have HLe := Lib.hid hLe
  clear hLe
  have hbi := Lib.hid (ownsRow.intsAt (lo := w.heap.size + 1) (hi := wL.heap.size) (show wL.ownsRow (w.heap.size + 1) 3 1 _ L.length (L.map (Value.int .i64)) from hown) hLwf (Nat.le_refl _) (Nat.le_refl _))
  obtain ⟨OA, OC, rfl⟩ := owns_form hown
  have Hbi := hbi
  have hb := Lib.hid (H1.out.trans (hbL.mono (by omega)))
  have hLs : w.heap.size + 1 ≤ wL.heap.size := by have := hbL.size; simp at this; omega
  clear hLwf hbL hown
  go_wp2
  go_loopw [17] (fun p wr => ∃ j : Nat, j ≤ L.length ∧ p = .int .i64 j ∧ Hid (Below wL.heap.size wL wr) ∧ Hid (∀ m, m < j → ∀ (hm : m < L.length), chiefB (ltB y) L L[m] = false)) (fun p _ => L.length - (intOf p).toNat)
  case atStart => exact ⟨0, Nat.zero_le _, rfl, Below.refl _ _, fun j hj => absurd hj (by omega)⟩
  case round =>
    obtain ⟨j, hj, rfl, hbx, hno⟩ := hrel
    have hsx := hbx.out.size
    obtain ⟨q0, q1, q2, hlr, hb0⟩ := box3 (hb.out.trans (hbx.out.mono hLs))
    have Hb0 := Lib.hid hb0
    clear hb0
    by_cases hlt : j < L.length
    · have Hbix := Lib.hid (Hbi.out.below hbx.out (Nat.le_refl _))
      obtain ⟨ij, ej, hij⟩ := Hfn.out j hlt
      obtain ⟨b8, off8, rfl, _, _, c8, _⟩ := Hbix.out.at_ hlt
      rw [ej] at c8
      have Ej := Lib.hid ej
      clear ej
      go_wp2_with fail
      refine (l5Below_any lo hi (w.heap.size + 1) wL.heap.size _ _ _ _ y ij L _ (Hv.out.below Hb0.out hB) Hbix.out (by omega) (by omega) Hsy.out hij Hfn.out).mono ?_
      rintro e w4 ⟨rfl, hb4⟩
      have Hb4 := Lib.hid hb4
      clear hb4
      by_cases hc : chiefB (ltB y) L (ij : Int) = true
      · have hp := Lib.hid (pick_at (lt := ltB y) hlt hno.out (by rw [Ej.out]; exact hc))
        rw [hc]
        clear hc
        go_wp2
        refine bodyPost_ret (v := .tuple #[.int .i64 ij, .string wOne]) (by simp [results, Tryz.results70, go_sem, wOne]) rfl ?_
        exact ⟨by rw [← HLe.out, hp.out.1, hp.out.2, Ej.out], Hb0.out.trans (Hb4.out.mono (by omega))⟩
      · have hcf : chiefB (ltB y) L (ij : Int) = false := by simpa using hc
        have hno2 : Hid (∀ m, m < j + 1 → ∀ (hm : m < L.length), chiefB (ltB y) L L[m] = false) := fun m h1 hm => by
          by_cases e : m = j
          · subst e; rw [Ej.out]; exact hcf
          · exact hno.out m (by omega) hm
        have hbx2 := Lib.hid (hbx.out.trans (Hb4.out.mono hsx))
        rw [hcf]
        clear hc hcf
        go_wp2
        go_roundw
        case rel => exact ⟨j + 1, by omega, by go_num, hbx2.out, hno2⟩
        case measure => simp [intOf]; omega
    · obtain rfl : j = L.length := by omega
      by_cases h0 : 0 < L.length
      · have hp := Lib.hid (pick_many (lt := ltB y) (L := L) (fun e => by rw [e] at h0; simp at h0) fun m hm => hno.out m hm hm)
        go_wp2
        refine bodyPost_ret (v := .tuple #[.int .i64 (-1), .string wMany]) (by simp [results, Tryz.results70, go_sem, wMany]) rfl ?_
        exact ⟨by rw [← HLe.out, hp.out.1, hp.out.2], Hb0.out⟩
      · have hL0 : L = [] := by
          cases L with
          | nil => rfl
          | cons x l => simp at h0
        have hp := Lib.hid (show pickI (ltB y) L = -1 ∧ pickW (ltB y) L = wNone by rw [hL0]; exact pick_nil _)
        clear hL0
        go_wp2
        refine bodyPost_ret (v := .tuple #[.int .i64 (-1), .string wNone]) (by simp [results, Tryz.results70, go_sem, wNone]) rfl ?_
        exact ⟨by rw [← HLe.out, hp.out.1, hp.out.2], Hb0.out⟩

theorem bestOf_times (c : Int → Int) (l : List Int) : (bestOf c l).times ≤ l.length := by
  have h := bestIs c l.length l rfl
  rcases h.count with h1 | h1
  · rw [h1]; exact List.length_filter_le _ _
  · rw [h.nil.2 h1]; omega
theorem bestOf_cost {c : Int → Int} {l : List Int} {n : Int} (hc : ∀ k ∈ l, 0 ≤ c k ∧ c k ≤ n) (hn : 0 ≤ n) : 0 ≤ (bestOf c l).cost ∧ (bestOf c l).cost ≤ n := by
  have h := bestIs c l.length l rfl
  by_cases e : l = []
  · subst e; exact ⟨Int.le_refl _, hn⟩
  · have := hc _ (h.mem e).1
    rw [(h.mem e).2] at this
    exact this

end Go.Proofs.YtgkfddhhkjblgaaGreatDoor

namespace Go.Proofs.YtgkfddhhkjblgaaGreatDoor
open Go.RowKit

/-- The reader in block b is before l. -/
def Txr (b : Nat) (l : List UInt8) (w : World) : Prop := Row w b 175 [.string (str l)]
theorem Txr.lt {b : Nat} {l : List UInt8} {w : World} (h : Txr b l w) : b < w.heap.size := Row.lt h
theorem Txr.cell {b : Nat} {l : List UInt8} {w : World} (h : Txr b l w) : w.cell? ⟨b, 0, none⟩ = some (.string (str l)) := Row.cell h 0
theorem Txr.frozen {b : Nat} {l : List UInt8} {w : World} (h : Txr b l w) : w.frozen? ⟨b, 0, none⟩ = false := Row.frozen h 0
theorem Txr.below {b : Nat} {l : List UInt8} {w w' : World} (h : Txr b l w) (hb : Below w.heap.size w w') : Txr b l w' := Row.below h hb (Row.lt h)
theorem Txr.set {b : Nat} {l : List UInt8} {w : World} (h : Txr b l w) (r : List UInt8) : Txr b r (w.setCell ⟨b, 0, none⟩ (.string (str r))) := Row.set_ h 0 _

theorem str_toList (l : List UInt8) : (str l).toList = l := ByteArray.toList_mk l
theorem str_first (c : UInt8) (r : List UInt8) (h : 0 < (str (c :: r)).size) : (str (c :: r))[0]'h = c := rfl
theorem str_pos (c : UInt8) (r : List UInt8) : 0 < (str (c :: r)).size := by rw [str_size]; simp
theorem byte_eq (c s : UInt8) : ((c.toNat : Int) == (s.toNat : Int)) = decide (c = s) := by
  by_cases h : c = s
  · subst h; simp
  · have : ¬ (c.toNat : Int) = (s.toNat : Int) := fun e => h (UInt8.toNat_inj.1 (by omega))
    simp [h, this]

set_option maxRecDepth 100000 in
set_option maxHeartbeats 1000000 in
theorem has_any (b : Nat) (l : List UInt8) (s : UInt8) (z : Int) (hz : z = (s.toNat : Int)) (w : World) (h : Txr b l w) :
    Calls Tryz.prog 158 #[.pointer (some ⟨b, 0, none⟩), .int .u8 z] w fun e w' => e = .returned (.bool (hasB s l)) ∧ w' = w := by
  have c0 := h.cell
  subst hz
  go_enter Tryz.func158, Tryz.ntmps158
  cases l with
  | nil =>
    have e0 : str [] = (⟨#[]⟩ : ByteArray) := rfl
    rw [e0] at c0
    go_wp2
    go_ret
    exact ⟨rfl, rfl⟩
  | cons c r =>
    have h1 : (str (c :: r)).toList = c :: r := str_toList _
    have h2 := str_first c r
    have h3 := str_pos c r
    have h4 := byte_eq c s
    clear h
    go_wp2
    go_ret
    exact ⟨rfl, rfl⟩

/-- What the reader panics with. -/
def Ev (w : World) (n : Nat) (a : Addr) : Prop := 5 < n ∧ w.cell? ⟨5, 0, none⟩ = some (.iface 270 (.pointer (some a)))
theorem Ev.keep {w w' : World} {n b : Nat} {a : Addr} (h : Ev w n a) (hk : Keep b w w') (hb : n ≤ b) : Ev w' n a :=
  ⟨h.1, (World.cell?_of_block (w := w) (hk.block (World.block_lt_of_cell? _ _ h.2) (by have := h.1; dsimp only; omega))).trans h.2⟩

/-- The panic of a text that does not fit. -/
abbrev boom (a : Addr) : Ending := .panicked [{ v := .iface 270 (.pointer (some a)), recovered := false }]

set_option maxRecDepth 100000 in
set_option maxHeartbeats 1000000 in
theorem end_yes (b : Nat) (w : World) (h : Txr b [] w) :
    Calls Tryz.prog 114 #[.pointer (some ⟨b, 0, none⟩)] w fun e w' => e = .returned (.tuple #[]) ∧ w' = w := by
  have c0 := h.cell
  have e0 : str [] = (⟨#[]⟩ : ByteArray) := rfl
  rw [e0] at c0
  go_enter Tryz.func114, Tryz.ntmps114
  go_wp2
  go_end0
  exact ⟨rfl, rfl⟩
set_option maxRecDepth 100000 in
set_option maxHeartbeats 1000000 in
theorem end_no (b : Nat) (l : List UInt8) (hl : l ≠ []) (n : Nat) (a : Addr) (w : World) (h : Txr b l w) (hv : Ev w n a) :
    Calls Tryz.prog 114 #[.pointer (some ⟨b, 0, none⟩)] w fun e w' => e = boom a ∧ w' = w := by
  have c0 := h.cell
  have c1 := hv.2
  obtain ⟨c, r, rfl⟩ : ∃ c r, l = c :: r := by
    cases l with
    | nil => exact absurd rfl hl
    | cons c r => exact ⟨c, r, rfl⟩
  have h1 : (str (c :: r)).toList = c :: r := str_toList _
  clear hl
  go_enter Tryz.func114, Tryz.ntmps114
  go_wp2
  exact ⟨rfl, rfl, rfl⟩

theorem hasB_take {s : UInt8} {l r : List UInt8} (h : rdTake s l = some r) : hasB s l = true ∧ l = s :: r := by
  cases l with
  | nil => cases h
  | cons c l =>
    by_cases hc : c = s
    · rw [rdTake, if_pos hc] at h
      injection h with h
      exact ⟨by show decide (c = s) = true; simp [hc], by rw [hc, h]⟩
    · rw [rdTake, if_neg hc] at h
      cases h
theorem hasB_no {s : UInt8} {l : List UInt8} (h : rdTake s l = none) : hasB s l = false := by
  cases l with
  | nil => rfl
  | cons c l =>
    by_cases hc : c = s
    · rw [rdTake, if_pos hc] at h
      cases h
    · show decide (c = s) = false
      simp [hc]
theorem str_tail (c : UInt8) (r : List UInt8) : (str (c :: r)).extract 1 (str (c :: r)).size = str r := by
  apply ByteArray.ext
  have h : (str (c :: r)).size = r.length + 1 := by rw [str_size]; rfl
  rw [h]
  simp [str, ByteArray.data_extract]

set_option maxRecDepth 100000 in
set_option maxHeartbeats 400000 in
theorem take_no (b : Nat) (l : List UInt8) (s : UInt8) (z : Int) (hz : z = (s.toNat : Int)) (hl : rdTake s l = none) (n : Nat) (a : Addr) (w : World) (h : Txr b l w) (hv : Ev w n a) :
    Calls Tryz.prog 150 #[.pointer (some ⟨b, 0, none⟩), .int .u8 z] w fun e w' => e = boom a ∧ w' = w := by
  have c1 := hv.2
  have Hh := has_any b l s z hz w h
  rw [hasB_no hl] at Hh
  have HH := Lib.hid Hh
  clear Hh hz hl h hv
  go_enter Tryz.func150, Tryz.ntmps150
  go_wp2_with fail
  refine HH.out.mono ?_
  rintro e w' ⟨rfl, rfl⟩
  go_wp2
  exact ⟨rfl, rfl, rfl⟩
set_option maxRecDepth 100000 in
set_option maxHeartbeats 400000 in
theorem take_yes (b : Nat) (l r : List UInt8) (s : UInt8) (z : Int) (hz : z = (s.toNat : Int)) (hl : rdTake s l = some r) (w : World) (h : Txr b l w) (hm : l.length ≤ 1048576) :
    Calls Tryz.prog 150 #[.pointer (some ⟨b, 0, none⟩), .int .u8 z] w fun e w' => e = .returned (.tuple #[]) ∧ Keep b w w' ∧ Txr b r w' := by
  obtain ⟨hh, rfl⟩ := hasB_take hl
  have Hh := has_any b _ s z hz w h
  rw [hh] at Hh
  have HH := Lib.hid Hh
  have c0 := h.cell
  have f0 := h.frozen
  have HT := Lib.hid h
  have h5 := str_tail s r
  have h6 : (str (s :: r)).size = r.length + 1 := by rw [str_size]; rfl
  rw [h6] at h5
  simp only [List.length_cons] at hm
  clear h Hh hz hl hh
  go_enter Tryz.func150, Tryz.ntmps150
  go_wp2_with fail
  refine HH.out.mono ?_
  rintro e w' ⟨rfl, rfl⟩
  go_wp2
  go_end0
  refine ⟨rfl, (Keep.refl b _).setb _, ?_⟩
  first | rw [h5] | skip
  exact HT.out.set r
set_option maxRecDepth 100000 in
set_option maxHeartbeats 400000 in
theorem digit_yes (b : Nat) (c : UInt8) (r : List UInt8) (hd : isD c = true) (w : World) (h : Txr b (c :: r) w) (hm : r.length + 1 ≤ 1048576) :
    Calls Tryz.prog 152 #[.pointer (some ⟨b, 0, none⟩)] w fun e w' => e = .returned (.int .i64 (valD c)) ∧ Keep b w w' ∧ Txr b r w' := by
  have c0 := h.cell
  have f0 := h.frozen
  have HT := Lib.hid h
  have h1 : (str (c :: r)).toList = c :: r := str_toList _
  have h2 := str_first c r
  have h3 := str_pos c r
  have h5 := str_tail c r
  have h6 : (str (c :: r)).size = r.length + 1 := by rw [str_size]; rfl
  rw [h6] at h5 h3
  simp only [isD, Bool.and_eq_true, decide_eq_true_eq] at hd
  obtain ⟨d1, d2⟩ := hd
  have e1 : ¬ ((c.toNat : Nat) : Int) < 48 := by omega
  have e2 : ¬ (57 : Int) < ((c.toNat : Nat) : Int) := by omega
  clear h
  go_enter Tryz.func152, Tryz.ntmps152
  go_wp2
  go_ret
  exact ⟨rfl, (Keep.refl b _).setb _, HT.out.set r⟩
set_option maxRecDepth 100000 in
set_option maxHeartbeats 400000 in
theorem digit_no (b : Nat) (l : List UInt8) (hl : rdDigit l = none) (n : Nat) (a : Addr) (w : World) (h : Txr b l w) (hv : Ev w n a) :
    Calls Tryz.prog 152 #[.pointer (some ⟨b, 0, none⟩)] w fun e w' => e = boom a ∧ w' = w := by
  have c0 := h.cell
  have v0 := hv.2
  clear h hv
  cases l with
  | nil =>
    have e0 : str [] = (⟨#[]⟩ : ByteArray) := rfl
    rw [e0] at c0
    clear hl
    go_enter Tryz.func152, Tryz.ntmps152
    go_wp2
    exact ⟨rfl, rfl, rfl⟩
  | cons c r =>
    have h1 : (str (c :: r)).toList = c :: r := str_toList _
    have h2 := str_first c r
    have h3 := str_pos c r
    have hd : isD c = false := by
      cases hc : isD c with
      | false => rfl
      | true => simp [rdDigit, hc] at hl
    simp only [isD, Bool.and_eq_false_iff, decide_eq_false_iff_not] at hd
    clear hl
    by_cases d1 : 48 ≤ c.toNat
    · have e1 : ¬ ((c.toNat : Nat) : Int) < 48 := by omega
      have e2 : (57 : Int) < ((c.toNat : Nat) : Int) := by omega
      clear hd
      go_enter Tryz.func152, Tryz.ntmps152
      go_wp2
      exact ⟨rfl, rfl, rfl⟩
    · have e1 : ((c.toNat : Nat) : Int) < 48 := by omega
      clear hd
      go_enter Tryz.func152, Tryz.ntmps152
      go_wp2
      exact ⟨rfl, rfl, rfl⟩
end Go.Proofs.YtgkfddhhkjblgaaGreatDoor

namespace Go.Proofs.YtgkfddhhkjblgaaGreatDoor
open Go.RowKit

/-- How much is left to read. -/
def restLen (b : Nat) (w : World) : Nat := match w.cell? ⟨b, 0, none⟩ with
  | some (.string s) => s.size
  | _ => 0
theorem Txr.restLen {b : Nat} {l : List UInt8} {w : World} (h : Txr b l w) : restLen b w = l.length := by
  unfold Go.Proofs.YtgkfddhhkjblgaaGreatDoor.restLen
  rw [h.cell]
  exact str_size l
theorem hasB_cons {s : UInt8} {l : List UInt8} (h : hasB s l = true) : ∃ r, l = s :: r ∧ rdTake s l = some r := by
  cases l with
  | nil => cases h
  | cons c r =>
    have hc : c = s := by simpa [hasB] using h
    subst hc
    exact ⟨r, rfl, by simp [rdTake]⟩
theorem rdDigit_cons {l r : List UInt8} {z : Int} (h : rdDigit l = some (z, r)) : ∃ c, l = c :: r ∧ isD c = true ∧ z = valD c := by
  cases l with
  | nil => cases h
  | cons c t =>
    cases hc : isD c with
    | false => simp [rdDigit, hc] at h
    | true =>
      simp [rdDigit, hc] at h
      exact ⟨c, by rw [h.2], hc, h.1.symm⟩
theorem Txr.keep_own {b : Nat} {l : List UInt8} {w w' : World} {row : Option Nat} (h : Txr b l w) (hg : w.grownBy w' row) (hr : ∀ g, row = some g → g ≠ b) : Txr b l w' :=
  (hg.block b h.lt fun e => hr b e.symm rfl).trans h
theorem Keep.own {b : Nat} {w w' w'' : World} {row : Option Nat} (h : Keep b w w') (hg : w'.grownBy w'' row) (hr : ∀ g, row = some g → w.heap.size ≤ g) : Keep b w w'' :=
  ⟨⟨hg.os.trans h.grown.os, hg.tape.trans h.grown.tape, hg.output.trans h.grown.output, Nat.le_trans h.size hg.size, fun j hj hb => (hg.block j (Nat.lt_of_lt_of_le hj h.size) fun e => by have := hr j e.symm; omega).trans (h.grown.block j hj hb)⟩⟩
theorem own_ge {w : World} {N : Nat} {t : TypeId} {v : Value} {n : Nat} {xs : List Value} (h : w.ownsRow N t 1 v n xs) : ∀ g, v.ownBlock = some g → N ≤ g := by
  intro k hk
  obtain ⟨_, ⟨e, _⟩ | ⟨g, cap3, cur, e, hg, _⟩⟩ := h
  · rw [e] at hk; simp [Value.ownBlock] at hk
  · rw [e] at hk; simp [Value.ownBlock] at hk; omega
theorem own_keep {b N : Nat} {w w' : World} {t : TypeId} {v : Value} {n : Nat} {xs : List Value} (h : w.ownsRow N t 1 v n xs) (hk : Keep b w w') (hb : b < N) : w'.ownsRow N t 1 v n xs :=
  h.kept (row := some b) hk.grown (by
    cases hv : v.ownBlock with
    | none => exact .inl rfl
    | some g =>
      refine .inr fun e => ?_
      have h1 := own_ge h g hv
      injection e with e
      omega)

/-- What reading numbers comes to. -/
def NumsPost (b : Nat) (l : List UInt8) (a : Addr) (w : World) (e : Ending) (w' : World) : Prop :=
  ((∃ zs r v, rdNums l = some (zs, r) ∧ e = .returned v ∧ w'.ownsRow w.heap.size 3 1 v zs.length (zs.map (Value.int .i64)) ∧ Txr b r w') ∨ (rdNums l = none ∧ e = boom a)) ∧ Keep b w w'

end Go.Proofs.YtgkfddhhkjblgaaGreatDoor

