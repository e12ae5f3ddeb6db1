/-
  The contract of the model's l10Kinds.
  The contracts of the model's l5Below, l5Resolve, ResolveCall and ResolveByCost.
-/
import Derived.Test.YtnmbjmocnafekaaGreatDoorG25
import Derived.Test.YtnmbjmocnafekaaGreatDoorG26
import Derived.Test.YtnmbjmocnafekaaGreatDoorG9
import Derived.Test.YtnmbjmocnafekaaGreatDoorG14
import Derived.Test.YtnmbjmocnafekaaGreatDoorG20
import Derived.Test.YtnmbjmocnafekaaGreatDoorG22
import Derived.Test.YtnmbjmocnafekaaGreatDoorG7
import Derived.WalkMore
import Derived.BigQuiet
namespace Go.Proofs.YtnmbjmocnafekaaGreatDoor
open Go.RowKit

/-- All rows of so many numbers below a limit, made from those of one number less. -/
def kindsS (t : Nat) : Nat → List (List Int)
  | 0 => [[]]
  | n + 1 => ((kindsS t n).map fun r => (List.range t).map fun k : Nat => r ++ [(k : Int)]).flatten
theorem kindsS_small {t : Nat} (ht : t ≤ 5) : ∀ {i : Nat}, i ≤ 1 → (kindsS t i).length ≤ 5 ∧ ∀ r ∈ kindsS t i, r.length ≤ 1 ∧ ∀ z ∈ r, 0 ≤ z ∧ z < 5
  | 0, _ => ⟨by simp [kindsS], fun r hr => by simp [kindsS] at hr; subst hr; exact ⟨by simp, fun z hz => (by cases hz)⟩⟩
  | 1, _ => by
    have e : kindsS t 1 = (List.range t).map fun k : Nat => [(k : Int)] := by simp [kindsS]
    rw [e]
    refine ⟨by simpa using ht, fun r hr => ?_⟩
    obtain ⟨k, hk, rfl⟩ := List.mem_map.1 hr
    have := List.mem_range.1 hk
    refine ⟨by simp, fun z hz => ?_⟩
    rw [List.mem_singleton] at hz
    subst hz
    omega
  | i + 2, h => absurd h (by omega)
theorem flat_single {α β : Type} (g : α → β) (l : List α) : (l.map fun x => [g x]).flatten = l.map g := by
  induction l with
  | nil => rfl
  | cons a l ih => rw [List.map_cons, List.flatten_cons, ih]; rfl
theorem kindsS_rows (t : Nat) : ∀ {n : Nat}, n ≤ 2 → kindsS t n = rowsL (List.replicate n (t : Int))
  | 0, _ => rfl
  | 1, _ => by simp [kindsS, rowsL, List.replicate, flat_single]
  | 2, _ => by simp [kindsS, rowsL, List.replicate, Function.comp_def, flat_single]
  | n + 3, h => absurd h (by omega)
theorem flat_one {α β : Type} (F : α → List β) {l : List α} {j : Nat} (hj : j < l.length) : ((l.take (j + 1)).map F).flatten = ((l.take j).map F).flatten ++ F l[j] := by
  rw [List.take_succ_eq_append_getElem hj, List.map_append, List.flatten_append]
  simp
set_option maxRecDepth 100000 in
set_option maxHeartbeats 1000000 in
theorem l10Kinds_any (t n : Nat) (ht : t ≤ 5) (hn : n ≤ 2) (w : World) :
    Calls Tryz.prog 43 #[.int .i64 ((t : Nat) : Int), .int .i64 ((n : Nat) : Int)] w fun e w' => ∃ ov, e = .returned ov ∧ Below w.heap.size w w' ∧ WaysAt w' w.heap.size ov (kindsS t n) := by
  obtain ⟨i0, hi0, hz0, hz1, hz2⟩ := info_parts Tryz.infoInt
  obtain ⟨j0, hj0, hy0, hy1, hy2⟩ := info_parts (show (Tryz.prog.info? 22).map (fun i => (i.zero, i.size, i.bytes)) = some (some (.slice none 0 0), 1, 24) by kernel_rfl)
  obtain ⟨W2, hW2⟩ : ∃ u, u = (w.alloc (.cells #[] 3)).alloc (.cells #[.slice (some ⟨w.heap.size, 0, none⟩) 0 0] 22) := ⟨_, rfl⟩
  have h2s : W2.heap.size = w.heap.size + 2 := by rw [hW2]; simp
  have HB2 : Hid (Below w.heap.size w W2) := by show Below _ _ _; rw [hW2]; exact ((Below.refl _ _).alloc (Nat.le_refl _) _).alloc (by simp) _
  have HW2 : Hid (WaysAt W2 w.heap.size (.slice (some ⟨w.heap.size + 1, 0, none⟩) 1 1) (kindsS t 0)) := by
    show WaysAt _ _ _ _
    have ho := World.ownsRow_lit (base := w.heap.size) (e := 22) (size := 1) (w.alloc (.cells #[] 3)) #[.slice (some ⟨w.heap.size, 0, none⟩) 0 0] 1 (by simp) (by unfold maxLen; omega) rfl
    rw [← hW2, World.size_alloc] at ho
    exact ⟨_, fun _ => False, ho, fun i hi => ⟨.slice (some ⟨w.heap.size, 0, none⟩) 0 0, by
      obtain rfl : i = 0 := by simp [kindsS] at hi; omega
      rfl, by
      obtain rfl : i = 0 := by simp [kindsS] at hi; omega
      exact ⟨_, 0, rfl, Nat.le_refl _, by unfold maxLen; omega, fun z hz => (by simp [kindsS] at hz), fun h => absurd h (by simp [kindsS])⟩⟩, fun b h => h.elim⟩
  go_enter Tryz.func43, Tryz.ntmps43
  go_wp2_with fail
  rw [← hW2]
  clear hW2
  go_loopw [5, 13] (fun ov ix wr => ∃ i : Nat, i ≤ n ∧ ix = .int .i64 i ∧ Hid (Below w.heap.size w wr) ∧ Hid (WaysAt wr w.heap.size ov (kindsS t i))) (fun _ ix _ => n - (intOf ix).toNat)
  case atStart => exact ⟨0, Nat.zero_le _, rfl, HB2.out, HW2.out⟩
  case round =>
    obtain ⟨i, hi, rfl, hbr, hwr⟩ := hrel
    have hsr := hbr.out.size
    by_cases hin : i < n
    · obtain ⟨hk5, hkr⟩ := kindsS_small ht (i := i) (by omega)
      have HKR := Lib.hid hkr
      have HKS : Hid (kindsS t (i + 1) = ((kindsS t i).map fun r => (List.range t).map fun k : Nat => r ++ [(k : Int)]).flatten) := rfl
      obtain ⟨ks, hks⟩ : ∃ ks, ks = kindsS t i := ⟨_, rfl⟩
      rw [← hks] at HKR HKS hk5 hwr
      obtain ⟨xs, S, ho, hread, hS⟩ := hwr.out
      obtain ⟨OA, OC, rfl⟩ := owns_form ho
      have HO := Lib.hid ho
      have HRD := Lib.hid hread
      have HS := Lib.hid hS
      obtain ⟨W3, hW3⟩ : ∃ u, u = wr.alloc (.cells #[] 22) := ⟨_, rfl⟩
      have h3s : W3.heap.size = wr.heap.size + 1 := by rw [hW3]; simp
      have HB3 : Hid (Below wr.heap.size wr W3) := by show Below _ _ _; rw [hW3]; exact (Below.refl _ _).alloc (Nat.le_refl _) _
      have HW3 : Hid (WaysAt W3 wr.heap.size (.slice (some ⟨wr.heap.size, 0, none⟩) 0 0) []) := by
        show WaysAt _ _ _ _
        rw [hW3]
        exact waysAt_nil (World.ownsRow_lit wr #[] 0 (Nat.le_refl _) (by unfold maxLen; omega) rfl)
      have hinI : (i : Int) < (n : Int) := by omega
      clear ho hread hS hwr hkr hks
      go_wp2_with fail
      rw [← hW3]
      clear hW3
      go_loopw [6, 18] (fun nv ix wm => ∃ (j : Nat) (zss : List (List Int)), j ≤ ks.length ∧ ix = .int .i64 j ∧ zss.length ≤ 5 * j ∧ zss = ((ks.take j).map fun r => (List.range t).map fun k : Nat => r ++ [(k : Int)]).flatten ∧ Hid (Below wr.heap.size wr wm) ∧ Hid (WaysAt wm wr.heap.size nv zss)) (fun _ ix _ => ks.length - (intOf ix).toNat)
      case atStart => exact ⟨0, [], Nat.zero_le _, rfl, by simp, by simp, HB3.out, HW3.out⟩
      case round =>
        obtain ⟨j, zss, hj, rfl, hzl, hzs, hbm, hwm⟩ := hrel
        obtain ⟨wm, rfl⟩ : ∃ u, u = wr := ⟨_, rfl⟩
        have hsm := hbm.out.size
        by_cases hjl : j < ks.length
        · obtain ⟨og, hOA, hg1, hg2, _, hcells⟩ := own_cells HO.out (by omega)
          subst hOA
          obtain ⟨x, hx, hxin⟩ := HRD.out j hjl
          obtain ⟨hr1, hr0⟩ := HKR.out ks[j] (List.getElem_mem hjl)
          have HF := Lib.hid (flat_one (fun r => (List.range t).map fun k : Nat => r ++ [(k : Int)]) hjl)
          have hck : wm.cell? ⟨og, j, none⟩ = some x := (World.cell?_of_block (w := wr) (hbm.out.block og hg2)).trans ((hcells j hjl).trans hx)
          obtain ⟨r, hr⟩ : ∃ r, r = ks[j] := ⟨_, rfl⟩
          rw [← hr] at hxin hr1 hr0 HF
          obtain ⟨XA, XC, rfl, _, _, _, _⟩ := id hxin
          have HXI : Hid (∀ u : World, Below wr.heap.size wr u → IntsAt u w.heap.size wr.heap.size (.slice XA r.length XC) r) := fun u hu => (hxin.keep fun b hb => hu.block b (HS.out b hb).2.1).at fun b hb => ⟨(HS.out b hb).1, (HS.out b hb).2.1⟩
          have hjI : (j : Int) < (ks.length : Int) := by omega
          have Hzs := Lib.hid hzs
          clear hcells hx hxin hr hzs
          go_wp2_with fail
          go_loopw [6, 23] (fun nv ix wi => ∃ (k : Nat) (zs2 : List (List Int)), k ≤ t ∧ ix = .int .i64 k ∧ zs2.length ≤ 5 * j + k ∧ zs2 = zss ++ (List.range k).map (fun k : Nat => r ++ [(k : Int)]) ∧ Hid (Below wr.heap.size wr wi) ∧ Hid (WaysAt wi wr.heap.size nv zs2)) (fun _ ix _ => t - (intOf ix).toNat)
          case atStart => exact ⟨0, zss, Nat.zero_le _, rfl, by omega, by simp, hbm.out, hwm.out⟩
          case round =>
            obtain ⟨k, zs2, hk, rfl, hzl2, hzz, hbi, hwi⟩ := hrel
            obtain ⟨wi, rfl⟩ : ∃ u, u = wr := ⟨_, rfl⟩
            have hsi := hbi.out.size
            by_cases hkt : k < t
            · have hkI : (k : Int) < (t : Int) := by omega
              obtain ⟨ys, S2, ho2, hread2, hS2⟩ := hwi.out
              have HO2 := Lib.hid ho2
              have HRD2 := Lib.hid hread2
              have HS2 := Lib.hid hS2
              have hzn : zs2 ++ [r ++ [(k : Int)]] = zss ++ (List.range (k + 1)).map (fun k : Nat => r ++ [(k : Int)]) := by
                rw [hzz, List.range_succ, List.map_append, List.append_assoc]
                rfl
              have Hzn := Lib.hid hzn
              clear ho2 hread2 hS2 hwi hzz hzn hck
              have hal : Below wi.heap.size wi (wi.alloc (.cells #[] 3)) := (Below.refl _ _).alloc (Nat.le_refl _) _
              have hl0 := World.ownsRow_lit (base := wi.heap.size) (e := 3) (size := 1) wi #[] 0 (Nat.le_refl _) (by unfold maxLen; omega) rfl
              have HL0 := Lib.hid hl0
              have HAL := Lib.hid hal
              clear hal hl0
              go_wp2_with (at_builtin; refine wpList_append_ints rfl (.tmp 27) (.tmp 28) rfl wi.heap.size _ 0 [] rfl HL0.out w.heap.size wr.heap.size XA r.length XC r rfl (HXI.out _ (hbi.out.trans (HAL.out.mono hsi))) rfl (by omega) (by simp) ?_)
              intro VA VC w5 hown5 hgr5
              have hb5 : Below wi.heap.size wi w5 := HAL.out.grown hgr5 HAL.out.size (fun b hb => by simp [Value.ownBlock] at hb; omega)
              have HB5 := Lib.hid hb5
              have HO5 := Lib.hid hown5
              have hs5 := hb5.size
              clear hown5 hgr5 hb5
              go_wp2_with (at_builtin; refine wpList_push rfl (.tmp 29) (.tmp 31) 22 rfl i0 (.int .i64 0) 8 Tryz.underlying22 hi0 hz0 hz1 hz2 rfl rfl (HO5.out.alloc _) ⟨w5.heap.size, 0, none⟩ 1 (.int .i64 k) rfl (by simp [go_sem]) rfl (by unfold maxLen; omega) (by omega) (by simp; omega) ?_)
              intro p6 w6 hp6
              have hal5 : Below w5.heap.size w5 (w5.alloc (.cells #[.int .i64 k] 3)) := (Below.refl _ _).alloc (Nat.le_refl _) _
              have hb6 : Below wi.heap.size wi w6 := hp6.below (HO5.out.alloc _) (HB5.out.trans (hal5.mono hs5)) (by simp; omega)
              have hs6 := hb6.size
              have hown6 := ownsRow_cast (n' := (r ++ [(k : Int)]).length) (xs' := (r ++ [(k : Int)]).map (Value.int .i64)) hp6.own (by simp) (by simp)
              obtain ⟨g6, c6, rfl⟩ := hp6.form
              obtain ⟨gv6, hgo6, hgl6⟩ := OwnI.of_owns hown6
              have HX6 := Lib.hid (hgo6.ints (lo := wi.heap.size) (hi := w6.heap.size) (fun z hz => by
                rcases List.mem_append.1 hz with h | h
                · have := hr0 z h; unfold I64; omega
                · rw [List.mem_singleton] at h; subst h; unfold I64; omega) hgl6)
              have HB6 := Lib.hid hb6
              have HO6 := Lib.hid (ownsRow_below HO2.out hb6 (Nat.le_refl _))
              clear hp6 hal5 hb6 hown6 hgo6 hgl6
              go_wp2_with (at_builtin; refine wpList_push rfl (.tmp 26) (.tmp 33) 71 rfl j0 (.slice none 0 0) 24 Tryz.underlying71 hj0 hy0 hy1 hy2 rfl rfl (HO6.out.alloc _) ⟨w6.heap.size, 0, none⟩ 1 (.slice (some ⟨g6, 0, none⟩) (r.length + 1) c6) rfl (by simp [go_sem]) rfl (by unfold maxLen; omega) (by omega) (by simp; omega) ?_)
              intro p7 w7 hp7
              have hal6 : Below w6.heap.size w6 (w6.alloc (.cells #[.slice (some ⟨g6, 0, none⟩) (r.length + 1) c6] 22)) := (Below.refl _ _).alloc (Nat.le_refl _) _
              have HB7 : Hid (Below wr.heap.size wr w7) := hp7.below (HO6.out.alloc _) ((hbi.out.trans (HB6.out.mono hsi)).trans (hal6.mono (by omega))) (by simp; omega)
              have HW7 : Hid (WaysAt w7 wr.heap.size p7 (zs2 ++ [r ++ [(k : Int)]])) := rows_push _ HO2.out HRD2.out HS2.out HB6.out HX6.out hp7 hsi
              clear hp7 hal6
              go_wp2
              go_roundw
              case rel => exact ⟨k + 1, zs2 ++ [r ++ [(k : Int)]], by omega, by go_num, by simp; omega, Hzn.out, HB7.out, HW7.out⟩
              case measure => simp [intOf]; omega
            · obtain rfl : k = t := by omega
              have Hz3 : Hid (zs2 = ((ks.take (j + 1)).map fun r => (List.range k).map fun k : Nat => r ++ [(k : Int)]).flatten) := by show _ = _; rw [HF.out, hzz, ← Hzs.out]
              go_wp2
              go_roundw
              case rel => exact ⟨j + 1, zs2, by omega, by go_num, by omega, Hz3.out, hbi.out, hwi.out⟩
              case measure => simp [intOf]; omega
        · obtain rfl : j = ks.length := by omega
          have HW4 : Hid (WaysAt wm w.heap.size u6 (kindsS t (i + 1))) := by
            show WaysAt _ _ _ _
            rw [List.take_length] at hzs
            rw [HKS.out, ← hzs]
            obtain ⟨xs4, S4, h1, h2, h3⟩ := hwm.out
            exact ⟨xs4, S4, ownsRow_lower h1 hsr, h2, fun b hb => ⟨Nat.le_trans hsr (h3 b hb).1, (h3 b hb).2⟩⟩
          go_wp2
          go_roundw
          case rel => exact ⟨i + 1, by omega, by go_num, hbr.out.trans (hbm.out.mono hsr), HW4.out⟩
          case measure => simp [intOf]; omega
    · obtain rfl : i = n := by omega
      go_wp2
      try rw [Exit.noGoto_ret]
      refine bodyPost_ret (v := u5) (by simp [results, Tryz.results43, go_sem]) rfl ?_
      exact ⟨_, rfl, hbr.out, hwr.out⟩
end Go.Proofs.YtnmbjmocnafekaaGreatDoor

namespace Go.Proofs.YtnmbjmocnafekaaGreatDoor
open Go.RowKit
attribute [local go_sem] Oper.semAt_some

/-- Some numbers are functions of a system. -/
def FnsIn (y : Sy) (L : List Int) : Prop := ∀ m, ∀ (hm : m < L.length), ∃ i : Nat, L[m] = (i : Int) ∧ i < y.fs.length
theorem fnsIn_applic (y : Sy) (nm : ByteArray) (ks : List Int) : FnsIn y (applicV y nm ks) := fun m hm => by
  obtain ⟨_, i, e, hi, _⟩ := applicV_at hm
  exact ⟨i, e, hi⟩

set_option maxRecDepth 100000 in
set_option maxHeartbeats 4000000 in
theorem l5Below_any (lo hi lo' hi' : Nat) (sv cv fv lv : Value) (y : Sy) (i : Nat) (L : List Int) (w : World) (hv : SyAt w lo hi sv cv fv y) (hL : IntsAt w lo' hi' lv L) (hB : hi ≤ w.heap.size) (hB' : hi' ≤ w.heap.size) (hsy : SyOk y) (hil : i < y.fs.length) (hfn : FnsIn y L) :
    Calls Tryz.prog 125 #[.agg #[sv, cv, fv], .int .i64 i, lv] w fun e w' => e = .returned (.bool (chiefB (ltB y) L i)) ∧ Below w.heap.size w w' := by
  obtain ⟨A, cap, rfl, hl1, hm1, hi1⟩ := hv.1.1.form
  obtain ⟨B, bap, rfl, hl2, hm2, hc1⟩ := hv.1.2.form
  obtain ⟨F, fap, rfl, hl3, hm3, hf1⟩ := hv.2.form
  obtain ⟨K, kap, rfl, hlk, hmk, hk1⟩ := hL.form
  unfold maxLen at hm3 hmk
  have HT := Lib.hid (show TyAt w lo hi (.slice A y.ty.sizes.length cap) (.slice B y.ty.cos.length bap) y.ty from ⟨hi1, hc1⟩)
  have Hf := Lib.hid hf1
  have Hk := Lib.hid hk1
  have Hsy := Lib.hid hsy
  have Hfn := Lib.hid hfn
  have H1 := Lib.hid (Below.refl (w.heap.size + 1) (w.alloc (.cells #[.slice A y.ty.sizes.length cap, .slice B y.ty.cos.length bap, .slice F y.fs.length fap] 36)))
  clear hi1 hc1 hf1 hk1 hL hv hsy hfn
  go_enter Tryz.func125, Tryz.ntmps125
  go_wp2
  go_loopw [11] (fun p wr => ∃ k : Nat, k ≤ L.length ∧ p = .int .i64 k ∧ Hid (Below (w.heap.size + 1) (w.alloc (.cells #[.slice A y.ty.sizes.length cap, .slice B y.ty.cos.length bap, .slice F y.fs.length fap] 36)) wr) ∧ Hid (∀ j, j < k → ∀ (hj : j < L.length), ltB y i L[j] = true)) (fun p _ => L.length - (intOf p).toNat)
  case atStart => exact ⟨0, Nat.zero_le _, rfl, H1.out, fun j hj => absurd hj (by omega)⟩
  case round =>
    obtain ⟨k, hk, rfl, hb, hall⟩ := hrel
    obtain ⟨q0, q1, q2, hl, hB1⟩ := box3 hb.out
    have HB1 := Lib.hid hB1
    clear hB1
    by_cases hlt : k < L.length
    · obtain ⟨im, em, him⟩ := Hfn.out k hlt
      obtain ⟨b, off, A1, cap1, A2, cap2, rfl, hlo, hhi, _, d1, _, _, _, _, _, _, hfi⟩ := (Hf.out.below HB1.out hB).at_ hil
      obtain ⟨b', off', A3, cap3, A4, cap4, eF, _, _, _, f1, _, _, _, _, _, _, hfm⟩ := (Hf.out.below HB1.out hB).at_ him
      obtain ⟨rfl, rfl⟩ : b = b' ∧ off = off' := by simpa using eF
      obtain ⟨b9, off9, e9, _, _, c9, _⟩ := (Hk.out.below HB1.out hB').at_ hlt
      obtain rfl := e9
      rw [em] at c9
      have Em := Lib.hid em
      have himI : (im : Int) < (y.fs.length : Int) := by omega
      have hilI : (i : Int) < (y.fs.length : Int) := by omega
      have hwh : hi ≤ wr.heap.size := by omega
      have k0 : ∀ z : InC (Below wr.heap.size wr), z.val.cell? ⟨w.heap.size, 0, none⟩ = some (.slice A y.ty.sizes.length cap) := fun z => (z.inD.cell (p := ⟨w.heap.size, 0, none⟩) hl).trans q0
      have k1 : ∀ z : InC (Below wr.heap.size wr), z.val.cell? ⟨w.heap.size, 1, none⟩ = some (.slice B y.ty.cos.length bap) := fun z => (z.inD.cell (p := ⟨w.heap.size, 1, none⟩) hl).trans q1
      have k2 : ∀ z : InC (Below wr.heap.size wr), z.val.cell? ⟨w.heap.size, 2, none⟩ = some (.slice (some ⟨b, off, none⟩) y.fs.length fap) := fun z => (z.inD.cell (p := ⟨w.heap.size, 2, none⟩) hl).trans q2
      have k3 : ∀ z : InC (Below wr.heap.size wr), z.val.cell? ⟨b, off + i * 4 + 1, none⟩ = some (.slice A1 y.fs[i].args.length cap1) := fun z => (z.inD.cell (p := ⟨b, off + i * 4 + 1, none⟩) (by show b < wr.heap.size; omega)).trans d1
      have k4 : ∀ z : InC (Below wr.heap.size wr), z.val.cell? ⟨b, off + im * 4 + 1, none⟩ = some (.slice A3 y.fs[im].args.length cap3) := fun z => (z.inD.cell (p := ⟨b, off + im * 4 + 1, none⟩) (by show b < wr.heap.size; omega)).trans f1
      have Hfi := Lib.hid hfi.2.2.2.2.1
      have Hfm := Lib.hid hfm.2.2.2.2.1
      have Hks2 := Lib.hid (fun z : InC (Below wr.heap.size wr) => l4Fits_any lo hi lo hi lo hi _ _ _ _ y.ty y.fs[i].args y.fs[im].args z.val (HT.out.below (HB1.out.trans (z.inD.mono (by omega))) hB) (Hfi.out.below z.inD hwh) (Hfm.out.below z.inD hwh) (by have := z.inD.size; omega) (by have := z.inD.size; omega) (by have := z.inD.size; omega) Hsy.out.ty (Hsy.out.each i hil).args (Hsy.out.each im him).args)
      have hneC : Nonempty (InC (Below wr.heap.size wr)) := ⟨⟨wr, Below.refl _ _⟩⟩
      have hfe : Hid (ltB y i L[k] = fitsToB y.ty y.fs[i].args y.fs[im].args) := by show _ = _; unfold ltB; rw [Em.out, argsOf_at him, argsOf_at hil]
      have hself : Hid (fitsToB y.ty y.fs[i].args y.fs[im].args = false → L[k] ≠ (i : Int)) := fun h e => by
        rw [← hfe.out, e] at h
        unfold ltB at h
        rw [fits_self] at h
        cases h
      clear hfi hfm d1 f1 q0 q1 q2 eF em
      by_cases hc : fitsToB y.ty y.fs[i].args y.fs[im].args = true
      · have Hc := Lib.hid hc
        have hall2 : Hid (∀ j, j < k + 1 → ∀ (hj : j < L.length), ltB y i L[j] = true) := fun j hj hjl => by
          by_cases e : j = k
          · subst e; rw [hfe.out]; exact hc
          · exact hall.out j (by omega) hjl
        clear hc
        go_wp2_with fail
        refine wp_region_class (Below wr.heap.size wr) (by kernel_rfl) (by kernel_rfl) ((Below.refl _ _).drew) ?_
        repeat (go_big_quiet_step ((go_at_call 124; rename_i z; exact (Hks2.out z).mono fun e w' ⟨he, hbx⟩ => ⟨by rw [he, Hc.out], ⟨_, z.inD.trans (hbx.mono z.inD.size)⟩, rfl⟩)))
        refine wpQuiet_nil ?_
        intro w4 hw'
        have hb4 : Hid (Below (w.heap.size + 1) (w.alloc (.cells #[.slice A y.ty.sizes.length cap, .slice B y.ty.cos.length bap, .slice (some ⟨b, off, none⟩) y.fs.length fap] 36)) w4) := by obtain ⟨z, rfl⟩ := hw'; exact hb.out.trans (z.inD.mono (by omega))
        clear hw'
        go_wp2
        go_roundw
        case rel => exact ⟨k + 1, by omega, by go_num, hb4.out, hall2⟩
        case measure => simp [intOf]; omega
      · have hcf := Lib.hid (show fitsToB y.ty y.fs[i].args y.fs[im].args = false by simpa using hc)
        have hfin := Lib.hid (chiefB_no (lt := ltB y) (i := (i : Int)) hlt (hself.out hcf.out) (by rw [hfe.out]; exact hcf.out))
        clear hc
        go_wp2_with fail
        refine wp_region_class (Below wr.heap.size wr) (by kernel_rfl) (by kernel_rfl) ((Below.refl _ _).drew) ?_
        repeat (go_big_quiet_step ((go_at_call 124; rename_i z; exact (Hks2.out z).mono fun e w' ⟨he, hbx⟩ => ⟨by rw [he, hcf.out], ⟨_, z.inD.trans (hbx.mono z.inD.size)⟩, rfl⟩)))
        refine wpQuiet_nil ?_
        intro w4 hw'
        have hb4 : Hid (Below w.heap.size w w4) := by obtain ⟨z, rfl⟩ := hw'; exact HB1.out.trans (z.inD.mono (by omega))
        clear hw'
        go_wp2
        go_ret
        exact ⟨ret_bool hfin.out.symm, hb4.out⟩
    · obtain rfl : k = L.length := by omega
      have hfin := Lib.hid (chiefB_yes (lt := ltB y) (L := L) (i := (i : Int)) fun m hm _ => hall.out m hm hm)
      go_wp2
      go_ret
      exact ⟨ret_bool hfin.out.symm, HB1.out⟩

set_option maxRecDepth 100000 in
set_option maxHeartbeats 4000000 in
theorem l5Resolve_any (lo hi lo' hi' : Nat) (sv cv fv kv : Value) (y : Sy) (nm : ByteArray) (ks : List Int) (w : World) (hv : SyAt w lo hi sv cv fv y) (hk : IntsAt w lo' hi' kv ks) (hB : hi ≤ w.heap.size) (hB' : hi' ≤ w.heap.size) (hbk : y.bulk ≤ 1048576) (hok : kindsB y ks = true) :
    Calls Tryz.prog 80 #[.agg #[sv, cv, fv], .string nm, kv] w fun e w' => e = .returned (.tuple #[.int .i64 (pickI (ltB y) (applicV y nm ks)), .string (pickW (ltB y) (applicV y nm ks))]) ∧ Below w.heap.size w w' := by
  obtain ⟨A, cap, rfl, hl1, hm1, hi1⟩ := hv.1.1.form
  obtain ⟨B, bap, rfl, hl2, hm2, hc1⟩ := hv.1.2.form
  obtain ⟨F, fap, rfl, hl3, hm3, hf1⟩ := hv.2.form
  obtain ⟨K, kap, rfl, hlk, hmk, hk1⟩ := hk.form
  unfold maxLen at hm3
  have hn : y.fs.length ≤ 1048576 := by unfold Sy.bulk at hbk; omega
  have Hv := Lib.hid hv
  have Hk := Lib.hid hk1
  have Hsy := Lib.hid (kindsB_of hok).1
  have H3 := Lib.hid (show Below w.heap.size w (w.alloc (.cells #[.slice A y.ty.sizes.length cap, .slice B y.ty.cos.length bap, .slice F y.fs.length fap] 36)) by go_grown)
  have H1 := Lib.hid (Below.refl (w.heap.size + 1) (w.alloc (.cells #[.slice A y.ty.sizes.length cap, .slice B y.ty.cos.length bap, .slice F y.fs.length fap] 36)))
  have hLle := applicV_le y nm ks
  have hLwf := applicV_wf y nm ks hbk
  have Hfn := Lib.hid (fnsIn_applic y nm ks)
  have Hok := Lib.hid hok
  clear hi1 hc1 hf1 hk1 hk hv hok
  go_enter Tryz.func80, Tryz.ntmps80
  go_wp2_with fail
  refine (l5Applicable_any lo hi lo' hi' _ _ _ _ y nm ks _ (Hv.out.below H3.out hB) (Hk.out.below H3.out hB') (by simp; omega) (by simp; omega) hbk Hok.out).mono ?_
  rintro e wL ⟨v, rfl, hbL, hown⟩
  simp only [World.size_alloc] at hbL hown
  obtain ⟨L, hLe⟩ : ∃ L, L = applicV y nm ks := ⟨_, rfl⟩
  rw [← hLe] at hLle hLwf Hfn hown
  have HLe := Lib.hid hLe
  clear hLe
  have hbi := Lib.hid (ownsRow.intsAt (lo := w.heap.size + 1) (hi := wL.heap.size) (show wL.ownsRow (w.heap.size + 1) 3 1 _ L.length (L.map (Value.int .i64)) from hown) hLwf (Nat.le_refl _) (Nat.le_refl _))
  obtain ⟨OA, OC, rfl⟩ := owns_form hown
  have Hbi := hbi
  have hb := Lib.hid (H1.out.trans (hbL.mono (by omega)))
  have hLs : w.heap.size + 1 ≤ wL.heap.size := by have := hbL.size; simp at this; omega
  clear hLwf hbL hown
  go_wp2
  go_loopw [17] (fun p wr => ∃ j : Nat, j ≤ L.length ∧ p = .int .i64 j ∧ Hid (Below wL.heap.size wL wr) ∧ Hid (∀ m, m < j → ∀ (hm : m < L.length), chiefB (ltB y) L L[m] = false)) (fun p _ => L.length - (intOf p).toNat)
  case atStart => exact ⟨0, Nat.zero_le _, rfl, Below.refl _ _, fun j hj => absurd hj (by omega)⟩
  case round =>
    obtain ⟨j, hj, rfl, hbx, hno⟩ := hrel
    have hsx := hbx.out.size
    obtain ⟨q0, q1, q2, hlr, hb0⟩ := box3 (hb.out.trans (hbx.out.mono hLs))
    have Hb0 := Lib.hid hb0
    clear hb0
    by_cases hlt : j < L.length
    · have Hbix := Lib.hid (Hbi.out.below hbx.out (Nat.le_refl _))
      obtain ⟨ij, ej, hij⟩ := Hfn.out j hlt
      obtain ⟨b8, off8, rfl, _, _, c8, _⟩ := Hbix.out.at_ hlt
      rw [ej] at c8
      have Ej := Lib.hid ej
      clear ej
      go_wp2_with fail
      refine (l5Below_any lo hi (w.heap.size + 1) wL.heap.size _ _ _ _ y ij L _ (Hv.out.below Hb0.out hB) Hbix.out (by omega) (by omega) Hsy.out hij Hfn.out).mono ?_
      rintro e w4 ⟨rfl, hb4⟩
      have Hb4 := Lib.hid hb4
      clear hb4
      by_cases hc : chiefB (ltB y) L (ij : Int) = true
      · have hp := Lib.hid (pick_at (lt := ltB y) hlt hno.out (by rw [Ej.out]; exact hc))
        rw [hc]
        clear hc
        go_wp2
        refine bodyPost_ret (v := .tuple #[.int .i64 ij, .string wOne]) (by simp [results, Tryz.results80, go_sem, wOne]) rfl ?_
        exact ⟨by rw [← HLe.out, hp.out.1, hp.out.2, Ej.out], Hb0.out.trans (Hb4.out.mono (by omega))⟩
      · have hcf : chiefB (ltB y) L (ij : Int) = false := by simpa using hc
        have hno2 : Hid (∀ m, m < j + 1 → ∀ (hm : m < L.length), chiefB (ltB y) L L[m] = false) := fun m h1 hm => by
          by_cases e : m = j
          · subst e; rw [Ej.out]; exact hcf
          · exact hno.out m (by omega) hm
        have hbx2 := Lib.hid (hbx.out.trans (Hb4.out.mono hsx))
        rw [hcf]
        clear hc hcf
        go_wp2
        go_roundw
        case rel => exact ⟨j + 1, by omega, by go_num, hbx2.out, hno2⟩
        case measure => simp [intOf]; omega
    · obtain rfl : j = L.length := by omega
      by_cases h0 : 0 < L.length
      · have hp := Lib.hid (pick_many (lt := ltB y) (L := L) (fun e => by rw [e] at h0; simp at h0) fun m hm => hno.out m hm hm)
        go_wp2
        refine bodyPost_ret (v := .tuple #[.int .i64 (-1), .string wMany]) (by simp [results, Tryz.results80, go_sem, wMany]) rfl ?_
        exact ⟨by rw [← HLe.out, hp.out.1, hp.out.2], Hb0.out⟩
      · have hL0 : L = [] := by
          cases L with
          | nil => rfl
          | cons x l => simp at h0
        have hp := Lib.hid (show pickI (ltB y) L = -1 ∧ pickW (ltB y) L = wNone by rw [hL0]; exact pick_nil _)
        clear hL0
        go_wp2
        refine bodyPost_ret (v := .tuple #[.int .i64 (-1), .string wNone]) (by simp [results, Tryz.results80, go_sem, wNone]) rfl ?_
        exact ⟨by rw [← HLe.out, hp.out.1, hp.out.2], Hb0.out⟩

theorem bestOf_times (c : Int → Int) (l : List Int) : (bestOf c l).times ≤ l.length := by
  have h := bestIs c l.length l rfl
  rcases h.count with h1 | h1
  · rw [h1]; exact List.length_filter_le _ _
  · rw [h.nil.2 h1]; omega
theorem bestOf_cost {c : Int → Int} {l : List Int} {n : Int} (hc : ∀ k ∈ l, 0 ≤ c k ∧ c k ≤ n) (hn : 0 ≤ n) : 0 ≤ (bestOf c l).cost ∧ (bestOf c l).cost ≤ n := by
  have h := bestIs c l.length l rfl
  by_cases e : l = []
  · subst e; exact ⟨Int.le_refl _, hn⟩
  · have := hc _ (h.mem e).1
    rw [(h.mem e).2] at this
    exact this

end Go.Proofs.YtnmbjmocnafekaaGreatDoor

