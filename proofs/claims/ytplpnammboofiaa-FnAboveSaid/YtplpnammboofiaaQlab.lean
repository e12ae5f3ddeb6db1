/-
  The walk of the law FnAbove.
-/
import Derived.Test.YtplpnammboofiaaN1
import Derived.Test.YtplpnammboofiaaQosm
import Derived.Test.YtplpnammboofiaaJ10
namespace Go.Proofs.Ytplpnammboofiaa
open Go.RowKit
attribute [local go_sem] Oper.semAt_some

theorem any_take {f : Int → Bool} {l : List Int} {m : Nat} (hm : m < l.length) : (l.take (m + 1)).any f = ((l.take m).any f || f l[m]) := by
  rw [List.take_succ_eq_append_getElem hm, List.any_append]
  simp

set_option maxRecDepth 100000 in
set_option maxHeartbeats 20000000 in
theorem lawAb_walk (v : Value) (w : World) (h : CodeAt w w.heap.size v) :
    Calls Try.prog 6 #[v] w fun e w' => e = .returned (.bool true) ∧ Below w.heap.size w w' := by
  have HC := Lib.hid h
  obtain ⟨a, n, c, rfl, hnc, hcm, _⟩ := h
  unfold maxLen at hcm
  by_cases hbig : (1048576 : Int) < (n : Int)
  · go_enter Try.func6, Try.ntmps6
    go_wp2
    go_ret
    exact ⟨rfl, Below.refl _ _⟩
  go_enter Try.func6, Try.ntmps6
  go_wp2_with fail
  refine (drawJoins_any _ w HC.out).mono ?_
  rintro e w1 ⟨sv, cv, t, k, z, rfl, hb1, hv1, hd1, hk64, hz64⟩
  have hbk := hd1.bulk
  have hs20 : t.sizes.length ≤ 20 := hd1.1
  obtain ⟨A, cap, rfl, _, hcpm, _⟩ := hv1.1.form
  obtain ⟨C, cbp, rfl, _, _, _⟩ := hv1.2.form
  have HB1 := Lib.hid hb1
  have HV1 := Lib.hid hv1
  have hs1 := hb1.size
  clear hb1 hv1 hd1 HC
  go_wp2_with fail
  obtain ⟨w2, hw2⟩ : ∃ u, u = w1.alloc (.cells #[.slice A t.sizes.length cap, .slice C t.cos.length cbp] 26) := ⟨_, rfl⟩
  rewrite [← hw2]
  have hb12 : Below w1.heap.size w1 w2 := by rw [hw2]; exact (Below.refl _ _).alloc (Nat.le_refl _) _
  have hs2 : w1.heap.size < w2.heap.size := by rw [hw2]; simp
  have HT2 : Hid (Row w2 w1.heap.size 26 [.slice A t.sizes.length cap, .slice C t.cos.length cbp]) := by rw [hw2]; exact Row.new w1 26 _
  have HV2 := Lib.hid (HV1.out.below hb12 (Nat.le_refl _))
  have HB2 := Lib.hid (HB1.out.trans (hb12.mono (by omega)))
  clear hw2 hb12 HV1 HB1
  refine (implAbove_any w.heap.size w1.heap.size _ _ t k w2 HV2.out (by omega) hk64).mono ?_
  rintro e w3 ⟨v3, rfl, hb3, ho3⟩
  obtain ⟨WA, WC, rfl⟩ := owns_form ho3
  have HSW := Lib.hid (ownsRow.intsAt (lo := w2.heap.size) (hi := w3.heap.size) ho3 (aboveV_wf t k hbk) (Nat.le_refl _) (Nat.le_refl _))
  have HB3 := Lib.hid hb3
  have hs3 := hb3.size
  clear hb3 ho3
  have t0 := (HT2.out.below HB3.out (by omega)).cell 0
  have t1 := (HT2.out.below HB3.out (by omega)).cell 1
  simp only [List.getElem?_cons_zero, List.getElem?_cons_succ] at t0 t1
  go_wp2_with fail
  clear t0 t1
  refine (implJoins_any w.heap.size w1.heap.size _ _ t k z w3 (HV2.out.below HB3.out (by omega)) (by omega) hk64 hz64).mono ?_
  rintro e w4 ⟨v4, rfl, hb4, ho4⟩
  obtain ⟨XA, XC, rfl⟩ := owns_form ho4
  have HSX := Lib.hid (ownsRow.intsAt (lo := w3.heap.size) (hi := w4.heap.size) ho4 (joinsV_wf t k z hbk) (Nat.le_refl _) (Nat.le_refl _))
  have hs4 := hb4.size
  have HQ : Hid (∀ u, Below w4.heap.size w4 u → TyAt u w.heap.size w1.heap.size (.slice A t.sizes.length cap) (.slice C t.cos.length cbp) t ∧ u.cell? ⟨w1.heap.size, 0, none⟩ = some (.slice A t.sizes.length cap) ∧ u.cell? ⟨w1.heap.size, 1, none⟩ = some (.slice C t.cos.length cbp) ∧ w1.heap.size < u.heap.size ∧ Below w.heap.size w u ∧
      IntsAt u w2.heap.size w3.heap.size (.slice WA (aboveV t k).length WC) (aboveV t k) ∧ IntsAt u w3.heap.size w4.heap.size (.slice XA (joinsV t k z).length XC) (joinsV t k z)) := fun u hu => by
    have hus := hu.size
    have h34 : Below w3.heap.size w3 u := hb4.trans (hu.mono (by omega))
    have h24 : Below w2.heap.size w2 u := HB3.out.trans (h34.mono (by omega))
    have hrow := HT2.out.below h24 (by omega)
    exact ⟨HV2.out.below h24 (by omega), hrow.cell 0, hrow.cell 1, by omega, HB2.out.trans (h24.mono (by omega)), HSW.out.below h34 (Nat.le_refl _), HSX.out.below hu (Nat.le_refl _)⟩
  have HCI : Hid (∀ u a b, I64 a → I64 b → Below w4.heap.size w4 u → Calls Try.prog 18 #[.agg #[.slice A t.sizes.length cap, .slice C t.cos.length cbp], .int .i64 a, .int .i64 b] u fun e w' => e = .returned (.bool (canC t a b)) ∧ Below u.heap.size u w') := fun u a b ha hb hu => by
    obtain ⟨q, _, _, ql, _⟩ := HQ.out u hu
    exact implCan_any w.heap.size w1.heap.size _ _ t a b u q (Nat.le_of_lt ql) ha hb
  have hla : (aboveV t k).length ≤ 20 := Nat.le_trans (aboveV_le t k) hs20
  have hlj : (joinsV t k z).length ≤ 20 := Nat.le_trans (joinsV_le t k z) hs20
  have HB4 : Hid (Below w4.heap.size w4 w4) := Below.refl _ _
  clear hb4 ho4 HT2 HV2 HB2 HSW HSX HB3
  obtain ⟨qT, q0, q1, ql, qb, qA, qJ⟩ := HQ.out _ HB4.out
  have QT := Lib.hid qT
  have QA := Lib.hid qA
  have QJ := Lib.hid qJ
  have QB := Lib.hid qb
  clear qT qA qJ qb
  go_wp2_with fail
  refine (specAbove_any w.heap.size w1.heap.size _ _ t k w4 QT.out (by omega) hbk).mono ?_
  rintro e w5 ⟨v5, rfl, hbx, ho⟩
  have HB5 := Lib.hid (HB4.out.trans (hbx.mono HB4.out.size))
  obtain ⟨YA, YC, rfl⟩ := owns_form ho
  have HY := Lib.hid (ownsRow.intsAt (lo := w4.heap.size) (hi := w5.heap.size) ho (aboveV_wf t k hbk) (Nat.le_refl _) (Nat.le_refl _))
  clear ho hbx
  clear q0 q1 ql QT QA QJ QB
  obtain ⟨qT, q0, q1, ql, qb, qA, qJ⟩ := HQ.out _ HB5.out
  have QT := Lib.hid qT
  have QA := Lib.hid qA
  have QJ := Lib.hid qJ
  have QB := Lib.hid qb
  clear qT qA qJ qb
  go_wp2_with fail
  refine (ovSame_any _ _ _ _ _ _ (aboveV t k) (aboveV t k) w5 QA.out HY.out (by have := HB5.out.size; omega) (by have := HB5.out.size; omega) (by omega) (by omega)).mono ?_
  rintro e w6 ⟨rfl, hbx⟩
  have HB6 := Lib.hid (HB5.out.trans (hbx.mono HB5.out.size))
  clear hbx
  rewrite [show decide ((aboveV t k) = (aboveV t k)) = true from decide_eq_true rfl]
  clear HY
  clear q0 q1 ql QT QA QJ QB
  obtain ⟨qT, q0, q1, ql, qb, qA, qJ⟩ := HQ.out _ HB6.out
  have QT := Lib.hid qT
  have QA := Lib.hid qA
  have QJ := Lib.hid qJ
  have QB := Lib.hid qb
  clear qT qA qJ qb
  go_wp2_with fail
  refine (specJoins_any w.heap.size w1.heap.size _ _ t k z w6 QT.out (by omega) hbk).mono ?_
  rintro e w7 ⟨v7, rfl, hbx, ho⟩
  have HB7 := Lib.hid (HB6.out.trans (hbx.mono HB6.out.size))
  obtain ⟨ZA, ZC, rfl⟩ := owns_form ho
  have HZ := Lib.hid (ownsRow.intsAt (lo := w6.heap.size) (hi := w7.heap.size) ho (joinsV_wf t k z hbk) (Nat.le_refl _) (Nat.le_refl _))
  clear ho hbx
  clear q0 q1 ql QT QA QJ QB
  obtain ⟨qT, q0, q1, ql, qb, qA, qJ⟩ := HQ.out _ HB7.out
  have QT := Lib.hid qT
  have QA := Lib.hid qA
  have QJ := Lib.hid qJ
  have QB := Lib.hid qb
  clear qT qA qJ qb
  go_wp2_with fail
  refine (ovSame_any _ _ _ _ _ _ (joinsV t k z) (joinsV t k z) w7 QJ.out HZ.out (by have := HB7.out.size; omega) (by have := HB7.out.size; omega) (by omega) (by omega)).mono ?_
  rintro e w8 ⟨rfl, hbx⟩
  have HB8 := Lib.hid (HB7.out.trans (hbx.mono HB7.out.size))
  clear hbx
  rewrite [show decide ((joinsV t k z) = (joinsV t k z)) = true from decide_eq_true rfl]
  clear HZ
  clear q0 q1 ql QT QA QJ QB
  obtain ⟨qT, q0, q1, ql, qb, qA, qJ⟩ := HQ.out _ HB8.out
  have QT := Lib.hid qT
  have QA := Lib.hid qA
  have QJ := Lib.hid qJ
  have QB := Lib.hid qb
  clear qT qA qJ qb
  go_wp2_with fail
  refine (HCI.out w8 k k hk64 hk64 HB8.out).mono ?_
  rintro e w9 ⟨rfl, hbx⟩
  have HB9 := Lib.hid (HB8.out.trans (hbx.mono HB8.out.size))
  clear hbx
  clear q0 q1 ql QT QA QJ QB
  obtain ⟨x, hx⟩ : ∃ x, (((aboveV t k).length : Int) == 0) = x := ⟨_, rfl⟩
  have hcx : canC t k k = !x := by rw [above_self, ← hx]; by_cases h0 : (aboveV t k).length = 0 <;> simp [h0]
  rewrite [hcx]
  have hxx : ((!x) == x) = false := by cases x <;> rfl
  clear hcx
  go_wp2_with fail
  clear hx hxx
  go_loopw [9, 11, 60] (fun _ _ i wr => ∃ j : Nat, j ≤ (aboveV t k).length ∧ i = .int .i64 j ∧ Hid (Below w4.heap.size w4 wr)) (fun _ _ i _ => (aboveV t k).length - (intOf i).toNat)
  case atStart => exact ⟨0, Nat.zero_le _, rfl, HB9⟩
  case round =>
    obtain ⟨j, hj, rfl, hb⟩ := hrel
    by_cases hlt : j < (aboveV t k).length
    · have hji : (j : Int) < ((aboveV t k).length : Int) := by omega
      obtain ⟨qT, q0, q1, ql, qb, qA, qJ⟩ := HQ.out _ hb.out
      have QT := Lib.hid qT
      have QA := Lib.hid qA
      have QJ := Lib.hid qJ
      have QB := Lib.hid qb
      clear qT qA qJ qb
      have hwj1 : IntKind.i64.wrap ((j : Int) + 1) = (j : Int) + 1 := by rw [IntKind.wrap_i64]; omega
      obtain ⟨lb, lo, rfl, _, _, cw, hy64⟩ := QA.out.at_ hlt
      obtain ⟨y, hy⟩ : ∃ y, y = (aboveV t k)[j] := ⟨_, rfl⟩
      have hky : canC t k y = true := by rw [hy]; exact above_mem (List.getElem_mem hlt)
      rewrite [← hy] at cw hy64
      have HKY := Lib.hid hky
      clear hy hky
      go_wp2_with fail
      refine (implAbove_any w.heap.size w1.heap.size _ _ t y wr QT.out (by omega) hy64).mono ?_
      rintro e wa ⟨va, rfl, hbx, ho⟩
      have HBA := Lib.hid (hb.out.trans (hbx.mono hb.out.size))
      obtain ⟨YA, YC, rfl⟩ := owns_form ho
      have HY := Lib.hid (ownsRow.intsAt (lo := wr.heap.size) (hi := wa.heap.size) ho (aboveV_wf t y hbk) (Nat.le_refl _) (Nat.le_refl _))
      have hly : (aboveV t y).length ≤ 20 := Nat.le_trans (aboveV_le t y) hs20
      clear ho hbx cw
      clear q0 q1 ql QT QA QJ QB
      go_wp2_with fail
      go_loopw [11, 68] (fun _ i wr2 => ∃ m : Nat, m ≤ (aboveV t y).length ∧ i = .int .i64 m ∧ Hid (Below wa.heap.size wa wr2)) (fun _ i _ => (aboveV t y).length - (intOf i).toNat)
      case atStart => exact ⟨0, Nat.zero_le _, rfl, Lib.hid (Below.refl _ _)⟩
      case round =>
        obtain ⟨m, hm, rfl, hb2⟩ := hrel
        have HBR := Lib.hid (HBA.out.trans (hb2.out.mono HBA.out.size))
        by_cases hml : m < (aboveV t y).length
        · have hmi : (m : Int) < ((aboveV t y).length : Int) := by omega
          obtain ⟨qT, q0, q1, ql, qb, qA, qJ⟩ := HQ.out _ HBR.out
          have QT := Lib.hid qT
          have QA := Lib.hid qA
          have QJ := Lib.hid qJ
          have QB := Lib.hid qb
          clear qT qA qJ qb
          obtain ⟨b3, o3, rfl, _, _, c3, hl64⟩ := (HY.out.below hb2.out (Nat.le_refl _)).at_ hml
          have hkl : canC t k (aboveV t y)[m] = true := canC_trans HKY.out (above_mem (List.getElem_mem hml))
          have hwm1 : IntKind.i64.wrap ((m : Int) + 1) = (m : Int) + 1 := by rw [IntKind.wrap_i64]; omega
          have HKL := Lib.hid hkl
          clear hkl
          go_wp2_with fail
          refine (HCI.out _ k _ hk64 hl64 HBR.out).mono ?_
          rintro e wc ⟨rfl, hbx⟩
          rewrite [HKL.out]
          have HBC := Lib.hid (hb2.out.trans (hbx.mono hb2.out.size))
          clear hbx c3
          clear q0 q1 ql QT QA QJ QB
          go_wp2
          go_roundw
          case rel => exact ⟨m + 1, by omega, by go_num, HBC⟩
          case measure => simp [intOf]; omega
        · have hme : m = (aboveV t y).length := by omega
          subst hme
          clear hml
          go_wp2
          go_roundw
          case rel => exact ⟨j + 1, by omega, by go_num, HBR⟩
          case measure => simp [intOf]; omega
    · have hje : j = (aboveV t k).length := by omega
      subst hje
      clear hlt
      obtain ⟨qT, q0, q1, ql, qb, qA, qJ⟩ := HQ.out _ hb.out
      have QT := Lib.hid qT
      have QA := Lib.hid qA
      have QJ := Lib.hid qJ
      have QB := Lib.hid qb
      clear qT qA qJ qb
      go_wp2_with fail
      clear q0 q1 ql QT QA QJ QB
      go_loopw [12, 13, 14, 16, 82] (fun _ _ _ _ i wr2 => ∃ j : Nat, j ≤ t.sizes.length ∧ i = .int .i64 j ∧ Hid (Below w4.heap.size w4 wr2)) (fun _ _ _ _ i _ => t.sizes.length - (intOf i).toNat)
      case atStart => exact ⟨0, Nat.zero_le _, rfl, hb⟩
      case round =>
        obtain ⟨j, hj, rfl, hbz⟩ := hrel
        by_cases hlt : j < t.sizes.length
        · have hji : (j : Int) < (t.sizes.length : Int) := by omega
          have hj64 : I64 (j : Int) := by unfold I64; omega
          have hwj1 : IntKind.i64.wrap ((j : Int) + 1) = (j : Int) + 1 := by rw [IntKind.wrap_i64]; omega
          have HJS := Lib.hid (join_some t k z (j : Int))
          obtain ⟨qT, q0, q1, ql, qb, qA, qJ⟩ := HQ.out _ hbz.out
          have QT := Lib.hid qT
          have QA := Lib.hid qA
          have QJ := Lib.hid qJ
          have QB := Lib.hid qb
          clear qT qA qJ qb
          go_wp2_with fail
          refine (HCI.out _ k (j : Int) hk64 hj64 hbz.out).mono ?_
          rintro e wb ⟨rfl, hbx⟩
          have HBB := Lib.hid (hbz.out.trans (hbx.mono hbz.out.size))
          clear hbx
          clear q0 q1 ql QT QA QJ QB
          cases hkj : canC t k (j : Int) with
          | false =>
            have HJE : Hid (false = (joinsV t k z).any fun q => canC t q (j : Int)) := by show _ = _; rw [← HJS.out, hkj]; rfl
            clear hkj
            go_wp2_with fail
            go_loopw [14, 16, 97] (fun so _ i wr3 => ∃ m : Nat, m ≤ (joinsV t k z).length ∧ i = .int .i64 m ∧ so = .bool (((joinsV t k z).take m).any fun q => canC t q (j : Int)) ∧ Hid (Below w4.heap.size w4 wr3)) (fun _ _ i _ => (joinsV t k z).length - (intOf i).toNat)
            case atStart => exact ⟨0, Nat.zero_le _, rfl, by simp, HBB⟩
            case round =>
              obtain ⟨m, hm, rfl, rfl, hb3⟩ := hrel
              by_cases hml : m < (joinsV t k z).length
              · have hmi : (m : Int) < ((joinsV t k z).length : Int) := by omega
                obtain ⟨qT, q0, q1, ql, qb, qA, qJ⟩ := HQ.out _ hb3.out
                have QT := Lib.hid qT
                have QA := Lib.hid qA
                have QJ := Lib.hid qJ
                have QB := Lib.hid qb
                clear qT qA qJ qb
                obtain ⟨b3, o3, rfl, _, _, c3, hq64⟩ := QJ.out.at_ hml
                have HAT := Lib.hid (any_take (f := fun q => canC t q (j : Int)) hml)
                have hwm1 : IntKind.i64.wrap ((m : Int) + 1) = (m : Int) + 1 := by rw [IntKind.wrap_i64]; omega
                cases hso : ((joinsV t k z).take m).any fun q => canC t q (j : Int) with
                | true =>
                  have HE : Hid ((((joinsV t k z).take (m + 1)).any fun q => canC t q (j : Int)) = true) := by show _ = _; rw [HAT.out, hso]; rfl
                  clear hso
                  go_wp2
                  go_roundw
                  case rel => exact ⟨m + 1, by omega, by go_num, by rw [HE.out], hb3⟩
                  case measure => simp [intOf]; omega
                | false =>
                  have HE : Hid ((((joinsV t k z).take (m + 1)).any fun q => canC t q (j : Int)) = canC t (joinsV t k z)[m] (j : Int)) := by show _ = _; rw [HAT.out, hso]; rfl
                  clear hso
                  go_wp2_with fail
                  refine (HCI.out _ _ (j : Int) hq64 hj64 hb3.out).mono ?_
                  rintro e wd ⟨rfl, hbx⟩
                  have HBD := Lib.hid (hb3.out.trans (hbx.mono hb3.out.size))
                  clear hbx c3
                  rewrite [← HE.out]
                  go_wp2
                  go_roundw
                  case rel => exact ⟨m + 1, by omega, by go_num, rfl, HBD⟩
                  case measure => simp [intOf]; omega
              · have hme : m = (joinsV t k z).length := by omega
                subst hme
                clear hml
                rewrite [show ((joinsV t k z).take (joinsV t k z).length).any (fun q => canC t q (j : Int)) = false by rw [List.take_length]; exact HJE.out.symm]
                have hbb : (false != false) = false := by simp
                go_wp2
                go_roundw
                case rel => exact ⟨j + 1, by omega, by go_num, hb3⟩
                case measure => simp [intOf]; omega
          | true =>
            have HJE : Hid (canC t z (j : Int) = (joinsV t k z).any fun q => canC t q (j : Int)) := by show _ = _; rw [← HJS.out, hkj]; rfl
            clear hkj
            obtain ⟨qT, q0, q1, ql, qb, qA, qJ⟩ := HQ.out _ HBB.out
            have QT := Lib.hid qT
            have QA := Lib.hid qA
            have QJ := Lib.hid qJ
            have QB := Lib.hid qb
            clear qT qA qJ qb
            go_wp2_with fail
            refine (HCI.out _ z (j : Int) hz64 hj64 HBB.out).mono ?_
            rintro e we ⟨rfl, hbx⟩
            have HBE := Lib.hid (HBB.out.trans (hbx.mono HBB.out.size))
            clear hbx
            clear q0 q1 ql QT QA QJ QB
            obtain ⟨B, hB⟩ : ∃ B, B = canC t z (j : Int) := ⟨_, rfl⟩
            rewrite [← hB]
            rewrite [← hB] at HJE
            clear hB
            go_wp2_with fail
            go_loopw [14, 16, 97] (fun so _ i wr3 => ∃ m : Nat, m ≤ (joinsV t k z).length ∧ i = .int .i64 m ∧ so = .bool (((joinsV t k z).take m).any fun q => canC t q (j : Int)) ∧ Hid (Below w4.heap.size w4 wr3)) (fun _ _ i _ => (joinsV t k z).length - (intOf i).toNat)
            case atStart => exact ⟨0, Nat.zero_le _, rfl, by simp, HBE⟩
            case round =>
              obtain ⟨m, hm, rfl, rfl, hb3⟩ := hrel
              by_cases hml : m < (joinsV t k z).length
              · have hmi : (m : Int) < ((joinsV t k z).length : Int) := by omega
                obtain ⟨qT, q0, q1, ql, qb, qA, qJ⟩ := HQ.out _ hb3.out
                have QT := Lib.hid qT
                have QA := Lib.hid qA
                have QJ := Lib.hid qJ
                have QB := Lib.hid qb
                clear qT qA qJ qb
                obtain ⟨b3, o3, rfl, _, _, c3, hq64⟩ := QJ.out.at_ hml
                have HAT := Lib.hid (any_take (f := fun q => canC t q (j : Int)) hml)
                have hwm1 : IntKind.i64.wrap ((m : Int) + 1) = (m : Int) + 1 := by rw [IntKind.wrap_i64]; omega
                cases hso : ((joinsV t k z).take m).any fun q => canC t q (j : Int) with
                | true =>
                  have HE : Hid ((((joinsV t k z).take (m + 1)).any fun q => canC t q (j : Int)) = true) := by show _ = _; rw [HAT.out, hso]; rfl
                  clear hso
                  go_wp2
                  go_roundw
                  case rel => exact ⟨m + 1, by omega, by go_num, by rw [HE.out], hb3⟩
                  case measure => simp [intOf]; omega
                | false =>
                  have HE : Hid ((((joinsV t k z).take (m + 1)).any fun q => canC t q (j : Int)) = canC t (joinsV t k z)[m] (j : Int)) := by show _ = _; rw [HAT.out, hso]; rfl
                  clear hso
                  go_wp2_with fail
                  refine (HCI.out _ _ (j : Int) hq64 hj64 hb3.out).mono ?_
                  rintro e wd ⟨rfl, hbx⟩
                  have HBD := Lib.hid (hb3.out.trans (hbx.mono hb3.out.size))
                  clear hbx c3
                  rewrite [← HE.out]
                  go_wp2
                  go_roundw
                  case rel => exact ⟨m + 1, by omega, by go_num, rfl, HBD⟩
                  case measure => simp [intOf]; omega
              · have hme : m = (joinsV t k z).length := by omega
                subst hme
                clear hml
                rewrite [show ((joinsV t k z).take (joinsV t k z).length).any (fun q => canC t q (j : Int)) = B by rw [List.take_length]; exact HJE.out.symm]
                have hbb : (B != B) = false := by simp
                go_wp2
                go_roundw
                case rel => exact ⟨j + 1, by omega, by go_num, hb3⟩
                case measure => simp [intOf]; omega
        · have hje : j = t.sizes.length := by omega
          subst hje
          clear hlt
          obtain ⟨qT, q0, q1, ql, qb, qA, qJ⟩ := HQ.out _ hbz.out
          have QT := Lib.hid qT
          have QA := Lib.hid qA
          have QJ := Lib.hid qJ
          have QB := Lib.hid qb
          clear qT qA qJ qb
          go_wp2_with fail
          refine (implJoins_any w.heap.size w1.heap.size _ _ t z k _ QT.out (by omega) hz64 hk64).mono ?_
          rintro e wf ⟨vf, rfl, hbx, ho⟩
          have HBF := Lib.hid (hbz.out.trans (hbx.mono hbz.out.size))
          have ho2 := ho
          rewrite [joins_swap t k z] at ho2
          clear ho
          obtain ⟨YA, YC, rfl⟩ := owns_form ho2
          have HY := Lib.hid (ownsRow.intsAt (lo := w4.heap.size) (hi := wf.heap.size) ho2 (joinsV_wf t k z hbk) (by have := hbz.out.size; omega) (Nat.le_refl _))
          clear ho2 hbx
          clear q0 q1 ql QT QA QJ QB
          obtain ⟨qT, q0, q1, ql, qb, qA, qJ⟩ := HQ.out _ HBF.out
          have QT := Lib.hid qT
          have QA := Lib.hid qA
          have QJ := Lib.hid qJ
          have QB := Lib.hid qb
          clear qT qA qJ qb
          go_wp2_with fail
          refine (ovSame_any _ _ _ _ _ _ (joinsV t k z) (joinsV t k z) wf HY.out QJ.out (by have := HBF.out.size; omega) (by have := HBF.out.size; omega) (by omega) (by omega)).mono ?_
          rintro e wg ⟨rfl, hbx⟩
          have HBG := Lib.hid (HBF.out.trans (hbx.mono HBF.out.size))
          clear hbx
          rewrite [show decide ((joinsV t k z) = (joinsV t k z)) = true from decide_eq_true rfl]
          clear q0 q1 ql QT QA QJ QB
          obtain ⟨qT, q0, q1, ql, qb, qA, qJ⟩ := HQ.out _ HBG.out
          have QT := Lib.hid qT
          have QA := Lib.hid qA
          have QJ := Lib.hid qJ
          have QB := Lib.hid qb
          clear qT qA qJ qb
          go_wp2_with fail
          refine (HCI.out _ k z hk64 hz64 HBG.out).mono ?_
          rintro e wh ⟨rfl, hbx⟩
          have HBH := Lib.hid (HBG.out.trans (hbx.mono HBG.out.size))
          clear hbx
          clear q0 q1 ql QT QA QJ QB
          cases hkz : canC t k z with
          | false =>
            clear hkz
            go_wp2
            go_ret
            exact ⟨rfl, (HQ.out _ HBH.out).2.2.2.2.1⟩
          | true =>
            have HJU := Lib.hid (join_up hkz)
            clear hkz
            go_wp2_with fail
            obtain ⟨wi, hwi⟩ : ∃ u, u = wh.alloc (.cells #[.int .i64 z] 3) := ⟨_, rfl⟩
            rewrite [← hwi]
            have hbi : Below wh.heap.size wh wi := by rw [hwi]; exact (Below.refl _ _).alloc (Nat.le_refl _) _
            have HLI : Hid (IntsAt wi wh.heap.size (wh.heap.size + 1) (.slice (some ⟨wh.heap.size, 0, none⟩) 1 1) [z]) := by rw [hwi]; exact ints_lit1 wh z hz64
            have hsi : wh.heap.size + 1 ≤ wi.heap.size := by rw [hwi]; simp
            have HBI := Lib.hid (HBH.out.trans (hbi.mono HBH.out.size))
            clear hbi hwi
            obtain ⟨qT, q0, q1, ql, qb, qA, qJ⟩ := HQ.out _ HBI.out
            have QT := Lib.hid qT
            have QA := Lib.hid qA
            have QJ := Lib.hid qJ
            have QB := Lib.hid qb
            clear qT qA qJ qb
            refine (ovSame_any _ _ _ _ _ _ (joinsV t k z) [z] wi QJ.out HLI.out (by have := HBI.out.size; omega) (by omega) (by omega) (by simp)).mono ?_
            rintro e wj ⟨rfl, hbx⟩
            rewrite [show decide (joinsV t k z = [z]) = true from decide_eq_true HJU.out]
            have HBJ := Lib.hid (HBI.out.trans (hbx.mono HBI.out.size))
            clear hbx
            clear q0 q1 ql QT QA QJ QB
            go_wp2
            go_ret
            exact ⟨rfl, (HQ.out _ HBJ.out).2.2.2.2.1⟩
end Go.Proofs.Ytplpnammboofiaa

