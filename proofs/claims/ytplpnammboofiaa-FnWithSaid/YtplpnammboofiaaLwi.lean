/-
  The walk of the law FnWith.
-/
import Derived.Test.YtplpnammboofiaaDwi
import Derived.Test.YtplpnammboofiaaDij
import Derived.Test.YtplpnammboofiaaOty
import Derived.Test.YtplpnammboofiaaIwith
import Derived.Test.YtplpnammboofiaaSwith
import Derived.Test.YtplpnammboofiaaIcut
import Derived.Test.YtplpnammboofiaaScut
import Derived.Test.YtplpnammboofiaaTown
import Derived.Test.YtplpnammboofiaaIt
namespace Go.Proofs.Ytplpnammboofiaa
open Go.RowKit
attribute [local go_sem] Oper.semAt_some

/-- Types whose numbers an int can hold. -/
def TyW (t : Ty) : Prop := (∀ z ∈ t.sizes, I64 z) ∧ ∀ c ∈ t.cos, I64 c.src ∧ I64 c.dst ∧ ∀ z ∈ c.map, I64 z
theorem tyW_at {w : World} {lo hi : Nat} {s c : Value} {t : Ty} (h : TyAt w lo hi s c t) : TyW t := by
  refine ⟨IntsAt.wf h.1, fun c hc => ?_⟩
  obtain ⟨k, hk, rfl⟩ := List.getElem_of_mem hc
  have := CosAt.wf h.2 k hk
  rw [List.getD_eq_getElem?_getD, List.getElem?_eq_getElem hk] at this
  exact this
theorem TyW.at_ {w : World} {base : Nat} {v l : Value} {t : Ty} (h : TyW t) (ho : TyOwned w base v l t) : TyAt w base w.heap.size v l t :=
  ho.tyAt h.1 fun _ hi => h.2 _ (getD_mem_of_lt hi)
theorem tyW_none : TyW ⟨[], []⟩ := ⟨fun z hz => absurd hz (by simp), fun c hc => absurd hc (by simp)⟩
theorem TyW.withCo {t : Ty} {c : Co} (h : TyW t) (hc : I64 c.src ∧ I64 c.dst ∧ ∀ z ∈ c.map, I64 z) : TyW (withCo t c) := by
  unfold Go.Proofs.Ytplpnammboofiaa.withCo
  split
  · refine ⟨h.1, fun d hd => ?_⟩
    rcases List.mem_append.1 (show d ∈ t.cos ++ [c] from hd) with h1 | h1
    · exact h.2 d h1
    · rw [List.mem_singleton.1 h1]; exact hc
  · exact tyW_none
theorem TyW.wout {t : Ty} {i : Int} (h : TyW t) : TyW (wout t i) := by
  unfold Go.Proofs.Ytplpnammboofiaa.wout
  split
  · refine ⟨h.1, fun d hd => ?_⟩
    rcases List.mem_append.1 (show d ∈ t.cos.take i.toNat ++ t.cos.drop (i.toNat + 1) from hd) with h1 | h1
    · exact h.2 d (List.mem_of_mem_take h1)
    · exact h.2 d (List.mem_of_mem_drop h1)
  · exact tyW_none
theorem map_bulk {t : Ty} {N : Nat} (h : t.bulk ≤ N) : ∀ j, ∀ (hj : j < t.cos.length), t.cos[j].map.length ≤ N := fun j hj => by
  have h1 := mapsLen_succ t.cos j hj
  have h2 := mapsLen_mono t.cos (j + 1)
  rw [List.getD_eq_getElem?_getD, List.getElem?_eq_getElem hj] at h1
  have h3 : mapsLen t.cos (j + 1) = mapsLen t.cos j + t.cos[j].map.length := h1
  unfold Ty.bulk at h
  omega
/-- The last coercion is taken out again. -/
theorem back_co {t : Ty} {c : Co} (h : withOk t c = true) : hasC (withCo t c) (t.cos.length : Nat) = true ∧ wout (withCo t c) (t.cos.length : Nat) = t ∧ tyOk (withCo t c) = true := by
  have e : withCo t c = addCo t c := if_pos h
  have h2 : tyOk (addCo t c) = true := by unfold withOk at h; simp only [Bool.and_eq_true] at h; exact h.2
  have hl : (addCo t c).cos.length = t.cos.length + 1 := by simp [addCo]
  have h3 : hasC (addCo t c) (t.cos.length : Nat) = true := by
    unfold hasC ixB
    rw [h2, hl]
    simp
    omega
  rw [e]
  refine ⟨h3, ?_, h2⟩
  rw [wout_yes h3]
  simp [cutCo, addCo]
theorem cut_fine {t : Ty} {i : Int} (h : hasC t i = true) : tyOk (wout t i) = true ∧ (wout t i).cos.length = t.cos.length - 1 ∧ 1 ≤ t.cos.length := by
  obtain ⟨h1, h2, h3, h4⟩ := hasC_of h
  rw [wout_yes h]
  refine ⟨tyOk_cut h1, ?_, by omega⟩
  show (t.cos.take i.toNat ++ t.cos.drop (i.toNat + 1)).length = _
  rw [List.length_append, List.length_take, List.length_drop]
  omega
theorem CodeAt.under' {w w' : World} {v : Value} (h : CodeAt w w.heap.size v) (hb : Below w.heap.size w w') : CodeAt w' w'.heap.size v := by
  obtain ⟨A, n, c, e, h1, h2, h3⟩ := h
  refine ⟨A, n, c, e, h1, h2, fun h0 => ?_⟩
  obtain ⟨a, off, e2, h4, h5⟩ := h3 h0
  refine ⟨a, off, e2, Nat.lt_of_lt_of_le h4 hb.size, fun k hk => ?_⟩
  obtain ⟨x, hx, hc⟩ := h5 k hk
  exact ⟨x, hx, (World.cell?_of_block (a := ⟨a, off + k, none⟩) (hb.block a h4)).trans hc⟩

set_option maxRecDepth 100000 in
set_option maxHeartbeats 40000000 in
theorem lawWi_walk (v v2 : Value) (w : World) (h : CodeAt w w.heap.size v) (h2 : CodeAt w w.heap.size v2) :
    Calls Try.prog 3 #[v, v2] w fun e w' => e = .returned (.bool true) ∧ Below w.heap.size w w' := by
  have HC := Lib.hid h
  have HC2 := Lib.hid h2
  obtain ⟨a, n, c, rfl, hnc, hcm, _⟩ := h
  obtain ⟨a2, n2, c2, rfl, hnc2, hcm2, _⟩ := h2
  unfold maxLen at hcm hcm2
  by_cases hbig : (1048576 : Int) < (n : Int)
  · go_enter Try.func3, Try.ntmps3
    go_wp2
    go_ret
    exact ⟨rfl, Below.refl _ _⟩
  by_cases hbig2 : (1048576 : Int) < (n2 : Int)
  · go_enter Try.func3, Try.ntmps3
    go_wp2
    go_ret
    exact ⟨rfl, Below.refl _ _⟩
  go_enter Try.func3, Try.ntmps3
  have HB : Hid (Below w.heap.size w w) := Below.refl _ _
  go_wp2_with fail
  refine (drawWith_any _ w HC.out).mono ?_
  rintro e w1 ⟨sv, cv, t, x, y, z, k, rfl, hb1, hv1, hd1, hc1, hkl⟩
  have hbk := hd1.bulk
  have hml := map_bulk hbk
  obtain ⟨A, cap, rfl, _, _, _⟩ := hv1.1.form
  obtain ⟨C, cbp, rfl, _, _, _⟩ := hv1.2.form
  obtain ⟨rfl, rfl, hk1, hk2, hkm⟩ := hc1
  obtain ⟨K, kap, rfl, _, _, hkm⟩ := hkm.form
  have hs1 := hb1.size
  have HV := Lib.hid hv1
  have HK := Lib.hid hkm
  have HW : Hid (TyW t) := tyW_at hv1
  have HKW : Hid (I64 k.src ∧ I64 k.dst ∧ ∀ z ∈ k.map, I64 z) := ⟨hk1, hk2, IntsAt.wf hkm⟩
  have HML := Lib.hid hml
  clear hv1 hkm hd1 hk1 hk2 hml HC
  replace HC2 := Lib.hid (HC2.out.under' hb1)
  replace HB := Lib.hid (HB.out.trans (hb1.mono (by omega)))
  clear hb1
  go_wp2_with fail
  obtain ⟨w2, hww2⟩ : ∃ u, u = ((w1.alloc (.cells #[.slice A t.sizes.length cap, .slice C t.cos.length cbp] 26)).alloc (.cells #[.int .i64 k.src, .int .i64 k.dst, .slice K k.map.length kap] 28)) := ⟨_, rfl⟩
  rewrite [← hww2]
  have hbw2 : Below w1.heap.size w1 w2 := by rw [hww2]; go_grown
  have hlw2 : w1.heap.size + 2 ≤ w2.heap.size := by rw [hww2]; simp
  have R5 : Hid (Row w2 (w1.heap.size) 26 [.slice A t.sizes.length cap, .slice C t.cos.length cbp]) := by rw [hww2]; exact (Row.new w1 26 _).alloc _
  have R6 : Hid (Row w2 (w1.heap.size + 1) 28 [.int .i64 k.src, .int .i64 k.dst, .slice K k.map.length kap]) := by
    have h : Row ((w1.alloc (.cells #[.slice A t.sizes.length cap, .slice C t.cos.length cbp] 26)).alloc (.cells #[.int .i64 k.src, .int .i64 k.dst, .slice K k.map.length kap] 28)) (w1.heap.size + 1) 28 [.int .i64 k.src, .int .i64 k.dst, .slice K k.map.length kap] := by simpa using Row.new (w1.alloc (.cells #[.slice A t.sizes.length cap, .slice C t.cos.length cbp] 26)) 28 [.int .i64 k.src, .int .i64 k.dst, .slice K k.map.length kap]
    rw [hww2]
    exact h
  clear hww2
  replace HC2 := Lib.hid (HC2.out.under' hbw2)
  replace HV := Lib.hid (HV.out.below hbw2 (by omega))
  replace HK := Lib.hid (HK.out.below hbw2 (by omega))
  replace HB := Lib.hid (HB.out.trans (hbw2.mono (by omega)))
  clear hbw2
  refine (implWith_any w.heap.size w1.heap.size _ _ _ _ _ t k w2 HV.out ⟨rfl, rfl, HKW.out.1, HKW.out.2.1, HK.out⟩ (by omega) hbk (by omega)).mono ?_
  rintro e w3 ⟨ul, ll, rfl, hb3, ho3⟩
  have hsw3 := hb3.size
  have hu3 := (HW.out.withCo HKW.out).at_ ho3
  obtain ⟨A3, cap3, rfl, _, _, _⟩ := hu3.1.form
  obtain ⟨C3, cbp3, rfl, _, _, _⟩ := hu3.2.form
  have HU := Lib.hid hu3
  clear ho3 hu3
  replace HC2 := Lib.hid (HC2.out.under' hb3)
  replace HV := Lib.hid (HV.out.below hb3 (by omega))
  replace HK := Lib.hid (HK.out.below hb3 (by omega))
  replace R5 := Lib.hid (R5.out.below hb3 (by omega))
  replace R6 := Lib.hid (R6.out.below hb3 (by omega))
  replace HB := Lib.hid (HB.out.trans (hb3.mono (by omega)))
  clear hb3
  have p0 := R5.out.cell 0
  have p1 := R5.out.cell 1
  have q0 := R6.out.cell 0
  have q1 := R6.out.cell 1
  have q2 := R6.out.cell 2
  simp only [List.getElem?_cons_zero, List.getElem?_cons_succ] at p0 p1 q0 q1 q2
  have hg5 : w1.heap.size < w3.heap.size := by omega
  have hg6 : w1.heap.size + 1 < w3.heap.size := by omega
  go_wp2_with fail
  obtain ⟨w4, hww4⟩ : ∃ u, u = (w3.alloc (.cells #[.slice A3 (withCo t k).sizes.length cap3, .slice C3 (withCo t k).cos.length cbp3] 26)) := ⟨_, rfl⟩
  rewrite [← hww4]
  have hbw4 : Below w3.heap.size w3 w4 := by rw [hww4]; go_grown
  have hlw4 : w3.heap.size + 1 ≤ w4.heap.size := by rw [hww4]; simp
  have R7 : Hid (Row w4 (w3.heap.size) 26 [.slice A3 (withCo t k).sizes.length cap3, .slice C3 (withCo t k).cos.length cbp3]) := by rw [hww4]; exact Row.new w3 26 _
  clear hww4
  replace HC2 := Lib.hid (HC2.out.under' hbw4)
  replace HV := Lib.hid (HV.out.below hbw4 (by omega))
  replace HK := Lib.hid (HK.out.below hbw4 (by omega))
  replace R5 := Lib.hid (R5.out.below hbw4 (by omega))
  replace R6 := Lib.hid (R6.out.below hbw4 (by omega))
  replace HU := Lib.hid (HU.out.below hbw4 (by omega))
  replace HB := Lib.hid (HB.out.trans (hbw4.mono (by omega)))
  clear hbw4
  clear p0 p1 q0 q1 q2
  refine (specWith_any w.heap.size w1.heap.size _ _ _ _ _ t k w4 HV.out ⟨rfl, rfl, HKW.out.1, HKW.out.2.1, HK.out⟩ (by omega) hbk (by omega)).mono ?_
  rintro e w5 ⟨xl, yl, rfl, hb5, hx5⟩
  have hsw5 := hb5.size
  obtain ⟨A5, cap5, rfl, _, _, _⟩ := hx5.1.form
  obtain ⟨C5, cbp5, rfl, _, _, _⟩ := hx5.2.form
  have HX := Lib.hid hx5
  clear hx5
  replace HC2 := Lib.hid (HC2.out.under' hb5)
  replace HV := Lib.hid (HV.out.below hb5 (by omega))
  replace HK := Lib.hid (HK.out.below hb5 (by omega))
  replace R5 := Lib.hid (R5.out.below hb5 (by omega))
  replace R6 := Lib.hid (R6.out.below hb5 (by omega))
  replace HU := Lib.hid (HU.out.below hb5 (by omega))
  replace R7 := Lib.hid (R7.out.below hb5 (by omega))
  replace HB := Lib.hid (HB.out.trans (hb5.mono (by omega)))
  clear hb5
  have p0 := R7.out.cell 0
  have p1 := R7.out.cell 1
  simp only [List.getElem?_cons_zero, List.getElem?_cons_succ] at p0 p1
  have hg7 : w3.heap.size < w5.heap.size := by omega
  go_wp2_with fail
  obtain ⟨w6, hww6⟩ : ∃ u, u = (w5.alloc (.cells #[.slice A5 (withCo t k).sizes.length cap5, .slice C5 (withCo t k).cos.length cbp5] 26)) := ⟨_, rfl⟩
  rewrite [← hww6]
  have hbw6 : Below w5.heap.size w5 w6 := by rw [hww6]; go_grown
  have hlw6 : w5.heap.size + 1 ≤ w6.heap.size := by rw [hww6]; simp
  have R9 : Hid (Row w6 (w5.heap.size) 26 [.slice A5 (withCo t k).sizes.length cap5, .slice C5 (withCo t k).cos.length cbp5]) := by rw [hww6]; exact Row.new w5 26 _
  clear hww6
  replace HC2 := Lib.hid (HC2.out.under' hbw6)
  replace HV := Lib.hid (HV.out.below hbw6 (by omega))
  replace HK := Lib.hid (HK.out.below hbw6 (by omega))
  replace R5 := Lib.hid (R5.out.below hbw6 (by omega))
  replace R6 := Lib.hid (R6.out.below hbw6 (by omega))
  replace HU := Lib.hid (HU.out.below hbw6 (by omega))
  replace R7 := Lib.hid (R7.out.below hbw6 (by omega))
  replace HX := Lib.hid (HX.out.below hbw6 (by omega))
  replace HB := Lib.hid (HB.out.trans (hbw6.mono (by omega)))
  clear hbw6
  clear p0 p1
  have hbu : (withCo t k).bulk ≤ 1048576 := Nat.le_trans (withCo_bulk t k) (by omega)
  refine (ovTypes_same _ _ _ _ _ _ _ _ (withCo t k) w6 HU.out HX.out (by omega) (by omega) hbu (map_bulk hbu)).mono ?_
  rintro e w7 ⟨rfl, hb7⟩
  have hsw7 := hb7.size
  replace HC2 := Lib.hid (HC2.out.under' hb7)
  replace HV := Lib.hid (HV.out.below hb7 (by omega))
  replace HK := Lib.hid (HK.out.below hb7 (by omega))
  replace R5 := Lib.hid (R5.out.below hb7 (by omega))
  replace R6 := Lib.hid (R6.out.below hb7 (by omega))
  replace HU := Lib.hid (HU.out.below hb7 (by omega))
  replace R7 := Lib.hid (R7.out.below hb7 (by omega))
  replace HX := Lib.hid (HX.out.below hb7 (by omega))
  replace R9 := Lib.hid (R9.out.below hb7 (by omega))
  replace HB := Lib.hid (HB.out.trans (hb7.mono (by omega)))
  clear hb7
  go_wp2_with fail
  refine (drawWout_any _ w7 HC2.out).mono ?_
  rintro e w8 ⟨sv2, cv2, t2, i, rfl, hb8, hv8, hd8, hi64⟩
  have hsw8 := hb8.size
  have hbk2 := hd8.bulk
  have HW2 : Hid (TyW t2) := tyW_at hv8
  obtain ⟨A8, cap8, rfl, _, _, _⟩ := hv8.1.form
  obtain ⟨C8, cbp8, rfl, _, _, _⟩ := hv8.2.form
  have HV2 := Lib.hid hv8
  clear hv8 hd8
  replace HC2 := Lib.hid (HC2.out.under' hb8)
  replace HV := Lib.hid (HV.out.below hb8 (by omega))
  replace HK := Lib.hid (HK.out.below hb8 (by omega))
  replace R5 := Lib.hid (R5.out.below hb8 (by omega))
  replace R6 := Lib.hid (R6.out.below hb8 (by omega))
  replace HU := Lib.hid (HU.out.below hb8 (by omega))
  replace R7 := Lib.hid (R7.out.below hb8 (by omega))
  replace HX := Lib.hid (HX.out.below hb8 (by omega))
  replace R9 := Lib.hid (R9.out.below hb8 (by omega))
  replace HB := Lib.hid (HB.out.trans (hb8.mono (by omega)))
  clear hb8
  go_wp2_with fail
  obtain ⟨w9, hww9⟩ : ∃ u, u = (w8.alloc (.cells #[.slice A8 t2.sizes.length cap8, .slice C8 t2.cos.length cbp8] 26)) := ⟨_, rfl⟩
  rewrite [← hww9]
  have hbw9 : Below w8.heap.size w8 w9 := by rw [hww9]; go_grown
  have hlw9 : w8.heap.size + 1 ≤ w9.heap.size := by rw [hww9]; simp
  have R11 : Hid (Row w9 (w8.heap.size) 26 [.slice A8 t2.sizes.length cap8, .slice C8 t2.cos.length cbp8]) := by rw [hww9]; exact Row.new w8 26 _
  clear hww9
  replace HC2 := Lib.hid (HC2.out.under' hbw9)
  replace HV := Lib.hid (HV.out.below hbw9 (by omega))
  replace HK := Lib.hid (HK.out.below hbw9 (by omega))
  replace R5 := Lib.hid (R5.out.below hbw9 (by omega))
  replace R6 := Lib.hid (R6.out.below hbw9 (by omega))
  replace HU := Lib.hid (HU.out.below hbw9 (by omega))
  replace R7 := Lib.hid (R7.out.below hbw9 (by omega))
  replace HX := Lib.hid (HX.out.below hbw9 (by omega))
  replace R9 := Lib.hid (R9.out.below hbw9 (by omega))
  replace HV2 := Lib.hid (HV2.out.below hbw9 (by omega))
  replace HB := Lib.hid (HB.out.trans (hbw9.mono (by omega)))
  clear hbw9
  refine (implCut_any w7.heap.size w8.heap.size _ _ t2 i w9 HV2.out (by omega) hbk2).mono ?_
  rintro e w10 ⟨ul2, ll2, rfl, hb10, ho10⟩
  have hsw10 := hb10.size
  have hu10 := (HW2.out.wout (i := i)).at_ ho10
  obtain ⟨A10, cap10, rfl, _, _, _⟩ := hu10.1.form
  obtain ⟨C10, cbp10, rfl, _, _, _⟩ := hu10.2.form
  have HU2 := Lib.hid hu10
  clear ho10 hu10
  replace HC2 := Lib.hid (HC2.out.under' hb10)
  replace HV := Lib.hid (HV.out.below hb10 (by omega))
  replace HK := Lib.hid (HK.out.below hb10 (by omega))
  replace R5 := Lib.hid (R5.out.below hb10 (by omega))
  replace R6 := Lib.hid (R6.out.below hb10 (by omega))
  replace HU := Lib.hid (HU.out.below hb10 (by omega))
  replace R7 := Lib.hid (R7.out.below hb10 (by omega))
  replace HX := Lib.hid (HX.out.below hb10 (by omega))
  replace R9 := Lib.hid (R9.out.below hb10 (by omega))
  replace HV2 := Lib.hid (HV2.out.below hb10 (by omega))
  replace R11 := Lib.hid (R11.out.below hb10 (by omega))
  replace HB := Lib.hid (HB.out.trans (hb10.mono (by omega)))
  clear hb10
  have p0 := R11.out.cell 0
  have p1 := R11.out.cell 1
  simp only [List.getElem?_cons_zero, List.getElem?_cons_succ] at p0 p1
  have hg11 : w8.heap.size < w10.heap.size := by omega
  go_wp2_with fail
  obtain ⟨w11, hww11⟩ : ∃ u, u = (w10.alloc (.cells #[.slice A10 (wout t2 i).sizes.length cap10, .slice C10 (wout t2 i).cos.length cbp10] 26)) := ⟨_, rfl⟩
  rewrite [← hww11]
  have hbw11 : Below w10.heap.size w10 w11 := by rw [hww11]; go_grown
  have hlw11 : w10.heap.size + 1 ≤ w11.heap.size := by rw [hww11]; simp
  have R13 : Hid (Row w11 (w10.heap.size) 26 [.slice A10 (wout t2 i).sizes.length cap10, .slice C10 (wout t2 i).cos.length cbp10]) := by rw [hww11]; exact Row.new w10 26 _
  clear hww11
  replace HC2 := Lib.hid (HC2.out.under' hbw11)
  replace HV := Lib.hid (HV.out.below hbw11 (by omega))
  replace HK := Lib.hid (HK.out.below hbw11 (by omega))
  replace R5 := Lib.hid (R5.out.below hbw11 (by omega))
  replace R6 := Lib.hid (R6.out.below hbw11 (by omega))
  replace HU := Lib.hid (HU.out.below hbw11 (by omega))
  replace R7 := Lib.hid (R7.out.below hbw11 (by omega))
  replace HX := Lib.hid (HX.out.below hbw11 (by omega))
  replace R9 := Lib.hid (R9.out.below hbw11 (by omega))
  replace HV2 := Lib.hid (HV2.out.below hbw11 (by omega))
  replace R11 := Lib.hid (R11.out.below hbw11 (by omega))
  replace HU2 := Lib.hid (HU2.out.below hbw11 (by omega))
  replace HB := Lib.hid (HB.out.trans (hbw11.mono (by omega)))
  clear hbw11
  clear p0 p1
  refine (specCut_any w7.heap.size w8.heap.size _ _ t2 i w11 HV2.out (by omega) hbk2).mono ?_
  rintro e w12 ⟨xl2, yl2, rfl, hb12, hx12⟩
  have hsw12 := hb12.size
  obtain ⟨A12, cap12, rfl, _, _, _⟩ := hx12.1.form
  obtain ⟨C12, cbp12, rfl, _, _, _⟩ := hx12.2.form
  have HX2 := Lib.hid hx12
  clear hx12
  replace HC2 := Lib.hid (HC2.out.under' hb12)
  replace HV := Lib.hid (HV.out.below hb12 (by omega))
  replace HK := Lib.hid (HK.out.below hb12 (by omega))
  replace R5 := Lib.hid (R5.out.below hb12 (by omega))
  replace R6 := Lib.hid (R6.out.below hb12 (by omega))
  replace HU := Lib.hid (HU.out.below hb12 (by omega))
  replace R7 := Lib.hid (R7.out.below hb12 (by omega))
  replace HX := Lib.hid (HX.out.below hb12 (by omega))
  replace R9 := Lib.hid (R9.out.below hb12 (by omega))
  replace HV2 := Lib.hid (HV2.out.below hb12 (by omega))
  replace R11 := Lib.hid (R11.out.below hb12 (by omega))
  replace HU2 := Lib.hid (HU2.out.below hb12 (by omega))
  replace R13 := Lib.hid (R13.out.below hb12 (by omega))
  replace HB := Lib.hid (HB.out.trans (hb12.mono (by omega)))
  clear hb12
  have p0 := R13.out.cell 0
  have p1 := R13.out.cell 1
  simp only [List.getElem?_cons_zero, List.getElem?_cons_succ] at p0 p1
  have hg13 : w10.heap.size < w12.heap.size := by omega
  go_wp2_with fail
  obtain ⟨w13, hww13⟩ : ∃ u, u = (w12.alloc (.cells #[.slice A12 (wout t2 i).sizes.length cap12, .slice C12 (wout t2 i).cos.length cbp12] 26)) := ⟨_, rfl⟩
  rewrite [← hww13]
  have hbw13 : Below w12.heap.size w12 w13 := by rw [hww13]; go_grown
  have hlw13 : w12.heap.size + 1 ≤ w13.heap.size := by rw [hww13]; simp
  have R15 : Hid (Row w13 (w12.heap.size) 26 [.slice A12 (wout t2 i).sizes.length cap12, .slice C12 (wout t2 i).cos.length cbp12]) := by rw [hww13]; exact Row.new w12 26 _
  clear hww13
  replace HC2 := Lib.hid (HC2.out.under' hbw13)
  replace HV := Lib.hid (HV.out.below hbw13 (by omega))
  replace HK := Lib.hid (HK.out.below hbw13 (by omega))
  replace R5 := Lib.hid (R5.out.below hbw13 (by omega))
  replace R6 := Lib.hid (R6.out.below hbw13 (by omega))
  replace HU := Lib.hid (HU.out.below hbw13 (by omega))
  replace R7 := Lib.hid (R7.out.below hbw13 (by omega))
  replace HX := Lib.hid (HX.out.below hbw13 (by omega))
  replace R9 := Lib.hid (R9.out.below hbw13 (by omega))
  replace HV2 := Lib.hid (HV2.out.below hbw13 (by omega))
  replace R11 := Lib.hid (R11.out.below hbw13 (by omega))
  replace HU2 := Lib.hid (HU2.out.below hbw13 (by omega))
  replace R13 := Lib.hid (R13.out.below hbw13 (by omega))
  replace HX2 := Lib.hid (HX2.out.below hbw13 (by omega))
  replace HB := Lib.hid (HB.out.trans (hbw13.mono (by omega)))
  clear hbw13
  clear p0 p1
  have hbu2 : (wout t2 i).bulk ≤ 1048576 := Nat.le_trans (wout_bulk t2 i) (by omega)
  refine (ovTypes_same _ _ _ _ _ _ _ _ (wout t2 i) w13 HU2.out HX2.out (by omega) (by omega) hbu2 (map_bulk hbu2)).mono ?_
  rintro e w14 ⟨rfl, hb14⟩
  have hsw14 := hb14.size
  replace HC2 := Lib.hid (HC2.out.under' hb14)
  replace HV := Lib.hid (HV.out.below hb14 (by omega))
  replace HK := Lib.hid (HK.out.below hb14 (by omega))
  replace R5 := Lib.hid (R5.out.below hb14 (by omega))
  replace R6 := Lib.hid (R6.out.below hb14 (by omega))
  replace HU := Lib.hid (HU.out.below hb14 (by omega))
  replace R7 := Lib.hid (R7.out.below hb14 (by omega))
  replace HX := Lib.hid (HX.out.below hb14 (by omega))
  replace R9 := Lib.hid (R9.out.below hb14 (by omega))
  replace HV2 := Lib.hid (HV2.out.below hb14 (by omega))
  replace R11 := Lib.hid (R11.out.below hb14 (by omega))
  replace HU2 := Lib.hid (HU2.out.below hb14 (by omega))
  replace R13 := Lib.hid (R13.out.below hb14 (by omega))
  replace HX2 := Lib.hid (HX2.out.below hb14 (by omega))
  replace R15 := Lib.hid (R15.out.below hb14 (by omega))
  replace HB := Lib.hid (HB.out.trans (hb14.mono (by omega)))
  clear hb14
  cases hok : withOk t k with
  | false =>
    cases hfn : hasC t2 i with
    | false =>
      go_wp2
      go_ret
      exact ⟨rfl, HB.out⟩
    | true =>
      obtain ⟨hc1, hc2, hc3⟩ := cut_fine hfn
      have hcb : (((wout t2 i).cos.length : Int) == (t2.cos.length : Int) - 1) = true := by simp; omega
      have hcn : t2.cos.length ≤ 1048576 := by have h := hbk2; unfold Ty.bulk at h; omega
      have HW64 : Hid (wrap64 ((t2.cos.length : Int) - 1) = (t2.cos.length : Int) - 1) := by show wrap64 _ = _; unfold wrap64; omega
      have HCB : Hid (((((wout t2 i).cos.length : Int) == wrap64 ((t2.cos.length : Int) - 1)) : Bool) = true) := by show _ = _; rw [HW64.out]; exact hcb
      clear HW64 hcn
      have HC1 := Lib.hid hc1
      clear hcb hc1 hc2 hc3
      have p0 := R13.out.cell 0
      have p1 := R13.out.cell 1
      have q0 := R11.out.cell 0
      have q1 := R11.out.cell 1
      simp only [List.getElem?_cons_zero, List.getElem?_cons_succ] at p0 p1 q0 q1
      go_wp2_with fail
      clear p0 p1 q0 q1
      refine (implValid_any w9.heap.size w10.heap.size _ _ (wout t2 i) w14 HU2.out (by omega)).mono ?_
      rintro e w31 ⟨rfl, hbv⟩
      have hsw31 := hbv.size
      replace HC2 := Lib.hid (HC2.out.under' hbv)
      replace HV := Lib.hid (HV.out.below hbv (by omega))
      replace HK := Lib.hid (HK.out.below hbv (by omega))
      replace R5 := Lib.hid (R5.out.below hbv (by omega))
      replace R6 := Lib.hid (R6.out.below hbv (by omega))
      replace HU := Lib.hid (HU.out.below hbv (by omega))
      replace R7 := Lib.hid (R7.out.below hbv (by omega))
      replace HX := Lib.hid (HX.out.below hbv (by omega))
      replace R9 := Lib.hid (R9.out.below hbv (by omega))
      replace HV2 := Lib.hid (HV2.out.below hbv (by omega))
      replace R11 := Lib.hid (R11.out.below hbv (by omega))
      replace HU2 := Lib.hid (HU2.out.below hbv (by omega))
      replace R13 := Lib.hid (R13.out.below hbv (by omega))
      replace HX2 := Lib.hid (HX2.out.below hbv (by omega))
      replace R15 := Lib.hid (R15.out.below hbv (by omega))
      replace HB := Lib.hid (HB.out.trans (hbv.mono (by omega)))
      clear hbv
      rewrite [HC1.out]
      have p0 := R13.out.cell 0
      have p1 := R13.out.cell 1
      have q0 := R11.out.cell 0
      have q1 := R11.out.cell 1
      simp only [List.getElem?_cons_zero, List.getElem?_cons_succ] at p0 p1 q0 q1
      go_wp2
      go_ret
      exact ⟨ret_bool HCB.out, HB.out⟩
  | true =>
    have HB_ := Lib.hid (back_co hok)
    have p0 := R7.out.cell 0
    have p1 := R7.out.cell 1
    have q0 := R5.out.cell 0
    have q1 := R5.out.cell 1
    simp only [List.getElem?_cons_zero, List.getElem?_cons_succ] at p0 p1 q0 q1
    go_wp2_with fail
    clear p0 p1 q0 q1
    refine (implCut_any w2.heap.size w3.heap.size _ _ (withCo t k) (t.cos.length : Nat) w14 HU.out (by omega) hbu).mono ?_
    rintro e w15 ⟨ul3, ll3, rfl, hb15, ho15⟩
    have hsw15 := hb15.size
    have hu15 : TyAt w15 w14.heap.size w15.heap.size ul3 ll3 t := by rw [HB_.out.2.1] at ho15; exact HW.out.at_ ho15
    obtain ⟨A15, cap15, rfl, _, _, _⟩ := hu15.1.form
    obtain ⟨C15, cbp15, rfl, _, _, _⟩ := hu15.2.form
    have HU3 := Lib.hid hu15
    clear ho15 hu15
    rewrite [HB_.out.1]
    replace HC2 := Lib.hid (HC2.out.under' hb15)
    replace HV := Lib.hid (HV.out.below hb15 (by omega))
    replace HK := Lib.hid (HK.out.below hb15 (by omega))
    replace R5 := Lib.hid (R5.out.below hb15 (by omega))
    replace R6 := Lib.hid (R6.out.below hb15 (by omega))
    replace HU := Lib.hid (HU.out.below hb15 (by omega))
    replace R7 := Lib.hid (R7.out.below hb15 (by omega))
    replace HX := Lib.hid (HX.out.below hb15 (by omega))
    replace R9 := Lib.hid (R9.out.below hb15 (by omega))
    replace HV2 := Lib.hid (HV2.out.below hb15 (by omega))
    replace R11 := Lib.hid (R11.out.below hb15 (by omega))
    replace HU2 := Lib.hid (HU2.out.below hb15 (by omega))
    replace R13 := Lib.hid (R13.out.below hb15 (by omega))
    replace HX2 := Lib.hid (HX2.out.below hb15 (by omega))
    replace R15 := Lib.hid (R15.out.below hb15 (by omega))
    replace HB := Lib.hid (HB.out.trans (hb15.mono (by omega)))
    clear hb15
    have q0 := R5.out.cell 0
    have q1 := R5.out.cell 1
    have p0 := R7.out.cell 0
    have p1 := R7.out.cell 1
    simp only [List.getElem?_cons_zero, List.getElem?_cons_succ] at q0 q1 p0 p1
    have hgb5 : w1.heap.size < w15.heap.size := by omega
    have hgb7 : w3.heap.size < w15.heap.size := by omega
    go_wp2_with fail
    obtain ⟨w16, hww16⟩ : ∃ u, u = (w15.alloc (.cells #[.slice A15 t.sizes.length cap15, .slice C15 t.cos.length cbp15] 26)) := ⟨_, rfl⟩
    rewrite [← hww16]
    have hbw16 : Below w15.heap.size w15 w16 := by rw [hww16]; go_grown
    have hlw16 : w15.heap.size + 1 ≤ w16.heap.size := by rw [hww16]; simp
    have R17 : Hid (Row w16 (w15.heap.size) 26 [.slice A15 t.sizes.length cap15, .slice C15 t.cos.length cbp15]) := by rw [hww16]; exact Row.new w15 26 _
    clear hww16
    replace HC2 := Lib.hid (HC2.out.under' hbw16)
    replace HV := Lib.hid (HV.out.below hbw16 (by omega))
    replace HK := Lib.hid (HK.out.below hbw16 (by omega))
    replace R5 := Lib.hid (R5.out.below hbw16 (by omega))
    replace R6 := Lib.hid (R6.out.below hbw16 (by omega))
    replace HU := Lib.hid (HU.out.below hbw16 (by omega))
    replace R7 := Lib.hid (R7.out.below hbw16 (by omega))
    replace HX := Lib.hid (HX.out.below hbw16 (by omega))
    replace R9 := Lib.hid (R9.out.below hbw16 (by omega))
    replace HV2 := Lib.hid (HV2.out.below hbw16 (by omega))
    replace R11 := Lib.hid (R11.out.below hbw16 (by omega))
    replace HU2 := Lib.hid (HU2.out.below hbw16 (by omega))
    replace R13 := Lib.hid (R13.out.below hbw16 (by omega))
    replace HX2 := Lib.hid (HX2.out.below hbw16 (by omega))
    replace R15 := Lib.hid (R15.out.below hbw16 (by omega))
    replace HU3 := Lib.hid (HU3.out.below hbw16 (by omega))
    replace HB := Lib.hid (HB.out.trans (hbw16.mono (by omega)))
    clear hbw16
    clear q0 q1 p0 p1
    refine (ovTypes_same _ _ _ _ _ _ _ _ t w16 HU3.out HV.out (by omega) (by omega) hbk HML.out).mono ?_
    rintro e w17 ⟨rfl, hb17⟩
    have hsw17 := hb17.size
    replace HC2 := Lib.hid (HC2.out.under' hb17)
    replace HV := Lib.hid (HV.out.below hb17 (by omega))
    replace HK := Lib.hid (HK.out.below hb17 (by omega))
    replace R5 := Lib.hid (R5.out.below hb17 (by omega))
    replace R6 := Lib.hid (R6.out.below hb17 (by omega))
    replace HU := Lib.hid (HU.out.below hb17 (by omega))
    replace R7 := Lib.hid (R7.out.below hb17 (by omega))
    replace HX := Lib.hid (HX.out.below hb17 (by omega))
    replace R9 := Lib.hid (R9.out.below hb17 (by omega))
    replace HV2 := Lib.hid (HV2.out.below hb17 (by omega))
    replace R11 := Lib.hid (R11.out.below hb17 (by omega))
    replace HU2 := Lib.hid (HU2.out.below hb17 (by omega))
    replace R13 := Lib.hid (R13.out.below hb17 (by omega))
    replace HX2 := Lib.hid (HX2.out.below hb17 (by omega))
    replace R15 := Lib.hid (R15.out.below hb17 (by omega))
    replace HU3 := Lib.hid (HU3.out.below hb17 (by omega))
    replace R17 := Lib.hid (R17.out.below hb17 (by omega))
    replace HB := Lib.hid (HB.out.trans (hb17.mono (by omega)))
    clear hb17
    have p0 := R7.out.cell 0
    have p1 := R7.out.cell 1
    simp only [List.getElem?_cons_zero, List.getElem?_cons_succ] at p0 p1
    go_wp2_with fail
    clear p0 p1
    refine (implValid_any w2.heap.size w3.heap.size _ _ (withCo t k) w17 HU.out (by omega)).mono ?_
    rintro e w18 ⟨rfl, hb18⟩
    have hsw18 := hb18.size
    replace HC2 := Lib.hid (HC2.out.under' hb18)
    replace HV := Lib.hid (HV.out.below hb18 (by omega))
    replace HK := Lib.hid (HK.out.below hb18 (by omega))
    replace R5 := Lib.hid (R5.out.below hb18 (by omega))
    replace R6 := Lib.hid (R6.out.below hb18 (by omega))
    replace HU := Lib.hid (HU.out.below hb18 (by omega))
    replace R7 := Lib.hid (R7.out.below hb18 (by omega))
    replace HX := Lib.hid (HX.out.below hb18 (by omega))
    replace R9 := Lib.hid (R9.out.below hb18 (by omega))
    replace HV2 := Lib.hid (HV2.out.below hb18 (by omega))
    replace R11 := Lib.hid (R11.out.below hb18 (by omega))
    replace HU2 := Lib.hid (HU2.out.below hb18 (by omega))
    replace R13 := Lib.hid (R13.out.below hb18 (by omega))
    replace HX2 := Lib.hid (HX2.out.below hb18 (by omega))
    replace R15 := Lib.hid (R15.out.below hb18 (by omega))
    replace HU3 := Lib.hid (HU3.out.below hb18 (by omega))
    replace R17 := Lib.hid (R17.out.below hb18 (by omega))
    replace HB := Lib.hid (HB.out.trans (hb18.mono (by omega)))
    clear hb18
    rewrite [HB_.out.2.2]
    cases hfn : hasC t2 i with
    | false =>
      go_wp2
      go_ret
      exact ⟨rfl, HB.out⟩
    | true =>
      obtain ⟨hc1, hc2, hc3⟩ := cut_fine hfn
      have hcb : (((wout t2 i).cos.length : Int) == (t2.cos.length : Int) - 1) = true := by simp; omega
      have hcn : t2.cos.length ≤ 1048576 := by have h := hbk2; unfold Ty.bulk at h; omega
      have HW64 : Hid (wrap64 ((t2.cos.length : Int) - 1) = (t2.cos.length : Int) - 1) := by show wrap64 _ = _; unfold wrap64; omega
      have HCB : Hid (((((wout t2 i).cos.length : Int) == wrap64 ((t2.cos.length : Int) - 1)) : Bool) = true) := by show _ = _; rw [HW64.out]; exact hcb
      clear HW64 hcn
      have HC1 := Lib.hid hc1
      clear hcb hc1 hc2 hc3
      have p0 := R13.out.cell 0
      have p1 := R13.out.cell 1
      have q0 := R11.out.cell 0
      have q1 := R11.out.cell 1
      simp only [List.getElem?_cons_zero, List.getElem?_cons_succ] at p0 p1 q0 q1
      go_wp2_with fail
      clear p0 p1 q0 q1
      refine (implValid_any w9.heap.size w10.heap.size _ _ (wout t2 i) w18 HU2.out (by omega)).mono ?_
      rintro e w19 ⟨rfl, hbv⟩
      have hsw19 := hbv.size
      replace HC2 := Lib.hid (HC2.out.under' hbv)
      replace HV := Lib.hid (HV.out.below hbv (by omega))
      replace HK := Lib.hid (HK.out.below hbv (by omega))
      replace R5 := Lib.hid (R5.out.below hbv (by omega))
      replace R6 := Lib.hid (R6.out.below hbv (by omega))
      replace HU := Lib.hid (HU.out.below hbv (by omega))
      replace R7 := Lib.hid (R7.out.below hbv (by omega))
      replace HX := Lib.hid (HX.out.below hbv (by omega))
      replace R9 := Lib.hid (R9.out.below hbv (by omega))
      replace HV2 := Lib.hid (HV2.out.below hbv (by omega))
      replace R11 := Lib.hid (R11.out.below hbv (by omega))
      replace HU2 := Lib.hid (HU2.out.below hbv (by omega))
      replace R13 := Lib.hid (R13.out.below hbv (by omega))
      replace HX2 := Lib.hid (HX2.out.below hbv (by omega))
      replace R15 := Lib.hid (R15.out.below hbv (by omega))
      replace HU3 := Lib.hid (HU3.out.below hbv (by omega))
      replace R17 := Lib.hid (R17.out.below hbv (by omega))
      replace HB := Lib.hid (HB.out.trans (hbv.mono (by omega)))
      clear hbv
      rewrite [HC1.out]
      have p0 := R13.out.cell 0
      have p1 := R13.out.cell 1
      have q0 := R11.out.cell 0
      have q1 := R11.out.cell 1
      simp only [List.getElem?_cons_zero, List.getElem?_cons_succ] at p0 p1 q0 q1
      go_wp2
      go_ret
      exact ⟨ret_bool HCB.out, HB.out⟩
end Go.Proofs.Ytplpnammboofiaa
