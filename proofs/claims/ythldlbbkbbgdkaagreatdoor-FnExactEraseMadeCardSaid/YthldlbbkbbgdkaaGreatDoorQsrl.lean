/-
  The contracts of the model's l7Read, MadeType, CoercionsIn, FunctionsIn.
-/
import Derived.Test.YthldlbbkbbgdkaaGreatDoorQsrt
import Derived.Test.YthldlbbkbbgdkaaGreatDoorK7
namespace Go.Proofs.YthldlbbkbbgdkaaGreatDoor
open Go.RowKit

noncomputable def okM (y : Sy) (L : List UInt8) : Bool := (readM y L).isSome
noncomputable def kdM (y : Sy) (L : List UInt8) : Int := match readM y L with
  | some m => kindM y m
  | none => -1
noncomputable def txL (y : Sy) (L : List UInt8) : List UInt8 := match readM y L with
  | some m => tmT (erM y m)
  | none => []
noncomputable def cnM (y : Sy) (L : List UInt8) : Int := match readM y L with
  | some m => (coN m : Int)
  | none => -1
noncomputable def fnL (y : Sy) (L : List UInt8) : List Int := match readM y L with
  | some m => fnM m
  | none => []
theorem vals_some {y : Sy} {L : List UInt8} {m : Mk} (h : readM y L = some m) : okM y L = true ∧ kdM y L = kindM y m ∧ txL y L = tmT (erM y m) ∧ cnM y L = (coN m : Int) ∧ fnL y L = fnM m := by
  unfold okM kdM txL cnM fnL
  rw [h]
  exact ⟨rfl, rfl, rfl, rfl, rfl⟩
theorem vals_none {y : Sy} {L : List UInt8} (h : readM y L = none) : okM y L = false ∧ kdM y L = -1 ∧ txL y L = [] ∧ cnM y L = -1 ∧ fnL y L = [] := by
  unfold okM kdM txL cnM fnL
  rw [h]
  exact ⟨rfl, rfl, rfl, rfl, rfl⟩
theorem readM_yes {y : Sy} {L : List UInt8} {m : Mk} (hy : syB y = true) (hl : L.length ≤ 400) (h : rdMk y L.length L = some (m, [])) : readM y L = some m := by unfold readM parseM; rw [if_pos hy, if_pos hl, h]
theorem readM_rest {y : Sy} {L r : List UInt8} {m : Mk} (hr : r ≠ []) (h : rdMk y L.length L = some (m, r)) : readM y L = none := by
  unfold readM parseM
  rw [h]
  cases r with
  | nil => exact absurd rfl hr
  | cons c r =>
    split
    · split <;> rfl
    · rfl
theorem readM_no {y : Sy} {L : List UInt8} (h : rdMk y L.length L = none) : readM y L = none := by
  unfold readM parseM
  rw [h]
  split
  · split <;> rfl
  · rfl
theorem readM_bad {y : Sy} {L : List UInt8} (hy : syB y = false) : readM y L = none := by unfold readM; rw [if_neg (by simp [hy])]
theorem readM_long {y : Sy} {L : List UInt8} (hl : ¬ L.length ≤ 400) : readM y L = none := by
  unfold readM parseM
  rw [if_neg hl]
  split <;> rfl

theorem readM_len {y : Sy} {L : List UInt8} {m : Mk} (h : readM y L = some m) : (mkT m).length ≤ 400 := by
  unfold readM at h
  split at h
  · rename_i hy
    unfold parseM at h
    split at h
    · rename_i hl
      split at h
      · rename_i m2 hm
        injection h with h
        subst h
        have h2 := (rdMk_eq y (syB_iff.1 hy) _ hm).2
        have h3 := congrArg List.length h2
        rw [List.length_append] at h3
        omega
      · cases h
    · cases h
  · cases h
theorem own_at7 {w : World} {N : Nat} {t : TypeId} {A : Option Addr} {n n' cap : Nat} {xs : List Value} (h : w.ownsRow N t 1 (.slice A n' cap) n xs) : ∀ j, j < n → ∃ g, A = some ⟨g, 0, none⟩ ∧ w.cell? ⟨g, j, none⟩ = xs[j]? := by
  intro j hj
  obtain ⟨_, ⟨_, e⟩ | ⟨g, cap', cur, e, hg, hh, hc1, hc2, hcs, htake⟩⟩ := h
  · omega
  · injection e with e1 e2 e3
    subst e1; subst e2; subst e3
    refine ⟨g, rfl, ?_⟩
    have e : w.cell? ⟨g, j, none⟩ = cur[j]? := by simp [World.cell?, hh]
    rw [e]
    have e2 : cur[j]? = (cur.toList.take (n' * 1))[j]? := by
      rw [List.getElem?_take_of_lt (by omega)]
      simp
    rw [e2, htake]

def LPost7 (y : Sy) (L : List UInt8) (w : World) (e : Ending) (w' : World) : Prop :=
  (∃ b, e = .returned (.tuple #[.pointer (some ⟨b, 0, none⟩), .string (str (txL y L)), .int .i64 (kdM y L), .bool (okM y L)]) ∧ w.heap.size ≤ b ∧
    ∀ m, readM y L = some m → ∃ sv cv fv c, Row w' b 134 [sv, cv, fv, .string (str L), .int .i64 L.length, .bool false, .int .i64 (coN m), c] ∧ w'.ownsRow (b + 1) 3 1 c (fnM m).length ((fnM m).map (Value.int .i64)) ∧ MkOk y m) ∧ Below w.heap.size w w'

set_option maxRecDepth 100000 in
set_option maxHeartbeats 4000000 in
theorem l7Read_any (lo hi : Nat) (sv cv fv : Value) (y : Sy) (L : List UInt8) (w : World) (hv : SyAt w lo hi sv cv fv y) (hB : hi ≤ w.heap.size) :
    Calls Tryz.prog 46 #[.agg #[sv, cv, fv], .string (str L)] w fun e w' => LPost7 y L w e w' := by
  obtain ⟨A1, cap1, rfl, _, _, _⟩ := hv.1.1.form
  obtain ⟨A2, cap2, rfl, _, _, _⟩ := hv.1.2.form
  obtain ⟨A3, cap3, rfl, _, _, _⟩ := hv.2.form
  have Hv := Lib.hid hv
  have hsz := str_size L
  obtain ⟨sv, hsv⟩ : ∃ v, v = Value.slice A1 y.ty.sizes.length cap1 := ⟨_, rfl⟩
  obtain ⟨cv, hcv⟩ : ∃ v, v = Value.slice A2 y.ty.cos.length cap2 := ⟨_, rfl⟩
  obtain ⟨fv, hfv⟩ : ∃ v, v = Value.slice A3 y.fs.length cap3 := ⟨_, rfl⟩
  rw [← hsv, ← hcv, ← hfv] at Hv
  obtain ⟨w1, hw1⟩ : ∃ u, u = w.alloc (.cells #[.slice A1 y.ty.sizes.length cap1, .slice A2 y.ty.cos.length cap2, .slice A3 y.fs.length cap3] 37) := ⟨_, rfl⟩
  obtain ⟨w2, hw2⟩ : ∃ u, u = w1.alloc (.cells #[.slice A1 y.ty.sizes.length cap1, .slice A2 y.ty.cos.length cap2, .slice A3 y.fs.length cap3, .string (str L), .int .i64 0, .bool false, .int .i64 0, .slice none 0 0] 134) := ⟨_, rfl⟩
  have hs1 : w1.heap.size = w.heap.size + 1 := by rw [hw1, World.size_alloc]
  have hs2 : w2.heap.size = w.heap.size + 2 := by rw [hw2, World.size_alloc, hs1]
  have hb1 : Below w.heap.size w w1 := by rw [hw1]; exact (Below.refl _ _).alloc (Nat.le_refl _) _
  have hb2 : Below w.heap.size w w2 := by rw [hw2]; exact hb1.alloc (by omega) _
  have HR1 : Hid (Row w1 w.heap.size 37 [.slice A1 y.ty.sizes.length cap1, .slice A2 y.ty.cos.length cap2, .slice A3 y.fs.length cap3]) := by rw [hw1]; exact Row.new w _ _
  have HR2 : Hid (Row w2 w.heap.size 37 [.slice A1 y.ty.sizes.length cap1, .slice A2 y.ty.cos.length cap2, .slice A3 y.fs.length cap3]) := by rw [hw2]; exact HR1.out.alloc _
  have HS2 : Hid (Sr lo hi (w.heap.size + 1) sv cv fv y L 0 false 0 (.slice none 0 0) w2) := by
    refine ⟨?_, Hv.out.below hb2 hB, by omega⟩
    rw [hw2, ← hs1, hsv, hcv, hfv]
    exact Row.new w1 _ _
  have HB2 := Lib.hid hb2
  have p0 := HR1.out.cell 0
  have p1 := HR1.out.cell 1
  have p2 := HR1.out.cell 2
  have q0 := HR2.out.cell 0
  have q1 := HR2.out.cell 1
  have q2 := HR2.out.cell 2
  simp only [List.getElem?_cons_zero, List.getElem?_cons_succ] at p0 p1 p2 q0 q1 q2
  rw [hw1] at p0 p1 p2
  rw [hw2, hw1] at q0 q1 q2
  clear hv hb1 hb2
  go_enter Tryz.func46, Tryz.ntmps46
  go_wp2_with fail
  rw [← hw1, ← hw2]
  have hvv : SyAt w2 lo hi (.slice A1 y.ty.sizes.length cap1) (.slice A2 y.ty.cos.length cap2) (.slice A3 y.fs.length cap3) y := by rw [← hsv, ← hcv, ← hfv]; exact HS2.out.sy
  refine (specSysValid_any lo hi _ _ _ y w2 hvv (by omega)).mono ?_
  clear p0 p1 p2 q0 q1 q2 hvv
  rintro e w3 ⟨rfl, hb3⟩
  have HS3 : Hid (Sr lo hi (w.heap.size + 1) sv cv fv y L 0 false 0 (.slice none 0 0) w3) := HS2.out.keep fun k hk => hb3.block k (by omega)
  have HB3 := Lib.hid (HB2.out.trans (hb3.mono (by omega)))
  have hs3 := hb3.size
  clear hb3 HS2 HB2 hw1 hw2 hs1 HR1 HR2
  cases hy : syB y with
  | false =>
    obtain ⟨e1, e2, e3, -, -⟩ := vals_none (L := L) (readM_bad hy)
    have Hno := Lib.hid (readM_bad (L := L) hy)
    have E1 := Lib.hid e1
    have E2 := Lib.hid e2
    have E3 := Lib.hid e3
    clear e1 e2 e3 hy
    go_wp2
    try rw [Exit.noGoto_ret]
    refine bodyPost_ret (v := .tuple #[.pointer (some ⟨w.heap.size + 1, 0, none⟩), .string ⟨#[]⟩, .int .i64 (-1), .bool false]) (by simp [results, Tryz.results46, go_sem]) rfl ?_
    exact ⟨⟨w.heap.size + 1, by rw [E1.out, E2.out, E3.out]; rfl, by omega, fun m hm => by rw [Hno.out] at hm; cases hm⟩, HB3.out⟩
  | true =>
    have Hy := Lib.hid (syB_iff.1 hy)
    by_cases h400 : L.length ≤ 400
    case neg =>
      obtain ⟨e1, e2, e3, -, -⟩ := vals_none (y := y) (readM_long h400)
      have Hno := Lib.hid (readM_long (y := y) h400)
      have E1 := Lib.hid e1
      have E2 := Lib.hid e2
      have E3 := Lib.hid e3
      have h4 : (400 : Int) < (L.length : Int) := by omega
      clear e1 e2 e3 hy h400
      go_wp2
      try rw [Exit.noGoto_ret]
      refine bodyPost_ret (v := .tuple #[.pointer (some ⟨w.heap.size + 1, 0, none⟩), .string ⟨#[]⟩, .int .i64 (-1), .bool false]) (by simp [results, Tryz.results46, go_sem]) rfl ?_
      exact ⟨⟨w.heap.size + 1, by rw [E1.out, E2.out, E3.out]; rfl, by omega, fun m hm => by rw [Hno.out] at hm; cases hm⟩, HB3.out⟩
    have HSYB := Lib.hid hy
    have h4 : ¬ (400 : Int) < (L.length : Int) := by omega
    have HO3 : Hid (w3.ownsRow (w.heap.size + 1 + 1) 3 1 (.slice none 0 0) ([] : List Int).length (([] : List Int).map (Value.int .i64))) := ⟨by simp, .inl ⟨rfl, rfl⟩⟩
    clear hy
    go_wp2_with fail
    refine (reads7 lo hi (w.heap.size + 1) sv cv fv y Hy.out L h400 L.length 0 0 (.slice none 0 0) [] w3 HS3.out HO3.out (Nat.zero_le _) (by omega) (by omega) (by simp) (by simp)).mono ?_
    rintro e w4 ⟨⟨m, r, c', hm, hok, htx, rfl, hs4, ho4, hat4⟩ | ⟨hm, s4, k4, u4, c', rfl, hb4, hat4⟩, hk4⟩
    · have HB4 : Hid (Below w.heap.size w w4) := HB3.out.trans (hk4.below (by omega) (fun g hg => by cases hg) (by omega))
      rw [List.drop_zero] at hm htx
      obtain ⟨-, -, -, -, c4, c5, -, -⟩ := hs4.cells
      have HS4 := Lib.hid hs4
      have HO4 := Lib.hid ho4
      have HOK := Lib.hid hok
      clear hs4 ho4 hat4 hk4 HS3 HB3 HO3
      cases r with
      | nil =>
        have hrm := readM_yes HSYB.out h400 hm
        obtain ⟨e1, e2, e3, -, -⟩ := vals_some hrm
        have E1 := Lib.hid e1
        have E2 := Lib.hid e2
        have E3 := Lib.hid e3
        have HRM := Lib.hid hrm
        rw [List.length_nil, Nat.sub_zero] at c4
        have hbeq : ((L.length : Int) != (L.length : Int)) = false := by simp
        clear e1 e2 e3 hrm hm htx
        go_wp2
        try rw [Exit.noGoto_ret]
        refine bodyPost_ret (v := .tuple #[.pointer (some ⟨w.heap.size + 1, 0, none⟩), .string (str (tmT (erM y m))), .int .i64 (kindM y m), .bool true]) (by simp [results, Tryz.results46, go_sem]) rfl ?_
        refine ⟨⟨w.heap.size + 1, by rw [E1.out, E2.out, E3.out], by omega, fun m2 hm2 => ?_⟩, HB4.out⟩
        rw [HRM.out] at hm2
        injection hm2 with hm2
        subst hm2
        have h1 := HS4.out.row
        rw [List.length_nil, Nat.sub_zero, Int.zero_add] at h1
        exact ⟨sv, cv, fv, c', h1, by simpa using HO4.out, HOK.out⟩
      | cons c r =>
        have hrm := readM_rest (by simp) hm
        obtain ⟨e1, e2, e3, -, -⟩ := vals_none hrm
        have E1 := Lib.hid e1
        have E2 := Lib.hid e2
        have E3 := Lib.hid e3
        have HRM := Lib.hid hrm
        have hl : (c :: r).length ≤ L.length := by have h := congrArg List.length htx; rw [List.length_append] at h; omega
        simp only [List.length_cons] at hl c4
        obtain ⟨n4, hn4⟩ : ∃ n, n = L.length - (r.length + 1) := ⟨_, rfl⟩
        rw [← hn4] at c4
        have hne : ¬ n4 = L.length := by omega
        have hbeq : ((n4 : Int) != (L.length : Int)) = true := by simp; omega
        clear e1 e2 e3 hrm hm htx hn4
        go_wp2
        try rw [Exit.noGoto_ret]
        refine bodyPost_ret (v := .tuple #[.pointer (some ⟨w.heap.size + 1, 0, none⟩), .string ⟨#[]⟩, .int .i64 (-1), .bool false]) (by simp [results, Tryz.results46, go_sem]) rfl ?_
        exact ⟨⟨w.heap.size + 1, by rw [E1.out, E2.out, E3.out]; rfl, by omega, fun m2 hm2 => by rw [HRM.out] at hm2; cases hm2⟩, HB4.out⟩
    · have HB4 : Hid (Below w.heap.size w w4) := HB3.out.trans (hk4.below (by omega) (fun g hg => by cases hg) (by omega))
      rw [List.drop_zero] at hm
      have hrm := readM_no hm
      obtain ⟨e1, e2, e3, -, -⟩ := vals_none hrm
      have E1 := Lib.hid e1
      have E2 := Lib.hid e2
      have E3 := Lib.hid e3
      have HRM := Lib.hid hrm
      obtain ⟨q4, hq4, hs4⟩ := hb4
      obtain ⟨-, -, -, -, c4, c5, -, -⟩ := hs4.cells
      clear e1 e2 e3 hrm hm hs4 hk4 hat4
      go_wp2
      try rw [Exit.noGoto_ret]
      refine bodyPost_ret (v := .tuple #[.pointer (some ⟨w.heap.size + 1, 0, none⟩), .string ⟨#[]⟩, .int .i64 (-1), .bool false]) (by simp [results, Tryz.results46, go_sem]) rfl ?_
      exact ⟨⟨w.heap.size + 1, by rw [E1.out, E2.out, E3.out]; rfl, by omega, fun m2 hm2 => by rw [HRM.out] at hm2; cases hm2⟩, HB4.out⟩

set_option maxRecDepth 100000 in
set_option maxHeartbeats 1000000 in
theorem specMade_any (lo hi : Nat) (sv cv fv : Value) (y : Sy) (L : List UInt8) (w : World) (hv : SyAt w lo hi sv cv fv y) (hB : hi ≤ w.heap.size) :
    Calls Tryz.prog 35 #[.agg #[sv, cv, fv], .string (str L)] w fun e w' => e = .returned (.tuple #[.int .i64 (kdM y L), .bool (okM y L)]) ∧ Below w.heap.size w w' := by
  obtain ⟨A1, cap1, rfl, _, _, _⟩ := hv.1.1.form
  obtain ⟨A2, cap2, rfl, _, _, _⟩ := hv.1.2.form
  obtain ⟨A3, cap3, rfl, _, _, _⟩ := hv.2.form
  have hb1 : Below w.heap.size w (w.alloc (.cells #[.slice A1 y.ty.sizes.length cap1, .slice A2 y.ty.cos.length cap2, .slice A3 y.fs.length cap3] 37)) := (Below.refl _ _).alloc (Nat.le_refl _) _
  have HR := Lib.hid (l7Read_any lo hi _ _ _ y L _ (hv.below hb1 hB) (by rw [World.size_alloc]; omega))
  have HB1 := Lib.hid hb1
  clear hv hb1
  go_enter Tryz.func35, Tryz.ntmps35
  go_wp2_with fail
  refine HR.out.mono ?_
  rintro e w2 ⟨⟨b, rfl, _, _⟩, hb2⟩
  have HB2 := Lib.hid (HB1.out.trans (hb2.mono (by rw [World.size_alloc]; omega)))
  clear hb2 HR HB1
  go_wp2
  try rw [Exit.noGoto_ret]
  refine bodyPost_ret (v := .tuple #[.int .i64 (kdM y L), .bool (okM y L)]) (by simp [results, Tryz.results35, go_sem]) rfl ?_
  exact ⟨rfl, HB2.out⟩

set_option maxRecDepth 100000 in
set_option maxHeartbeats 1000000 in
theorem specCoIn_any (lo hi : Nat) (sv cv fv : Value) (y : Sy) (L : List UInt8) (w : World) (hv : SyAt w lo hi sv cv fv y) (hB : hi ≤ w.heap.size) :
    Calls Tryz.prog 37 #[.agg #[sv, cv, fv], .string (str L)] w fun e w' => e = .returned (.int .i64 (cnM y L)) ∧ Below w.heap.size w w' := by
  obtain ⟨A1, cap1, rfl, _, _, _⟩ := hv.1.1.form
  obtain ⟨A2, cap2, rfl, _, _, _⟩ := hv.1.2.form
  obtain ⟨A3, cap3, rfl, _, _, _⟩ := hv.2.form
  have hb1 : Below w.heap.size w (w.alloc (.cells #[.slice A1 y.ty.sizes.length cap1, .slice A2 y.ty.cos.length cap2, .slice A3 y.fs.length cap3] 37)) := (Below.refl _ _).alloc (Nat.le_refl _) _
  have HR := Lib.hid (l7Read_any lo hi _ _ _ y L _ (hv.below hb1 hB) (by rw [World.size_alloc]; omega))
  have HB1 := Lib.hid hb1
  clear hv hb1
  go_enter Tryz.func37, Tryz.ntmps37
  go_wp2_with fail
  refine HR.out.mono ?_
  rintro e w2 ⟨⟨b, rfl, _, hm⟩, hb2⟩
  have HB2 := Lib.hid (HB1.out.trans (hb2.mono (by rw [World.size_alloc]; omega)))
  clear hb2 HR HB1
  cases hr : readM y L with
  | none =>
    obtain ⟨e1, -, -, e4, -⟩ := vals_none hr
    rw [e1]
    have E4 := Lib.hid e4
    clear hm hr e1 e4
    go_wp2
    go_ret
    exact ⟨by rw [E4.out]; rfl, HB2.out⟩
  | some m =>
    obtain ⟨e1, -, -, e4, -⟩ := vals_some hr
    obtain ⟨sv, cv, fv, c, hrow, _, _⟩ := hm m hr
    have c6 := hrow.cell 6
    simp only [List.getElem?_cons_zero, List.getElem?_cons_succ] at c6
    rw [e1]
    have E4 := Lib.hid e4
    clear hm hr e1 e4 hrow
    go_wp2
    go_ret
    exact ⟨by rw [E4.out]; rfl, HB2.out⟩

set_option maxRecDepth 100000 in
set_option maxHeartbeats 1000000 in
theorem specFnIn_any (lo hi : Nat) (sv cv fv : Value) (y : Sy) (L : List UInt8) (w : World) (hv : SyAt w lo hi sv cv fv y) (hB : hi ≤ w.heap.size) :
    Calls Tryz.prog 36 #[.agg #[sv, cv, fv], .string (str L)] w fun e w' => ∃ v, e = .returned (.tuple #[v, .bool (okM y L)]) ∧ Below w.heap.size w w' ∧ w'.ownsRow w.heap.size 3 1 v (fnL y L).length ((fnL y L).map (Value.int .i64)) := by
  obtain ⟨A1, cap1, rfl, _, _, _⟩ := hv.1.1.form
  obtain ⟨A2, cap2, rfl, _, _, _⟩ := hv.1.2.form
  obtain ⟨A3, cap3, rfl, _, _, _⟩ := hv.2.form
  obtain ⟨i0, hi0, hz0, hz1, hz2⟩ := info_parts (show (Tryz.prog.info? 3).map (fun i => (i.zero, i.size, i.bytes)) = some (some (.int .i64 0), 1, 8) by kernel_rfl)
  have hb1 : Below w.heap.size w (w.alloc (.cells #[.slice A1 y.ty.sizes.length cap1, .slice A2 y.ty.cos.length cap2, .slice A3 y.fs.length cap3] 37)) := (Below.refl _ _).alloc (Nat.le_refl _) _
  have HR := Lib.hid (l7Read_any lo hi _ _ _ y L _ (hv.below hb1 hB) (by rw [World.size_alloc]; omega))
  have HB1 := Lib.hid hb1
  clear hv hb1
  go_enter Tryz.func36, Tryz.ntmps36
  go_wp2_with fail
  refine HR.out.mono ?_
  rintro e w2 ⟨⟨b, rfl, hbb, hm⟩, hb2⟩
  rw [World.size_alloc] at hbb
  have HB2 := Lib.hid (HB1.out.trans (hb2.mono (by rw [World.size_alloc]; omega)))
  have hs2 := HB2.out.size
  clear hb2 HR HB1
  cases hr : readM y L with
  | none =>
    obtain ⟨e1, -, -, -, e5⟩ := vals_none hr
    rw [e1]
    have E1 := Lib.hid e1
    have E5 := Lib.hid e5
    clear hm hr e1 e5
    have hown := World.ownsRow_lit (e := 3) (base := w.heap.size) (size := 1) w2 #[] 0 hs2 (by unfold maxLen; omega) rfl
    have HO := Lib.hid hown
    clear hown
    go_wp2
    try rw [Exit.noGoto_ret]
    refine bodyPost_ret (v := .tuple #[.slice (some ⟨w2.heap.size, 0, none⟩) 0 0, .bool false]) (by simp [results, Tryz.results36, go_sem]) rfl ?_
    exact ⟨_, by rw [E1.out], HB2.out.alloc hs2 _, by rw [E5.out]; simpa using HO.out⟩
  | some m =>
    obtain ⟨e1, -, -, -, e5⟩ := vals_some hr
    obtain ⟨sv, cv, fv, c, hrow, hown, hok⟩ := hm m hr
    have c7 := (hrow.alloc (.cells #[] 3)).cell 7
    simp only [List.getElem?_cons_zero, List.getElem?_cons_succ] at c7
    obtain ⟨CA, CC, rfl⟩ := own_slice7 hown
    rw [e1]
    have E1 := Lib.hid e1
    have hown0 : Hid ((w2.alloc (.cells #[] 3)).ownsRow w.heap.size 3 1 (.slice (some ⟨w2.heap.size, 0, none⟩) 0 0) 0 []) := by
      show World.ownsRow _ _ _ _ _ _ _
      have h := World.ownsRow_lit (e := 3) (base := w.heap.size) (size := 1) w2 #[] 0 hs2 (by unfold maxLen; omega) rfl
      simpa using h
    have hlen : (fnM m).length ≤ 1048576 := by
      have h := fnM_le m
      have h2 := readM_len hr
      omega
    have hwf := fnM_64 hok
    obtain ⟨zs, hzs⟩ : ∃ zs, zs = fnM m := ⟨_, rfl⟩
    rw [← hzs] at hown hlen hwf e5
    have E5 := Lib.hid e5
    have HZ : Hid (IntsAt (w2.alloc (.cells #[] 3)) 0 (w2.heap.size + 1) (.slice CA zs.length CC) zs) := by
      have h := ownsRow.intsAt (ownsRow_below hown ((Below.refl _ _).alloc (Nat.le_refl _) (.cells #[] 3)) (Nat.le_refl _)) hwf (lo := 0) (hi := w2.heap.size + 1) (Nat.zero_le _) (by rw [World.size_alloc]; omega)
      exact h
    have Hb := Lib.hid (HB2.out.alloc hs2 (.cells #[] 3))
    rw [← hzs] at c7
    clear hm hr e1 e5 hrow hzs hown hwf
    go_wp2_with (at_builtin; refine wpList_append_ints rfl (.tmp 21) (.tmp 25) rfl w.heap.size _ 0 [] rfl hown0.out 0 (w2.heap.size + 1) CA zs.length CC zs rfl HZ.out rfl (by omega) (by simp; omega) ?_)
    intro VA VC w3 hown3 hgrow
    have Hb3 : Hid (Below w.heap.size w w3) := Hb.out.grown hgrow (by simp; omega) (fun k hk => by have h : (some w2.heap.size : Option Nat) = some k := hk; injection h with h; omega)
    have HO3 := Lib.hid hown3
    clear hgrow hown3
    go_wp2
    try rw [Exit.noGoto_ret]
    refine bodyPost_ret (v := .tuple #[.slice VA zs.length VC, .bool true]) (by simp [results, Tryz.results36, go_sem]) rfl ?_
    exact ⟨_, by rw [E1.out], Hb3.out, by rw [E5.out]; exact HO3.out⟩
end Go.Proofs.YthldlbbkbbgdkaaGreatDoor

