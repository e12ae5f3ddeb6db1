/-
  The contract of the model's text of a number of one digit.
  The contracts of the model's RunMade and Normal, for what reads as an explicit term, of l13Find, and of StepMade.
-/
import Derived.Test.YtdemcoghgnnheaaGreatDoorK1
import Derived.Test.YtdemcoghgnnheaaGreatDoorK14
import Derived.Test.YtdemcoghgnnheaaGreatDoorQsmi
import Derived.Test.YtdemcoghgnnheaaGreatDoorK5
import Derived.BigQuiet
namespace Go.Proofs.YtdemcoghgnnheaaGreatDoor
open Go.RowKit

set_option maxRecDepth 100000 in
set_option maxHeartbeats 2000000 in
theorem specDec_any (z : Int) (hz : Dig z) (w : World) :
    Calls Tryz.prog 62 #[.int .i64 z] w fun e w' => e = .returned (.string (str (dg z))) ∧ Below w.heap.size w w' := by
  obtain ⟨h0, h9⟩ := hz
  have hb : Below w.heap.size w w := Below.refl _ _
  have c1 : decide (z < -9223372036854775807) = false := by simp; omega
  have c2 : decide (z < 0) = false := by simp; omega
  have c3 : decide (9 < z) = false := by simp; omega
  have hk : Hid ((convert 123 9 (.slice (some ⟨w.heap.size, 0, none⟩) 1 1)).run Tryz.prog (w.alloc (.cells #[.int .u8 (48 + z)] 5)) = .ok (.string (str (dg z))) (w.alloc (.cells #[.int .u8 (48 + z)] 5))) :=
    run_convert_bytes_back (P := Tryz.prog) _ 123 9 5 ⟨w.heap.size, 0, none⟩ 1 (dg z) Tryz.underlying123 Tryz.underlying5 Tryz.underlying9 fun j hj => by
      obtain rfl : j = 0 := by simp [dg] at hj; omega
      have e : ((dg z)[0].toNat : Int) = 48 + z := by
        have : (dg z)[0] = UInt8.ofNat (48 + z.toNat) := rfl
        rw [this, UInt8.toNat_ofNat']
        omega
      rw [e]
      simp [go_sem]
  go_enter Tryz.func62, Tryz.ntmps62
  go_wp2
  go_loop [0, 3] (fun n o => n = .int .i64 z ∧ o = .string ⟨#[]⟩) (fun _ _ => 0)
  case atStart => exact ⟨rfl, rfl⟩
  case round =>
    obtain ⟨rfl, rfl⟩ := hrel
    go_wp2
    rw [hk.out]
    go_wp2
    go_ret
    exact ⟨rfl, (Below.refl _ w).alloc (Nat.le_refl _) _⟩

/-- The text of the first k numbers, as the model's loop makes it. -/
theorem numsTo_step (zs : List Int) (k : Nat) : (if 0 < k then numsTo zs k ++ [32] else numsTo zs k) ++ dg (zs.getD k 0) = numsTo zs (k + 1) := by
  rcases Nat.eq_zero_or_pos k with rfl | h
  · rfl
  · rw [if_pos h, numsTo_succ zs h]

end Go.Proofs.YtdemcoghgnnheaaGreatDoor

namespace Go.Proofs.YtdemcoghgnnheaaGreatDoor
open Go.RowKit

theorem slice_lo9 (s : ByteArray) (j : Nat) (hj : j ≤ s.size) (y : Int) (hy : y = j) (w : World) : (Instr.slice 9 (.string s) none (some (.int .i64 y)) none).run Tryz.prog w = .ok (.string (s.extract 0 j)) w := by
  subst hy
  simp [Instr.slice, Instr.sliceBounds, Instr.sliceBound, asIntOf, run_underlying Tryz.underlying9, hj]
theorem slice_hi9 (s : ByteArray) (j : Nat) (hj : j ≤ s.size) (y : Int) (hy : y = j) (w : World) : (Instr.slice 9 (.string s) (some (.int .i64 y)) none none).run Tryz.prog w = .ok (.string (s.extract j s.size)) w := by
  subst hy
  simp [Instr.slice, Instr.sliceBounds, Instr.sliceBound, asIntOf, run_underlying Tryz.underlying9, hj]
theorem str_take9 (L : List UInt8) (j : Nat) : (str L).extract 0 j = str (L.take j) := by
  apply ByteArray.ext
  simp [str, ByteArray.data_extract, List.extract_eq_take_drop]
theorem str_drop9 (L : List UInt8) (j : Nat) : (str L).extract j (str L).size = str (L.drop j) := by
  apply ByteArray.ext
  rw [str_size]
  simp [str, ByteArray.data_extract, List.extract_eq_take_drop]
  rw [List.take_of_length_le (by rw [List.length_drop]; omega)]

set_option maxRecDepth 100000 in
set_option maxHeartbeats 1000000 in
theorem find41_any (L a b : List UInt8) (hL : L = a ++ 41 :: b) (ha : (41 : UInt8) ∉ a) (hl : L.length ≤ 1048576) (w : World) :
    Calls Tryz.prog 64 #[.string (str L), .int .u8 41] w fun e w' => e = .returned (.int .i64 a.length) ∧ w' = w := by
  have hsz := str_size L
  have hll : L.length = a.length + 1 + b.length := by rw [hL]; simp; omega
  have hat : ∀ k, ∀ (h : k < L.length), k ≤ a.length → L[k] = if k < a.length then a.getD k 0 else 41 := by
    intro k h hk
    subst hL
    by_cases hka : k < a.length
    · rw [if_pos hka, List.getElem_append_left hka]
      simp [List.getD, List.getElem?_eq_getElem hka]
    · obtain rfl : k = a.length := by omega
      rw [if_neg hka, List.getElem_append_right (Nat.le_refl _)]
      simp
  have Hat := Lib.hid hat
  have Ha := Lib.hid ha
  clear hL hat ha
  go_enter Tryz.func64, Tryz.ntmps64
  go_wp2_with fail
  go_loopw [5] (fun i wr => ∃ k : Nat, k ≤ a.length ∧ i = .int .i64 k ∧ wr = w) (fun i _ => L.length - (intOf i).toNat)
  case atStart => exact ⟨0, Nat.zero_le _, rfl, rfl⟩
  case round =>
    obtain ⟨k, hk, rfl, rfl⟩ := hrel
    have hkL : k < L.length := by omega
    have b0 := cut_byte L k hkL
    have hc := Hat.out k hkL hk
    have n41 : ((L[k].toNat : Int) == 41) = decide (L[k] = 41) := cut_eq L[k] 41
    by_cases hka : k < a.length
    · have hne : L[k] ≠ 41 := by
        rw [hc, if_pos hka]
        intro e
        apply Ha.out
        rw [← e]
        simp [List.getD, List.getElem?_eq_getElem hka]
      rw [decide_eq_false hne] at n41
      clear hc
      go_wp2
      go_roundw
      case rel => exact ⟨k + 1, by omega, by go_num, trivial⟩
      case measure => simp [intOf]; omega
    · obtain rfl : k = a.length := by omega
      have he : L[a.length] = 41 := by rw [hc, if_neg hka]
      rw [decide_eq_true he] at n41
      clear hc
      go_wp2
      go_ret
      exact ⟨rfl, rfl⟩

set_option maxRecDepth 100000 in
set_option maxHeartbeats 4000000 in
theorem specRunM (lo hi : Nat) (sv cv fv : Value) (y : Sy) (L : List UInt8) (m : Mk) (hr : readM y L = some m) (w : World) (hv : SyAt w lo hi sv cv fv y) (hB : hi ≤ w.heap.size) :
    Calls Tryz.prog 22 #[.agg #[sv, cv, fv], .string (str L)] w fun e w' => e = .returned (.tuple #[.int .i64 (valM y m), .int .i64 (kindM y m), .bool true]) ∧ Below w.heap.size w w' := by
  obtain ⟨A1, cap1, rfl, _, _, _⟩ := hv.1.1.form
  obtain ⟨A2, cap2, rfl, _, _, _⟩ := hv.1.2.form
  obtain ⟨A3, cap3, rfl, _, _, _⟩ := hv.2.form
  have hb1 : Below w.heap.size w (w.alloc (.cells #[.slice A1 y.ty.sizes.length cap1, .slice A2 y.ty.cos.length cap2, .slice A3 y.fs.length cap3] 37)) := (Below.refl _ _).alloc (Nat.le_refl _) _
  have HM := Lib.hid (specMade_any lo hi _ _ _ y L _ (hv.below hb1 hB) (by rw [World.size_alloc]; omega))
  have HR1 := Row.new w 37 [.slice A1 y.ty.sizes.length cap1, .slice A2 y.ty.cos.length cap2, .slice A3 y.fs.length cap3]
  have HRS := Lib.hid HR1
  have p0 := HR1.cell 0
  have p1 := HR1.cell 1
  have p2 := HR1.cell 2
  simp only [List.getElem?_cons_zero, List.getElem?_cons_succ] at p0 p1 p2
  have HB1 := Lib.hid hb1
  have HV := Lib.hid hv
  have hsz := str_size L
  clear hv hb1 HR1
  go_enter Tryz.func22, Tryz.ntmps22
  go_wp2_with fail
  refine HM.out.mono ?_
  clear p0 p1 p2 HM
  rintro e w2 ⟨rfl, hb2⟩
  have HB2 := Lib.hid (HB1.out.trans (hb2.mono (by rw [World.size_alloc]; omega)))
  have HS2 := Lib.hid (HRS.out.below hb2 (by rw [World.size_alloc]; omega))
  have hs2 := HB2.out.size
  have q0 := HS2.out.cell 0
  have q1 := HS2.out.cell 1
  have q2 := HS2.out.cell 2
  simp only [List.getElem?_cons_zero, List.getElem?_cons_succ] at q0 q1 q2
  obtain ⟨e1, e2, -, -, -⟩ := vals_some hr
  obtain ⟨hy, htx, hl4, hok⟩ := readM_text hr
  obtain ⟨w3, hw3⟩ : ∃ u, u = w2.alloc (.cells #[.slice A1 y.ty.sizes.length cap1, .slice A2 y.ty.cos.length cap2, .slice A3 y.fs.length cap3, .string (str L), .int .i64 0, .slice none 0 0] 84) := ⟨_, rfl⟩
  have hb3 : Below w2.heap.size w2 w3 := by rw [hw3]; exact (Below.refl _ _).alloc (Nat.le_refl _) _
  have HRR : Hid (Rr lo hi w2.heap.size (.slice A1 y.ty.sizes.length cap1) (.slice A2 y.ty.cos.length cap2) (.slice A3 y.fs.length cap3) y L 0 (.slice none 0 0) w3) := by
    refine ⟨?_, HV.out.below (HB2.out.trans (hb3.mono hs2)) hB, by omega⟩
    rw [hw3]
    exact Row.new w2 _ _
  have HRN := Lib.hid (runs8 lo hi w2.heap.size _ _ _ y hy L hl4 (mkT m).length m 0 [] (.slice none 0 0) [] w3 (Nat.le_refl _) hok HRR.out (World.ownsRow_nil _ _ _ _) (by simpa using htx) (Nat.le_refl _))
  have HB3 := Lib.hid (HB2.out.trans (hb3.mono hs2))
  have hs3 := hb3.size
  rw [e1, e2]
  rw [hw3] at HRN
  clear hr hb2 HB1 HRS hb3 htx e1 e2
  go_wp2_with fail
  refine HRN.out.mono ?_
  rw [← hw3]
  rintro e w4 ⟨rfl, ⟨c, hr4, ho4, ha4⟩, hk4⟩
  have HB4 : Hid (Below w.heap.size w w4) := HB3.out.trans (hk4.below hs2 (fun g hg => by simp [Value.ownBlock] at hg) (by omega))
  clear hr4 ho4 ha4 hk4 HRN HRR hw3 q0 q1 q2
  go_wp2
  try rw [Exit.noGoto_ret]
  refine bodyPost_ret (v := .tuple #[.int .i64 (valM y m), .int .i64 (kindM y m), .bool true]) (by simp [results, Tryz.results22, go_sem]) rfl ?_
  exact ⟨rfl, HB4.out⟩

set_option maxRecDepth 100000 in
set_option maxHeartbeats 4000000 in
theorem specNormM (lo hi : Nat) (sv cv fv : Value) (y : Sy) (L : List UInt8) (m : Mk) (hr : readM y L = some m) (w : World) (hv : SyAt w lo hi sv cv fv y) (hB : hi ≤ w.heap.size) :
    Calls Tryz.prog 36 #[.agg #[sv, cv, fv], .string (str L)] w fun e w' => e = .returned (.tuple #[.string (str (mkT (norM y m))), .bool true]) ∧ Below w.heap.size w w' := by
  obtain ⟨A1, cap1, rfl, _, _, _⟩ := hv.1.1.form
  obtain ⟨A2, cap2, rfl, _, _, _⟩ := hv.1.2.form
  obtain ⟨A3, cap3, rfl, _, _, _⟩ := hv.2.form
  obtain ⟨hy, -, -, hok⟩ := readM_text hr
  have hno := norM_ok hy hok
  have hb1 : Below w.heap.size w (w.alloc (.cells #[.slice A1 y.ty.sizes.length cap1, .slice A2 y.ty.cos.length cap2, .slice A3 y.fs.length cap3] 37)) := (Below.refl _ _).alloc (Nat.le_refl _) _
  have HM := Lib.hid (specRunM lo hi _ _ _ y L m hr _ (hv.below hb1 hB) (by rw [World.size_alloc]; omega))
  have HR1 := Row.new w 37 [.slice A1 y.ty.sizes.length cap1, .slice A2 y.ty.cos.length cap2, .slice A3 y.fs.length cap3]
  have p0 := HR1.cell 0
  have p1 := HR1.cell 1
  have p2 := HR1.cell 2
  simp only [List.getElem?_cons_zero, List.getElem?_cons_succ] at p0 p1 p2
  have HB1 := Lib.hid hb1
  have HK : Hid (Dig (kindM y m)) := hno.1
  have HV2 : Hid (Dig (valM y m)) := hno.2.1
  have s1 : str (dg (kindM y m)) ++ (⟨#[58]⟩ : ByteArray) = str (dg (kindM y m) ++ [58]) := str_append _ _
  have s2 : str (dg (kindM y m) ++ [58]) ++ str (dg (valM y m)) = str (dg (kindM y m) ++ [58] ++ dg (valM y m)) := str_append _ _
  have hX : Hid (mkT (norM y m) = dg (kindM y m) ++ [58] ++ dg (valM y m)) := rfl
  obtain ⟨L2, l2⟩ : ∃ M, M = dg (kindM y m) ++ [58] := ⟨_, rfl⟩
  obtain ⟨L3, l3⟩ : ∃ M, M = L2 ++ dg (valM y m) := ⟨_, rfl⟩
  rw [← l2] at s1 s2 hX
  rw [← l3] at s2 hX
  have n1 : ¬ 9223372036854775807 < (str (dg (kindM y m))).size + 1 := by rw [str_size, show (dg (kindM y m)).length = 1 from rfl]; omega
  have n2 : ¬ 9223372036854775807 < (str L2).size + (str (dg (valM y m))).size := by rw [str_size, str_size, l2, show (dg (valM y m)).length = 1 from rfl]; simp [dg]
  clear hv hb1 HR1 hno hr hok l2 l3
  go_enter Tryz.func36, Tryz.ntmps36
  go_wp2_with fail
  refine HM.out.mono ?_
  clear p0 p1 p2 HM
  rintro e w2 ⟨rfl, hb2⟩
  have HB2 := Lib.hid (HB1.out.trans (hb2.mono (by rw [World.size_alloc]; omega)))
  clear hb2 HB1
  go_wp2_with fail
  refine (specDec_any (kindM y m) HK.out w2).mono ?_
  rintro e w3 ⟨rfl, hb3⟩
  have HB3 := Lib.hid (HB2.out.trans (hb3.mono HB2.out.size))
  clear hb3 HB2
  go_wp2_with fail
  refine (specDec_any (valM y m) HV2.out w3).mono ?_
  rintro e w4 ⟨rfl, hb4⟩
  have HB4 := Lib.hid (HB3.out.trans (hb4.mono HB3.out.size))
  clear hb4 HB3
  go_wp2
  try rw [Exit.noGoto_ret]
  refine bodyPost_ret (v := .tuple #[.string (str L3), .bool true]) (by simp [results, Tryz.results36, go_sem]) rfl ?_
  exact ⟨by rw [hX.out], HB4.out⟩

theorem mid_at {L a t b : List UInt8} {c : UInt8} (h : L = (a ++ c :: t) ++ 41 :: b) {q : Nat} (h1 : a.length < q) (h2 : q ≤ a.length + 1 + t.length) (hq : q < L.length) : L[q] ∈ t ∨ L[q] = 41 := by
  obtain ⟨k, rfl⟩ : ∃ k, q = a.length + 1 + k := ⟨q - a.length - 1, by omega⟩
  have e : L[a.length + 1 + k]? = (t ++ 41 :: b)[k]? := by
    rw [h, List.append_assoc, List.getElem?_append_right (by omega)]
    have e2 : a.length + 1 + k - a.length = k + 1 := by omega
    rw [e2, List.cons_append, List.getElem?_cons_succ]
  rw [List.getElem?_eq_getElem hq] at e
  by_cases hk : k < t.length
  · rw [List.getElem?_append_left hk, List.getElem?_eq_getElem hk] at e
    injection e with e
    exact .inl (by rw [e]; exact List.getElem_mem hk)
  · obtain rfl : k = t.length := by omega
    rw [List.getElem?_append_right (Nat.le_refl _), Nat.sub_self] at e
    simp at e
    exact .inr e
theorem two_not {y : Sy} {m p : Mk} (hok : MkOk y m) (hf : fstM m = some p) : ∃ c d r, mkT m = c :: d :: r ∧ d ≠ 58 := by
  have hd : ∀ i : Nat, i ≤ 9 → UInt8.ofNat (48 + ((i : Nat) : Int).toNat) ≠ 58 := fun i hi e => by
    have h := congrArg UInt8.toNat e
    rw [UInt8.toNat_ofNat'] at h
    simp at h
    omega
  cases m with
  | lit k v => simp [fstM] at hf
  | co i m => exact ⟨35, _, _, rfl, hd i hok.2.1⟩
  | a0 i => exact ⟨64, _, _, rfl, hd i hok.2.1⟩
  | a1 i m => exact ⟨64, _, _, rfl, hd i hok.2.1⟩
  | a2 i m q => exact ⟨64, _, _, rfl, hd i hok.2.1⟩

set_option maxRecDepth 100000 in
set_option maxHeartbeats 4000000 in
theorem specStep_any (lo hi : Nat) (sv cv fv : Value) (y : Sy) (L : List UInt8) (w : World) (hv : SyAt w lo hi sv cv fv y) (hB : hi ≤ w.heap.size) :
    Calls Tryz.prog 38 #[.agg #[sv, cv, fv], .string (str L)] w fun e w' => e = .returned (.tuple #[.string (str (smT y L)), .bool (smB y L)]) ∧ Below w.heap.size w w' := by
  obtain ⟨A1, cap1, rfl, _, _, _⟩ := hv.1.1.form
  obtain ⟨A2, cap2, rfl, _, _, _⟩ := hv.1.2.form
  obtain ⟨A3, cap3, rfl, _, _, _⟩ := hv.2.form
  have hb1 : Below w.heap.size w (w.alloc (.cells #[.slice A1 y.ty.sizes.length cap1, .slice A2 y.ty.cos.length cap2, .slice A3 y.fs.length cap3] 37)) := (Below.refl _ _).alloc (Nat.le_refl _) _
  have HM := Lib.hid (specMade_any lo hi _ _ _ y L _ (hv.below hb1 hB) (by rw [World.size_alloc]; omega))
  have HR1 := Row.new w 37 [.slice A1 y.ty.sizes.length cap1, .slice A2 y.ty.cos.length cap2, .slice A3 y.fs.length cap3]
  have HRS := Lib.hid HR1
  have p0 := HR1.cell 0
  have p1 := HR1.cell 1
  have p2 := HR1.cell 2
  simp only [List.getElem?_cons_zero, List.getElem?_cons_succ] at p0 p1 p2
  have HB1 := Lib.hid hb1
  have HV := Lib.hid hv
  have hsz := str_size L
  clear hv hb1 HR1
  go_enter Tryz.func38, Tryz.ntmps38
  go_wp2_with fail
  refine HM.out.mono ?_
  clear p0 p1 p2 HM
  rintro e w2 ⟨rfl, hb2⟩
  have HB2 := Lib.hid (HB1.out.trans (hb2.mono (by rw [World.size_alloc]; omega)))
  have HS2 := Lib.hid (HRS.out.below hb2 (by rw [World.size_alloc]; omega))
  have hs2 := HB2.out.size
  clear hb2 HB1 HRS
  cases hr : readM y L with
  | none =>
    obtain ⟨e1, -, -, -, -⟩ := vals_none hr
    have E1 := Lib.hid (smT_none hr)
    have E2 := Lib.hid (smB_none hr)
    rw [e1]
    clear hr e1 HS2
    go_wp2
    try rw [Exit.noGoto_ret]
    refine bodyPost_ret (v := .tuple #[.string ⟨#[]⟩, .bool false]) (by simp [results, Tryz.results38, go_sem]) rfl ?_
    exact ⟨by rw [E1.out, E2.out]; rfl, HB2.out⟩
  | some m =>
    obtain ⟨e1, e2, -, -, -⟩ := vals_some hr
    obtain ⟨hy, htx, hl4, hok⟩ := readM_text hr
    have E1 := Lib.hid (smT_some hr)
    have E2 := Lib.hid (smB_some hr)
    rw [e1, e2]
    cases hf : fstM m with
    | none =>
      have hlit := fstM_lit.1 hf
      have h3 := litM_len hlit
      have hL1 : ∃ h : 1 < L.length, L[1] = 58 := by
        cases m with
        | lit k v => subst htx; exact ⟨by simp [mkT, dg], rfl⟩
        | co i m => cases hlit
        | a0 i => cases hlit
        | a1 i m => cases hlit
        | a2 i m q => cases hlit
      obtain ⟨h1L, h58⟩ := hL1
      have b0 := cut_byte L 1 h1L
      have n58 : ((L[1].toNat : Int) == 58) = decide (L[1] = 58) := cut_eq L[1] 58
      rw [decide_eq_true h58] at n58
      have hst : Hid (stepT y m = []) := by show _ = _; unfold stepT; rw [hf]
      have hsb : Hid ((fstM m).isSome = false) := by show _ = _; rw [hf]; rfl
      clear hr htx hok hlit hf e1 e2 h58 HS2
      go_wp2
      try rw [Exit.noGoto_ret]
      refine bodyPost_ret (v := .tuple #[.string ⟨#[]⟩, .bool false]) (by simp [results, Tryz.results38, go_sem]) rfl ?_
      exact ⟨by rw [E1.out, E2.out, hst.out, hsb.out]; rfl, HB2.out⟩
    | some p =>
      obtain ⟨c, t, a, b, ep, hc, h41, h35, h64, em, ha, hop, hidx⟩ := step_text hok hf
      obtain ⟨d0, d1, dr, edr, hd58⟩ := two_not hok hf
      have hpL : (mkT p).length ≤ (mkT m).length := by rw [em]; simp; omega
      have hrp := readM_full hy hop (by rw [← htx] at hpL; omega)
      have hstep := stepT_eq (y := y) hf em hidx
      have h1L : 1 < L.length := by rw [htx, edr]; simp
      have b0 := cut_byte L 1 h1L
      have e11 : L[1] = d1 := by simp [htx, edr]
      have n58 : ((L[1].toNat : Int) == 58) = decide (L[1] = 58) := cut_eq L[1] 58
      rw [decide_eq_false (by rw [e11]; exact hd58)] at n58
      have hLf : L = (a ++ c :: t) ++ 41 :: b := by rw [htx, em, ep]; simp
      have ha41 : (41 : UInt8) ∉ a ++ c :: t := by
        intro h
        rcases List.mem_append.1 h with h | h
        · exact ha h
        · rcases List.mem_cons.1 h with h | h
          · rcases hc with h2 | h2 <;> rw [h2] at h <;> cases h
          · exact h41 h
      have HFD := Lib.hid (find41_any L (a ++ c :: t) b hLf ha41 (by omega) w2)
      have HST : Hid (stepT y m = a ++ mkT (norM y p) ++ b) := hstep
      have HSB : Hid ((fstM m).isSome = true) := by show _ = _; rw [hf]; rfl
      have HLf := Lib.hid hLf
      have Hep := Lib.hid ep
      have Hem := Lib.hid em
      obtain ⟨J, hJ⟩ : ∃ J, J = (a ++ c :: t).length := ⟨_, rfl⟩
      have HJ2 : Hid (J = a.length + 1 + t.length) := by show _ = _; rw [hJ]; simp; omega
      have hJa : a.length < J := by rw [HJ2.out]; omega
      have hJL : J + 1 ≤ L.length := by rw [hLf, hJ]; simp; omega
      rw [← hJ] at HFD
      clear hr htx e1 e2 edr e11 hd58 hidx hstep hLf ep em hJ
      go_wp2_with fail
      refine HFD.out.mono ?_
      rintro e w3 ⟨rfl, rfl⟩
      clear b0 n58 HFD
      go_wp2_with fail
      go_loopw [9] (fun i wr => ∃ q : Nat, a.length ≤ q ∧ q ≤ J ∧ i = .int .i64 q ∧ wr = w3) (fun i _ => (intOf i).toNat)
      case atStart => exact ⟨J, by omega, Nat.le_refl _, rfl, rfl⟩
      case round =>
        obtain ⟨q, hq1, hq2, rfl, rfl⟩ := hrel
        have hqL : q < L.length := by omega
        have b0 := cut_byte L q hqL
        have n35 : ((L[q].toNat : Int) == 35) = decide (L[q] = 35) := cut_eq L[q] 35
        have n64 : ((L[q].toNat : Int) == 64) = decide (L[q] = 64) := cut_eq L[q] 64
        have m35 : ((L[q].toNat : Int) != 35) = !decide (L[q] = 35) := by rw [bne, n35]
        have m64 : ((L[q].toNat : Int) != 64) = !decide (L[q] = 64) := by rw [bne, n64]
        by_cases hqa : q = a.length
        · subst hqa
          have hLc : L[a.length] = c := by simp [HLf.out]
          have HNM : Hid (∀ u : World, Below wr.heap.size wr u → Calls Tryz.prog 36 #[.agg #[.slice A1 y.ty.sizes.length cap1, .slice A2 y.ty.cos.length cap2, .slice A3 y.fs.length cap3], .string (str (mkT p))] u fun e w' => e = .returned (.tuple #[.string (str (mkT (norM y p))), .bool true]) ∧ Below u.heap.size u w') := fun u hu => specNormM lo hi _ _ _ y (mkT p) p hrp u (HV.out.below (HB2.out.trans (hu.mono hs2)) hB) (Nat.le_trans hB (Nat.le_trans hs2 hu.size))
          have hs1 : ∀ w : World, (Instr.slice 9 (.string (str L)) (some (.int .i64 (a.length : Int))) (some (.int .i64 ((J : Int) + 1))) none).run Tryz.prog w = .ok (.string (str (mkT p))) w := fun w => by
            rw [slice7 (str L) a.length (J + 1) (by omega) (by rw [hsz]; omega) _ _ rfl (by omega) w, str_sub]
            have e : sub L a.length (J + 1) = mkT p := by
              rw [HLf.out, Hep.out]
              unfold sub
              rw [List.append_assoc, List.drop_left]
              have e2 : J + 1 - a.length = (c :: (t ++ [41])).length := by rw [HJ2.out]; simp; omega
              have e3 : c :: t ++ 41 :: b = c :: (t ++ [41]) ++ b := by simp
              rw [e2, e3, List.take_left]
            rw [e]
          have hs2' : ∀ w : World, (Instr.slice 9 (.string (str L)) none (some (.int .i64 (a.length : Int))) none).run Tryz.prog w = .ok (.string (str a)) w := fun w => by
            rw [slice_lo9 (str L) a.length (by rw [hsz]; omega) _ rfl w, str_take9]
            have e : L.take a.length = a := by rw [HLf.out, List.append_assoc, List.take_left]
            rw [e]
          have hs3 : ∀ w : World, (Instr.slice 9 (.string (str L)) (some (.int .i64 ((J : Int) + 1))) none none).run Tryz.prog w = .ok (.string (str b)) w := fun w => by
            rw [slice_hi9 (str L) (J + 1) (by rw [hsz]; omega) _ (by omega) w, str_drop9]
            have e : L.drop (J + 1) = b := by
              have e2 : J + 1 = (a ++ c :: t ++ [41]).length := by rw [HJ2.out]; simp; omega
              have e3 : a ++ c :: t ++ 41 :: b = a ++ c :: t ++ [41] ++ b := by simp
              rw [HLf.out, e2, e3, List.drop_left]
            rw [e]
          have hal : a.length ≤ 400 ∧ b.length ≤ 400 := by
            have h := congrArg List.length HLf.out
            simp at h
            omega
          have hXl : (mkT (norM y p)).length = 3 := rfl
          generalize mkT (norM y p) = X at HST HNM hXl
          have s1 : str a ++ str X = str (a ++ X) := str_append _ _
          have s2 : str (a ++ X) ++ str b = str (a ++ X ++ b) := str_append _ _
          have n1 : ¬ 9223372036854775807 < (str a).size + (str X).size := by rw [str_size, str_size]; omega
          have n2 : ¬ 9223372036854775807 < (str (a ++ X)).size + (str b).size := by rw [str_size, str_size]; simp; omega
          have hw1 : IntKind.i64.wrap ((J : Int) + 1) = (J : Int) + 1 := by rw [IntKind.wrap_i64]; omega
          clear hal hrp n35 n64 hop
          rcases hc with h2 | h2
          · rw [hLc, h2] at m35 b0
            clear m64 hLc h2
            go_wp2_with fail
            refine wp_region_inv (by kernel_rfl) (fun dn ac u => ∃ x41 x42 x43 x44 x45 x46 x47 x40 x48 x49 x10 x11, ac = ⟨List.toArray (.agg #[.slice A1 y.ty.sizes.length cap1, .slice A2 y.ty.cos.length cap2, .slice A3 y.fs.length cap3] :: .string (str L) :: .pointer (some ⟨w.heap.size, 0, none⟩) :: undef :: .string ⟨#[]⟩ :: .bool false :: .int .i64 (kindM y m) :: .bool true :: .int .i64 J :: .int .i64 a.length :: x10 :: x11 :: .tuple #[.int .i64 (kindM y m), .bool true] :: .agg #[.slice A1 y.ty.sizes.length cap1, .slice A2 y.ty.cos.length cap2, .slice A3 y.fs.length cap3] :: .string (str L) :: .tuple #[.int .i64 (kindM y m), .bool true] :: .int .i64 (kindM y m) :: .bool true :: .bool true :: .bool false :: .bool false :: .string (str L) :: .int .u8 L[1].toNat :: .bool false :: .bool false :: .string (str L) :: .int .i64 J :: .int .i64 J :: .string (str L) :: .int .i64 a.length :: .int .u8 35 :: .bool false :: .bool false :: undef :: undef :: undef :: undef :: .bool false :: u38 :: u39 :: x40 :: x41 :: x42 :: x43 :: x44 :: x45 :: x46 :: x47 :: x48 :: x49 :: undef :: undef :: undef :: undef :: undef :: undef :: undef :: undef :: undef :: undef :: []), []⟩ ∧ DetQ [fun v : Value => v = .agg #[.slice A1 y.ty.sizes.length cap1, .slice A2 y.ty.cos.length cap2, .slice A3 y.fs.length cap3], fun v : Value => v = .string (str L), fun v : Value => v = .int .i64 a.length, fun v : Value => v = .int .i64 J, fun v : Value => v = .int .i64 ((J : Int) + 1), fun v : Value => v = .string (str (mkT p)), fun v : Value => v = .tuple #[.string (str X), .bool true], fun v : Value => v = .tuple #[.string (str X), .bool true], fun v : Value => v = .string (str X), fun v : Value => v = .bool true, fun v : Value => v = .string (str X), fun v : Value => v = .bool true] dn [x41, x42, x43, x44, x45, x46, x47, x40, x48, x49, x10, x11] ∧ Ch dn [6] (fun _ u => Below wr.heap.size wr u) u ∧ True) (of_decide_eq_true (by kernel_rfl)) ⟨_, _, _, _, _, _, _, _, _, _, _, _, rfl, DetQ.start (by rfl), Ch.start (below_drewN (Below.refl _ _) 1), trivial⟩ ?_ ?_
            · rintro dn ac u i8 op8 hop hfi hdep ⟨x41, x42, x43, x44, x45, x46, x47, x40, x48, x49, x10, x11, rfl, hD, hC, -⟩
              have hil : i8 < 12 := by have := (Array.getElem?_eq_some_iff.1 hop).1; simpa using this
              obtain rfl | rfl | rfl | rfl | rfl | rfl | rfl | rfl | rfl | rfl | rfl | rfl : i8 = 0 ∨ i8 = 1 ∨ i8 = 2 ∨ i8 = 3 ∨ i8 = 4 ∨ i8 = 5 ∨ i8 = 6 ∨ i8 = 7 ∨ i8 = 8 ∨ i8 = 9 ∨ i8 = 10 ∨ i8 = 11 := by omega
              all_goals
                obtain rfl := Option.some.inj hop
                refine wpOp_step hop fun K hK => ?_
                simp [Region.binds] at hdep
                clear hop
              · obtain ⟨j8, hj8, -, hW⟩ := hC.ex
                have d0 := (HS2.out.below hW HS2.out.lt).cell 0
                have d1 := (HS2.out.below hW HS2.out.lt).cell 1
                have d2 := (HS2.out.below hW HS2.out.lt).cell 2
                simp only [List.getElem?_cons_zero, List.getElem?_cons_succ] at d0 d1 d2
                refine det_yes rfl ?_
                have HD := Lib.hid hD
                have HC := Lib.hid hC
                clear hD hC
                unfold Oper.wp
                go_simp
                exact hK _ _ ⟨_, _, _, _, _, _, _, _, _, _, _, _, rfl, HD.out.step 0 rfl rfl, HC.out.other 0 (by decide), trivial⟩
              · refine det_yes rfl ?_
                have HD := Lib.hid hD
                have HC := Lib.hid hC
                clear hD hC
                unfold Oper.wp
                go_simp
                exact hK _ _ ⟨_, _, _, _, _, _, _, _, _, _, _, _, rfl, HD.out.step 1 rfl rfl, HC.out.other 1 (by decide), trivial⟩
              · refine det_yes rfl ?_
                have HD := Lib.hid hD
                have HC := Lib.hid hC
                clear hD hC
                unfold Oper.wp
                go_simp
                exact hK _ _ ⟨_, _, _, _, _, _, _, _, _, _, _, _, rfl, HD.out.step 2 rfl rfl, HC.out.other 2 (by decide), trivial⟩
              · refine det_yes rfl ?_
                have HD := Lib.hid hD
                have HC := Lib.hid hC
                clear hD hC
                unfold Oper.wp
                go_simp
                exact hK _ _ ⟨_, _, _, _, _, _, _, _, _, _, _, _, rfl, HD.out.step 3 rfl rfl, HC.out.other 3 (by decide), trivial⟩
              · obtain rfl : x44 = .int .i64 J := hD.get (P := fun v : Value => v = .int .i64 J) 3 (by simp [hdep]) rfl rfl
                refine det_yes rfl ?_
                have HD := Lib.hid hD
                have HC := Lib.hid hC
                clear hD hC
                unfold Oper.wp
                go_simp
                exact hK _ _ ⟨_, _, _, _, _, _, _, _, _, _, _, _, rfl, HD.out.step 4 rfl rfl, HC.out.other 4 (by decide), trivial⟩
              · obtain rfl : x42 = .string (str L) := hD.get (P := fun v : Value => v = .string (str L)) 1 (by simp [hdep]) rfl rfl
                obtain rfl : x43 = .int .i64 a.length := hD.get (P := fun v : Value => v = .int .i64 a.length) 2 (by simp [hdep]) rfl rfl
                obtain rfl : x45 = .int .i64 ((J : Int) + 1) := hD.get (P := fun v : Value => v = .int .i64 ((J : Int) + 1)) 4 (by simp [hdep]) rfl rfl
                refine det_yes rfl ?_
                have HD := Lib.hid hD
                have HC := Lib.hid hC
                clear hD hC
                unfold Oper.wp
                go_simp
                exact hK _ _ ⟨_, _, _, _, _, _, _, _, _, _, _, _, rfl, HD.out.step 5 rfl rfl, HC.out.other 5 (by decide), trivial⟩
              · obtain rfl : x41 = .agg #[.slice A1 y.ty.sizes.length cap1, .slice A2 y.ty.cos.length cap2, .slice A3 y.fs.length cap3] := hD.get (P := fun v : Value => v = .agg #[.slice A1 y.ty.sizes.length cap1, .slice A2 y.ty.cos.length cap2, .slice A3 y.fs.length cap3]) 0 (by simp [hdep]) rfl rfl
                obtain rfl : x46 = .string (str (mkT p)) := hD.get (P := fun v : Value => v = .string (str (mkT p))) 5 (by simp [hdep]) rfl rfl
                have hW := hC.at_ 0 (by decide) hfi (by intro j9 e9 _; omega)
                refine det_yes rfl ?_
                have HD := Lib.hid hD
                have HC := Lib.hid hC
                clear hD hC
                unfold Oper.wp
                go_simp
                refine (HNM.out u hW).mono ?_
                rintro e u2 ⟨rfl, hb8⟩
                have HW2 : (fun _ u => Below wr.heap.size wr u) 1 u2 := Below.trans hW (hb8.mono (Below.size hW))
                exact hK _ _ ⟨_, _, _, _, _, _, _, _, _, _, _, _, rfl, HD.out.step 6 rfl (by rfl), HC.out.next 0 (by decide) hfi (by intro j9 e9 _; omega) (by decide) HW2, trivial⟩
              · obtain rfl : x47 = .tuple #[.string (str X), .bool true] := hD.get (P := fun v : Value => v = .tuple #[.string (str X), .bool true]) 6 (by simp [hdep]) rfl rfl
                refine det_yes rfl ?_
                have HD := Lib.hid hD
                have HC := Lib.hid hC
                clear hD hC
                unfold Oper.wp
                go_simp
                exact hK _ _ ⟨_, _, _, _, _, _, _, _, _, _, _, _, rfl, HD.out.step 7 rfl rfl, HC.out.other 7 (by decide), trivial⟩
              · obtain rfl : x40 = .tuple #[.string (str X), .bool true] := hD.get (P := fun v : Value => v = .tuple #[.string (str X), .bool true]) 7 (by simp [hdep]) rfl rfl
                refine det_yes rfl ?_
                have HD := Lib.hid hD
                have HC := Lib.hid hC
                clear hD hC
                unfold Oper.wp
                go_simp
                exact hK _ _ ⟨_, _, _, _, _, _, _, _, _, _, _, _, rfl, HD.out.step 8 rfl rfl, HC.out.other 8 (by decide), trivial⟩
              · obtain rfl : x40 = .tuple #[.string (str X), .bool true] := hD.get (P := fun v : Value => v = .tuple #[.string (str X), .bool true]) 7 (by simp [hdep]) rfl rfl
                refine det_yes rfl ?_
                have HD := Lib.hid hD
                have HC := Lib.hid hC
                clear hD hC
                unfold Oper.wp
                go_simp
                exact hK _ _ ⟨_, _, _, _, _, _, _, _, _, _, _, _, rfl, HD.out.step 9 rfl rfl, HC.out.other 9 (by decide), trivial⟩
              · obtain rfl : x48 = .string (str X) := hD.get (P := fun v : Value => v = .string (str X)) 8 (by simp [hdep]) rfl rfl
                refine det_yes rfl ?_
                have HD := Lib.hid hD
                have HC := Lib.hid hC
                clear hD hC
                unfold Oper.wp
                go_simp
                exact hK _ _ ⟨_, _, _, _, _, _, _, _, _, _, _, _, rfl, HD.out.step 10 rfl rfl, HC.out.other 10 (by decide), trivial⟩
              · obtain rfl : x49 = .bool true := hD.get (P := fun v : Value => v = .bool true) 9 (by simp [hdep]) rfl rfl
                refine det_yes rfl ?_
                have HD := Lib.hid hD
                have HC := Lib.hid hC
                clear hD hC
                unfold Oper.wp
                go_simp
                exact hK _ _ ⟨_, _, _, _, _, _, _, _, _, _, _, _, rfl, HD.out.step 11 rfl rfl, HC.out.other 11 (by decide), trivial⟩
            · rintro dn ac u hall ⟨x41, x42, x43, x44, x45, x46, x47, x40, x48, x49, x10, x11, rfl, hD, hC, -⟩
              obtain rfl : x41 = .agg #[.slice A1 y.ty.sizes.length cap1, .slice A2 y.ty.cos.length cap2, .slice A3 y.fs.length cap3] := hD.get (P := fun v : Value => v = .agg #[.slice A1 y.ty.sizes.length cap1, .slice A2 y.ty.cos.length cap2, .slice A3 y.fs.length cap3]) 0 (hall 0 (by decide)) rfl rfl
              obtain rfl : x42 = .string (str L) := hD.get (P := fun v : Value => v = .string (str L)) 1 (hall 1 (by decide)) rfl rfl
              obtain rfl : x43 = .int .i64 a.length := hD.get (P := fun v : Value => v = .int .i64 a.length) 2 (hall 2 (by decide)) rfl rfl
              obtain rfl : x44 = .int .i64 J := hD.get (P := fun v : Value => v = .int .i64 J) 3 (hall 3 (by decide)) rfl rfl
              obtain rfl : x45 = .int .i64 ((J : Int) + 1) := hD.get (P := fun v : Value => v = .int .i64 ((J : Int) + 1)) 4 (hall 4 (by decide)) rfl rfl
              obtain rfl : x46 = .string (str (mkT p)) := hD.get (P := fun v : Value => v = .string (str (mkT p))) 5 (hall 5 (by decide)) rfl rfl
              obtain rfl : x47 = .tuple #[.string (str X), .bool true] := hD.get (P := fun v : Value => v = .tuple #[.string (str X), .bool true]) 6 (hall 6 (by decide)) rfl rfl
              obtain rfl : x40 = .tuple #[.string (str X), .bool true] := hD.get (P := fun v : Value => v = .tuple #[.string (str X), .bool true]) 7 (hall 7 (by decide)) rfl rfl
              obtain rfl : x48 = .string (str X) := hD.get (P := fun v : Value => v = .string (str X)) 8 (hall 8 (by decide)) rfl rfl
              obtain rfl : x49 = .bool true := hD.get (P := fun v : Value => v = .bool true) 9 (hall 9 (by decide)) rfl rfl
              obtain rfl : x10 = .string (str X) := hD.get (P := fun v : Value => v = .string (str X)) 10 (hall 10 (by decide)) rfl rfl
              obtain rfl : x11 = .bool true := hD.get (P := fun v : Value => v = .bool true) 11 (hall 11 (by decide)) rfl rfl
              have hW := hC.all (by intro j9 h9; exact hall _ (by revert j9; decide))
              clear hall hD hC
              have HF : Hid (Below wr.heap.size wr u) := hW
              clear hW
              go_wp2_with fail
              go_quiet (fail)
              go_wp2
              try rw [Exit.noGoto_ret]
              refine bodyPost_ret (v := .tuple #[.string (str (a ++ X ++ b)), .bool true]) (by simp [results, Tryz.results38, go_sem]) rfl ?_
              exact ⟨by rw [E1.out, E2.out, HSB.out, HST.out], below_drewN (HB2.out.trans (HF.out.mono HB2.out.size)) _⟩
          · rw [hLc, h2] at m35 m64 b0
            clear hLc h2
            go_wp2_with fail
            refine wp_region_inv (by kernel_rfl) (fun dn ac u => ∃ x41 x42 x43 x44 x45 x46 x47 x40 x48 x49 x10 x11, ac = ⟨List.toArray (.agg #[.slice A1 y.ty.sizes.length cap1, .slice A2 y.ty.cos.length cap2, .slice A3 y.fs.length cap3] :: .string (str L) :: .pointer (some ⟨w.heap.size, 0, none⟩) :: undef :: .string ⟨#[]⟩ :: .bool false :: .int .i64 (kindM y m) :: .bool true :: .int .i64 J :: .int .i64 a.length :: x10 :: x11 :: .tuple #[.int .i64 (kindM y m), .bool true] :: .agg #[.slice A1 y.ty.sizes.length cap1, .slice A2 y.ty.cos.length cap2, .slice A3 y.fs.length cap3] :: .string (str L) :: .tuple #[.int .i64 (kindM y m), .bool true] :: .int .i64 (kindM y m) :: .bool true :: .bool true :: .bool false :: .bool false :: .string (str L) :: .int .u8 L[1].toNat :: .bool false :: .bool false :: .string (str L) :: .int .i64 J :: .int .i64 J :: .string (str L) :: .int .i64 a.length :: .int .u8 64 :: .bool true :: .bool true :: .string (str L) :: .int .i64 a.length :: .int .u8 64 :: .bool false :: .bool false :: u38 :: u39 :: x40 :: x41 :: x42 :: x43 :: x44 :: x45 :: x46 :: x47 :: x48 :: x49 :: undef :: undef :: undef :: undef :: undef :: undef :: undef :: undef :: undef :: undef :: []), []⟩ ∧ DetQ [fun v : Value => v = .agg #[.slice A1 y.ty.sizes.length cap1, .slice A2 y.ty.cos.length cap2, .slice A3 y.fs.length cap3], fun v : Value => v = .string (str L), fun v : Value => v = .int .i64 a.length, fun v : Value => v = .int .i64 J, fun v : Value => v = .int .i64 ((J : Int) + 1), fun v : Value => v = .string (str (mkT p)), fun v : Value => v = .tuple #[.string (str X), .bool true], fun v : Value => v = .tuple #[.string (str X), .bool true], fun v : Value => v = .string (str X), fun v : Value => v = .bool true, fun v : Value => v = .string (str X), fun v : Value => v = .bool true] dn [x41, x42, x43, x44, x45, x46, x47, x40, x48, x49, x10, x11] ∧ Ch dn [6] (fun _ u => Below wr.heap.size wr u) u ∧ True) (of_decide_eq_true (by kernel_rfl)) ⟨_, _, _, _, _, _, _, _, _, _, _, _, rfl, DetQ.start (by rfl), Ch.start (below_drewN (Below.refl _ _) 1), trivial⟩ ?_ ?_
            · rintro dn ac u i8 op8 hop hfi hdep ⟨x41, x42, x43, x44, x45, x46, x47, x40, x48, x49, x10, x11, rfl, hD, hC, -⟩
              have hil : i8 < 12 := by have := (Array.getElem?_eq_some_iff.1 hop).1; simpa using this
              obtain rfl | rfl | rfl | rfl | rfl | rfl | rfl | rfl | rfl | rfl | rfl | rfl : i8 = 0 ∨ i8 = 1 ∨ i8 = 2 ∨ i8 = 3 ∨ i8 = 4 ∨ i8 = 5 ∨ i8 = 6 ∨ i8 = 7 ∨ i8 = 8 ∨ i8 = 9 ∨ i8 = 10 ∨ i8 = 11 := by omega
              all_goals
                obtain rfl := Option.some.inj hop
                refine wpOp_step hop fun K hK => ?_
                simp [Region.binds] at hdep
                clear hop
              · obtain ⟨j8, hj8, -, hW⟩ := hC.ex
                have d0 := (HS2.out.below hW HS2.out.lt).cell 0
                have d1 := (HS2.out.below hW HS2.out.lt).cell 1
                have d2 := (HS2.out.below hW HS2.out.lt).cell 2
                simp only [List.getElem?_cons_zero, List.getElem?_cons_succ] at d0 d1 d2
                refine det_yes rfl ?_
                have HD := Lib.hid hD
                have HC := Lib.hid hC
                clear hD hC
                unfold Oper.wp
                go_simp
                exact hK _ _ ⟨_, _, _, _, _, _, _, _, _, _, _, _, rfl, HD.out.step 0 rfl rfl, HC.out.other 0 (by decide), trivial⟩
              · refine det_yes rfl ?_
                have HD := Lib.hid hD
                have HC := Lib.hid hC
                clear hD hC
                unfold Oper.wp
                go_simp
                exact hK _ _ ⟨_, _, _, _, _, _, _, _, _, _, _, _, rfl, HD.out.step 1 rfl rfl, HC.out.other 1 (by decide), trivial⟩
              · refine det_yes rfl ?_
                have HD := Lib.hid hD
                have HC := Lib.hid hC
                clear hD hC
                unfold Oper.wp
                go_simp
                exact hK _ _ ⟨_, _, _, _, _, _, _, _, _, _, _, _, rfl, HD.out.step 2 rfl rfl, HC.out.other 2 (by decide), trivial⟩
              · refine det_yes rfl ?_
                have HD := Lib.hid hD
                have HC := Lib.hid hC
                clear hD hC
                unfold Oper.wp
                go_simp
                exact hK _ _ ⟨_, _, _, _, _, _, _, _, _, _, _, _, rfl, HD.out.step 3 rfl rfl, HC.out.other 3 (by decide), trivial⟩
              · obtain rfl : x44 = .int .i64 J := hD.get (P := fun v : Value => v = .int .i64 J) 3 (by simp [hdep]) rfl rfl
                refine det_yes rfl ?_
                have HD := Lib.hid hD
                have HC := Lib.hid hC
                clear hD hC
                unfold Oper.wp
                go_simp
                exact hK _ _ ⟨_, _, _, _, _, _, _, _, _, _, _, _, rfl, HD.out.step 4 rfl rfl, HC.out.other 4 (by decide), trivial⟩
              · obtain rfl : x42 = .string (str L) := hD.get (P := fun v : Value => v = .string (str L)) 1 (by simp [hdep]) rfl rfl
                obtain rfl : x43 = .int .i64 a.length := hD.get (P := fun v : Value => v = .int .i64 a.length) 2 (by simp [hdep]) rfl rfl
                obtain rfl : x45 = .int .i64 ((J : Int) + 1) := hD.get (P := fun v : Value => v = .int .i64 ((J : Int) + 1)) 4 (by simp [hdep]) rfl rfl
                refine det_yes rfl ?_
                have HD := Lib.hid hD
                have HC := Lib.hid hC
                clear hD hC
                unfold Oper.wp
                go_simp
                exact hK _ _ ⟨_, _, _, _, _, _, _, _, _, _, _, _, rfl, HD.out.step 5 rfl rfl, HC.out.other 5 (by decide), trivial⟩
              · obtain rfl : x41 = .agg #[.slice A1 y.ty.sizes.length cap1, .slice A2 y.ty.cos.length cap2, .slice A3 y.fs.length cap3] := hD.get (P := fun v : Value => v = .agg #[.slice A1 y.ty.sizes.length cap1, .slice A2 y.ty.cos.length cap2, .slice A3 y.fs.length cap3]) 0 (by simp [hdep]) rfl rfl
                obtain rfl : x46 = .string (str (mkT p)) := hD.get (P := fun v : Value => v = .string (str (mkT p))) 5 (by simp [hdep]) rfl rfl
                have hW := hC.at_ 0 (by decide) hfi (by intro j9 e9 _; omega)
                refine det_yes rfl ?_
                have HD := Lib.hid hD
                have HC := Lib.hid hC
                clear hD hC
                unfold Oper.wp
                go_simp
                refine (HNM.out u hW).mono ?_
                rintro e u2 ⟨rfl, hb8⟩
                have HW2 : (fun _ u => Below wr.heap.size wr u) 1 u2 := Below.trans hW (hb8.mono (Below.size hW))
                exact hK _ _ ⟨_, _, _, _, _, _, _, _, _, _, _, _, rfl, HD.out.step 6 rfl (by rfl), HC.out.next 0 (by decide) hfi (by intro j9 e9 _; omega) (by decide) HW2, trivial⟩
              · obtain rfl : x47 = .tuple #[.string (str X), .bool true] := hD.get (P := fun v : Value => v = .tuple #[.string (str X), .bool true]) 6 (by simp [hdep]) rfl rfl
                refine det_yes rfl ?_
                have HD := Lib.hid hD
                have HC := Lib.hid hC
                clear hD hC
                unfold Oper.wp
                go_simp
                exact hK _ _ ⟨_, _, _, _, _, _, _, _, _, _, _, _, rfl, HD.out.step 7 rfl rfl, HC.out.other 7 (by decide), trivial⟩
              · obtain rfl : x40 = .tuple #[.string (str X), .bool true] := hD.get (P := fun v : Value => v = .tuple #[.string (str X), .bool true]) 7 (by simp [hdep]) rfl rfl
                refine det_yes rfl ?_
                have HD := Lib.hid hD
                have HC := Lib.hid hC
                clear hD hC
                unfold Oper.wp
                go_simp
                exact hK _ _ ⟨_, _, _, _, _, _, _, _, _, _, _, _, rfl, HD.out.step 8 rfl rfl, HC.out.other 8 (by decide), trivial⟩
              · obtain rfl : x40 = .tuple #[.string (str X), .bool true] := hD.get (P := fun v : Value => v = .tuple #[.string (str X), .bool true]) 7 (by simp [hdep]) rfl rfl
                refine det_yes rfl ?_
                have HD := Lib.hid hD
                have HC := Lib.hid hC
                clear hD hC
                unfold Oper.wp
                go_simp
                exact hK _ _ ⟨_, _, _, _, _, _, _, _, _, _, _, _, rfl, HD.out.step 9 rfl rfl, HC.out.other 9 (by decide), trivial⟩
              · obtain rfl : x48 = .string (str X) := hD.get (P := fun v : Value => v = .string (str X)) 8 (by simp [hdep]) rfl rfl
                refine det_yes rfl ?_
                have HD := Lib.hid hD
                have HC := Lib.hid hC
                clear hD hC
                unfold Oper.wp
                go_simp
                exact hK _ _ ⟨_, _, _, _, _, _, _, _, _, _, _, _, rfl, HD.out.step 10 rfl rfl, HC.out.other 10 (by decide), trivial⟩
              · obtain rfl : x49 = .bool true := hD.get (P := fun v : Value => v = .bool true) 9 (by simp [hdep]) rfl rfl
                refine det_yes rfl ?_
                have HD := Lib.hid hD
                have HC := Lib.hid hC
                clear hD hC
                unfold Oper.wp
                go_simp
                exact hK _ _ ⟨_, _, _, _, _, _, _, _, _, _, _, _, rfl, HD.out.step 11 rfl rfl, HC.out.other 11 (by decide), trivial⟩
            · rintro dn ac u hall ⟨x41, x42, x43, x44, x45, x46, x47, x40, x48, x49, x10, x11, rfl, hD, hC, -⟩
              obtain rfl : x41 = .agg #[.slice A1 y.ty.sizes.length cap1, .slice A2 y.ty.cos.length cap2, .slice A3 y.fs.length cap3] := hD.get (P := fun v : Value => v = .agg #[.slice A1 y.ty.sizes.length cap1, .slice A2 y.ty.cos.length cap2, .slice A3 y.fs.length cap3]) 0 (hall 0 (by decide)) rfl rfl
              obtain rfl : x42 = .string (str L) := hD.get (P := fun v : Value => v = .string (str L)) 1 (hall 1 (by decide)) rfl rfl
              obtain rfl : x43 = .int .i64 a.length := hD.get (P := fun v : Value => v = .int .i64 a.length) 2 (hall 2 (by decide)) rfl rfl
              obtain rfl : x44 = .int .i64 J := hD.get (P := fun v : Value => v = .int .i64 J) 3 (hall 3 (by decide)) rfl rfl
              obtain rfl : x45 = .int .i64 ((J : Int) + 1) := hD.get (P := fun v : Value => v = .int .i64 ((J : Int) + 1)) 4 (hall 4 (by decide)) rfl rfl
              obtain rfl : x46 = .string (str (mkT p)) := hD.get (P := fun v : Value => v = .string (str (mkT p))) 5 (hall 5 (by decide)) rfl rfl
              obtain rfl : x47 = .tuple #[.string (str X), .bool true] := hD.get (P := fun v : Value => v = .tuple #[.string (str X), .bool true]) 6 (hall 6 (by decide)) rfl rfl
              obtain rfl : x40 = .tuple #[.string (str X), .bool true] := hD.get (P := fun v : Value => v = .tuple #[.string (str X), .bool true]) 7 (hall 7 (by decide)) rfl rfl
              obtain rfl : x48 = .string (str X) := hD.get (P := fun v : Value => v = .string (str X)) 8 (hall 8 (by decide)) rfl rfl
              obtain rfl : x49 = .bool true := hD.get (P := fun v : Value => v = .bool true) 9 (hall 9 (by decide)) rfl rfl
              obtain rfl : x10 = .string (str X) := hD.get (P := fun v : Value => v = .string (str X)) 10 (hall 10 (by decide)) rfl rfl
              obtain rfl : x11 = .bool true := hD.get (P := fun v : Value => v = .bool true) 11 (hall 11 (by decide)) rfl rfl
              have hW := hC.all (by intro j9 h9; exact hall _ (by revert j9; decide))
              clear hall hD hC
              have HF : Hid (Below wr.heap.size wr u) := hW
              clear hW
              go_wp2_with fail
              go_quiet (fail)
              go_wp2
              try rw [Exit.noGoto_ret]
              refine bodyPost_ret (v := .tuple #[.string (str (a ++ X ++ b)), .bool true]) (by simp [results, Tryz.results38, go_sem]) rfl ?_
              exact ⟨by rw [E1.out, E2.out, HSB.out, HST.out], below_drewN (HB2.out.trans (HF.out.mono HB2.out.size)) _⟩
        · have hmid := mid_at HLf.out (q := q) (by omega) (by have := HJ2.out; omega) hqL
          have d35 : ¬ L[q] = 35 := fun e => hmid.elim (fun h => h35 (e ▸ h)) (fun h => by rw [e] at h; cases h)
          have d64 : ¬ L[q] = 64 := fun e => hmid.elim (fun h => h64 (e ▸ h)) (fun h => by rw [e] at h; cases h)
          rw [decide_eq_false d35] at m35
          rw [decide_eq_false d64] at m64
          clear hmid n35 n64
          obtain ⟨r, rfl⟩ : ∃ r, q = r + 1 := ⟨q - 1, by omega⟩
          go_wp2
          go_roundw
          case rel => exact ⟨r, by omega, by omega, by go_num, trivial⟩
          case measure => simp [intOf]
end Go.Proofs.YtdemcoghgnnheaaGreatDoor

