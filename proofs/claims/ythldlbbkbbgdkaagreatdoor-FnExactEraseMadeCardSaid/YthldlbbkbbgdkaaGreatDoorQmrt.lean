/-
  The contracts of the program's reader of explicit terms: value, opening, madeOf.
-/
import Derived.Test.YthldlbbkbbgdkaaGreatDoorK2b
import Derived.Test.YthldlbbkbbgdkaaGreatDoorK3
import Derived.WalkMore
namespace Go.Proofs.YthldlbbkbbgdkaaGreatDoor
open Go.RowKit

/-- A store behind the reader. -/
theorem Mr.seto {lo hi n : Nat} {a : Addr} {sv cv fv : Value} {y : Sy} {b : Nat} {l : List UInt8} {w : World} (h : Mr lo hi n a sv cv fv y b l w) {p : Addr} (hp : b < p.block) (v : Value) : Mr lo hi n a sv cv fv y b l (w.setCell p v) :=
  ⟨h.row.far' (by omega) v, h.sy.keep fun k _ hk => Below.heap_setCell _ _ _ _ (by have := h.hib; omega), h.ev.far' (by have := h.nb; omega) v, h.hib, h.nb⟩

def OpenPost (lo hi n : Nat) (a : Addr) (sv cv fv : Value) (y : Sy) (b : Nat) (o : Option (Nat × List UInt8)) (w : World) (e : Ending) (w' : World) : Prop :=
  ((∃ i r, o = some (i, r) ∧ e = .returned (.int .i64 i) ∧ Mr lo hi n a sv cv fv y b r w') ∨ (o = none ∧ e = boom a)) ∧ Keep b w w'
set_option maxRecDepth 100000 in
set_option maxHeartbeats 2000000 in
theorem opening_any (lo hi n : Nat) (a : Addr) (sv cv fv : Value) (y : Sy) (b : Nat) (l : List UInt8) (s : UInt8) (z : Int) (hz : z = (s.toNat : Int)) (k : Nat) (w : World) (h : Mr lo hi n a sv cv fv y b l w) (hm : l.length ≤ 1048576) :
    Calls Tryz.prog 166 #[.pointer (some ⟨b, 0, none⟩), .int .u8 z, .int .i64 k] w fun e w' => OpenPost lo hi n a sv cv fv y b (rdOpen s k l) w e w' := by
  subst hz
  have HM := Lib.hid h
  clear h
  go_enter Tryz.func166, Tryz.ntmps166
  go_wp2_with fail
  cases htk : rdTake s l with
  | none =>
    have hno : Hid (rdOpen s k l = none) := by show _ = _; unfold rdOpen; rw [htk]; rfl
    refine (takeM_no b l s _ rfl htk n a w HM.out.row HM.out.ev).mono ?_
    clear htk
    rintro e w1 ⟨rfl, rfl⟩
    go_wp2
    exact ⟨rfl, .inr ⟨hno.out, rfl⟩, Keep.refl _ _⟩
  | some r1 =>
    have hl1 := rdTake_len htk
    have hco1 : Hid (rdOpen s k l = (rdIx k r1).bind fun p => (rdTake 40 p.2).map fun q => (p.1, q)) := by show _ = _; unfold rdOpen; rw [htk]; rfl
    refine (takeM_yes b l r1 s _ rfl htk w HM.out.row hm).mono ?_
    clear htk
    rintro e w1 ⟨rfl, hk1, ht1⟩
    have HM1 := Lib.hid (HM.out.go hk1 ht1)
    have HK1 := Lib.hid hk1
    clear hk1 ht1 HM
    go_wp2_with fail
    cases hd1 : rdDigit r1 with
    | none =>
      have hno : Hid (rdOpen s k l = none) := by show _ = _; rw [hco1.out]; unfold rdIx; rw [hd1]; rfl
      refine (digitM_no b r1 hd1 n a w1 HM1.out.row HM1.out.ev).mono ?_
      clear hd1 hco1
      rintro e w2 ⟨rfl, rfl⟩
      go_wp2
      exact ⟨rfl, .inr ⟨hno.out, rfl⟩, HK1.out⟩
    | some p =>
      obtain ⟨z1, r2⟩ := p
      obtain ⟨c1, rfl, hc1, rfl⟩ := rdDigit_cons hd1
      have hv0 : 0 ≤ valD c1 ∧ valD c1 ≤ 9 := by have := isD_of hc1; unfold valD; omega
      obtain ⟨i, hi'⟩ : ∃ i : Nat, valD c1 = (i : Int) := ⟨(valD c1).toNat, by omega⟩
      have hco2 : Hid (rdOpen s k l = (if (i : Int) < (k : Int) then some (i, r2) else none).bind fun p => (rdTake 40 p.2).map fun q => (p.1, q)) := by
        show _ = _
        rw [hco1.out]
        unfold rdIx
        rw [hd1]
        simp only [Option.bind_some, hi', Int.toNat_natCast]
      simp only [List.length_cons] at hl1
      refine (digitM_yes b c1 r2 hc1 w1 HM1.out.row (by omega)).mono ?_
      clear hd1 hco1
      rintro e w2 ⟨rfl, hk2, ht2⟩
      rw [hi']
      have HM2 := Lib.hid (HM1.out.go hk2 ht2)
      have HK2 := Lib.hid (HK1.out.trans hk2)
      clear hk2 ht2 HM1 HK1 hi'
      go_wp2_with fail
      refine (isIndex_any (i : Int) (k : Int) w2).mono ?_
      rintro e w3 ⟨rfl, rfl⟩
      by_cases hik : i < k
      · have hix : ixB (i : Int) (k : Int) = true := ixB_yes (by omega) (by omega)
        rw [hix]
        have hco3 : Hid (rdOpen s k l = (rdTake 40 r2).map fun q => (i, q)) := by show _ = _; rw [hco2.out, if_pos (by omega)]; rfl
        clear hco2 hix
        go_wp2_with fail
        cases htk2 : rdTake 40 r2 with
        | none =>
          have hno : Hid (rdOpen s k l = none) := by show _ = _; rw [hco3.out, htk2]; rfl
          refine (takeM_no b r2 40 40 rfl htk2 n a _ HM2.out.row HM2.out.ev).mono ?_
          clear htk2 hco3
          rintro e w4 ⟨rfl, rfl⟩
          go_wp2
          exact ⟨rfl, .inr ⟨hno.out, rfl⟩, HK2.out⟩
        | some r3 =>
          have hfin : Hid (rdOpen s k l = some (i, r3)) := by show _ = _; rw [hco3.out, htk2]; rfl
          refine (takeM_yes b r2 r3 40 40 rfl htk2 _ HM2.out.row (by omega)).mono ?_
          clear htk2 hco3
          rintro e w4 ⟨rfl, hk4, ht4⟩
          have HM4 := Lib.hid (HM2.out.go hk4 ht4)
          have HK4 := Lib.hid (HK2.out.trans hk4)
          clear hk4 ht4 HM2 HK2
          go_wp2
          go_ret
          exact ⟨.inl ⟨i, r3, hfin.out, rfl, HM4.out⟩, HK4.out⟩
      · have hix : ixB (i : Int) (k : Int) = false := ixB_high (by omega)
        rw [hix]
        have hno : Hid (rdOpen s k l = none) := by show _ = _; rw [hco2.out, if_neg (by omega)]; rfl
        have v0 := HM2.out.ev.2
        clear hco2 hix
        go_wp2
        exact ⟨rfl, .inr ⟨hno.out, rfl⟩, HK2.out⟩

def ValPost (lo hi n : Nat) (a : Addr) (sv cv fv : Value) (y : Sy) (b : Nat) (l : List UInt8) (w : World) (e : Ending) (w' : World) : Prop :=
  ((∃ k v r, rdVal y l = some (.lit k v, r) ∧ e = .returned (.agg #[.int .i64 k, .int .i64 v]) ∧ Mr lo hi n a sv cv fv y b r w') ∨ (rdVal y l = none ∧ e = boom a)) ∧ Keep b w w'
set_option maxRecDepth 100000 in
set_option maxHeartbeats 2000000 in
theorem value7_any (lo hi n : Nat) (a : Addr) (sv cv fv : Value) (y : Sy) (hy : SyOk y) (b : Nat) (l : List UInt8) (w : World) (h : Mr lo hi n a sv cv fv y b l w) (hm : l.length ≤ 1048576) :
    Calls Tryz.prog 138 #[.pointer (some ⟨b, 0, none⟩)] w fun e w' => ValPost lo hi n a sv cv fv y b l w e w' := by
  have hb0 : Below w.heap.size w (w.alloc (.cells #[.int .i64 0, .int .i64 0] 201)) := (Below.refl _ _).alloc (Nat.le_refl _) _
  have HM := Lib.hid (h.under hb0)
  have HK0 := Lib.hid ((Keep.refl b w).of_below hb0)
  have hblt := h.lt
  have R0 : Hid (Row (w.alloc (.cells #[.int .i64 0, .int .i64 0] 201)) w.heap.size 201 [.int .i64 0, .int .i64 0]) := Row.new w _ _
  clear h hb0
  go_enter Tryz.func138, Tryz.ntmps138
  go_wp2_with fail
  refine (literalM_any b l n a _ HM.out.row HM.out.ev HM.out.nb hm).mono ?_
  rintro e w1 ⟨⟨k, v, r, hr, rfl, ht1⟩ | ⟨hr, rfl⟩, hk1⟩
  · have hs1 := hk1.size
    rw [World.size_alloc] at hs1
    have hrd : Hid (rdVal y l = if hasV0 y.ty.sizes k v = true then some (.lit k v, r) else none) := by
      show _ = _
      unfold rdLit at hr
      simp only [Option.bind_eq_some_iff, Option.map_eq_some_iff] at hr
      obtain ⟨⟨k1, l1⟩, h1, l2, h2, ⟨v1, l3⟩, h3, h4⟩ := hr
      injection h4 with h4 h5
      injection h4 with h4 h6
      dsimp only at h2 h4 h5 h6
      subst h4; subst h5; subst h6
      unfold rdVal
      rw [h1]
      simp only [Option.bind_some]
      rw [h2]
      simp only [Option.bind_some]
      rw [h3]
      rfl
    have HM1 := Lib.hid (HM.out.go hk1 ht1)
    have HK1 := Lib.hid (HK0.out.trans hk1)
    have R1 := Lib.hid (Row.kept' R0.out hk1 (by omega))
    clear hr ht1 hk1 HM HK0 R0
    obtain ⟨w2, hw2⟩ : ∃ u, u = w1.alloc (.cells #[.int .i64 k, .int .i64 v] 201) := ⟨_, rfl⟩
    have hb2 : Below w1.heap.size w1 w2 := by rw [hw2]; exact (Below.refl _ _).alloc (Nat.le_refl _) _
    have HM2 := Lib.hid (HM1.out.under hb2)
    have HK2 := Lib.hid (HK1.out.of_below hb2)
    have R2 : Hid (Row w2 w.heap.size 201 [.int .i64 0, .int .i64 0]) := R1.out.below hb2 R1.out.lt
    have R3 : Hid (Row w2 w1.heap.size 201 [.int .i64 k, .int .i64 v]) := by rw [hw2]; exact Row.new w1 _ _
    have hs2 : w1.heap.size < w2.heap.size := R3.out.lt
    obtain ⟨A1, cap1, rfl, _, _, _⟩ := HM2.out.sy.1.1.form
    obtain ⟨A2, cap2, rfl, _, _, _⟩ := HM2.out.sy.1.2.form
    obtain ⟨c1, c2, c3⟩ := HM2.out.cells
    have k0 := R3.out.cell 0
    have k1 := R3.out.cell 1
    simp only [List.getElem?_cons_zero, List.getElem?_cons_succ] at k0 k1
    clear hb2 HM1 HK1 R1
    go_wp2_with fail
    rw [← hw2]
    have kk : w2.drew.cell? ⟨b, 1, none⟩ = some (.slice A1 y.ty.sizes.length cap1) ∧ w2.drew.cell? ⟨b, 2, none⟩ = some (.slice A2 y.ty.cos.length cap2) ∧ w2.drew.cell? ⟨w1.heap.size, 0, none⟩ = some (.int .i64 k) ∧ w2.drew.cell? ⟨w1.heap.size, 1, none⟩ = some (.int .i64 v) := ⟨c1, c2, k0, k1⟩
    have KK := Lib.hid kk
    clear kk c1 c2 c3 k0 k1 hw2
    go_region_held3 (fun w' => w'.cell? ⟨b, 1, none⟩ = some (.slice A1 y.ty.sizes.length cap1) ∧ w'.cell? ⟨b, 2, none⟩ = some (.slice A2 y.ty.cos.length cap2) ∧ w'.cell? ⟨w1.heap.size, 0, none⟩ = some (.int .i64 k) ∧ w'.cell? ⟨w1.heap.size, 1, none⟩ = some (.int .i64 v))
      (first | exact KK.out | exact KK3.out)
      (first
        | (go_at_call 145
           refine (implHas_any lo hi _ _ y.ty k v w2.drew HM2.out.sy.1 (by have := HM2.out.hib; show _ ≤ w2.heap.size; omega)).mono ?_
           rintro e w3 ⟨rfl, hb3⟩
           have HB3 : Hid (Below w2.drew.heap.size w2.drew w3) := hb3
           have hbs : b < w2.drew.heap.size := by show b < w2.heap.size; omega
           have hls : w1.heap.size < w2.drew.heap.size := hs2
           have KK3 : Hid (w3.cell? ⟨b, 1, none⟩ = some (.slice A1 y.ty.sizes.length cap1) ∧ w3.cell? ⟨b, 2, none⟩ = some (.slice A2 y.ty.cos.length cap2) ∧ w3.cell? ⟨w1.heap.size, 0, none⟩ = some (.int .i64 k) ∧ w3.cell? ⟨w1.heap.size, 1, none⟩ = some (.int .i64 v)) :=
             ⟨(hb3.cell (p := ⟨b, 1, none⟩) hbs).trans KK.out.1, (hb3.cell (p := ⟨b, 2, none⟩) hbs).trans KK.out.2.1, (hb3.cell (p := ⟨w1.heap.size, 0, none⟩) hls).trans KK.out.2.2.1, (hb3.cell (p := ⟨w1.heap.size, 1, none⟩) hls).trans KK.out.2.2.2⟩
           clear hb3))
    have HB3 : Hid (Below w2.heap.size w2 w3) := ⟨HB3.out.os, HB3.out.tape, HB3.out.output, HB3.out.size, HB3.out.block⟩
    have hhv : hasV y.ty k v = hasV0 y.ty.sizes k v := by unfold hasV; rw [hy.ty]; rfl
    rw [hhv]
    have HM3 := Lib.hid (HM2.out.under HB3.out)
    have HK3 := Lib.hid (HK2.out.of_below HB3.out)
    have R4 : Hid (Row w3 w.heap.size 201 [.int .i64 0, .int .i64 0]) := R2.out.below HB3.out R2.out.lt
    have R5 : Hid (Row w3 w1.heap.size 201 [.int .i64 k, .int .i64 v]) := R3.out.below HB3.out R3.out.lt
    clear hhv HB3 HM2 HK2 R2 R3 KK KK3
    cases hv : hasV0 y.ty.sizes k v with
    | false =>
      have hno : Hid (rdVal y l = none) := by show _ = _; rw [hrd.out, if_neg (by simp [hv])]
      have v0 := HM3.out.ev.2
      clear hrd hv
      go_wp2
      exact ⟨rfl, .inr ⟨hno.out, rfl⟩, HK3.out⟩
    | true =>
      have hfin : Hid (rdVal y l = some (.lit k v, r)) := by show _ = _; rw [hrd.out, if_pos hv]
      have m0 := R5.out.cell 0
      have m1 := R5.out.cell 1
      have p0 := R4.out.cell 0
      have p1 := R4.out.cell 1
      have f0 := R4.out.frozen 0
      have f1 := R4.out.frozen 1
      simp only [List.getElem?_cons_zero, List.getElem?_cons_succ] at m0 m1 p0 p1
      clear hrd hv
      go_wp2
      obtain ⟨u5, hu5⟩ : ∃ u, u = (w3.setCell ⟨w.heap.size, 0, none⟩ (.int .i64 k)).setCell ⟨w.heap.size, 1, none⟩ (.int .i64 v) := ⟨_, rfl⟩
      rw [← hu5]
      have R6 : Hid (Row u5 w.heap.size 201 [.int .i64 k, .int .i64 v]) := by rw [hu5]; exact (R4.out.set_ 0 _).set_ 1 _
      have HK5 : Hid (Keep b w u5) := by rw [hu5]; exact (HK3.out.seto' (Nat.le_refl _) _).seto' (Nat.le_refl _) _
      have HM5 : Hid (Mr lo hi n a (.slice A1 y.ty.sizes.length cap1) (.slice A2 y.ty.cos.length cap2) fv y b r u5) := by
        rw [hu5]
        exact (HM3.out.seto (p := ⟨w.heap.size, 0, none⟩) hblt _).seto (p := ⟨w.heap.size, 1, none⟩) hblt _
      have d0 := R6.out.cell 0
      have d1 := R6.out.cell 1
      simp only [List.getElem?_cons_zero, List.getElem?_cons_succ] at d0 d1
      clear hu5
      refine bodyPost_ret (v := .agg #[.int .i64 k, .int .i64 v]) (by simp [results, Tryz.results138, go_sem, d0, d1]) rfl ?_
      exact ⟨.inl ⟨k, v, r, hfin.out, rfl, HM5.out⟩, HK5.out⟩
  · have hrd : Hid (rdVal y l = none) := by
      show _ = _
      unfold rdLit at hr
      unfold rdVal
      cases h1 : rdDigit l with
      | none => rfl
      | some p =>
        rw [h1] at hr
        simp only [Option.bind_some] at hr ⊢
        cases h2 : rdTake 58 p.2 with
        | none => rfl
        | some q =>
          rw [h2] at hr
          simp only [Option.bind_some] at hr ⊢
          cases h3 : rdDigit q with
          | none => rfl
          | some x => rw [h3] at hr; cases hr
    have HK1 := Lib.hid (HK0.out.trans hk1)
    clear hr hk1 HM HK0 R0
    go_wp2
    exact ⟨rfl, .inr ⟨hrd.out, rfl⟩, HK1.out⟩
end Go.Proofs.YthldlbbkbbgdkaaGreatDoor

