/-
  The contracts of the program's reader of explicit terms: value, opening, madeOf.
  The contracts of the program's reader of explicit terms: madeOf, coerced.
-/
import Derived.Test.YtdemcoghgnnheaaGreatDoorK10
import Derived.Test.YtdemcoghgnnheaaGreatDoorK9
import Derived.Test.YtdemcoghgnnheaaGreatDoorK6
import Derived.WalkMore
namespace Go.Proofs.YtdemcoghgnnheaaGreatDoor
open Go.RowKit

/-- A store behind the reader. -/
theorem Mr.seto {lo hi n : Nat} {a : Addr} {sv cv fv : Value} {y : Sy} {b : Nat} {l : List UInt8} {w : World} (h : Mr lo hi n a sv cv fv y b l w) {p : Addr} (hp : b < p.block) (v : Value) : Mr lo hi n a sv cv fv y b l (w.setCell p v) :=
  ⟨h.row.far' (by omega) v, h.sy.keep fun k _ hk => Below.heap_setCell _ _ _ _ (by have := h.hib; omega), h.ev.far' (by have := h.nb; omega) v, h.hib, h.nb⟩

def OpenPost (lo hi n : Nat) (a : Addr) (sv cv fv : Value) (y : Sy) (b : Nat) (o : Option (Nat × List UInt8)) (w : World) (e : Ending) (w' : World) : Prop :=
  ((∃ i r, o = some (i, r) ∧ e = .returned (.int .i64 i) ∧ Mr lo hi n a sv cv fv y b r w') ∨ (o = none ∧ e = boom a)) ∧ Keep b w w'
set_option maxRecDepth 100000 in
set_option maxHeartbeats 2000000 in
theorem opening_any (lo hi n : Nat) (a : Addr) (sv cv fv : Value) (y : Sy) (b : Nat) (l : List UInt8) (s : UInt8) (z : Int) (hz : z = (s.toNat : Int)) (k : Nat) (w : World) (h : Mr lo hi n a sv cv fv y b l w) (hm : l.length ≤ 1048576) :
    Calls Tryz.prog 169 #[.pointer (some ⟨b, 0, none⟩), .int .u8 z, .int .i64 k] w fun e w' => OpenPost lo hi n a sv cv fv y b (rdOpen s k l) w e w' := by
  subst hz
  have HM := Lib.hid h
  clear h
  go_enter Tryz.func169, Tryz.ntmps169
  go_wp2_with fail
  cases htk : rdTake s l with
  | none =>
    have hno : Hid (rdOpen s k l = none) := by show _ = _; unfold rdOpen; rw [htk]; rfl
    refine (takeM_no b l s _ rfl htk n a w HM.out.row HM.out.ev).mono ?_
    clear htk
    rintro e w1 ⟨rfl, rfl⟩
    go_wp2
    exact ⟨rfl, .inr ⟨hno.out, rfl⟩, Keep.refl _ _⟩
  | some r1 =>
    have hl1 := rdTake_len htk
    have hco1 : Hid (rdOpen s k l = (rdIx k r1).bind fun p => (rdTake 40 p.2).map fun q => (p.1, q)) := by show _ = _; unfold rdOpen; rw [htk]; rfl
    refine (takeM_yes b l r1 s _ rfl htk w HM.out.row hm).mono ?_
    clear htk
    rintro e w1 ⟨rfl, hk1, ht1⟩
    have HM1 := Lib.hid (HM.out.go hk1 ht1)
    have HK1 := Lib.hid hk1
    clear hk1 ht1 HM
    go_wp2_with fail
    cases hd1 : rdDigit r1 with
    | none =>
      have hno : Hid (rdOpen s k l = none) := by show _ = _; rw [hco1.out]; unfold rdIx; rw [hd1]; rfl
      refine (digitM_no b r1 hd1 n a w1 HM1.out.row HM1.out.ev).mono ?_
      clear hd1 hco1
      rintro e w2 ⟨rfl, rfl⟩
      go_wp2
      exact ⟨rfl, .inr ⟨hno.out, rfl⟩, HK1.out⟩
    | some p =>
      obtain ⟨z1, r2⟩ := p
      obtain ⟨c1, rfl, hc1, rfl⟩ := rdDigit_cons hd1
      have hv0 : 0 ≤ valD c1 ∧ valD c1 ≤ 9 := by have := isD_of hc1; unfold valD; omega
      obtain ⟨i, hi'⟩ : ∃ i : Nat, valD c1 = (i : Int) := ⟨(valD c1).toNat, by omega⟩
      have hco2 : Hid (rdOpen s k l = (if (i : Int) < (k : Int) then some (i, r2) else none).bind fun p => (rdTake 40 p.2).map fun q => (p.1, q)) := by
        show _ = _
        rw [hco1.out]
        unfold rdIx
        rw [hd1]
        simp only [Option.bind_some, hi', Int.toNat_natCast]
      simp only [List.length_cons] at hl1
      refine (digitM_yes b c1 r2 hc1 w1 HM1.out.row (by omega)).mono ?_
      clear hd1 hco1
      rintro e w2 ⟨rfl, hk2, ht2⟩
      rw [hi']
      have HM2 := Lib.hid (HM1.out.go hk2 ht2)
      have HK2 := Lib.hid (HK1.out.trans hk2)
      clear hk2 ht2 HM1 HK1 hi'
      go_wp2_with fail
      refine (isIndex_any (i : Int) (k : Int) w2).mono ?_
      rintro e w3 ⟨rfl, rfl⟩
      by_cases hik : i < k
      · have hix : ixB (i : Int) (k : Int) = true := ixB_yes (by omega) (by omega)
        rw [hix]
        have hco3 : Hid (rdOpen s k l = (rdTake 40 r2).map fun q => (i, q)) := by show _ = _; rw [hco2.out, if_pos (by omega)]; rfl
        clear hco2 hix
        go_wp2_with fail
        cases htk2 : rdTake 40 r2 with
        | none =>
          have hno : Hid (rdOpen s k l = none) := by show _ = _; rw [hco3.out, htk2]; rfl
          refine (takeM_no b r2 40 40 rfl htk2 n a _ HM2.out.row HM2.out.ev).mono ?_
          clear htk2 hco3
          rintro e w4 ⟨rfl, rfl⟩
          go_wp2
          exact ⟨rfl, .inr ⟨hno.out, rfl⟩, HK2.out⟩
        | some r3 =>
          have hfin : Hid (rdOpen s k l = some (i, r3)) := by show _ = _; rw [hco3.out, htk2]; rfl
          refine (takeM_yes b r2 r3 40 40 rfl htk2 _ HM2.out.row (by omega)).mono ?_
          clear htk2 hco3
          rintro e w4 ⟨rfl, hk4, ht4⟩
          have HM4 := Lib.hid (HM2.out.go hk4 ht4)
          have HK4 := Lib.hid (HK2.out.trans hk4)
          clear hk4 ht4 HM2 HK2
          go_wp2
          go_ret
          exact ⟨.inl ⟨i, r3, hfin.out, rfl, HM4.out⟩, HK4.out⟩
      · have hix : ixB (i : Int) (k : Int) = false := ixB_high (by omega)
        rw [hix]
        have hno : Hid (rdOpen s k l = none) := by show _ = _; rw [hco2.out, if_neg (by omega)]; rfl
        have v0 := HM2.out.ev.2
        clear hco2 hix
        go_wp2
        exact ⟨rfl, .inr ⟨hno.out, rfl⟩, HK2.out⟩

def ValPost (lo hi n : Nat) (a : Addr) (sv cv fv : Value) (y : Sy) (b : Nat) (l : List UInt8) (w : World) (e : Ending) (w' : World) : Prop :=
  ((∃ k v r, rdVal y l = some (.lit k v, r) ∧ e = .returned (.agg #[.int .i64 k, .int .i64 v]) ∧ Mr lo hi n a sv cv fv y b r w') ∨ (rdVal y l = none ∧ e = boom a)) ∧ Keep b w w'
set_option maxRecDepth 100000 in
set_option maxHeartbeats 2000000 in
theorem value7_any (lo hi n : Nat) (a : Addr) (sv cv fv : Value) (y : Sy) (hy : SyOk y) (b : Nat) (l : List UInt8) (w : World) (h : Mr lo hi n a sv cv fv y b l w) (hm : l.length ≤ 1048576) :
    Calls Tryz.prog 134 #[.pointer (some ⟨b, 0, none⟩)] w fun e w' => ValPost lo hi n a sv cv fv y b l w e w' := by
  have hb0 : Below w.heap.size w (w.alloc (.cells #[.int .i64 0, .int .i64 0] 89)) := (Below.refl _ _).alloc (Nat.le_refl _) _
  have HM := Lib.hid (h.under hb0)
  have HK0 := Lib.hid ((Keep.refl b w).of_below hb0)
  have hblt := h.lt
  have R0 : Hid (Row (w.alloc (.cells #[.int .i64 0, .int .i64 0] 89)) w.heap.size 89 [.int .i64 0, .int .i64 0]) := Row.new w _ _
  clear h hb0
  go_enter Tryz.func134, Tryz.ntmps134
  go_wp2_with fail
  refine (literalM_any b l n a _ HM.out.row HM.out.ev HM.out.nb hm).mono ?_
  rintro e w1 ⟨⟨k, v, r, hr, rfl, ht1⟩ | ⟨hr, rfl⟩, hk1⟩
  · have hs1 := hk1.size
    rw [World.size_alloc] at hs1
    have hrd : Hid (rdVal y l = if hasV0 y.ty.sizes k v = true then some (.lit k v, r) else none) := by
      show _ = _
      unfold rdLit at hr
      simp only [Option.bind_eq_some_iff, Option.map_eq_some_iff] at hr
      obtain ⟨⟨k1, l1⟩, h1, l2, h2, ⟨v1, l3⟩, h3, h4⟩ := hr
      injection h4 with h4 h5
      injection h4 with h4 h6
      dsimp only at h2 h4 h5 h6
      subst h4; subst h5; subst h6
      unfold rdVal
      rw [h1]
      simp only [Option.bind_some]
      rw [h2]
      simp only [Option.bind_some]
      rw [h3]
      rfl
    have HM1 := Lib.hid (HM.out.go hk1 ht1)
    have HK1 := Lib.hid (HK0.out.trans hk1)
    have R1 := Lib.hid (Row.kept' R0.out hk1 (by omega))
    clear hr ht1 hk1 HM HK0 R0
    obtain ⟨w2, hw2⟩ : ∃ u, u = w1.alloc (.cells #[.int .i64 k, .int .i64 v] 89) := ⟨_, rfl⟩
    have hb2 : Below w1.heap.size w1 w2 := by rw [hw2]; exact (Below.refl _ _).alloc (Nat.le_refl _) _
    have HM2 := Lib.hid (HM1.out.under hb2)
    have HK2 := Lib.hid (HK1.out.of_below hb2)
    have R2 : Hid (Row w2 w.heap.size 89 [.int .i64 0, .int .i64 0]) := R1.out.below hb2 R1.out.lt
    have R3 : Hid (Row w2 w1.heap.size 89 [.int .i64 k, .int .i64 v]) := by rw [hw2]; exact Row.new w1 _ _
    have hs2 : w1.heap.size < w2.heap.size := R3.out.lt
    obtain ⟨A1, cap1, rfl, _, _, _⟩ := HM2.out.sy.1.1.form
    obtain ⟨A2, cap2, rfl, _, _, _⟩ := HM2.out.sy.1.2.form
    obtain ⟨c1, c2, c3⟩ := HM2.out.cells
    have k0 := R3.out.cell 0
    have k1 := R3.out.cell 1
    simp only [List.getElem?_cons_zero, List.getElem?_cons_succ] at k0 k1
    clear hb2 HM1 HK1 R1
    go_wp2_with fail
    rw [← hw2]
    have kk : w2.drew.cell? ⟨b, 1, none⟩ = some (.slice A1 y.ty.sizes.length cap1) ∧ w2.drew.cell? ⟨b, 2, none⟩ = some (.slice A2 y.ty.cos.length cap2) ∧ w2.drew.cell? ⟨w1.heap.size, 0, none⟩ = some (.int .i64 k) ∧ w2.drew.cell? ⟨w1.heap.size, 1, none⟩ = some (.int .i64 v) := ⟨c1, c2, k0, k1⟩
    have KK := Lib.hid kk
    clear kk c1 c2 c3 k0 k1 hw2
    go_region_held3 (fun w' => w'.cell? ⟨b, 1, none⟩ = some (.slice A1 y.ty.sizes.length cap1) ∧ w'.cell? ⟨b, 2, none⟩ = some (.slice A2 y.ty.cos.length cap2) ∧ w'.cell? ⟨w1.heap.size, 0, none⟩ = some (.int .i64 k) ∧ w'.cell? ⟨w1.heap.size, 1, none⟩ = some (.int .i64 v))
      (first | exact KK.out | exact KK3.out)
      (first
        | (go_at_call 123
           refine (implHas_any lo hi _ _ y.ty k v w2.drew HM2.out.sy.1 (by have := HM2.out.hib; show _ ≤ w2.heap.size; omega)).mono ?_
           rintro e w3 ⟨rfl, hb3⟩
           have HB3 : Hid (Below w2.drew.heap.size w2.drew w3) := hb3
           have hbs : b < w2.drew.heap.size := by show b < w2.heap.size; omega
           have hls : w1.heap.size < w2.drew.heap.size := hs2
           have KK3 : Hid (w3.cell? ⟨b, 1, none⟩ = some (.slice A1 y.ty.sizes.length cap1) ∧ w3.cell? ⟨b, 2, none⟩ = some (.slice A2 y.ty.cos.length cap2) ∧ w3.cell? ⟨w1.heap.size, 0, none⟩ = some (.int .i64 k) ∧ w3.cell? ⟨w1.heap.size, 1, none⟩ = some (.int .i64 v)) :=
             ⟨(hb3.cell (p := ⟨b, 1, none⟩) hbs).trans KK.out.1, (hb3.cell (p := ⟨b, 2, none⟩) hbs).trans KK.out.2.1, (hb3.cell (p := ⟨w1.heap.size, 0, none⟩) hls).trans KK.out.2.2.1, (hb3.cell (p := ⟨w1.heap.size, 1, none⟩) hls).trans KK.out.2.2.2⟩
           clear hb3))
    have HB3 : Hid (Below w2.heap.size w2 w3) := ⟨HB3.out.os, HB3.out.tape, HB3.out.output, HB3.out.size, HB3.out.block⟩
    have hhv : hasV y.ty k v = hasV0 y.ty.sizes k v := by unfold hasV; rw [hy.ty]; rfl
    rw [hhv]
    have HM3 := Lib.hid (HM2.out.under HB3.out)
    have HK3 := Lib.hid (HK2.out.of_below HB3.out)
    have R4 : Hid (Row w3 w.heap.size 89 [.int .i64 0, .int .i64 0]) := R2.out.below HB3.out R2.out.lt
    have R5 : Hid (Row w3 w1.heap.size 89 [.int .i64 k, .int .i64 v]) := R3.out.below HB3.out R3.out.lt
    clear hhv HB3 HM2 HK2 R2 R3 KK KK3
    cases hv : hasV0 y.ty.sizes k v with
    | false =>
      have hno : Hid (rdVal y l = none) := by show _ = _; rw [hrd.out, if_neg (by simp [hv])]
      have v0 := HM3.out.ev.2
      clear hrd hv
      go_wp2
      exact ⟨rfl, .inr ⟨hno.out, rfl⟩, HK3.out⟩
    | true =>
      have hfin : Hid (rdVal y l = some (.lit k v, r)) := by show _ = _; rw [hrd.out, if_pos hv]
      have m0 := R5.out.cell 0
      have m1 := R5.out.cell 1
      have p0 := R4.out.cell 0
      have p1 := R4.out.cell 1
      have f0 := R4.out.frozen 0
      have f1 := R4.out.frozen 1
      simp only [List.getElem?_cons_zero, List.getElem?_cons_succ] at m0 m1 p0 p1
      clear hrd hv
      go_wp2
      obtain ⟨u5, hu5⟩ : ∃ u, u = (w3.setCell ⟨w.heap.size, 0, none⟩ (.int .i64 k)).setCell ⟨w.heap.size, 1, none⟩ (.int .i64 v) := ⟨_, rfl⟩
      rw [← hu5]
      have R6 : Hid (Row u5 w.heap.size 89 [.int .i64 k, .int .i64 v]) := by rw [hu5]; exact (R4.out.set_ 0 _).set_ 1 _
      have HK5 : Hid (Keep b w u5) := by rw [hu5]; exact (HK3.out.seto' (Nat.le_refl _) _).seto' (Nat.le_refl _) _
      have HM5 : Hid (Mr lo hi n a (.slice A1 y.ty.sizes.length cap1) (.slice A2 y.ty.cos.length cap2) fv y b r u5) := by
        rw [hu5]
        exact (HM3.out.seto (p := ⟨w.heap.size, 0, none⟩) hblt _).seto (p := ⟨w.heap.size, 1, none⟩) hblt _
      have d0 := R6.out.cell 0
      have d1 := R6.out.cell 1
      simp only [List.getElem?_cons_zero, List.getElem?_cons_succ] at d0 d1
      clear hu5
      refine bodyPost_ret (v := .agg #[.int .i64 k, .int .i64 v]) (by simp [results, Tryz.results134, go_sem, d0, d1]) rfl ?_
      exact ⟨.inl ⟨k, v, r, hfin.out, rfl, HM5.out⟩, HK5.out⟩
  · have hrd : Hid (rdVal y l = none) := by
      show _ = _
      unfold rdLit at hr
      unfold rdVal
      cases h1 : rdDigit l with
      | none => rfl
      | some p =>
        rw [h1] at hr
        simp only [Option.bind_some] at hr ⊢
        cases h2 : rdTake 58 p.2 with
        | none => rfl
        | some q =>
          rw [h2] at hr
          simp only [Option.bind_some] at hr ⊢
          cases h3 : rdDigit q with
          | none => rfl
          | some x => rw [h3] at hr; cases hr
    have HK1 := Lib.hid (HK0.out.trans hk1)
    clear hr hk1 HM HK0 R0
    go_wp2
    exact ⟨rfl, .inr ⟨hrd.out, rfl⟩, HK1.out⟩
end Go.Proofs.YtdemcoghgnnheaaGreatDoor

namespace Go.Proofs.YtdemcoghgnnheaaGreatDoor
open Go.RowKit

def MadePost (lo hi n : Nat) (a : Addr) (sv cv fv : Value) (y : Sy) (b : Nat) (o : Option (Mk × List UInt8)) (w : World) (e : Ending) (w' : World) : Prop :=
  ((∃ m r v, o = some (m, r) ∧ MkOk y m ∧ e = .returned v ∧ MNodeAt w' w.heap.size m v ∧ Mr lo hi n a sv cv fv y b r w') ∨ (o = none ∧ e = boom a)) ∧ Keep b w w'
def MadeReads (lo hi n : Nat) (a : Addr) (sv cv fv : Value) (y : Sy) (b : Nat) (f : Nat) : Prop :=
  ∀ (l : List UInt8) (w : World), Mr lo hi n a sv cv fv y b l w → l.length ≤ f → l.length ≤ 1048576 →
    Calls Tryz.prog 94 #[.pointer (some ⟨b, 0, none⟩)] w fun e w' => MadePost lo hi n a sv cv fv y b (rdMk y f l) w e w'

set_option maxRecDepth 100000 in
set_option maxHeartbeats 4000000 in
theorem madeOf_any (lo hi n : Nat) (a : Addr) (sv cv fv : Value) (y : Sy) (b f : Nat) (IH : MadeReads lo hi n a sv cv fv y b f) (k : Int) (l : List UInt8) (w : World) (h : Mr lo hi n a sv cv fv y b l w) (hf : l.length ≤ f) (hm : l.length ≤ 1048576) :
    Calls Tryz.prog 170 #[.pointer (some ⟨b, 0, none⟩), .int .i64 k] w fun e w' => MadePost lo hi n a sv cv fv y b (rdOf (rdMk y f) y k l) w e w' := by
  have HI := Lib.hid (IH l w h hf hm)
  have hblt := h.lt
  clear IH h
  go_enter Tryz.func170, Tryz.ntmps170
  go_wp2_with fail
  refine HI.out.mono ?_
  rintro e w1 ⟨⟨m, r, v, hrd, hok, rfl, hno, hmr⟩ | ⟨hrd, rfl⟩, hk1⟩
  · obtain ⟨T, x, fid, rfl, hmeth, hnil, hent, hkd⟩ := hno.kind hok
    have hrd2 : Hid (rdOf (rdMk y f) y k l = if kindM y m = k then some (m, r) else none) := by show _ = _; unfold rdOf; rw [hrd]; rfl
    have HKD := Lib.hid hkd
    have HM1 := Lib.hid hmr
    have HN1 := Lib.hid hno
    have HK1 := Lib.hid hk1
    have HOK := Lib.hid hok
    obtain ⟨c1, c2, c3⟩ := hmr.cells
    have kk : w1.drew.cell? ⟨b, 1, none⟩ = some sv ∧ w1.drew.cell? ⟨b, 2, none⟩ = some cv ∧ w1.drew.cell? ⟨b, 3, none⟩ = some fv := ⟨c1, c2, c3⟩
    have KK := Lib.hid kk
    have hb1 := hmr.lt
    clear kk c1 c2 c3 hrd hok hno hmr hk1 hkd HI
    go_wp2_with fail
    go_region_held3 (fun w' => w'.cell? ⟨b, 1, none⟩ = some sv ∧ w'.cell? ⟨b, 2, none⟩ = some cv ∧ w'.cell? ⟨b, 3, none⟩ = some fv)
      (first | exact KK.out | exact KK3.out)
      (first
        | (refine (HKD.out lo hi _ _ _ w1.drew HM1.out.sy (by have := HM1.out.hib; show _ ≤ w1.heap.size; omega)).mono ?_
           rintro e w3 ⟨rfl, hb3⟩
           have HB3 : Hid (Below w1.drew.heap.size w1.drew w3) := hb3
           have hbs : b < w1.drew.heap.size := hb1
           have KK3 : Hid (w3.cell? ⟨b, 1, none⟩ = some sv ∧ w3.cell? ⟨b, 2, none⟩ = some cv ∧ w3.cell? ⟨b, 3, none⟩ = some fv) :=
             ⟨(hb3.cell (p := ⟨b, 1, none⟩) hbs).trans KK.out.1, (hb3.cell (p := ⟨b, 2, none⟩) hbs).trans KK.out.2.1, (hb3.cell (p := ⟨b, 3, none⟩) hbs).trans KK.out.2.2⟩
           clear hb3))
    have HB4 : Hid (Below w1.heap.size w1 w3) := ⟨HB3.out.os, HB3.out.tape, HB3.out.output, HB3.out.size, HB3.out.block⟩
    have HM3 := Lib.hid (HM1.out.under HB4.out)
    have HK3 := Lib.hid (HK1.out.of_below HB4.out)
    have HN3 : Hid (MNodeAt w3 w.heap.size m (.iface T x)) := HN1.out.same fun g _ hg => HB4.out.block g hg
    clear HB3 HB4 HM1 HK1 HN1 KK KK3
    by_cases hk : kindM y m = k
    · have hfin : Hid (rdOf (rdMk y f) y k l = some (m, r)) := by show _ = _; rw [hrd2.out, if_pos hk]
      have hbeq : (kindM y m != k) = false := by simp [hk]
      clear hrd2
      go_wp2
      go_ret
      exact ⟨.inl ⟨m, r, _, hfin.out, HOK.out, rfl, HN3.out, HM3.out⟩, HK3.out⟩
    · have hno : Hid (rdOf (rdMk y f) y k l = none) := by show _ = _; rw [hrd2.out, if_neg hk]
      have hbeq : (kindM y m != k) = true := by simp [hk]
      have v0 := HM3.out.ev.2
      clear hrd2
      go_wp2
      exact ⟨rfl, .inr ⟨hno.out, rfl⟩, HK3.out⟩
  · have hno : Hid (rdOf (rdMk y f) y k l = none) := by show _ = _; unfold rdOf; rw [hrd]; rfl
    have HK1 := Lib.hid hk1
    clear hrd hk1 HI
    go_wp2
    exact ⟨rfl, .inr ⟨hno.out, rfl⟩, HK1.out⟩

/-- What holds behind the call, and behind the store, of a region that calls and then stores. -/
def WCo (wd : World) (C : Value → World → Prop) (A : Addr) (v : Value) : Nat → World → Prop
  | 0, u => u = wd
  | 1, u => C v u
  | _ + 2, u => ∃ u0, C v u0 ∧ u = u0.setCell A v
def CoFact (lo hi n : Nat) (a : Addr) (sv cv fv : Value) (y : Sy) (b : Nat) (o : Option (Mk × List UInt8)) (wd : World) (v : Value) (u : World) : Prop :=
  ∃ m r, o = some (m, r) ∧ MkOk y m ∧ MNodeAt u wd.heap.size m v ∧ Mr lo hi n a sv cv fv y b r u ∧ Keep b wd u

def CoPost (lo hi n : Nat) (a : Addr) (sv cv fv : Value) (y : Sy) (b : Nat) (o : Option (Mk × List UInt8)) (w : World) (e : Ending) (w' : World) : Prop :=
  ((∃ m r x, o = some (m, r) ∧ MkOk y m ∧ e = .returned x ∧ MNodeAt w' w.heap.size m (.iface 193 x) ∧ Mr lo hi n a sv cv fv y b r w') ∨ (o = none ∧ e = boom a)) ∧ Keep b w w'

set_option maxRecDepth 100000 in
set_option maxHeartbeats 8000000 in
theorem coerced_any (lo hi n : Nat) (a : Addr) (sv cv fv : Value) (y : Sy) (hy : SyOk y) (b f : Nat) (IH : MadeReads lo hi n a sv cv fv y b f) (l : List UInt8) (w : World) (h : Mr lo hi n a sv cv fv y b l w) (hf : l.length ≤ f + 1) (hm : l.length ≤ 1048576) :
    Calls Tryz.prog 132 #[.pointer (some ⟨b, 0, none⟩)] w fun e w' => CoPost lo hi n a sv cv fv y b (rdCoM (rdMk y f) y l) w e w' := by
  have hblt := h.lt
  obtain ⟨A2, cap2, rfl, _, _, _⟩ := h.sy.1.2.form
  have HI := Lib.hid IH
  obtain ⟨w1, hw1⟩ : ∃ u, u = (w.alloc (.cells #[.int .i64 0, .nilIface] 193)).alloc (.cells #[.int .i64 0, .nilIface] 193) := ⟨_, rfl⟩
  have hb1 : Below w.heap.size w w1 := by rw [hw1]; exact ((Below.refl _ _).alloc (Nat.le_refl _) _).alloc (by simp) _
  have hs1 : w1.heap.size = w.heap.size + 2 := by rw [hw1]; simp
  have HM1 := Lib.hid (h.under hb1)
  have HK1 := Lib.hid ((Keep.refl b w).of_below hb1)
  have R1 : Hid (Row w1 w.heap.size 193 [.int .i64 0, .nilIface]) := by rw [hw1]; exact (Row.new w _ _).alloc _
  have V1 : Hid (Row w1 (w.heap.size + 1) 193 [.int .i64 0, .nilIface]) := by show Row _ _ _ _; rw [hw1]; have h := Row.new (w.alloc (.cells #[.int .i64 0, .nilIface] 193)) 193 [.int .i64 0, .nilIface]; rw [World.size_alloc] at h; exact h
  obtain ⟨-, c2, -⟩ := HM1.out.cells
  rw [hw1] at c2
  clear h IH hb1
  go_enter Tryz.func132, Tryz.ntmps132
  go_wp2_with fail
  rw [← hw1]
  refine (opening_any lo hi n a _ _ _ y b l 35 35 rfl y.ty.cos.length w1 HM1.out hm).mono ?_
  clear c2 hw1
  rintro e w2 ⟨⟨i, r1, hop, rfl, hmr2⟩ | ⟨hop, rfl⟩, hk2⟩
  · have hif := (rdOpen_eq hop).1
    have hi9' := (rdOpen_eq hop).2.1
    have hl1 : r1.length + 3 = l.length := by rw [(rdOpen_eq hop).2.2]; simp [dg]
    have hco1 : Hid (rdCoM (rdMk y f) y l = (rdOf (rdMk y f) y y.ty.cos[i].src r1).bind fun q => (rdTake 41 q.2).map fun r => (.co i q.1, r)) := by
      show _ = _
      unfold rdCoM
      rw [hop]
      simp only [Option.bind_some, getD_get hif]
    have hs2 := hk2.size
    have HK2 := Lib.hid (HK1.out.trans hk2)
    have R2 := Lib.hid (Row.kept' R1.out hk2 (by omega))
    have V2 := Lib.hid (Row.kept' V1.out hk2 (by omega))
    have v0 := V2.out.cell 0
    have f0 := V2.out.frozen 0
    simp only [List.getElem?_cons_zero] at v0
    have HM2 := Lib.hid hmr2
    clear hop hk2 hmr2 HM1 HK1 R1 V1
    go_wp2_with fail
    obtain ⟨w3, hw3⟩ : ∃ u, u = w2.setCell ⟨w.heap.size + 1, 0, none⟩ (.int .i64 i) := ⟨_, rfl⟩
    rw [← hw3]
    have HM3 : Hid (Mr lo hi n a sv (.slice A2 y.ty.cos.length cap2) fv y b r1 w3) := by rw [hw3]; exact HM2.out.seto (p := ⟨w.heap.size + 1, 0, none⟩) (by show b < w.heap.size + 1; omega) _
    have V3 : Hid (Row w3 (w.heap.size + 1) 193 [.int .i64 i, .nilIface]) := by rw [hw3]; exact V2.out.set_ 0 _
    have R3 : Hid (Row w3 w.heap.size 193 [.int .i64 0, .nilIface]) := by rw [hw3]; exact R2.out.far (by show w.heap.size ≠ w.heap.size + 1; omega) _
    have HK3 : Hid (Keep b w w3) := by rw [hw3]; exact HK2.out.seto' (by show w.heap.size ≤ w.heap.size + 1; omega) _
    clear hw3 HM2 V2 R2 HK2 v0 f0
    obtain ⟨b4, off4, A3, cap3, rfl, _, _, l0, _, _, _, _, _, _, _⟩ := HM3.out.sy.1.2.at_ hif
    have HM3d : Hid (Mr lo hi n a sv (.slice (some ⟨b4, off4, none⟩) y.ty.cos.length cap2) fv y b r1 w3.drew) := ⟨HM3.out.row, HM3.out.sy, HM3.out.ev, HM3.out.hib, HM3.out.nb⟩
    have hs3 : w.heap.size + 1 < w3.heap.size := V3.out.lt
    have hneb : w.heap.size + 1 ≠ b := by omega
    have e2 : w3.drew.cell? ⟨b, 2, none⟩ = some (.slice (some ⟨b4, off4, none⟩) y.ty.cos.length cap2) := HM3.out.cells.2.1
    have e0 : w3.drew.cell? ⟨w.heap.size + 1, 0, none⟩ = some (.int .i64 i) := V3.out.cell 0
    have es : w3.drew.cell? ⟨b4, off4 + i * 3, none⟩ = some (.int .i64 y.ty.cos[i].src) := l0
    refine wp_region_inv (by kernel_rfl) (fun dn ac u => ∃ x14 x15 x16 x17 x18 x19 x20 x21 x22 x23 x24 x25 x26 x27 y14, ac = ⟨List.toArray (.pointer (some ⟨b, 0, none⟩) :: undef :: .pointer (some ⟨w.heap.size, 0, none⟩) :: .pointer (some ⟨w.heap.size + 1, 0, none⟩) :: .pointer (some ⟨b, 0, none⟩) :: .pointer (some ⟨b, 0, none⟩) :: .pointer (some ⟨b, 0, none⟩) :: .pointer (some ⟨b, 1, none⟩) :: .pointer (some ⟨b, 1, none⟩) :: .pointer (some ⟨b, 2, none⟩) :: .slice (some ⟨b4, off4, none⟩) y.ty.cos.length cap2 :: .int .i64 y.ty.cos.length :: .int .i64 i :: .pointer (some ⟨w.heap.size + 1, 0, none⟩) :: x14 :: x15 :: x16 :: x17 :: x18 :: x19 :: x20 :: x21 :: x22 :: x23 :: x24 :: x25 :: x26 :: x27 :: undef :: undef :: undef :: undef :: undef :: []), []⟩ ∧ DetQ [fun v : Value => v = .pointer (some ⟨b, 0, none⟩), fun v : Value => v = .pointer (some ⟨b, 0, none⟩), fun v : Value => v = .pointer (some ⟨b, 0, none⟩), fun v : Value => v = .pointer (some ⟨b, 1, none⟩), fun v : Value => v = .pointer (some ⟨b, 1, none⟩), fun v : Value => v = .pointer (some ⟨b, 2, none⟩), fun v : Value => v = .slice (some ⟨b4, off4, none⟩) y.ty.cos.length cap2, fun v : Value => v = .pointer (some ⟨w.heap.size + 1, 0, none⟩), fun v : Value => v = .int .i64 i, fun v : Value => v = .pointer (some ⟨b4, off4 + i * 3, none⟩), fun v : Value => v = .pointer (some ⟨b4, off4 + i * 3, none⟩), fun v : Value => v = .int .i64 y.ty.cos[i].src, fun v : Value => True, fun v : Value => v = .pointer (some ⟨w.heap.size + 1, 1, none⟩), fun v : Value => True] dn [x14, x15, x16, x17, x18, x19, x20, x21, x22, x23, x24, x25, x26, x27, y14] ∧ Ch dn [12, 14] (WCo w3.drew (CoFact lo hi n a sv (.slice (some ⟨b4, off4, none⟩) y.ty.cos.length cap2) fv y b (rdOf (rdMk y f) y y.ty.cos[i].src r1) w3.drew) ⟨w.heap.size + 1, 1, none⟩ x26) u ∧ (dn 12 = true → dn 11 = true) ∧ (dn 11 = true → dn 10 = true) ∧ (dn 10 = true → dn 9 = true) ∧ (dn 9 = true → dn 6 = true) ∧ (dn 9 = true → dn 8 = true)) (of_decide_eq_true (by kernel_rfl)) ⟨_, _, _, _, _, _, _, _, _, _, _, _, _, _, .bool true, rfl, DetQ.start (by rfl), Ch.start rfl, (fun h => (by cases h)), (fun h => (by cases h)), (fun h => (by cases h)), (fun h => (by cases h)), (fun h => (by cases h))⟩ ?_ ?_
    · rintro dn ac u i8 op8 hop hfi hdep ⟨x14, x15, x16, x17, x18, x19, x20, x21, x22, x23, x24, x25, x26, x27, y14, rfl, hD, hC, hc0, hc1, hc2, hc3, hc4⟩
      have hil : i8 < 15 := by have := (Array.getElem?_eq_some_iff.1 hop).1; simpa using this
      obtain rfl | rfl | rfl | rfl | rfl | rfl | rfl | rfl | rfl | rfl | rfl | rfl | rfl | rfl | rfl : i8 = 0 ∨ i8 = 1 ∨ i8 = 2 ∨ i8 = 3 ∨ i8 = 4 ∨ i8 = 5 ∨ i8 = 6 ∨ i8 = 7 ∨ i8 = 8 ∨ i8 = 9 ∨ i8 = 10 ∨ i8 = 11 ∨ i8 = 12 ∨ i8 = 13 ∨ i8 = 14 := by omega
      all_goals
        obtain rfl := Option.some.inj hop
        refine wpOp_step hop fun K hK => ?_
        simp [Region.binds] at hdep
        clear hop
      · refine det_yes rfl ?_
        have HD := Lib.hid hD
        have HC := Lib.hid hC
        clear hD hC
        unfold Oper.wp
        go_simp
        exact hK _ _ ⟨_, _, _, _, _, _, _, _, _, _, _, _, _, _, y14, rfl, HD.out.step 0 rfl rfl, HC.out.other 0 (by decide), (fun h => (by have h2 := hc0; have h3 := hfi; simp at h h2 ⊢; first | done | exact h2 h | exact Or.inr (h2 h) | simp [hdep] | (rcases h with h | h; · simp_all; · exact Or.inr (h2 h)) | simp_all)), (fun h => (by have h2 := hc1; have h3 := hfi; simp at h h2 ⊢; first | done | exact h2 h | exact Or.inr (h2 h) | simp [hdep] | (rcases h with h | h; · simp_all; · exact Or.inr (h2 h)) | simp_all)), (fun h => (by have h2 := hc2; have h3 := hfi; simp at h h2 ⊢; first | done | exact h2 h | exact Or.inr (h2 h) | simp [hdep] | (rcases h with h | h; · simp_all; · exact Or.inr (h2 h)) | simp_all)), (fun h => (by have h2 := hc3; have h3 := hfi; simp at h h2 ⊢; first | done | exact h2 h | exact Or.inr (h2 h) | simp [hdep] | (rcases h with h | h; · simp_all; · exact Or.inr (h2 h)) | simp_all)), (fun h => (by have h2 := hc4; have h3 := hfi; simp at h h2 ⊢; first | done | exact h2 h | exact Or.inr (h2 h) | simp [hdep] | (rcases h with h | h; · simp_all; · exact Or.inr (h2 h)) | simp_all))⟩
      · refine det_yes rfl ?_
        have HD := Lib.hid hD
        have HC := Lib.hid hC
        clear hD hC
        unfold Oper.wp
        go_simp
        exact hK _ _ ⟨_, _, _, _, _, _, _, _, _, _, _, _, _, _, y14, rfl, HD.out.step 1 rfl rfl, HC.out.other 1 (by decide), (fun h => (by have h2 := hc0; have h3 := hfi; simp at h h2 ⊢; first | done | exact h2 h | exact Or.inr (h2 h) | simp [hdep] | (rcases h with h | h; · simp_all; · exact Or.inr (h2 h)) | simp_all)), (fun h => (by have h2 := hc1; have h3 := hfi; simp at h h2 ⊢; first | done | exact h2 h | exact Or.inr (h2 h) | simp [hdep] | (rcases h with h | h; · simp_all; · exact Or.inr (h2 h)) | simp_all)), (fun h => (by have h2 := hc2; have h3 := hfi; simp at h h2 ⊢; first | done | exact h2 h | exact Or.inr (h2 h) | simp [hdep] | (rcases h with h | h; · simp_all; · exact Or.inr (h2 h)) | simp_all)), (fun h => (by have h2 := hc3; have h3 := hfi; simp at h h2 ⊢; first | done | exact h2 h | exact Or.inr (h2 h) | simp [hdep] | (rcases h with h | h; · simp_all; · exact Or.inr (h2 h)) | simp_all)), (fun h => (by have h2 := hc4; have h3 := hfi; simp at h h2 ⊢; first | done | exact h2 h | exact Or.inr (h2 h) | simp [hdep] | (rcases h with h | h; · simp_all; · exact Or.inr (h2 h)) | simp_all))⟩
      · obtain rfl : x15 = .pointer (some ⟨b, 0, none⟩) := hD.get (P := fun v : Value => v = .pointer (some ⟨b, 0, none⟩)) 1 (by simp [hdep]) rfl rfl
        refine det_yes rfl ?_
        have HD := Lib.hid hD
        have HC := Lib.hid hC
        clear hD hC
        unfold Oper.wp
        go_simp
        exact hK _ _ ⟨_, _, _, _, _, _, _, _, _, _, _, _, _, _, y14, rfl, HD.out.step 2 rfl rfl, HC.out.other 2 (by decide), (fun h => (by have h2 := hc0; have h3 := hfi; simp at h h2 ⊢; first | done | exact h2 h | exact Or.inr (h2 h) | simp [hdep] | (rcases h with h | h; · simp_all; · exact Or.inr (h2 h)) | simp_all)), (fun h => (by have h2 := hc1; have h3 := hfi; simp at h h2 ⊢; first | done | exact h2 h | exact Or.inr (h2 h) | simp [hdep] | (rcases h with h | h; · simp_all; · exact Or.inr (h2 h)) | simp_all)), (fun h => (by have h2 := hc2; have h3 := hfi; simp at h h2 ⊢; first | done | exact h2 h | exact Or.inr (h2 h) | simp [hdep] | (rcases h with h | h; · simp_all; · exact Or.inr (h2 h)) | simp_all)), (fun h => (by have h2 := hc3; have h3 := hfi; simp at h h2 ⊢; first | done | exact h2 h | exact Or.inr (h2 h) | simp [hdep] | (rcases h with h | h; · simp_all; · exact Or.inr (h2 h)) | simp_all)), (fun h => (by have h2 := hc4; have h3 := hfi; simp at h h2 ⊢; first | done | exact h2 h | exact Or.inr (h2 h) | simp [hdep] | (rcases h with h | h; · simp_all; · exact Or.inr (h2 h)) | simp_all))⟩
      · obtain rfl : x16 = .pointer (some ⟨b, 0, none⟩) := hD.get (P := fun v : Value => v = .pointer (some ⟨b, 0, none⟩)) 2 (by simp [hdep]) rfl rfl
        refine det_yes rfl ?_
        have HD := Lib.hid hD
        have HC := Lib.hid hC
        clear hD hC
        unfold Oper.wp
        go_simp
        exact hK _ _ ⟨_, _, _, _, _, _, _, _, _, _, _, _, _, _, y14, rfl, HD.out.step 3 rfl rfl, HC.out.other 3 (by decide), (fun h => (by have h2 := hc0; have h3 := hfi; simp at h h2 ⊢; first | done | exact h2 h | exact Or.inr (h2 h) | simp [hdep] | (rcases h with h | h; · simp_all; · exact Or.inr (h2 h)) | simp_all)), (fun h => (by have h2 := hc1; have h3 := hfi; simp at h h2 ⊢; first | done | exact h2 h | exact Or.inr (h2 h) | simp [hdep] | (rcases h with h | h; · simp_all; · exact Or.inr (h2 h)) | simp_all)), (fun h => (by have h2 := hc2; have h3 := hfi; simp at h h2 ⊢; first | done | exact h2 h | exact Or.inr (h2 h) | simp [hdep] | (rcases h with h | h; · simp_all; · exact Or.inr (h2 h)) | simp_all)), (fun h => (by have h2 := hc3; have h3 := hfi; simp at h h2 ⊢; first | done | exact h2 h | exact Or.inr (h2 h) | simp [hdep] | (rcases h with h | h; · simp_all; · exact Or.inr (h2 h)) | simp_all)), (fun h => (by have h2 := hc4; have h3 := hfi; simp at h h2 ⊢; first | done | exact h2 h | exact Or.inr (h2 h) | simp [hdep] | (rcases h with h | h; · simp_all; · exact Or.inr (h2 h)) | simp_all))⟩
      · obtain rfl : x17 = .pointer (some ⟨b, 1, none⟩) := hD.get (P := fun v : Value => v = .pointer (some ⟨b, 1, none⟩)) 3 (by simp [hdep]) rfl rfl
        refine det_yes rfl ?_
        have HD := Lib.hid hD
        have HC := Lib.hid hC
        clear hD hC
        unfold Oper.wp
        go_simp
        exact hK _ _ ⟨_, _, _, _, _, _, _, _, _, _, _, _, _, _, y14, rfl, HD.out.step 4 rfl rfl, HC.out.other 4 (by decide), (fun h => (by have h2 := hc0; have h3 := hfi; simp at h h2 ⊢; first | done | exact h2 h | exact Or.inr (h2 h) | simp [hdep] | (rcases h with h | h; · simp_all; · exact Or.inr (h2 h)) | simp_all)), (fun h => (by have h2 := hc1; have h3 := hfi; simp at h h2 ⊢; first | done | exact h2 h | exact Or.inr (h2 h) | simp [hdep] | (rcases h with h | h; · simp_all; · exact Or.inr (h2 h)) | simp_all)), (fun h => (by have h2 := hc2; have h3 := hfi; simp at h h2 ⊢; first | done | exact h2 h | exact Or.inr (h2 h) | simp [hdep] | (rcases h with h | h; · simp_all; · exact Or.inr (h2 h)) | simp_all)), (fun h => (by have h2 := hc3; have h3 := hfi; simp at h h2 ⊢; first | done | exact h2 h | exact Or.inr (h2 h) | simp [hdep] | (rcases h with h | h; · simp_all; · exact Or.inr (h2 h)) | simp_all)), (fun h => (by have h2 := hc4; have h3 := hfi; simp at h h2 ⊢; first | done | exact h2 h | exact Or.inr (h2 h) | simp [hdep] | (rcases h with h | h; · simp_all; · exact Or.inr (h2 h)) | simp_all))⟩
      · obtain rfl : x18 = .pointer (some ⟨b, 1, none⟩) := hD.get (P := fun v : Value => v = .pointer (some ⟨b, 1, none⟩)) 4 (by simp [hdep]) rfl rfl
        refine det_yes rfl ?_
        have HD := Lib.hid hD
        have HC := Lib.hid hC
        clear hD hC
        unfold Oper.wp
        go_simp
        exact hK _ _ ⟨_, _, _, _, _, _, _, _, _, _, _, _, _, _, y14, rfl, HD.out.step 5 rfl rfl, HC.out.other 5 (by decide), (fun h => (by have h2 := hc0; have h3 := hfi; simp at h h2 ⊢; first | done | exact h2 h | exact Or.inr (h2 h) | simp [hdep] | (rcases h with h | h; · simp_all; · exact Or.inr (h2 h)) | simp_all)), (fun h => (by have h2 := hc1; have h3 := hfi; simp at h h2 ⊢; first | done | exact h2 h | exact Or.inr (h2 h) | simp [hdep] | (rcases h with h | h; · simp_all; · exact Or.inr (h2 h)) | simp_all)), (fun h => (by have h2 := hc2; have h3 := hfi; simp at h h2 ⊢; first | done | exact h2 h | exact Or.inr (h2 h) | simp [hdep] | (rcases h with h | h; · simp_all; · exact Or.inr (h2 h)) | simp_all)), (fun h => (by have h2 := hc3; have h3 := hfi; simp at h h2 ⊢; first | done | exact h2 h | exact Or.inr (h2 h) | simp [hdep] | (rcases h with h | h; · simp_all; · exact Or.inr (h2 h)) | simp_all)), (fun h => (by have h2 := hc4; have h3 := hfi; simp at h h2 ⊢; first | done | exact h2 h | exact Or.inr (h2 h) | simp [hdep] | (rcases h with h | h; · simp_all; · exact Or.inr (h2 h)) | simp_all))⟩
      · obtain rfl : x19 = .pointer (some ⟨b, 2, none⟩) := hD.get (P := fun v : Value => v = .pointer (some ⟨b, 2, none⟩)) 5 (by simp [hdep]) rfl rfl
        have hn : dn 12 = false := by
          cases h : dn 12 with
          | false => rfl
          | true => have h := hc0 h; have h := hc1 h; have h := hc2 h; have h := hc3 h; rw [hfi] at h; cases h
        obtain ⟨j8, hj8, hW⟩ := hC.early 0 (by decide) hn
        obtain rfl : j8 = 0 := by omega
        have hu : u = w3.drew := hW
        subst hu
        refine det_yes rfl ?_
        have HD := Lib.hid hD
        have HC := Lib.hid hC
        clear hD hC
        unfold Oper.wp
        go_simp
        exact hK _ _ ⟨_, _, _, _, _, _, _, _, _, _, _, _, _, _, y14, rfl, HD.out.step 6 rfl rfl, HC.out.other 6 (by decide), (fun h => (by have h2 := hc0; have h3 := hfi; simp at h h2 ⊢; first | done | exact h2 h | exact Or.inr (h2 h) | simp [hdep] | (rcases h with h | h; · simp_all; · exact Or.inr (h2 h)) | simp_all)), (fun h => (by have h2 := hc1; have h3 := hfi; simp at h h2 ⊢; first | done | exact h2 h | exact Or.inr (h2 h) | simp [hdep] | (rcases h with h | h; · simp_all; · exact Or.inr (h2 h)) | simp_all)), (fun h => (by have h2 := hc2; have h3 := hfi; simp at h h2 ⊢; first | done | exact h2 h | exact Or.inr (h2 h) | simp [hdep] | (rcases h with h | h; · simp_all; · exact Or.inr (h2 h)) | simp_all)), (fun h => (by have h2 := hc3; have h3 := hfi; simp at h h2 ⊢; first | done | exact h2 h | exact Or.inr (h2 h) | simp [hdep] | (rcases h with h | h; · simp_all; · exact Or.inr (h2 h)) | simp_all)), (fun h => (by have h2 := hc4; have h3 := hfi; simp at h h2 ⊢; first | done | exact h2 h | exact Or.inr (h2 h) | simp [hdep] | (rcases h with h | h; · simp_all; · exact Or.inr (h2 h)) | simp_all))⟩
      · refine det_yes rfl ?_
        have HD := Lib.hid hD
        have HC := Lib.hid hC
        clear hD hC
        unfold Oper.wp
        go_simp
        exact hK _ _ ⟨_, _, _, _, _, _, _, _, _, _, _, _, _, _, y14, rfl, HD.out.step 7 rfl rfl, HC.out.other 7 (by decide), (fun h => (by have h2 := hc0; have h3 := hfi; simp at h h2 ⊢; first | done | exact h2 h | exact Or.inr (h2 h) | simp [hdep] | (rcases h with h | h; · simp_all; · exact Or.inr (h2 h)) | simp_all)), (fun h => (by have h2 := hc1; have h3 := hfi; simp at h h2 ⊢; first | done | exact h2 h | exact Or.inr (h2 h) | simp [hdep] | (rcases h with h | h; · simp_all; · exact Or.inr (h2 h)) | simp_all)), (fun h => (by have h2 := hc2; have h3 := hfi; simp at h h2 ⊢; first | done | exact h2 h | exact Or.inr (h2 h) | simp [hdep] | (rcases h with h | h; · simp_all; · exact Or.inr (h2 h)) | simp_all)), (fun h => (by have h2 := hc3; have h3 := hfi; simp at h h2 ⊢; first | done | exact h2 h | exact Or.inr (h2 h) | simp [hdep] | (rcases h with h | h; · simp_all; · exact Or.inr (h2 h)) | simp_all)), (fun h => (by have h2 := hc4; have h3 := hfi; simp at h h2 ⊢; first | done | exact h2 h | exact Or.inr (h2 h) | simp [hdep] | (rcases h with h | h; · simp_all; · exact Or.inr (h2 h)) | simp_all))⟩
      · obtain rfl : x21 = .pointer (some ⟨w.heap.size + 1, 0, none⟩) := hD.get (P := fun v : Value => v = .pointer (some ⟨w.heap.size + 1, 0, none⟩)) 7 (by simp [hdep]) rfl rfl
        have hn : dn 12 = false := by
          cases h : dn 12 with
          | false => rfl
          | true => have h := hc0 h; have h := hc1 h; have h := hc2 h; have h := hc4 h; rw [hfi] at h; cases h
        obtain ⟨j8, hj8, hW⟩ := hC.early 0 (by decide) hn
        obtain rfl : j8 = 0 := by omega
        have hu : u = w3.drew := hW
        subst hu
        refine det_yes rfl ?_
        have HD := Lib.hid hD
        have HC := Lib.hid hC
        clear hD hC
        unfold Oper.wp
        go_simp
        exact hK _ _ ⟨_, _, _, _, _, _, _, _, _, _, _, _, _, _, y14, rfl, HD.out.step 8 rfl rfl, HC.out.other 8 (by decide), (fun h => (by have h2 := hc0; have h3 := hfi; simp at h h2 ⊢; first | done | exact h2 h | exact Or.inr (h2 h) | simp [hdep] | (rcases h with h | h; · simp_all; · exact Or.inr (h2 h)) | simp_all)), (fun h => (by have h2 := hc1; have h3 := hfi; simp at h h2 ⊢; first | done | exact h2 h | exact Or.inr (h2 h) | simp [hdep] | (rcases h with h | h; · simp_all; · exact Or.inr (h2 h)) | simp_all)), (fun h => (by have h2 := hc2; have h3 := hfi; simp at h h2 ⊢; first | done | exact h2 h | exact Or.inr (h2 h) | simp [hdep] | (rcases h with h | h; · simp_all; · exact Or.inr (h2 h)) | simp_all)), (fun h => (by have h2 := hc3; have h3 := hfi; simp at h h2 ⊢; first | done | exact h2 h | exact Or.inr (h2 h) | simp [hdep] | (rcases h with h | h; · simp_all; · exact Or.inr (h2 h)) | simp_all)), (fun h => (by have h2 := hc4; have h3 := hfi; simp at h h2 ⊢; first | done | exact h2 h | exact Or.inr (h2 h) | simp [hdep] | (rcases h with h | h; · simp_all; · exact Or.inr (h2 h)) | simp_all))⟩
      · obtain rfl : x20 = .slice (some ⟨b4, off4, none⟩) y.ty.cos.length cap2 := hD.get (P := fun v : Value => v = .slice (some ⟨b4, off4, none⟩) y.ty.cos.length cap2) 6 (by simp [hdep]) rfl rfl
        obtain rfl : x22 = .int .i64 i := hD.get (P := fun v : Value => v = .int .i64 i) 8 (by simp [hdep]) rfl rfl
        refine det_yes rfl ?_
        have HD := Lib.hid hD
        have HC := Lib.hid hC
        clear hD hC
        unfold Oper.wp
        go_simp
        exact hK _ _ ⟨_, _, _, _, _, _, _, _, _, _, _, _, _, _, y14, rfl, HD.out.step 9 rfl rfl, HC.out.other 9 (by decide), (fun h => (by have h2 := hc0; have h3 := hfi; simp at h h2 ⊢; first | done | exact h2 h | exact Or.inr (h2 h) | simp [hdep] | (rcases h with h | h; · simp_all; · exact Or.inr (h2 h)) | simp_all)), (fun h => (by have h2 := hc1; have h3 := hfi; simp at h h2 ⊢; first | done | exact h2 h | exact Or.inr (h2 h) | simp [hdep] | (rcases h with h | h; · simp_all; · exact Or.inr (h2 h)) | simp_all)), (fun h => (by have h2 := hc2; have h3 := hfi; simp at h h2 ⊢; first | done | exact h2 h | exact Or.inr (h2 h) | simp [hdep] | (rcases h with h | h; · simp_all; · exact Or.inr (h2 h)) | simp_all)), (fun h => (by have h2 := hc3; have h3 := hfi; simp at h h2 ⊢; first | done | exact h2 h | exact Or.inr (h2 h) | simp [hdep] | (rcases h with h | h; · simp_all; · exact Or.inr (h2 h)) | simp_all)), (fun h => (by have h2 := hc4; have h3 := hfi; simp at h h2 ⊢; first | done | exact h2 h | exact Or.inr (h2 h) | simp [hdep] | (rcases h with h | h; · simp_all; · exact Or.inr (h2 h)) | simp_all))⟩
      · obtain rfl : x23 = .pointer (some ⟨b4, off4 + i * 3, none⟩) := hD.get (P := fun v : Value => v = .pointer (some ⟨b4, off4 + i * 3, none⟩)) 9 (by simp [hdep]) rfl rfl
        refine det_yes rfl ?_
        have HD := Lib.hid hD
        have HC := Lib.hid hC
        clear hD hC
        unfold Oper.wp
        go_simp
        exact hK _ _ ⟨_, _, _, _, _, _, _, _, _, _, _, _, _, _, y14, rfl, HD.out.step 10 rfl rfl, HC.out.other 10 (by decide), (fun h => (by have h2 := hc0; have h3 := hfi; simp at h h2 ⊢; first | done | exact h2 h | exact Or.inr (h2 h) | simp [hdep] | (rcases h with h | h; · simp_all; · exact Or.inr (h2 h)) | simp_all)), (fun h => (by have h2 := hc1; have h3 := hfi; simp at h h2 ⊢; first | done | exact h2 h | exact Or.inr (h2 h) | simp [hdep] | (rcases h with h | h; · simp_all; · exact Or.inr (h2 h)) | simp_all)), (fun h => (by have h2 := hc2; have h3 := hfi; simp at h h2 ⊢; first | done | exact h2 h | exact Or.inr (h2 h) | simp [hdep] | (rcases h with h | h; · simp_all; · exact Or.inr (h2 h)) | simp_all)), (fun h => (by have h2 := hc3; have h3 := hfi; simp at h h2 ⊢; first | done | exact h2 h | exact Or.inr (h2 h) | simp [hdep] | (rcases h with h | h; · simp_all; · exact Or.inr (h2 h)) | simp_all)), (fun h => (by have h2 := hc4; have h3 := hfi; simp at h h2 ⊢; first | done | exact h2 h | exact Or.inr (h2 h) | simp [hdep] | (rcases h with h | h; · simp_all; · exact Or.inr (h2 h)) | simp_all))⟩
      · obtain rfl : x24 = .pointer (some ⟨b4, off4 + i * 3, none⟩) := hD.get (P := fun v : Value => v = .pointer (some ⟨b4, off4 + i * 3, none⟩)) 10 (by simp [hdep]) rfl rfl
        have hn : dn 12 = false := by
          cases h : dn 12 with
          | false => rfl
          | true => have h := hc0 h; rw [hfi] at h; cases h
        obtain ⟨j8, hj8, hW⟩ := hC.early 0 (by decide) hn
        obtain rfl : j8 = 0 := by omega
        have hu : u = w3.drew := hW
        subst hu
        refine det_yes rfl ?_
        have HD := Lib.hid hD
        have HC := Lib.hid hC
        clear hD hC
        unfold Oper.wp
        go_simp
        exact hK _ _ ⟨_, _, _, _, _, _, _, _, _, _, _, _, _, _, y14, rfl, HD.out.step 11 rfl rfl, HC.out.other 11 (by decide), (fun h => (by have h2 := hc0; have h3 := hfi; simp at h h2 ⊢; first | done | exact h2 h | exact Or.inr (h2 h) | simp [hdep] | (rcases h with h | h; · simp_all; · exact Or.inr (h2 h)) | simp_all)), (fun h => (by have h2 := hc1; have h3 := hfi; simp at h h2 ⊢; first | done | exact h2 h | exact Or.inr (h2 h) | simp [hdep] | (rcases h with h | h; · simp_all; · exact Or.inr (h2 h)) | simp_all)), (fun h => (by have h2 := hc2; have h3 := hfi; simp at h h2 ⊢; first | done | exact h2 h | exact Or.inr (h2 h) | simp [hdep] | (rcases h with h | h; · simp_all; · exact Or.inr (h2 h)) | simp_all)), (fun h => (by have h2 := hc3; have h3 := hfi; simp at h h2 ⊢; first | done | exact h2 h | exact Or.inr (h2 h) | simp [hdep] | (rcases h with h | h; · simp_all; · exact Or.inr (h2 h)) | simp_all)), (fun h => (by have h2 := hc4; have h3 := hfi; simp at h h2 ⊢; first | done | exact h2 h | exact Or.inr (h2 h) | simp [hdep] | (rcases h with h | h; · simp_all; · exact Or.inr (h2 h)) | simp_all))⟩
      · obtain rfl : x14 = .pointer (some ⟨b, 0, none⟩) := hD.get (P := fun v : Value => v = .pointer (some ⟨b, 0, none⟩)) 0 (by simp [hdep]) rfl rfl
        obtain rfl : x25 = .int .i64 y.ty.cos[i].src := hD.get (P := fun v : Value => v = .int .i64 y.ty.cos[i].src) 11 (by simp [hdep]) rfl rfl
        have hW := hC.at_ 0 (by decide) hfi (by intro j9 e9 _; omega)
        refine det_yes rfl ?_
        have HD := Lib.hid hD
        have HC := Lib.hid hC
        clear hD hC
        have hu : u = w3.drew := hW
        subst hu
        clear hW
        unfold Oper.wp
        go_simp
        refine (madeOf_any lo hi n a _ _ _ y b f HI.out y.ty.cos[i].src r1 w3.drew HM3d.out (by omega) (by omega)).mono ?_
        rintro e u2 ⟨⟨m, r, v, hm, hok, rfl, hno, hmr⟩ | ⟨hm, rfl⟩, hk⟩
        · have HW2 : WCo w3.drew (CoFact lo hi n a sv (.slice (some ⟨b4, off4, none⟩) y.ty.cos.length cap2) fv y b (rdOf (rdMk y f) y y.ty.cos[i].src r1) w3.drew) ⟨w.heap.size + 1, 1, none⟩ v 1 u2 := ⟨m, r, hm, hok, hno, hmr, hk⟩
          exact hK _ _ ⟨_, _, _, _, _, _, _, _, _, _, _, _, _, _, y14, rfl, HD.out.step 12 rfl (by trivial), HC.out.next 0 (by decide) hfi (by intro j9 e9 _; omega) (by decide) HW2, (fun h => (by have h2 := hc0; have h3 := hfi; simp at h h2 ⊢; first | done | exact h2 h | exact Or.inr (h2 h) | simp [hdep] | (rcases h with h | h; · simp_all; · exact Or.inr (h2 h)) | simp_all)), (fun h => (by have h2 := hc1; have h3 := hfi; simp at h h2 ⊢; first | done | exact h2 h | exact Or.inr (h2 h) | simp [hdep] | (rcases h with h | h; · simp_all; · exact Or.inr (h2 h)) | simp_all)), (fun h => (by have h2 := hc2; have h3 := hfi; simp at h h2 ⊢; first | done | exact h2 h | exact Or.inr (h2 h) | simp [hdep] | (rcases h with h | h; · simp_all; · exact Or.inr (h2 h)) | simp_all)), (fun h => (by have h2 := hc3; have h3 := hfi; simp at h h2 ⊢; first | done | exact h2 h | exact Or.inr (h2 h) | simp [hdep] | (rcases h with h | h; · simp_all; · exact Or.inr (h2 h)) | simp_all)), (fun h => (by have h2 := hc4; have h3 := hfi; simp at h h2 ⊢; first | done | exact h2 h | exact Or.inr (h2 h) | simp [hdep] | (rcases h with h | h; · simp_all; · exact Or.inr (h2 h)) | simp_all))⟩
        · have hno : rdCoM (rdMk y f) y l = none := by rw [hco1.out, hm]; rfl
          have hk9 : Keep b w3 u2 := ⟨⟨hk.grown.os, hk.grown.tape, hk.grown.output, hk.grown.size, hk.grown.block⟩⟩
          have HF := Lib.hid (And.intro hno (HK3.out.trans hk9))
          clear hno hk9 hm hk HD HC
          go_wp2
          exact ⟨rfl, .inr ⟨HF.out.1, rfl⟩, HF.out.2⟩
      · refine det_yes rfl ?_
        have HD := Lib.hid hD
        have HC := Lib.hid hC
        clear hD hC
        unfold Oper.wp
        go_simp
        exact hK _ _ ⟨_, _, _, _, _, _, _, _, _, _, _, _, _, _, y14, rfl, HD.out.step 13 rfl rfl, HC.out.other 13 (by decide), (fun h => (by have h2 := hc0; have h3 := hfi; simp at h h2 ⊢; first | done | exact h2 h | exact Or.inr (h2 h) | simp [hdep] | (rcases h with h | h; · simp_all; · exact Or.inr (h2 h)) | simp_all)), (fun h => (by have h2 := hc1; have h3 := hfi; simp at h h2 ⊢; first | done | exact h2 h | exact Or.inr (h2 h) | simp [hdep] | (rcases h with h | h; · simp_all; · exact Or.inr (h2 h)) | simp_all)), (fun h => (by have h2 := hc2; have h3 := hfi; simp at h h2 ⊢; first | done | exact h2 h | exact Or.inr (h2 h) | simp [hdep] | (rcases h with h | h; · simp_all; · exact Or.inr (h2 h)) | simp_all)), (fun h => (by have h2 := hc3; have h3 := hfi; simp at h h2 ⊢; first | done | exact h2 h | exact Or.inr (h2 h) | simp [hdep] | (rcases h with h | h; · simp_all; · exact Or.inr (h2 h)) | simp_all)), (fun h => (by have h2 := hc4; have h3 := hfi; simp at h h2 ⊢; first | done | exact h2 h | exact Or.inr (h2 h) | simp [hdep] | (rcases h with h | h; · simp_all; · exact Or.inr (h2 h)) | simp_all))⟩
      · obtain rfl : x27 = .pointer (some ⟨w.heap.size + 1, 1, none⟩) := hD.get (P := fun v : Value => v = .pointer (some ⟨w.heap.size + 1, 1, none⟩)) 13 (by simp [hdep]) rfl rfl
        have hW := hC.at_ 1 (by decide) hfi (by intro j9 e9 _; have f9 : j9 = 0 := (by omega); subst f9; simp [hdep])
        refine det_yes rfl ?_
        have HD := Lib.hid hD
        have HC := Lib.hid hC
        clear hD hC
        obtain ⟨m, r, hm, hok, hno, hmr, hk⟩ := hW
        obtain ⟨T, x, rfl⟩ := hno.form
        have hrw : Row u (w.heap.size + 1) 193 [.int .i64 i, .nilIface] := Row.kept' (show Row w3.drew _ _ _ from V3.out) hk hneb
        have q1 := hrw.cell 1
        have g1 := hrw.frozen 1
        simp only [List.getElem?_cons_zero, List.getElem?_cons_succ] at q1
        have HW2 : WCo w3.drew (CoFact lo hi n a sv (.slice (some ⟨b4, off4, none⟩) y.ty.cos.length cap2) fv y b (rdOf (rdMk y f) y y.ty.cos[i].src r1) w3.drew) ⟨w.heap.size + 1, 1, none⟩ (.iface T x) 2 (u.setCell ⟨w.heap.size + 1, 1, none⟩ (.iface T x)) := ⟨u, ⟨m, r, hm, hok, hno, hmr, hk⟩, rfl⟩
        have HWW := Lib.hid HW2
        clear HW2 hm hok hno hmr hk hrw
        unfold Oper.wp
        go_simp
        have HW2 := HWW.out
        exact hK _ _ ⟨_, _, _, _, _, _, _, _, _, _, _, _, _, _, .bool true, rfl, HD.out.step 14 rfl (by trivial), HC.out.next 1 (by decide) hfi (by intro j9 e9 _; have f9 : j9 = 0 := (by omega); subst f9; simp [hdep]) (by decide) HW2, (fun h => (by have h2 := hc0; have h3 := hfi; simp at h h2 ⊢; first | done | exact h2 h | exact Or.inr (h2 h) | simp [hdep] | (rcases h with h | h; · simp_all; · exact Or.inr (h2 h)) | simp_all)), (fun h => (by have h2 := hc1; have h3 := hfi; simp at h h2 ⊢; first | done | exact h2 h | exact Or.inr (h2 h) | simp [hdep] | (rcases h with h | h; · simp_all; · exact Or.inr (h2 h)) | simp_all)), (fun h => (by have h2 := hc2; have h3 := hfi; simp at h h2 ⊢; first | done | exact h2 h | exact Or.inr (h2 h) | simp [hdep] | (rcases h with h | h; · simp_all; · exact Or.inr (h2 h)) | simp_all)), (fun h => (by have h2 := hc3; have h3 := hfi; simp at h h2 ⊢; first | done | exact h2 h | exact Or.inr (h2 h) | simp [hdep] | (rcases h with h | h; · simp_all; · exact Or.inr (h2 h)) | simp_all)), (fun h => (by have h2 := hc4; have h3 := hfi; simp at h h2 ⊢; first | done | exact h2 h | exact Or.inr (h2 h) | simp [hdep] | (rcases h with h | h; · simp_all; · exact Or.inr (h2 h)) | simp_all))⟩
    · rintro dn ac u hall ⟨x14, x15, x16, x17, x18, x19, x20, x21, x22, x23, x24, x25, x26, x27, y14, rfl, hD, hC, hc0, hc1, hc2, hc3, hc4⟩
      obtain rfl : x14 = .pointer (some ⟨b, 0, none⟩) := hD.get (P := fun v : Value => v = .pointer (some ⟨b, 0, none⟩)) 0 (hall 0 (by decide)) rfl rfl
      obtain rfl : x15 = .pointer (some ⟨b, 0, none⟩) := hD.get (P := fun v : Value => v = .pointer (some ⟨b, 0, none⟩)) 1 (hall 1 (by decide)) rfl rfl
      obtain rfl : x16 = .pointer (some ⟨b, 0, none⟩) := hD.get (P := fun v : Value => v = .pointer (some ⟨b, 0, none⟩)) 2 (hall 2 (by decide)) rfl rfl
      obtain rfl : x17 = .pointer (some ⟨b, 1, none⟩) := hD.get (P := fun v : Value => v = .pointer (some ⟨b, 1, none⟩)) 3 (hall 3 (by decide)) rfl rfl
      obtain rfl : x18 = .pointer (some ⟨b, 1, none⟩) := hD.get (P := fun v : Value => v = .pointer (some ⟨b, 1, none⟩)) 4 (hall 4 (by decide)) rfl rfl
      obtain rfl : x19 = .pointer (some ⟨b, 2, none⟩) := hD.get (P := fun v : Value => v = .pointer (some ⟨b, 2, none⟩)) 5 (hall 5 (by decide)) rfl rfl
      obtain rfl : x20 = .slice (some ⟨b4, off4, none⟩) y.ty.cos.length cap2 := hD.get (P := fun v : Value => v = .slice (some ⟨b4, off4, none⟩) y.ty.cos.length cap2) 6 (hall 6 (by decide)) rfl rfl
      obtain rfl : x21 = .pointer (some ⟨w.heap.size + 1, 0, none⟩) := hD.get (P := fun v : Value => v = .pointer (some ⟨w.heap.size + 1, 0, none⟩)) 7 (hall 7 (by decide)) rfl rfl
      obtain rfl : x22 = .int .i64 i := hD.get (P := fun v : Value => v = .int .i64 i) 8 (hall 8 (by decide)) rfl rfl
      obtain rfl : x23 = .pointer (some ⟨b4, off4 + i * 3, none⟩) := hD.get (P := fun v : Value => v = .pointer (some ⟨b4, off4 + i * 3, none⟩)) 9 (hall 9 (by decide)) rfl rfl
      obtain rfl : x24 = .pointer (some ⟨b4, off4 + i * 3, none⟩) := hD.get (P := fun v : Value => v = .pointer (some ⟨b4, off4 + i * 3, none⟩)) 10 (hall 10 (by decide)) rfl rfl
      obtain rfl : x25 = .int .i64 y.ty.cos[i].src := hD.get (P := fun v : Value => v = .int .i64 y.ty.cos[i].src) 11 (hall 11 (by decide)) rfl rfl
      obtain rfl : x27 = .pointer (some ⟨w.heap.size + 1, 1, none⟩) := hD.get (P := fun v : Value => v = .pointer (some ⟨w.heap.size + 1, 1, none⟩)) 13 (hall 13 (by decide)) rfl rfl
      have hW := hC.all (by intro j9 h9; exact hall _ (by revert j9; decide))
      clear hall hD hC hc0 hc1 hc2 hc3 hc4
      obtain ⟨u0, ⟨m, r, hm, hok, hno, hmr, hk⟩, hu⟩ := hW
      obtain ⟨T, x, rfl⟩ := hno.form
      have hk9 : Keep b w3 u0 := ⟨⟨hk.grown.os, hk.grown.tape, hk.grown.output, hk.grown.size, hk.grown.block⟩⟩
      have hs0 : w3.heap.size ≤ u0.heap.size := hk9.size
      have HMu : Hid (Mr lo hi n a sv (.slice (some ⟨b4, off4, none⟩) y.ty.cos.length cap2) fv y b r u) := by rw [hu]; exact hmr.seto (p := ⟨w.heap.size + 1, 1, none⟩) (by show b < w.heap.size + 1; omega) _
      have HKu : Hid (Keep b w u) := by rw [hu]; exact (HK3.out.trans hk9).seto' (by show w.heap.size ≤ w.heap.size + 1; omega) _
      have Vu : Hid (Row u (w.heap.size + 1) 193 [.int .i64 i, .iface T x]) := by rw [hu]; exact (Row.kept' V3.out hk9 hneb).set_ 1 _
      have Ru : Hid (Row u w.heap.size 193 [.int .i64 0, .nilIface]) := by rw [hu]; exact (Row.kept' R3.out hk9 (by omega)).far (by show w.heap.size ≠ w.heap.size + 1; omega) _
      have HNu : Hid (MNodeAt u w3.heap.size m (.iface T x)) := by rw [hu]; exact MNodeAt.same (fun g hg _ => Below.heap_setCell _ _ _ _ (by show g ≠ w.heap.size + 1; have : w3.heap.size ≤ g := hg; omega)) hno
      have HOK := Lib.hid hok
      have hco2 : Hid (rdCoM (rdMk y f) y l = (rdTake 41 r).map fun r => (.co i m, r)) := by show _ = _; rw [hco1.out, hm]; rfl
      have hkm : kindM y m = (y.ty.cos.getD i default).src := by rw [getD_get hif]; exact (rdOf_eq hm).2
      have Hkm := Lib.hid hkm
      have hlr : r.length ≤ r1.length := by have h := rdMk_len hy (rdOf_eq hm).1; omega
      have hi9 : i ≤ 9 := hi9'
      clear hm hok hno hmr hk hk9 hu hkm e2 e0 es l0 HM3 HM3d V3 R3 HK3 hco1
      go_wp2_with fail
      cases htk : rdTake 41 r with
      | none =>
        have hno : Hid (rdCoM (rdMk y f) y l = none) := by show _ = _; rw [hco2.out, htk]; rfl
        refine (takeM_no b r 41 41 rfl htk n a u HMu.out.row HMu.out.ev).mono ?_
        clear htk hco2
        rintro e w4 ⟨rfl, rfl⟩
        go_wp2
        exact ⟨rfl, .inr ⟨hno.out, rfl⟩, HKu.out⟩
      | some r2 =>
        have hfin : Hid (rdCoM (rdMk y f) y l = some (.co i m, r2)) := by show _ = _; rw [hco2.out, htk]; rfl
        refine (takeM_yes b r r2 41 41 rfl htk u HMu.out.row (by omega)).mono ?_
        clear htk hco2
        rintro e w4 ⟨rfl, hk4, ht4⟩
        have HM4 := Lib.hid (HMu.out.go hk4 ht4)
        have HK4 := Lib.hid (HKu.out.trans hk4)
        have R4 := Lib.hid (Row.kept' Ru.out hk4 (by omega))
        have V4 := Lib.hid (Row.kept' Vu.out hk4 (by omega))
        have HN4 : Hid (MNodeAt w4 w3.heap.size m (.iface T x)) := HNu.out.same fun g hg hw => hk4.block hw (by omega)
        have m0 := V4.out.cell 0
        have m1 := V4.out.cell 1
        have p0 := R4.out.cell 0
        have p1 := R4.out.cell 1
        have f0 := R4.out.frozen 0
        have f1 := R4.out.frozen 1
        simp only [List.getElem?_cons_zero, List.getElem?_cons_succ] at m0 m1 p0 p1
        clear hk4 ht4 HMu HKu Ru Vu HNu
        go_wp2
        obtain ⟨u5, hu5⟩ : ∃ u, u = (w4.setCell ⟨w.heap.size, 0, none⟩ (.int .i64 i)).setCell ⟨w.heap.size, 1, none⟩ (.iface T x) := ⟨_, rfl⟩
        rw [← hu5]
        have R6 : Hid (Row u5 w.heap.size 193 [.int .i64 i, .iface T x]) := by rw [hu5]; exact (R4.out.set_ 0 _).set_ 1 _
        have HK5 : Hid (Keep b w u5) := by rw [hu5]; exact (HK4.out.seto' (Nat.le_refl _) _).seto' (Nat.le_refl _) _
        have HM5 : Hid (Mr lo hi n a sv (.slice (some ⟨b4, off4, none⟩) y.ty.cos.length cap2) fv y b r2 u5) := by rw [hu5]; exact (HM4.out.seto (p := ⟨w.heap.size, 0, none⟩) hblt _).seto (p := ⟨w.heap.size, 1, none⟩) hblt _
        have HN5 : Hid (MNodeAt u5 w3.heap.size m (.iface T x)) := by
          rw [hu5]
          exact MNodeAt.same (fun g hg _ => Below.heap_setCell _ _ _ _ (by show g ≠ w.heap.size; have : w3.heap.size ≤ g := hg; omega)) (MNodeAt.same (fun g hg _ => Below.heap_setCell _ _ _ _ (by show g ≠ w.heap.size; have : w3.heap.size ≤ g := hg; omega)) HN4.out)
        have d0 := R6.out.cell 0
        have d1 := R6.out.cell 1
        simp only [List.getElem?_cons_zero, List.getElem?_cons_succ] at d0 d1
        clear hu5
        refine bodyPost_ret (v := .agg #[.int .i64 i, .iface T x]) (by simp [results, Tryz.results132, go_sem, d0, d1]) rfl ?_
        exact ⟨.inl ⟨.co i m, r2, _, hfin.out, ⟨hif, hi9, HOK.out, Hkm.out⟩, rfl, ⟨.iface T x, rfl, HN5.out.base (by omega)⟩, HM5.out⟩, HK5.out⟩
  · have hno : Hid (rdCoM (rdMk y f) y l = none) := by show _ = _; unfold rdCoM; rw [hop]; rfl
    have HK2 := Lib.hid (HK1.out.trans hk2)
    clear hop hk2 HM1 HK1 R1 V1
    go_wp2
    exact ⟨rfl, .inr ⟨hno.out, rfl⟩, HK2.out⟩
end Go.Proofs.YtdemcoghgnnheaaGreatDoor

