/-
  FnExactResolveCall: the walk of the law.
  Proved here: FnExactResolveCall returns true for all arguments, each argument reads afterwards as it read before, and so do the package's two errors, which are tied to the program's text.
  Conditions: those of the given card alone.
-/
import Derived.Test.YtbblhjdcpmahkaaGreatDoorK1
import Derived.Test.YtbblhjdcpmahkaaGreatDoorK11
import Derived.Test.YtbblhjdcpmahkaaGreatDoorK10
import Derived.Deep.RegionHeld3
import Derived.Test.YtbblhjdcpmahkaaGreatDoorTie
import Derived.Test.YtbblhjdcpmahkaaGreatDoorCards
import Derived.Carry
import Derived.JoinedOf
import Derived.SevenTiedAt
namespace Go.Proofs.YtbblhjdcpmahkaaGreatDoor
open Go.RowKit

set_option maxRecDepth 100000 in
set_option maxHeartbeats 4000000 in
theorem lawRes_walk (sv cv fv rv : Value) (t : Sy) (nm : ByteArray) (zs : List Int) (n : Nat) (a0 a1 : Addr) (w : World) (hv : SyAt w 0 w.heap.size sv cv fv t) (hr : IntsAt w 0 w.heap.size rv zs) (hnm : nm.size ≤ maxLen) (hE : Errs w n a0 a1) (hnw : n ≤ w.heap.size) :
    Calls Tryz.prog 3 #[.agg #[sv, cv, fv], .string nm, rv] w fun e w' => e = .returned (.bool true) ∧ Below w.heap.size w w' := by
  obtain ⟨A, cap, rfl, hl1, hm1, _⟩ := hv.1.1.form
  obtain ⟨B, bap, rfl, hl2, hm2, _⟩ := hv.1.2.form
  obtain ⟨F, fap, rfl, hlf, hmf, _⟩ := hv.2.form
  obtain ⟨R, rap, rfl, hl3, hm3, _⟩ := hr.form
  unfold maxLen at hm3
  clear hl1 hm1 hl2 hm2 hlf hmf
  have Hv := Lib.hid hv
  have Hr := Lib.hid hr
  have Hwf := Lib.hid (IntsAt.wfi hr)
  clear hv hr
  have h1 : Below (w.heap.size + 1) (w.alloc (.cells #[.slice A t.ty.sizes.length cap, .slice B t.ty.cos.length bap, .slice F t.fs.length fap] 28)) (w.alloc (.cells #[.slice A t.ty.sizes.length cap, .slice B t.ty.cos.length bap, .slice F t.fs.length fap] 28)) := Below.refl _ _
  have H1 := Lib.hid h1
  clear h1
  have Hnm := Lib.hid hnm
  have HE := Lib.hid hE
  clear hE
  by_cases hz0 : 1048576 < nm.size
  · go_enter Tryz.func3, Tryz.ntmps3
    unfold maxLen at hnm
    go_wp2
    go_ret
    exact ⟨rfl, (box3 H1.out).2.2.2.2⟩
  have hnl : nm.size ≤ 1048576 := by omega
  clear hz0 hnm
  by_cases hz : 1048576 < zs.length
  · go_enter Tryz.func3, Tryz.ntmps3
    go_wp2
    go_ret
    exact ⟨rfl, (box3 H1.out).2.2.2.2⟩
  have hzl : zs.length ≤ 1048576 := by omega
  clear hz
  go_enter Tryz.func3, Tryz.ntmps3
  go_wp2_with fail
  refine (szSystem_any 0 w.heap.size _ _ _ t 1048576 _ (by omega) (by omega) (Hv.out.below (box3 H1.out).2.2.2.2 (Nat.le_refl _)) (by simp)).mono ?_
  rintro e w2 ⟨rfl, hb2⟩
  have H2 := Lib.hid (H1.out.trans (hb2.mono (by simp)))
  obtain ⟨q0, q1, q2, hl2, _⟩ := box3 H2.out
  clear hb2
  by_cases hbig : (1048576 : Int) - t.bulk < 0
  · rw [subI_neg hbig]
    go_wp2
    go_ret
    exact ⟨rfl, (box3 H2.out).2.2.2.2⟩
  · rw [subI_pos hbig]
    have hbk : Hid (t.bulk ≤ 1048576) := by show t.bulk ≤ 1048576; omega
    go_wp2_with fail
    refine (toSystem_any 0 w.heap.size _ _ _ t _ (Hv.out.below (box3 H2.out).2.2.2.2 (Nat.le_refl _)) (by omega) hbk.out).mono ?_
    rintro e w3 ⟨rfl, hb3, hs3, hn3⟩
    have H3 := Lib.hid (H2.out.trans (hb3.mono (by omega)))
    have hat := Lib.hid (hn3.at_ Hv.out.fits hbk.out)
    have hl3' := (box3 H3.out).2.2.2.1
    clear hb3 hn3 q0 q1 q2
    have Hs3 := Lib.hid hs3
    clear hs3
    go_wp2_with fail
    refine (toIntS_any 0 w.heap.size _ zs _ (Hr.out.below (box3 H3.out).2.2.2.2 (Nat.le_refl _)) (by omega) hzl).mono ?_
    rintro e w3b ⟨rfl, hb3b, hs3b, hr3b⟩
    have H3b := Lib.hid (H3.out.trans (hb3b.mono (by omega)))
    have hatb := Lib.hid (hat.out.below hb3b (by have := Hs3.out; omega))
    have hib := Lib.hid (hr3b.ints (lo := w3.heap.size) (hi := w3.heap.size + 1) (cap := zs.length) Hwf.out (Nat.le_refl _) (by omega) (Nat.le_refl _) (by unfold maxLen; omega))
    clear hb3b hr3b hat
    go_wp2_with fail
    refine (specResolve_any _ _ _ _ _ _ _ _ t nm zs _ hatb.out hib.out (by have := Hs3.out; omega) (by omega) hbk.out).mono ?_
    rintro e w4 ⟨rfl, hb4⟩
    have H4 := Lib.hid (H3b.out.trans (hb4.mono (by omega)))
    obtain ⟨q0, q1, q2, hl4, _⟩ := box3 H4.out
    clear hb4 hatb hib Hs3 hs3b hl3'
    go_wp2_with fail
    refine (toSystem_any 0 w.heap.size _ _ _ t _ (Hv.out.below (box3 H4.out).2.2.2.2 (Nat.le_refl _)) (by omega) hbk.out).mono ?_
    rintro e w5 ⟨rfl, hb5, hs5, hn5⟩
    have H5 := Lib.hid (H4.out.trans (hb5.mono (by omega)))
    have hat := Lib.hid (hn5.at_ Hv.out.fits hbk.out)
    obtain ⟨_, _, _, hl5, _⟩ := box3 H5.out
    clear hb5 hn5 q0 q1 q2
    have Hs5 := Lib.hid hs5
    clear hs5
    go_wp2_with fail
    have hb50 : Below w5.heap.size w5 (w5.alloc (.cells #[.slice (some ⟨w4.heap.size + 6, 0, none⟩) t.ty.sizes.length t.ty.sizes.length, .slice (some ⟨w4.heap.size + 7, 0, none⟩) t.ty.cos.length t.ty.cos.length, .slice (some ⟨w4.heap.size + 8 + 4 * t.ty.cos.length, 0, none⟩) t.fs.length t.fs.length] 37)) := (Below.refl _ _).alloc (Nat.le_refl _) _
    have Hb50 := Lib.hid hb50
    clear hb50
    refine (toIntS_any 0 w.heap.size _ zs _ (Hr.out.below (((box3 H5.out).2.2.2.2).trans (Hb50.out.mono (by omega))) (Nat.le_refl _)) (by simp only [World.size_alloc]; omega) hzl).mono ?_
    rintro e w6 ⟨rfl, hb6, hs6, hr6⟩
    simp only [World.size_alloc] at hb6 hs6 hr6
    have hx6 : Below (w5.heap.size + 1) (w5.alloc (.cells #[.slice (some ⟨w4.heap.size + 6, 0, none⟩) t.ty.sizes.length t.ty.sizes.length, .slice (some ⟨w4.heap.size + 7, 0, none⟩) t.ty.cos.length t.ty.cos.length, .slice (some ⟨w4.heap.size + 8 + 4 * t.ty.cos.length, 0, none⟩) t.fs.length t.fs.length] 37)) w6 := hb6
    have Hx6 := Lib.hid hx6
    obtain ⟨x0, x1, x2, hl65, hb56⟩ := box3 hx6
    have H6 := Lib.hid ((H5.out.alloc (by omega) _).trans (hb6.mono (by omega)))
    obtain ⟨q0, q1, q2, hl6, _⟩ := box3 H6.out
    have hat6 := Lib.hid (hat.out.below hb56 (by have := Hs5.out; omega))
    have hi6 := Lib.hid (hr6.ints (lo := w5.heap.size + 1) (hi := w5.heap.size + 2) (cap := zs.length) Hwf.out (Nat.le_refl _) (by omega) (Nat.le_refl _) (by unfold maxLen; omega))
    clear hb6 hx6 hr6 hat hb56
    go_wp2_with fail
    refine (implResolve_any _ _ _ _ n _ _ _ _ t nm zs a0 a1 _ hat6.out hi6.out (by have := Hs5.out; omega) (by omega) hbk.out Hnm.out (HE.out.below (box3 H6.out).2.2.2.2 hnw) (by omega)).mono ?_
    rintro e w7 ⟨rfl, hb7⟩
    have Hx7 := Lib.hid (Hx6.out.trans (hb7.mono (by omega)))
    have H7 := Lib.hid (H6.out.trans (hb7.mono (by omega)))
    have hat7 := Lib.hid (hat6.out.below hb7 (by have := Hs5.out; omega))
    have hi7 := Lib.hid (hi6.out.below hb7 (by omega))
    have hs7 : w6.heap.size ≤ w7.heap.size := hb7.size
    clear hb7 hat6 hi6 x0 x1 x2 q0 q1 q2
    obtain ⟨q0, q1, q2, hl7, _⟩ := box3 H7.out
    obtain ⟨x0, x1, x2, hl75, _⟩ := box3 Hx7.out
    have hbne : (pickI (ltB t) (applicV t nm zs) != pickI (ltB t) (applicV t nm zs)) = false := by simp
    go_wp2_with fail
    have H7d : Hid (Below (w.heap.size + 1) (w.alloc (.cells #[.slice A t.ty.sizes.length cap, .slice B t.ty.cos.length bap, .slice F t.fs.length fap] 28)) w7.drew) := H7.out.drew
    have hat7d : Hid (SyAt w7.drew _ _ _ _ _ t) := hat7.out
    have hi7d : Hid (IntsAt w7.drew _ _ _ zs) := hi7.out
    have k7 : w7.drew.cell? ⟨w.heap.size, 0, none⟩ = some (.slice A t.ty.sizes.length cap) ∧ w7.drew.cell? ⟨w.heap.size, 1, none⟩ = some (.slice B t.ty.cos.length bap) ∧ w7.drew.cell? ⟨w.heap.size, 2, none⟩ = some (.slice F t.fs.length fap) ∧ w7.drew.cell? ⟨w5.heap.size, 0, none⟩ = some (.slice (some ⟨w4.heap.size + 6, 0, none⟩) t.ty.sizes.length t.ty.sizes.length) ∧ w7.drew.cell? ⟨w5.heap.size, 1, none⟩ = some (.slice (some ⟨w4.heap.size + 7, 0, none⟩) t.ty.cos.length t.ty.cos.length) ∧ w7.drew.cell? ⟨w5.heap.size, 2, none⟩ = some (.slice (some ⟨w4.heap.size + 8 + 4 * t.ty.cos.length, 0, none⟩) t.fs.length t.fs.length) := ⟨q0, q1, q2, x0, x1, x2⟩
    have K7 := Lib.hid k7
    clear k7
    go_region_held3 (fun w' => w'.cell? ⟨w.heap.size, 0, none⟩ = some (.slice A t.ty.sizes.length cap) ∧ w'.cell? ⟨w.heap.size, 1, none⟩ = some (.slice B t.ty.cos.length bap) ∧ w'.cell? ⟨w.heap.size, 2, none⟩ = some (.slice F t.fs.length fap) ∧ w'.cell? ⟨w5.heap.size, 0, none⟩ = some (.slice (some ⟨w4.heap.size + 6, 0, none⟩) t.ty.sizes.length t.ty.sizes.length) ∧ w'.cell? ⟨w5.heap.size, 1, none⟩ = some (.slice (some ⟨w4.heap.size + 7, 0, none⟩) t.ty.cos.length t.ty.cos.length) ∧ w'.cell? ⟨w5.heap.size, 2, none⟩ = some (.slice (some ⟨w4.heap.size + 8 + 4 * t.ty.cos.length, 0, none⟩) t.fs.length t.fs.length))
      (first | exact K7.out | exact K8.out | exact K9.out)
      (first
        | (go_at_call 8
           refine (toSystem_any 0 w.heap.size _ _ _ t w7.drew (Hv.out.below (box3 H7d.out).2.2.2.2 (Nat.le_refl _)) (Nat.le_of_lt (box3 H7d.out).2.2.2.1) hbk.out).mono ?_
           rintro e w8 ⟨rfl, hb8, hs8, hn8⟩
           have H8 := Lib.hid (H7d.out.trans (hb8.mono (box3 H7d.out).2.2.2.1))
           have hat8 := Lib.hid (hn8.at_ Hv.out.fits hbk.out)
           have hat78 := Lib.hid (hat7d.out.below hb8 (by have := Hs5.out; show _ ≤ w7.heap.size; omega))
           have hi8 := Lib.hid (hi7d.out.below hb8 (by show _ ≤ w7.heap.size; omega))
           have Hs8 := Lib.hid hs8
           have hb8s := hb8.size
           have hb78 : w7.heap.size ≤ w8.heap.size := hb8s
           have K8 : Hid (w8.cell? ⟨w.heap.size, 0, none⟩ = some (.slice A t.ty.sizes.length cap) ∧ w8.cell? ⟨w.heap.size, 1, none⟩ = some (.slice B t.ty.cos.length bap) ∧ w8.cell? ⟨w.heap.size, 2, none⟩ = some (.slice F t.fs.length fap) ∧ w8.cell? ⟨w5.heap.size, 0, none⟩ = some (.slice (some ⟨w4.heap.size + 6, 0, none⟩) t.ty.sizes.length t.ty.sizes.length) ∧ w8.cell? ⟨w5.heap.size, 1, none⟩ = some (.slice (some ⟨w4.heap.size + 7, 0, none⟩) t.ty.cos.length t.ty.cos.length) ∧ w8.cell? ⟨w5.heap.size, 2, none⟩ = some (.slice (some ⟨w4.heap.size + 8 + 4 * t.ty.cos.length, 0, none⟩) t.fs.length t.fs.length)) :=
             ⟨(box3 H8.out).1, (box3 H8.out).2.1, (box3 H8.out).2.2.1, (hb8.cell (p := ⟨w5.heap.size, 0, none⟩) hl75).trans K7.out.2.2.2.1, (hb8.cell (p := ⟨w5.heap.size, 1, none⟩) hl75).trans K7.out.2.2.2.2.1, (hb8.cell (p := ⟨w5.heap.size, 2, none⟩) hl75).trans K7.out.2.2.2.2.2⟩
           clear hb8 hn8 hs8 hb8s)
        | (go_at_call 11
           refine (eqSystem_same _ _ _ _ _ _ _ _ _ _ t _ hat78.out hat8.out (by have := Hs5.out; omega) (by have h : w8.heap.size = w7.heap.size + 9 + 4 * t.ty.cos.length + 5 * t.fs.length := Hs8.out; show w7.heap.size + 6 + 3 + 4 * t.ty.cos.length + 5 * t.fs.length ≤ _; omega)).mono ?_
           rintro e w9 ⟨rfl, hb9⟩
           have H9 := Lib.hid (H8.out.trans (hb9.mono (by omega)))
           have hi9 := Lib.hid (hi8.out.below hb9 (by omega))
           have hs9 : w8.heap.size ≤ w9.heap.size := hb9.size
           have K9 : Hid (w9.cell? ⟨w.heap.size, 0, none⟩ = some (.slice A t.ty.sizes.length cap) ∧ w9.cell? ⟨w.heap.size, 1, none⟩ = some (.slice B t.ty.cos.length bap) ∧ w9.cell? ⟨w.heap.size, 2, none⟩ = some (.slice F t.fs.length fap) ∧ w9.cell? ⟨w5.heap.size, 0, none⟩ = some (.slice (some ⟨w4.heap.size + 6, 0, none⟩) t.ty.sizes.length t.ty.sizes.length) ∧ w9.cell? ⟨w5.heap.size, 1, none⟩ = some (.slice (some ⟨w4.heap.size + 7, 0, none⟩) t.ty.cos.length t.ty.cos.length) ∧ w9.cell? ⟨w5.heap.size, 2, none⟩ = some (.slice (some ⟨w4.heap.size + 8 + 4 * t.ty.cos.length, 0, none⟩) t.fs.length t.fs.length)) :=
             ⟨(box3 H9.out).1, (box3 H9.out).2.1, (box3 H9.out).2.2.1, (hb9.cell (p := ⟨w5.heap.size, 0, none⟩) (by dsimp only; omega)).trans K8.out.2.2.2.1, (hb9.cell (p := ⟨w5.heap.size, 1, none⟩) (by dsimp only; omega)).trans K8.out.2.2.2.2.1, (hb9.cell (p := ⟨w5.heap.size, 2, none⟩) (by dsimp only; omega)).trans K8.out.2.2.2.2.2⟩
           clear hb9))
    go_wp2_with fail
    refine (toIntS_any 0 w.heap.size _ zs _ (Hr.out.below (box3 H9.out).2.2.2.2 (Nat.le_refl _)) (Nat.le_of_lt (box3 H9.out).2.2.2.1) hzl).mono ?_
    rintro e w10 ⟨rfl, hb10, hs10, hr10⟩
    have H10 := Lib.hid (H9.out.trans (hb10.mono (box3 H9.out).2.2.2.1))
    have hi910 := Lib.hid (hi9.out.below hb10 (by omega))
    have hi10 := Lib.hid (hr10.ints (lo := w9.heap.size) (hi := w9.heap.size + 1) (cap := zs.length) Hwf.out (Nat.le_refl _) (by omega) (Nat.le_refl _) (by unfold maxLen; omega))
    clear hb10 hr10
    go_wp2_with fail
    refine (eqIntS_same _ _ _ _ _ _ zs _ hi910.out hi10.out (by omega) (by omega)).mono ?_
    rintro e w11 ⟨rfl, hb11⟩
    have H11 := Lib.hid (H10.out.trans (hb11.mono (by have := (box3 H10.out).2.2.2.1; omega)))
    clear hb11
    go_wp2
    go_ret
    exact ⟨rfl, (box3 H11.out).2.2.2.2⟩
end Go.Proofs.YtbblhjdcpmahkaaGreatDoor

namespace Go.Proofs.YtbblhjdcpmahkaaGreatDoor
open Go.ChangeShapes Go.WideShapes Go.ChangeAt Go.RowKit

set_option maxRecDepth 100000 in
theorem lawRes_lifted (os : Os) (started : os.Started) (H : Type) (enc : TypeId × Value → H) :
    ReturnsInHanded {} Tryz.checked os 3 .any (fun w args => (Rows.fnExactResolveCallSpec.pre enc Tryz.prog Tryz.f3 Rows.fnExactResolveCallRow.domain false w args ∧ laidMetH Tryz.prog Rows.fnExactResolveCallRow.laid w) ∧ sizedMet enc Tryz.prog Tryz.f3 (OpenSpec.ofChange Rows.fnExactResolveCallSpec) false w args)
      (Rows.fnExactResolveCallSpec.post enc Tryz.prog Tryz.f3 false true false false) := by
  refine returnsInHanded_of_change_and (C := Tryz.checked) (X := fun w _ => laidMetH Tryz.prog Rows.fnExactResolveCallRow.laid w) (fun _ _ _ hh h => h.of_heap hh) Tryz.own started (by kernel_rfl) Tryz.func3
    (ChangeSpec.witness_at (enc := enc) (C := Tryz.checked) (os := os) (X := fun w _ => laidMetH Tryz.prog Rows.fnExactResolveCallRow.laid w) false (laidWorld os) #[.agg #[.slice none 0 0, .slice none 0 0, .slice none 0 0], .string ByteArray.empty, .slice none 0 0] 8 rfl (by kernel_rfl) (by kernel_rfl) (by kernel_rfl) (by kernel_rfl) (by kernel_rfl) (laid_metH os _)) ?_
  intro W base args ds gs before hval0 hW _ _ hL _
  have hval : ∀ (j : Nat) t v, Tryz.f3.params[j]? = some t → args[j]? = some v → Value.okWide Tryz.prog W .any base t v := hval0
  have hW' := hW
  obtain ⟨p, q, hA0, hV, rfl, _, _⟩ := hW
  have hA : DataW.TrodAll enc Tryz.prog W 0 (fun _ => true) true Tryz.f3.params.toList args.toList ds p := hA0
  rw [Tryz.params3] at hA hval
  obtain ⟨v0, vs0, d0, ds0, p, q0, hargs, rfl, rfl, h0, r0⟩ := trodAll_cons hA
  obtain ⟨v1, vs1, d1, ds1, p1, q1, rfl, rfl, rfl, h1, r1⟩ := trodAll_cons r0
  obtain ⟨v2, vs2, d2, ds2, p2, q2, rfl, rfl, rfl, h2, r2⟩ := trodAll_cons r1
  obtain ⟨rfl, rfl, rfl⟩ := trodAll_nil r2
  obtain rfl : args = #[v0, v1, v2] := by cases args; simp_all
  obtain ⟨n, a0, a1, hn, hE, vr⟩ := errs_of_laid enc hL
  obtain ⟨rfl, rfl⟩ := hV.unique (vr W (Below.refl _ _) _)
  obtain ⟨nm, rfl, rfl, rfl, wnm⟩ := Go.ChangeMaps.open_string Tryz.underlying9 (hval 1 _ v1 rfl rfl) h1
  obtain ⟨a2, len2, cap2, rfl⟩ := okWide_slice Tryz.underlying22 (hval 2 _ v2 rfl rfl)
  have hh2 := h2
  obtain ⟨fuel2, hf2⟩ := hh2
  obtain ⟨zs, hzs⟩ := open_intsAt (v := .slice a2 len2 cap2) (by simpa [Value.cells] using hf2)
  obtain ⟨sv, cv, fv, t, rfl, ht⟩ := open_syAt (hval 0 _ v0 rfl rfl) h0
  have hlt : ∀ x ∈ p, x.block < W.heap.size := fun x hx => by simpa using hW'.lt x (by simp [hx])
  have hlt2 : ∀ x ∈ p2, x.block < W.heap.size := fun x hx => by simpa using hW'.lt x (by simp [hx])
  refine (lawRes_walk sv cv fv _ t nm zs n a0 a1 W ht hzs wnm hE hn).mono fun e W' ⟨he, hb⟩ => ?_
  subst he
  exact ⟨_, rfl, _, _, _, [], _, _, hW', trodAll_mk1 (shut_bool Tryz.underlying4 _), trodAll_cons_mk (Below.trod Tryz.laidOut (by kernel_rfl) (of_decide_eq_true (by kernel_rfl)) h0 hb hlt) (trodAll_cons_mk (Go.ChangeMaps.shut_string Tryz.underlying9 wnm) (trodAll_cons_mk (Below.trod Tryz.laidOut (by kernel_rfl) (of_decide_eq_true (by kernel_rfl)) h2 hb hlt2) trodAll_mk0)), vr W' hb _, hb.frame _, fun h => by cases h⟩

theorem res_row : Rows.FnExactResolveCallSaid :=
  OpenClaim.holds_of_wide 3 Tryz.f3 rfl rfl rfl rfl rfl rfl rfl ⟨rfl, rfl, rfl, rfl, rfl⟩ rfl rfl rfl rfl rfl (by kernel_rfl) Tryz.func3 (by kernel_rfl)
    (of_decide_eq_true (by kernel_rfl)) (by unfold Func.isWrapper; first | (rw [if_pos (by decide +kernel)]; kernel_rfl) | (rw [if_neg (by decide +kernel)]; exact ⟨rfl, rfl⟩))
    (fun os started H enc _ => lawRes_lifted os started H enc)

theorem res_holds : Rows.FnExactResolveCallCardSaid :=
  Claim7.holds_tied_plain_at .later [] [.sentinel, .sentinel] true Rows.fnExactResolveCallCard.stood.harness true
    res_row (fun _ h => by cases h) (by kernel_rfl) (fun _ h => by cases h) fnExactResolveCall_row_tie rfl ⟨rfl, rfl⟩ (by kernel_rfl) rfl
    (fun f fn hf hfn => by
      obtain rfl : f = 3 := Option.some.inj ((show Tryz.prog.funcNamed Rows.fnExactResolveCallRow.func = some 3 by kernel_rfl).symm.trans hf) |>.symm
      obtain rfl : fn = Tryz.f3 := (Option.some.inj (Tryz.func3.symm.trans hfn)).symm
      exact ⟨by kernel_rfl, fun j t ht => by
        rw [Tryz.params3] at ht
        have h3 : t = 28 ∨ t = 9 ∨ t = 22 := by
          rcases j with _ | _ | _ | j
          · simp at ht; exact .inl ht.symm
          · simp at ht; exact .inr (.inl ht.symm)
          · simp at ht; exact .inr (.inr ht.symm)
          · simp at ht
        rcases h3 with rfl | rfl | rfl
        · exact (show Tryz.prog.wantsStandIn 28 = false by kernel_rfl)
        · exact (show Tryz.prog.wantsStandIn 9 = false by kernel_rfl)
        · exact (show Tryz.prog.wantsStandIn 22 = false by kernel_rfl)⟩)
    (by kernel_rfl)
end Go.Proofs.YtbblhjdcpmahkaaGreatDoor

