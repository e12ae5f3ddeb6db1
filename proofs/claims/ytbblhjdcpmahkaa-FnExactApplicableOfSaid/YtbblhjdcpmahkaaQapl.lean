/-
  FnExactApplicableOf: the walk of the law.
  Proved here: FnExactApplicableOf returns true for all arguments, and each argument reads afterwards as it read before.
  Conditions: none.
-/
import Derived.Test.YtbblhjdcpmahkaaK1
import Derived.Test.YtbblhjdcpmahkaaK8
import Derived.Test.YtbblhjdcpmahkaaK9
import Derived.Test.YtbblhjdcpmahkaaK10
import Derived.Deep.RegionHeld3
import Derived.Carry
import Derived.JoinedOf
namespace Go.Proofs.Ytbblhjdcpmahkaa
open Go.RowKit

set_option maxRecDepth 100000 in
set_option maxHeartbeats 4000000 in
theorem lawApl_walk (sv cv fv rv : Value) (t : Sy) (nm : ByteArray) (zs : List Int) (w : World) (hv : SyAt w 0 w.heap.size sv cv fv t) (hr : IntsAt w 0 w.heap.size rv zs) (hnm : nm.size ≤ maxLen) :
    Calls Try.prog 9 #[.agg #[sv, cv, fv], .string nm, rv] w fun e w' => e = .returned (.bool true) ∧ Below w.heap.size w w' := by
  obtain ⟨A, cap, rfl, hl1, hm1, _⟩ := hv.1.1.form
  obtain ⟨B, bap, rfl, hl2, hm2, _⟩ := hv.1.2.form
  obtain ⟨F, fap, rfl, hlf, hmf, _⟩ := hv.2.form
  obtain ⟨R, rap, rfl, hl3, hm3, _⟩ := hr.form
  unfold maxLen at hm3
  clear hl1 hm1 hl2 hm2 hlf hmf
  have Hv := Lib.hid hv
  have Hr := Lib.hid hr
  have Hwf := Lib.hid (IntsAt.wfi hr)
  clear hv hr
  have h1 : Below (w.heap.size + 1) (w.alloc (.cells #[.slice A t.ty.sizes.length cap, .slice B t.ty.cos.length bap, .slice F t.fs.length fap] 61)) (w.alloc (.cells #[.slice A t.ty.sizes.length cap, .slice B t.ty.cos.length bap, .slice F t.fs.length fap] 61)) := Below.refl _ _
  have H1 := Lib.hid h1
  clear h1
  have Hnm := Lib.hid hnm
  by_cases hz0 : 1048576 < nm.size
  · go_enter Try.func9, Try.ntmps9
    unfold maxLen at hnm
    go_wp2
    go_ret
    exact ⟨rfl, (box3 H1.out).2.2.2.2⟩
  have hnl : nm.size ≤ 1048576 := by omega
  clear hz0 hnm
  by_cases hz : 1048576 < zs.length
  · go_enter Try.func9, Try.ntmps9
    go_wp2
    go_ret
    exact ⟨rfl, (box3 H1.out).2.2.2.2⟩
  have hzl : zs.length ≤ 1048576 := by omega
  clear hz
  go_enter Try.func9, Try.ntmps9
  go_wp2_with fail
  refine (szSystem_any 0 w.heap.size _ _ _ t 1048576 _ (by omega) (by omega) (Hv.out.below (box3 H1.out).2.2.2.2 (Nat.le_refl _)) (by simp)).mono ?_
  rintro e w2 ⟨rfl, hb2⟩
  have H2 := Lib.hid (H1.out.trans (hb2.mono (by simp)))
  obtain ⟨q0, q1, q2, hl2, _⟩ := box3 H2.out
  clear hb2
  by_cases hbig : (1048576 : Int) - t.bulk < 0
  · rw [subI_neg hbig]
    go_wp2
    go_ret
    exact ⟨rfl, (box3 H2.out).2.2.2.2⟩
  · rw [subI_pos hbig]
    have hbk : Hid (t.bulk ≤ 1048576) := by show t.bulk ≤ 1048576; omega
    go_wp2_with fail
    refine (toSystem_any 0 w.heap.size _ _ _ t _ (Hv.out.below (box3 H2.out).2.2.2.2 (Nat.le_refl _)) (by omega) hbk.out).mono ?_
    rintro e w3 ⟨rfl, hb3, hs3, hn3⟩
    have H3 := Lib.hid (H2.out.trans (hb3.mono (by omega)))
    have hat := Lib.hid (hn3.at_ Hv.out.fits hbk.out)
    clear hb3 hn3 q0 q1 q2
    have Hs3 := Lib.hid hs3
    have hl3' := (box3 H3.out).2.2.2.1
    clear hs3
    go_wp2_with fail
    refine (toIntS_any 0 w.heap.size _ zs _ (Hr.out.below (box3 H3.out).2.2.2.2 (Nat.le_refl _)) (by omega) hzl).mono ?_
    rintro e w3b ⟨rfl, hb3b, hs3b, hr3b⟩
    have H3b := Lib.hid (H3.out.trans (hb3b.mono (by omega)))
    have hatb := Lib.hid (hat.out.below hb3b (by have := Hs3.out; omega))
    have hib := Lib.hid (hr3b.ints (lo := w3.heap.size) (hi := w3.heap.size + 1) (cap := zs.length) Hwf.out (Nat.le_refl _) (by omega) (Nat.le_refl _) (by unfold maxLen; omega))
    clear hb3b hr3b hat
    go_wp2_with fail
    refine (specApplic_any _ _ _ _ _ _ _ _ t nm zs _ hatb.out hib.out (by have := Hs3.out; omega) (by omega) hbk.out).mono ?_
    rintro e w4 ⟨v0, rfl, hb4, hown4⟩
    obtain ⟨gw, hw0, hgw⟩ := OwnI.of_owns hown4
    have Hi4 := Lib.hid (hw0.ints (lo := w3b.heap.size) (hi := w4.heap.size) (applicV_wf t nm zs hbk.out) hgw)
    obtain ⟨A0, cap0, rfl, _, _, _⟩ := Hi4.out.form
    have H4 := Lib.hid (H3b.out.trans (hb4.mono (by omega)))
    obtain ⟨q0, q1, q2, hl4, _⟩ := box3 H4.out
    clear hb4 Hs3 hown4 hw0 hgw hatb hib hs3b hl3'
    go_wp2_with fail
    refine (toSystem_any 0 w.heap.size _ _ _ t _ (Hv.out.below (box3 H4.out).2.2.2.2 (Nat.le_refl _)) (by omega) hbk.out).mono ?_
    rintro e w5 ⟨rfl, hb5, hs5, hn5⟩
    have Hb45 := Lib.hid hb5
    have H5 := Lib.hid (H4.out.trans (hb5.mono (by omega)))
    have hat := Lib.hid (hn5.at_ Hv.out.fits hbk.out)
    have Hn5 := Lib.hid hn5
    obtain ⟨q0', q1', q2', hl5, _⟩ := box3 H5.out
    clear hb5 hn5 q0 q1 q2
    have Hs5 := Lib.hid hs5
    clear hs5
    go_wp2_with fail
    have hb50 : Below w5.heap.size w5 (w5.alloc (.cells #[.slice (some ⟨w4.heap.size + 6, 0, none⟩) t.ty.sizes.length t.ty.sizes.length, .slice (some ⟨w4.heap.size + 7, 0, none⟩) t.ty.cos.length t.ty.cos.length, .slice (some ⟨w4.heap.size + 8 + 4 * t.ty.cos.length, 0, none⟩) t.fs.length t.fs.length] 66)) := (Below.refl _ _).alloc (Nat.le_refl _) _
    have Hb50 := Lib.hid hb50
    clear hb50
    refine (toIntS_any 0 w.heap.size _ zs _ (Hr.out.below (((box3 H5.out).2.2.2.2).trans (Hb50.out.mono (by omega))) (Nat.le_refl _)) (by simp only [World.size_alloc]; omega) hzl).mono ?_
    rintro e w5b ⟨rfl, hb5b, hs5b, hr5b⟩
    simp only [World.size_alloc] at hb5b hs5b hr5b
    have hx5b : Below (w5.heap.size + 1) (w5.alloc (.cells #[.slice (some ⟨w4.heap.size + 6, 0, none⟩) t.ty.sizes.length t.ty.sizes.length, .slice (some ⟨w4.heap.size + 7, 0, none⟩) t.ty.cos.length t.ty.cos.length, .slice (some ⟨w4.heap.size + 8 + 4 * t.ty.cos.length, 0, none⟩) t.fs.length t.fs.length] 66)) w5b := hb5b
    have Hx5b := Lib.hid hx5b
    obtain ⟨x0, x1, x2, hl55, hb55⟩ := box3 hx5b
    have H5b := Lib.hid ((H5.out.alloc (by omega) _).trans (hb5b.mono (by omega)))
    have hat5 := Lib.hid (hat.out.below hb55 (by have := Hs5.out; omega))
    have hi5b := Lib.hid (hr5b.ints (lo := w5.heap.size + 1) (hi := w5.heap.size + 2) (cap := zs.length) Hwf.out (Nat.le_refl _) (by omega) (Nat.le_refl _) (by unfold maxLen; omega))
    have Hox := Lib.hid (hr5b.own (cap := zs.length) (Nat.le_refl _) (by unfold maxLen; omega))
    have Hb45b := Lib.hid ((Hb45.out.trans (Hb50.out.mono Hb45.out.size)).trans (hb5b.mono (by have := Hb45.out.size; omega)))
    clear hb5b hx5b hr5b hb55
    go_wp2_with fail
    refine (implApplic_any _ _ _ _ _ _ _ _ t nm zs _ hat5.out hi5b.out (by have := Hs5.out; omega) (by omega) hbk.out Hnm.out).mono ?_
    rintro e w6 ⟨v1, rfl, hb6, hown6⟩
    obtain ⟨g1, ho1, hg1⟩ := OwnI.of_owns hown6
    have Hi6 := Lib.hid (ho1.ints (lo := w5b.heap.size) (hi := w6.heap.size) (applicV_wf t nm zs hbk.out) hg1)
    have Ho6 := Lib.hid ho1
    have Hg1 := Lib.hid hg1
    obtain ⟨A1, cap1, rfl, _, _, _⟩ := Hi6.out.form
    have Hb5b6 := Lib.hid hb6
    have hx6 := Lib.hid (Hx5b.out.trans (hb6.mono (by omega)))
    have H6 := Lib.hid (H5b.out.trans (hb6.mono (by omega)))
    have Hb46 := Lib.hid (Hb45b.out.trans (hb6.mono Hb45b.out.size))
    have hs56 : w5.heap.size < w6.heap.size := (box3 hx6.out).2.2.2.1
    have hs5b6 : w5b.heap.size ≤ w6.heap.size := hb6.size
    have hi6 := Lib.hid (hi5b.out.below hb6 (by omega))
    clear hb6 q0' q1' q2' hat5 hown6 ho1 hg1 x0 x1 x2 hi5b
    go_wp2_with fail
    refine (eqIntS_same _ _ _ _ _ _ (applicV t nm zs) _ Hi6.out (Hi4.out.below Hb46.out (Nat.le_refl _)) (Nat.le_refl _) Hb46.out.size).mono ?_
    rintro e w7 ⟨rfl, hb67⟩
    have Hb67 := Lib.hid hb67
    have H7 := Lib.hid (H6.out.trans (hb67.mono (by omega)))
    have Hx7 := Lib.hid (hx6.out.trans (hb67.mono (by omega)))
    have hat7 := Lib.hid (hat.out.below ((box3 hx6.out).2.2.2.2.trans (hb67.mono (by omega))) (by have := Hs5.out; omega))
    clear hb67 hat hx6
    go_wp2_with fail
    have H7d : Hid (Below (w.heap.size + 1) (w.alloc (.cells #[.slice A t.ty.sizes.length cap, .slice B t.ty.cos.length bap, .slice F t.fs.length fap] 61)) w7.drew) := H7.out.drew
    have Hx7d : Hid (Below (w5.heap.size + 1) (w5.alloc (.cells #[.slice (some ⟨w4.heap.size + 6, 0, none⟩) t.ty.sizes.length t.ty.sizes.length, .slice (some ⟨w4.heap.size + 7, 0, none⟩) t.ty.cos.length t.ty.cos.length, .slice (some ⟨w4.heap.size + 8 + 4 * t.ty.cos.length, 0, none⟩) t.fs.length t.fs.length] 66)) w7.drew) := Hx7.out.drew
    have hat7d : Hid (SyAt w7.drew _ _ _ _ _ t) := hat7.out
    have Hb47 : Hid (Below w4.heap.size w4 w7.drew) := (Hb46.out.trans (Hb67.out.mono Hb46.out.size)).drew
    have Hb67d : Hid (Below w6.heap.size w6 w7.drew) := Hb67.out.drew
    have K7 : Hid (w7.drew.cell? ⟨w.heap.size, 0, none⟩ = some (.slice A t.ty.sizes.length cap) ∧ w7.drew.cell? ⟨w.heap.size, 1, none⟩ = some (.slice B t.ty.cos.length bap) ∧ w7.drew.cell? ⟨w.heap.size, 2, none⟩ = some (.slice F t.fs.length fap) ∧ w7.drew.cell? ⟨w5.heap.size, 0, none⟩ = some (.slice (some ⟨w4.heap.size + 6, 0, none⟩) t.ty.sizes.length t.ty.sizes.length) ∧ w7.drew.cell? ⟨w5.heap.size, 1, none⟩ = some (.slice (some ⟨w4.heap.size + 7, 0, none⟩) t.ty.cos.length t.ty.cos.length) ∧ w7.drew.cell? ⟨w5.heap.size, 2, none⟩ = some (.slice (some ⟨w4.heap.size + 8 + 4 * t.ty.cos.length, 0, none⟩) t.fs.length t.fs.length)) := ⟨(box3 H7d.out).1, (box3 H7d.out).2.1, (box3 H7d.out).2.2.1, (box3 Hx7d.out).1, (box3 Hx7d.out).2.1, (box3 Hx7d.out).2.2.1⟩
    clear H7 Hx7 hat7 Hb67
    go_region_held3 (fun w' => w'.cell? ⟨w.heap.size, 0, none⟩ = some (.slice A t.ty.sizes.length cap) ∧ w'.cell? ⟨w.heap.size, 1, none⟩ = some (.slice B t.ty.cos.length bap) ∧ w'.cell? ⟨w.heap.size, 2, none⟩ = some (.slice F t.fs.length fap) ∧ w'.cell? ⟨w5.heap.size, 0, none⟩ = some (.slice (some ⟨w4.heap.size + 6, 0, none⟩) t.ty.sizes.length t.ty.sizes.length) ∧ w'.cell? ⟨w5.heap.size, 1, none⟩ = some (.slice (some ⟨w4.heap.size + 7, 0, none⟩) t.ty.cos.length t.ty.cos.length) ∧ w'.cell? ⟨w5.heap.size, 2, none⟩ = some (.slice (some ⟨w4.heap.size + 8 + 4 * t.ty.cos.length, 0, none⟩) t.fs.length t.fs.length))
      (first | exact K7.out | exact K8.out | exact K9.out)
      (first
        | (go_at_call 46
           refine (toSystem_any 0 w.heap.size _ _ _ t w7.drew (Hv.out.below (box3 H7d.out).2.2.2.2 (Nat.le_refl _)) (Nat.le_of_lt (box3 H7d.out).2.2.2.1) hbk.out).mono ?_
           rintro e w8 ⟨rfl, hb8, hs8, hn8⟩
           have H8 := Lib.hid (H7d.out.trans (hb8.mono (box3 H7d.out).2.2.2.1))
           have Hx8 := Lib.hid (Hx7d.out.trans (hb8.mono (box3 Hx7d.out).2.2.2.1))
           have hat8 := Lib.hid (hn8.at_ Hv.out.fits hbk.out)
           have hat78 := Lib.hid (hat7d.out.below hb8 (by have h := Hs5.out; have h2 := (box3 Hx7d.out).2.2.2.1; omega))
           have Hb48 := Lib.hid (Hb47.out.trans (hb8.mono Hb47.out.size))
           have Hb68 := Lib.hid (Hb67d.out.trans (hb8.mono Hb67d.out.size))
           have Hs8 := Lib.hid hs8
           have hb8s := Lib.hid hb8.size
           have K8 : Hid (w8.cell? ⟨w.heap.size, 0, none⟩ = some (.slice A t.ty.sizes.length cap) ∧ w8.cell? ⟨w.heap.size, 1, none⟩ = some (.slice B t.ty.cos.length bap) ∧ w8.cell? ⟨w.heap.size, 2, none⟩ = some (.slice F t.fs.length fap) ∧ w8.cell? ⟨w5.heap.size, 0, none⟩ = some (.slice (some ⟨w4.heap.size + 6, 0, none⟩) t.ty.sizes.length t.ty.sizes.length) ∧ w8.cell? ⟨w5.heap.size, 1, none⟩ = some (.slice (some ⟨w4.heap.size + 7, 0, none⟩) t.ty.cos.length t.ty.cos.length) ∧ w8.cell? ⟨w5.heap.size, 2, none⟩ = some (.slice (some ⟨w4.heap.size + 8 + 4 * t.ty.cos.length, 0, none⟩) t.fs.length t.fs.length)) := ⟨(box3 H8.out).1, (box3 H8.out).2.1, (box3 H8.out).2.2.1, (box3 Hx8.out).1, (box3 Hx8.out).2.1, (box3 Hx8.out).2.2.1⟩
           clear hb8 hn8 hs8)
        | (go_at_call 50
           refine (eqSystem_same _ _ _ _ _ _ _ _ _ _ t _ hat78.out hat8.out (by have h := Hs5.out; have h2 := (box3 Hx8.out).2.2.2.1; omega) (by have h := Hs8.out; omega)).mono ?_
           rintro e w9 ⟨rfl, hb9⟩
           have H9 := Lib.hid (H8.out.trans (hb9.mono (box3 H8.out).2.2.2.1))
           have Hx9 := Lib.hid (Hx8.out.trans (hb9.mono (box3 Hx8.out).2.2.2.1))
           have Hb49 := Lib.hid (Hb48.out.trans (hb9.mono Hb48.out.size))
           have Hb69 := Lib.hid (Hb68.out.trans (hb9.mono Hb68.out.size))
           have K9 : Hid (w9.cell? ⟨w.heap.size, 0, none⟩ = some (.slice A t.ty.sizes.length cap) ∧ w9.cell? ⟨w.heap.size, 1, none⟩ = some (.slice B t.ty.cos.length bap) ∧ w9.cell? ⟨w.heap.size, 2, none⟩ = some (.slice F t.fs.length fap) ∧ w9.cell? ⟨w5.heap.size, 0, none⟩ = some (.slice (some ⟨w4.heap.size + 6, 0, none⟩) t.ty.sizes.length t.ty.sizes.length) ∧ w9.cell? ⟨w5.heap.size, 1, none⟩ = some (.slice (some ⟨w4.heap.size + 7, 0, none⟩) t.ty.cos.length t.ty.cos.length) ∧ w9.cell? ⟨w5.heap.size, 2, none⟩ = some (.slice (some ⟨w4.heap.size + 8 + 4 * t.ty.cos.length, 0, none⟩) t.fs.length t.fs.length)) := ⟨(box3 H9.out).1, (box3 H9.out).2.1, (box3 H9.out).2.2.1, (box3 Hx9.out).1, (box3 Hx9.out).2.1, (box3 Hx9.out).2.2.1⟩
           clear hb9))
    have hbs9 := Hb69.out.size
    have hi69 := Lib.hid (hi6.out.below Hb69.out (by omega))
    go_wp2_with fail
    refine (toIntS_any 0 w.heap.size _ zs _ (Hr.out.below (box3 H9.out).2.2.2.2 (Nat.le_refl _)) (Nat.le_of_lt (box3 H9.out).2.2.2.1) hzl).mono ?_
    rintro e w9b ⟨rfl, hb9b, hs9b, hr9b⟩
    have hi9b := Lib.hid (hi69.out.below hb9b (by omega))
    have hj9b := Lib.hid (hr9b.ints (lo := w9.heap.size) (hi := w9.heap.size + 1) (cap := zs.length) Hwf.out (Nat.le_refl _) (by omega) (Nat.le_refl _) (by unfold maxLen; omega))
    have Hb9b := Lib.hid hb9b
    clear hb9b hr9b
    go_wp2_with fail
    refine (eqIntS_same _ _ _ _ _ _ zs _ hi9b.out hj9b.out (by omega) (by omega)).mono ?_
    rintro e w9c ⟨rfl, hb9c⟩
    have hb99 := Hb9b.out.trans (hb9c.mono (by omega))
    have H9c := Lib.hid (H9.out.trans (hb99.mono (box3 H9.out).2.2.2.1))
    have Hx9c := Lib.hid (Hx9.out.trans (hb99.mono (box3 Hx9.out).2.2.2.1))
    have Hb49c := Lib.hid (Hb49.out.trans (hb99.mono Hb49.out.size))
    have Hb69c := Lib.hid (Hb69.out.trans (hb99.mono Hb69.out.size))
    have K9c : Hid (w9c.cell? ⟨w5.heap.size, 0, none⟩ = some (.slice (some ⟨w4.heap.size + 6, 0, none⟩) t.ty.sizes.length t.ty.sizes.length) ∧ w9c.cell? ⟨w5.heap.size, 1, none⟩ = some (.slice (some ⟨w4.heap.size + 7, 0, none⟩) t.ty.cos.length t.ty.cos.length) ∧ w9c.cell? ⟨w5.heap.size, 2, none⟩ = some (.slice (some ⟨w4.heap.size + 8 + 4 * t.ty.cos.length, 0, none⟩) t.fs.length t.fs.length)) := ⟨(box3 Hx9c.out).1, (box3 Hx9c.out).2.1, (box3 Hx9c.out).2.2.1⟩
    clear hb9c hb99
    obtain ⟨y0, y1, y2⟩ := K9c.out
    have hb59 : Below w5.heap.size w5 w9c := (box3 Hx9c.out).2.2.2.2
    have hty9 := (Hn5.out.below hb59 (by have := Hs5.out; omega)).own hbk.out
    have hls : lenSum (fun j => t.ty.cos.getD j default) t.ty.cos.length = mapsLen t.ty.cos t.ty.cos.length := lenSum_maps t.ty _ (Nat.le_refl _)
    have hlf : lenF (fun j => t.fs.getD j default) t.fs.length ≤ fusLen t.fs t.fs.length := lenF_sum t.fs _ (Nat.le_refl _)
    have hbulk : t.ty.sizes.length + t.ty.cos.length + mapsLen t.ty.cos t.ty.cos.length + (t.fs.length + fusLen t.fs t.fs.length) ≤ 1048576 := hbk.out
    have hcnt : Hid ((1 : Int) + (t.ty.sizes.length : Int) + 2 * (t.ty.cos.length : Int) + (lenSum (fun j => t.ty.cos.getD j default) t.ty.cos.length : Int) + 2 * (t.fs.length : Int) + (lenF (fun j => t.fs.getD j default) t.fs.length : Int) ≤ 9000000) := by show _ ≤ _; rw [hls]; omega
    have hM0 : (0 : Int) ≤ markAtF (fun j => t.fs.getD j default) (markAt (fun j => t.ty.cos.getD j default) (1 + (t.ty.sizes.length : Int)) t.ty.cos.length) t.fs.length := by
      show (0 : Int) ≤ 1 + (t.ty.sizes.length : Int) + 2 * (t.ty.cos.length : Int) + ((lenSum (fun j => t.ty.cos.getD j default) t.ty.cos.length : Nat) : Int) + 2 * (t.fs.length : Int) + ((lenF (fun j => t.fs.getD j default) t.fs.length : Nat) : Int)
      omega
    have hMle : markAtF (fun j => t.fs.getD j default) (markAt (fun j => t.ty.cos.getD j default) (1 + (t.ty.sizes.length : Int)) t.ty.cos.length) t.fs.length ≤ 9000000 := hcnt.out
    have hle : (applicV t nm zs).length ≤ 1048576 := Nat.le_trans (applicV_le t nm zs) (by omega)
    have Hty9 := Lib.hid hty9
    have Hb59 := Lib.hid hb59
    clear hls hlf hty9 hb59
    go_wp2_with fail
    refine (markSystem_any _ _ _ _ _ _ _ _ _ _ _ _ _ _ _ 1 _ Hty9.out (by omega) (by have := hcnt.out; omega)).mono ?_
    rintro e w10a ⟨rfl, hk10⟩
    generalize markAtF (fun j => t.fs.getD j default) (markAt (fun j => t.ty.cos.getD j default) (1 + (t.ty.sizes.length : Int)) t.ty.cos.length) t.fs.length = M at hM0 hMle ⊢
    have hneg : decide (M + (zs.length : Int) < 0) = false := by simp; omega
    have hu : ∀ k, OwnSy.uses (w4.heap.size + 6) (w4.heap.size + 6 + 1) (fun j => w4.heap.size + 6 + 1 + 1 + 4 * j + 3) t.ty.sizes t.ty.cos.length (fun j => t.ty.cos.getD j default) (w4.heap.size + 6 + 2 + 4 * t.ty.cos.length) (fun j b => w4.heap.size + 6 + 2 + 4 * t.ty.cos.length + 1 + 5 * j + (if b then 4 else 3)) t.fs.length (fun j => t.fs.getD j default) k → w4.heap.size < k ∧ k < w5.heap.size := fun k h => by
      have := newUsesS h
      have := Hs5.out
      omega
    have hox9 : OwnI w9c 3 (w5.heap.size + 1) (.slice (some ⟨w5.heap.size + 1, 0, none⟩) zs.length zs.length) zs := Hox.out.keep fun _ => (Hb5b6.out.trans (Hb69c.out.mono hs5b6)).block (w5.heap.size + 1) (by omega)
    have hs69c : w6.heap.size ≤ w9c.heap.size := Hb69c.out.size
    have hox10 : OwnI w10a 3 (w5.heap.size + 1) (.slice (some ⟨w5.heap.size + 1, 0, none⟩) zs.length zs.length) zs := hox9.keep fun _ => hk10.block (w5.heap.size + 1) (by omega) (fun h2 => by have := hu _ h2; omega)
    have hb9to10 : Below w4.heap.size w9c w10a := hk10.below Hb49c.out.size (fun k hk h => by have := hu k h; omega)
    have Hb410a := Lib.hid (Hb49c.out.trans hb9to10)
    have Hox10 := Lib.hid hox10
    have ho10a : OwnI w10a 3 g1 (.slice A1 (applicV t nm zs).length cap1) (applicV t nm zs) := Ho6.out.keep fun h => by
      have hg := Hg1.out h
      exact (hk10.block g1 (by omega) (fun h2 => by have := hu g1 h2; omega)).trans (Hb69c.out.block g1 hg.2)
    have Ho10a := Lib.hid ho10a
    have hsz10a : w6.heap.size ≤ w10a.heap.size := Nat.le_trans Hb69c.out.size hk10.size
    clear hk10 hu hb9to10 ho10a hox9 hox10
    go_wp2_with fail
    refine (markIntS_any (w5.heap.size + 1) _ zs M _ Hox10.out hM0 (by omega)).mono ?_
    rintro e w10 ⟨rfl, hk10, _, hs10⟩
    have Hb410 := Lib.hid (Hb410a.out.trans (hk10.below Hb410a.out.size (fun k hk h e => by have := Hb45.out.size; omega)))
    have ho10 : OwnI w10 3 g1 (.slice A1 (applicV t nm zs).length cap1) (applicV t nm zs) := Ho10a.out.keep fun h => by
      have hg := Hg1.out h
      exact hk10.block g1 (by omega) (fun h2 => by omega)
    have hsz10 : w6.heap.size ≤ w10.heap.size := by omega
    have Ho10 := Lib.hid ho10
    have Hi10 := Lib.hid (ho10.ints (lo := w5b.heap.size) (hi := w6.heap.size) (applicV_wf t nm zs hbk.out) Hg1.out)
    clear hk10 hs10 ho10
    go_wp2_with fail
    refine (eqIntS_same _ _ _ _ _ _ (applicV t nm zs) _ Hi10.out (Hi4.out.below Hb410.out (Nat.le_refl _)) hsz10 Hb410.out.size).mono ?_
    rintro e w11 ⟨rfl, hb11⟩
    have Ho11 := Lib.hid (Ho10.out.keep (w' := w11) fun h => hb11.block g1 (by have := Hg1.out h; omega))
    have Hb411 := Lib.hid (Hb410.out.trans (hb11.mono Hb410.out.size))
    have hsz11 : w6.heap.size ≤ w11.heap.size := Nat.le_trans hsz10 hb11.size
    clear hb11
    go_wp2_with fail
    refine (markIntS_any g1 _ (applicV t nm zs) 1 _ Ho11.out (by omega) (by omega)).mono ?_
    rintro e w12 ⟨rfl, hk12, ho12, hs12⟩
    have Hb412 := Lib.hid (Hb411.out.trans (hk12.below Hb411.out.size (fun k hk h e => by have h2 := Hg1.out h; have h3 := Hb45.out.size; omega)))
    have Ho12 := Lib.hid ho12
    have Hg12 : Hid (0 < (markL 1 (applicV t nm zs).length).length → w5b.heap.size ≤ g1 ∧ g1 < w6.heap.size) := fun h => Hg1.out (by rw [markL_len] at h; exact h)
    have Hi12 := Lib.hid (ho12.ints (lo := w5b.heap.size) (hi := w6.heap.size) (markL_wf 1 _ (by omega) (by omega)) Hg12.out)
    have hsz12 : w6.heap.size ≤ w12.heap.size := Nat.le_trans hsz11 (Nat.le_of_eq hs12.symm)
    clear hk12 ho12 hs12
    go_wp2_with fail
    refine (heldIntS_any _ _ _ (applicV t nm zs).length 1 _ Hi12.out hsz12 (by omega) (by omega)).mono ?_
    rintro e w' ⟨rfl, rfl⟩
    have H12 := Lib.hid (H4.out.trans (Hb412.out.mono hl4))
    obtain ⟨q0, q1, q2, hl12, _⟩ := box3 H12.out
    have hneg2 : decide ((1 : Int) + ((applicV t nm zs).length : Int) < 0) = false := by simp; omega
    have hbne2 : ((1 : Int) + ((applicV t nm zs).length : Int) != 1 + ((applicV t nm zs).length : Int)) = false := by simp
    clear y0 y1 y2
    go_wp2_with fail
    refine (toSystem_any 0 w.heap.size _ _ _ t _ (Hv.out.below (box3 H12.out).2.2.2.2 (Nat.le_refl _)) (by omega) hbk.out).mono ?_
    rintro e w13 ⟨rfl, hb13, hs13, hn13⟩
    have hat13 := Lib.hid (hn13.at_ Hv.out.fits hbk.out)
    have Hb13 := Lib.hid hb13
    have Hs13 := Lib.hid hs13
    clear hb13 hs13 hn13
    go_wp2_with fail
    have hs1213 := Hb13.out.size
    refine (toIntS_any 0 w.heap.size _ zs _ (Hr.out.below ((box3 H12.out).2.2.2.2.trans (Hb13.out.mono (by omega))) (Nat.le_refl _)) (by omega) hzl).mono ?_
    rintro e w13b ⟨rfl, hb13b, hs13b, hr13b⟩
    have hat13b := Lib.hid (hat13.out.below hb13b (by have := Hs13.out; omega))
    have hi13b := Lib.hid (hr13b.ints (lo := w13.heap.size) (hi := w13.heap.size + 1) (cap := zs.length) Hwf.out (Nat.le_refl _) (by omega) (Nat.le_refl _) (by unfold maxLen; omega))
    have Hb13b := Lib.hid (Hb13.out.trans (hb13b.mono hs1213))
    clear hb13b hr13b
    go_wp2_with fail
    refine (implApplic_any _ _ _ _ _ _ _ _ t nm zs _ hat13b.out hi13b.out (by have := Hs13.out; omega) (by omega) hbk.out Hnm.out).mono ?_
    rintro e w14 ⟨v2, rfl, hb14, hown14⟩
    obtain ⟨g2, ho2, hg2⟩ := OwnI.of_owns hown14
    have Hi14 := Lib.hid (ho2.ints (lo := w13b.heap.size) (hi := w14.heap.size) (applicV_wf t nm zs hbk.out) hg2)
    obtain ⟨A2, cap2, rfl, _, _, _⟩ := Hi14.out.form
    have Hb1214 := Lib.hid (Hb13b.out.trans (hb14.mono Hb13b.out.size))
    have Hb414 := Lib.hid (Hb412.out.trans (Hb1214.out.mono Hb412.out.size))
    clear hb14 hown14 ho2 hg2
    go_wp2_with fail
    refine (eqIntS_same _ _ _ _ _ _ (applicV t nm zs) _ Hi14.out (Hi4.out.below Hb414.out (Nat.le_refl _)) (Nat.le_refl _) Hb414.out.size).mono ?_
    rintro e w15 ⟨rfl, hb15⟩
    have Hb1215 := Lib.hid (Hb1214.out.trans (hb15.mono Hb1214.out.size))
    have Hi15 := Lib.hid (Hi12.out.below Hb1215.out hsz12)
    have hsz15 : w6.heap.size ≤ w15.heap.size := Nat.le_trans hsz12 Hb1215.out.size
    have Hfin := Lib.hid (((box3 H12.out).2.2.2.2).trans (Hb1215.out.mono (by omega)))
    clear hb15
    go_wp2_with fail
    refine (heldIntS_any _ _ _ (applicV t nm zs).length 1 _ Hi15.out hsz15 (by omega) (by omega)).mono ?_
    rintro e w' ⟨rfl, rfl⟩
    go_wp2
    go_ret
    exact ⟨rfl, Hfin.out⟩
end Go.Proofs.Ytbblhjdcpmahkaa

namespace Go.Proofs.Ytbblhjdcpmahkaa
open Go.ChangeShapes Go.WideShapes Go.ChangeAt Go.RowKit

set_option maxRecDepth 100000 in
theorem lawApl_lifted (os : Os) (started : os.Started) (H : Type) (enc : TypeId × Value → H) :
    ReturnsInHanded {} Try.checked os 9 .any (Rows.fnExactApplicableOfSpec.pre6 enc Try.prog Try.f9 Rows.fnExactApplicableOfRow.domain false) (Rows.fnExactApplicableOfSpec.post enc Try.prog Try.f9 false true false false) := by
  refine returnsInHanded_of_change (C := Try.checked) Try.own started (by kernel_rfl) Try.func9
    (ChangeSpec.witness6 (enc := enc) (C := Try.checked) false ⟨#[], #[.agg #[.slice none 0 0, .slice none 0 0, .slice none 0 0], .string ByteArray.empty, .slice none 0 0], []⟩ 8 (by kernel_rfl) (by kernel_rfl) (by kernel_rfl) (by kernel_rfl)) ?_
  intro W base args ds gs before hval0 hW _ _
  have hval : ∀ (j : Nat) t v, Try.f9.params[j]? = some t → args[j]? = some v → Value.okWide Try.prog W .any base t v := hval0
  have hW' := hW
  obtain ⟨p, q, hA0, hV, rfl, _, _⟩ := hW
  have hA : DataW.TrodAll enc Try.prog W 0 (fun _ => true) true Try.f9.params.toList args.toList ds p := hA0
  rw [Try.params9] at hA hval
  obtain ⟨v0, vs0, d0, ds0, p, q0, hargs, rfl, rfl, h0, r0⟩ := trodAll_cons hA
  obtain ⟨v1, vs1, d1, ds1, p1, q1, rfl, rfl, rfl, h1, r1⟩ := trodAll_cons r0
  obtain ⟨v2, vs2, d2, ds2, p2, q2, rfl, rfl, rfl, h2, r2⟩ := trodAll_cons r1
  obtain ⟨rfl, rfl, rfl⟩ := trodAll_nil r2
  obtain rfl : args = #[v0, v1, v2] := by cases args; simp_all
  obtain ⟨rfl, rfl⟩ := trodVars_none hV
  obtain ⟨nm, rfl, rfl, rfl, wnm⟩ := Go.ChangeMaps.open_string Try.underlying9 (hval 1 _ v1 rfl rfl) h1
  obtain ⟨a2, len2, cap2, rfl⟩ := okWide_slice Try.underlying23 (hval 2 _ v2 rfl rfl)
  have hh2 := h2
  obtain ⟨fuel2, hf2⟩ := hh2
  obtain ⟨zs, hzs⟩ := open_intsAt (v := .slice a2 len2 cap2) (by simpa [Value.cells] using hf2)
  obtain ⟨sv, cv, fv, t, rfl, ht⟩ := open_syAt (hval 0 _ v0 rfl rfl) h0
  have hlt : ∀ x ∈ p, x.block < W.heap.size := fun x hx => by simpa using hW'.lt x (by simp [hx])
  have hlt2 : ∀ x ∈ p2, x.block < W.heap.size := fun x hx => by simpa using hW'.lt x (by simp [hx])
  refine (lawApl_walk sv cv fv _ t nm zs W ht hzs wnm).mono fun e W' ⟨he, hb⟩ => ?_
  subst he
  exact ⟨_, rfl, _, _, _, [], _, [], hW', trodAll_mk1 (shut_bool Try.underlying4 _), trodAll_cons_mk (Below.trod Try.laidOut (by kernel_rfl) (of_decide_eq_true (by kernel_rfl)) h0 hb hlt) (trodAll_cons_mk (Go.ChangeMaps.shut_string Try.underlying9 wnm) (trodAll_cons_mk (Below.trod Try.laidOut (by kernel_rfl) (of_decide_eq_true (by kernel_rfl)) h2 hb hlt2) trodAll_mk0)), rfl, hb.frame _, fun h => by cases h⟩

theorem apl_holds : Rows.FnExactApplicableOfSaid :=
  OpenClaim.holds_of_wide 9 Try.f9 rfl rfl rfl rfl rfl rfl rfl ⟨rfl, rfl, rfl, rfl, rfl⟩ rfl rfl rfl rfl rfl (by kernel_rfl) Try.func9 (by kernel_rfl)
    (of_decide_eq_true (by kernel_rfl)) (by unfold Func.isWrapper; first | (rw [if_pos (by decide +kernel)]; kernel_rfl) | (rw [if_neg (by decide +kernel)]; exact ⟨rfl, rfl⟩))
    (fun os started H enc _ => lawApl_lifted os started H enc)
end Go.Proofs.Ytbblhjdcpmahkaa

