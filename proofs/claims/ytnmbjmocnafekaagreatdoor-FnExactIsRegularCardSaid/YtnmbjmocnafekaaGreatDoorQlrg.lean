/-
  FnExactIsRegular: the walk of the law.
-/
import Derived.Test.YtnmbjmocnafekaaGreatDoorG2
import Derived.Test.YtnmbjmocnafekaaGreatDoorG3
import Derived.Test.YtnmbjmocnafekaaGreatDoorG4
import Derived.Deep.RegionHeld3
namespace Go.Proofs.YtnmbjmocnafekaaGreatDoor
open Go.RowKit

set_option maxRecDepth 100000 in
set_option maxHeartbeats 2000000 in
theorem lawRg_walk (sv cv fv : Value) (t : Sy) (w : World) (hv : SyAt w 0 w.heap.size sv cv fv t) (R : Bool)
    (HS0 : ∀ (lo hi : Nat) (s1 c1 f1 : Value) (w1 : World), t.bulk ≤ 1048576 → Below w.heap.size w w1 → SyAt w1 lo hi s1 c1 f1 t → hi ≤ w1.heap.size → Calls Tryz.prog 10 #[.agg #[s1, c1, f1]] w1 fun e w' => e = .returned (.bool R) ∧ Below w1.heap.size w1 w')
    (HI0 : ∀ (lo hi : Nat) (s1 c1 f1 : Value) (w1 : World), t.bulk ≤ 1048576 → Below w.heap.size w w1 → SyAt w1 lo hi s1 c1 f1 t → hi ≤ w1.heap.size → Calls Tryz.prog 12 #[.agg #[s1, c1, f1]] w1 fun e w' => e = .returned (.bool R) ∧ Below w1.heap.size w1 w') :
    Calls Tryz.prog 3 #[.agg #[sv, cv, fv]] w fun e w' => e = .returned (.bool true) ∧ Below w.heap.size w w' := by
  have HS := Lib.hid HS0
  have HI := Lib.hid HI0
  clear HS0 HI0
  obtain ⟨A, cap, rfl, hl1, hm1, _⟩ := hv.1.1.form
  obtain ⟨B, bap, rfl, hl2, hm2, _⟩ := hv.1.2.form
  obtain ⟨F, fap, rfl, hl3, hm3, _⟩ := hv.2.form
  clear hl1 hm1 hl2 hm2 hl3 hm3
  have Hv := Lib.hid hv
  clear hv
  have h1 : Below (w.heap.size + 1) (w.alloc (.cells #[.slice A t.ty.sizes.length cap, .slice B t.ty.cos.length bap, .slice F t.fs.length fap] 28)) (w.alloc (.cells #[.slice A t.ty.sizes.length cap, .slice B t.ty.cos.length bap, .slice F t.fs.length fap] 28)) := Below.refl _ _
  have H1 := Lib.hid h1
  clear h1
  go_enter Tryz.func3, Tryz.ntmps3
  go_wp2_with fail
  refine (szSystem_any 0 w.heap.size _ _ _ t 1048576 _ (by omega) (by omega) (Hv.out.below (box3 H1.out).2.2.2.2 (Nat.le_refl _)) (by simp)).mono ?_
  rintro e w2 ⟨rfl, hb2⟩
  have H2 := Lib.hid (H1.out.trans (hb2.mono (by simp)))
  obtain ⟨q0, q1, q2, hl2, _⟩ := box3 H2.out
  clear hb2
  by_cases hbig : (1048576 : Int) - t.bulk < 0
  · rw [subI_neg hbig]
    go_wp2
    go_ret
    exact ⟨rfl, (box3 H2.out).2.2.2.2⟩
  · rw [subI_pos hbig]
    have hbk : Hid (t.bulk ≤ 1048576) := by show t.bulk ≤ 1048576; omega
    go_wp2_with fail
    refine (toSystem_any 0 w.heap.size _ _ _ t _ (Hv.out.below (box3 H2.out).2.2.2.2 (Nat.le_refl _)) (by omega) hbk.out).mono ?_
    rintro e w3 ⟨rfl, hb3, hs3, hn3⟩
    have H3 := Lib.hid (H2.out.trans (hb3.mono (by omega)))
    have hat := Lib.hid (hn3.at_ Hv.out.fits hbk.out)
    clear hb3 hn3 q0 q1 q2
    have Hs3 := Lib.hid hs3
    clear hs3
    go_wp2_with fail
    refine (HS.out _ _ _ _ _ _ hbk.out (box3 H3.out).2.2.2.2 hat.out (by have := Hs3.out; omega)).mono ?_
    rintro e w4 ⟨rfl, hb4⟩
    have h34 := H3.out.size
    have H4 := Lib.hid (H3.out.trans (hb4.mono (by simp only [World.size_alloc] at h34; omega)))
    obtain ⟨q0, q1, q2, hl4, _⟩ := box3 H4.out
    clear hb4 h34 hat Hs3
    go_wp2_with fail
    refine (toSystem_any 0 w.heap.size _ _ _ t _ (Hv.out.below (box3 H4.out).2.2.2.2 (Nat.le_refl _)) (by omega) hbk.out).mono ?_
    rintro e w5 ⟨rfl, hb5, hs5, hn5⟩
    have H5 := Lib.hid (H4.out.trans (hb5.mono (by omega)))
    have hat := Lib.hid (hn5.at_ Hv.out.fits hbk.out)
    obtain ⟨q0', q1', q2', hl5, _⟩ := box3 H5.out
    clear hb5 hn5 q0 q1 q2
    have Hs5 := Lib.hid hs5
    clear hs5
    go_wp2_with fail
    have hb50 : Below w5.heap.size w5 (w5.alloc (.cells #[.slice (some ⟨w4.heap.size + 6, 0, none⟩) t.ty.sizes.length t.ty.sizes.length, .slice (some ⟨w4.heap.size + 7, 0, none⟩) t.ty.cos.length t.ty.cos.length, .slice (some ⟨w4.heap.size + 8 + 4 * t.ty.cos.length, 0, none⟩) t.fs.length t.fs.length] 36)) := (Below.refl _ _).alloc (Nat.le_refl _) _
    have hat5 := Lib.hid (hat.out.below hb50 (by have := Hs5.out; omega))
    refine (HI.out _ _ _ _ _ _ hbk.out ((box3 H5.out).2.2.2.2.trans (hb50.mono (by omega))) hat5.out (by have := Hs5.out; simp; omega)).mono ?_
    rintro e w6 ⟨rfl, hb6⟩
    have hx6 : Below (w5.heap.size + 1) (w5.alloc (.cells #[.slice (some ⟨w4.heap.size + 6, 0, none⟩) t.ty.sizes.length t.ty.sizes.length, .slice (some ⟨w4.heap.size + 7, 0, none⟩) t.ty.cos.length t.ty.cos.length, .slice (some ⟨w4.heap.size + 8 + 4 * t.ty.cos.length, 0, none⟩) t.fs.length t.fs.length] 36)) w6 := hb6.mono (by simp)
    have H6 := Lib.hid ((H5.out.alloc (by omega) _).trans (hb6.mono (by simp; omega)))
    obtain ⟨q0, q1, q2, hl6, _⟩ := box3 H6.out
    obtain ⟨x0, x1, x2, hl65, hb56⟩ := box3 hx6
    have hat6 := Lib.hid (hat.out.below hb56 (by have := Hs5.out; omega))
    clear hb50 hb6 hx6 q0' q1' q2' hat5 hat
    have hbne : (R != R) = false := by simp
    have Hb56 := Lib.hid hb56
    clear hb56
    go_wp2_with fail
    have H6d : Hid (Below (w.heap.size + 1) (w.alloc (.cells #[.slice A t.ty.sizes.length cap, .slice B t.ty.cos.length bap, .slice F t.fs.length fap] 28)) w6.drew) := H6.out.drew
    have hat6d : Hid (SyAt w6.drew _ _ _ _ _ t) := hat6.out
    have k6 : w6.drew.cell? ⟨w.heap.size, 0, none⟩ = some (.slice A t.ty.sizes.length cap) ∧ w6.drew.cell? ⟨w.heap.size, 1, none⟩ = some (.slice B t.ty.cos.length bap) ∧ w6.drew.cell? ⟨w.heap.size, 2, none⟩ = some (.slice F t.fs.length fap) ∧ w6.drew.cell? ⟨w5.heap.size, 0, none⟩ = some (.slice (some ⟨w4.heap.size + 6, 0, none⟩) t.ty.sizes.length t.ty.sizes.length) ∧ w6.drew.cell? ⟨w5.heap.size, 1, none⟩ = some (.slice (some ⟨w4.heap.size + 7, 0, none⟩) t.ty.cos.length t.ty.cos.length) ∧ w6.drew.cell? ⟨w5.heap.size, 2, none⟩ = some (.slice (some ⟨w4.heap.size + 8 + 4 * t.ty.cos.length, 0, none⟩) t.fs.length t.fs.length) := ⟨q0, q1, q2, x0, x1, x2⟩
    have K6 := Lib.hid k6
    clear k6
    go_region_held3 (fun w' => w'.cell? ⟨w.heap.size, 0, none⟩ = some (.slice A t.ty.sizes.length cap) ∧ w'.cell? ⟨w.heap.size, 1, none⟩ = some (.slice B t.ty.cos.length bap) ∧ w'.cell? ⟨w.heap.size, 2, none⟩ = some (.slice F t.fs.length fap) ∧ w'.cell? ⟨w5.heap.size, 0, none⟩ = some (.slice (some ⟨w4.heap.size + 6, 0, none⟩) t.ty.sizes.length t.ty.sizes.length) ∧ w'.cell? ⟨w5.heap.size, 1, none⟩ = some (.slice (some ⟨w4.heap.size + 7, 0, none⟩) t.ty.cos.length t.ty.cos.length) ∧ w'.cell? ⟨w5.heap.size, 2, none⟩ = some (.slice (some ⟨w4.heap.size + 8 + 4 * t.ty.cos.length, 0, none⟩) t.fs.length t.fs.length))
      (first | exact K6.out | exact K7.out | exact K8.out)
      (first
        | (go_at_call 11
           refine (toSystem_any 0 w.heap.size _ _ _ t w6.drew (Hv.out.below (box3 H6d.out).2.2.2.2 (Nat.le_refl _)) (Nat.le_of_lt (box3 H6d.out).2.2.2.1) hbk.out).mono ?_
           rintro e w7 ⟨rfl, hb7, hs7, hn7⟩
           have H7 := Lib.hid (H6d.out.trans (hb7.mono (box3 H6d.out).2.2.2.1))
           have hat7 := Lib.hid (hn7.at_ Hv.out.fits hbk.out)
           have hat67 := Lib.hid (hat6d.out.below hb7 (by have := Hs5.out; show _ ≤ w6.heap.size; omega))
           have Hs7 := Lib.hid hs7
           have hb7s := hb7.size
           have hb67 : w6.heap.size ≤ w7.heap.size := hb7s
           have K7 : Hid (w7.cell? ⟨w.heap.size, 0, none⟩ = some (.slice A t.ty.sizes.length cap) ∧ w7.cell? ⟨w.heap.size, 1, none⟩ = some (.slice B t.ty.cos.length bap) ∧ w7.cell? ⟨w.heap.size, 2, none⟩ = some (.slice F t.fs.length fap) ∧ w7.cell? ⟨w5.heap.size, 0, none⟩ = some (.slice (some ⟨w4.heap.size + 6, 0, none⟩) t.ty.sizes.length t.ty.sizes.length) ∧ w7.cell? ⟨w5.heap.size, 1, none⟩ = some (.slice (some ⟨w4.heap.size + 7, 0, none⟩) t.ty.cos.length t.ty.cos.length) ∧ w7.cell? ⟨w5.heap.size, 2, none⟩ = some (.slice (some ⟨w4.heap.size + 8 + 4 * t.ty.cos.length, 0, none⟩) t.fs.length t.fs.length)) :=
             ⟨(box3 H7.out).1, (box3 H7.out).2.1, (box3 H7.out).2.2.1, (hb7.cell (p := ⟨w5.heap.size, 0, none⟩) hl65).trans K6.out.2.2.2.1, (hb7.cell (p := ⟨w5.heap.size, 1, none⟩) hl65).trans K6.out.2.2.2.2.1, (hb7.cell (p := ⟨w5.heap.size, 2, none⟩) hl65).trans K6.out.2.2.2.2.2⟩
           clear hb7 hn7 hs7 hb7s)
        | (go_at_call 13
           refine (eqSystem_same _ _ _ _ _ _ _ _ _ _ t _ hat67.out hat7.out (by have := Hs5.out; omega) (by have h : w7.heap.size = w6.heap.size + 9 + 4 * t.ty.cos.length + 5 * t.fs.length := Hs7.out; show w6.heap.size + 6 + 3 + 4 * t.ty.cos.length + 5 * t.fs.length ≤ _; omega)).mono ?_
           rintro e w8 ⟨rfl, hb8⟩
           have H8 := Lib.hid (H7.out.trans (hb8.mono (by omega)))
           have K8 : Hid (w8.cell? ⟨w.heap.size, 0, none⟩ = some (.slice A t.ty.sizes.length cap) ∧ w8.cell? ⟨w.heap.size, 1, none⟩ = some (.slice B t.ty.cos.length bap) ∧ w8.cell? ⟨w.heap.size, 2, none⟩ = some (.slice F t.fs.length fap) ∧ w8.cell? ⟨w5.heap.size, 0, none⟩ = some (.slice (some ⟨w4.heap.size + 6, 0, none⟩) t.ty.sizes.length t.ty.sizes.length) ∧ w8.cell? ⟨w5.heap.size, 1, none⟩ = some (.slice (some ⟨w4.heap.size + 7, 0, none⟩) t.ty.cos.length t.ty.cos.length) ∧ w8.cell? ⟨w5.heap.size, 2, none⟩ = some (.slice (some ⟨w4.heap.size + 8 + 4 * t.ty.cos.length, 0, none⟩) t.fs.length t.fs.length)) :=
             ⟨(box3 H8.out).1, (box3 H8.out).2.1, (box3 H8.out).2.2.1, (hb8.cell (p := ⟨w5.heap.size, 0, none⟩) (by dsimp only; omega)).trans K7.out.2.2.2.1, (hb8.cell (p := ⟨w5.heap.size, 1, none⟩) (by dsimp only; omega)).trans K7.out.2.2.2.2.1, (hb8.cell (p := ⟨w5.heap.size, 2, none⟩) (by dsimp only; omega)).trans K7.out.2.2.2.2.2⟩
           clear hb8))
    go_wp2
    go_ret
    exact ⟨rfl, (box3 H8.out).2.2.2.2⟩
end Go.Proofs.YtnmbjmocnafekaaGreatDoor

