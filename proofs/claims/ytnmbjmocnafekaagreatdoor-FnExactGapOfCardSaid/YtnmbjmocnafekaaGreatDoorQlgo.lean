/-
  FnExactGapOf: the walk of the law.
-/
import Derived.Test.YtnmbjmocnafekaaGreatDoorG2
import Derived.Test.YtnmbjmocnafekaaGreatDoorG3
import Derived.Test.YtnmbjmocnafekaaGreatDoorG4
import Derived.Test.YtnmbjmocnafekaaGreatDoorG7
import Derived.Test.YtnmbjmocnafekaaGreatDoorQmk
import Derived.Deep.RegionHeld3
import Derived.Test.YtnmbjmocnafekaaGreatDoorQlgp
namespace Go.Proofs.YtnmbjmocnafekaaGreatDoor
open Go.RowKit

theorem markL_wf (k : Int) (n : Nat) (h0 : 0 ≤ k) (h1 : k + n ≤ 1000000000) : ∀ z ∈ markL k n, I64 z := by
  intro z hz
  unfold markL at hz
  obtain ⟨i, hi, rfl⟩ := List.mem_map.1 hz
  have := List.mem_range.1 hi
  unfold I64
  omega
theorem lenSum_maps (t : Ty) (n : Nat) (hn : n ≤ t.cos.length) : lenSum (fun j => t.cos.getD j default) n = mapsLen t.cos n := by
  induction n with
  | zero => rfl
  | succ n ih =>
    rw [mapsLen_succ t.cos n (by omega), ← ih (by omega)]
    rfl

theorem newUses {g n : Nat} {ss : List Int} {f : Nat → Co} {k : Nat} (h : OwnTy.uses g (g + 1) (fun j => g + 1 + 1 + 4 * j + 3) ss n f k) : g ≤ k ∧ k < g + 2 + 4 * n := by
  rcases h with ⟨_, rfl⟩ | ⟨_, rfl⟩ | ⟨i, hi, _, rfl⟩
  · omega
  · omega
  · dsimp only; omega

theorem lenF_sum (fs : List Fu) (n : Nat) (hn : n ≤ fs.length) : lenF (fun j => fs.getD j default) n ≤ fusLen fs n := by
  induction n with
  | zero => exact Nat.zero_le _
  | succ n ih =>
    rw [fusLen_succ fs n (by omega)]
    have := ih (by omega)
    show lenF (fun j => fs.getD j default) n + (fs.getD n default).args.length + (fs.getD n default).table.length ≤ _
    unfold Fu.weight
    omega
theorem newUsesS {g nc nf : Nat} {ss : List Int} {f : Nat → Co} {ff : Nat → Fu} {k : Nat} (h : OwnSy.uses g (g + 1) (fun j => g + 1 + 1 + 4 * j + 3) ss nc f (g + 2 + 4 * nc) (fun j b => g + 2 + 4 * nc + 1 + 5 * j + (if b then 4 else 3)) nf ff k) : g ≤ k ∧ k < g + 3 + 4 * nc + 5 * nf := by
  rcases h with h | h
  · have := newUses h
    omega
  · rcases not_keeps h with ⟨h0, rfl⟩ | ⟨i, b, hi, _, rfl⟩
    · omega
    · cases b <;> simp <;> omega

set_option maxRecDepth 100000 in
set_option maxHeartbeats 1500000 in
theorem lawGo_walk (sv cv fv : Value) (t : Sy) (w : World) (hv : SyAt w 0 w.heap.size sv cv fv t) (nm : ByteArray) (b : Bool) (ys : List Int) (hzw : ∀ z ∈ ys, I64 z) (hzl : ys.length ≤ 1048576)
    (HS0 : ∀ (lo hi : Nat) (s1 c1 f1 : Value) (w1 : World), t.bulk ≤ 1048576 → Below w.heap.size w w1 → SyAt w1 lo hi s1 c1 f1 t → hi ≤ w1.heap.size → Calls Tryz.prog 14 #[.agg #[s1, c1, f1]] w1 fun e w' => ∃ v, e = .returned (.tuple #[.agg #[.string nm, v], .bool b]) ∧ Below w1.heap.size w1 w' ∧ IntsAt w' w1.heap.size w'.heap.size v ys)
    (HI0 : ∀ (lo hi : Nat) (s1 c1 f1 : Value) (w1 : World), t.bulk ≤ 1048576 → Below w.heap.size w w1 → SyAt w1 lo hi s1 c1 f1 t → hi ≤ w1.heap.size → Calls Tryz.prog 15 #[.agg #[s1, c1, f1]] w1 fun e w' => ∃ v, e = .returned (.tuple #[.agg #[.string nm, v], .bool b]) ∧ Below w1.heap.size w1 w' ∧ w'.ownsRow w1.heap.size 3 1 v ys.length (ys.map (Value.int .i64))) :
    Calls Tryz.prog 4 #[.agg #[sv, cv, fv]] w fun e w' => e = .returned (.bool true) ∧ Below w.heap.size w w' := by
  have HS := Lib.hid HS0
  have HI := Lib.hid HI0
  have Hzw := Lib.hid hzw
  have hbb : (b != b) = false := by simp
  clear HS0 HI0 hzw
  obtain ⟨A, cap, rfl, hl1, hm1, _⟩ := hv.1.1.form
  obtain ⟨B, bap, rfl, hl2, hm2, _⟩ := hv.1.2.form
  obtain ⟨F, fap, rfl, hl3, hm3, _⟩ := hv.2.form
  clear hl1 hm1 hl2 hm2 hl3 hm3
  have Hv := Lib.hid hv
  clear hv
  have h1 : Below (w.heap.size + 1) (w.alloc (.cells #[.slice A t.ty.sizes.length cap, .slice B t.ty.cos.length bap, .slice F t.fs.length fap] 28)) (w.alloc (.cells #[.slice A t.ty.sizes.length cap, .slice B t.ty.cos.length bap, .slice F t.fs.length fap] 28)) := Below.refl _ _
  have H1 := Lib.hid h1
  clear h1
  go_enter Tryz.func4, Tryz.ntmps4
  go_wp2_with fail
  refine (szSystem_any 0 w.heap.size _ _ _ t 1048576 _ (by omega) (by omega) (Hv.out.below (box3 H1.out).2.2.2.2 (Nat.le_refl _)) (by simp)).mono ?_
  rintro e w2 ⟨rfl, hb2⟩
  have H2 := Lib.hid (H1.out.trans (hb2.mono (by simp)))
  obtain ⟨q0, q1, q2, hl2, _⟩ := box3 H2.out
  clear hb2
  by_cases hbig : (1048576 : Int) - t.bulk < 0
  · rw [subI_neg hbig]
    go_wp2
    go_ret
    exact ⟨rfl, (box3 H2.out).2.2.2.2⟩
  · rw [subI_pos hbig]
    have hbk : Hid (t.bulk ≤ 1048576) := by show t.bulk ≤ 1048576; omega
    go_wp2_with fail
    refine (toSystem_any 0 w.heap.size _ _ _ t _ (Hv.out.below (box3 H2.out).2.2.2.2 (Nat.le_refl _)) (by omega) hbk.out).mono ?_
    rintro e w3 ⟨rfl, hb3, hs3, hn3⟩
    have H3 := Lib.hid (H2.out.trans (hb3.mono (by omega)))
    have hat := Lib.hid (hn3.at_ Hv.out.fits hbk.out)
    clear hb3 hn3 q0 q1 q2
    have Hs3 := Lib.hid hs3
    clear hs3
    go_wp2_with fail
    refine (HS.out _ _ _ _ _ _ hbk.out (box3 H3.out).2.2.2.2 hat.out (by have := Hs3.out; omega)).mono ?_
    rintro e wq ⟨v0, rfl, hbq, hiq⟩
    obtain ⟨A0, cap0, rfl, _, _, _⟩ := hiq.form
    obtain ⟨w4, hw4⟩ : ∃ u, u = wq.alloc (.cells #[.string nm, .slice A0 ys.length cap0] 41) := ⟨_, rfl⟩
    have hq4 : Below wq.heap.size wq w4 := by rw [hw4]; exact (Below.refl _ _).alloc (Nat.le_refl _) _
    have hqs : w4.heap.size ≤ wq.heap.size + 1 := by rw [hw4]; simp
    have hqs' : wq.heap.size + 1 ≤ w4.heap.size := by rw [hw4]; simp
    have G4 : Hid (Row w4 wq.heap.size 41 [.string nm, .slice A0 ys.length cap0]) := by show Row _ _ _ _; rw [hw4]; exact Row.new _ _ _
    have h34 := H3.out.size
    have Hi4 := Lib.hid (hiq.below hq4 (Nat.le_refl _))
    have hbq4 := hbq.trans (hq4.mono hbq.size)
    have H4 := Lib.hid (H3.out.trans (hbq4.mono (by simp only [World.size_alloc] at h34; omega)))
    have h34s := hbq4.size
    have hqsz := hbq.size
    obtain ⟨q0, q1, q2, hl4, _⟩ := box3 H4.out
    rw [hw4] at q0 q1 q2
    clear hbq hbq4 hq4 h34 hat Hs3 hiq
    go_wp2_with fail
    rw [← hw4]
    clear hw4
    refine (toSystem_any 0 w.heap.size _ _ _ t _ (Hv.out.below (box3 H4.out).2.2.2.2 (Nat.le_refl _)) (by omega) hbk.out).mono ?_
    rintro e w5 ⟨rfl, hb5, hs5, hn5⟩
    have Hb45 := Lib.hid hb5
    have H5 := Lib.hid (H4.out.trans (hb5.mono (by omega)))
    have hat := Lib.hid (hn5.at_ Hv.out.fits hbk.out)
    have Hn5 := Lib.hid hn5
    obtain ⟨q0', q1', q2', hl5, _⟩ := box3 H5.out
    clear hb5 hn5 q0 q1 q2
    have Hs5 := Lib.hid hs5
    clear hs5
    go_wp2_with fail
    have hb50 : Below w5.heap.size w5 (w5.alloc (.cells #[.slice (some ⟨w4.heap.size + 6, 0, none⟩) t.ty.sizes.length t.ty.sizes.length, .slice (some ⟨w4.heap.size + 7, 0, none⟩) t.ty.cos.length t.ty.cos.length, .slice (some ⟨w4.heap.size + 8 + 4 * t.ty.cos.length, 0, none⟩) t.fs.length t.fs.length] 36)) := (Below.refl _ _).alloc (Nat.le_refl _) _
    have hat5 := Lib.hid (hat.out.below hb50 (by have := Hs5.out; omega))
    refine (HI.out _ _ _ _ _ _ hbk.out ((box3 H5.out).2.2.2.2.trans (hb50.mono (by omega))) hat5.out (by have := Hs5.out; simp; omega)).mono ?_
    rintro e wr ⟨v1, rfl, hbr, hownr⟩
    obtain ⟨g1, ho1, hg1⟩ := OwnI.of_owns hownr
    simp only [World.size_alloc] at hg1
    have hrsz := hbr.size
    simp only [World.size_alloc] at hrsz
    have hir := ho1.ints (lo := w5.heap.size + 1) (hi := wr.heap.size) (Hzw.out) hg1
    obtain ⟨A1, cap1, rfl, _, _, _⟩ := hir.form
    obtain ⟨w6, hw6⟩ : ∃ u, u = wr.alloc (.cells #[.string nm, .slice A1 ys.length cap1] 41) := ⟨_, rfl⟩
    have hr6 : Below wr.heap.size wr w6 := by rw [hw6]; exact (Below.refl _ _).alloc (Nat.le_refl _) _
    have hrs6 : w6.heap.size ≤ wr.heap.size + 1 := by rw [hw6]; simp
    have hrs6' : wr.heap.size + 1 ≤ w6.heap.size := by rw [hw6]; simp
    have G6 : Hid (Row w6 wr.heap.size 41 [.string nm, .slice A1 ys.length cap1]) := by show Row _ _ _ _; rw [hw6]; exact Row.new _ _ _
    have hb6 := hbr.trans (hr6.mono hbr.size)
    have Hg1 : Hid (0 < ys.length → w5.heap.size + 1 ≤ g1 ∧ g1 < wr.heap.size) := hg1
    have Hi6 : Hid (IntsAt w6 (w5.heap.size + 1) w6.heap.size (.slice A1 ys.length cap1) ys) := by
      have h9 : OwnI w6 3 g1 (.slice A1 ys.length cap1) ys := ho1.keep fun h => hr6.block g1 (hg1 h).2
      exact h9.ints (lo := w5.heap.size + 1) (hi := w6.heap.size) Hzw.out fun h => ⟨(hg1 h).1, by have := (hg1 h).2; omega⟩
    have Ho6 : Hid (OwnI w6 3 g1 (.slice A1 ys.length cap1) ys) := ho1.keep fun h => hr6.block g1 (hg1 h).2
    have hx6 := Lib.hid (hb6.mono (by simp) : Below (w5.heap.size + 1) (w5.alloc (.cells #[.slice (some ⟨w4.heap.size + 6, 0, none⟩) t.ty.sizes.length t.ty.sizes.length, .slice (some ⟨w4.heap.size + 7, 0, none⟩) t.ty.cos.length t.ty.cos.length, .slice (some ⟨w4.heap.size + 8 + 4 * t.ty.cos.length, 0, none⟩) t.fs.length t.fs.length] 36)) w6)
    have H6 := Lib.hid ((H5.out.alloc (by omega) _).trans (hb6.mono (by simp; omega)))
    have Hb46 := Lib.hid ((Hb45.out.trans (hb50.mono Hb45.out.size)).trans (hb6.mono (by have := Hb45.out.size; simp; omega)))
    have hs56 : w5.heap.size < w6.heap.size := (box3 hx6.out).2.2.2.1
    have hg46 : Row w6 wq.heap.size 41 [.string nm, .slice A0 ys.length cap0] := G4.out.below Hb46.out (by omega)
    have c40 := hg46.cell 0
    have c41 := hg46.cell 1
    have c60 := G6.out.cell 0
    have c61 := G6.out.cell 1
    simp only [List.getElem?_cons_zero, List.getElem?_cons_succ] at c40 c41 c60 c61
    rw [hw6] at c40 c41 c60 c61
    clear hb6 hb50 q0' q1' q2' hat5 hownr ho1 hg1 hbr hr6 hir hg46
    go_wp2_with fail
    rw [← hw6]
    clear hw6 c40 c41 c60 c61
    refine (eqGap_same _ _ _ _ nm _ _ ys _ Hi6.out (Hi4.out.below Hb46.out (by omega)) (Nat.le_refl _) (by have := Hb46.out.size; omega)).mono ?_
    rintro e w7 ⟨rfl, hb67⟩
    have Hb67 := Lib.hid hb67
    have H7 := Lib.hid (H6.out.trans (hb67.mono (by omega)))
    have Hx7 := Lib.hid (hx6.out.trans (hb67.mono (by omega)))
    have hat7 := Lib.hid (hat.out.below ((box3 hx6.out).2.2.2.2.trans (hb67.mono (by omega))) (by have := Hs5.out; omega))
    clear hb67 hat hx6
    go_wp2_with fail
    have H7d : Hid (Below (w.heap.size + 1) (w.alloc (.cells #[.slice A t.ty.sizes.length cap, .slice B t.ty.cos.length bap, .slice F t.fs.length fap] 28)) w7.drew) := H7.out.drew
    have Hx7d : Hid (Below (w5.heap.size + 1) (w5.alloc (.cells #[.slice (some ⟨w4.heap.size + 6, 0, none⟩) t.ty.sizes.length t.ty.sizes.length, .slice (some ⟨w4.heap.size + 7, 0, none⟩) t.ty.cos.length t.ty.cos.length, .slice (some ⟨w4.heap.size + 8 + 4 * t.ty.cos.length, 0, none⟩) t.fs.length t.fs.length] 36)) w7.drew) := Hx7.out.drew
    have hat7d : Hid (SyAt w7.drew _ _ _ _ _ t) := hat7.out
    have Hb47 : Hid (Below w4.heap.size w4 w7.drew) := (Hb46.out.trans (Hb67.out.mono Hb46.out.size)).drew
    have Hb67d : Hid (Below w6.heap.size w6 w7.drew) := Hb67.out.drew
    have K7 : Hid (w7.drew.cell? ⟨w.heap.size, 0, none⟩ = some (.slice A t.ty.sizes.length cap) ∧ w7.drew.cell? ⟨w.heap.size, 1, none⟩ = some (.slice B t.ty.cos.length bap) ∧ w7.drew.cell? ⟨w.heap.size, 2, none⟩ = some (.slice F t.fs.length fap) ∧ w7.drew.cell? ⟨w5.heap.size, 0, none⟩ = some (.slice (some ⟨w4.heap.size + 6, 0, none⟩) t.ty.sizes.length t.ty.sizes.length) ∧ w7.drew.cell? ⟨w5.heap.size, 1, none⟩ = some (.slice (some ⟨w4.heap.size + 7, 0, none⟩) t.ty.cos.length t.ty.cos.length) ∧ w7.drew.cell? ⟨w5.heap.size, 2, none⟩ = some (.slice (some ⟨w4.heap.size + 8 + 4 * t.ty.cos.length, 0, none⟩) t.fs.length t.fs.length)) := ⟨(box3 H7d.out).1, (box3 H7d.out).2.1, (box3 H7d.out).2.2.1, (box3 Hx7d.out).1, (box3 Hx7d.out).2.1, (box3 Hx7d.out).2.2.1⟩
    clear H7 Hx7 hat7 Hb67
    go_region_held3 (fun w' => w'.cell? ⟨w.heap.size, 0, none⟩ = some (.slice A t.ty.sizes.length cap) ∧ w'.cell? ⟨w.heap.size, 1, none⟩ = some (.slice B t.ty.cos.length bap) ∧ w'.cell? ⟨w.heap.size, 2, none⟩ = some (.slice F t.fs.length fap) ∧ w'.cell? ⟨w5.heap.size, 0, none⟩ = some (.slice (some ⟨w4.heap.size + 6, 0, none⟩) t.ty.sizes.length t.ty.sizes.length) ∧ w'.cell? ⟨w5.heap.size, 1, none⟩ = some (.slice (some ⟨w4.heap.size + 7, 0, none⟩) t.ty.cos.length t.ty.cos.length) ∧ w'.cell? ⟨w5.heap.size, 2, none⟩ = some (.slice (some ⟨w4.heap.size + 8 + 4 * t.ty.cos.length, 0, none⟩) t.fs.length t.fs.length))
      (first | exact K7.out | exact K8.out | exact K9.out)
      (first
        | (go_at_call 11
           refine (toSystem_any 0 w.heap.size _ _ _ t w7.drew (Hv.out.below (box3 H7d.out).2.2.2.2 (Nat.le_refl _)) (Nat.le_of_lt (box3 H7d.out).2.2.2.1) hbk.out).mono ?_
           rintro e w8 ⟨rfl, hb8, hs8, hn8⟩
           have H8 := Lib.hid (H7d.out.trans (hb8.mono (box3 H7d.out).2.2.2.1))
           have Hx8 := Lib.hid (Hx7d.out.trans (hb8.mono (box3 Hx7d.out).2.2.2.1))
           have hat8 := Lib.hid (hn8.at_ Hv.out.fits hbk.out)
           have hat78 := Lib.hid (hat7d.out.below hb8 (by have h := Hs5.out; have h2 := (box3 Hx7d.out).2.2.2.1; omega))
           have Hb48 := Lib.hid (Hb47.out.trans (hb8.mono Hb47.out.size))
           have Hb68 := Lib.hid (Hb67d.out.trans (hb8.mono Hb67d.out.size))
           have Hs8 := Lib.hid hs8
           have hb8s := Lib.hid hb8.size
           have K8 : Hid (w8.cell? ⟨w.heap.size, 0, none⟩ = some (.slice A t.ty.sizes.length cap) ∧ w8.cell? ⟨w.heap.size, 1, none⟩ = some (.slice B t.ty.cos.length bap) ∧ w8.cell? ⟨w.heap.size, 2, none⟩ = some (.slice F t.fs.length fap) ∧ w8.cell? ⟨w5.heap.size, 0, none⟩ = some (.slice (some ⟨w4.heap.size + 6, 0, none⟩) t.ty.sizes.length t.ty.sizes.length) ∧ w8.cell? ⟨w5.heap.size, 1, none⟩ = some (.slice (some ⟨w4.heap.size + 7, 0, none⟩) t.ty.cos.length t.ty.cos.length) ∧ w8.cell? ⟨w5.heap.size, 2, none⟩ = some (.slice (some ⟨w4.heap.size + 8 + 4 * t.ty.cos.length, 0, none⟩) t.fs.length t.fs.length)) := ⟨(box3 H8.out).1, (box3 H8.out).2.1, (box3 H8.out).2.2.1, (box3 Hx8.out).1, (box3 Hx8.out).2.1, (box3 Hx8.out).2.2.1⟩
           clear hb8 hn8 hs8)
        | (go_at_call 13
           refine (eqSystem_same _ _ _ _ _ _ _ _ _ _ t _ hat78.out hat8.out (by have h := Hs5.out; have h2 := (box3 Hx8.out).2.2.2.1; omega) (by have h := Hs8.out; omega)).mono ?_
           rintro e w9 ⟨rfl, hb9⟩
           have H9 := Lib.hid (H8.out.trans (hb9.mono (box3 H8.out).2.2.2.1))
           have Hx9 := Lib.hid (Hx8.out.trans (hb9.mono (box3 Hx8.out).2.2.2.1))
           have Hb49 := Lib.hid (Hb48.out.trans (hb9.mono Hb48.out.size))
           have Hb69 := Lib.hid (Hb68.out.trans (hb9.mono Hb68.out.size))
           have K9 : Hid (w9.cell? ⟨w.heap.size, 0, none⟩ = some (.slice A t.ty.sizes.length cap) ∧ w9.cell? ⟨w.heap.size, 1, none⟩ = some (.slice B t.ty.cos.length bap) ∧ w9.cell? ⟨w.heap.size, 2, none⟩ = some (.slice F t.fs.length fap) ∧ w9.cell? ⟨w5.heap.size, 0, none⟩ = some (.slice (some ⟨w4.heap.size + 6, 0, none⟩) t.ty.sizes.length t.ty.sizes.length) ∧ w9.cell? ⟨w5.heap.size, 1, none⟩ = some (.slice (some ⟨w4.heap.size + 7, 0, none⟩) t.ty.cos.length t.ty.cos.length) ∧ w9.cell? ⟨w5.heap.size, 2, none⟩ = some (.slice (some ⟨w4.heap.size + 8 + 4 * t.ty.cos.length, 0, none⟩) t.fs.length t.fs.length)) := ⟨(box3 H9.out).1, (box3 H9.out).2.1, (box3 H9.out).2.2.1, (box3 Hx9.out).1, (box3 Hx9.out).2.1, (box3 Hx9.out).2.2.1⟩
           clear hb9))
    obtain ⟨_, _, _, y0, y1, y2⟩ := K9.out
    have hb59 : Below w5.heap.size w5 w9 := (box3 Hx9.out).2.2.2.2
    have hty9 := (Hn5.out.below hb59 (by have := Hs5.out; omega)).own hbk.out
    have hls : lenSum (fun j => t.ty.cos.getD j default) t.ty.cos.length = mapsLen t.ty.cos t.ty.cos.length := lenSum_maps t.ty _ (Nat.le_refl _)
    have hlf : lenF (fun j => t.fs.getD j default) t.fs.length ≤ fusLen t.fs t.fs.length := lenF_sum t.fs _ (Nat.le_refl _)
    have hbulk : t.ty.sizes.length + t.ty.cos.length + mapsLen t.ty.cos t.ty.cos.length + (t.fs.length + fusLen t.fs t.fs.length) ≤ 1048576 := hbk.out
    have hcnt : Hid ((1 : Int) + (t.ty.sizes.length : Int) + 2 * (t.ty.cos.length : Int) + (lenSum (fun j => t.ty.cos.getD j default) t.ty.cos.length : Int) + 2 * (t.fs.length : Int) + (lenF (fun j => t.fs.getD j default) t.fs.length : Int) ≤ 900000000) := by show _ ≤ _; rw [hls]; omega
    have hM0 : (0 : Int) ≤ markAtF (fun j => t.fs.getD j default) (markAt (fun j => t.ty.cos.getD j default) (1 + (t.ty.sizes.length : Int)) t.ty.cos.length) t.fs.length := by
      show (0 : Int) ≤ 1 + (t.ty.sizes.length : Int) + 2 * (t.ty.cos.length : Int) + ((lenSum (fun j => t.ty.cos.getD j default) t.ty.cos.length : Nat) : Int) + 2 * (t.fs.length : Int) + ((lenF (fun j => t.fs.getD j default) t.fs.length : Nat) : Int)
      omega
    have Hty9 := Lib.hid hty9
    have Hb59 := Lib.hid hb59
    have hle := hzl
    clear hls hlf hty9 hb59
    go_wp2_with fail
    refine (markSystem_any _ _ _ _ _ _ _ _ _ _ _ _ _ _ _ 1 _ Hty9.out (by omega) hcnt.out).mono ?_
    rintro e w10 ⟨rfl, hk10⟩
    generalize markAtF (fun j => t.fs.getD j default) (markAt (fun j => t.ty.cos.getD j default) (1 + (t.ty.sizes.length : Int)) t.ty.cos.length) t.fs.length = M at hM0 ⊢
    have hneg : decide (M < 0) = false := by simp; omega
    have hu : ∀ k, OwnSy.uses (w4.heap.size + 6) (w4.heap.size + 6 + 1) (fun j => w4.heap.size + 6 + 1 + 1 + 4 * j + 3) t.ty.sizes t.ty.cos.length (fun j => t.ty.cos.getD j default) (w4.heap.size + 6 + 2 + 4 * t.ty.cos.length) (fun j b => w4.heap.size + 6 + 2 + 4 * t.ty.cos.length + 1 + 5 * j + (if b then 4 else 3)) t.fs.length (fun j => t.fs.getD j default) k → w4.heap.size < k ∧ k < w5.heap.size := fun k h => by
      have := newUsesS h
      have := Hs5.out
      omega
    have hb9to10 : Below w4.heap.size w9 w10 := hk10.below Hb49.out.size (fun k hk h => by have := hu k h; omega)
    have Hb410 := Lib.hid (Hb49.out.trans hb9to10)
    have ho10 : OwnI w10 3 g1 (.slice A1 ys.length cap1) ys := Ho6.out.keep fun h => by
      have hg := Hg1.out h
      exact (hk10.block g1 (by have := Hb69.out.size; omega) (fun h2 => by have := hu g1 h2; omega)).trans (Hb69.out.block g1 (by omega))
    have Ho10 := Lib.hid ho10
    have hsz10 : w6.heap.size ≤ w10.heap.size := Nat.le_trans Hb69.out.size hk10.size
    have Hi10 : Hid (IntsAt w10 (w5.heap.size + 1) w6.heap.size (.slice A1 ys.length cap1) ys) := ho10.ints (lo := w5.heap.size + 1) (hi := w6.heap.size) Hzw.out fun h => ⟨(Hg1.out h).1, by have := (Hg1.out h).2; omega⟩
    have G610 : Hid (Row w10 wr.heap.size 41 [.string nm, .slice A1 ys.length cap1]) := by
      have h9 : Row w9 wr.heap.size 41 [.string nm, .slice A1 ys.length cap1] := G6.out.below Hb69.out (by omega)
      exact h9.keep (hk10.block wr.heap.size h9.lt (fun h2 => by have := hu wr.heap.size h2; omega))
    have hg410 : Row w10 wq.heap.size 41 [.string nm, .slice A0 ys.length cap0] := G4.out.below Hb410.out (by omega)
    have c40 := hg410.cell 0
    have c41 := hg410.cell 1
    have c60 := G610.out.cell 0
    have c61 := G610.out.cell 1
    simp only [List.getElem?_cons_zero, List.getElem?_cons_succ] at c40 c41 c60 c61
    clear hk10 hu hb9to10 ho10 hg410
    go_wp2_with fail
    refine (eqGap_same _ _ _ _ nm _ _ ys _ Hi10.out (Hi4.out.below Hb410.out (by omega)) hsz10 (by have := Hb410.out.size; omega)).mono ?_
    clear c40 c41 c60 c61
    rintro e w11 ⟨rfl, hb11⟩
    have Ho11 := Lib.hid (Ho10.out.keep (w' := w11) fun h => hb11.block g1 (by have := Hg1.out h; omega))
    have Hb411 := Lib.hid (Hb410.out.trans (hb11.mono Hb410.out.size))
    have hsz11 : w6.heap.size ≤ w11.heap.size := Nat.le_trans hsz10 hb11.size
    have G611 : Hid (Row w11 wr.heap.size 41 [.string nm, .slice A1 ys.length cap1]) := G610.out.below hb11 G610.out.lt
    have c60 := G611.out.cell 0
    have c61 := G611.out.cell 1
    simp only [List.getElem?_cons_zero, List.getElem?_cons_succ] at c60 c61
    clear hb11
    go_wp2_with fail
    refine (markGap_any g1 nm _ ys 1 _ Ho11.out (fun h => by have := (Hg1.out h).2; omega) (by omega) (by omega)).mono ?_
    clear c60 c61
    rintro e w12 ⟨rfl, hk12, ho12⟩
    have hs12 : w11.heap.size ≤ w12.heap.size := hk12.size
    have Hb412 := Lib.hid (Hb411.out.trans (hk12.below Hb411.out.size (fun k hk h e => by have h2 := Hg1.out h; have h3 := Hb45.out.size; omega)))
    have Ho12 := Lib.hid ho12
    have Hg12 : Hid (0 < (markL 1 ys.length).length → w5.heap.size + 1 ≤ g1 ∧ g1 < w6.heap.size) := fun h => ⟨(Hg1.out (by rw [markL_len] at h; exact h)).1, by have := (Hg1.out (by rw [markL_len] at h; exact h)).2; omega⟩
    have Hi12 := Lib.hid (ho12.ints (lo := w5.heap.size + 1) (hi := w6.heap.size) (markL_wf 1 _ (by omega) (by omega)) Hg12.out)
    have hsz12 : w6.heap.size ≤ w12.heap.size := Nat.le_trans hsz11 hs12
    have G612 : Hid (Row w12 wr.heap.size 41 [.string nm, .slice A1 ys.length cap1]) := G611.out.keep (hk12.block wr.heap.size G611.out.lt (fun h e => by have := (Hg1.out h).2; omega))
    have c60 := G612.out.cell 0
    have c61 := G612.out.cell 1
    simp only [List.getElem?_cons_zero, List.getElem?_cons_succ] at c60 c61
    clear hk12 ho12
    go_wp2_with fail
    refine (heldGap_any _ _ nm _ ys.length 1 _ Hi12.out hsz12 (by omega) (by omega)).mono ?_
    clear c60 c61
    rintro e w12b ⟨rfl, hb12b⟩
    have Hb412b := Lib.hid (Hb412.out.trans (hb12b.mono Hb412.out.size))
    have hs12b := hb12b.size
    have Hi12b := Lib.hid (Hi12.out.below hb12b hsz12)
    have G612b : Hid (Row w12b wr.heap.size 41 [.string nm, .slice A1 ys.length cap1]) := G612.out.below hb12b G612.out.lt
    have H12 := Lib.hid (H4.out.trans (Hb412b.out.mono hl4))
    clear hb12b
    obtain ⟨q0, q1, q2, hl12, _⟩ := box3 H12.out
    have hneg2 : decide ((1 : Int) + (ys.length : Int) < 0) = false := by simp; omega
    have hbne2 : ((1 : Int) + (ys.length : Int) != 1 + (ys.length : Int)) = false := by simp
    clear y0 y1 y2
    go_wp2_with fail
    refine (toSystem_any 0 w.heap.size _ _ _ t _ (Hv.out.below (box3 H12.out).2.2.2.2 (Nat.le_refl _)) (by have := (box3 H12.out).2.2.2.1; omega) hbk.out).mono ?_
    rintro e w13 ⟨rfl, hb13, hs13, hn13⟩
    have hat13 := Lib.hid (hn13.at_ Hv.out.fits hbk.out)
    have Hb13 := Lib.hid hb13
    have Hs13 := Lib.hid hs13
    clear hb13 hs13 hn13
    go_wp2_with fail
    refine (HI.out _ _ _ _ _ _ hbk.out ((box3 H12.out).2.2.2.2.trans (Hb13.out.mono (by omega))) hat13.out (by have := Hs13.out; omega)).mono ?_
    rintro e wt ⟨v2, rfl, hbt, hownt⟩
    obtain ⟨g2, ho2, hg2⟩ := OwnI.of_owns hownt
    have hit := ho2.ints (lo := w13.heap.size) (hi := wt.heap.size) (Hzw.out) hg2
    obtain ⟨A2, cap2, rfl, _, _, _⟩ := hit.form
    obtain ⟨w14, hw14⟩ : ∃ u, u = wt.alloc (.cells #[.string nm, .slice A2 ys.length cap2] 41) := ⟨_, rfl⟩
    have ht14 : Below wt.heap.size wt w14 := by rw [hw14]; exact (Below.refl _ _).alloc (Nat.le_refl _) _
    have hts14 : w14.heap.size ≤ wt.heap.size + 1 := by rw [hw14]; simp
    have hts14' : wt.heap.size + 1 ≤ w14.heap.size := by rw [hw14]; simp
    have g14 : Row w14 wt.heap.size 41 [.string nm, .slice A2 ys.length cap2] := by rw [hw14]; exact Row.new _ _ _
    have Hi14 := Lib.hid (hit.below ht14 (Nat.le_refl _))
    have hb14 := hbt.trans (ht14.mono hbt.size)
    have Hb1214 := Lib.hid (Hb13.out.trans (hb14.mono Hb13.out.size))
    have Hb414 := Lib.hid (Hb412b.out.trans (Hb1214.out.mono Hb412b.out.size))
    have hg414 : Row w14 wq.heap.size 41 [.string nm, .slice A0 ys.length cap0] := G4.out.below Hb414.out (by omega)
    have c40 := hg414.cell 0
    have c41 := hg414.cell 1
    have c60 := g14.cell 0
    have c61 := g14.cell 1
    simp only [List.getElem?_cons_zero, List.getElem?_cons_succ] at c40 c41 c60 c61
    rw [hw14] at c40 c41 c60 c61
    clear hb14 hownt ho2 hg2 hbt ht14 hit g14 hg414
    go_wp2_with fail
    rw [← hw14]
    clear hw14 c40 c41 c60 c61
    refine (eqGap_same _ _ _ _ nm _ _ ys _ Hi14.out (Hi4.out.below Hb414.out (by omega)) (by omega) (by have := Hb414.out.size; omega)).mono ?_
    rintro e w15 ⟨rfl, hb15⟩
    have Hb1215 := Lib.hid (Hb1214.out.trans (hb15.mono Hb1214.out.size))
    have Hi15 := Lib.hid (Hi12b.out.below Hb1215.out (by omega))
    have hsz15 : w6.heap.size ≤ w15.heap.size := Nat.le_trans (Nat.le_trans hsz12 hs12b) Hb1215.out.size
    have Hfin := Lib.hid (((box3 H12.out).2.2.2.2).trans (Hb1215.out.mono (by omega)))
    have G615 : Hid (Row w15 wr.heap.size 41 [.string nm, .slice A1 ys.length cap1]) := G612b.out.below Hb1215.out G612b.out.lt
    have c60 := G615.out.cell 0
    have c61 := G615.out.cell 1
    simp only [List.getElem?_cons_zero, List.getElem?_cons_succ] at c60 c61
    clear hb15
    go_wp2_with fail
    refine (heldGap_any _ _ nm _ ys.length 1 _ Hi15.out hsz15 (by omega) (by omega)).mono ?_
    clear c60 c61
    rintro e w16 ⟨rfl, hb16⟩
    have Hf16 := Lib.hid (Hfin.out.trans (hb16.mono Hfin.out.size))
    clear hb16
    go_wp2
    go_ret
    exact ⟨rfl, Hf16.out⟩
end Go.Proofs.YtnmbjmocnafekaaGreatDoor

