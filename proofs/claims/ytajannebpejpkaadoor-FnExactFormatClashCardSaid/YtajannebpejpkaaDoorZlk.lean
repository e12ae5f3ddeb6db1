/-
  FnExactFormatClash: the walk of the law.
-/
import Derived.Test.YtajannebpejpkaaDoorZdh
import Derived.Test.YtajannebpejpkaaDoorZdx
import Derived.Test.YtajannebpejpkaaDoorZdy
import Derived.Deep.RegionHeld3
namespace Go.Proofs.YtajannebpejpkaaDoor
open Go.RowKit

set_option maxRecDepth 100000 in
set_option maxHeartbeats 4000000 in
theorem lawFmtClash_walk (ia ib : Int) (v : Value) (zs : List Int) (w : World) (hia : I64 ia) (hib : I64 ib) (hv : IntsAt w 0 w.heap.size v zs) (hT : Tab w.heap.size w) :
    Calls Tryd.prog 6 #[.agg #[.int .i64 ia, .int .i64 ib, v]] w fun e w' => e = .returned (.bool true) ∧ Below w.heap.size w w' := by
  obtain ⟨A, cap, rfl, hl1, hm1, hi1⟩ := hv.form
  have Hv := Lib.hid hi1
  have hmx : zs.length ≤ maxLen := by omega
  clear hv hi1 hl1 hm1
  have HT := Lib.hid hT
  clear hT
  have Hia : Hid (I64 ia) := hia
  clear hia
  have Hib : Hid (I64 ib) := hib
  clear hib
  have HC : Hid (∀ u, Below (w.heap.size + 1) (w.alloc (.cells #[.int .i64 ia, .int .i64 ib, .slice A zs.length cap] 44)) u → u.cell? ⟨w.heap.size, 0, none⟩ = some (.int .i64 ia) ∧ u.cell? ⟨w.heap.size, 1, none⟩ = some (.int .i64 ib) ∧ u.cell? ⟨w.heap.size, 2, none⟩ = some (.slice A zs.length cap) ∧ w.heap.size < u.heap.size ∧ Below w.heap.size w u) := fun u hb =>
    ⟨(hb.cell (p := ⟨w.heap.size, 0, none⟩) (by dsimp only; omega)).trans (by simp [go_sem]), (hb.cell (p := ⟨w.heap.size, 1, none⟩) (by dsimp only; omega)).trans (by simp [go_sem]), (hb.cell (p := ⟨w.heap.size, 2, none⟩) (by dsimp only; omega)).trans (by simp [go_sem]), by have h := hb.size; simp only [World.size_alloc] at h; omega, ((Below.refl _ w).alloc (Nat.le_refl _) _).trans (hb.mono (by omega))⟩
  have H1 : Hid (Below (w.heap.size + 1) (w.alloc (.cells #[.int .i64 ia, .int .i64 ib, .slice A zs.length cap] 44)) (w.alloc (.cells #[.int .i64 ia, .int .i64 ib, .slice A zs.length cap] 44))) := Below.refl _ _
  go_enter Tryd.func6, Tryd.ntmps6
  go_wp2_with fail
  refine (szClash_any _ _ A zs.length cap 1048576 _ (by omega) (by omega) hmx).mono ?_
  rintro e w2 ⟨rfl, hb2⟩
  have H2 := Lib.hid (H1.out.trans (hb2.mono (by simp)))
  obtain ⟨q0, q1, q2, hl2, _⟩ := HC.out _ H2.out
  clear hb2
  by_cases hbig : (1048576 : Int) - (zs.length : Nat) < 0
  · rw [subI_neg hbig]
    go_wp2
    go_ret
    exact ⟨rfl, (HC.out _ H2.out).2.2.2.2⟩
  · rw [subI_pos hbig]
    have hbk : Hid (zs.length ≤ 1048576) := by show zs.length ≤ 1048576; omega
    have HI : Hid (∀ z ∈ zs, I64 z) := Hv.out.fits
    go_wp2_with fail
    refine (toClash_any 0 w.heap.size ia ib _ zs _ (Hv.out.below (HC.out _ H2.out).2.2.2.2 (Nat.le_refl _)) (Nat.le_of_lt (HC.out _ H2.out).2.2.2.1) hbk.out).mono ?_
    rintro e w3 ⟨rfl, hb3, hs3, hr⟩
    have H3 := Lib.hid (H2.out.trans (hb3.mono (by omega)))
    have hx3 := Lib.hid (hr.ints (hi := w3.heap.size) HI.out (Nat.zero_le _) (by omega) (Nat.le_refl _) (show zs.length ≤ maxLen from hmx))
    clear hb3 hr hs3 q0 q1 q2
    go_wp2_with fail
    refine (specClashZ 0 w3.heap.size ia ib _ zs w3 Hia.out Hib.out hx3.out (Nat.le_refl _) hbk.out).mono ?_
    rintro e w4 ⟨rfl, hb4⟩
    have h34 := (HC.out _ H3.out).2.2.2.1
    have H4 := Lib.hid (H3.out.trans (hb4.mono (by omega)))
    obtain ⟨q0, q1, q2, hl4, _⟩ := HC.out _ H4.out
    clear hb4 h34 hx3
    go_wp2_with fail
    refine (toClash_any 0 w.heap.size ia ib _ zs _ (Hv.out.below (HC.out _ H4.out).2.2.2.2 (Nat.le_refl _)) (Nat.le_of_lt (HC.out _ H4.out).2.2.2.1) hbk.out).mono ?_
    rintro e w5 ⟨rfl, hb5, hs5, hr⟩
    have H5 := Lib.hid (H4.out.trans (hb5.mono (by omega)))
    have hx5 := Lib.hid (hr.ints (hi := w5.heap.size) HI.out (Nat.zero_le _) (by omega) (Nat.le_refl _) (show zs.length ≤ maxLen from hmx))
    have hl5 := (HC.out _ H5.out).2.2.2.1
    have Hs5 := Lib.hid hs5
    clear hb5 hr hs5 q0 q1 q2
    go_wp2_with fail
    have hb50 : Below w5.heap.size w5 (w5.alloc (.cells #[.int .i64 ia, .int .i64 ib, .slice (some ⟨w4.heap.size + 3, 0, none⟩) zs.length zs.length] 47)) := (Below.refl _ _).alloc (Nat.le_refl _) _
    have hT5 := Lib.hid ((HT.out.go (HC.out _ H5.out).2.2.2.2 (Nat.le_refl _)).go hb50 (Nat.le_of_lt hl5))
    refine (implClashZ 0 w5.heap.size ia ib _ zs _ Hia.out Hib.out (hx5.out.below hb50 (Nat.le_refl _)) (by simp) hbk.out (fun w9 h9 => hT5.out w9 (h9.mono (by simp; omega)))).mono ?_
    rintro e w6 ⟨rfl, hb6⟩
    have hx6 : Below (w5.heap.size + 1) (w5.alloc (.cells #[.int .i64 ia, .int .i64 ib, .slice (some ⟨w4.heap.size + 3, 0, none⟩) zs.length zs.length] 47)) w6 := hb6.mono (by simp)
    have H6 := Lib.hid ((H5.out.alloc (by omega) _).trans (hb6.mono (by simp; omega)))
    obtain ⟨q0, q1, q2, hl6, _⟩ := HC.out _ H6.out
    obtain ⟨x0, x1, x2⟩ : w6.cell? ⟨w5.heap.size, 0, none⟩ = some (.int .i64 ia) ∧ w6.cell? ⟨w5.heap.size, 1, none⟩ = some (.int .i64 ib) ∧ w6.cell? ⟨w5.heap.size, 2, none⟩ = some (.slice (some ⟨w4.heap.size + 3, 0, none⟩) zs.length zs.length) := ⟨(hx6.cell (p := ⟨w5.heap.size, 0, none⟩) (by dsimp only; omega)).trans (by simp [go_sem]), (hx6.cell (p := ⟨w5.heap.size, 1, none⟩) (by dsimp only; omega)).trans (by simp [go_sem]), (hx6.cell (p := ⟨w5.heap.size, 2, none⟩) (by dsimp only; omega)).trans (by simp [go_sem])⟩
    have hl65 : w5.heap.size < w6.heap.size := by have h := hx6.size; simp only [World.size_alloc] at h; omega
    have hb56 : Below w5.heap.size w5 w6 := hb50.trans (hx6.mono (by omega))
    have hat6 := Lib.hid (hx5.out.below hb56 (Nat.le_refl _))
    clear hb6 hx6 hb56 hb50 hx5 hT5
    go_wp2_with fail
    have H6d : Hid (Below (w.heap.size + 1) (w.alloc (.cells #[.int .i64 ia, .int .i64 ib, .slice A zs.length cap] 44)) w6.drew) := H6.out.drew
    have hat6d : Hid (IntsAt w6.drew _ _ _ zs) := hat6.out
    have K6 : Hid (w6.drew.cell? ⟨w.heap.size, 0, none⟩ = some (.int .i64 ia) ∧ w6.drew.cell? ⟨w.heap.size, 1, none⟩ = some (.int .i64 ib) ∧ w6.drew.cell? ⟨w.heap.size, 2, none⟩ = some (.slice A zs.length cap) ∧ w6.drew.cell? ⟨w5.heap.size, 0, none⟩ = some (.int .i64 ia) ∧ w6.drew.cell? ⟨w5.heap.size, 1, none⟩ = some (.int .i64 ib) ∧ w6.drew.cell? ⟨w5.heap.size, 2, none⟩ = some (.slice (some ⟨w4.heap.size + 3, 0, none⟩) zs.length zs.length)) := ⟨q0, q1, q2, x0, x1, x2⟩
    go_region_held3 (fun w' => w'.cell? ⟨w.heap.size, 0, none⟩ = some (.int .i64 ia) ∧ w'.cell? ⟨w.heap.size, 1, none⟩ = some (.int .i64 ib) ∧ w'.cell? ⟨w.heap.size, 2, none⟩ = some (.slice A zs.length cap) ∧ w'.cell? ⟨w5.heap.size, 0, none⟩ = some (.int .i64 ia) ∧ w'.cell? ⟨w5.heap.size, 1, none⟩ = some (.int .i64 ib) ∧ w'.cell? ⟨w5.heap.size, 2, none⟩ = some (.slice (some ⟨w4.heap.size + 3, 0, none⟩) zs.length zs.length))
      (first | exact K6.out | exact K7.out | exact K8.out)
      (first
        | (go_at_call 23
           refine (toClash_any 0 w.heap.size ia ib _ zs w6.drew (Hv.out.below (HC.out _ H6d.out).2.2.2.2 (Nat.le_refl _)) (Nat.le_of_lt (HC.out _ H6d.out).2.2.2.1) hbk.out).mono ?_
           rintro e w7 ⟨rfl, hb7, hs7, hr⟩
           have H7 := Lib.hid (H6d.out.trans (hb7.mono (show _ ≤ w6.heap.size by omega)))
           have hb7s : w6.heap.size ≤ w7.heap.size := hb7.size
           have hs7b : w6.heap.size + 4 ≤ w7.heap.size := Nat.le_of_eq hs7.symm
           have hx7 := Lib.hid (hr.ints (hi := w7.heap.size) HI.out (Nat.zero_le _) (by show w6.heap.size + 3 < _; omega) (Nat.le_refl _) (show zs.length ≤ maxLen from hmx))
           have hat67 := Lib.hid ((hat6d.out.below hb7 (show w5.heap.size ≤ w6.heap.size by omega)).more (Nat.le_refl _) (show w5.heap.size ≤ w7.heap.size by omega))
           have K7 : Hid (w7.cell? ⟨w.heap.size, 0, none⟩ = some (.int .i64 ia) ∧ w7.cell? ⟨w.heap.size, 1, none⟩ = some (.int .i64 ib) ∧ w7.cell? ⟨w.heap.size, 2, none⟩ = some (.slice A zs.length cap) ∧ w7.cell? ⟨w5.heap.size, 0, none⟩ = some (.int .i64 ia) ∧ w7.cell? ⟨w5.heap.size, 1, none⟩ = some (.int .i64 ib) ∧ w7.cell? ⟨w5.heap.size, 2, none⟩ = some (.slice (some ⟨w4.heap.size + 3, 0, none⟩) zs.length zs.length)) := ⟨(HC.out _ H7.out).1, (HC.out _ H7.out).2.1, (HC.out _ H7.out).2.2.1, (hb7.cell (p := ⟨w5.heap.size, 0, none⟩) hl65).trans K6.out.2.2.2.1, (hb7.cell (p := ⟨w5.heap.size, 1, none⟩) hl65).trans K6.out.2.2.2.2.1, (hb7.cell (p := ⟨w5.heap.size, 2, none⟩) hl65).trans K6.out.2.2.2.2.2⟩
           clear hb7 hr hs7)
        | (go_at_call 25
           refine (eqClashZ _ _ _ _ ia ib _ _ zs w7 hat67.out hx7.out (Nat.le_refl _) (Nat.le_refl _)).mono ?_
           rintro e w8 ⟨rfl, hb8⟩
           have H8 := Lib.hid (H7.out.trans (hb8.mono (by omega)))
           have K8 : Hid (w8.cell? ⟨w.heap.size, 0, none⟩ = some (.int .i64 ia) ∧ w8.cell? ⟨w.heap.size, 1, none⟩ = some (.int .i64 ib) ∧ w8.cell? ⟨w.heap.size, 2, none⟩ = some (.slice A zs.length cap) ∧ w8.cell? ⟨w5.heap.size, 0, none⟩ = some (.int .i64 ia) ∧ w8.cell? ⟨w5.heap.size, 1, none⟩ = some (.int .i64 ib) ∧ w8.cell? ⟨w5.heap.size, 2, none⟩ = some (.slice (some ⟨w4.heap.size + 3, 0, none⟩) zs.length zs.length)) := ⟨(HC.out _ H8.out).1, (HC.out _ H8.out).2.1, (HC.out _ H8.out).2.2.1, (hb8.cell (p := ⟨w5.heap.size, 0, none⟩) (by dsimp only; omega)).trans K7.out.2.2.2.1, (hb8.cell (p := ⟨w5.heap.size, 1, none⟩) (by dsimp only; omega)).trans K7.out.2.2.2.2.1, (hb8.cell (p := ⟨w5.heap.size, 2, none⟩) (by dsimp only; omega)).trans K7.out.2.2.2.2.2⟩
           clear hb8))
    go_wp2
    go_ret
    exact ⟨rfl, (HC.out _ H8.out).2.2.2.2⟩
end Go.Proofs.YtajannebpejpkaaDoor
