/-
  FnExactWaysOf: the walk of the law.
-/
import Derived.Test.YtfnfcagdoedilaaLgen
import Derived.Test.YtfnfcagdoedilaaSsm
import Derived.Test.YtfnfcagdoedilaaCollw
import Derived.Test.YtfnfcagdoedilaaSways
namespace Go.Proofs.Ytfnfcagdoedilaa
open Go.RowKit

def waysL (t : Ty) (a b : Int) (i : Nat) : List Int := (waysV t a b).getD i []
theorem waysL_get (t : Ty) (a b : Int) (i : Nat) (h : i < (waysV t a b).length) : waysL t a b i = (waysV t a b)[i] := by
  unfold waysL
  rw [List.getD_eq_getElem?_getD, List.getElem?_eq_getElem h]
  rfl
theorem waysL_map (t : Ty) (a b : Int) : (List.range (waysV t a b).length).map (waysL t a b) = waysV t a b := by
  apply List.ext_getElem
  · simp
  · intro i h1 h2
    simp only [List.getElem_map, List.getElem_range]
    exact waysL_get t a b i h2
theorem waysL_len (t : Ty) (a b : Int) (i : Nat) (h : i < (waysV t a b).length) : (waysL t a b i).length ≤ 5 := by
  rw [waysL_get t a b i h]
  exact (waysV_all t a b).2.1 _ (List.getElem_mem h)
theorem waysL_total (t : Ty) (a b : Int) : lsum (waysL t a b) (waysV t a b).length ≤ 163840 := by
  have key : ∀ n, n ≤ (waysV t a b).length → lsum (waysL t a b) n ≤ 5 * n := by
    intro n
    induction n with
    | zero => intro _; exact Nat.le_refl _
    | succ n ih =>
      intro h
      have h1 := ih (by omega)
      have h2 := waysL_len t a b n (by omega)
      show lsum (waysL t a b) n + (waysL t a b n).length ≤ _
      omega
  have h1 := key _ (Nat.le_refl _)
  have h2 := (waysV_all t a b).1
  omega
theorem waysL_sum (t : Ty) (a b : Int) (i : Nat) (h : i < (waysV t a b).length) : lsum (waysL t a b) i + (waysL t a b i).length ≤ 163840 := by
  have h1 := lsum_mono (waysL t a b) (show i + 1 ≤ (waysV t a b).length from h)
  have h2 := waysL_total t a b
  have h3 : lsum (waysL t a b) (i + 1) = lsum (waysL t a b) i + (waysL t a b i).length := rfl
  omega
theorem waysL_own {t : Ty} {a b : Int} {w : World} {base : Nat} {v : Value} (h : SSOut w base v (waysV t a b)) : ∃ (g : Nat) (gs : Nat → Nat) (xs : List Value), OwnSS w g gs v (waysV t a b).length (waysL t a b) xs ∧ (0 < (waysV t a b).length → base ≤ g ∧ g < w.heap.size) ∧ ∀ i, i < (waysV t a b).length → 0 < (waysL t a b i).length → base ≤ gs i ∧ gs i < w.heap.size := h
theorem waysL_ss {t : Ty} {a b : Int} {w : World} {lo hi g : Nat} {gs : Nat → Nat} {v : Value} {xs : List Value} (h : OwnSS w g gs v (waysV t a b).length (waysL t a b) xs) (hg : 0 < (waysV t a b).length → lo ≤ g ∧ g < hi) (hgs : ∀ i, i < (waysV t a b).length → 0 < (waysL t a b i).length → lo ≤ gs i ∧ gs i < hi) : SSAt w lo hi v (waysV t a b) := by
  have h1 := h.ss (fun i hi => by rw [waysL_get t a b i hi]; exact (waysV_all t a b).2.2 _ (List.getElem_mem hi)) hg hgs
  rwa [waysL_map] at h1
theorem waysL_at {t : Ty} {a b : Int} {lo hi g : Nat} {gs : Nat → Nat} (hg : 0 < (waysV t a b).length → lo ≤ g ∧ g < hi) (hgs : ∀ i, i < (waysV t a b).length → 0 < (waysL t a b i).length → lo ≤ gs i ∧ gs i < hi) : ∀ k, (k = g ∧ 0 < (waysV t a b).length ∨ ∃ i, i < (waysV t a b).length ∧ 0 < (waysL t a b i).length ∧ k = gs i) → lo ≤ k ∧ k < hi := by
  rintro k (⟨rfl, h0⟩ | ⟨i, hi, h0, rfl⟩)
  · exact hg h0
  · exact hgs i hi h0

set_option maxRecDepth 100000 in
set_option maxHeartbeats 4000000 in
theorem lawWs_walk (sv cv : Value) (t : Ty) (a b : Int) (w : World) (hv : TyAt w 0 w.heap.size sv cv t) (hia : I64 a) (hib : I64 b) :
    Calls Try.prog 8 #[.agg #[sv, cv], .int .i64 a, .int .i64 b] w fun e w' => e = .returned (.bool true) ∧ Below w.heap.size w w' := by
  obtain ⟨A, cap, rfl, hl1, hm1, _⟩ := hv.1.form
  obtain ⟨B, bap, rfl, hl2, hm2, _⟩ := hv.2.form
  clear hl1 hm1 hl2 hm2
  have hn0 := (waysV_all t a b).1
  have hn1 : (waysV t a b).length ≤ 1048576 := by omega
  have hle := waysL_total t a b
  have Hv := Lib.hid hv
  clear hv
  have h1 : Below (w.heap.size + 1) (w.alloc (.cells #[.slice A t.sizes.length cap, .slice B t.cos.length bap] 48)) (w.alloc (.cells #[.slice A t.sizes.length cap, .slice B t.cos.length bap] 48)) := Below.refl _ _
  have H1 := Lib.hid h1
  clear h1
  go_enter Try.func8, Try.ntmps8
  go_wp2_with fail
  refine (szTypes_any 0 w.heap.size _ _ t 1048576 _ (by omega) (by omega) (Hv.out.below (box2 H1.out).2.2.2 (Nat.le_refl _)) (by simp)).mono ?_
  rintro e w2 ⟨rfl, hb2⟩
  have H2 := Lib.hid (H1.out.trans (hb2.mono (by simp)))
  obtain ⟨q0, q1, hl2, _⟩ := box2 H2.out
  clear hb2
  by_cases hbig : (1048576 : Int) - t.bulk < 0
  · rw [subI_neg hbig]
    go_wp2
    go_ret
    exact ⟨rfl, (box2 H2.out).2.2.2⟩
  · rw [subI_pos hbig]
    have hbk : Hid (t.bulk ≤ 1048576) := by show t.bulk ≤ 1048576; omega
    go_wp2_with fail
    refine (toTypes_any 0 w.heap.size _ _ t _ (Hv.out.below (box2 H2.out).2.2.2 (Nat.le_refl _)) (by omega) hbk.out).mono ?_
    rintro e w3 ⟨rfl, hb3, hs3, hn3⟩
    have H3 := Lib.hid (H2.out.trans (hb3.mono (by omega)))
    have hat := Lib.hid (hn3.at_ Hv.out.fits hbk.out)
    clear hb3 hn3 q0 q1
    have Hs3 := Lib.hid hs3
    clear hs3
    go_wp2_with fail
    refine (specWays_any _ _ _ _ t a b _ hat.out (by have := Hs3.out; omega)).mono ?_
    rintro e w4 ⟨v0, rfl, hb4, hi4⟩
    have h34 := H3.out.size
    have Hi4 := Lib.hid hi4
    obtain ⟨A0, cap0, rfl, _, _, _⟩ := Hi4.out.form
    have H4 := Lib.hid (H3.out.trans (hb4.mono (by simp only [World.size_alloc] at h34; omega)))
    have h34s := hb4.size
    obtain ⟨q0, q1, hl4, _⟩ := box2 H4.out
    clear hb4 h34 hat Hs3 hi4
    go_wp2_with fail
    refine (toTypes_any 0 w.heap.size _ _ t _ (Hv.out.below (box2 H4.out).2.2.2 (Nat.le_refl _)) (by omega) hbk.out).mono ?_
    rintro e w5 ⟨rfl, hb5, hs5, hn5⟩
    have Hb45 := Lib.hid hb5
    have H5 := Lib.hid (H4.out.trans (hb5.mono (by omega)))
    have hat := Lib.hid (hn5.at_ Hv.out.fits hbk.out)
    have Hn5 := Lib.hid hn5
    obtain ⟨q0', q1', hl5, _⟩ := box2 H5.out
    clear hb5 hn5 q0 q1
    have Hs5 := Lib.hid hs5
    clear hs5
    go_wp2_with fail
    have hb50 : Below w5.heap.size w5 (w5.alloc (.cells #[.slice (some ⟨w4.heap.size + 3, 0, none⟩) t.sizes.length t.sizes.length, .slice (some ⟨w4.heap.size + 4, 0, none⟩) t.cos.length t.cos.length] 26)) := (Below.refl _ _).alloc (Nat.le_refl _) _
    have hat5 := Lib.hid (hat.out.below hb50 (by have := Hs5.out; omega))
    refine (implWays_any _ _ _ _ t a b _ hat5.out (by have := Hs5.out; simp; omega) hia hib).mono ?_
    rintro e w6 ⟨v1, rfl, hb6, hown6⟩
    obtain ⟨g1, gs1, xs1, ho1, hg1, hgs1⟩ := waysL_own hown6
    simp only [World.size_alloc] at hg1 hgs1
    have Hi6 := Lib.hid (waysL_ss (lo := w5.heap.size + 1) (hi := w6.heap.size) ho1 hg1 hgs1)
    have Ho6 := Lib.hid ho1
    have Hg1 := Lib.hid (waysL_at hg1 hgs1)
    have Hg0 := Lib.hid hg1
    have Hgs := Lib.hid hgs1
    obtain ⟨A1, cap1, rfl, _, _, _⟩ := Hi6.out.form
    have hx6 := Lib.hid (hb6.mono (by simp) : Below (w5.heap.size + 1) (w5.alloc (.cells #[.slice (some ⟨w4.heap.size + 3, 0, none⟩) t.sizes.length t.sizes.length, .slice (some ⟨w4.heap.size + 4, 0, none⟩) t.cos.length t.cos.length] 26)) w6)
    have H6 := Lib.hid ((H5.out.alloc (by omega) _).trans (hb6.mono (by simp; omega)))
    have Hb46 := Lib.hid ((Hb45.out.trans (hb50.mono Hb45.out.size)).trans (hb6.mono (by have := Hb45.out.size; simp; omega)))
    have hs56 : w5.heap.size < w6.heap.size := (box2 hx6.out).2.2.1
    clear hb6 hb50 q0' q1' hat5 hown6 ho1 hg1 hgs1
    go_wp2_with fail
    refine (eqIntSS_same _ _ _ _ _ _ (waysV t a b) _ Hi6.out (Hi4.out.below Hb46.out (Nat.le_refl _)) (Nat.le_refl _) Hb46.out.size hn1).mono ?_
    rintro e w7 ⟨rfl, hb67⟩
    have Hb67 := Lib.hid hb67
    have H7 := Lib.hid (H6.out.trans (hb67.mono (by omega)))
    have Hx7 := Lib.hid (hx6.out.trans (hb67.mono (by omega)))
    have hat7 := Lib.hid (hat.out.below ((box2 hx6.out).2.2.2.trans (hb67.mono (by omega))) (by have := Hs5.out; omega))
    clear hb67 hat hx6
    go_wp2_with fail
    have H7d : Hid (Below (w.heap.size + 1) (w.alloc (.cells #[.slice A t.sizes.length cap, .slice B t.cos.length bap] 48)) w7.drew) := H7.out.drew
    have Hx7d : Hid (Below (w5.heap.size + 1) (w5.alloc (.cells #[.slice (some ⟨w4.heap.size + 3, 0, none⟩) t.sizes.length t.sizes.length, .slice (some ⟨w4.heap.size + 4, 0, none⟩) t.cos.length t.cos.length] 26)) w7.drew) := Hx7.out.drew
    have hat7d : Hid (TyAt w7.drew _ _ _ _ t) := hat7.out
    have Hb47 : Hid (Below w4.heap.size w4 w7.drew) := (Hb46.out.trans (Hb67.out.mono Hb46.out.size)).drew
    have Hb67d : Hid (Below w6.heap.size w6 w7.drew) := Hb67.out.drew
    have K7 : Hid (w7.drew.cell? ⟨w.heap.size, 0, none⟩ = some (.slice A t.sizes.length cap) ∧ w7.drew.cell? ⟨w.heap.size, 1, none⟩ = some (.slice B t.cos.length bap) ∧ w7.drew.cell? ⟨w5.heap.size, 0, none⟩ = some (.slice (some ⟨w4.heap.size + 3, 0, none⟩) t.sizes.length t.sizes.length) ∧ w7.drew.cell? ⟨w5.heap.size, 1, none⟩ = some (.slice (some ⟨w4.heap.size + 4, 0, none⟩) t.cos.length t.cos.length)) := ⟨(box2 H7d.out).1, (box2 H7d.out).2.1, (box2 Hx7d.out).1, (box2 Hx7d.out).2.1⟩
    clear H7 Hx7 hat7 Hb67
    go_region_held3 (fun w' => w'.cell? ⟨w.heap.size, 0, none⟩ = some (.slice A t.sizes.length cap) ∧ w'.cell? ⟨w.heap.size, 1, none⟩ = some (.slice B t.cos.length bap) ∧ w'.cell? ⟨w5.heap.size, 0, none⟩ = some (.slice (some ⟨w4.heap.size + 3, 0, none⟩) t.sizes.length t.sizes.length) ∧ w'.cell? ⟨w5.heap.size, 1, none⟩ = some (.slice (some ⟨w4.heap.size + 4, 0, none⟩) t.cos.length t.cos.length))
      (first | exact K7.out | exact K8.out | exact K9.out)
      (first
        | (go_at_call 39
           refine (toTypes_any 0 w.heap.size _ _ t w7.drew (Hv.out.below (box2 H7d.out).2.2.2 (Nat.le_refl _)) (Nat.le_of_lt (box2 H7d.out).2.2.1) hbk.out).mono ?_
           rintro e w8 ⟨rfl, hb8, hs8, hn8⟩
           have H8 := Lib.hid (H7d.out.trans (hb8.mono (box2 H7d.out).2.2.1))
           have Hx8 := Lib.hid (Hx7d.out.trans (hb8.mono (box2 Hx7d.out).2.2.1))
           have hat8 := Lib.hid (hn8.at_ Hv.out.fits hbk.out)
           have hat78 := Lib.hid (hat7d.out.below hb8 (by have h := Hs5.out; have h2 := (box2 Hx7d.out).2.2.1; omega))
           have Hb48 := Lib.hid (Hb47.out.trans (hb8.mono Hb47.out.size))
           have Hb68 := Lib.hid (Hb67d.out.trans (hb8.mono Hb67d.out.size))
           have Hs8 := Lib.hid hs8
           have hb8s := Lib.hid hb8.size
           have K8 : Hid (w8.cell? ⟨w.heap.size, 0, none⟩ = some (.slice A t.sizes.length cap) ∧ w8.cell? ⟨w.heap.size, 1, none⟩ = some (.slice B t.cos.length bap) ∧ w8.cell? ⟨w5.heap.size, 0, none⟩ = some (.slice (some ⟨w4.heap.size + 3, 0, none⟩) t.sizes.length t.sizes.length) ∧ w8.cell? ⟨w5.heap.size, 1, none⟩ = some (.slice (some ⟨w4.heap.size + 4, 0, none⟩) t.cos.length t.cos.length)) := ⟨(box2 H8.out).1, (box2 H8.out).2.1, (box2 Hx8.out).1, (box2 Hx8.out).2.1⟩
           clear hb8 hn8 hs8)
        | (go_at_call 42
           refine (eqTypes_same _ _ _ _ _ _ _ _ t _ hat78.out hat8.out (by have h := Hs5.out; have h2 := (box2 Hx8.out).2.2.1; omega) (by have h := Hs8.out; omega)).mono ?_
           rintro e w9 ⟨rfl, hb9⟩
           have H9 := Lib.hid (H8.out.trans (hb9.mono (box2 H8.out).2.2.1))
           have Hx9 := Lib.hid (Hx8.out.trans (hb9.mono (box2 Hx8.out).2.2.1))
           have Hb49 := Lib.hid (Hb48.out.trans (hb9.mono Hb48.out.size))
           have Hb69 := Lib.hid (Hb68.out.trans (hb9.mono Hb68.out.size))
           have K9 : Hid (w9.cell? ⟨w.heap.size, 0, none⟩ = some (.slice A t.sizes.length cap) ∧ w9.cell? ⟨w.heap.size, 1, none⟩ = some (.slice B t.cos.length bap) ∧ w9.cell? ⟨w5.heap.size, 0, none⟩ = some (.slice (some ⟨w4.heap.size + 3, 0, none⟩) t.sizes.length t.sizes.length) ∧ w9.cell? ⟨w5.heap.size, 1, none⟩ = some (.slice (some ⟨w4.heap.size + 4, 0, none⟩) t.cos.length t.cos.length)) := ⟨(box2 H9.out).1, (box2 H9.out).2.1, (box2 Hx9.out).1, (box2 Hx9.out).2.1⟩
           clear hb9))
    obtain ⟨_, _, y0, y1⟩ := K9.out
    have hb59 : Below w5.heap.size w5 w9 := (box2 Hx9.out).2.2.2
    have hty9 := (Hn5.out.below hb59 (by have := Hs5.out; omega)).own hbk.out
    have hls : lenSum (fun j => t.cos.getD j default) t.cos.length = mapsLen t.cos t.cos.length := lenSum_maps t _ (Nat.le_refl _)
    have hbulk : t.sizes.length + t.cos.length + mapsLen t.cos t.cos.length ≤ 1048576 := hbk.out
    have hcnt : Hid ((1 : Int) + (t.sizes.length : Int) + 2 * (t.cos.length : Int) + (lenSum (fun j => t.cos.getD j default) t.cos.length : Int) ≤ 900000000) := by show _ ≤ _; rw [hls]; omega
    have hM0 : (0 : Int) ≤ markAt (fun j => t.cos.getD j default) (1 + (t.sizes.length : Int)) t.cos.length := by
      show (0 : Int) ≤ 1 + (t.sizes.length : Int) + 2 * (t.cos.length : Int) + ((lenSum (fun j => t.cos.getD j default) t.cos.length : Nat) : Int)
      omega
    have Hty9 := Lib.hid hty9
    have Hb59 := Lib.hid hb59
    clear hls hty9 hb59
    go_wp2_with fail
    refine (markTypes_any _ _ _ _ _ _ _ _ _ 1 _ Hty9.out (by omega) hcnt.out).mono ?_
    rintro e w10 ⟨rfl, hk10, hs10, _⟩
    generalize markAt (fun j => t.cos.getD j default) (1 + (t.sizes.length : Int)) t.cos.length = M at hM0 ⊢
    have hneg : decide (M < 0) = false := by simp; omega
    have hu : ∀ k, OwnTy.uses (w4.heap.size + 3) (w4.heap.size + 3 + 1) (fun j => w4.heap.size + 3 + 1 + 1 + 4 * j + 3) t.sizes t.cos.length (fun j => t.cos.getD j default) k → w4.heap.size < k ∧ k < w5.heap.size := fun k h => by
      have := newUses h
      have := Hs5.out
      omega
    have hb9to10 : Below w4.heap.size w9 w10 := hk10.below Hb49.out.size (fun k hk h => by have := hu k h; omega)
    have Hb410 := Lib.hid (Hb49.out.trans hb9to10)
    have ho10 : OwnSS w10 g1 gs1 (.slice A1 (waysV t a b).length cap1) (waysV t a b).length (waysL t a b) xs1 := Ho6.out.keep fun k h => by
      have hg := Hg1.out k h
      exact (hk10.block k (by have := Hb69.out.size; omega) (fun h2 => by have := hu k h2; omega)).trans (Hb69.out.block k hg.2)
    have Ho10 := Lib.hid ho10
    have hsz10 : w6.heap.size ≤ w10.heap.size := Nat.le_trans Hb69.out.size hk10.size
    have Hi10 := Lib.hid (waysL_ss (lo := w5.heap.size + 1) (hi := w6.heap.size) ho10 Hg0.out Hgs.out)
    clear hk10 hs10 hu hb9to10 ho10
    go_wp2_with fail
    refine (eqIntSS_same _ _ _ _ _ _ (waysV t a b) _ Hi10.out (Hi4.out.below Hb410.out (Nat.le_refl _)) hsz10 Hb410.out.size hn1).mono ?_
    rintro e w11 ⟨rfl, hb11⟩
    have Ho11 := Lib.hid (Ho10.out.keep (w' := w11) fun k h => hb11.block k (by have := Hg1.out k h; omega))
    have Hb411 := Lib.hid (Hb410.out.trans (hb11.mono Hb410.out.size))
    have hsz11 : w6.heap.size ≤ w11.heap.size := Nat.le_trans hsz10 hb11.size
    clear hb11
    go_wp2_with fail
    refine (markIntSS_any g1 _ gs1 _ _ xs1 1 _ Ho11.out (by omega) (by omega) hn1).mono ?_
    rintro e w12 ⟨rfl, hk12, ho12, hs12⟩
    have Hb412 := Lib.hid (Hb411.out.trans (hk12.below Hb411.out.size (fun k hk i hi h0 e => by have h2 := Hgs.out i hi h0; have h3 := Hb45.out.size; omega)))
    have Ho12 := Lib.hid ho12
    have Hi12 := Lib.hid (ho12.ss (lo := w5.heap.size + 1) (hi := w6.heap.size) (fun i hi => markL_wf _ _ (by omega) (by have := waysL_sum t a b i hi; omega)) Hg0.out (fun i hi h0 => Hgs.out i hi (by simpa [markL_len] using h0)))
    have hsz12 : w6.heap.size ≤ w12.heap.size := Nat.le_trans hsz11 (Nat.le_of_eq hs12.symm)
    clear hk12 ho12 hs12
    go_wp2_with fail
    refine (heldIntSS_any _ _ _ (waysL t a b) (waysV t a b).length 1 _ Hi12.out hsz12 (by omega) (by omega) hn1).mono ?_
    rintro e w' ⟨rfl, rfl⟩
    have H12 := Lib.hid (H4.out.trans (Hb412.out.mono hl4))
    obtain ⟨q0, q1, hl12, _⟩ := box2 H12.out
    have hneg2 : decide ((1 : Int) + ((lsum (waysL t a b) (waysV t a b).length : Nat) : Int) < 0) = false := by simp; omega
    have hbne2 : ((1 : Int) + ((lsum (waysL t a b) (waysV t a b).length : Nat) : Int) != 1 + ((lsum (waysL t a b) (waysV t a b).length : Nat) : Int)) = false := by simp
    clear y0 y1
    go_wp2_with fail
    refine (toTypes_any 0 w.heap.size _ _ t _ (Hv.out.below (box2 H12.out).2.2.2 (Nat.le_refl _)) (by omega) hbk.out).mono ?_
    rintro e w13 ⟨rfl, hb13, hs13, hn13⟩
    have hat13 := Lib.hid (hn13.at_ Hv.out.fits hbk.out)
    have Hb13 := Lib.hid hb13
    have Hs13 := Lib.hid hs13
    clear hb13 hs13 hn13
    go_wp2_with fail
    refine (implWays_any _ _ _ _ t a b _ hat13.out (by have := Hs13.out; omega) hia hib).mono ?_
    rintro e w14 ⟨v2, rfl, hb14, hown14⟩
    obtain ⟨g2, gs2, xs2, ho2, hg2, hgs2⟩ := waysL_own hown14
    have Hi14 := Lib.hid (waysL_ss (lo := w13.heap.size) (hi := w14.heap.size) ho2 hg2 hgs2)
    obtain ⟨A2, cap2, rfl, _, _, _⟩ := Hi14.out.form
    have Hb1214 := Lib.hid (Hb13.out.trans (hb14.mono Hb13.out.size))
    have Hb414 := Lib.hid (Hb412.out.trans (Hb1214.out.mono Hb412.out.size))
    clear hb14 hown14 ho2 hg2 hgs2
    go_wp2_with fail
    refine (eqIntSS_same _ _ _ _ _ _ (waysV t a b) _ Hi14.out (Hi4.out.below Hb414.out (Nat.le_refl _)) (Nat.le_refl _) Hb414.out.size hn1).mono ?_
    rintro e w15 ⟨rfl, hb15⟩
    have Hb1215 := Lib.hid (Hb1214.out.trans (hb15.mono Hb1214.out.size))
    have Hi15 := Lib.hid (Hi12.out.below Hb1215.out hsz12)
    have hsz15 : w6.heap.size ≤ w15.heap.size := Nat.le_trans hsz12 Hb1215.out.size
    have Hfin := Lib.hid (((box2 H12.out).2.2.2).trans (Hb1215.out.mono (by omega)))
    clear hb15
    go_wp2_with fail
    refine (heldIntSS_any _ _ _ (waysL t a b) (waysV t a b).length 1 _ Hi15.out hsz15 (by omega) (by omega) hn1).mono ?_
    rintro e w' ⟨rfl, rfl⟩
    go_wp2
    go_ret
    exact ⟨rfl, Hfin.out⟩
end Go.Proofs.Ytfnfcagdoedilaa
