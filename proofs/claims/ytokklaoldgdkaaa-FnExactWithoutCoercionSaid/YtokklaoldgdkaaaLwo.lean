/-
  FnExactWithoutCoercion: the walk of the law.
-/
import Derived.Test.YtokklaoldgdkaaaLgen
import Derived.Test.YtokklaoldgdkaaaTown
import Derived.Test.YtokklaoldgdkaaaIcut
import Derived.Deep.RegionHeld3
namespace Go.Proofs.Ytokklaoldgdkaaa
open Go.RowKit

/-- Marked types: their numbers and their blocks. -/
theorem markC_wf {f : Nat → Co} {k0 : Int} {n : Nat} (h0 : 0 ≤ k0) (h1 : k0 + 2 * (n : Int) + (lenSum f n : Int) ≤ 900000000) : ∀ i, i < n → I64 (mixCo f k0 n i).src ∧ I64 (mixCo f k0 n i).dst ∧ ∀ z ∈ (mixCo f k0 n i).map, I64 z := by
  intro i hi
  have e : mixCo f k0 n i = markCo f k0 i := by unfold mixCo; rw [if_pos hi]
  have hs := lenSum_mono f (show i + 1 ≤ n by omega)
  have hl : lenSum f (i + 1) = lenSum f i + (f i).map.length := rfl
  have hm : markAt f k0 i = k0 + 2 * (i : Int) + (lenSum f i : Int) := rfl
  rw [e]
  refine ⟨?_, ?_, markL_wf _ _ ?_ ?_⟩
  · show I64 (markAt f k0 i); unfold I64; omega
  · show I64 (markAt f k0 i + 1); unfold I64; omega
  · omega
  · omega
theorem uses_mark {gs gc n : Nat} {m : Nat → Nat} {f : Nat → Co} {k0 k1 : Int} {s : Nat} {ss : List Int} (hs : ss.length = s) {k : Nat} (h : OwnTy.uses gs gc m (markL k0 s) n (mixCo f k1 n) k) : OwnTy.uses gs gc m ss n f k := by
  rcases h with ⟨h0, rfl⟩ | h | ⟨i, hi, h0, rfl⟩
  · rw [markL_len] at h0; exact .inl ⟨by omega, rfl⟩
  · exact .inr (.inl h)
  · rw [mixCo_len] at h0; exact .inr (.inr ⟨i, hi, h0, rfl⟩)

set_option maxRecDepth 100000 in
set_option maxHeartbeats 4000000 in
theorem lawWo_walk (sv cv : Value) (t : Ty) (i : Int) (w : World) (hv : TyAt w 0 w.heap.size sv cv t) :
    Calls Try.prog 10 #[.agg #[sv, cv], .int .i64 i] w fun e w' => e = .returned (.bool true) ∧ Below w.heap.size w w' := by
  obtain ⟨A, cap, rfl, hl1, hm1, _⟩ := hv.1.form
  obtain ⟨B, bap, rfl, hl2, hm2, _⟩ := hv.2.form
  clear hl1 hm1 hl2 hm2
  have Hv := Lib.hid hv
  clear hv
  have H1 := Lib.hid (Below.refl (w.heap.size + 1) (w.alloc (.cells #[.slice A t.sizes.length cap, .slice B t.cos.length bap] 25)))
  have Hbulk := Lib.hid (wout_bulk t i)
  go_enter Try.func10, Try.ntmps10
  go_wp2_with fail
  refine (szTypes_any 0 w.heap.size _ _ t 1048576 _ (by omega) (by omega) (Hv.out.below (box2 H1.out).2.2.2 (Nat.le_refl _)) (by simp)).mono ?_
  rintro e w2 ⟨rfl, hb2⟩
  have H2 := H1.out.trans (hb2.mono (by simp))
  obtain ⟨q0, q1, hz2, hB2⟩ := box2 H2
  have RT2 := Lib.hid (show Row w2 w.heap.size 25 [.slice A t.sizes.length cap, .slice B t.cos.length bap] from (Row.new w 25 [.slice A t.sizes.length cap, .slice B t.cos.length bap]).below hb2 (by simp))
  have HB2 := Lib.hid hB2
  clear hb2 H2 hB2
  by_cases hbig : (1048576 : Int) - t.bulk < 0
  · rw [subI_neg hbig]
    go_wp2
    go_ret
    exact ⟨rfl, HB2.out⟩
  rw [subI_pos hbig]
  have hbk : Hid (t.bulk ≤ 1048576) := by show t.bulk ≤ 1048576; omega
  go_wp2_with fail
  clear hbig
  refine (toTypes_any 0 w.heap.size _ _ t _ (Hv.out.below HB2.out (Nat.le_refl _)) (by omega) hbk.out).mono ?_
  rintro e w3 ⟨rfl, hb3, hs3, hn3⟩
  have hat := Lib.hid (hn3.at_ Hv.out.fits hbk.out)
  clear q0 q1
  have RT3 := Lib.hid (RT2.out.below hb3 RT2.out.lt)
  have HB3 := Lib.hid (HB2.out.trans (hb3.mono (by have := HB2.out.size; omega)))
  have hz3 := hb3.size
  have t0 := RT3.out.cell 0
  have t1 := RT3.out.cell 1
  have tl := RT3.out.lt
  simp only [List.getElem?_cons_zero, List.getElem?_cons_succ] at t0 t1
  have hs3b : w2.heap.size + 5 + 4 * t.cos.length ≤ w3.heap.size := by omega
  clear hb3 hn3 hs3
  go_wp2_with fail
  refine (specCut_any _ _ _ _ t i _ hat.out (by omega) hbk.out).mono ?_
  rintro e w4 ⟨v0, l0, rfl, hb4, hty4⟩
  have WS := Lib.hid (IntsAt.wf hty4.1)
  have WC := Lib.hid (CosAt.wf hty4.2)
  obtain ⟨A0, cap0, rfl, _, _, _⟩ := hty4.1.form
  obtain ⟨B0, bap0, rfl, _, _, _⟩ := hty4.2.form
  have RT4 := Lib.hid (RT3.out.below hb4 RT3.out.lt)
  have HB4 := Lib.hid (HB3.out.trans (hb4.mono (by have := HB3.out.size; omega)))
  have hz4 := hb4.size
  have ST4 := Lib.hid hty4
  clear t0 t1 tl
  have t0 := RT4.out.cell 0
  have t1 := RT4.out.cell 1
  have tl := RT4.out.lt
  simp only [List.getElem?_cons_zero, List.getElem?_cons_succ] at t0 t1
  clear hb4 hty4 hat
  go_wp2_with fail
  obtain ⟨w4a, hw4a⟩ : ∃ u, u = w4.alloc (.cells #[.slice A0 (wout t i).sizes.length cap0, .slice B0 (wout t i).cos.length bap0] 30) := ⟨_, rfl⟩
  rw [← hw4a]
  have hb4a : Below w4.heap.size w4 w4a := by rw [hw4a]; exact (Below.refl _ _).alloc (Nat.le_refl _) _
  have RT4a := Lib.hid (RT4.out.below hb4a RT4.out.lt)
  have HB4a := Lib.hid (HB4.out.trans (hb4a.mono (by have := HB4.out.size; omega)))
  have ST4a := Lib.hid (ST4.out.below hb4a (by omega))
  have hz4a := hb4a.size
  have RP4a : Hid (Row w4a w4.heap.size 30 [.slice A0 (wout t i).sizes.length cap0, .slice B0 (wout t i).cos.length bap0]) := by rw [hw4a]; exact Row.new w4 30 [.slice A0 (wout t i).sizes.length cap0, .slice B0 (wout t i).cos.length bap0]
  have hlP : w4.heap.size < w4a.heap.size := RP4a.out.lt
  clear hw4a
  clear t0 t1 tl
  have t0 := RT4a.out.cell 0
  have t1 := RT4a.out.cell 1
  have tl := RT4a.out.lt
  have p0 := RP4a.out.cell 0
  have p1 := RP4a.out.cell 1
  have pl := RP4a.out.lt
  simp only [List.getElem?_cons_zero, List.getElem?_cons_succ] at t0 t1 p0 p1
  clear hb4a
  refine (toTypes_any 0 w.heap.size _ _ t _ (Hv.out.below HB4a.out (Nat.le_refl _)) (by omega) hbk.out).mono ?_
  rintro e w5 ⟨rfl, hb5, hs5, hn5⟩
  have RT5 := Lib.hid (RT4a.out.below hb5 RT4a.out.lt)
  have RP5 := Lib.hid (RP4a.out.below hb5 RP4a.out.lt)
  have HB5 := Lib.hid (HB4a.out.trans (hb5.mono (by have := HB4a.out.size; omega)))
  have ST5 := Lib.hid (ST4a.out.below hb5 (by omega))
  have hz5 := hb5.size
  have XN5 := Lib.hid (hn5.at_ Hv.out.fits hbk.out)
  have Hn5 := Lib.hid hn5
  clear t0 t1 tl p0 p1 pl
  have t0 := RT5.out.cell 0
  have t1 := RT5.out.cell 1
  have tl := RT5.out.lt
  have p0 := RP5.out.cell 0
  have p1 := RP5.out.cell 1
  have pl := RP5.out.lt
  simp only [List.getElem?_cons_zero, List.getElem?_cons_succ] at t0 t1 p0 p1
  have hs5b : w4a.heap.size + 5 + 4 * t.cos.length ≤ w5.heap.size := by omega
  clear hb5 hn5 hs5
  go_wp2_with fail
  obtain ⟨w5a, hw5a⟩ : ∃ u, u = w5.alloc (.cells #[.slice (some ⟨w4a.heap.size + 3, 0, none⟩) t.sizes.length t.sizes.length, .slice (some ⟨w4a.heap.size + 4, 0, none⟩) t.cos.length t.cos.length] 30) := ⟨_, rfl⟩
  rw [← hw5a]
  have hb5a : Below w5.heap.size w5 w5a := by rw [hw5a]; exact (Below.refl _ _).alloc (Nat.le_refl _) _
  have RT5a := Lib.hid (RT5.out.below hb5a RT5.out.lt)
  have RP5a := Lib.hid (RP5.out.below hb5a RP5.out.lt)
  have HB5a := Lib.hid (HB5.out.trans (hb5a.mono (by have := HB5.out.size; omega)))
  have ST5a := Lib.hid (ST5.out.below hb5a (by omega))
  have XN5a := Lib.hid (XN5.out.below hb5a (by omega))
  have hz5a := hb5a.size
  have RX5a : Hid (Row w5a w5.heap.size 30 [.slice (some ⟨w4a.heap.size + 3, 0, none⟩) t.sizes.length t.sizes.length, .slice (some ⟨w4a.heap.size + 4, 0, none⟩) t.cos.length t.cos.length]) := by rw [hw5a]; exact Row.new w5 30 [.slice (some ⟨w4a.heap.size + 3, 0, none⟩) t.sizes.length t.sizes.length, .slice (some ⟨w4a.heap.size + 4, 0, none⟩) t.cos.length t.cos.length]
  have hlX : w5.heap.size < w5a.heap.size := RX5a.out.lt
  clear hw5a
  have B55a := Lib.hid hb5a
  clear t0 t1 tl p0 p1 pl
  have t0 := RT5a.out.cell 0
  have t1 := RT5a.out.cell 1
  have tl := RT5a.out.lt
  have p0 := RP5a.out.cell 0
  have p1 := RP5a.out.cell 1
  have pl := RP5a.out.lt
  have x0 := RX5a.out.cell 0
  have x1 := RX5a.out.cell 1
  have xl := RX5a.out.lt
  simp only [List.getElem?_cons_zero, List.getElem?_cons_succ] at t0 t1 p0 p1 x0 x1
  clear hb5a
  refine (implCut_any _ _ _ _ t i _ XN5a.out (by omega) hbk.out).mono ?_
  rintro e w6 ⟨v1, l1, rfl, hb6, hto6⟩
  have hty6 := hto6.tyAt WS.out WC.out
  obtain ⟨gs, gc, m, mv, hown6, huse6⟩ := hto6.own
  obtain ⟨A1, cap1, rfl, _, _, _⟩ := hty6.1.form
  obtain ⟨B1, bap1, rfl, _, _, _⟩ := hty6.2.form
  have RT6 := Lib.hid (RT5a.out.below hb6 RT5a.out.lt)
  have RP6 := Lib.hid (RP5a.out.below hb6 RP5a.out.lt)
  have RX6 := Lib.hid (RX5a.out.below hb6 RX5a.out.lt)
  have HB6 := Lib.hid (HB5a.out.trans (hb6.mono (by have := HB5a.out.size; omega)))
  have ST6 := Lib.hid (ST5a.out.below hb6 (by omega))
  have XN6 := Lib.hid (XN5a.out.below hb6 (by omega))
  have hz6 := hb6.size
  have B56 := Lib.hid (B55a.out.trans (hb6.mono (by omega)))
  have IT6 := Lib.hid hty6
  have IO6 := Lib.hid hown6
  have IU := Lib.hid huse6
  clear t0 t1 tl p0 p1 pl x0 x1 xl
  have t0 := RT6.out.cell 0
  have t1 := RT6.out.cell 1
  have tl := RT6.out.lt
  have p0 := RP6.out.cell 0
  have p1 := RP6.out.cell 1
  have pl := RP6.out.lt
  have x0 := RX6.out.cell 0
  have x1 := RX6.out.cell 1
  have xl := RX6.out.lt
  simp only [List.getElem?_cons_zero, List.getElem?_cons_succ] at t0 t1 p0 p1 x0 x1
  clear hb6 hto6 hty6 hown6 huse6
  go_wp2_with fail
  obtain ⟨w6a, hw6a⟩ : ∃ u, u = w6.alloc (.cells #[.slice A1 (wout t i).sizes.length cap1, .slice B1 (wout t i).cos.length bap1] 30) := ⟨_, rfl⟩
  rw [← hw6a]
  have hb6a : Below w6.heap.size w6 w6a := by rw [hw6a]; exact (Below.refl _ _).alloc (Nat.le_refl _) _
  have RT6a := Lib.hid (RT6.out.below hb6a RT6.out.lt)
  have RP6a := Lib.hid (RP6.out.below hb6a RP6.out.lt)
  have RX6a := Lib.hid (RX6.out.below hb6a RX6.out.lt)
  have HB6a := Lib.hid (HB6.out.trans (hb6a.mono (by have := HB6.out.size; omega)))
  have ST6a := Lib.hid (ST6.out.below hb6a (by omega))
  have XN6a := Lib.hid (XN6.out.below hb6a (by omega))
  have IT6a := Lib.hid (IT6.out.below hb6a (by omega))
  have hz6a := hb6a.size
  have RY6a : Hid (Row w6a w6.heap.size 30 [.slice A1 (wout t i).sizes.length cap1, .slice B1 (wout t i).cos.length bap1]) := by rw [hw6a]; exact Row.new w6 30 [.slice A1 (wout t i).sizes.length cap1, .slice B1 (wout t i).cos.length bap1]
  have hlY : w6.heap.size < w6a.heap.size := RY6a.out.lt
  clear hw6a
  have B56a := Lib.hid (B56.out.trans (hb6a.mono (by omega)))
  have IO6a := Lib.hid (IO6.out.keep fun k hk _ => hb6a.block k hk)
  clear t0 t1 tl p0 p1 pl x0 x1 xl
  have t0 := RT6a.out.cell 0
  have t1 := RT6a.out.cell 1
  have tl := RT6a.out.lt
  have p0 := RP6a.out.cell 0
  have p1 := RP6a.out.cell 1
  have pl := RP6a.out.lt
  have x0 := RX6a.out.cell 0
  have x1 := RX6a.out.cell 1
  have xl := RX6a.out.lt
  have y0 := RY6a.out.cell 0
  have y1 := RY6a.out.cell 1
  have yl := RY6a.out.lt
  simp only [List.getElem?_cons_zero, List.getElem?_cons_succ] at t0 t1 p0 p1 x0 x1 y0 y1
  clear hb6a
  have hbn : (hasC t i != hasC t i) = false := by simp
  refine (eqTypes_same _ _ _ _ _ _ _ _ (wout t i) _ IT6a.out ST6a.out (by omega) (by omega)).mono ?_
  rintro e w7 ⟨rfl, hb7⟩
  have RT7 := Lib.hid (RT6a.out.below hb7 RT6a.out.lt)
  have RP7 := Lib.hid (RP6a.out.below hb7 RP6a.out.lt)
  have RX7 := Lib.hid (RX6a.out.below hb7 RX6a.out.lt)
  have RY7 := Lib.hid (RY6a.out.below hb7 RY6a.out.lt)
  have HB7 := Lib.hid (HB6a.out.trans (hb7.mono (by have := HB6a.out.size; omega)))
  have ST7 := Lib.hid (ST6a.out.below hb7 (by omega))
  have XN7 := Lib.hid (XN6a.out.below hb7 (by omega))
  have IT7 := Lib.hid (IT6a.out.below hb7 (by omega))
  have hz7 := hb7.size
  have B57 := Lib.hid (B56a.out.trans (hb7.mono (by omega)))
  have IO7 := Lib.hid (IO6a.out.keep fun k hk _ => hb7.block k hk)
  clear t0 t1 tl p0 p1 pl x0 x1 xl y0 y1 yl
  have t0 := RT7.out.cell 0
  have t1 := RT7.out.cell 1
  have tl := RT7.out.lt
  have p0 := RP7.out.cell 0
  have p1 := RP7.out.cell 1
  have pl := RP7.out.lt
  have x0 := RX7.out.cell 0
  have x1 := RX7.out.cell 1
  have xl := RX7.out.lt
  have y0 := RY7.out.cell 0
  have y1 := RY7.out.cell 1
  have yl := RY7.out.lt
  simp only [List.getElem?_cons_zero, List.getElem?_cons_succ] at t0 t1 p0 p1 x0 x1 y0 y1
  clear hb7
  go_wp2_with fail
  have RT7d : Hid (Row w7.drew w.heap.size 25 [.slice A t.sizes.length cap, .slice B t.cos.length bap]) := RT7.out.drew
  have RP7d : Hid (Row w7.drew w4.heap.size 30 [.slice A0 (wout t i).sizes.length cap0, .slice B0 (wout t i).cos.length bap0]) := RP7.out.drew
  have RX7d : Hid (Row w7.drew w5.heap.size 30 [.slice (some ⟨w4a.heap.size + 3, 0, none⟩) t.sizes.length t.sizes.length, .slice (some ⟨w4a.heap.size + 4, 0, none⟩) t.cos.length t.cos.length]) := RX7.out.drew
  have RY7d : Hid (Row w7.drew w6.heap.size 30 [.slice A1 (wout t i).sizes.length cap1, .slice B1 (wout t i).cos.length bap1]) := RY7.out.drew
  have HB7d : Hid (Below w.heap.size w w7.drew) := HB7.out.drew
  have B57d : Hid (Below w5.heap.size w5 w7.drew) := B57.out.drew
  have XN7d : Hid (TyAt w7.drew _ _ _ _ t) := XN7.out
  have ST7d : Hid (TyAt w7.drew _ _ _ _ (wout t i)) := ST7.out
  have IT7d : Hid (TyAt w7.drew _ _ _ _ (wout t i)) := IT7.out
  have IO7d := Lib.hid (IO7.out.keep (w' := w7.drew) fun k _ _ => rfl)
  have hz7d : w6a.heap.size ≤ w7.drew.heap.size := hz7
  have K7d : Hid (w7.drew.cell? ⟨w.heap.size, 0, none⟩ = some (.slice A t.sizes.length cap) ∧ w7.drew.cell? ⟨w.heap.size, 1, none⟩ = some (.slice B t.cos.length bap) ∧ w7.drew.cell? ⟨w5.heap.size, 0, none⟩ = some (.slice (some ⟨w4a.heap.size + 3, 0, none⟩) t.sizes.length t.sizes.length) ∧ w7.drew.cell? ⟨w5.heap.size, 1, none⟩ = some (.slice (some ⟨w4a.heap.size + 4, 0, none⟩) t.cos.length t.cos.length)) := ⟨RT7d.out.cell 0, RT7d.out.cell 1, RX7d.out.cell 0, RX7d.out.cell 1⟩
  clear t0 t1 tl p0 p1 pl x0 x1 xl y0 y1 yl
  go_region_held3 (fun w' => w'.cell? ⟨w.heap.size, 0, none⟩ = some (.slice A t.sizes.length cap) ∧ w'.cell? ⟨w.heap.size, 1, none⟩ = some (.slice B t.cos.length bap) ∧ w'.cell? ⟨w5.heap.size, 0, none⟩ = some (.slice (some ⟨w4a.heap.size + 3, 0, none⟩) t.sizes.length t.sizes.length) ∧ w'.cell? ⟨w5.heap.size, 1, none⟩ = some (.slice (some ⟨w4a.heap.size + 4, 0, none⟩) t.cos.length t.cos.length))
    (first | exact K7d.out | exact K8.out | exact K9.out)
    (first
      | (go_at_call 15
         refine (toTypes_any 0 w.heap.size _ _ t w7.drew (Hv.out.below HB7d.out (Nat.le_refl _)) HB7d.out.size hbk.out).mono ?_
         rintro e w8 ⟨rfl, hb8, hs8, hn8⟩
         have RT8 := Lib.hid (RT7d.out.below hb8 RT7d.out.lt)
         have RP8 := Lib.hid (RP7d.out.below hb8 RP7d.out.lt)
         have RX8 := Lib.hid (RX7d.out.below hb8 RX7d.out.lt)
         have RY8 := Lib.hid (RY7d.out.below hb8 RY7d.out.lt)
         have HB8 := Lib.hid (HB7d.out.trans (hb8.mono (by have := HB7d.out.size; omega)))
         have ST8 := Lib.hid (ST7d.out.below hb8 (by omega))
         have XN8 := Lib.hid (XN7d.out.below hb8 (by omega))
         have IT8 := Lib.hid (IT7d.out.below hb8 (by omega))
         have hz8 := hb8.size
         have B58 := Lib.hid (B57d.out.trans (hb8.mono B57d.out.size))
         have IO8 := Lib.hid (IO7d.out.keep fun k hk _ => hb8.block k hk)
         have hat8 := Lib.hid (hn8.at_ Hv.out.fits hbk.out)
         have Hs8 := Lib.hid hs8
         have K8 : Hid (w8.cell? ⟨w.heap.size, 0, none⟩ = some (.slice A t.sizes.length cap) ∧ w8.cell? ⟨w.heap.size, 1, none⟩ = some (.slice B t.cos.length bap) ∧ w8.cell? ⟨w5.heap.size, 0, none⟩ = some (.slice (some ⟨w4a.heap.size + 3, 0, none⟩) t.sizes.length t.sizes.length) ∧ w8.cell? ⟨w5.heap.size, 1, none⟩ = some (.slice (some ⟨w4a.heap.size + 4, 0, none⟩) t.cos.length t.cos.length)) := ⟨RT8.out.cell 0, RT8.out.cell 1, RX8.out.cell 0, RX8.out.cell 1⟩
         clear hb8 hn8 hs8)
      | (go_at_call 17
         refine (eqTypes_same _ _ _ _ _ _ _ _ t _ XN8.out hat8.out (by omega) (by have h := Hs8.out; omega)).mono ?_
         rintro e w9 ⟨rfl, hb9⟩
         have RT9 := Lib.hid (RT8.out.below hb9 RT8.out.lt)
         have RP9 := Lib.hid (RP8.out.below hb9 RP8.out.lt)
         have RX9 := Lib.hid (RX8.out.below hb9 RX8.out.lt)
         have RY9 := Lib.hid (RY8.out.below hb9 RY8.out.lt)
         have HB9 := Lib.hid (HB8.out.trans (hb9.mono (by have := HB8.out.size; omega)))
         have ST9 := Lib.hid (ST8.out.below hb9 (by omega))
         have XN9 := Lib.hid (XN8.out.below hb9 (by omega))
         have IT9 := Lib.hid (IT8.out.below hb9 (by omega))
         have hz9 := hb9.size
         have B59 := Lib.hid (B58.out.trans (hb9.mono (by omega)))
         have IO9 := Lib.hid (IO8.out.keep fun k hk _ => hb9.block k hk)
         have K9 : Hid (w9.cell? ⟨w.heap.size, 0, none⟩ = some (.slice A t.sizes.length cap) ∧ w9.cell? ⟨w.heap.size, 1, none⟩ = some (.slice B t.cos.length bap) ∧ w9.cell? ⟨w5.heap.size, 0, none⟩ = some (.slice (some ⟨w4a.heap.size + 3, 0, none⟩) t.sizes.length t.sizes.length) ∧ w9.cell? ⟨w5.heap.size, 1, none⟩ = some (.slice (some ⟨w4a.heap.size + 4, 0, none⟩) t.cos.length t.cos.length)) := ⟨RT9.out.cell 0, RT9.out.cell 1, RX9.out.cell 0, RX9.out.cell 1⟩
         clear hb9))
  have t0 := RT9.out.cell 0
  have t1 := RT9.out.cell 1
  have tl := RT9.out.lt
  have p0 := RP9.out.cell 0
  have p1 := RP9.out.cell 1
  have pl := RP9.out.lt
  have x0 := RX9.out.cell 0
  have x1 := RX9.out.cell 1
  have xl := RX9.out.lt
  have y0 := RY9.out.cell 0
  have y1 := RY9.out.cell 1
  have yl := RY9.out.lt
  simp only [List.getElem?_cons_zero, List.getElem?_cons_succ] at t0 t1 p0 p1 x0 x1 y0 y1
  clear K9
  have hty9 := (Hn5.out.below B59.out (by omega)).own hbk.out
  have hcnt : Hid ((1 : Int) + (t.sizes.length : Int) + 2 * (t.cos.length : Int) + (lenSum (fun j => t.cos.getD j default) t.cos.length : Int) ≤ 900000000) := by
    have h1 := lenSum_maps t _ (Nat.le_refl _)
    have h2 : t.sizes.length + t.cos.length + mapsLen t.cos t.cos.length ≤ 1048576 := hbk.out
    show _ ≤ _
    rw [h1]; omega
  have Hty9 := Lib.hid hty9
  clear hty9
  go_wp2_with fail
  refine (markTypes_any _ _ _ _ _ _ _ _ _ 1 _ Hty9.out (by omega) hcnt.out).mono ?_
  rintro e w10 ⟨rfl, hk10, hs10, _⟩
  have hM : decide (markAt (fun j => t.cos.getD j default) (1 + (t.sizes.length : Int)) t.cos.length < 0) = false := by
    have h1 : markAt (fun j => t.cos.getD j default) (1 + (t.sizes.length : Int)) t.cos.length = 1 + (t.sizes.length : Int) + 2 * (t.cos.length : Int) + (lenSum (fun j => t.cos.getD j default) t.cos.length : Int) := rfl
    rw [h1]; exact decide_eq_false (by omega)
  generalize markAt (fun j => t.cos.getD j default) (1 + (t.sizes.length : Int)) t.cos.length = M at hM ⊢
  have hu : ∀ k, OwnTy.uses (w4a.heap.size + 3) (w4a.heap.size + 3 + 1) (fun j => w4a.heap.size + 3 + 1 + 1 + 4 * j + 3) t.sizes t.cos.length (fun j => t.cos.getD j default) k → w4a.heap.size < k ∧ k < w5.heap.size := fun k h => by
    have := newUses h
    omega
  have hz10 : w9.heap.size ≤ w10.heap.size := by omega
  have RT10 := Lib.hid (RT9.out.keep (hk10.block _ RT9.out.lt fun h => by have := hu _ h; omega))
  have RP10 := Lib.hid (RP9.out.keep (hk10.block _ RP9.out.lt fun h => by have := hu _ h; omega))
  have RX10 := Lib.hid (RX9.out.keep (hk10.block _ RX9.out.lt fun h => by have := hu _ h; omega))
  have RY10 := Lib.hid (RY9.out.keep (hk10.block _ RY9.out.lt fun h => by have := hu _ h; omega))
  have HB10 := Lib.hid (HB9.out.trans (hk10.below (B := w.heap.size) (by omega) fun j hj h => by have := hu j h; omega))
  have ST10 := Lib.hid (ST9.out.keep fun j h1 h2 => hk10.block j (by omega) fun h => by have := hu j h; omega)
  have IT10 := Lib.hid (IT9.out.keep fun j h1 h2 => hk10.block j (by omega) fun h => by have := hu j h; omega)
  have IO10 := Lib.hid (IO9.out.keep fun j hj hj2 => hk10.block j hj fun h => by have := hu j h; have := IU.out j hj2; omega)
  clear t0 t1 tl p0 p1 pl x0 x1 xl y0 y1 yl
  have t0 := RT10.out.cell 0
  have t1 := RT10.out.cell 1
  have tl := RT10.out.lt
  have p0 := RP10.out.cell 0
  have p1 := RP10.out.cell 1
  have pl := RP10.out.lt
  have x0 := RX10.out.cell 0
  have x1 := RX10.out.cell 1
  have xl := RX10.out.lt
  have y0 := RY10.out.cell 0
  have y1 := RY10.out.cell 1
  have yl := RY10.out.lt
  simp only [List.getElem?_cons_zero, List.getElem?_cons_succ] at t0 t1 p0 p1 x0 x1 y0 y1
  clear hk10 hs10 hu
  go_wp2_with fail
  refine (eqTypes_same _ _ _ _ _ _ _ _ (wout t i) _ IT10.out ST10.out (by omega) (by omega)).mono ?_
  rintro e w11 ⟨rfl, hb11⟩
  have RT11 := Lib.hid (RT10.out.below hb11 RT10.out.lt)
  have RP11 := Lib.hid (RP10.out.below hb11 RP10.out.lt)
  have RX11 := Lib.hid (RX10.out.below hb11 RX10.out.lt)
  have RY11 := Lib.hid (RY10.out.below hb11 RY10.out.lt)
  have HB11 := Lib.hid (HB10.out.trans (hb11.mono (by have := HB10.out.size; omega)))
  have ST11 := Lib.hid (ST10.out.below hb11 (by omega))
  have IT11 := Lib.hid (IT10.out.below hb11 (by omega))
  have hz11 := hb11.size
  have IO11 := Lib.hid (IO10.out.keep fun k hk _ => hb11.block k hk)
  clear t0 t1 tl p0 p1 pl x0 x1 xl y0 y1 yl
  have t0 := RT11.out.cell 0
  have t1 := RT11.out.cell 1
  have tl := RT11.out.lt
  have p0 := RP11.out.cell 0
  have p1 := RP11.out.cell 1
  have pl := RP11.out.lt
  have x0 := RX11.out.cell 0
  have x1 := RX11.out.cell 1
  have xl := RX11.out.lt
  have y0 := RY11.out.cell 0
  have y1 := RY11.out.cell 1
  have yl := RY11.out.lt
  simp only [List.getElem?_cons_zero, List.getElem?_cons_succ] at t0 t1 p0 p1 x0 x1 y0 y1
  clear hb11
  have hcn2 : Hid ((1 : Int) + ((wout t i).sizes.length : Int) + 2 * ((wout t i).cos.length : Int) + (lenSum (fun j => (wout t i).cos.getD j default) (wout t i).cos.length : Int) ≤ 900000000) := by
    have h1 := lenSum_maps (wout t i) _ (Nat.le_refl _)
    have h2 : (wout t i).sizes.length + (wout t i).cos.length + mapsLen (wout t i).cos (wout t i).cos.length ≤ 45 := Hbulk.out
    show _ ≤ _
    rw [h1]; omega
  go_wp2_with fail
  refine (markTypes_any _ _ _ _ _ _ _ _ _ 1 _ IO11.out (by omega) hcn2.out).mono ?_
  rintro e w12 ⟨rfl, hk12, hs12, ho12⟩
  obtain ⟨M1, hM1⟩ : ∃ M, M = markAt (fun j => (wout t i).cos.getD j default) (1 + ((wout t i).sizes.length : Int)) (wout t i).cos.length := ⟨_, rfl⟩
  rw [← hM1]
  have hM2 : decide (M1 < 0) = false := by
    have h1 : markAt (fun j => (wout t i).cos.getD j default) (1 + ((wout t i).sizes.length : Int)) (wout t i).cos.length = 1 + ((wout t i).sizes.length : Int) + 2 * ((wout t i).cos.length : Int) + (lenSum (fun j => (wout t i).cos.getD j default) (wout t i).cos.length : Int) := rfl
    rw [hM1, h1]; exact decide_eq_false (by omega)
  have hM3 : (M1 != M1) = false := by simp
  have HM1 := Lib.hid hM1
  clear hM1
  have hu : ∀ k, OwnTy.uses gs gc m (wout t i).sizes (wout t i).cos.length (fun j => (wout t i).cos.getD j default) k → w5a.heap.size ≤ k ∧ k < w6.heap.size := fun k h => IU.out k h
  have hz12 : w11.heap.size ≤ w12.heap.size := by omega
  have RT12 := Lib.hid (RT11.out.keep (hk12.block _ RT11.out.lt fun h => by have := hu _ h; omega))
  have RP12 := Lib.hid (RP11.out.keep (hk12.block _ RP11.out.lt fun h => by have := hu _ h; omega))
  have RX12 := Lib.hid (RX11.out.keep (hk12.block _ RX11.out.lt fun h => by have := hu _ h; omega))
  have RY12 := Lib.hid (RY11.out.keep (hk12.block _ RY11.out.lt fun h => by have := hu _ h; omega))
  have HB12 := Lib.hid (HB11.out.trans (hk12.below (B := w.heap.size) (by omega) fun j hj h => by have := hu j h; omega))
  have ST12 := Lib.hid (ST11.out.keep fun j h1 h2 => hk12.block j (by omega) fun h => by have := hu j h; omega)
  have hms : ∀ z ∈ markL 1 (wout t i).sizes.length, I64 z := markL_wf _ _ (by omega) (by have := hcn2.out; omega)
  have MT12 : Hid (TyAt w12 w5a.heap.size w6.heap.size (.slice A1 (wout t i).sizes.length cap1) (.slice B1 (wout t i).cos.length bap1) (⟨markL 1 (wout t i).sizes.length, (List.range (wout t i).cos.length).map (mixCo (fun j => (wout t i).cos.getD j default) (1 + ((wout t i).sizes.length : Int)) (wout t i).cos.length)⟩ : Ty)) := ho12.tyAt hms (markC_wf (by omega) (by have h := hcn2.out; omega)) fun k h => hu k (uses_mark rfl h)
  clear t0 t1 tl p0 p1 pl x0 x1 xl y0 y1 yl
  have t0 := RT12.out.cell 0
  have t1 := RT12.out.cell 1
  have tl := RT12.out.lt
  have p0 := RP12.out.cell 0
  have p1 := RP12.out.cell 1
  have pl := RP12.out.lt
  have x0 := RX12.out.cell 0
  have x1 := RX12.out.cell 1
  have xl := RX12.out.lt
  have y0 := RY12.out.cell 0
  have y1 := RY12.out.cell 1
  have yl := RY12.out.lt
  simp only [List.getElem?_cons_zero, List.getElem?_cons_succ] at t0 t1 p0 p1 x0 x1 y0 y1
  clear hk12 hs12 hu ho12 hms
  go_wp2_with fail
  refine (heldTypes_any _ _ _ _ _ _ _ 1 _ MT12.out (by omega) (by omega) hcn2.out).mono ?_
  rintro e w13 ⟨rfl, hb13⟩
  rw [← HM1.out]
  have RT13 := Lib.hid (RT12.out.below hb13 RT12.out.lt)
  have RP13 := Lib.hid (RP12.out.below hb13 RP12.out.lt)
  have RX13 := Lib.hid (RX12.out.below hb13 RX12.out.lt)
  have RY13 := Lib.hid (RY12.out.below hb13 RY12.out.lt)
  have HB13 := Lib.hid (HB12.out.trans (hb13.mono (by have := HB12.out.size; omega)))
  have ST13 := Lib.hid (ST12.out.below hb13 (by omega))
  have MT13 := Lib.hid (MT12.out.below hb13 (by omega))
  have hz13 := hb13.size
  clear t0 t1 tl p0 p1 pl x0 x1 xl y0 y1 yl
  have t0 := RT13.out.cell 0
  have t1 := RT13.out.cell 1
  have tl := RT13.out.lt
  have p0 := RP13.out.cell 0
  have p1 := RP13.out.cell 1
  have pl := RP13.out.lt
  have x0 := RX13.out.cell 0
  have x1 := RX13.out.cell 1
  have xl := RX13.out.lt
  have y0 := RY13.out.cell 0
  have y1 := RY13.out.cell 1
  have yl := RY13.out.lt
  simp only [List.getElem?_cons_zero, List.getElem?_cons_succ] at t0 t1 p0 p1 x0 x1 y0 y1
  clear hb13
  go_wp2_with fail
  refine (toTypes_any 0 w.heap.size _ _ t _ (Hv.out.below HB13.out (Nat.le_refl _)) (by omega) hbk.out).mono ?_
  rintro e w14 ⟨rfl, hb14, hs14, hn14⟩
  have hat14 := Lib.hid (hn14.at_ Hv.out.fits hbk.out)
  have RT14 := Lib.hid (RT13.out.below hb14 RT13.out.lt)
  have RP14 := Lib.hid (RP13.out.below hb14 RP13.out.lt)
  have RX14 := Lib.hid (RX13.out.below hb14 RX13.out.lt)
  have RY14 := Lib.hid (RY13.out.below hb14 RY13.out.lt)
  have HB14 := Lib.hid (HB13.out.trans (hb14.mono (by have := HB13.out.size; omega)))
  have ST14 := Lib.hid (ST13.out.below hb14 (by omega))
  have MT14 := Lib.hid (MT13.out.below hb14 (by omega))
  have hz14 := hb14.size
  clear t0 t1 tl p0 p1 pl x0 x1 xl y0 y1 yl
  have t0 := RT14.out.cell 0
  have t1 := RT14.out.cell 1
  have tl := RT14.out.lt
  have p0 := RP14.out.cell 0
  have p1 := RP14.out.cell 1
  have pl := RP14.out.lt
  have x0 := RX14.out.cell 0
  have x1 := RX14.out.cell 1
  have xl := RX14.out.lt
  have y0 := RY14.out.cell 0
  have y1 := RY14.out.cell 1
  have yl := RY14.out.lt
  simp only [List.getElem?_cons_zero, List.getElem?_cons_succ] at t0 t1 p0 p1 x0 x1 y0 y1
  have hs14b : w13.heap.size + 5 + 4 * t.cos.length ≤ w14.heap.size := by omega
  clear hb14 hn14 hs14
  go_wp2_with fail
  refine (implCut_any _ _ _ _ t i _ hat14.out (by omega) hbk.out).mono ?_
  rintro e w15 ⟨v2, l2, rfl, hb15, hto15⟩
  have hty15 := hto15.tyAt WS.out WC.out
  obtain ⟨A2, cap2, rfl, _, _, _⟩ := hty15.1.form
  obtain ⟨B2, bap2, rfl, _, _, _⟩ := hty15.2.form
  have RT15 := Lib.hid (RT14.out.below hb15 RT14.out.lt)
  have RP15 := Lib.hid (RP14.out.below hb15 RP14.out.lt)
  have RX15 := Lib.hid (RX14.out.below hb15 RX14.out.lt)
  have RY15 := Lib.hid (RY14.out.below hb15 RY14.out.lt)
  have HB15 := Lib.hid (HB14.out.trans (hb15.mono (by have := HB14.out.size; omega)))
  have ST15 := Lib.hid (ST14.out.below hb15 (by omega))
  have MT15 := Lib.hid (MT14.out.below hb15 (by omega))
  have hz15 := hb15.size
  have ZT15 := Lib.hid hty15
  clear t0 t1 tl p0 p1 pl x0 x1 xl y0 y1 yl
  have t0 := RT15.out.cell 0
  have t1 := RT15.out.cell 1
  have tl := RT15.out.lt
  have p0 := RP15.out.cell 0
  have p1 := RP15.out.cell 1
  have pl := RP15.out.lt
  have x0 := RX15.out.cell 0
  have x1 := RX15.out.cell 1
  have xl := RX15.out.lt
  have y0 := RY15.out.cell 0
  have y1 := RY15.out.cell 1
  have yl := RY15.out.lt
  simp only [List.getElem?_cons_zero, List.getElem?_cons_succ] at t0 t1 p0 p1 x0 x1 y0 y1
  clear hb15 hto15 hty15 hat14
  go_wp2_with fail
  obtain ⟨w15a, hw15a⟩ : ∃ u, u = w15.alloc (.cells #[.slice A2 (wout t i).sizes.length cap2, .slice B2 (wout t i).cos.length bap2] 30) := ⟨_, rfl⟩
  rw [← hw15a]
  have hb15a : Below w15.heap.size w15 w15a := by rw [hw15a]; exact (Below.refl _ _).alloc (Nat.le_refl _) _
  have RT15a := Lib.hid (RT15.out.below hb15a RT15.out.lt)
  have RP15a := Lib.hid (RP15.out.below hb15a RP15.out.lt)
  have RX15a := Lib.hid (RX15.out.below hb15a RX15.out.lt)
  have RY15a := Lib.hid (RY15.out.below hb15a RY15.out.lt)
  have HB15a := Lib.hid (HB15.out.trans (hb15a.mono (by have := HB15.out.size; omega)))
  have ST15a := Lib.hid (ST15.out.below hb15a (by omega))
  have MT15a := Lib.hid (MT15.out.below hb15a (by omega))
  have ZT15a := Lib.hid (ZT15.out.below hb15a (by omega))
  have hz15a := hb15a.size
  have RZ15a : Hid (Row w15a w15.heap.size 30 [.slice A2 (wout t i).sizes.length cap2, .slice B2 (wout t i).cos.length bap2]) := by rw [hw15a]; exact Row.new w15 30 [.slice A2 (wout t i).sizes.length cap2, .slice B2 (wout t i).cos.length bap2]
  have hlZ : w15.heap.size < w15a.heap.size := RZ15a.out.lt
  clear hw15a
  clear t0 t1 tl p0 p1 pl x0 x1 xl y0 y1 yl
  have p0 := RP15a.out.cell 0
  have p1 := RP15a.out.cell 1
  have pl := RP15a.out.lt
  have y0 := RY15a.out.cell 0
  have y1 := RY15a.out.cell 1
  have yl := RY15a.out.lt
  have z0 := RZ15a.out.cell 0
  have z1 := RZ15a.out.cell 1
  have zl := RZ15a.out.lt
  simp only [List.getElem?_cons_zero, List.getElem?_cons_succ] at p0 p1 y0 y1 z0 z1
  clear hb15a
  refine (eqTypes_same _ _ _ _ _ _ _ _ (wout t i) _ ZT15a.out ST15a.out (by omega) (by omega)).mono ?_
  rintro e w16 ⟨rfl, hb16⟩
  have RT16 := Lib.hid (RT15a.out.below hb16 RT15a.out.lt)
  have RP16 := Lib.hid (RP15a.out.below hb16 RP15a.out.lt)
  have RX16 := Lib.hid (RX15a.out.below hb16 RX15a.out.lt)
  have RY16 := Lib.hid (RY15a.out.below hb16 RY15a.out.lt)
  have RZ16 := Lib.hid (RZ15a.out.below hb16 RZ15a.out.lt)
  have HB16 := Lib.hid (HB15a.out.trans (hb16.mono (by have := HB15a.out.size; omega)))
  have ST16 := Lib.hid (ST15a.out.below hb16 (by omega))
  have MT16 := Lib.hid (MT15a.out.below hb16 (by omega))
  have ZT16 := Lib.hid (ZT15a.out.below hb16 (by omega))
  have hz16 := hb16.size
  clear p0 p1 pl y0 y1 yl z0 z1 zl
  have p0 := RP16.out.cell 0
  have p1 := RP16.out.cell 1
  have pl := RP16.out.lt
  have y0 := RY16.out.cell 0
  have y1 := RY16.out.cell 1
  have yl := RY16.out.lt
  have z0 := RZ16.out.cell 0
  have z1 := RZ16.out.cell 1
  have zl := RZ16.out.lt
  simp only [List.getElem?_cons_zero, List.getElem?_cons_succ] at p0 p1 y0 y1 z0 z1
  clear hb16
  go_wp2_with fail
  refine (heldTypes_any _ _ _ _ _ _ _ 1 _ MT16.out (by omega) (by omega) hcn2.out).mono ?_
  rintro e w17 ⟨rfl, hb17⟩
  rw [← HM1.out]
  have Hfin := Lib.hid (HB16.out.trans (hb17.mono (by have := HB16.out.size; omega)))
  clear p0 p1 pl y0 y1 yl z0 z1 zl
  clear hb17
  go_wp2
  go_ret
  exact ⟨rfl, Hfin.out⟩
end Go.Proofs.Ytokklaoldgdkaaa
