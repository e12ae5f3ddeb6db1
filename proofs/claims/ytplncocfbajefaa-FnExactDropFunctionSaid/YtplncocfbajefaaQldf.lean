/-
  FnExactDropFunction: the walk of the law.
-/
import Derived.Test.YtplncocfbajefaaQsdrp
import Derived.Test.YtplncocfbajefaaQidrp
import Derived.Test.YtplncocfbajefaaD13
import Derived.Test.YtplncocfbajefaaD14
import Derived.Test.YtplncocfbajefaaD6
import Derived.Deep.RegionHeld3
namespace Go.Proofs.Ytplncocfbajefaa
open Go.RowKit

theorem OwnSy.keep {w w' : World} {gs gc n : Nat} {m : Nat → Nat} {mv : Nat → Value} {sv cv fv : Value} {ss : List Int} {f : Nat → Co} {gf nf : Nat} {mf : Nat → Bool → Nat} {mvf : Nat → Bool → Value} {ff : Nat → Fu} (h : OwnSy w gs gc m mv sv cv ss n f gf mf mvf fv nf ff)
    (hk : ∀ k, k < w.heap.size → OwnSy.uses gs gc m ss n f gf mf nf ff k → w'.heap[k]? = w.heap[k]?) : OwnSy w' gs gc m mv sv cv ss n f gf mf mvf fv nf ff := by
  have hlt := h.fs.lt
  refine ⟨h.ty.keep fun k hl hu => hk k hl (.inl hu), h.fs.keep (fun h0 => hk gf (hlt.1 h0) (.inr fun h2 => h2.1 h0 rfl)) (fun i b hi hl => hk _ (hlt.2 i b hi hl) (.inr fun h2 => h2.2 i b hi hl rfl)), h.apart, h.away⟩

set_option maxRecDepth 100000 in
set_option maxHeartbeats 8000000 in
theorem lawDf_walk (sv cv fv : Value) (t : Sy) (i : Int) (hi64 : I64 i) (w : World) (hv : SyAt w 0 w.heap.size sv cv fv t) :
    Calls Try.prog 4 #[.agg #[sv, cv, fv], .int .i64 i] w fun e w' => e = .returned (.bool true) ∧ Below w.heap.size w w' := by
  obtain ⟨A, cap, rfl, hl1, hm1, _⟩ := hv.1.1.form
  obtain ⟨B, bap, rfl, hl2, hm2, _⟩ := hv.1.2.form
  obtain ⟨Q, qap, rfl, hl5, hm5, _⟩ := hv.2.form
  clear hl1 hm1 hl2 hm2 hl5 hm5
  have Hv := Lib.hid hv
  have Hbulk := Lib.hid (dropFu_bulk t i)
  clear hv
  have HB1 : Hid (Below w.heap.size w (w.alloc (.cells #[.slice A t.ty.sizes.length cap, .slice B t.ty.cos.length bap, .slice Q t.fs.length qap] 28))) := by show Below _ _ _; go_grown
  go_enter Try.func4, Try.ntmps4
  go_wp2_with fail
  refine (szSystem_any 0 w.heap.size _ _ _ t 1048576 _ (by omega) (by omega) (Hv.out.below HB1.out (Nat.le_refl _)) (by simp; try omega)).mono ?_
  rintro e w2 ⟨rfl, hb2⟩
  have RT2 : Hid (Row w2 w.heap.size 28 [.slice A t.ty.sizes.length cap, .slice B t.ty.cos.length bap, .slice Q t.fs.length qap]) := (Row.new w 28 [.slice A t.ty.sizes.length cap, .slice B t.ty.cos.length bap, .slice Q t.fs.length qap]).below hb2 (by simp)
  have HB2 := Lib.hid (HB1.out.trans (hb2.mono (by simp)))
  have hz2 : w.heap.size + 1 ≤ w2.heap.size := by have := hb2.size; simpa using this
  clear hb2
  have t0 := RT2.out.cell 0
  have t1 := RT2.out.cell 1
  have t2 := RT2.out.cell 2
  have tl := RT2.out.lt
  simp only [List.getElem?_cons_zero, List.getElem?_cons_succ] at t0 t1 t2
  by_cases hbig : (1048576 : Int) - t.bulk < 0
  · rw [subI_neg hbig]
    go_wp2
    go_ret
    exact ⟨rfl, HB2.out⟩
  rw [subI_pos hbig]
  have hbk : Hid (t.bulk ≤ 1048576) := by show t.bulk ≤ 1048576; omega
  go_wp2_with fail
  clear hbig
  refine (toSystem_any 0 w.heap.size _ _ _ t _ (Hv.out.below HB2.out (Nat.le_refl _)) (by omega) hbk.out).mono ?_
  rintro e w3 ⟨rfl, hb3, hs3, hn3⟩
  have hat := Lib.hid (hn3.at_ Hv.out.fits hbk.out)
  have RT3 := Lib.hid (RT2.out.below hb3 RT2.out.lt)
  have HB3 := Lib.hid (HB2.out.trans (hb3.mono (by have := HB2.out.size; omega)))
  have hz3 := hb3.size
  have hs3b : w2.heap.size + 9 + 4 * t.ty.cos.length + 5 * t.fs.length ≤ w3.heap.size := by omega
  clear tl t0 t1 t2
  have t0 := RT3.out.cell 0
  have t1 := RT3.out.cell 1
  have t2 := RT3.out.cell 2
  have tl := RT3.out.lt
  simp only [List.getElem?_cons_zero, List.getElem?_cons_succ] at t0 t1 t2
  clear hb3 hn3 hs3
  go_wp2_with fail
  refine (specDrop_any _ _ _ _ _ t i _ hat.out (by omega) hbk.out).mono ?_
  rintro e w4 ⟨v0, l0, g0, rfl, hb4, hty4⟩
  have WF := Lib.hid (SyAt.fits hty4)
  obtain ⟨A0, cap0, rfl, _, _, _⟩ := hty4.1.1.form
  obtain ⟨B0, bap0, rfl, _, _, _⟩ := hty4.1.2.form
  obtain ⟨Q0, qap0, rfl, _, _, _⟩ := hty4.2.form
  have RT4 := Lib.hid (RT3.out.below hb4 RT3.out.lt)
  have HB4 := Lib.hid (HB3.out.trans (hb4.mono (by have := HB3.out.size; omega)))
  have hz4 := hb4.size
  have ST4 := Lib.hid hty4
  clear tl t0 t1 t2
  have t0 := RT4.out.cell 0
  have t1 := RT4.out.cell 1
  have t2 := RT4.out.cell 2
  have tl := RT4.out.lt
  simp only [List.getElem?_cons_zero, List.getElem?_cons_succ] at t0 t1 t2
  clear hb4 hty4 hat
  go_wp2_with fail
  obtain ⟨w4a, hw4a⟩ : ∃ u, u = w4.alloc (.cells #[.slice A0 (dropFu t i).ty.sizes.length cap0, .slice B0 (dropFu t i).ty.cos.length bap0, .slice Q0 (dropFu t i).fs.length qap0] 38) := ⟨_, rfl⟩
  rw [← hw4a]
  have hb4a : Below w4.heap.size w4 w4a := by rw [hw4a]; exact (Below.refl _ _).alloc (Nat.le_refl _) _
  have RT4a := Lib.hid (RT4.out.below hb4a RT4.out.lt)
  have HB4a := Lib.hid (HB4.out.trans (hb4a.mono (by have := HB4.out.size; omega)))
  have hz4a := hb4a.size
  have ST4a := Lib.hid (ST4.out.below hb4a (by omega))
  have RP4a : Hid (Row w4a w4.heap.size 38 [.slice A0 (dropFu t i).ty.sizes.length cap0, .slice B0 (dropFu t i).ty.cos.length bap0, .slice Q0 (dropFu t i).fs.length qap0]) := by rw [hw4a]; exact Row.new w4 38 [.slice A0 (dropFu t i).ty.sizes.length cap0, .slice B0 (dropFu t i).ty.cos.length bap0, .slice Q0 (dropFu t i).fs.length qap0]
  have hlP : w4.heap.size < w4a.heap.size := RP4a.out.lt
  clear hw4a hb4a
  clear tl t0 t1 t2
  have t0 := RT4a.out.cell 0
  have t1 := RT4a.out.cell 1
  have t2 := RT4a.out.cell 2
  have tl := RT4a.out.lt
  have p0 := RP4a.out.cell 0
  have p1 := RP4a.out.cell 1
  have p2 := RP4a.out.cell 2
  have pl := RP4a.out.lt
  simp only [List.getElem?_cons_zero, List.getElem?_cons_succ] at t0 t1 t2 p0 p1 p2
  refine (toSystem_any 0 w.heap.size _ _ _ t _ (Hv.out.below HB4a.out (Nat.le_refl _)) (by omega) hbk.out).mono ?_
  rintro e w5 ⟨rfl, hb5, hs5, hn5⟩
  have RT5 := Lib.hid (RT4a.out.below hb5 RT4a.out.lt)
  have RP5 := Lib.hid (RP4a.out.below hb5 RP4a.out.lt)
  have HB5 := Lib.hid (HB4a.out.trans (hb5.mono (by have := HB4a.out.size; omega)))
  have hz5 := hb5.size
  have ST5 := Lib.hid (ST4a.out.below hb5 (by omega))
  have XN5 := Lib.hid (hn5.at_ Hv.out.fits hbk.out)
  have Hn5 := Lib.hid hn5
  have hs5b : w4a.heap.size + 9 + 4 * t.ty.cos.length + 5 * t.fs.length ≤ w5.heap.size := by omega
  have B55 := Lib.hid (Below.refl w5.heap.size w5)
  clear tl pl t0 t1 t2 p0 p1 p2
  have t0 := RT5.out.cell 0
  have t1 := RT5.out.cell 1
  have t2 := RT5.out.cell 2
  have tl := RT5.out.lt
  have p0 := RP5.out.cell 0
  have p1 := RP5.out.cell 1
  have p2 := RP5.out.cell 2
  have pl := RP5.out.lt
  simp only [List.getElem?_cons_zero, List.getElem?_cons_succ] at t0 t1 t2 p0 p1 p2
  clear hb5 hn5 hs5
  go_wp2_with fail
  obtain ⟨w5a, hw5a⟩ : ∃ u, u = w5.alloc (.cells #[.slice (some ⟨w4a.heap.size + 6, 0, none⟩) t.ty.sizes.length t.ty.sizes.length, .slice (some ⟨w4a.heap.size + 7, 0, none⟩) t.ty.cos.length t.ty.cos.length, .slice (some ⟨w4a.heap.size + 8 + 4 * t.ty.cos.length, 0, none⟩) t.fs.length t.fs.length] 38) := ⟨_, rfl⟩
  rw [← hw5a]
  have hb5a : Below w5.heap.size w5 w5a := by rw [hw5a]; exact (Below.refl _ _).alloc (Nat.le_refl _) _
  have RT5a := Lib.hid (RT5.out.below hb5a RT5.out.lt)
  have RP5a := Lib.hid (RP5.out.below hb5a RP5.out.lt)
  have HB5a := Lib.hid (HB5.out.trans (hb5a.mono (by have := HB5.out.size; omega)))
  have hz5a := hb5a.size
  have ST5a := Lib.hid (ST5.out.below hb5a (by omega))
  have XN5a := Lib.hid (XN5.out.below hb5a (by omega))
  have B55a := Lib.hid (B55.out.trans (hb5a.mono (by omega)))
  have RX5a : Hid (Row w5a w5.heap.size 38 [.slice (some ⟨w4a.heap.size + 6, 0, none⟩) t.ty.sizes.length t.ty.sizes.length, .slice (some ⟨w4a.heap.size + 7, 0, none⟩) t.ty.cos.length t.ty.cos.length, .slice (some ⟨w4a.heap.size + 8 + 4 * t.ty.cos.length, 0, none⟩) t.fs.length t.fs.length]) := by rw [hw5a]; exact Row.new w5 38 [.slice (some ⟨w4a.heap.size + 6, 0, none⟩) t.ty.sizes.length t.ty.sizes.length, .slice (some ⟨w4a.heap.size + 7, 0, none⟩) t.ty.cos.length t.ty.cos.length, .slice (some ⟨w4a.heap.size + 8 + 4 * t.ty.cos.length, 0, none⟩) t.fs.length t.fs.length]
  have hlX : w5.heap.size < w5a.heap.size := RX5a.out.lt
  clear hw5a hb5a
  clear tl pl t0 t1 t2 p0 p1 p2
  have t0 := RT5a.out.cell 0
  have t1 := RT5a.out.cell 1
  have t2 := RT5a.out.cell 2
  have tl := RT5a.out.lt
  have p0 := RP5a.out.cell 0
  have p1 := RP5a.out.cell 1
  have p2 := RP5a.out.cell 2
  have pl := RP5a.out.lt
  have x0 := RX5a.out.cell 0
  have x1 := RX5a.out.cell 1
  have x2 := RX5a.out.cell 2
  have xl := RX5a.out.lt
  simp only [List.getElem?_cons_zero, List.getElem?_cons_succ] at t0 t1 t2 p0 p1 p2 x0 x1 x2
  refine (implDrop_any 0 w5a.heap.size _ _ _ t i hi64 _ (XN5a.out.more (Nat.zero_le _) (by omega)) (Nat.le_refl _) hbk.out).mono ?_
  rintro e w6 ⟨v1, l1, g1, rfl, hb6, hto6⟩
  have hty6 := hto6.syAt (lo := w5a.heap.size) (hi := w6.heap.size) WF.out (Nat.le_refl _) (Nat.le_refl _)
  obtain ⟨gs, gc, m, mv, gf, mf, mvf, hown6, huse6⟩ := hto6.own
  obtain ⟨A1, cap1, rfl, _, _, _⟩ := hty6.1.1.form
  obtain ⟨B1, bap1, rfl, _, _, _⟩ := hty6.1.2.form
  obtain ⟨Q1, qap1, rfl, _, _, _⟩ := hty6.2.form
  have RT6 := Lib.hid (RT5a.out.below hb6 RT5a.out.lt)
  have RP6 := Lib.hid (RP5a.out.below hb6 RP5a.out.lt)
  have RX6 := Lib.hid (RX5a.out.below hb6 RX5a.out.lt)
  have HB6 := Lib.hid (HB5a.out.trans (hb6.mono (by have := HB5a.out.size; omega)))
  have hz6 := hb6.size
  have ST6 := Lib.hid (ST5a.out.below hb6 (by omega))
  have XN6 := Lib.hid (XN5a.out.below hb6 (by omega))
  have B56 := Lib.hid (B55a.out.trans (hb6.mono (by omega)))
  have IT6 := Lib.hid hty6
  have IO6 := Lib.hid hown6
  have IU := Lib.hid huse6
  clear tl pl xl t0 t1 t2 p0 p1 p2 x0 x1 x2
  have t0 := RT6.out.cell 0
  have t1 := RT6.out.cell 1
  have t2 := RT6.out.cell 2
  have tl := RT6.out.lt
  have p0 := RP6.out.cell 0
  have p1 := RP6.out.cell 1
  have p2 := RP6.out.cell 2
  have pl := RP6.out.lt
  have x0 := RX6.out.cell 0
  have x1 := RX6.out.cell 1
  have x2 := RX6.out.cell 2
  have xl := RX6.out.lt
  simp only [List.getElem?_cons_zero, List.getElem?_cons_succ] at t0 t1 t2 p0 p1 p2 x0 x1 x2
  clear hb6 hto6 hty6 hown6 huse6
  go_wp2_with fail
  obtain ⟨w6a, hw6a⟩ : ∃ u, u = w6.alloc (.cells #[.slice A1 (dropFu t i).ty.sizes.length cap1, .slice B1 (dropFu t i).ty.cos.length bap1, .slice Q1 (dropFu t i).fs.length qap1] 38) := ⟨_, rfl⟩
  rw [← hw6a]
  have hb6a : Below w6.heap.size w6 w6a := by rw [hw6a]; exact (Below.refl _ _).alloc (Nat.le_refl _) _
  have RT6a := Lib.hid (RT6.out.below hb6a RT6.out.lt)
  have RP6a := Lib.hid (RP6.out.below hb6a RP6.out.lt)
  have RX6a := Lib.hid (RX6.out.below hb6a RX6.out.lt)
  have HB6a := Lib.hid (HB6.out.trans (hb6a.mono (by have := HB6.out.size; omega)))
  have hz6a := hb6a.size
  have ST6a := Lib.hid (ST6.out.below hb6a (by omega))
  have XN6a := Lib.hid (XN6.out.below hb6a (by omega))
  have IT6a := Lib.hid (IT6.out.below hb6a (by omega))
  have IO6a := Lib.hid (IO6.out.keep fun k hk _ => hb6a.block k hk)
  have B56a := Lib.hid (B56.out.trans (hb6a.mono (by omega)))
  have RY6a : Hid (Row w6a w6.heap.size 38 [.slice A1 (dropFu t i).ty.sizes.length cap1, .slice B1 (dropFu t i).ty.cos.length bap1, .slice Q1 (dropFu t i).fs.length qap1]) := by rw [hw6a]; exact Row.new w6 38 [.slice A1 (dropFu t i).ty.sizes.length cap1, .slice B1 (dropFu t i).ty.cos.length bap1, .slice Q1 (dropFu t i).fs.length qap1]
  have hlY : w6.heap.size < w6a.heap.size := RY6a.out.lt
  clear hw6a hb6a
  clear tl pl xl t0 t1 t2 p0 p1 p2 x0 x1 x2
  have t0 := RT6a.out.cell 0
  have t1 := RT6a.out.cell 1
  have t2 := RT6a.out.cell 2
  have tl := RT6a.out.lt
  have p0 := RP6a.out.cell 0
  have p1 := RP6a.out.cell 1
  have p2 := RP6a.out.cell 2
  have pl := RP6a.out.lt
  have x0 := RX6a.out.cell 0
  have x1 := RX6a.out.cell 1
  have x2 := RX6a.out.cell 2
  have xl := RX6a.out.lt
  have y0 := RY6a.out.cell 0
  have y1 := RY6a.out.cell 1
  have y2 := RY6a.out.cell 2
  have yl := RY6a.out.lt
  simp only [List.getElem?_cons_zero, List.getElem?_cons_succ] at t0 t1 t2 p0 p1 p2 x0 x1 x2 y0 y1 y2
  have hbn : (hasFB t i != hasFB t i) = false := by simp
  refine (eqSystem_same _ _ _ _ _ _ _ _ _ _ (dropFu t i) _ IT6a.out ST6a.out (by omega) (by omega)).mono ?_
  rintro e w7 ⟨rfl, hb7⟩
  have RT7 := Lib.hid (RT6a.out.below hb7 RT6a.out.lt)
  have RP7 := Lib.hid (RP6a.out.below hb7 RP6a.out.lt)
  have RX7 := Lib.hid (RX6a.out.below hb7 RX6a.out.lt)
  have RY7 := Lib.hid (RY6a.out.below hb7 RY6a.out.lt)
  have HB7 := Lib.hid (HB6a.out.trans (hb7.mono (by have := HB6a.out.size; omega)))
  have hz7 := hb7.size
  have ST7 := Lib.hid (ST6a.out.below hb7 (by omega))
  have XN7 := Lib.hid (XN6a.out.below hb7 (by omega))
  have IT7 := Lib.hid (IT6a.out.below hb7 (by omega))
  have IO7 := Lib.hid (IO6a.out.keep fun k hk _ => hb7.block k hk)
  have B57 := Lib.hid (B56a.out.trans (hb7.mono (by omega)))
  clear tl pl xl yl t0 t1 t2 p0 p1 p2 x0 x1 x2 y0 y1 y2
  have t0 := RT7.out.cell 0
  have t1 := RT7.out.cell 1
  have t2 := RT7.out.cell 2
  have tl := RT7.out.lt
  have p0 := RP7.out.cell 0
  have p1 := RP7.out.cell 1
  have p2 := RP7.out.cell 2
  have pl := RP7.out.lt
  have x0 := RX7.out.cell 0
  have x1 := RX7.out.cell 1
  have x2 := RX7.out.cell 2
  have xl := RX7.out.lt
  have y0 := RY7.out.cell 0
  have y1 := RY7.out.cell 1
  have y2 := RY7.out.cell 2
  have yl := RY7.out.lt
  simp only [List.getElem?_cons_zero, List.getElem?_cons_succ] at t0 t1 t2 p0 p1 p2 x0 x1 x2 y0 y1 y2
  clear hb7
  go_wp2_with fail
  have RT7d : Hid (Row w7.drew w.heap.size 28 [.slice A t.ty.sizes.length cap, .slice B t.ty.cos.length bap, .slice Q t.fs.length qap]) := RT7.out.drew
  have RP7d : Hid (Row w7.drew w4.heap.size 38 [.slice A0 (dropFu t i).ty.sizes.length cap0, .slice B0 (dropFu t i).ty.cos.length bap0, .slice Q0 (dropFu t i).fs.length qap0]) := RP7.out.drew
  have RX7d : Hid (Row w7.drew w5.heap.size 38 [.slice (some ⟨w4a.heap.size + 6, 0, none⟩) t.ty.sizes.length t.ty.sizes.length, .slice (some ⟨w4a.heap.size + 7, 0, none⟩) t.ty.cos.length t.ty.cos.length, .slice (some ⟨w4a.heap.size + 8 + 4 * t.ty.cos.length, 0, none⟩) t.fs.length t.fs.length]) := RX7.out.drew
  have RY7d : Hid (Row w7.drew w6.heap.size 38 [.slice A1 (dropFu t i).ty.sizes.length cap1, .slice B1 (dropFu t i).ty.cos.length bap1, .slice Q1 (dropFu t i).fs.length qap1]) := RY7.out.drew
  have HB7d : Hid (Below w.heap.size w w7.drew) := HB7.out.drew
  have B57d : Hid (Below w5.heap.size w5 w7.drew) := B57.out.drew
  have ST7d := Lib.hid (ST7.out.keep (w' := w7.drew) fun k _ _ => rfl)
  have XN7d := Lib.hid (XN7.out.keep (w' := w7.drew) fun k _ _ => rfl)
  have IT7d := Lib.hid (IT7.out.keep (w' := w7.drew) fun k _ _ => rfl)
  have IO7d := Lib.hid (IO7.out.keep (w' := w7.drew) fun k _ _ => rfl)
  have hz7d : w7.heap.size ≤ w7.drew.heap.size := Nat.le_refl _
  have KK7d : Hid (w7.drew.cell? ⟨w.heap.size, 0, none⟩ = some (.slice A t.ty.sizes.length cap) ∧ w7.drew.cell? ⟨w.heap.size, 1, none⟩ = some (.slice B t.ty.cos.length bap) ∧ w7.drew.cell? ⟨w.heap.size, 2, none⟩ = some (.slice Q t.fs.length qap) ∧ w7.drew.cell? ⟨w5.heap.size, 0, none⟩ = some (.slice (some ⟨w4a.heap.size + 6, 0, none⟩) t.ty.sizes.length t.ty.sizes.length) ∧ w7.drew.cell? ⟨w5.heap.size, 1, none⟩ = some (.slice (some ⟨w4a.heap.size + 7, 0, none⟩) t.ty.cos.length t.ty.cos.length) ∧ w7.drew.cell? ⟨w5.heap.size, 2, none⟩ = some (.slice (some ⟨w4a.heap.size + 8 + 4 * t.ty.cos.length, 0, none⟩) t.fs.length t.fs.length)) := ⟨RT7d.out.cell 0, RT7d.out.cell 1, RT7d.out.cell 2, RX7d.out.cell 0, RX7d.out.cell 1, RX7d.out.cell 2⟩
  clear tl pl xl yl t0 t1 t2 p0 p1 p2 x0 x1 x2 y0 y1 y2
  go_region_held3 (fun w' => w'.cell? ⟨w.heap.size, 0, none⟩ = some (.slice A t.ty.sizes.length cap) ∧ w'.cell? ⟨w.heap.size, 1, none⟩ = some (.slice B t.ty.cos.length bap) ∧ w'.cell? ⟨w.heap.size, 2, none⟩ = some (.slice Q t.fs.length qap) ∧ w'.cell? ⟨w5.heap.size, 0, none⟩ = some (.slice (some ⟨w4a.heap.size + 6, 0, none⟩) t.ty.sizes.length t.ty.sizes.length) ∧ w'.cell? ⟨w5.heap.size, 1, none⟩ = some (.slice (some ⟨w4a.heap.size + 7, 0, none⟩) t.ty.cos.length t.ty.cos.length) ∧ w'.cell? ⟨w5.heap.size, 2, none⟩ = some (.slice (some ⟨w4a.heap.size + 8 + 4 * t.ty.cos.length, 0, none⟩) t.fs.length t.fs.length))
    (first | exact KK7d.out | exact KK8.out | exact KK9.out)
    (first
      | (go_at_call 8
         refine (toSystem_any 0 w.heap.size _ _ _ t w7.drew (Hv.out.below HB7d.out (Nat.le_refl _)) HB7d.out.size hbk.out).mono ?_
         rintro e w8 ⟨rfl, hb8, hsq, hnq⟩
         have RT8 := Lib.hid (RT7d.out.below hb8 RT7d.out.lt)
         have RP8 := Lib.hid (RP7d.out.below hb8 RP7d.out.lt)
         have RX8 := Lib.hid (RX7d.out.below hb8 RX7d.out.lt)
         have RY8 := Lib.hid (RY7d.out.below hb8 RY7d.out.lt)
         have HB8 := Lib.hid (HB7d.out.trans (hb8.mono HB7d.out.size))
         have hz8 := hb8.size
         have ST8 := Lib.hid (ST7d.out.below hb8 (by omega))
         have XN8 := Lib.hid (XN7d.out.below hb8 (by omega))
         have IT8 := Lib.hid (IT7d.out.below hb8 (by omega))
         have IO8 := Lib.hid (IO7d.out.keep fun k hk _ => hb8.block k hk)
         have B58 := Lib.hid (B57d.out.trans (hb8.mono B57d.out.size))
         have hatq := Lib.hid (hnq.at_ Hv.out.fits hbk.out)
         have Hsq := Lib.hid hsq
         clear hsq hnq
         have KK8 : Hid (w8.cell? ⟨w.heap.size, 0, none⟩ = some (.slice A t.ty.sizes.length cap) ∧ w8.cell? ⟨w.heap.size, 1, none⟩ = some (.slice B t.ty.cos.length bap) ∧ w8.cell? ⟨w.heap.size, 2, none⟩ = some (.slice Q t.fs.length qap) ∧ w8.cell? ⟨w5.heap.size, 0, none⟩ = some (.slice (some ⟨w4a.heap.size + 6, 0, none⟩) t.ty.sizes.length t.ty.sizes.length) ∧ w8.cell? ⟨w5.heap.size, 1, none⟩ = some (.slice (some ⟨w4a.heap.size + 7, 0, none⟩) t.ty.cos.length t.ty.cos.length) ∧ w8.cell? ⟨w5.heap.size, 2, none⟩ = some (.slice (some ⟨w4a.heap.size + 8 + 4 * t.ty.cos.length, 0, none⟩) t.fs.length t.fs.length)) := ⟨RT8.out.cell 0, RT8.out.cell 1, RT8.out.cell 2, RX8.out.cell 0, RX8.out.cell 1, RX8.out.cell 2⟩
         clear hb8)
      | (go_at_call 11
         refine (eqSystem_same _ _ _ _ _ _ _ _ _ _ t _ XN8.out hatq.out (by omega) (by have h := Hsq.out; omega)).mono ?_
         rintro e w9 ⟨rfl, hb9⟩
         have RT9 := Lib.hid (RT8.out.below hb9 RT8.out.lt)
         have RP9 := Lib.hid (RP8.out.below hb9 RP8.out.lt)
         have RX9 := Lib.hid (RX8.out.below hb9 RX8.out.lt)
         have RY9 := Lib.hid (RY8.out.below hb9 RY8.out.lt)
         have HB9 := Lib.hid (HB8.out.trans (hb9.mono (by have := HB8.out.size; omega)))
         have hz9 := hb9.size
         have ST9 := Lib.hid (ST8.out.below hb9 (by omega))
         have XN9 := Lib.hid (XN8.out.below hb9 (by omega))
         have IT9 := Lib.hid (IT8.out.below hb9 (by omega))
         have IO9 := Lib.hid (IO8.out.keep fun k hk _ => hb9.block k hk)
         have B59 := Lib.hid (B58.out.trans (hb9.mono (by omega)))
         have KK9 : Hid (w9.cell? ⟨w.heap.size, 0, none⟩ = some (.slice A t.ty.sizes.length cap) ∧ w9.cell? ⟨w.heap.size, 1, none⟩ = some (.slice B t.ty.cos.length bap) ∧ w9.cell? ⟨w.heap.size, 2, none⟩ = some (.slice Q t.fs.length qap) ∧ w9.cell? ⟨w5.heap.size, 0, none⟩ = some (.slice (some ⟨w4a.heap.size + 6, 0, none⟩) t.ty.sizes.length t.ty.sizes.length) ∧ w9.cell? ⟨w5.heap.size, 1, none⟩ = some (.slice (some ⟨w4a.heap.size + 7, 0, none⟩) t.ty.cos.length t.ty.cos.length) ∧ w9.cell? ⟨w5.heap.size, 2, none⟩ = some (.slice (some ⟨w4a.heap.size + 8 + 4 * t.ty.cos.length, 0, none⟩) t.fs.length t.fs.length)) := ⟨RT9.out.cell 0, RT9.out.cell 1, RT9.out.cell 2, RX9.out.cell 0, RX9.out.cell 1, RX9.out.cell 2⟩
         clear hb9))
  clear KK9
  have t0 := RT9.out.cell 0
  have t1 := RT9.out.cell 1
  have t2 := RT9.out.cell 2
  have tl := RT9.out.lt
  have p0 := RP9.out.cell 0
  have p1 := RP9.out.cell 1
  have p2 := RP9.out.cell 2
  have pl := RP9.out.lt
  have x0 := RX9.out.cell 0
  have x1 := RX9.out.cell 1
  have x2 := RX9.out.cell 2
  have xl := RX9.out.lt
  have y0 := RY9.out.cell 0
  have y1 := RY9.out.cell 1
  have y2 := RY9.out.cell 2
  have yl := RY9.out.lt
  simp only [List.getElem?_cons_zero, List.getElem?_cons_succ] at t0 t1 t2 p0 p1 p2 x0 x1 x2 y0 y1 y2
  have hty9 := (Hn5.out.below B59.out (by omega)).own hbk.out
  have hcnt : Hid ((1 : Int) + (t.ty.sizes.length : Int) + 2 * (t.ty.cos.length : Int) + (lenSum (fun j => t.ty.cos.getD j default) t.ty.cos.length : Int) + 2 * (t.fs.length : Int) + (lenF (fun j => t.fs.getD j default) t.fs.length : Int) ≤ 900000000) := by
    have h1 := lenSum_maps t.ty _ (Nat.le_refl _)
    have h3 := lenF_sum t.fs _ (Nat.le_refl _)
    have h2 : t.ty.sizes.length + t.ty.cos.length + mapsLen t.ty.cos t.ty.cos.length + (t.fs.length + fusLen t.fs t.fs.length) ≤ 1048576 := hbk.out
    show _ ≤ _
    rw [h1]; omega
  have Hty9 := Lib.hid hty9
  clear hty9
  go_wp2_with fail
  refine (markSystem_any _ _ _ _ _ _ _ _ _ _ _ _ _ _ _ 1 _ Hty9.out (by omega) hcnt.out).mono ?_
  rintro e w12 ⟨rfl, hk12⟩
  have hMe : markAtF (fun j => t.fs.getD j default) (markAt (fun j => t.ty.cos.getD j default) (1 + (t.ty.sizes.length : Int)) t.ty.cos.length) t.fs.length = (1 : Int) + (t.ty.sizes.length : Int) + 2 * (t.ty.cos.length : Int) + (lenSum (fun j => t.ty.cos.getD j default) t.ty.cos.length : Int) + 2 * (t.fs.length : Int) + (lenF (fun j => t.fs.getD j default) t.fs.length : Int) := rfl
  have hM : decide (markAtF (fun j => t.fs.getD j default) (markAt (fun j => t.ty.cos.getD j default) (1 + (t.ty.sizes.length : Int)) t.ty.cos.length) t.fs.length < 0) = false := by rw [hMe]; exact decide_eq_false (by omega)
  clear hMe
  generalize markAtF (fun j => t.fs.getD j default) (markAt (fun j => t.ty.cos.getD j default) (1 + (t.ty.sizes.length : Int)) t.ty.cos.length) t.fs.length = M at hM ⊢
  have hu : ∀ k, OwnSy.uses (w4a.heap.size + 6) (w4a.heap.size + 6 + 1) (fun j => w4a.heap.size + 6 + 1 + 1 + 4 * j + 3) t.ty.sizes t.ty.cos.length (fun j => t.ty.cos.getD j default) (w4a.heap.size + 6 + 2 + 4 * t.ty.cos.length) (fun j b => w4a.heap.size + 6 + 2 + 4 * t.ty.cos.length + 1 + 5 * j + (if b then 4 else 3)) t.fs.length (fun j => t.fs.getD j default) k → w4a.heap.size < k ∧ k < w5.heap.size := fun k h => by
    have := newUsesS h
    omega
  have hz12 : w9.heap.size ≤ w12.heap.size := hk12.size
  have RT12 := Lib.hid (RT9.out.keep (hk12.block _ RT9.out.lt fun h => by have := hu _ h; omega))
  have RP12 := Lib.hid (RP9.out.keep (hk12.block _ RP9.out.lt fun h => by have := hu _ h; omega))
  have RX12 := Lib.hid (RX9.out.keep (hk12.block _ RX9.out.lt fun h => by have := hu _ h; omega))
  have RY12 := Lib.hid (RY9.out.keep (hk12.block _ RY9.out.lt fun h => by have := hu _ h; omega))
  have HB12 := Lib.hid (HB9.out.trans (hk12.below (B := w.heap.size) (by omega) fun j hj h => by have := hu j h; omega))
  have ST12 := Lib.hid (ST9.out.keep fun j h1 h2 => hk12.block j (by omega) fun h => by have := hu j h; omega)
  have IT12 := Lib.hid (IT9.out.keep fun j h1 h2 => hk12.block j (by omega) fun h => by have := hu j h; omega)
  have IO12 := Lib.hid (IO9.out.keep fun j hj hj2 => hk12.block j hj fun h => by have := hu j h; have := IU.out j hj2; omega)
  clear tl pl xl yl t0 t1 t2 p0 p1 p2 x0 x1 x2 y0 y1 y2
  have t0 := RT12.out.cell 0
  have t1 := RT12.out.cell 1
  have t2 := RT12.out.cell 2
  have tl := RT12.out.lt
  have p0 := RP12.out.cell 0
  have p1 := RP12.out.cell 1
  have p2 := RP12.out.cell 2
  have pl := RP12.out.lt
  have x0 := RX12.out.cell 0
  have x1 := RX12.out.cell 1
  have x2 := RX12.out.cell 2
  have xl := RX12.out.lt
  have y0 := RY12.out.cell 0
  have y1 := RY12.out.cell 1
  have y2 := RY12.out.cell 2
  have yl := RY12.out.lt
  simp only [List.getElem?_cons_zero, List.getElem?_cons_succ] at t0 t1 t2 p0 p1 p2 x0 x1 x2 y0 y1 y2
  clear hk12 hu
  go_wp2_with fail
  refine (eqSystem_same _ _ _ _ _ _ _ _ _ _ (dropFu t i) _ IT12.out ST12.out (by omega) (by omega)).mono ?_
  rintro e w14 ⟨rfl, hb14⟩
  have RT14 := Lib.hid (RT12.out.below hb14 RT12.out.lt)
  have RP14 := Lib.hid (RP12.out.below hb14 RP12.out.lt)
  have RX14 := Lib.hid (RX12.out.below hb14 RX12.out.lt)
  have RY14 := Lib.hid (RY12.out.below hb14 RY12.out.lt)
  have HB14 := Lib.hid (HB12.out.trans (hb14.mono (by have := HB12.out.size; omega)))
  have hz14 := hb14.size
  have ST14 := Lib.hid (ST12.out.below hb14 (by omega))
  have IT14 := Lib.hid (IT12.out.below hb14 (by omega))
  have IO14 := Lib.hid (IO12.out.keep fun k hk _ => hb14.block k hk)
  clear tl pl xl yl t0 t1 t2 p0 p1 p2 x0 x1 x2 y0 y1 y2
  have t0 := RT14.out.cell 0
  have t1 := RT14.out.cell 1
  have t2 := RT14.out.cell 2
  have tl := RT14.out.lt
  have p0 := RP14.out.cell 0
  have p1 := RP14.out.cell 1
  have p2 := RP14.out.cell 2
  have pl := RP14.out.lt
  have x0 := RX14.out.cell 0
  have x1 := RX14.out.cell 1
  have x2 := RX14.out.cell 2
  have xl := RX14.out.lt
  have y0 := RY14.out.cell 0
  have y1 := RY14.out.cell 1
  have y2 := RY14.out.cell 2
  have yl := RY14.out.lt
  simp only [List.getElem?_cons_zero, List.getElem?_cons_succ] at t0 t1 t2 p0 p1 p2 x0 x1 x2 y0 y1 y2
  clear hb14
  have hcn2 : Hid ((1 : Int) + ((dropFu t i).ty.sizes.length : Int) + 2 * ((dropFu t i).ty.cos.length : Int) + (lenSum (fun j => (dropFu t i).ty.cos.getD j default) (dropFu t i).ty.cos.length : Int) + 2 * ((dropFu t i).fs.length : Int) + (lenF (fun j => (dropFu t i).fs.getD j default) (dropFu t i).fs.length : Int) ≤ 900000000) := by
    have h1 := lenSum_maps (dropFu t i).ty _ (Nat.le_refl _)
    have h3 := lenF_sum (dropFu t i).fs _ (Nat.le_refl _)
    have h2 : (dropFu t i).ty.sizes.length + (dropFu t i).ty.cos.length + mapsLen (dropFu t i).ty.cos (dropFu t i).ty.cos.length + ((dropFu t i).fs.length + fusLen (dropFu t i).fs (dropFu t i).fs.length) ≤ 205 := Hbulk.out
    show _ ≤ _
    rw [h1]; omega
  go_wp2_with fail
  refine (markSystem_full _ _ _ _ _ _ _ _ _ _ _ _ _ _ _ 1 _ IO14.out (by omega) hcn2.out).mono ?_
  rintro e w15 ⟨rfl, hk15, ho15, hof15⟩
  obtain ⟨M1, hM1e⟩ : ∃ M, M = markAtF (fun j => (dropFu t i).fs.getD j default) (markAt (fun j => (dropFu t i).ty.cos.getD j default) (1 + ((dropFu t i).ty.sizes.length : Int)) (dropFu t i).ty.cos.length) (dropFu t i).fs.length := ⟨_, rfl⟩
  rw [← hM1e]
  have hM2 : decide (M1 < 0) = false := by
    have h1 : markAtF (fun j => (dropFu t i).fs.getD j default) (markAt (fun j => (dropFu t i).ty.cos.getD j default) (1 + ((dropFu t i).ty.sizes.length : Int)) (dropFu t i).ty.cos.length) (dropFu t i).fs.length = (1 : Int) + ((dropFu t i).ty.sizes.length : Int) + 2 * ((dropFu t i).ty.cos.length : Int) + (lenSum (fun j => (dropFu t i).ty.cos.getD j default) (dropFu t i).ty.cos.length : Int) + 2 * ((dropFu t i).fs.length : Int) + (lenF (fun j => (dropFu t i).fs.getD j default) (dropFu t i).fs.length : Int) := rfl
    rw [hM1e, h1]; exact decide_eq_false (by omega)
  have hM3 : (M1 != M1) = false := by simp
  have HM1 := Lib.hid hM1e
  clear hM1e
  have hu : ∀ k, OwnSy.uses gs gc m (dropFu t i).ty.sizes (dropFu t i).ty.cos.length (fun j => (dropFu t i).ty.cos.getD j default) gf mf (dropFu t i).fs.length (fun j => (dropFu t i).fs.getD j default) k → w5a.heap.size ≤ k ∧ k < w6.heap.size := fun k h => IU.out k h
  have hz15 : w14.heap.size ≤ w15.heap.size := hk15.size
  have RT15 := Lib.hid (RT14.out.keep (hk15.block _ RT14.out.lt fun h => by have := hu _ h; omega))
  have RP15 := Lib.hid (RP14.out.keep (hk15.block _ RP14.out.lt fun h => by have := hu _ h; omega))
  have RX15 := Lib.hid (RX14.out.keep (hk15.block _ RX14.out.lt fun h => by have := hu _ h; omega))
  have RY15 := Lib.hid (RY14.out.keep (hk15.block _ RY14.out.lt fun h => by have := hu _ h; omega))
  have HB15 := Lib.hid (HB14.out.trans (hk15.below (B := w.heap.size) (by omega) fun j hj h => by have := hu j h; omega))
  have ST15 := Lib.hid (ST14.out.keep fun j h1 h2 => hk15.block j (by omega) fun h => by have := hu j h; omega)
  have MT15 : Hid (SyAt w15 w5a.heap.size w6.heap.size (.slice A1 (dropFu t i).ty.sizes.length cap1) (.slice B1 (dropFu t i).ty.cos.length bap1) (.slice Q1 (dropFu t i).fs.length qap1) (markSy 1 (dropFu t i).ty.sizes.length (dropFu t i).ty.cos.length (fun j => (dropFu t i).ty.cos.getD j default) (dropFu t i).fs.length (fun j => (dropFu t i).fs.getD j default))) := markSy_at ho15 hof15 (by omega) hcn2.out hu
  clear tl pl xl yl t0 t1 t2 p0 p1 p2 x0 x1 x2 y0 y1 y2
  have t0 := RT15.out.cell 0
  have t1 := RT15.out.cell 1
  have t2 := RT15.out.cell 2
  have tl := RT15.out.lt
  have p0 := RP15.out.cell 0
  have p1 := RP15.out.cell 1
  have p2 := RP15.out.cell 2
  have pl := RP15.out.lt
  have x0 := RX15.out.cell 0
  have x1 := RX15.out.cell 1
  have x2 := RX15.out.cell 2
  have xl := RX15.out.lt
  have y0 := RY15.out.cell 0
  have y1 := RY15.out.cell 1
  have y2 := RY15.out.cell 2
  have yl := RY15.out.lt
  simp only [List.getElem?_cons_zero, List.getElem?_cons_succ] at t0 t1 t2 p0 p1 p2 x0 x1 x2 y0 y1 y2
  clear hk15 hu ho15 hof15
  go_wp2_with fail
  refine (heldSystem_any _ _ _ _ _ _ _ _ _ _ 1 _ MT15.out (by omega) (by omega) hcn2.out).mono ?_
  rintro e w16 ⟨rfl, hb16⟩
  rw [← HM1.out]
  have RT16 := Lib.hid (RT15.out.below hb16 RT15.out.lt)
  have RP16 := Lib.hid (RP15.out.below hb16 RP15.out.lt)
  have RX16 := Lib.hid (RX15.out.below hb16 RX15.out.lt)
  have RY16 := Lib.hid (RY15.out.below hb16 RY15.out.lt)
  have HB16 := Lib.hid (HB15.out.trans (hb16.mono (by have := HB15.out.size; omega)))
  have hz16 := hb16.size
  have ST16 := Lib.hid (ST15.out.below hb16 (by omega))
  have MT16 := Lib.hid (MT15.out.below hb16 (by omega))
  clear tl pl xl yl t0 t1 t2 p0 p1 p2 x0 x1 x2 y0 y1 y2
  have t0 := RT16.out.cell 0
  have t1 := RT16.out.cell 1
  have t2 := RT16.out.cell 2
  have tl := RT16.out.lt
  have p0 := RP16.out.cell 0
  have p1 := RP16.out.cell 1
  have p2 := RP16.out.cell 2
  have pl := RP16.out.lt
  have x0 := RX16.out.cell 0
  have x1 := RX16.out.cell 1
  have x2 := RX16.out.cell 2
  have xl := RX16.out.lt
  have y0 := RY16.out.cell 0
  have y1 := RY16.out.cell 1
  have y2 := RY16.out.cell 2
  have yl := RY16.out.lt
  simp only [List.getElem?_cons_zero, List.getElem?_cons_succ] at t0 t1 t2 p0 p1 p2 x0 x1 x2 y0 y1 y2
  clear hb16
  go_wp2_with fail
  refine (toSystem_any 0 w.heap.size _ _ _ t _ (Hv.out.below HB16.out (Nat.le_refl _)) (by omega) hbk.out).mono ?_
  rintro e w17 ⟨rfl, hb17, hs17, hn17⟩
  have hat17 := Lib.hid (hn17.at_ Hv.out.fits hbk.out)
  have RT17 := Lib.hid (RT16.out.below hb17 RT16.out.lt)
  have RP17 := Lib.hid (RP16.out.below hb17 RP16.out.lt)
  have RX17 := Lib.hid (RX16.out.below hb17 RX16.out.lt)
  have RY17 := Lib.hid (RY16.out.below hb17 RY16.out.lt)
  have HB17 := Lib.hid (HB16.out.trans (hb17.mono (by have := HB16.out.size; omega)))
  have hz17 := hb17.size
  have ST17 := Lib.hid (ST16.out.below hb17 (by omega))
  have MT17 := Lib.hid (MT16.out.below hb17 (by omega))
  have hs17b : w16.heap.size + 9 + 4 * t.ty.cos.length + 5 * t.fs.length ≤ w17.heap.size := by omega
  clear tl pl xl yl t0 t1 t2 p0 p1 p2 x0 x1 x2 y0 y1 y2
  have t0 := RT17.out.cell 0
  have t1 := RT17.out.cell 1
  have t2 := RT17.out.cell 2
  have tl := RT17.out.lt
  have p0 := RP17.out.cell 0
  have p1 := RP17.out.cell 1
  have p2 := RP17.out.cell 2
  have pl := RP17.out.lt
  have x0 := RX17.out.cell 0
  have x1 := RX17.out.cell 1
  have x2 := RX17.out.cell 2
  have xl := RX17.out.lt
  have y0 := RY17.out.cell 0
  have y1 := RY17.out.cell 1
  have y2 := RY17.out.cell 2
  have yl := RY17.out.lt
  simp only [List.getElem?_cons_zero, List.getElem?_cons_succ] at t0 t1 t2 p0 p1 p2 x0 x1 x2 y0 y1 y2
  clear hb17 hn17 hs17
  go_wp2_with fail
  refine (implDrop_any 0 w17.heap.size _ _ _ t i hi64 _ (hat17.out.more (Nat.zero_le _) (by omega)) (Nat.le_refl _) hbk.out).mono ?_
  rintro e w18 ⟨v2, l2, g2, rfl, hb18, hto18⟩
  have hty18 := hto18.syAt (lo := w17.heap.size) (hi := w18.heap.size) WF.out (Nat.le_refl _) (Nat.le_refl _)
  obtain ⟨A2, cap2, rfl, _, _, _⟩ := hty18.1.1.form
  obtain ⟨B2, bap2, rfl, _, _, _⟩ := hty18.1.2.form
  obtain ⟨Q2, qap2, rfl, _, _, _⟩ := hty18.2.form
  have RT18 := Lib.hid (RT17.out.below hb18 RT17.out.lt)
  have RP18 := Lib.hid (RP17.out.below hb18 RP17.out.lt)
  have RX18 := Lib.hid (RX17.out.below hb18 RX17.out.lt)
  have RY18 := Lib.hid (RY17.out.below hb18 RY17.out.lt)
  have HB18 := Lib.hid (HB17.out.trans (hb18.mono (by have := HB17.out.size; omega)))
  have hz18 := hb18.size
  have ST18 := Lib.hid (ST17.out.below hb18 (by omega))
  have MT18 := Lib.hid (MT17.out.below hb18 (by omega))
  have ZT18 := Lib.hid hty18
  clear tl pl xl yl t0 t1 t2 p0 p1 p2 x0 x1 x2 y0 y1 y2
  have t0 := RT18.out.cell 0
  have t1 := RT18.out.cell 1
  have t2 := RT18.out.cell 2
  have tl := RT18.out.lt
  have p0 := RP18.out.cell 0
  have p1 := RP18.out.cell 1
  have p2 := RP18.out.cell 2
  have pl := RP18.out.lt
  have x0 := RX18.out.cell 0
  have x1 := RX18.out.cell 1
  have x2 := RX18.out.cell 2
  have xl := RX18.out.lt
  have y0 := RY18.out.cell 0
  have y1 := RY18.out.cell 1
  have y2 := RY18.out.cell 2
  have yl := RY18.out.lt
  simp only [List.getElem?_cons_zero, List.getElem?_cons_succ] at t0 t1 t2 p0 p1 p2 x0 x1 x2 y0 y1 y2
  clear hb18 hto18 hty18 hat17
  go_wp2_with fail
  obtain ⟨w18a, hw18a⟩ : ∃ u, u = w18.alloc (.cells #[.slice A2 (dropFu t i).ty.sizes.length cap2, .slice B2 (dropFu t i).ty.cos.length bap2, .slice Q2 (dropFu t i).fs.length qap2] 38) := ⟨_, rfl⟩
  rw [← hw18a]
  have hb18a : Below w18.heap.size w18 w18a := by rw [hw18a]; exact (Below.refl _ _).alloc (Nat.le_refl _) _
  have RT18a := Lib.hid (RT18.out.below hb18a RT18.out.lt)
  have RP18a := Lib.hid (RP18.out.below hb18a RP18.out.lt)
  have RX18a := Lib.hid (RX18.out.below hb18a RX18.out.lt)
  have RY18a := Lib.hid (RY18.out.below hb18a RY18.out.lt)
  have HB18a := Lib.hid (HB18.out.trans (hb18a.mono (by have := HB18.out.size; omega)))
  have hz18a := hb18a.size
  have ST18a := Lib.hid (ST18.out.below hb18a (by omega))
  have MT18a := Lib.hid (MT18.out.below hb18a (by omega))
  have ZT18a := Lib.hid (ZT18.out.below hb18a (by omega))
  have RZ18a : Hid (Row w18a w18.heap.size 38 [.slice A2 (dropFu t i).ty.sizes.length cap2, .slice B2 (dropFu t i).ty.cos.length bap2, .slice Q2 (dropFu t i).fs.length qap2]) := by rw [hw18a]; exact Row.new w18 38 [.slice A2 (dropFu t i).ty.sizes.length cap2, .slice B2 (dropFu t i).ty.cos.length bap2, .slice Q2 (dropFu t i).fs.length qap2]
  have hlZ : w18.heap.size < w18a.heap.size := RZ18a.out.lt
  clear hw18a hb18a
  clear tl pl xl yl t0 t1 t2 p0 p1 p2 x0 x1 x2 y0 y1 y2
  have p0 := RP18a.out.cell 0
  have p1 := RP18a.out.cell 1
  have p2 := RP18a.out.cell 2
  have pl := RP18a.out.lt
  have y0 := RY18a.out.cell 0
  have y1 := RY18a.out.cell 1
  have y2 := RY18a.out.cell 2
  have yl := RY18a.out.lt
  have z0 := RZ18a.out.cell 0
  have z1 := RZ18a.out.cell 1
  have z2 := RZ18a.out.cell 2
  have zl := RZ18a.out.lt
  simp only [List.getElem?_cons_zero, List.getElem?_cons_succ] at p0 p1 p2 y0 y1 y2 z0 z1 z2
  refine (eqSystem_same _ _ _ _ _ _ _ _ _ _ (dropFu t i) _ ZT18a.out ST18a.out (by omega) (by omega)).mono ?_
  rintro e w19 ⟨rfl, hb19⟩
  have RT19 := Lib.hid (RT18a.out.below hb19 RT18a.out.lt)
  have RP19 := Lib.hid (RP18a.out.below hb19 RP18a.out.lt)
  have RX19 := Lib.hid (RX18a.out.below hb19 RX18a.out.lt)
  have RY19 := Lib.hid (RY18a.out.below hb19 RY18a.out.lt)
  have RZ19 := Lib.hid (RZ18a.out.below hb19 RZ18a.out.lt)
  have HB19 := Lib.hid (HB18a.out.trans (hb19.mono (by have := HB18a.out.size; omega)))
  have hz19 := hb19.size
  have ST19 := Lib.hid (ST18a.out.below hb19 (by omega))
  have MT19 := Lib.hid (MT18a.out.below hb19 (by omega))
  have ZT19 := Lib.hid (ZT18a.out.below hb19 (by omega))
  clear pl yl zl p0 p1 p2 y0 y1 y2 z0 z1 z2
  have p0 := RP19.out.cell 0
  have p1 := RP19.out.cell 1
  have p2 := RP19.out.cell 2
  have pl := RP19.out.lt
  have y0 := RY19.out.cell 0
  have y1 := RY19.out.cell 1
  have y2 := RY19.out.cell 2
  have yl := RY19.out.lt
  have z0 := RZ19.out.cell 0
  have z1 := RZ19.out.cell 1
  have z2 := RZ19.out.cell 2
  have zl := RZ19.out.lt
  simp only [List.getElem?_cons_zero, List.getElem?_cons_succ] at p0 p1 p2 y0 y1 y2 z0 z1 z2
  clear hb19
  go_wp2_with fail
  refine (heldSystem_any _ _ _ _ _ _ _ _ _ _ 1 _ MT19.out (by omega) (by omega) hcn2.out).mono ?_
  rintro e w20 ⟨rfl, hb20⟩
  rw [← HM1.out]
  have Hfin := Lib.hid (HB19.out.trans (hb20.mono (by have := HB19.out.size; omega)))
  clear pl yl zl p0 p1 p2 y0 y1 y2 z0 z1 z2
  clear hb20
  go_wp2
  go_ret
  exact ⟨rfl, Hfin.out⟩
end Go.Proofs.Ytplncocfbajefaa

