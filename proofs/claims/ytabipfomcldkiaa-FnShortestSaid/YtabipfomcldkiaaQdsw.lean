/-
  The contracts of the model's l2Two and DrawShortestWay.
-/
import Derived.Test.YtabipfomcldkiaaQbad
namespace Go.Proofs.Ytabipfomcldkiaa
open Go.RowKit

set_option maxRecDepth 100000 in
set_option maxHeartbeats 2000000 in
theorem two_any (b B : Nat) (w : World) (h : RdAt w b B) (hB : B ≤ 500000) :
    Calls Try.prog 64 #[.pointer (some ⟨b, 0, none⟩)] w fun e w' => ∃ sv cv t k z, e = .returned (.tuple #[.agg #[sv, cv], .int .i64 k, .int .i64 z]) ∧ RdAt w' b (B + 400) ∧ w.grownBy w' (some b) ∧ TyAt w' w.heap.size w'.heap.size sv cv t ∧ BdOk t ∧ I64 k ∧ I64 z := by
  have hbl := h.lt
  have H := Lib.hid h
  have hb0 : Below w.heap.size w (w.alloc (.cells #[.slice none 0 0, .slice none 0 0] 26)) := (Below.refl _ _).alloc (Nat.le_refl _) _
  have HB0 := Lib.hid hb0
  clear h hb0
  go_enter Try.func64, Try.ntmps64
  go_wp2_with fail
  refine (someT_any b B _ (H.out.keep fun g hg => Below.heap_alloc w _ g (by omega)) (by omega)).mono ?_
  rintro e w2 ⟨sv, cv, t, rfl, hrd2, hg2, hv2, hd2⟩
  obtain ⟨A, cap, rfl, _, _, _⟩ := hv2.1.form
  obtain ⟨C, cbp, rfl, _, _, _⟩ := hv2.2.form
  have hs2 : w.heap.size + 1 ≤ w2.heap.size := by have := hg2.size; simpa using this
  have HRR2 : Hid (Row w2 w.heap.size 26 [.slice none 0 0, .slice none 0 0]) := (Row.new w 26 [.slice none 0 0, .slice none 0 0]).keep (hg2.block _ (by simp) (fun e => by simp only [Option.some.injEq] at e; omega))
  have HG2 := Lib.hid (rdGrown_trans (rdGrown_below HB0.out) hg2)
  have HRd2 := Lib.hid hrd2
  simp only [World.size_alloc] at hv2
  have HV2 := Lib.hid hv2
  have HD2 := Lib.hid hd2
  clear hrd2 hg2 hv2 hd2
  have hlt2 : w.heap.size < w2.heap.size := by omega
  go_wp2_with fail
  obtain ⟨w3, hw3⟩ : ∃ u, u = w2.alloc (.cells #[.slice A t.sizes.length cap, .slice C t.cos.length cbp] 26) := ⟨_, rfl⟩
  rw [← hw3]
  have hb23 : Below w2.heap.size w2 w3 := by rw [hw3]; exact (Below.refl _ _).alloc (Nat.le_refl _) _
  have hs3 : w2.heap.size < w3.heap.size := by rw [hw3]; simp
  have HRT3 : Hid (Row w3 w2.heap.size 26 [.slice A t.sizes.length cap, .slice C t.cos.length cbp]) := by rw [hw3]; exact Row.new w2 26 _
  have HRR3 := Lib.hid (HRR2.out.below hb23 (by omega))
  have HG3 := Lib.hid (rdGrown_trans HG2.out (rdGrown_below hb23))
  have HRd3 := Lib.hid (HRd2.out.keep (w' := w3) fun g hg => hb23.block g (by omega))
  have HV3 := Lib.hid (HV2.out.below hb23 (Nat.le_refl _))
  clear hw3 hb23 HRR2 HRd2 HV2 HG2
  refine (l1Kind_any b (B + 300) w3 HRd3.out (by omega)).mono ?_
  rintro e w4 ⟨k, hk64, rfl, hrd4, hg4⟩
  have hs4 := hg4.size
  have hk4 : ∀ g, g < w3.heap.size → g ≠ b → w4.heap[g]? = w3.heap[g]? := fun g h1 h2 => hg4.block g h1 (fun e => by simp only [Option.some.injEq] at e; omega)
  have HRT4 := Lib.hid (HRT3.out.keep (hk4 _ (by omega) (by omega)))
  have HRR4 := Lib.hid (HRR3.out.keep (hk4 _ (by omega) (by omega)))
  have HG4 := Lib.hid (rdGrown_trans HG3.out hg4)
  have HRd4 := Lib.hid hrd4
  have HV4 := Lib.hid (HV3.out.keep (w' := w4) fun g h1 h2 => hk4 g (by omega) (by omega))
  have HK64 := Lib.hid hk64
  have hwf8 : ∀ z ∈ ([1, 2, 3, k, 1, 2, 0, -1] : List Int), I64 z := by
    intro z hz
    simp at hz
    rcases hz with h | h | h | h | h | h | h <;> first | (rw [h]; exact hk64) | (unfold I64; omega)
  have HWF := Lib.hid hwf8
  clear hrd4 hg4 hk4 HRT3 HRR3 HG3 HRd3 HV3 hk64 hwf8
  have p0 := HRT4.out.cell 0
  have p1 := HRT4.out.cell 1
  have q0 := HRR4.out.cell 0
  have q1 := HRR4.out.cell 1
  have qf0 := HRR4.out.frozen 0
  have qf1 := HRR4.out.frozen 1
  simp only [List.getElem?_cons_zero, List.getElem?_cons_succ] at p0 p1 q0 q1
  have hlt4 : w2.heap.size < w4.heap.size := by omega
  have hlt4' : w.heap.size < w4.heap.size := by omega
  go_upto_region 3 with fail
  have hb45 : Hid (Below w4.heap.size w4 (w4.alloc (.cells #[.int .i64 1, .int .i64 2, .int .i64 3, .int .i64 k, .int .i64 1, .int .i64 2, .int .i64 0, .int .i64 (-1)] 3)).drew) := ((Below.refl _ _).alloc (Nat.le_refl _) _).drew
  have hz6 : Hid (IntsAt (w4.alloc (.cells #[.int .i64 1, .int .i64 2, .int .i64 3, .int .i64 k, .int .i64 1, .int .i64 2, .int .i64 0, .int .i64 (-1)] 3)).drew w4.heap.size (w4.heap.size + 1) (.slice (some ⟨w4.heap.size, 0, none⟩) 8 8) [1, 2, 3, k, 1, 2, 0, -1]) :=
    (Row.new w4 3 ([1, 2, 3, k, 1, 2, 0, -1].map (Value.int .i64))).drew.ints (lo := w4.heap.size) (hi := w4.heap.size + 1) (cap := 8) HWF.out (Nat.le_refl _) (by omega) (Nat.le_refl _) (by unfold maxLen; omega)
  go_region_law (go_simp; go_at_call 44; refine (num_any b (B + 301) w4.heap.size (w4.heap.size + 1) _ [1, 2, 3, k, 1, 2, 0, -1] _ (HRd4.out.keep fun g hg => hb45.out.block g (by omega)) (by omega) hz6.out (by omega) (by simp) (by simp) (by simp)).mono ?_; rintro e w5 ⟨z, hz, rfl, hrd5, hg5, hs5⟩; have hk5 : Hid (∀ g, g < w4.heap.size → g ≠ b → w5.heap[g]? = w4.heap[g]?) := (fun g h1 h2 => (hg5.block g (by simp; omega) (fun e => h2 (by simpa using e))).trans (hb45.out.block g h1)); have HRT5 := Lib.hid (HRT4.out.keep (hk5.out _ (by omega) (by omega))); have HRR5 := Lib.hid (HRR4.out.keep (hk5.out _ (by omega) (by omega))); have p05 := HRT5.out.cell 0; have p15 := HRT5.out.cell 1; have q05 := HRR5.out.cell 0; have q15 := HRR5.out.cell 1; have qf05 := HRR5.out.frozen 0; have qf15 := HRR5.out.frozen 1; simp only [List.getElem?_cons_zero, List.getElem?_cons_succ] at p05 p15 q05 q15; have HG5 : Hid (w5.os = w4.os ∧ w5.tape = w4.tape ∧ w5.output = w4.output ∧ w4.heap.size ≤ w5.heap.size) := ⟨hg5.os, hg5.tape, hg5.output, (by have := hg5.size; simp at this; omega)⟩; have HRd5 := Lib.hid hrd5; have HZ := Lib.hid (HWF.out z hz); clear hrd5 hg5 hs5 hz)
  all_goals
    go_wp2
    refine bodyPost_ret (v := .tuple #[.agg #[.slice A t.sizes.length cap, .slice C t.cos.length cbp], .int .i64 k, .int .i64 z]) (by simp [results, Try.results64, go_sem, q05, q15]) rfl ?_
    have hset : ∀ g, g ≠ w.heap.size → ((w5.setCell ⟨w.heap.size, 0, none⟩ (.slice A t.sizes.length cap)).setCell ⟨w.heap.size, 1, none⟩ (.slice C t.cos.length cbp)).heap[g]? = w5.heap[g]? := fun g h2 => (Below.heap_setCell _ _ _ _ (by dsimp only; omega)).trans (Below.heap_setCell _ _ _ _ (by dsimp only; omega))
    have hsw := HG5.out.2.2.2
    exact ⟨_, _, t, k, z, rfl, (HRd5.out.keep fun g hg => hset g (by omega)).more (by omega), ⟨HG5.out.1.trans HG4.out.os, HG5.out.2.1.trans HG4.out.tape, HG5.out.2.2.1.trans HG4.out.output, by have := HG4.out.size; simp [World.setCell]; omega, fun g hg hne => (hset g (by omega)).trans ((hk5.out g (by omega) (fun e => hne (by rw [e]))).trans (HG4.out.block g hg hne))⟩, (HV4.out.keep fun g h1 h2 => (hset g (by omega)).trans (hk5.out g (by omega) (by omega))).more (by omega) (by simp [World.setCell]; omega), HD2.out, HK64.out, HZ.out⟩

set_option maxRecDepth 100000 in
set_option maxHeartbeats 1000000 in
theorem drawShort_any (v : Value) (w : World) (h : CodeAt w w.heap.size v) :
    Calls Try.prog 33 #[v] w fun e w' => ∃ sv cv t k z, e = .returned (.tuple #[.agg #[sv, cv], .int .i64 k, .int .i64 z]) ∧ Below w.heap.size w w' ∧ TyAt w' w.heap.size w'.heap.size sv cv t ∧ BdOk t ∧ I64 k ∧ I64 z := by
  have hb0 : Below w.heap.size w (w.alloc (.cells #[.slice none 0 0, .slice none 0 0] 26)) := (Below.refl _ _).alloc (Nat.le_refl _) _
  have hc0 : CodeAt (w.alloc (.cells #[.slice none 0 0, .slice none 0 0] 26)) (w.heap.size + 1) v := by
    obtain ⟨A, n, c, e, h1, h2, h3⟩ := h
    refine ⟨A, n, c, e, h1, h2, fun h0 => ?_⟩
    obtain ⟨a, off, e2, h4, h5⟩ := h3 h0
    refine ⟨a, off, e2, by omega, fun k hk => ?_⟩
    obtain ⟨x, hx, hc⟩ := h5 k hk
    exact ⟨x, hx, (World.cell?_of_block (a := ⟨a, off + k, none⟩) (Below.heap_alloc w _ a h4)).trans hc⟩
  have HO := Lib.hid (l13Open_any (w.heap.size + 1) v _ hc0 (by simp))
  have HB0 := Lib.hid hb0
  clear h hb0 hc0
  go_enter Try.func33, Try.ntmps33
  go_wp2_with fail
  refine HO.out.mono ?_
  rintro e w1 ⟨rfl, hb1, hs1, hr1⟩
  simp only [World.size_alloc] at hs1 hr1
  have HRR1 : Hid (Row w1 w.heap.size 26 [.slice none 0 0, .slice none 0 0]) := (Row.new w 26 [.slice none 0 0, .slice none 0 0]).below hb1 (by simp)
  have HB1 := Lib.hid (HB0.out.trans (hb1.mono (by simp)))
  have HR1 := Lib.hid hr1
  have hs1a : w.heap.size + 2 ≤ w1.heap.size := by omega
  clear hb1 hr1 hs1
  go_wp2_with fail
  refine (two_any (w.heap.size + 1) 0 w1 HR1.out (by omega)).mono ?_
  rintro e w2 ⟨sv, cv, t, k, z, rfl, _, hg2, hv2, hd2, hk64, hz64⟩
  obtain ⟨A, cap, rfl, _, _, _⟩ := hv2.1.form
  obtain ⟨C, cbp, rfl, _, _, _⟩ := hv2.2.form
  have hs2 := hg2.size
  have hrr := HRR1.out.keep (hg2.block _ (by omega) (fun e => by simp only [Option.some.injEq] at e; omega))
  have HB2 : Hid (Below w.heap.size w w2) := ⟨hg2.os.trans HB1.out.os, hg2.tape.trans HB1.out.tape, hg2.output.trans HB1.out.output, Nat.le_trans HB1.out.size hs2, fun g hg => (hg2.block g (by omega) (fun e => by simp only [Option.some.injEq] at e; omega)).trans (HB1.out.block g hg)⟩
  have HV2 := Lib.hid hv2
  have HD2 := Lib.hid hd2
  have HKZ : Hid (I64 k ∧ I64 z) := ⟨hk64, hz64⟩
  have q0 := hrr.cell 0
  have q1 := hrr.cell 1
  have qf0 := hrr.frozen 0
  have qf1 := hrr.frozen 1
  simp only [List.getElem?_cons_zero, List.getElem?_cons_succ] at q0 q1
  clear hg2 hv2 hd2 hrr hk64 hz64
  go_wp2
  refine bodyPost_ret (v := .tuple #[.agg #[.slice A t.sizes.length cap, .slice C t.cos.length cbp], .int .i64 k, .int .i64 z]) (by simp [results, Try.results33, go_sem, q0, q1]) rfl ?_
  have hset : ∀ g, g ≠ w.heap.size → ((w2.setCell ⟨w.heap.size, 0, none⟩ (.slice A t.sizes.length cap)).setCell ⟨w.heap.size, 1, none⟩ (.slice C t.cos.length cbp)).heap[g]? = w2.heap[g]? := fun g h2 => (Below.heap_setCell _ _ _ _ (by dsimp only; omega)).trans (Below.heap_setCell _ _ _ _ (by dsimp only; omega))
  exact ⟨_, _, t, k, z, rfl, (HB2.out.setCell (by dsimp only; omega) _).setCell (by dsimp only; omega) _, (HV2.out.keep fun g h1 h2 => hset g (by omega)).more (by omega) (by simp [World.setCell]), HD2.out, HKZ.out.1, HKZ.out.2⟩
end Go.Proofs.Ytabipfomcldkiaa

