/-
  The contracts of the model's DrawIsInjective and DrawWithoutCoercion.
-/
import Derived.Test.YtplpnammboofiaaBad
namespace Go.Proofs.Ytplpnammboofiaa
open Go.RowKit

set_option maxRecDepth 100000 in
set_option maxHeartbeats 2000000 in
theorem drawInj_any (v : Value) (w : World) (h : CodeAt w w.heap.size v) :
    Calls Try.prog 43 #[v] w fun e w' => ∃ sv cv t z, e = .returned (.tuple #[.agg #[sv, cv], .int .i64 z]) ∧ Below w.heap.size w w' ∧ TyAt w' w.heap.size w'.heap.size sv cv t ∧ BdOk t ∧ I64 z := by
  have hb0 : Below w.heap.size w (w.alloc (.cells #[.slice none 0 0, .slice none 0 0] 26)) := (Below.refl _ _).alloc (Nat.le_refl _) _
  have hc0 : CodeAt (w.alloc (.cells #[.slice none 0 0, .slice none 0 0] 26)) (w.heap.size + 1) v := by
    obtain ⟨A, n, c, e, h1, h2, h3⟩ := h
    refine ⟨A, n, c, e, h1, h2, fun h0 => ?_⟩
    obtain ⟨a, off, e2, h4, h5⟩ := h3 h0
    refine ⟨a, off, e2, by omega, fun k hk => ?_⟩
    obtain ⟨x, hx, hc⟩ := h5 k hk
    exact ⟨x, hx, (World.cell?_of_block (a := ⟨a, off + k, none⟩) (Below.heap_alloc w _ a h4)).trans hc⟩
  have HO := Lib.hid (l13Open_any (w.heap.size + 1) v _ hc0 (by simp))
  have HB0 := Lib.hid hb0
  clear h hb0 hc0
  go_enter Try.func43, Try.ntmps43
  go_wp2_with fail
  refine HO.out.mono ?_
  rintro e w1 ⟨rfl, hb1, hs1, hr1⟩
  simp only [World.size_alloc] at hs1 hr1
  have HRR1 : Hid (Row w1 w.heap.size 26 [.slice none 0 0, .slice none 0 0]) := (Row.new w 26 [.slice none 0 0, .slice none 0 0]).below hb1 (by simp)
  have HB1 := Lib.hid (HB0.out.trans (hb1.mono (by simp)))
  have HR1 := Lib.hid hr1
  have hs1a : w.heap.size + 2 ≤ w1.heap.size := by omega
  clear hb1 hr1 hs1
  go_wp2_with fail
  refine (someT_any (w.heap.size + 1) 0 w1 HR1.out (by omega)).mono ?_
  rintro e w2 ⟨sv, cv, t, rfl, hrd2, hg2, hv2, hd2⟩
  obtain ⟨A, cap, rfl, _, _, _⟩ := hv2.1.form
  obtain ⟨C, cbp, rfl, _, _, _⟩ := hv2.2.form
  have hs2 := hg2.size
  have HRR2 := Lib.hid (HRR1.out.keep (hg2.block _ (by omega) (fun e => by simp only [Option.some.injEq] at e; omega)))
  have HB2 : Hid (Below w.heap.size w w2) := ⟨hg2.os.trans HB1.out.os, hg2.tape.trans HB1.out.tape, hg2.output.trans HB1.out.output, Nat.le_trans HB1.out.size hs2, fun g hg => (hg2.block g (by omega) (fun e => by simp only [Option.some.injEq] at e; omega)).trans (HB1.out.block g hg)⟩
  have HRd2 := Lib.hid hrd2
  have HV2 := Lib.hid hv2
  have HD2 := Lib.hid hd2
  clear hrd2 hg2 hv2 hd2
  have hlt2 : w.heap.size < w2.heap.size := by omega
  go_wp2_with fail
  obtain ⟨w3, hw3⟩ : ∃ u, u = w2.alloc (.cells #[.slice A t.sizes.length cap, .slice C t.cos.length cbp] 26) := ⟨_, rfl⟩
  rw [← hw3]
  have hb23 : Below w2.heap.size w2 w3 := by rw [hw3]; exact (Below.refl _ _).alloc (Nat.le_refl _) _
  have hs3 : w2.heap.size < w3.heap.size := by rw [hw3]; simp
  have HRT3 : Hid (Row w3 w2.heap.size 26 [.slice A t.sizes.length cap, .slice C t.cos.length cbp]) := by rw [hw3]; exact Row.new w2 26 _
  have HRR3 := Lib.hid (HRR2.out.below hb23 (by omega))
  have HB3 := Lib.hid (HB2.out.trans (hb23.mono (by omega)))
  have HRd3 := Lib.hid (HRd2.out.keep (w' := w3) fun g hg => hb23.block g (by omega))
  have HV3 := Lib.hid (HV2.out.below hb23 (Nat.le_refl _))
  clear hw3 hb23 HRR2 HB2 HRd2 HV2 HRR1 HB1
  have p0 := HRT3.out.cell 0
  have p1 := HRT3.out.cell 1
  have q0 := HRR3.out.cell 0
  have q1 := HRR3.out.cell 1
  have qf0 := HRR3.out.frozen 0
  have qf1 := HRR3.out.frozen 1
  simp only [List.getElem?_cons_zero, List.getElem?_cons_succ] at p0 p1 q0 q1
  have hlt3 : w.heap.size < w3.heap.size := by omega
  go_upto_region 3 with fail
  go_region_law (go_simp; go_at_call 79; refine (l1Index_any (w.heap.size + 1) 300 w3.drew (HRd3.out.keep fun _ _ => rfl) (by omega)).mono ?_; rintro e w5 ⟨z, hz64, rfl, hrd5, hg5⟩; have hk5 : Hid (∀ g, g < w3.heap.size → g ≠ w.heap.size + 1 → w5.heap[g]? = w3.heap[g]?) := (fun g h1 h2 => hg5.block g h1 (fun e => h2 (by simpa using e))); have HRT5 := Lib.hid (HRT3.out.keep (hk5.out _ (by omega) (by omega))); have HRR5 := Lib.hid (HRR3.out.keep (hk5.out _ (by omega) (by omega))); have p05 := HRT5.out.cell 0; have p15 := HRT5.out.cell 1; have q05 := HRR5.out.cell 0; have q15 := HRR5.out.cell 1; have qf05 := HRR5.out.frozen 0; have qf15 := HRR5.out.frozen 1; simp only [List.getElem?_cons_zero, List.getElem?_cons_succ] at p05 p15 q05 q15; have HG5 : Hid (w5.os = w3.os ∧ w5.tape = w3.tape ∧ w5.output = w3.output ∧ w3.heap.size ≤ w5.heap.size) := ⟨hg5.os, hg5.tape, hg5.output, hg5.size⟩; have HZ := Lib.hid hz64; clear hrd5 hg5 hz64)
  all_goals
    go_wp2
    refine bodyPost_ret (v := .tuple #[.agg #[.slice A t.sizes.length cap, .slice C t.cos.length cbp], .int .i64 z]) (by simp [results, Try.results43, go_sem, q05, q15]) rfl ?_
    have hset : ∀ g, g ≠ w.heap.size → ((w5.setCell ⟨w.heap.size, 0, none⟩ (.slice A t.sizes.length cap)).setCell ⟨w.heap.size, 1, none⟩ (.slice C t.cos.length cbp)).heap[g]? = w5.heap[g]? := fun g h2 => (Below.heap_setCell _ _ _ _ (by dsimp only; omega)).trans (Below.heap_setCell _ _ _ _ (by dsimp only; omega))
    have hsw := HG5.out.2.2.2
    exact ⟨_, _, t, z, rfl, ⟨HG5.out.1.trans HB3.out.os, HG5.out.2.1.trans HB3.out.tape, HG5.out.2.2.1.trans HB3.out.output, by have := HB3.out.size; simp [World.setCell]; omega, fun g hg => (hset g (by omega)).trans ((hk5.out g (by omega) (by omega)).trans (HB3.out.block g hg))⟩, (HV3.out.keep fun g h1 h2 => (hset g (by omega)).trans (hk5.out g (by omega) (by omega))).more (by omega) (by simp [World.setCell]; omega), HD2.out, HZ.out⟩

set_option maxRecDepth 100000 in
set_option maxHeartbeats 1000000 in
theorem drawWout_any (v : Value) (w : World) (h : CodeAt w w.heap.size v) :
    Calls Try.prog 11 #[v] w fun e w' => ∃ sv cv t z, e = .returned (.tuple #[.agg #[sv, cv], .int .i64 z]) ∧ Below w.heap.size w w' ∧ TyAt w' w.heap.size w'.heap.size sv cv t ∧ BdOk t ∧ I64 z := by
  have hb0 : Below w.heap.size w (w.alloc (.cells #[.slice none 0 0, .slice none 0 0] 26)) := (Below.refl _ _).alloc (Nat.le_refl _) _
  have hc0 : CodeAt (w.alloc (.cells #[.slice none 0 0, .slice none 0 0] 26)) (w.alloc (.cells #[.slice none 0 0, .slice none 0 0] 26)).heap.size v := by
    obtain ⟨A, n, c, e, h1, h2, h3⟩ := h
    refine ⟨A, n, c, e, h1, h2, fun h0 => ?_⟩
    obtain ⟨a, off, e2, h4, h5⟩ := h3 h0
    refine ⟨a, off, e2, by simp; omega, fun k hk => ?_⟩
    obtain ⟨x, hx, hc⟩ := h5 k hk
    exact ⟨x, hx, (World.cell?_of_block (a := ⟨a, off + k, none⟩) (Below.heap_alloc w _ a h4)).trans hc⟩
  have HO := Lib.hid (drawInj_any v _ hc0)
  have HB0 := Lib.hid hb0
  clear h hb0 hc0
  go_enter Try.func11, Try.ntmps11
  go_wp2_with fail
  refine HO.out.mono ?_
  rintro e w2 ⟨sv, cv, t, z, rfl, hb2, hv2, hd2, hz64⟩
  obtain ⟨A, cap, rfl, _, _, _⟩ := hv2.1.form
  obtain ⟨C, cbp, rfl, _, _, _⟩ := hv2.2.form
  have hs2 : w.heap.size + 1 ≤ w2.heap.size := by have := hb2.size; simpa using this
  have hrr : Row w2 w.heap.size 26 [.slice none 0 0, .slice none 0 0] := (Row.new w 26 [.slice none 0 0, .slice none 0 0]).below hb2 (by simp)
  have HB2 := Lib.hid (HB0.out.trans (hb2.mono (by simp)))
  simp only [World.size_alloc] at hv2
  have HV2 := Lib.hid hv2
  have HD2 := Lib.hid hd2
  have HZ := Lib.hid hz64
  have q0 := hrr.cell 0
  have q1 := hrr.cell 1
  have qf0 := hrr.frozen 0
  have qf1 := hrr.frozen 1
  simp only [List.getElem?_cons_zero, List.getElem?_cons_succ] at q0 q1
  clear hb2 hv2 hd2 hrr hz64 HO
  go_wp2
  refine bodyPost_ret (v := .tuple #[.agg #[.slice A t.sizes.length cap, .slice C t.cos.length cbp], .int .i64 z]) (by simp [results, Try.results11, go_sem, q0, q1]) rfl ?_
  have hset : ∀ g, g ≠ w.heap.size → ((w2.setCell ⟨w.heap.size, 0, none⟩ (.slice A t.sizes.length cap)).setCell ⟨w.heap.size, 1, none⟩ (.slice C t.cos.length cbp)).heap[g]? = w2.heap[g]? := fun g h2 => (Below.heap_setCell _ _ _ _ (by dsimp only; omega)).trans (Below.heap_setCell _ _ _ _ (by dsimp only; omega))
  exact ⟨_, _, t, z, rfl, (HB2.out.setCell (by dsimp only; omega) _).setCell (by dsimp only; omega) _, (HV2.out.keep fun g h1 h2 => hset g (by omega)).more (by omega) (by simp [World.setCell]), HD2.out, HZ.out⟩
end Go.Proofs.Ytplpnammboofiaa
