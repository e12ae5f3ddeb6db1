/-
  The contracts of the functions that mark types, and look whether the marks hold.
-/
import Derived.Test.YtilcahidmoaakaaMarkc
namespace Go.Proofs.Ytilcahidmoaakaa
open Go.RowKit

set_option maxRecDepth 100000 in
set_option maxHeartbeats 1000000 in
theorem markTypes_any (gs gc n : Nat) (m : Nat → Nat) (mv : Nat → Value) (sv cv : Value) (ss : List Int) (f : Nat → Co) (k0 : Int) (w : World) (hv : OwnTy w 3 67 gs gc m mv sv cv ss n f) (h0 : 0 ≤ k0)
    (h1 : k0 + (ss.length : Int) + 2 * (n : Int) + (lenSum f n : Int) ≤ 900000000) :
    Calls Try.prog 92 #[.agg #[sv, cv], .int .i64 k0] w fun e w' => e = .returned (.int .i64 (markAt f (k0 + ss.length) n)) ∧ Kept (fun k => ¬ OwnTy.uses gs gc m ss n f k) w w' ∧ w'.heap.size = w.heap.size + 1 ∧
      OwnTy w' 3 67 gs gc m mv sv cv (markL k0 ss.length) n (mixCo f (k0 + ss.length) n) := by
  have Hv := Lib.hid hv
  obtain ⟨⟨A, cap, rfl, _⟩, ⟨_, ⟨B, bap, rfl, _⟩, _⟩, _, _⟩ := hv
  have hin : ∀ (k : Nat), k < w.heap.size → ∀ o : Obj, (w.alloc o).heap[k]? = w.heap[k]? := fun k hk o => Below.heap_alloc w o k hk
  have Hin := Lib.hid hin
  clear hin
  go_enter Try.func92, Try.ntmps92
  go_wp2_with fail
  refine (markIntS_any gs _ ss k0 _ (Hv.out.sizes.keep fun h => Hin.out _ (Hv.out.sizes.lt h) _) h0 (by omega)).mono ?_
  rintro e w1 ⟨rfl, hk1, ho1, hs1⟩
  have q1 : w1.cell? ⟨w.heap.size, 1, none⟩ = some (.slice B n bap) := by
    have hb : w1.heap[w.heap.size]? = (w.alloc (.cells #[.slice A ss.length cap, .slice B n bap] 33)).heap[w.heap.size]? := hk1.block _ (by simp) (fun h => by have := Hv.out.sizes.lt h; omega)
    rw [World.cell?_of_block (w := w.alloc (.cells #[.slice A ss.length cap, .slice B n bap] 33)) hb]
    simp [go_sem]
  have Hk1 := Lib.hid hk1
  have Ho1 := Lib.hid ho1
  have Hs1 := Lib.hid hs1
  have hco : OwnCos w1 3 67 gc m mv (.slice B n bap) n f := Hv.out.cos.keep
    (fun h => (Hk1.out.block gc (by have := Hv.out.cos.lt.1 h; simp; omega) (fun h2 => (Hv.out.away h2).1.symm)).trans (Hin.out _ (Hv.out.cos.lt.1 h) _))
    (fun i hi hl => (Hk1.out.block (m i) (by have := Hv.out.cos.lt.2 i hi hl; simp; omega) (fun h2 => ((Hv.out.away h2).2 i hi hl).symm)).trans (Hin.out _ (Hv.out.cos.lt.2 i hi hl) _))
  have Hco := Lib.hid hco
  clear hk1 ho1 hs1 hco
  go_wp2_with fail
  refine (markCoercionS_any gc n m mv _ f (k0 + (ss.length : Int)) _ Hco.out Hv.out.apart (by omega) (by omega)).mono ?_
  rintro e w2 ⟨rfl, hk2, hs2, ho2⟩
  have Hk2 := Lib.hid hk2
  have Ho2 := Lib.hid ho2
  have Hs2 := Lib.hid hs2
  clear hk2 ho2 hs2
  go_wp2
  go_ret
  refine ⟨rfl, ?_, by rw [Hs2.out, Hs1.out]; simp, ⟨?_, Ho2.out, Hv.out.apart.mix _ _, fun h => ?_⟩⟩
  · refine (((Kept.refl _ w).alloc _).trans (Hk1.out.weak fun k hk h e => hk (.inl ⟨h, e⟩))).trans (Hk2.out.weak fun k hk => ?_)
    exact ⟨fun hn e => hk (.inr (.inl ⟨hn, e⟩)), fun i hi hl e => hk (.inr (.inr ⟨i, hi, hl, e⟩))⟩
  · refine Ho1.out.keep fun h => ?_
    rw [markL_len] at h
    have hlt := Hv.out.sizes.lt h
    exact Hk2.out.block gs (by rw [Hs1.out]; simp; omega) ⟨fun _ => (Hv.out.away h).1, fun i hi hl => (Hv.out.away h).2 i hi hl⟩
  · rw [markL_len] at h
    exact ⟨(Hv.out.away h).1, fun i hi hl => (Hv.out.away h).2 i hi (by rw [mixCo_len] at hl; exact hl)⟩

set_option maxRecDepth 100000 in
set_option maxHeartbeats 2000000 in
theorem heldCoercionS_any (lo hi n : Nat) (cv : Value) (f : Nat → Co) (k0 : Int) (w : World) (hv : CosAt w lo hi cv ((List.range n).map (markCo f k0))) (hB : hi ≤ w.heap.size) (h0 : 0 ≤ k0) (h1 : k0 + 2 * (n : Int) + (lenSum f n : Int) ≤ 900000000) :
    Calls Try.prog 158 #[cv, .int .i64 k0] w fun e w' => e = .returned (.int .i64 (markAt f k0 n)) ∧ w = w' := by
  obtain ⟨A, cap, rfl, hc, hm, hz⟩ := hv.form
  have hn : ((List.range n).map (markCo f k0)).length = n := by simp
  rw [hn] at hc hz
  unfold maxLen at hm
  have Hz := Lib.hid hz
  have Hn := Lib.hid hn
  clear hz hv
  rw [hn]
  clear hn
  go_enter Try.func158, Try.ntmps158
  go_wp2
  go_loop [1, 5] (fun q i => ∃ j : Nat, j ≤ n ∧ i = .int .i64 j ∧ q = .int .i64 (markAt f k0 j)) (fun _ i => n - (intOf i).toNat)
  case atStart => exact ⟨0, Nat.zero_le _, rfl, by simp [markAt, lenSum]⟩
  case round =>
    obtain ⟨j, hj, rfl, rfl⟩ := hrel
    by_cases hlt : j < n
    · have hms := lenSum_mono f (show j + 1 ≤ n by omega)
      have hms1 : lenSum f (j + 1) = lenSum f j + (f j).map.length := rfl
      have hat : markAt f k0 j = k0 + 2 * (j : Int) + (lenSum f j : Int) := rfl
      have hb0 : 0 ≤ markAt f k0 j := by rw [hat]; omega
      have hb1 : markAt f k0 j + 2 + ((f j).map.length : Int) ≤ 900000000 := by rw [hat]; omega
      have hnext := Lib.hid (markAt_succ f k0 j)
      clear hms hms1 hat
      obtain ⟨b, off, A2, cap2, rfl, _, _, c0, c1, c2, _, _, _, _, hq⟩ := Hz.out.at_ (k := j) (by rw [Hn.out]; exact hlt)
      simp only [List.getElem_map, List.getElem_range] at c0 c1 c2 hq
      have e0 : (markCo f k0 j).src = markAt f k0 j := rfl
      have e1 : (markCo f k0 j).dst = markAt f k0 j + 1 := rfl
      have e2 : (markCo f k0 j).map = markL (markAt f k0 j + 2) (f j).map.length := rfl
      rw [e0] at c0
      rw [e1] at c1
      rw [e2] at c2 hq
      have Hq := Lib.hid hq
      clear e0 e1 e2 hq
      have hbne : (markAt f k0 j != markAt f k0 j) = false := by simp
      have hbne1 : (markAt f k0 j + 1 != markAt f k0 j + 1) = false := by simp
      have hneg : decide (markAt f k0 j + 2 + ((f j).map.length : Int) < 0) = false := by simp; omega
      go_wp2_with fail
      rw [show (markAt f k0 j + 1 + 1 : Int) = markAt f k0 j + 2 from by omega]
      refine (heldIntS_any lo hi _ (f j).map.length (markAt f k0 j + 2) _ Hq.out hB (by omega) (by omega)).mono ?_
      rintro e w1 ⟨rfl, rfl⟩
      go_wp2
      go_round
      case rel => exact ⟨j + 1, by omega, by go_num, by rw [hnext.out]⟩
      case measure => simp [intOf]; omega
    · obtain rfl : j = n := by omega
      go_wp2
      go_ret
      exact ⟨rfl, rfl⟩

theorem mix_all (f : Nat → Co) (k0 : Int) (n : Nat) : (List.range n).map (mixCo f k0 n) = (List.range n).map (markCo f k0) := by
  refine List.map_congr_left fun i hi => ?_
  unfold mixCo
  rw [if_pos (List.mem_range.1 hi)]

set_option maxRecDepth 100000 in
set_option maxHeartbeats 1000000 in
theorem heldTypes_any (lo hi n : Nat) (sv cv : Value) (k : Nat) (f : Nat → Co) (k0 : Int) (w : World) (hv : TyAt w lo hi sv cv ⟨markL k0 k, (List.range n).map (mixCo f (k0 + k) n)⟩) (hB : hi ≤ w.heap.size) (h0 : 0 ≤ k0) (h1 : k0 + (k : Int) + 2 * (n : Int) + (lenSum f n : Int) ≤ 900000000) :
    Calls Try.prog 101 #[.agg #[sv, cv], .int .i64 k0] w fun e w' => e = .returned (.int .i64 (markAt f (k0 + k) n)) ∧ Below w.heap.size w w' := by
  obtain ⟨hs, hc⟩ := hv
  simp only [mix_all] at hc
  obtain ⟨A, cap, rfl, _, _, hs⟩ := hs.form
  obtain ⟨B, bap, rfl, _, _, hc⟩ := hc.form
  simp only [markL_len, List.length_map, List.length_range] at hs hc ⊢
  have hat : markAt f (k0 + k) n = k0 + (k : Int) + 2 * (n : Int) + (lenSum f n : Int) := rfl
  have hpos : 0 ≤ markAt f (k0 + k) n := by rw [hat]; omega
  have h3 : Below w.heap.size w (w.alloc (.cells #[.slice A k cap, .slice B n bap] 33)) := by go_grown
  have Hs := Lib.hid (hs.below h3 hB)
  have Hc := Lib.hid (hc.below h3 hB)
  have H3 := Lib.hid h3
  clear hs hc h3 hat
  go_enter Try.func101, Try.ntmps101
  go_wp2_with (first
    | (go_at_call 28; refine (heldIntS_any lo hi _ k k0 _ Hs.out (by simp; omega) h0 (by omega)).mono ?_; rintro e w1 ⟨rfl, rfl⟩)
    | (go_at_call 158; refine (heldCoercionS_any lo hi n _ f (k0 + (k : Int)) _ Hc.out (by simp; omega) (by omega) (by omega)).mono ?_; rintro e w1 ⟨rfl, rfl⟩))
  go_ret
  exact ⟨rfl, H3.out⟩
end Go.Proofs.Ytilcahidmoaakaa
