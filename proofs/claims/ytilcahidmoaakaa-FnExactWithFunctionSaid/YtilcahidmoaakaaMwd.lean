/-
  The contracts of heldSystem, and of markSystem with what is there afterwards.
-/
import Derived.Test.YtilcahidmoaakaaMarks
import Derived.BigRegion
import Derived.Deep.RegionLaw
import Derived.Deep.DeepCutAuto
namespace Go.Proofs.Ytilcahidmoaakaa
open Go.RowKit

theorem mixF_all (f : Nat → Fu) (k0 : Int) (n : Nat) : (List.range n).map (mixFu f k0 n) = (List.range n).map (markFu f k0) := by
  refine List.map_congr_left fun i hi => ?_
  unfold mixFu
  rw [if_pos (List.mem_range.1 hi)]

set_option maxHeartbeats 1000000 in
theorem markFunction_any (ga gt : Nat) (nm : ByteArray) (r : Int) (a t : Value) (zs ys : List Int) (k0 : Int) (w : World) (ha : OwnI w 3 ga a zs) (ht : OwnI w 3 gt t ys) (hga : 0 < zs.length → ga < w.heap.size) (hgt : 0 < ys.length → gt < w.heap.size) (hne : 0 < zs.length → 0 < ys.length → ga ≠ gt) (h0 : 0 ≤ k0) (h1 : k0 + zs.length + ys.length ≤ 1000000000) :
    Calls Try.prog 36 #[.agg #[.string nm, a, .int .i64 r, t], .int .i64 k0] w fun e w' => e = .returned (.int .i64 (k0 + zs.length + ys.length)) ∧ Kept (fun k => (0 < zs.length → k ≠ ga) ∧ (0 < ys.length → k ≠ gt)) w w' := by
  obtain ⟨A, cap, rfl, hc, hm, hnil, hrow⟩ := id ha
  obtain ⟨T, tap, rfl, hct, hmt, hnilt, hrowt⟩ := id ht
  have H := Lib.hid (ha.keep (w' := w.alloc (.cells #[.string nm, .slice A zs.length cap, .int .i64 r, .slice T ys.length tap] 55)) fun h => Below.heap_alloc w _ ga (hga (by simpa using h)))
  have Ht := Lib.hid (ht.keep (w' := w.alloc (.cells #[.string nm, .slice A zs.length cap, .int .i64 r, .slice T ys.length tap] 55)) fun h => Below.heap_alloc w _ gt (hgt (by simpa using h)))
  clear ha ht hrow hrowt
  go_enter Try.func36, Try.ntmps36
  go_wp2_with fail
  refine (markIntS_any ga _ zs k0 _ H.out h0 (by omega)).mono ?_
  rintro e w1 ⟨rfl, hk, ho, _⟩
  have hrow : Row w1 w.heap.size 55 [.string nm, .slice A zs.length cap, .int .i64 r, .slice T ys.length tap] := (Row.new w 55 [.string nm, .slice A zs.length cap, .int .i64 r, .slice T ys.length tap]).keep (hk.block _ (by simp) (fun h => by have := hga h; omega))
  have q3 := hrow.cell 3
  simp only [List.getElem?_cons_zero, List.getElem?_cons_succ] at q3
  have Ht1 := Lib.hid (Ht.out.keep (w' := w1) fun h => hk.block gt (by have := hgt (by simpa using h); simp; omega) (fun h2 => (hne h2 (by simpa using h)).symm))
  have K0 : Kept (fun k => (0 < zs.length → k ≠ ga) ∧ (0 < ys.length → k ≠ gt)) w (w.alloc (.cells #[.string nm, .slice A zs.length cap, .int .i64 r, .slice T ys.length tap] 55)) := (Kept.refl _ _).alloc _
  have K1 := Lib.hid (K0.trans (hk.weak fun k h => h.1))
  have hs1 : w.heap.size < w1.heap.size := by have := hk.size; simp at this; omega
  clear hk ho hrow K0
  go_wp2_with fail
  refine (markIntS_any gt _ ys (k0 + zs.length) _ Ht1.out (by omega) (by omega)).mono ?_
  rintro e w2 ⟨rfl, hk2, ho2, _⟩
  have K2 := Lib.hid (K1.out.trans (hk2.weak fun k h => h.2))
  clear hk2 ho2
  go_wp2
  go_ret
  exact ⟨rfl, K2.out⟩

set_option maxRecDepth 100000 in
set_option maxHeartbeats 4000000 in
theorem heldFunctionS_any (lo hi n : Nat) (cv : Value) (f : Nat → Fu) (k0 : Int) (w : World) (hv : FusAt w lo hi cv ((List.range n).map (markFu f k0))) (hB : hi ≤ w.heap.size) (h0 : 0 ≤ k0) (h1 : k0 + 2 * (n : Int) + (lenF f n : Int) ≤ 900000000) :
    Calls Try.prog 102 #[cv, .int .i64 k0] w fun e w' => e = .returned (.int .i64 (markAtF f k0 n)) ∧ Below w.heap.size w w' := by
  obtain ⟨A, cap, rfl, hc, hm, hz⟩ := hv.form
  have hn : ((List.range n).map (markFu f k0)).length = n := by simp
  rw [hn] at hc hz
  unfold maxLen at hm
  have Hz := Lib.hid hz
  have Hn := Lib.hid hn
  clear hz hv
  rw [hn]
  clear hn
  go_enter Try.func102, Try.ntmps102
  go_wp2
  go_loopw [1, 5] (fun q i wr => ∃ j : Nat, j ≤ n ∧ i = .int .i64 j ∧ q = .int .i64 (markAtF f k0 j) ∧ Hid (Below w.heap.size w wr)) (fun _ i _ => n - (intOf i).toNat)
  case atStart => exact ⟨0, Nat.zero_le _, rfl, by simp [markAtF, lenF], Below.refl _ _⟩
  case round =>
    obtain ⟨j, hj, rfl, rfl, hb⟩ := hrel
    by_cases hlt : j < n
    · have hms := lenF_mono f (show j + 1 ≤ n by omega)
      have hms1 : lenF f (j + 1) = lenF f j + (f j).args.length + (f j).table.length := rfl
      have hat : markAtF f k0 j = k0 + 2 * (j : Int) + (lenF f j : Int) := rfl
      have hb0 : 0 ≤ markAtF f k0 j := by rw [hat]; omega
      have hb1 : markAtF f k0 j + 2 + ((f j).args.length : Int) + ((f j).table.length : Int) ≤ 900000000 := by rw [hat]; omega
      have hnext := Lib.hid (markAtF_succ f k0 j)
      clear hms hms1 hat
      obtain ⟨b, off, A1, cap1, A2, cap2, rfl, hlo, hhi, c0, c1, c2, c3, _, _, _, _, hfu⟩ := (Hz.out.below hb.out hB).at_ (k := j) (by rw [Hn.out]; exact hlt)
      simp only [List.getElem_map, List.getElem_range] at c0 c1 c2 c3 hfu
      have e0 : (markFu f k0 j).name = mText (markAtF f k0 j) := rfl
      have e1 : (markFu f k0 j).args = markL (markAtF f k0 j + 1) (f j).args.length := rfl
      have e2 : (markFu f k0 j).res = markAtF f k0 j + 1 + ((f j).args.length : Int) := rfl
      have e3 : (markFu f k0 j).table = markL (markAtF f k0 j + 1 + ((f j).args.length : Int) + 1) (f j).table.length := rfl
      rw [e0] at c0
      rw [e1] at c1
      rw [e2] at c2
      rw [e3] at c3
      obtain ⟨_, _, _, _, hqa, hqt⟩ := hfu
      rw [e1] at hqa
      rw [e3] at hqt
      have Hqa := Lib.hid hqa
      have Hqt := Lib.hid hqt
      clear e0 e1 e2 e3 hqa hqt
      have hbs := hb.out.size
      have hneg : decide (markAtF f k0 j + 1 + ((f j).args.length : Int) < 0) = false := by simp; omega
      have hneg2 : decide (markAtF f k0 j + 1 + ((f j).args.length : Int) + 1 + ((f j).table.length : Int) < 0) = false := by simp; omega
      have hbne : (markAtF f k0 j + 1 + ((f j).args.length : Int) != markAtF f k0 j + 1 + ((f j).args.length : Int)) = false := by simp
      generalize markAtF f k0 j = M at hb0 hb1 c0 c1 c2 c3 hneg hneg2 hbne Hqa Hqt hnext ⊢
      go_upto_region 4 with fail
      go_region_law (first
        | (go_simp; go_at_call 154; refine (markText_any _ _ (by omega) (by omega)).mono ?_; rintro e w2 ⟨rfl, hb2⟩; have hs2 : wr.heap.size ≤ w2.heap.size := (by simpa using hb2.size); have hk2 : Hid (∀ g, g < wr.heap.size → w2.heap[g]? = wr.heap[g]?) := (fun g hgl => hb2.block g (by (try simp); (try omega))); have d0 : w2.cell? ⟨b, off + j * 4, none⟩ = some (.string (mText M)) := (World.cell?_of_block (a := ⟨b, off + j * 4, none⟩) (hk2.out b (by omega))).trans c0; have Hb2 := Lib.hid hb2; clear hb2))
      all_goals
        clear d0
        have Hb2w : Below wr.heap.size wr w2 := ((Below.refl _ wr).drew).trans (Hb2.out.mono (by (try simp); (try omega)))
        have Hb3 := Lib.hid (hb.out.trans (Hb2w.mono (by omega)))
        clear Hb2w
        have d1 : w2.cell? ⟨b, off + j * 4 + 1, none⟩ = _ := (World.cell?_of_block (a := ⟨b, off + j * 4 + 1, none⟩) (hk2.out b (by omega))).trans c1
        have d2 : w2.cell? ⟨b, off + j * 4 + 2, none⟩ = _ := (World.cell?_of_block (a := ⟨b, off + j * 4 + 2, none⟩) (hk2.out b (by omega))).trans c2
        have d3 : w2.cell? ⟨b, off + j * 4 + 3, none⟩ = _ := (World.cell?_of_block (a := ⟨b, off + j * 4 + 3, none⟩) (hk2.out b (by omega))).trans c3
        have Ha2 := Lib.hid (Hqa.out.keep fun k _ hk => hk2.out k (by omega))
        have Ht2 := Lib.hid (Hqt.out.keep fun k _ hk => hk2.out k (by omega))
        clear c0 c1 c2 c3
        go_wp2_with fail
        refine (heldIntS_any lo hi _ (f j).args.length (M + 1) _ Ha2.out (by omega) (by omega) (by omega)).mono ?_
        rintro e w1 ⟨rfl, rfl⟩
        go_wp2_with fail
        refine (heldIntS_any lo hi _ (f j).table.length (M + 1 + ((f j).args.length : Int) + 1) _ Ht2.out (by omega) (by omega) (by omega)).mono ?_
        rintro e w1 ⟨rfl, rfl⟩
        go_wp2
        go_roundw
        case rel => exact ⟨j + 1, by omega, by go_num, by rw [hnext.out], Hb3⟩
        case measure => simp [intOf]; omega
    · obtain rfl : j = n := by omega
      go_wp2
      go_ret
      exact ⟨rfl, hb.out⟩
end Go.Proofs.Ytilcahidmoaakaa

namespace Go.Proofs.Ytilcahidmoaakaa
open Go.RowKit

theorem markL_wf2 (k : Int) (n : Nat) (h0 : 0 ≤ k) (h1 : k + n ≤ 1000000000) : ∀ z ∈ markL k n, I64 z := by
  intro z hz
  unfold markL at hz
  obtain ⟨i, hi, rfl⟩ := List.mem_map.1 hz
  have := List.mem_range.1 hi
  unfold I64
  omega
theorem markC_wf2 {f : Nat → Co} {k0 : Int} {n : Nat} (h0 : 0 ≤ k0) (h1 : k0 + 2 * (n : Int) + (lenSum f n : Int) ≤ 900000000) : ∀ i, i < n → I64 (mixCo f k0 n i).src ∧ I64 (mixCo f k0 n i).dst ∧ ∀ z ∈ (mixCo f k0 n i).map, I64 z := by
  intro i hi
  have e : mixCo f k0 n i = markCo f k0 i := by unfold mixCo; rw [if_pos hi]
  have hs := lenSum_mono f (show i + 1 ≤ n by omega)
  have hl : lenSum f (i + 1) = lenSum f i + (f i).map.length := rfl
  have hm : markAt f k0 i = k0 + 2 * (i : Int) + (lenSum f i : Int) := rfl
  rw [e]
  refine ⟨?_, ?_, markL_wf2 _ _ ?_ ?_⟩
  · show I64 (markAt f k0 i); unfold I64; omega
  · show I64 (markAt f k0 i + 1); unfold I64; omega
  · omega
  · omega
theorem uses_mark2 {gs gc n : Nat} {m : Nat → Nat} {f : Nat → Co} {k0 k1 : Int} {s : Nat} {ss : List Int} (hs : ss.length = s) {k : Nat} (h : OwnTy.uses gs gc m (markL k0 s) n (mixCo f k1 n) k) : OwnTy.uses gs gc m ss n f k := by
  rcases h with ⟨h0, rfl⟩ | h | ⟨i, hi, h0, rfl⟩
  · rw [markL_len] at h0; exact .inl ⟨by omega, rfl⟩
  · exact .inr (.inl h)
  · rw [mixCo_len] at h0; exact .inr (.inr ⟨i, hi, h0, rfl⟩)

set_option maxRecDepth 100000 in
set_option maxHeartbeats 2000000 in
theorem markSystem_full (gs gc n : Nat) (m : Nat → Nat) (mv : Nat → Value) (sv cv : Value) (ss : List Int) (f : Nat → Co) (gf nf : Nat) (mf : Nat → Bool → Nat) (mvf : Nat → Bool → Value) (fv : Value) (ff : Nat → Fu) (k0 : Int) (w : World)
    (hv : OwnSy w gs gc m mv sv cv ss n f gf mf mvf fv nf ff) (h0 : 0 ≤ k0) (h1 : k0 + (ss.length : Int) + 2 * (n : Int) + (lenSum f n : Int) + 2 * (nf : Int) + (lenF ff nf : Int) ≤ 900000000) :
    Calls Try.prog 26 #[.agg #[sv, cv, fv], .int .i64 k0] w fun e w' => e = .returned (.int .i64 (markAtF ff (markAt f (k0 + ss.length) n) nf)) ∧ Kept (fun k => ¬ OwnSy.uses gs gc m ss n f gf mf nf ff k) w w' ∧ OwnTy w' 3 67 gs gc m mv sv cv (markL k0 ss.length) n (mixCo f (k0 + ss.length) n) ∧ OwnFus w' 3 55 gf mf mvf fv nf (mixFu ff (markAt f (k0 + ss.length) n) nf) := by
  have Hv := Lib.hid hv
  obtain ⟨⟨⟨A, cap, rfl, _⟩, ⟨_, ⟨B, bap, rfl, _⟩, _⟩, _, _⟩, ⟨_, ⟨F, fap, rfl, _⟩, _⟩, _, _⟩ := hv
  have hat : markAt f (k0 + ss.length) n = k0 + (ss.length : Int) + 2 * (n : Int) + (lenSum f n : Int) := rfl
  have h3 : Below w.heap.size w (w.alloc (.cells #[.slice A ss.length cap, .slice B n bap, .slice F nf fap] 36)) := by go_grown
  have H1 := Lib.hid (Below.refl (w.heap.size + 1) (w.alloc (.cells #[.slice A ss.length cap, .slice B n bap, .slice F nf fap] 36)))
  go_enter Try.func26, Try.ntmps26
  go_wp2_with fail
  refine (markTypes_any gs gc n m mv _ _ ss f k0 _ (Hv.out.ty.keep fun k hk _ => h3.block k hk) h0 (by omega)).mono ?_
  rintro e w1 ⟨rfl, hk1, hs1, ho1⟩
  have hrow : Row w1 w.heap.size 36 [.slice A ss.length cap, .slice B n bap, .slice F nf fap] := (Row.new w 36 [.slice A ss.length cap, .slice B n bap, .slice F nf fap]).keep (hk1.block _ (by simp) (fun h => by have := Hv.out.ty.uses_lt h; omega))
  have q2 := hrow.cell 2
  simp only [List.getElem?_cons_zero, List.getElem?_cons_succ] at q2
  have Ho1 := Lib.hid ho1
  have Hk1 := Lib.hid hk1
  have Hs1 := Lib.hid hs1
  have H3 := Lib.hid h3
  have hf1 : OwnFus w1 3 55 gf mf mvf (.slice F nf fap) nf ff := by
    have hlt := Hv.out.fs.lt
    refine Hv.out.fs.keep (fun h0 => ?_) (fun i b hi hl => ?_)
    · exact (hk1.block gf (by have := hlt.1 h0; simp; omega) (fun h => (Hv.out.away _ h).1 h0 rfl)).trans (h3.block _ (hlt.1 h0))
    · exact (hk1.block _ (by have := hlt.2 i b hi hl; simp; omega) (fun h => (Hv.out.away _ h).2 i b hi hl rfl)).trans (h3.block _ (hlt.2 i b hi hl))
  have Hf1 := Lib.hid hf1
  clear hk1 hs1 ho1 h3 hrow hf1 H1
  obtain ⟨M, hM⟩ : ∃ M, M = markAt f (k0 + ss.length) n := ⟨_, rfl⟩
  rw [← hM]
  have HM := Lib.hid hM
  have hM0 : 0 ≤ M := by rw [hM, hat]; omega
  have hM1 : M + 2 * (nf : Int) + (lenF ff nf : Int) ≤ 900000000 := by rw [hM, hat]; omega
  clear hM hat
  go_wp2_with fail
  refine (markFunctionS_any gf nf mf mvf _ ff M _ Hf1.out Hv.out.apart hM0 hM1).mono ?_
  rintro e w2 ⟨rfl, hk2, ho2⟩
  have hty2 := Lib.hid (Ho1.out.keep fun k hk hu => hk2.block k hk (Hv.out.away k (uses_mark2 rfl hu)))
  have Ho2 := Lib.hid ho2
  have Hk2 := Lib.hid hk2
  clear hk2 ho2
  go_wp2
  go_ret
  rw [← HM.out]
  refine ⟨rfl, ?_, hty2.out, Ho2.out⟩
  have k0 : Kept (fun k => ¬ OwnSy.uses gs gc m ss n f gf mf nf ff k) w (w.alloc (.cells #[.slice A ss.length cap, .slice B n bap, .slice F nf fap] 36)) := ⟨H3.out.os, H3.out.tape, H3.out.output, H3.out.size, fun k hk _ => H3.out.block k hk⟩
  exact (k0.trans (Hk1.out.weak fun k h h2 => h (.inl h2))).trans (Hk2.out.weak fun k h => Classical.byContradiction fun h2 => h (.inr h2))

theorem OwnFus.fusAt {w : World} {gc n lo hi : Nat} {m : Nat → Bool → Nat} {mv : Nat → Bool → Value} {cv : Value} {f : Nat → Fu} (h : OwnFus w 3 55 gc m mv cv n f)
    (hw : ∀ i, i < n → (f i).fits) (hg : 0 < n → lo ≤ gc ∧ gc < hi) (hm : ∀ i b, i < n → 0 < ((f i).zs b).length → lo ≤ m i b ∧ m i b < hi) : FusAt w lo hi cv ((List.range n).map f) := by
  obtain ⟨xs, ⟨A, cap, rfl, hc, hcm, _, hrow⟩, hx, hcells, hmaps⟩ := h
  have e : ((List.range n).map f).length = n := by simp
  refine ⟨A, cap, by rw [e], by rw [e]; exact hc, hcm, fun h0 => ?_⟩
  rw [e] at h0
  obtain ⟨rfl, rest, hr⟩ := hrow h0
  refine ⟨gc, 0, rfl, (hg h0).1, (hg h0).2, fun k hk => ?_⟩
  rw [e] at hk
  obtain ⟨a, b, c, d⟩ := hcells k hk
  obtain ⟨w1, w2, w3, w4⟩ := hw k hk
  rw [List.getD_eq_getElem?_getD, List.getElem?_eq_getElem (by rw [e]; exact hk)]
  simp only [List.getElem_map, List.getElem_range, Option.getD_some]
  refine ⟨_, _, _, _, ?_, ?_, ?_, ?_, rfl, rfl, w1, w2, (hmaps k false hk).ints w3 (hm k false hk), (hmaps k true hk).ints w4 (hm k true hk)⟩
  · rw [Nat.zero_add, hr.cell, List.getElem?_append_left (by omega), a]
  · rw [Nat.zero_add, hr.cell, List.getElem?_append_left (by omega), b]
  · rw [Nat.zero_add, hr.cell, List.getElem?_append_left (by omega), c]
  · rw [Nat.zero_add, hr.cell, List.getElem?_append_left (by omega), d]
theorem markF_fits {f : Nat → Fu} {k0 : Int} {n : Nat} (h0 : 0 ≤ k0) (h1 : k0 + 2 * (n : Int) + (lenF f n : Int) ≤ 900000000) : ∀ i, i < n → (mixFu f k0 n i).fits := by
  intro i hi
  have e : mixFu f k0 n i = markFu f k0 i := by unfold mixFu; rw [if_pos hi]
  have hs := lenF_mono f (show i + 1 ≤ n by omega)
  have hl : lenF f (i + 1) = lenF f i + (f i).args.length + (f i).table.length := rfl
  have hm : markAtF f k0 i = k0 + 2 * (i : Int) + (lenF f i : Int) := rfl
  rw [e]
  refine ⟨?_, ?_, markL_wf2 _ _ ?_ ?_, markL_wf2 _ _ ?_ ?_⟩
  · have := mText_size (markAtF f k0 i)
    show (mText (markAtF f k0 i)).size ≤ maxLen
    unfold maxLen
    omega
  · show I64 (markAtF f k0 i + 1 + ((f i).args.length : Int)); unfold I64; omega
  · omega
  · omega
  · omega
  · omega
/-- What marked systems read as. -/
def markSy (k0 : Int) (s n : Nat) (f : Nat → Co) (nf : Nat) (ff : Nat → Fu) : Sy := ⟨⟨markL k0 s, (List.range n).map (mixCo f (k0 + s) n)⟩, (List.range nf).map (mixFu ff (markAt f (k0 + s) n) nf)⟩
theorem markSy_at {w : World} {gs gc n gf nf lo hi : Nat} {m : Nat → Nat} {mv : Nat → Value} {sv cv fv : Value} {ss : List Int} {f : Nat → Co} {mf : Nat → Bool → Nat} {mvf : Nat → Bool → Value} {ff : Nat → Fu} {k0 : Int}
    (h1 : OwnTy w 3 67 gs gc m mv sv cv (markL k0 ss.length) n (mixCo f (k0 + ss.length) n)) (h2 : OwnFus w 3 55 gf mf mvf fv nf (mixFu ff (markAt f (k0 + ss.length) n) nf))
    (h0 : 0 ≤ k0) (hb : k0 + (ss.length : Int) + 2 * (n : Int) + (lenSum f n : Int) + 2 * (nf : Int) + (lenF ff nf : Int) ≤ 900000000) (hu : ∀ k, OwnSy.uses gs gc m ss n f gf mf nf ff k → lo ≤ k ∧ k < hi) : SyAt w lo hi sv cv fv (markSy k0 ss.length n f nf ff) := by
  have hat : markAt f (k0 + ss.length) n = k0 + (ss.length : Int) + 2 * (n : Int) + (lenSum f n : Int) := rfl
  have hin : ∀ k, ¬ FuKeeps gf mf nf ff k → lo ≤ k ∧ k < hi := fun k h => hu k (.inr h)
  refine ⟨h1.tyAt (markL_wf2 _ _ h0 (by omega)) (markC_wf2 (by omega) (by omega)) fun k hk => hu k (.inl (uses_mark2 rfl hk)), h2.fusAt (markF_fits (by omega) (by omega)) (fun hn => hin _ fun h => h.1 hn rfl) (fun i b hi' hl => hin _ fun h => ?_)⟩
  rw [mixFu_len] at hl
  exact h.2 i b hi' hl rfl

set_option maxRecDepth 100000 in
set_option maxHeartbeats 1000000 in
theorem heldSystem_any (lo hi s n nf : Nat) (sv cv fv : Value) (f : Nat → Co) (ff : Nat → Fu) (k0 : Int) (w : World) (hv : SyAt w lo hi sv cv fv (markSy k0 s n f nf ff)) (hB : hi ≤ w.heap.size) (h0 : 0 ≤ k0) (h1 : k0 + (s : Int) + 2 * (n : Int) + (lenSum f n : Int) + 2 * (nf : Int) + (lenF ff nf : Int) ≤ 900000000) :
    Calls Try.prog 37 #[.agg #[sv, cv, fv], .int .i64 k0] w fun e w' => e = .returned (.int .i64 (markAtF ff (markAt f (k0 + s) n) nf)) ∧ Below w.heap.size w w' := by
  obtain ⟨hty, hfs⟩ := hv
  obtain ⟨A, cap, rfl, _, _, _⟩ := hty.1.form
  obtain ⟨B, bap, rfl, _, _, _⟩ := hty.2.form
  simp only [markSy, mixF_all] at hfs
  obtain ⟨F, fap, rfl, _, _, hfs⟩ := hfs.form
  simp only [List.length_map, List.length_range] at hfs ⊢
  have hat : markAt f (k0 + s) n = k0 + (s : Int) + 2 * (n : Int) + (lenSum f n : Int) := rfl
  have hatf : markAtF ff (markAt f (k0 + s) n) nf = markAt f (k0 + s) n + 2 * (nf : Int) + (lenF ff nf : Int) := rfl
  have hpos : 0 ≤ markAt f (k0 + s) n := by omega
  have hposf : 0 ≤ markAtF ff (markAt f (k0 + s) n) nf := by omega
  have hmm : markAt f (k0 + s) n + 2 * (nf : Int) + (lenF ff nf : Int) ≤ 900000000 := by omega
  have e1 : (markSy k0 s n f nf ff).ty.sizes.length = s := by simp [markSy, markL_len]
  have e2 : (markSy k0 s n f nf ff).ty.cos.length = n := by simp [markSy]
  rw [e1, e2] at hty ⊢
  have hty' : TyAt w lo hi (.slice A s cap) (.slice B n bap) ⟨markL k0 s, (List.range n).map (mixCo f (k0 + s) n)⟩ := hty
  have h3 : Below w.heap.size w (w.alloc (.cells #[.slice A s cap, .slice B n bap, .slice F nf fap] 36)) := by go_grown
  have Hty := Lib.hid (hty'.below h3 hB)
  have Hfs := Lib.hid (hfs.below h3 hB)
  have H3 := Lib.hid h3
  clear hty hty' hfs h3 hat hatf e1 e2
  go_enter Try.func37, Try.ntmps37
  go_wp2_with fail
  refine (heldTypes_any lo hi n _ _ s f k0 _ Hty.out (by simp; omega) h0 (by omega)).mono ?_
  rintro e w1 ⟨rfl, hb1⟩
  have hrow : Row w1 w.heap.size 36 [.slice A s cap, .slice B n bap, .slice F nf fap] := (Row.new w 36 [.slice A s cap, .slice B n bap, .slice F nf fap]).below hb1 (by simp)
  have q2 := hrow.cell 2
  simp only [List.getElem?_cons_zero, List.getElem?_cons_succ] at q2
  have Hb1 := Lib.hid (H3.out.trans (hb1.mono (by simp)))
  have Hfs1 := Lib.hid (Hfs.out.below hb1 (by simp; omega))
  clear hb1 hrow
  obtain ⟨M, hM⟩ : ∃ M, M = markAt f (k0 + s) n := ⟨_, rfl⟩
  rw [← hM] at hpos hposf hmm Hfs1 ⊢
  have HM := Lib.hid hM
  clear hM Hfs
  have hneg : decide (M < 0) = false := by simp; omega
  have hneg2 : decide (markAtF ff M nf < 0) = false := by simp; omega
  go_wp2_with fail
  refine (heldFunctionS_any lo hi nf _ ff M _ Hfs1.out (by have := Hb1.out.size; omega) hpos hmm).mono ?_
  rintro e w2 ⟨rfl, hb2⟩
  have Hb2 := Lib.hid (Hb1.out.trans (hb2.mono (by have := Hb1.out.size; omega)))
  clear hb2
  go_wp2
  go_ret
  rw [← HM.out]
  exact ⟨rfl, Hb2.out⟩
end Go.Proofs.Ytilcahidmoaakaa

