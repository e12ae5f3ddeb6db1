/-
  The contracts of the functions that mark coercions and types, and look whether the marks hold.
-/
import Derived.Test.YtilcahidmoaakaaMark
namespace Go.Proofs.Ytilcahidmoaakaa
open Go.RowKit

set_option maxRecDepth 100000 in
set_option maxHeartbeats 2000000 in
theorem markCoercionS_any (gc n : Nat) (m : Nat → Nat) (mv : Nat → Value) (cv : Value) (f : Nat → Co) (k0 : Int) (w : World) (hv : OwnCos w 3 67 gc m mv cv n f) (ha : Apart gc m n f) (h0 : 0 ≤ k0) (h1 : k0 + 2 * (n : Int) + (lenSum f n : Int) ≤ 900000000) :
    Calls Try.prog 153 #[cv, .int .i64 k0] w fun e w' => e = .returned (.int .i64 (markAt f k0 n)) ∧ Kept (fun k => (0 < n → k ≠ gc) ∧ ∀ i, i < n → 0 < (f i).map.length → k ≠ m i) w w' ∧ w'.heap.size = w.heap.size ∧
      OwnCos w' 3 67 gc m mv cv n (mixCo f k0 n) := by
  have hv0 : OwnCos w 3 67 gc m mv cv n (mixCo f k0 0) := by
    have e : mixCo f k0 0 = f := by funext i; unfold mixCo; rw [if_neg (by omega)]
    rw [e]; exact hv
  obtain ⟨xs0, ⟨A, cap, rfl, hc, hm, hnil, _⟩, _, _, _⟩ := hv
  have hm' := hm
  unfold maxLen at hm'
  have Hv := Lib.hid hv0
  have Ha := Lib.hid ha
  clear hv0 ha hnil
  go_enter Try.func153, Try.ntmps153
  go_wp2
  go_loopw [1, 5] (fun q i wr => ∃ j : Nat, j ≤ n ∧ i = .int .i64 j ∧ q = .int .i64 (markAt f k0 j) ∧ Hid (Kept (fun k => (0 < n → k ≠ gc) ∧ ∀ i, i < n → 0 < (f i).map.length → k ≠ m i) w wr) ∧ Hid (wr.heap.size = w.heap.size) ∧
      Hid (OwnCos wr 3 67 gc m mv (.slice A n cap) n (mixCo f k0 j))) (fun _ i _ => n - (intOf i).toNat)
  case atStart => exact ⟨0, Nat.zero_le _, rfl, by simp [markAt, lenSum], Kept.refl _ _, rfl, Hv.out⟩
  case round =>
    obtain ⟨j, hj, rfl, rfl, hk, hs, ho⟩ := hrel
    by_cases hlt : j < n
    · have hms := lenSum_mono f (show j + 1 ≤ n by omega)
      have hms1 : lenSum f (j + 1) = lenSum f j + (f j).map.length := rfl
      have hat : markAt f k0 j = k0 + 2 * (j : Int) + (lenSum f j : Int) := rfl
      have hb0 : 0 ≤ markAt f k0 j := by rw [hat]; omega
      have hb1 : markAt f k0 j + 2 + ((f j).map.length : Int) ≤ 900000000 := by rw [hat]; omega
      have hnext := Lib.hid (markAt_succ f k0 j)
      clear hms hms1 hat
      obtain ⟨xs, ⟨A2, cap2, e2, _, _, _, hrow⟩, hx, hcells, hmaps⟩ := ho.out
      injection e2 with e2 e3 e4
      subst e2 e4
      obtain ⟨rfl, rest, hr⟩ := hrow (by omega)
      obtain ⟨_, _, cz⟩ := hcells j hlt
      have hmj := hmaps j hlt
      have emj : mixCo f k0 j j = f j := by unfold mixCo; rw [if_neg (by omega)]
      rw [emj] at hmj
      have hmj2 := hmj
      obtain ⟨A3, cap3, e5, _, _, _, _⟩ := hmj2
      have d0 := hr.cell_some (i := j * 3) (by simp; omega)
      have d1 := hr.cell_some (i := j * 3 + 1) (by simp; omega)
      have d2 : wr.cell? ⟨gc, j * 3 + 2, none⟩ = some (.slice A3 (f j).map.length cap3) := by
        rw [hr.cell, List.getElem?_append_left (by omega), cz, e5]
      have f0 := hr.frozen (j * 3)
      have f1 := hr.frozen (j * 3 + 1)
      generalize (xs ++ rest)[j * 3]'(by simp; omega) = y0 at d0
      generalize (xs ++ rest)[j * 3 + 1]'(by simp; omega) = y1 at d1
      have Hr := Lib.hid hr
      have Hmj := Lib.hid hmj
      have He5 := Lib.hid e5
      have Hcells := Lib.hid hcells
      have Hmaps := Lib.hid hmaps
      have Hx := Lib.hid hx
      clear hr hmj e5 hcells hmaps hx hrow cz emj
      go_wp2_with fail
      rw [show (markAt f k0 j + 1 + 1 : Int) = markAt f k0 j + 2 from by omega]
      have hne : 0 < (f j).map.length → m j ≠ gc := fun h => (Ha.out j hlt h).1
      have hmjS : OwnI wr 3 (m j) (.slice A3 (f j).map.length cap3) (f j).map := by rw [← He5.out]; exact Hmj.out
      have hmjW : OwnI ((wr.setCell ⟨gc, j * 3, none⟩ (.int .i64 (markAt f k0 j))).setCell ⟨gc, j * 3 + 1, none⟩ (.int .i64 (markAt f k0 j + 1))) 3 (m j) (.slice A3 (f j).map.length cap3) (f j).map :=
        hmjS.keep fun h => (Below.heap_setCell _ _ _ _ (hne h)).trans (Below.heap_setCell _ _ _ _ (hne h))
      refine (markIntS_any (m j) _ (f j).map (markAt f k0 j + 2) _ hmjW (by omega) (by omega)).mono ?_
      rintro e w1 ⟨rfl, hk1, ho1, hs1⟩
      have Hk1 := Lib.hid hk1
      have Ho1 := Lib.hid ho1
      have Hs1 := Lib.hid hs1
      clear hk1 ho1 hs1 hmjS hmjW
      go_wp2
      go_roundw
      case rel =>
        refine ⟨j + 1, by omega, by go_num, by rw [hnext.out], ?_, ?_, ?_⟩
        · refine ((hk.out.setCell (fun h => h.1 (by omega) rfl) _).setCell (fun h => h.1 (by omega) rfl) _).trans (Hk1.out.weak fun k hS h => hS.2 j hlt h)
        · show w1.heap.size = w.heap.size
          rw [Hs1.out]
          simpa [World.setCell] using hs.out
        · have hgc : w1.heap[gc]? = ((wr.setCell ⟨gc, j * 3, none⟩ (.int .i64 (markAt f k0 j))).setCell ⟨gc, j * 3 + 1, none⟩ (.int .i64 (markAt f k0 j + 1))).heap[gc]? :=
            Hk1.out.block gc (by have := Hr.out.lt; simpa [World.setCell] using this) (fun h => (hne h).symm)
          have hrow2 := ((Hr.out.set_ (j * 3) (.int .i64 (markAt f k0 j))).set_ (j * 3 + 1) (.int .i64 (markAt f k0 j + 1))).keep hgc
          have hxl : xs.length = n * 3 := Hx.out
          rw [List.set_append_left _ _ (by omega), List.set_append_left _ _ (by simp; omega)] at hrow2
          refine OwnCos.step rfl hc hm rfl hlt hxl Hcells.out hrow2 (fun i hi hij => ?_) (by rw [He5.out]; exact Ho1.out)
          have hmi : OwnI wr 3 (m i) (mv i) (mixCo f k0 j i).map := Hmaps.out i hi
          refine hmi.keep fun h => ?_
          rw [mixCo_len] at h
          have h2 := (Ha.out i hi h).1
          have hlt1 : m i < wr.heap.size := hmi.lt (by rw [mixCo_len]; exact h)
          have e1 : ((wr.setCell ⟨gc, j * 3, none⟩ (.int .i64 (markAt f k0 j))).setCell ⟨gc, j * 3 + 1, none⟩ (.int .i64 (markAt f k0 j + 1))).heap[m i]? = wr.heap[m i]? := (Below.heap_setCell _ _ _ _ h2).trans (Below.heap_setCell _ _ _ _ h2)
          exact (Hk1.out.block (m i) (by simpa [World.setCell] using hlt1) (fun h3 => (Ha.out j hlt h3).2 i hi hij h)).trans e1
      case measure => simp [intOf]; omega
    · obtain rfl : j = n := by omega
      go_wp2
      go_ret
      exact ⟨rfl, hk.out, hs.out, ho.out⟩
end Go.Proofs.Ytilcahidmoaakaa
