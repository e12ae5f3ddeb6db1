/-
  The contract of imagesBy: what a way makes of all four numbers.
-/
import Derived.Test.YtokklaoldgdkaaaCohd
namespace Go.Proofs.Ytokklaoldgdkaaa
open Go.RowKit

/-- The array after j rounds. -/
def imgRow (t : Ty) (k : Int) (z : List Int) (j : Nat) : List Value := (List.range 4).map fun q => .int .i64 (if q < j then imgAt t k z q else 0)
theorem imgRow_zero (t : Ty) (k : Int) (z : List Int) : imgRow t k z 0 = [.int .i64 0, .int .i64 0, .int .i64 0, .int .i64 0] := rfl
theorem imgRow_four (t : Ty) (k : Int) (z : List Int) : imgRow t k z 4 = (imgV t k z).map (Value.int .i64) := rfl
theorem imgRow_len (t : Ty) (k : Int) (z : List Int) (j : Nat) : (imgRow t k z j).length = 4 := by simp [imgRow]
theorem imgRow_step (t : Ty) (k : Int) (z : List Int) {j : Nat} (hj : j < 4) : (imgRow t k z j).set j (.int .i64 (imgAt t k z j)) = imgRow t k z (j + 1) := by
  rcases (by omega : j = 0 ∨ j = 1 ∨ j = 2 ∨ j = 3) with rfl | rfl | rfl | rfl <;> rfl

set_option maxRecDepth 100000 in
set_option maxHeartbeats 4000000 in
theorem imagesBy_any (lo hi lo2 hi2 g : Nat) (sv cv rv : Value) (t : Ty) (k : Int) (zs : List Int) (w : World) (hv : TyAt w lo hi sv cv t) (hB : hi ≤ w.heap.size) (hr : IntsAt w lo2 hi2 rv zs) (hB2 : hi2 ≤ w.heap.size) (hg : Row w g 85 [sv, cv])
    (hok : tyOk t = true) (hk0 : 0 ≤ k) (hk1 : k < t.sizes.length) (hway : (wayEnd t.cos k zs).isSome = true) :
    Calls Try.prog 76 #[.pointer (some ⟨g, 0, none⟩), .int .i64 k, rv] w fun e w' => e = .returned (.agg ((imgV t k zs).map (Value.int .i64)).toArray) ∧ Below w.heap.size w w' := by
  obtain ⟨A, cap, rfl, hl1, hm1, hi1⟩ := hv.1.form
  obtain ⟨B, bap, rfl, hl2, hm2, _⟩ := hv.2.form
  have hkn : k.toNat < t.sizes.length := by omega
  have hsz4 := (sizesOk_of (tyOk_sizes hok)).2.2 _ hkn
  have Hv := Lib.hid hv
  have Hi1 := Lib.hid hi1
  have Hr := Lib.hid hr
  have Hg := Lib.hid hg
  have Hok := Lib.hid hok
  have Hway := Lib.hid hway
  have hgl := hg.lt
  clear hv hi1 hr hg hok hway
  have hb0 : Below w.heap.size w ((w.alloc (.cells #[.int .i64 0, .int .i64 0, .int .i64 0, .int .i64 0] 89)).alloc (.cells #[.int .i64 0, .int .i64 0, .int .i64 0, .int .i64 0] 89)) := by go_grown
  have hr0 : Row ((w.alloc (.cells #[.int .i64 0, .int .i64 0, .int .i64 0, .int .i64 0] 89)).alloc (.cells #[.int .i64 0, .int .i64 0, .int .i64 0, .int .i64 0] 89)) w.heap.size 89 [.int .i64 0, .int .i64 0, .int .i64 0, .int .i64 0] := (Row.new w _ _).alloc _
  have hr1 : Row ((w.alloc (.cells #[.int .i64 0, .int .i64 0, .int .i64 0, .int .i64 0] 89)).alloc (.cells #[.int .i64 0, .int .i64 0, .int .i64 0, .int .i64 0] 89)) (w.heap.size + 1) 89 (imgRow t k zs 0) := by
    have := Row.new (w.alloc (.cells #[.int .i64 0, .int .i64 0, .int .i64 0, .int .i64 0] 89)) 89 [.int .i64 0, .int .i64 0, .int .i64 0, .int .i64 0]
    rw [World.size_alloc] at this
    rw [imgRow_zero]
    exact this
  have Hb0 := Lib.hid hb0
  have Hr0 := Lib.hid hr0
  have Hr1 := Lib.hid hr1
  clear hb0 hr0 hr1
  go_enter Try.func76, Try.ntmps76
  go_wp2
  go_loopw [9] (fun i wr => ∃ j : Nat, j ≤ 4 ∧ i = .int .i64 j ∧ Hid (Below w.heap.size w wr) ∧ Hid (Row wr w.heap.size 89 [.int .i64 0, .int .i64 0, .int .i64 0, .int .i64 0]) ∧ Hid (Row wr (w.heap.size + 1) 89 (imgRow t k zs j))) (fun i _ => 4 - (intOf i).toNat)
  case atStart => exact ⟨0, by omega, rfl, Hb0, Hr0, Hr1⟩
  case round =>
    obtain ⟨j, hj, rfl, hb, hz, hrow⟩ := hrel
    have hbs := hb.out.size
    have hzl := hz.out.lt
    have hrl := hrow.out.lt
    by_cases hlt : j < 4
    · have hrf := hrow.out.frozen j
      have hc1 := hrow.out.cell_some (i := j) (by rw [imgRow_len]; exact hlt)
      obtain ⟨bs, offs, rfl, _, hbsl, s0, _⟩ := (Hi1.out.below hb.out hB).at_ hkn
      have g0 : wr.cell? ⟨g, 0, none⟩ = some (.slice (some ⟨bs, offs, none⟩) t.sizes.length cap) := (Hg.out.below hb.out hgl).cell 0
      have hset1 := hrow.out.set_ j (.int .i64 (-1))
      have hbs1 := hb.out.setCell (p := ⟨w.heap.size + 1, j, none⟩) (by dsimp only; omega) (.int .i64 (-1))
      by_cases hx : (j : Int) < t.sizes.getD k.toNat 0
      · have himg := Lib.hid (imgAt_in (z := zs) hx)
        have hgd : t.sizes.getD k.toNat 0 = t.sizes[k.toNat] := by rw [List.getD_eq_getElem?_getD, List.getElem?_eq_getElem hkn]; rfl
        have hix : ixB (j : Int) t.sizes[k.toNat] = true := ixB_yes (by omega) (by omega)
        have hval := Lib.hid (show ValOf t.sizes k (j : Int) from ⟨hk0, hk1, by omega, hx⟩)
        have Hset1 := Lib.hid hset1
        have Hbs1 := Lib.hid hbs1
        have Hz1 := Lib.hid (hz.out.far (p := ⟨w.heap.size + 1, j, none⟩) (by dsimp only; omega) (.int .i64 (-1)))
        clear hset1 hbs1 hx hgd
        go_wp2_with (go_at_call 84; refine (isIndex_any _ _ _).mono ?_; rintro e w' ⟨rfl, rfl⟩; rw [hix])
        refine (along_any lo hi lo2 hi2 g _ _ _ t k (j : Int) zs _ (Hv.out.below Hbs1.out hB) (by have := Hbs1.out.size; omega) (Hr.out.below Hbs1.out hB2) (by have := Hbs1.out.size; omega) (Hg.out.below Hbs1.out hgl) Hok.out hval.out Hway.out).mono ?_
        rintro e w2 ⟨rfl, hb2⟩
        have hsz2 : (wr.setCell ⟨w.heap.size + 1, j, none⟩ (.int .i64 (-1))).heap.size = wr.heap.size := by simp [World.setCell]
        have hrow2 := Hset1.out.below hb2 (by rw [hsz2]; exact hrl)
        have hz2 := Lib.hid (Hz1.out.below hb2 (by rw [hsz2]; exact hzl))
        have hbw2 := Hbs1.out.trans (hb2.mono (by rw [hsz2]; omega))
        have d1 := hrow2.cell_some (i := j) (by simp [imgRow_len]; exact hlt)
        have df := hrow2.frozen j
        have hnew := hrow2.set_ j (.int .i64 (goV t.cos (j : Int) zs))
        rw [List.set_set, ← himg.out, imgRow_step t k zs hlt] at hnew
        have Hnew := Lib.hid hnew
        have Hbn := Lib.hid (hbw2.setCell (p := ⟨w.heap.size + 1, j, none⟩) (by dsimp only; omega) (.int .i64 (imgAt t k zs j)))
        have Hzn := Lib.hid (hz2.out.far (p := ⟨w.heap.size + 1, j, none⟩) (by dsimp only; omega) (.int .i64 (imgAt t k zs j)))
        have he := himg.out
        clear hb2 hrow2 hbw2 hnew hsz2
        go_wp2
        go_roundw
        case rel => exact ⟨j + 1, by omega, by go_num, by rw [← he]; exact Hbn, by rw [← he]; exact Hzn, by rw [← he]; exact Hnew⟩
        case measure => simp [intOf]; omega
      · have himg := imgAt_out (z := zs) hx
        have hgd : t.sizes.getD k.toNat 0 = t.sizes[k.toNat] := by rw [List.getD_eq_getElem?_getD, List.getElem?_eq_getElem hkn]; rfl
        have hix : ixB (j : Int) t.sizes[k.toNat] = false := ixB_high (by omega)
        rw [← himg, imgRow_step t k zs hlt] at hset1
        rw [himg] at hset1
        have Hset1 := Lib.hid hset1
        have Hbs1 := Lib.hid hbs1
        have Hz1 := Lib.hid (hz.out.far (p := ⟨w.heap.size + 1, j, none⟩) (by dsimp only; omega) (.int .i64 (-1)))
        clear hset1 hbs1 hx hgd himg
        go_wp2_with (go_at_call 84; refine (isIndex_any _ _ _).mono ?_; rintro e w' ⟨rfl, rfl⟩; rw [hix])
        go_roundw
        case rel => exact ⟨j + 1, by omega, by go_num, Hbs1, Hz1, Hset1⟩
        case measure => simp [intOf]; omega
    · obtain rfl : j = 4 := by omega
      have hr4 := hrow.out
      rw [imgRow_four] at hr4
      simp only [imgV, List.map_cons, List.map_nil] at hr4
      have c0 := hr4.cell 0
      have c1 := hr4.cell 1
      have c2 := hr4.cell 2
      have c3 := hr4.cell 3
      have z0 := hz.out.cell 0
      have z1 := hz.out.cell 1
      have z2 := hz.out.cell 2
      have z3 := hz.out.cell 3
      have f0 := hz.out.frozen 0
      have f1 := hz.out.frozen 1
      have f2 := hz.out.frozen 2
      have f3 := hz.out.frozen 3
      simp only [List.getElem?_cons_zero, List.getElem?_cons_succ] at c0 c1 c2 c3 z0 z1 z2 z3
      clear hr4
      go_wp2
      have hW := (((hz.out.set_ 0 (.int .i64 (imgAt t k zs 0))).set_ 1 (.int .i64 (imgAt t k zs 1))).set_ 2 (.int .i64 (imgAt t k zs 2))).set_ 3 (.int .i64 (imgAt t k zs 3))
      have hbW := (((hb.out.setCell (p := ⟨w.heap.size, 0, none⟩) (by dsimp only; omega) (.int .i64 (imgAt t k zs 0))).setCell (p := ⟨w.heap.size, 1, none⟩) (by dsimp only; omega) (.int .i64 (imgAt t k zs 1))).setCell (p := ⟨w.heap.size, 2, none⟩) (by dsimp only; omega) (.int .i64 (imgAt t k zs 2))).setCell (p := ⟨w.heap.size, 3, none⟩) (by dsimp only; omega) (.int .i64 (imgAt t k zs 3))
      simp only [List.set_cons_zero, List.set_cons_succ] at hW
      generalize ((((wr.setCell ⟨w.heap.size, 0, none⟩ (.int .i64 (imgAt t k zs 0))).setCell ⟨w.heap.size, 1, none⟩ (.int .i64 (imgAt t k zs 1))).setCell ⟨w.heap.size, 2, none⟩ (.int .i64 (imgAt t k zs 2))).setCell ⟨w.heap.size, 3, none⟩ (.int .i64 (imgAt t k zs 3))) = W4 at hW hbW ⊢
      have e0 := hW.cell 0
      have e1 := hW.cell 1
      have e2 := hW.cell 2
      have e3 := hW.cell 3
      simp only [List.getElem?_cons_zero, List.getElem?_cons_succ] at e0 e1 e2 e3
      refine bodyPost_ret (v := .agg #[.int .i64 (imgAt t k zs 0), .int .i64 (imgAt t k zs 1), .int .i64 (imgAt t k zs 2), .int .i64 (imgAt t k zs 3)]) (by simp [results, Try.results76, go_sem, e0, e1, e2, e3]) rfl ?_
      exact ⟨rfl, hbW⟩
end Go.Proofs.Ytokklaoldgdkaaa
