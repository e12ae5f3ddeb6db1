/-
  The contracts of the functions that copy a function, some functions, a system into new memory.
  The contract of copySystem.
  The contract of the model's function that copies types.
  The contracts of the model's functions that copy a list of functions, and a system.
-/
import Derived.Test.YtplncocfbajefaaD2
import Derived.Test.YtplncocfbajefaaD4
import Derived.Test.YtplncocfbajefaaD5
import Derived.Test.YtplncocfbajefaaD3
namespace Go.Proofs.Ytplncocfbajefaa
open Go.RowKit

set_option maxHeartbeats 800000 in
theorem toFunction_any (lo hi : Nat) (x a r t : Value) (f : Fu) (w : World) (hv : FuAt w lo hi x a r t f) (hB : hi ≤ w.heap.size) (hlen : f.args.length ≤ 1048576) (hlen2 : f.table.length ≤ 1048576) :
    Calls Try.prog 45 #[.agg #[x, a, r, t]] w fun e w' => e = .returned (.agg #[.string f.name, .slice (some ⟨w.heap.size + 3, 0, none⟩) f.args.length f.args.length, .int .i64 f.res, .slice (some ⟨w.heap.size + 4, 0, none⟩) f.table.length f.table.length]) ∧
      Below w.heap.size w w' ∧ w'.heap.size = w.heap.size + 5 ∧ Row w' (w.heap.size + 3) 3 (f.args.map (Value.int .i64)) ∧ Row w' (w.heap.size + 4) 3 (f.table.map (Value.int .i64)) := by
  obtain ⟨rfl, rfl, _, hs, ha, ht⟩ := hv
  obtain ⟨A, cap, rfl, _, _, ha⟩ := ha.form
  obtain ⟨B, bap, rfl, _, _, ht⟩ := ht.form
  go_enter Try.func45, Try.ntmps45
  go_wp2_with fail
  have h3 : Below w.heap.size w ((((w.alloc (.cells #[.string f.name, .slice A f.args.length cap, .int .i64 f.res, .slice B f.table.length bap] 71)).alloc (.cells #[.string ByteArray.empty, .slice none 0 0, .int .i64 0, .slice none 0 0] 79)).alloc (.cells #[.string f.name, .slice none 0 0, .int .i64 0, .slice none 0 0] 79))) := by go_grown
  refine (toIntS_any lo hi _ f.args _ (ha.below h3 hB) (by simp; omega) hlen).mono ?_
  rintro e w1 ⟨rfl, hb, hsz, hrow⟩
  have hbel := h3.trans (hb.mono (by simp; omega))
  obtain ⟨hcl, hfr⟩ := bcell hb
  simp only [World.size_alloc] at hsz hrow hcl hfr
  have hz1 : w.heap.size + 1 + 1 < w1.heap.size := by omega
  have Hrow := Lib.hid hrow
  have Hsz := Lib.hid hsz
  have Hbel := Lib.hid hbel
  have Hbw := Lib.hid hb
  clear hsz hrow hbel hb h3 ha
  go_wp2_with fail
  obtain ⟨wu, hwu⟩ : ∃ wu, wu = ((w1.setCell ⟨w.heap.size + 1 + 1, 1, none⟩ (.slice (some ⟨w.heap.size + 1 + 1 + 1, 0, none⟩) f.args.length f.args.length)).setCell ⟨w.heap.size + 1 + 1, 2, none⟩ (.int .i64 f.res)) := ⟨_, rfl⟩
  have hs1 : wu.heap.size = w.heap.size + 1 + 1 + 1 + 1 := by rw [hwu]; simpa [World.setCell] using Hsz.out
  have hb1 : Below w.heap.size w wu := by rw [hwu]; exact (Hbel.out.setCell (by dsimp only; omega) _).setCell (by dsimp only; omega) _
  have hr1 : Row wu (w.heap.size + 1 + 1 + 1) 3 (f.args.map (Value.int .i64)) := by rw [hwu]; exact (Hrow.out.far (by dsimp only; omega) _).far (by dsimp only; omega) _
  have hR1 : Row w1 (w.heap.size + 1 + 1) 79 [.string f.name, .slice none 0 0, .int .i64 0, .slice none 0 0] := by
    have hnew := Row.new ((w.alloc (.cells #[.string f.name, .slice A f.args.length cap, .int .i64 f.res, .slice B f.table.length bap] 71)).alloc (.cells #[.string ByteArray.empty, .slice none 0 0, .int .i64 0, .slice none 0 0] 79)) 79 [.string f.name, .slice none 0 0, .int .i64 0, .slice none 0 0]
    simp only [World.size_alloc] at hnew
    exact hnew.below Hbw.out (by simp)
  have hRu : Row wu (w.heap.size + 1 + 1) 79 [.string f.name, .slice (some ⟨w.heap.size + 1 + 1 + 1, 0, none⟩) f.args.length f.args.length, .int .i64 f.res, .slice none 0 0] := by rw [hwu]; exact (hR1.set_ 1 _).set_ 2 _
  have hB1 : Row w1 (w.heap.size + 1) 79 [.string ByteArray.empty, .slice none 0 0, .int .i64 0, .slice none 0 0] := by
    have hnew := (Row.new (w.alloc (.cells #[.string f.name, .slice A f.args.length cap, .int .i64 f.res, .slice B f.table.length bap] 71)) 79 [.string ByteArray.empty, .slice none 0 0, .int .i64 0, .slice none 0 0]).alloc (.cells #[.string f.name, .slice none 0 0, .int .i64 0, .slice none 0 0] 79)
    simp only [World.size_alloc] at hnew
    exact hnew.below Hbw.out (by simp)
  have hBu : Row wu (w.heap.size + 1) 79 [.string ByteArray.empty, .slice none 0 0, .int .i64 0, .slice none 0 0] := by rw [hwu]; exact (hB1.far (by dsimp only; omega) _).far (by dsimp only; omega) _
  rw [← hwu]
  clear hwu hcl hfr
  refine (toIntS_any lo hi _ f.table _ (ht.below hb1 hB) (by rw [hs1]; omega) hlen2).mono ?_
  rintro e w2 ⟨rfl, hb2, hsz2, hrow2⟩
  rw [hs1] at hsz2 hrow2
  have hbel2 := Lib.hid (hb1.trans (hb2.mono (by omega)))
  have hr2 := Lib.hid (hr1.below hb2 (by omega))
  have hR2 := hRu.below hb2 (by omega)
  have hR2x := Lib.hid hR2
  have k0 := hR2.cell 0
  have k1 := hR2.cell 1
  have k2 := hR2.cell 2
  have k3 := hR2.cell 3
  have m0 := hR2.frozen 0
  have m1 := hR2.frozen 1
  have m2 := hR2.frozen 2
  have m3 := hR2.frozen 3
  simp only [List.getElem?_cons_zero, List.getElem?_cons_succ] at k0 k1 k2 k3
  have hR3 := Lib.hid (hBu.below hb2 (by omega))
  have e0 := hR3.out.cell 0
  have e1 := hR3.out.cell 1
  have e2 := hR3.out.cell 2
  have e3 := hR3.out.cell 3
  have f0 := hR3.out.frozen 0
  have f1 := hR3.out.frozen 1
  have f2 := hR3.out.frozen 2
  have f3 := hR3.out.frozen 3
  simp only [List.getElem?_cons_zero, List.getElem?_cons_succ] at e0 e1 e2 e3
  have Hsz2 := Lib.hid hsz2
  have Hrow2 := Lib.hid hrow2
  rw [hs1]
  clear hsz2 hrow2 hb2 hb1 hr1 hRu hR2 hs1 hR1 hB1 hBu
  have Hb2 := hbel2
  go_wp2
  refine bodyPost_ret (v := .agg #[.string f.name, .slice (some ⟨w.heap.size + 1 + 1 + 1, 0, none⟩) f.args.length f.args.length, .int .i64 f.res, .slice (some ⟨w.heap.size + 1 + 1 + 1 + 1, 0, none⟩) f.table.length f.table.length]) (by simp [results, Try.results45, go_sem, e0, e1, e2, e3]) rfl ⟨rfl, ?_, ?_, ?_, ?_⟩
  · exact ((((Hb2.out.setCell (by dsimp only; omega) _).setCell (by dsimp only; omega) _).setCell (by dsimp only; omega) _).setCell (by dsimp only; omega) _).setCell (by dsimp only; omega) _
  · have := Hsz2.out
    simp only [World.setCell, Array.size_modify]; omega
  · exact ((((hr2.out.far (by dsimp only; omega) _).far (by dsimp only; omega) _).far (by dsimp only; omega) _).far (by dsimp only; omega) _).far (by dsimp only; omega) _
  · exact ((((Hrow2.out.far (by dsimp only; omega) _).far (by dsimp only; omega) _).far (by dsimp only; omega) _).far (by dsimp only; omega) _).far (by dsimp only; omega) _

theorem infoFunction : (Try.prog.info? 79).map (fun i => (i.zero, i.size, i.bytes)) = some (some (.agg #[.string ByteArray.empty, .slice none 0 0, .int .i64 0, .slice none 0 0]), 4, 72) := by kernel_rfl

set_option maxHeartbeats 1600000 in
theorem toFunctionS_any (lo hi : Nat) (v : Value) (fs : List Fu) (w : World) (hv : FusAt w lo hi v fs) (hB : hi ≤ w.heap.size) (hlen : fs.length ≤ 1048576) (hmaps : ∀ j, ∀ (hj : j < fs.length), fs[j].weight ≤ 1048576) :
    Calls Try.prog 24 #[v] w fun e w' => e = .returned (.slice (some ⟨w.heap.size, 0, none⟩) fs.length fs.length) ∧
      Below w.heap.size w w' ∧ w'.heap.size = w.heap.size + 1 + 5 * fs.length ∧ NewFus w' 3 79 w.heap.size fs := by
  obtain ⟨A, cap, rfl, hl, hm, hcos⟩ := hv.form
  unfold maxLen at hm
  obtain ⟨i0, hi0, hz0, hs0, hb0⟩ := info_parts infoFunction
  have hmk := fun wx => run_make_rows (P := Try.prog) 36 79 i0 _ Try.underlying36 hi0 hz0 .i64 .i64 fs.length (by rw [hb0]; omega) (by omega) wx
  rw [hs0] at hmk
  clear hi0 hz0 hs0 hb0
  generalize hX : madeCells (Value.agg #[.string ByteArray.empty, .slice none 0 0, .int .i64 0, .slice none 0 0]).cells (fs.length * 4) = X at hmk
  have hXs : X.toList.length = fs.length * 4 := by rw [← hX]; simp [madeCells]
  have HX := Lib.hid hXs
  clear hX hXs hv
  go_enter Try.func24, Try.ntmps24
  go_wp2
  go_loopw [4] (fun i wr => ∃ k : Nat, k ≤ fs.length ∧ i = .int .i64 k ∧ Below w.heap.size w wr ∧ wr.heap.size = w.heap.size + 1 + 5 * k ∧ (∃ xs, Row wr w.heap.size 79 xs ∧ FuRow xs (fun j => w.heap.size + 1 + 5 * j + 3) (fun j => w.heap.size + 1 + 5 * j + 4) fs k) ∧
      ∀ j, j < k → ∀ (hj : j < fs.length), Row wr (w.heap.size + 1 + 5 * j + 3) 3 (fs[j].args.map (Value.int .i64)) ∧ Row wr (w.heap.size + 1 + 5 * j + 4) 3 (fs[j].table.map (Value.int .i64))) (fun i _ => fs.length - (intOf i).toNat)
  case atStart => exact ⟨0, Nat.zero_le _, rfl, (Below.refl _ _).alloc (Nat.le_refl _) _, by simp, ⟨X.toList, by simpa using Row.new w _ X.toList, HX.out, fun j hj => absurd hj (by omega)⟩, fun j hj => absurd hj (by omega)⟩
  case round =>
    obtain ⟨k, hk, rfl, hb, hsz, ⟨xs, hrow, hxs⟩, hmr⟩ := hrel
    by_cases hlt : k < fs.length
    · have hin := hcos.below hb hB
      obtain ⟨b, off, A1, cap1, A2, cap2, rfl, hlo, hhi, c0, c1, c2, c3, h5, h6, h7, h8, hfu⟩ := hin.at_ hlt
      have hmap := hmaps k hlt
      unfold Fu.weight at hmap
      have Hs := Lib.hid hsz
      clear hsz
      have hbs := hb.size
      go_wp2_with fail
      refine (toFunction_any lo hi _ _ _ _ fs[k] _ hfu (by omega) (by omega) (by omega)).mono ?_
      rintro e w1 ⟨rfl, hb1, hsz1, hrow1, hrow1'⟩
      have hrow' := hrow.below hb1 hrow.lt
      have hlx := hxs.1
      have d0 := hrow'.cell_some (i := k * 4) (by omega)
      have d1 := hrow'.cell_some (i := k * 4 + 1) (by omega)
      have d2 := hrow'.cell_some (i := k * 4 + 2) (by omega)
      have d3 := hrow'.cell_some (i := k * 4 + 3) (by omega)
      have g0 := hrow'.frozen (k * 4)
      have g1 := hrow'.frozen (k * 4 + 1)
      have g2 := hrow'.frozen (k * 4 + 2)
      have g3 := hrow'.frozen (k * 4 + 3)
      generalize xs[k * 4]'(by omega) = y0 at d0
      generalize xs[k * 4 + 1]'(by omega) = y1 at d1
      generalize xs[k * 4 + 2]'(by omega) = y2 at d2
      generalize xs[k * 4 + 3]'(by omega) = y3 at d3
      have Hx := Lib.hid hxs
      have Hs1 := Lib.hid hsz1
      have Hr := Lib.hid hrow'
      have Hr1 := Lib.hid hrow1
      have Hr1' := Lib.hid hrow1'
      have Hmr := Lib.hid hmr
      have Hb := Lib.hid hb
      have Hb1 := Lib.hid hb1
      clear hxs hsz1 hrow' hrow1 hrow1' hmr hrow hlx hin hcos hfu hb hb1
      go_wp2
      go_roundw
      case rel =>
        have e1 := Hs.out
        have e2 := Hs1.out
        have hbb := Hb.out.trans (Hb1.out.mono (by omega : w.heap.size ≤ wr.heap.size))
        refine ⟨k + 1, by omega, by go_num, (((hbb.setCell (Nat.le_refl _) _).setCell (Nat.le_refl _) _).setCell (Nat.le_refl _) _).setCell (Nat.le_refl _) _, ?_, ⟨_, (((Hr.out.set_ _ _).set_ _ _).set_ _ _).set_ _ _, ?_⟩, ?_⟩
        · simp only [World.setCell, Array.size_modify]; omega
        · have := Hx.out.step hlt
          rw [← e1] at this
          exact this
        · intro j hj hjl
          by_cases ejk : j = k
          · subst ejk
            rw [← e1]
            exact ⟨(((Hr1.out.far (by dsimp only; omega) _).far (by dsimp only; omega) _).far (by dsimp only; omega) _).far (by dsimp only; omega) _, (((Hr1'.out.far (by dsimp only; omega) _).far (by dsimp only; omega) _).far (by dsimp only; omega) _).far (by dsimp only; omega) _⟩
          · exact ⟨((((((Hmr.out j (by omega) hjl).1).below Hb1.out (by omega)).far (by dsimp only; omega) _).far (by dsimp only; omega) _).far (by dsimp only; omega) _).far (by dsimp only; omega) _, ((((((Hmr.out j (by omega) hjl).2).below Hb1.out (by omega)).far (by dsimp only; omega) _).far (by dsimp only; omega) _).far (by dsimp only; omega) _).far (by dsimp only; omega) _⟩
      case measure => simp [intOf]; omega
    · obtain rfl : k = fs.length := by omega
      have H : Hid (Below w.heap.size w wr ∧ wr.heap.size = w.heap.size + 1 + 5 * fs.length ∧ NewFus wr 3 79 w.heap.size fs) := ⟨hb, hsz, ⟨xs, hrow, hxs⟩, fun j hj => hmr j hj hj⟩
      clear hb hsz hrow hxs hmr hcos
      go_wp2
      go_ret
      exact ⟨rfl, H.out⟩

set_option maxHeartbeats 800000 in
theorem toSystem_any (lo hi : Nat) (s c v : Value) (y : Sy) (w : World) (hv : SyAt w lo hi s c v y) (hB : hi ≤ w.heap.size) (hlen : y.bulk ≤ 1048576) :
    Calls Try.prog 8 #[.agg #[s, c, v]] w fun e w' => e = .returned (.agg #[.slice (some ⟨w.heap.size + 6, 0, none⟩) y.ty.sizes.length y.ty.sizes.length, .slice (some ⟨w.heap.size + 7, 0, none⟩) y.ty.cos.length y.ty.cos.length, .slice (some ⟨w.heap.size + 8 + 4 * y.ty.cos.length, 0, none⟩) y.fs.length y.fs.length]) ∧
      Below w.heap.size w w' ∧ w'.heap.size = w.heap.size + 9 + 4 * y.ty.cos.length + 5 * y.fs.length ∧ NewSy w' 3 42 79 (w.heap.size + 6) y := by
  obtain ⟨hty, hf⟩ := hv
  obtain ⟨A, cap, rfl, _, _, hz⟩ := hty.1.form
  obtain ⟨A2, cap2, rfl, _, _, hcos⟩ := hty.2.form
  obtain ⟨A3, cap3, rfl, _, _, hfu⟩ := hf.form
  have hT : TyAt w lo hi (.slice A y.ty.sizes.length cap) (.slice A2 y.ty.cos.length cap2) y.ty := ⟨hz, hcos⟩
  have hl1 : y.ty.bulk ≤ 1048576 := by unfold Sy.bulk at hlen; omega
  have hl2 : y.fs.length ≤ 1048576 := by unfold Sy.bulk at hlen; omega
  have hl3 : Hid (∀ j, ∀ (hj : j < y.fs.length), y.fs[j].weight ≤ 1048576) := fun j hj => Nat.le_trans (y.fu_le j hj) hlen
  clear hty hf hz hcos
  have h3 : Below w.heap.size w (((w.alloc (.cells #[.slice A y.ty.sizes.length cap, .slice A2 y.ty.cos.length cap2, .slice A3 y.fs.length cap3] 28)).alloc (.cells #[.slice none 0 0, .slice none 0 0, .slice none 0 0] 38)).alloc (.cells #[.slice none 0 0, .slice none 0 0, .slice none 0 0] 38)) := by go_grown
  go_enter Try.func8, Try.ntmps8
  go_wp2_with fail
  refine (toTypes_any lo hi _ _ y.ty _ (hT.below h3 hB) (by simp; omega) hl1).mono ?_
  rintro e w1 ⟨rfl, hb, hsz, hnew⟩
  have hbel := h3.trans (hb.mono (by simp; omega))
  simp only [World.size_alloc] at hsz hnew
  have hR1 : Row w1 (w.heap.size + 1 + 1) 38 [.slice none 0 0, .slice none 0 0, .slice none 0 0] := by
    have hn := Row.new ((w.alloc (.cells #[.slice A y.ty.sizes.length cap, .slice A2 y.ty.cos.length cap2, .slice A3 y.fs.length cap3] 28)).alloc (.cells #[.slice none 0 0, .slice none 0 0, .slice none 0 0] 38)) 38 [.slice none 0 0, .slice none 0 0, .slice none 0 0]
    simp only [World.size_alloc] at hn
    exact hn.below hb (by simp)
  have hB1 : Row w1 (w.heap.size + 1) 38 [.slice none 0 0, .slice none 0 0, .slice none 0 0] := by
    have hn := (Row.new (w.alloc (.cells #[.slice A y.ty.sizes.length cap, .slice A2 y.ty.cos.length cap2, .slice A3 y.fs.length cap3] 28)) 38 [.slice none 0 0, .slice none 0 0, .slice none 0 0]).alloc (.cells #[.slice none 0 0, .slice none 0 0, .slice none 0 0] 38)
    simp only [World.size_alloc] at hn
    exact hn.below hb (by simp)
  have hA1 : Row w1 w.heap.size 28 [.slice A y.ty.sizes.length cap, .slice A2 y.ty.cos.length cap2, .slice A3 y.fs.length cap3] := by
    have hn := ((Row.new w 28 [.slice A y.ty.sizes.length cap, .slice A2 y.ty.cos.length cap2, .slice A3 y.fs.length cap3]).alloc (.cells #[.slice none 0 0, .slice none 0 0, .slice none 0 0] 38)).alloc (.cells #[.slice none 0 0, .slice none 0 0, .slice none 0 0] 38)
    exact hn.below hb (by simp; omega)
  have a0 := hA1.cell 0
  have a1 := hA1.cell 1
  have a2 := hA1.cell 2
  have k0 := hR1.cell 0
  have k1 := hR1.cell 1
  have k2 := hR1.cell 2
  have m0 := hR1.frozen 0
  have m1 := hR1.frozen 1
  have m2 := hR1.frozen 2
  simp only [List.getElem?_cons_zero, List.getElem?_cons_succ] at a0 a1 a2 k0 k1 k2
  have hz1 : w.heap.size + 1 + 1 < w1.heap.size := by omega
  have Hnew := Lib.hid hnew
  have Hsz := Lib.hid hsz
  have Hbel := Lib.hid hbel
  have HR1 := Lib.hid hR1
  have HB1 := Lib.hid hB1
  clear hsz hnew hbel hb h3 hR1 hB1 hA1 hT
  go_wp2_with fail
  obtain ⟨wu, hwu⟩ : ∃ wu, wu = ((w1.setCell ⟨w.heap.size + 1 + 1, 0, none⟩ (.slice (some ⟨w.heap.size + 1 + 1 + 1 + 3, 0, none⟩) y.ty.sizes.length y.ty.sizes.length)).setCell ⟨w.heap.size + 1 + 1, 1, none⟩ (.slice (some ⟨w.heap.size + 1 + 1 + 1 + 4, 0, none⟩) y.ty.cos.length y.ty.cos.length)) := ⟨_, rfl⟩
  have hs1 : wu.heap.size = w.heap.size + 1 + 1 + 1 + 5 + 4 * y.ty.cos.length := by rw [hwu]; simpa [World.setCell] using Hsz.out
  have hb1 : Below w.heap.size w wu := by rw [hwu]; exact (Hbel.out.setCell (by dsimp only; omega) _).setCell (by dsimp only; omega) _
  have hN1 : NewTy wu 3 42 (w.heap.size + 1 + 1 + 1 + 3) y.ty := by
    rw [hwu]
    exact Hnew.out.keep fun k h1 _ => (Below.heap_setCell _ _ _ k (by dsimp only; omega)).trans (Below.heap_setCell _ _ _ k (by dsimp only; omega))
  have hRu : Row wu (w.heap.size + 1 + 1) 38 [.slice (some ⟨w.heap.size + 1 + 1 + 1 + 3, 0, none⟩) y.ty.sizes.length y.ty.sizes.length, .slice (some ⟨w.heap.size + 1 + 1 + 1 + 4, 0, none⟩) y.ty.cos.length y.ty.cos.length, .slice none 0 0] := by rw [hwu]; exact (HR1.out.set_ 0 _).set_ 1 _
  have hBu : Row wu (w.heap.size + 1) 38 [.slice none 0 0, .slice none 0 0, .slice none 0 0] := by rw [hwu]; exact (HB1.out.far (by dsimp only; omega) _).far (by dsimp only; omega) _
  rw [← hwu]
  clear hwu a0 a1 a2 k0 k1 k2 m0 m1 m2
  refine (toFunctionS_any lo hi _ y.fs _ (hfu.below hb1 hB) (by rw [hs1]; omega) hl2 hl3.out).mono ?_
  rintro e w2 ⟨rfl, hb2, hsz2, hnew2⟩
  rw [hs1] at hsz2 hnew2
  have Hb2 := Lib.hid (hb1.trans (hb2.mono (by omega)))
  have Hn2 := Lib.hid (hN1.below hb2 (by omega))
  have Hn3 := Lib.hid hnew2
  have hR2 := hRu.below hb2 (by omega)
  have hR3 := hBu.below hb2 (by omega)
  have k0 := hR2.cell 0
  have k1 := hR2.cell 1
  have k2 := hR2.cell 2
  have m0 := hR2.frozen 0
  have m1 := hR2.frozen 1
  have m2 := hR2.frozen 2
  have e0 := hR3.cell 0
  have e1 := hR3.cell 1
  have e2 := hR3.cell 2
  have f0 := hR3.frozen 0
  have f1 := hR3.frozen 1
  have f2 := hR3.frozen 2
  simp only [List.getElem?_cons_zero, List.getElem?_cons_succ] at k0 k1 k2 e0 e1 e2
  have hz2 : w.heap.size + 1 + 1 < w2.heap.size := by omega
  have Hsz2 := Lib.hid hsz2
  rw [hs1]
  clear hsz2 hnew2 hb2 hb1 hN1 hRu hBu hR2 hR3 hs1 hfu
  go_wp2
  refine bodyPost_ret (v := .agg #[.slice (some ⟨w.heap.size + 1 + 1 + 1 + 3, 0, none⟩) y.ty.sizes.length y.ty.sizes.length, .slice (some ⟨w.heap.size + 1 + 1 + 1 + 4, 0, none⟩) y.ty.cos.length y.ty.cos.length, .slice (some ⟨w.heap.size + 1 + 1 + 1 + 5 + 4 * y.ty.cos.length, 0, none⟩) y.fs.length y.fs.length]) (by simp [results, Try.results8, go_sem, e0, e1, e2]) rfl ⟨rfl, ?_, ?_, ?_, ?_⟩
  · exact (((Hb2.out.setCell (by dsimp only; omega) _).setCell (by dsimp only; omega) _).setCell (by dsimp only; omega) _).setCell (by dsimp only; omega) _
  · have := Hsz2.out
    simp only [World.setCell, Array.size_modify]; omega
  · exact Hn2.out.keep fun k h1 _ => (((Below.heap_setCell _ _ _ k (by dsimp only; omega)).trans (Below.heap_setCell _ _ _ k (by dsimp only; omega))).trans (Below.heap_setCell _ _ _ k (by dsimp only; omega))).trans (Below.heap_setCell _ _ _ k (by dsimp only; omega))
  · exact Hn3.out.keep fun k h1 _ => (((Below.heap_setCell _ _ _ k (by dsimp only; omega)).trans (Below.heap_setCell _ _ _ k (by dsimp only; omega))).trans (Below.heap_setCell _ _ _ k (by dsimp only; omega))).trans (Below.heap_setCell _ _ _ k (by dsimp only; omega))
end Go.Proofs.Ytplncocfbajefaa

namespace Go.Proofs.Ytplncocfbajefaa
open Go.RowKit

/-- Types that a call has copied, from a block on. -/
def TysOwned (w : World) (base : Nat) (v l : Value) (t : Ty) : Prop :=
  ∃ C, base ≤ C ∧ w.ownsRow base 3 1 v t.sizes.length (t.sizes.map (Value.int .i64)) ∧ (∀ g, v.ownBlock = some g → g < C) ∧ CosOwned w (C + 1) l (fun i => t.cos.getD i default) t.cos.length
theorem TysOwned.keep {w w' : World} {base : Nat} {v l : Value} {t : Ty} (h : TysOwned w base v l t) (hs : w.heap.size ≤ w'.heap.size) (hk : ∀ g, base ≤ g → g < w.heap.size → w'.heap[g]? = w.heap[g]?) : TysOwned w' base v l t := by
  obtain ⟨C, h1, h2, h3, h4⟩ := h
  exact ⟨C, h1, ownsRow_keep h2 hk, h3, h4.keep hs fun g hg hl => hk g (by omega) hl⟩
/-- A system that a call has copied, from a block on: the functions lie behind the types. -/
def SyOwned (w : World) (base : Nat) (v l q : Value) (y : Sy) : Prop :=
  ∃ b u b2, base ≤ b ∧ b ≤ u.heap.size ∧ TysOwned u b v l y.ty ∧ (∀ g, b ≤ g → g < u.heap.size → w.heap[g]? = u.heap[g]?) ∧ u.heap.size ≤ b2 ∧ b2 ≤ w.heap.size ∧ FusOwned w b2 q (fun i => y.fs.getD i default) y.fs.length
theorem SyOwned.keep {w w' : World} {base : Nat} {v l q : Value} {y : Sy} (h : SyOwned w base v l q y) (hs : w.heap.size ≤ w'.heap.size) (hk : ∀ g, base ≤ g → g < w.heap.size → w'.heap[g]? = w.heap[g]?) : SyOwned w' base v l q y := by
  obtain ⟨b, u, b2, h0, h0', h1, h2, h3, h4, h5⟩ := h
  exact ⟨b, u, b2, h0, h0', h1, fun g hg hl => (hk g (by omega) (by omega)).trans (h2 g hg hl), h3, by omega, h5.keep hs fun g hg hl => hk g (by omega) hl⟩
theorem SyOwned.lower {w : World} {base base' : Nat} {v l q : Value} {y : Sy} (h : SyOwned w base v l q y) (hb : base' ≤ base) : SyOwned w base' v l q y := by
  obtain ⟨b, u, b2, h0, h⟩ := h
  exact ⟨b, u, b2, by omega, h⟩

set_option maxRecDepth 100000 in
set_option maxHeartbeats 2000000 in
theorem copySystem_any (lo hi : Nat) (sv cv fv : Value) (y : Sy) (w : World) (hv : SyAt w lo hi sv cv fv y) (hB : hi ≤ w.heap.size) (hbk : y.bulk ≤ 1048576) :
    Calls Try.prog 69 #[.agg #[sv, cv, fv]] w fun e w' => ∃ v l q, e = .returned (.agg #[v, l, q]) ∧ Below w.heap.size w w' ∧ SyOwned w' (w.heap.size + 1 + 1) v l q y := by
  obtain ⟨A, cap, rfl, hl1, hm1, _⟩ := hv.1.1.form
  obtain ⟨B, bap, rfl, hl2, hm2, _⟩ := hv.1.2.form
  obtain ⟨Q, qap, rfl, hl3, hm3, hq1⟩ := hv.2.form
  unfold maxLen at hm3
  obtain ⟨i0, hi0, hz0, hz1, hz2⟩ := info_parts infoFunction
  have hb' := hbk
  unfold Sy.bulk at hb'
  have hn : y.fs.length ≤ 1048576 := by omega
  have hnt : y.ty.bulk ≤ 1048576 := by omega
  clear hb'
  have hl4 : Hid (∀ j, ∀ (hj : j < y.fs.length), y.fs[j].args.length ≤ 1048576 ∧ y.fs[j].table.length ≤ 1048576) := fun j hj => by
    have h := y.fu_le j hj
    unfold Fu.weight at h
    omega
  have h3 : Below w.heap.size w ((w.alloc (.cells #[.slice A y.ty.sizes.length cap, .slice B y.ty.cos.length bap, .slice Q y.fs.length qap] 38)).alloc (.cells #[.slice none 0 0, .slice none 0 0, .slice none 0 0] 38)) := by go_grown
  have Hq1 := Lib.hid hq1
  have Hty := Lib.hid (hv.1.below h3 hB)
  have H3 := Lib.hid h3
  clear hv hq1 h3
  go_enter Try.func69, Try.ntmps69
  go_wp2_with fail
  refine (copyTypes_any lo hi _ _ y.ty _ Hty.out (by simp; omega) hnt).mono ?_
  rintro e w1 ⟨v, l0, C, rfl, hb, hCl, _, hown, hvC, hco⟩
  have hbel := Lib.hid (H3.out.trans (hb.mono (by simp; omega)))
  simp only [World.size_alloc] at hown hCl
  have r0 : Row w1 w.heap.size 38 [.slice A y.ty.sizes.length cap, .slice B y.ty.cos.length bap, .slice Q y.fs.length qap] :=
    ((Row.new w 38 [.slice A y.ty.sizes.length cap, .slice B y.ty.cos.length bap, .slice Q y.fs.length qap]).keep (Below.heap_alloc _ _ _ (by simp))).below hb (by simp; omega)
  have r1 : Row w1 (w.heap.size + 1) 38 [.slice none 0 0, .slice none 0 0, .slice none 0 0] := by
    have h := Row.new (w.alloc (.cells #[.slice A y.ty.sizes.length cap, .slice B y.ty.cos.length bap, .slice Q y.fs.length qap] 38)) 38 [.slice none 0 0, .slice none 0 0, .slice none 0 0]
    rw [World.size_alloc] at h
    exact h.below hb (by simp)
  have hs1 : w.heap.size + 1 + 1 ≤ w1.heap.size := by have := hb.size; simpa using this
  obtain ⟨VA, VC, rfl⟩ := owns_form hown
  have hlf : ∃ LA LC, l0 = .slice LA y.ty.cos.length LC := by
    obtain ⟨xs, m, mv, how, _⟩ := hco
    obtain ⟨LA, LC, rfl⟩ := owns_form how
    exact ⟨LA, LC, rfl⟩
  obtain ⟨L0, L1, rfl⟩ := hlf
  have Htys := Lib.hid (show TysOwned w1 (w.heap.size + 1 + 1) (.slice VA y.ty.sizes.length VC) (.slice L0 y.ty.cos.length L1) y.ty from ⟨C, hCl, hown, hvC, hco⟩)
  have he0 := r0.cell 2
  simp only [List.getElem?_cons_zero, List.getElem?_cons_succ] at he0
  have R1 := Lib.hid r1
  have hz0' : w.heap.size < w1.heap.size := by omega
  clear hown hb r0 r1 hco hvC hCl Hty
  go_wp2
  go_loopw [13] (fun i wr => ∃ (j : Nat) (l : Value), j ≤ y.fs.length ∧ i = .int .i64 j ∧ Hid (Below w1.heap.size w1 wr) ∧ w1.heap.size < wr.heap.size ∧ Row wr w1.heap.size 38 [.slice VA y.ty.sizes.length VC, .slice L0 y.ty.cos.length L1, l] ∧ Hid (FusOwned wr (w1.heap.size + 1) l (fun i => y.fs.getD i default) j)) (fun i _ => y.fs.length - (intOf i).toNat)
  case atStart => exact ⟨0, .slice none 0 0, Nat.zero_le _, rfl, Lib.hid ((Below.refl _ _).alloc (Nat.le_refl _) _), by simp, Row.new w1 _ [.slice VA y.ty.sizes.length VC, .slice L0 y.ty.cos.length L1, .slice none 0 0], FusOwned.nil _ _ _⟩
  case round =>
    obtain ⟨j, l, hj, rfl, hb, hsz, hrow, hown⟩ := hrel
    have g0 := hrow.cell 0
    have g1 := hrow.cell 1
    have g2 := hrow.cell 2
    simp only [List.getElem?_cons_zero, List.getElem?_cons_succ] at g0 g1 g2
    have k0 := hrow.frozen 0
    have k1 := hrow.frozen 1
    have k2 := hrow.frozen 2
    have Hrow := Lib.hid hrow
    clear hrow
    by_cases hlt : j < y.fs.length
    · have hbw : Below w.heap.size w wr := hbel.out.trans (hb.out.mono (by omega))
      obtain ⟨b, off, A1, cap1, A2, cap2, rfl, hlo, hhi, c0, c1, c2, c3, h5, h6, h7, h8, hfu'⟩ := (Hq1.out.below hbw hB).at_ hlt
      obtain ⟨hla, hlt2⟩ := hl4.out j hlt
      obtain ⟨xs, m, mv, how, hmo⟩ := hown.out
      obtain ⟨LA, LC, rfl⟩ := owns_form how
      have How := Lib.hid how
      have Hmo := Lib.hid hmo
      have Hfu := Lib.hid hfu'
      have Hbw := Lib.hid hbw
      clear how hmo hfu' hbw
      have hdraw : Below hi wr (wr.alloc (.cells #[.string y.fs[j].name, .slice A1 y.fs[j].args.length cap1, .int .i64 y.fs[j].res, .slice A2 y.fs[j].table.length cap2] 79)) := (Below.refl _ _).alloc (by have := hbel.out.size; have := hb.out.size; omega) _
      have Hfu3 := Lib.hid (Hfu.out.below hdraw (Nat.le_refl _))
      have hj1 : (j : Int) + 1 ≤ 1048576 := by omega
      clear hdraw
      go_upto_region 5 with fail
      go_region_law (first
        | (refine step_append_lies _ (by rfl) (.tmp 18) (.tmp 21) 36 (by rfl) (w1.heap.size + 1) 79 i0 _ 4 72 Try.underlying36 hi0 hz0 hz1 hz2 rfl (by omega) (.slice LA j LC) j xs (by rfl) ((H2.out.alloc _).drew)
            ⟨w2.heap.size, 0, none⟩ 1 1 [.string y.fs[j].name, .slice VA2 y.fs[j].args.length VC2, .int .i64 y.fs[j].res, .slice TA2 y.fs[j].table.length TC2] (by rfl) (by rfl) (World.news_of_block (cs := #[.string y.fs[j].name, .slice VA2 y.fs[j].args.length VC2, .int .i64 y.fs[j].res, .slice TA2 y.fs[j].table.length TC2]) (t := 79) (fr := (0, 0)) (heap_alloc_new w2 _)) (by simp [Value.oneCell'])
            (by omega) (by unfold maxLen; omega) (by omega) (by (try simp); (try omega)) (w2.heap.size + 1) (by simp) ?_; intro g' cap3 w3 hown3 hgrow hat hlt3; have hC3 : w3.heap[w1.heap.size]? = wr.heap[w1.heap.size]? := (hgrow.block _ (by (try simp); (try omega)) (fun hc => by have := (owns_lt How.out _ hc.symm).1; omega)).trans ((Below.heap_alloc w2 _ _ (by omega)).trans (hblk.out _ hsz)); have q2 := (Hrow.out.keep hC3).cell 2; have q2f := (Hrow.out.keep hC3).frozen 2; simp only [List.getElem?_cons_zero, List.getElem?_cons_succ] at q2; have Hown3 := Lib.hid hown3; have Hgrow := Lib.hid hgrow; have Hat := Lib.hid hat; have HC3 := Lib.hid hC3; clear hown3 hgrow hat hC3)
        | (go_simp; go_at_call 83; refine (copiedF_any lo hi _ _ _ _ y.fs[j] _ (by exact Hfu3.out) (by (try simp); (try omega)) hla hlt2).mono ?_; rintro e w2 ⟨v2, t2, rfl, hb2, hown2⟩; obtain ⟨C2, hCC, hownA, hvC2, hownT⟩ := id hown2; obtain ⟨VA2, VC2, rfl⟩ := owns_form hownA; obtain ⟨TA2, TC2, rfl⟩ := owns_form hownT; clear hCC hownA hvC2 hownT; have hsz2 : wr.heap.size + 1 ≤ w2.heap.size := (by simpa using hb2.size); have H2 := Lib.hid (ownsRow_keep How.out fun g hg hgl => (hb2.block g (by (try simp); (try omega))).trans (Below.heap_alloc wr _ g hgl)); have hblk : Hid (∀ g, g < wr.heap.size → w2.heap[g]? = wr.heap[g]?) := fun g hgl => (hb2.block g (by (try simp); (try omega))).trans (Below.heap_alloc wr _ g hgl); have p2 : w2.cell? ⟨w1.heap.size, 2, none⟩ = some (.slice LA j LC) := ((Hrow.out.keep (hblk.out _ hsz)).cell 2); have hsz3 : w1.heap.size < w2.heap.size := (by omega); have Hb2 := Lib.hid hb2; have Hown2 := Lib.hid hown2; clear hb2 hown2))
      all_goals
        have hq : Below wr.heap.size _ w2 := Hb2.out.mono (by (try simp); (try omega))
        have hb12 : Below wr.heap.size wr w2 := (((Below.refl _ wr).alloc (Nat.le_refl _) (.cells #[.string y.fs[j].name, .slice A1 y.fs[j].args.length cap1, .int .i64 y.fs[j].res, .slice A2 y.fs[j].table.length cap2] 79)).drew).trans hq
        have ho2 := TwoOwned.lower (base' := wr.heap.size) Hown2.out (by (try simp); (try omega))
        have hpush := FusOwned.push (w2 := w2) Hmo.out How.out (by omega) (show y.fs.getD j default = y.fs[j] by rw [List.getD_eq_getElem?_getD, List.getElem?_eq_getElem hlt]; rfl) hb12 ho2 Hgrow.out Hat.out Hown3.out
        have hb13 : Below w1.heap.size w1 w3 := ((hb.out.trans (hb12.mono (by omega))).alloc (by omega) _).grown Hgrow.out (by (try simp); (try omega)) (fun k hk => by have := (owns_lt How.out k hk).1; omega)
        have Hpush := Lib.hid hpush
        have Hb13 := Lib.hid hb13
        have hsz4 : w1.heap.size < w3.heap.size := by have := Hgrow.out.size; simp only [World.size_alloc] at this; omega
        clear hpush hb12 hb13 q2 q2f p2 hq ho2
        go_wp2
        go_roundw
        case rel =>
          exact ⟨j + 1, _, by omega, by go_num, Lib.hid (Hb13.out.setCell (Nat.le_refl _) _), by simp [World.setCell]; omega, (Hrow.out.keep HC3.out).set_ 2 _,
            Lib.hid (Hpush.out.keep (by simp [World.setCell]) fun g hg hgl => Below.heap_setCell _ _ _ _ (by dsimp only; omega))⟩
        case measure => simp [intOf]; omega
    · obtain rfl : j = y.fs.length := by omega
      have rr := R1.out.below hb.out (by omega)
      have r0 := rr.cell 0
      have r1 := rr.cell 1
      have r2 := rr.cell 2
      have rf0 := rr.frozen 0
      have rf1 := rr.frozen 1
      have rf2 := rr.frozen 2
      simp only [List.getElem?_cons_zero, List.getElem?_cons_succ] at r0 r1 r2
      obtain ⟨xs, m, mv, how, hmo⟩ := hown.out
      obtain ⟨LA, LC, rfl⟩ := owns_form how
      clear how hmo rr
      go_wp2
      refine bodyPost_ret (v := .agg #[.slice VA y.ty.sizes.length VC, .slice L0 y.ty.cos.length L1, .slice LA y.fs.length LC]) (by simp [results, Try.results69, go_sem, r0, r1, r2]) rfl ?_
      have hbw : Below w.heap.size w wr := hbel.out.trans (hb.out.mono (by omega))
      refine ⟨_, _, _, rfl, ((hbw.setCell (by dsimp only; omega) _).setCell (by dsimp only; omega) _).setCell (by dsimp only; omega) _, w.heap.size + 1 + 1, w1, w1.heap.size + 1, Nat.le_refl _, by omega, Htys.out, fun g hg hl => ?_, by omega, by simp [World.setCell]; omega, ?_⟩
      · exact (Below.heap_setCell _ _ _ _ (by dsimp only; omega)).trans ((Below.heap_setCell _ _ _ _ (by dsimp only; omega)).trans ((Below.heap_setCell _ _ _ _ (by dsimp only; omega)).trans (hb.out.block g hl)))
      · refine hown.out.keep (by simp [World.setCell]) fun g hg hgl => (Below.heap_setCell _ _ _ _ (by dsimp only; omega)).trans ((Below.heap_setCell _ _ _ _ (by dsimp only; omega)).trans (Below.heap_setCell _ _ _ _ (by dsimp only; omega)))
end Go.Proofs.Ytplncocfbajefaa

namespace Go.Proofs.Ytplncocfbajefaa
open Go.RowKit

theorem range_getD (cs : List Co) : (List.range cs.length).map (fun i => cs.getD i default) = cs := by
  apply List.ext_getElem
  · simp
  · intro i h1 h2
    simp [List.getElem?_eq_getElem h2]
theorem CosAt.wf {w : World} {lo hi : Nat} {v : Value} {cs : List Co} (h : CosAt w lo hi v cs) : ∀ i, i < cs.length → I64 (cs.getD i default).src ∧ I64 (cs.getD i default).dst ∧ ∀ z ∈ (cs.getD i default).map, I64 z := by
  intro i hi'
  obtain ⟨A, cap, rfl, _, _, hc⟩ := h.form
  obtain ⟨b, off, A2, cap2, _, _, _, _, _, _, _, _, hs, hd, hz⟩ := hc.at_ hi'
  have e : cs.getD i default = cs[i] := by rw [List.getD_eq_getElem?_getD, List.getElem?_eq_getElem hi']; rfl
  obtain ⟨_, _, _, _, _, hw, _⟩ := hz
  rw [e]
  exact ⟨hs, hd, hw⟩
theorem IntsAt.wf {w : World} {lo hi : Nat} {v : Value} {zs : List Int} (h : IntsAt w lo hi v zs) : ∀ z ∈ zs, I64 z := by
  obtain ⟨_, _, _, _, _, hw, _⟩ := h
  exact hw

set_option maxRecDepth 100000 in
set_option maxHeartbeats 2000000 in
theorem ownTypes_any (lo hi : Nat) (sv cv : Value) (t : Ty) (w : World) (hv : TyAt w lo hi sv cv t) (hB : hi ≤ w.heap.size) (hbk : t.bulk ≤ 1048576) :
    Calls Try.prog 42 #[.agg #[sv, cv]] w fun e w' => ∃ v l, e = .returned (.agg #[v, l]) ∧ Below w.heap.size w w' ∧ TyAt w' w.heap.size w'.heap.size v l t := by
  have hwf1 := Lib.hid (IntsAt.wf hv.1)
  have hwf2 := Lib.hid (CosAt.wf hv.2)
  obtain ⟨A, cap, rfl, hl1, hm1, hz⟩ := hv.1.form
  obtain ⟨B, bap, rfl, hl2, hm2, hc1⟩ := hv.2.form
  have hn : t.cos.length ≤ 1048576 := by unfold Ty.bulk at hbk; omega
  have hn1 : t.sizes.length ≤ 1048576 := by unfold Ty.bulk at hbk; omega
  have hl3 := Lib.hid (show ∀ j, ∀ (hj : j < t.cos.length), t.cos[j].map.length ≤ 1048576 from fun j hj => Nat.le_trans (t.map_le j hj) hbk)
  have h3 : Below w.heap.size w (((w.alloc (.cells #[.slice A t.sizes.length cap, .slice B t.cos.length bap] 35)).alloc (.cells #[.slice none 0 0, .slice none 0 0] 35)).alloc (.cells #[] 3)) := by go_grown
  have hw2 : (((w.alloc (.cells #[.slice A t.sizes.length cap, .slice B t.cos.length bap] 35)).alloc (.cells #[.slice none 0 0, .slice none 0 0] 35)).heap.size) = w.heap.size + 1 + 1 := by simp
  have h0 := World.ownsRow_lit (base := w.heap.size + 1 + 1) (e := 3) (size := 1) ((w.alloc (.cells #[.slice A t.sizes.length cap, .slice B t.cos.length bap] 35)).alloc (.cells #[.slice none 0 0, .slice none 0 0] 35)) #[] 0 (by rw [hw2]; exact Nat.le_refl _) (by unfold maxLen; omega) rfl
  rw [hw2] at h0
  have H0 := Lib.hid h0
  have Hz := Lib.hid (hz.below h3 hB)
  have Hc1 := Lib.hid hc1
  have H3 := Lib.hid h3
  clear h0 hz h3 hw2 hc1 hv
  go_enter Try.func42, Try.ntmps42
  go_wp2_with (at_builtin; refine wpList_append_ints rfl (.tmp 3) (.tmp 5) rfl (w.heap.size + 1 + 1) _ 0 [] rfl H0.out lo hi A t.sizes.length cap t.sizes rfl Hz.out rfl (by omega) (by simp) ?_; intro VA VC w2 hown2 hgrow; have hb := H3.out.grown hgrow (by simp; omega) (fun k hk => (by have h : (some (w.heap.size + 1 + 1) : Option Nat) = some k := hk; injection h with h; omega)); have hs2 := hgrow.size; simp only [World.size_alloc] at hs2; have hgrow' : World.grownBy _ w2 (some (w.heap.size + 1 + 1)) := hgrow; have e0 := grown_cell hgrow' w.heap.size 0 (by simp; omega) (by omega); have e1 := grown_cell hgrow' w.heap.size 1 (by simp; omega) (by omega); have d0 := grown_cell hgrow' (w.heap.size + 1) 0 (by simp) (by omega); have d1 := grown_cell hgrow' (w.heap.size + 1) 1 (by simp) (by omega); have f0 := grown_frozen hgrow' w.heap.size 0 (by simp; omega) (by omega); have f1 := grown_frozen hgrow' w.heap.size 1 (by simp; omega) (by omega); have k0 := grown_frozen hgrow' (w.heap.size + 1) 0 (by simp) (by omega); have k1 := grown_frozen hgrow' (w.heap.size + 1) 1 (by simp) (by omega); simp [go_sem] at e0 e1 d0 d1 f0 f1 k0 k1; have e0' : ∀ u, (w2.setCell ⟨w.heap.size, 0, none⟩ u).cell? ⟨w.heap.size, 0, none⟩ = some u := (fun u => World.cell?_setCell_same _ _ _ e0); have ho2 : w2.ownsRow (w.heap.size + 1 + 1) 3 1 (.slice VA t.sizes.length VC) t.sizes.length (t.sizes.map (Value.int .i64)) := (by simpa using hown2); have Hown2 := Lib.hid ho2; have Hb := Lib.hid hb; clear hown2 hgrow hgrow' hb ho2)
  refine (ownList_any lo hi _ t.cos _ (Hc1.out.below (Hb.out.setCell (by dsimp only; omega) _) hB) (by simp [World.setCell]; omega) hn hl3.out).mono ?_
  rintro e w3 ⟨l, rfl, hb3, hco⟩
  have hss : (w2.setCell ⟨w.heap.size, 0, none⟩ (.slice VA t.sizes.length VC)).heap.size = w2.heap.size := by simp [World.setCell]
  rw [hss] at hb3 hco
  have p0 : w3.cell? ⟨w.heap.size, 0, none⟩ = some (.slice VA t.sizes.length VC) := ((bcell hb3).1 _ _ (by omega)).trans (e0' _)
  have p1 : w3.cell? ⟨w.heap.size, 1, none⟩ = some (.slice B t.cos.length bap) := ((bcell hb3).1 _ _ (by omega)).trans (by simp [go_sem, e1])
  have q0 : w3.cell? ⟨w.heap.size + 1, 0, none⟩ = some (.slice none 0 0) := ((bcell hb3).1 _ _ (by omega)).trans (by simp [go_sem, d0])
  have q1 : w3.cell? ⟨w.heap.size + 1, 1, none⟩ = some (.slice none 0 0) := ((bcell hb3).1 _ _ (by omega)).trans (by simp [go_sem, d1])
  have pf0 : w3.frozen? ⟨w.heap.size, 0, none⟩ = false := ((bcell hb3).2 _ _ (by omega)).trans (by simp [go_sem, f0])
  have pf1 : w3.frozen? ⟨w.heap.size, 1, none⟩ = false := ((bcell hb3).2 _ _ (by omega)).trans (by simp [go_sem, f1])
  have qf0 : w3.frozen? ⟨w.heap.size + 1, 0, none⟩ = false := ((bcell hb3).2 _ _ (by omega)).trans (by simp [go_sem, k0])
  have qf1 : w3.frozen? ⟨w.heap.size + 1, 1, none⟩ = false := ((bcell hb3).2 _ _ (by omega)).trans (by simp [go_sem, k1])
  have p1' : ∀ u, (w3.setCell ⟨w.heap.size, 1, none⟩ u).cell? ⟨w.heap.size, 1, none⟩ = some u := fun u => World.cell?_setCell_same _ _ _ p1
  obtain ⟨xs, m, mv, how, hmo⟩ := hco
  obtain ⟨LA, LC, rfl⟩ := owns_form how
  have Hco := Lib.hid (show CosOwned w3 w2.heap.size (.slice LA t.cos.length LC) (fun i => t.cos.getD i default) t.cos.length from ⟨xs, m, mv, how, hmo⟩)
  have hsz3 := hb3.size
  rw [hss] at hsz3
  have hb03 := Lib.hid ((Hb.out.setCell (by dsimp only; omega) _).trans (hb3.mono (by omega)))
  have ho3 := Lib.hid (ownsRow_keep Hown2.out fun g hg hgl => (hb3.block g hgl).trans (Below.heap_setCell _ _ _ _ (by dsimp only; omega)))
  have hblk : Hid (∀ g, w.heap.size + 1 + 1 ≤ g → (((w3.setCell ⟨w.heap.size, 1, none⟩ (.slice LA t.cos.length LC)).setCell ⟨w.heap.size + 1, 0, none⟩ (.slice VA t.sizes.length VC)).setCell ⟨w.heap.size + 1, 1, none⟩ (.slice LA t.cos.length LC)).heap[g]? = w3.heap[g]?) := fun g hg => (Below.heap_setCell _ _ _ _ (by dsimp only; omega)).trans ((Below.heap_setCell _ _ _ _ (by dsimp only; omega)).trans (Below.heap_setCell _ _ _ _ (by dsimp only; omega)))
  clear how hmo hb3 hss e0' e0 e1 d0 d1 f0 f1 k0 k1
  go_wp2
  refine bodyPost_ret (v := .agg #[.slice VA t.sizes.length VC, .slice LA t.cos.length LC]) (by simp [results, Try.results42, go_sem, q0, q1]) rfl ?_
  refine ⟨_, _, rfl, ((hb03.out.setCell (by dsimp only; omega) _).setCell (by dsimp only; omega) _).setCell (by dsimp only; omega) _, ?_, ?_⟩
  · exact ownsRow.intsAt (base := w.heap.size + 1 + 1) (lo := w.heap.size) (ownsRow_keep ho3.out fun g hg _ => hblk.out g hg) hwf1.out (by omega) (Nat.le_refl _)
  · have := CosOwned.cosAt (lo := w.heap.size) (base := w2.heap.size) (Hco.out.keep (by simp [World.setCell]) fun g hg hgl => hblk.out g (by omega)) hwf2.out (by omega) (Nat.le_refl _)
    rw [range_getD] at this
    exact this
end Go.Proofs.Ytplncocfbajefaa

namespace Go.Proofs.Ytplncocfbajefaa
open Go.RowKit

theorem FusOwned.lit (w : World) (base : Nat) (f : Nat → Fu) (hb : base ≤ w.heap.size) : FusOwned (w.alloc (.cells #[] 79)) base (.slice (some ⟨w.heap.size, 0, none⟩) 0 0) f 0 :=
  ⟨[], fun _ _ => 0, fun _ _ => .slice none 0 0, World.ownsRow_lit w #[] 0 hb (by unfold maxLen; omega) rfl, fun i hi => absurd hi (by omega), fun i b hi => absurd hi (by omega), fun i b hi => absurd hi (by omega)⟩

set_option maxRecDepth 100000 in
set_option maxHeartbeats 2000000 in
theorem ownListF_any (lo hi : Nat) (v : Value) (cs : List Fu) (w : World) (hv : FusAt w lo hi v cs) (hB : hi ≤ w.heap.size) (hn : cs.length ≤ 1048576) (hmaps : ∀ j, ∀ (hj : j < cs.length), cs[j].args.length ≤ 1048576 ∧ cs[j].table.length ≤ 1048576) :
    Calls Try.prog 43 #[v] w fun e w' => ∃ l, e = .returned l ∧ Below w.heap.size w w' ∧ FusOwned w' w.heap.size l (fun i => cs.getD i default) cs.length := by
  obtain ⟨B, bap, rfl, hl2, hm2, hc1⟩ := hv.form
  unfold maxLen at hm2
  obtain ⟨i0, hi0, hz0, hz1, hz2⟩ := info_parts infoFunction
  have hl3 := Lib.hid hmaps
  have Hc1 := Lib.hid hc1
  clear hv hc1 hmaps
  go_enter Try.func43, Try.ntmps43
  go_wp2
  go_loopw [3, 9] (fun l i wr => ∃ (j : Nat), j ≤ cs.length ∧ i = .int .i64 j ∧ Hid (Below w.heap.size w wr) ∧ Hid (FusOwned wr w.heap.size l (fun i => cs.getD i default) j)) (fun _ i _ => cs.length - (intOf i).toNat)
  case atStart => exact ⟨0, Nat.zero_le _, rfl, Lib.hid ((Below.refl _ _).alloc (Nat.le_refl _) _), FusOwned.lit _ _ _ (Nat.le_refl _)⟩
  case round =>
    obtain ⟨j, hj, rfl, hb, hown⟩ := hrel
    by_cases hlt : j < cs.length
    · obtain ⟨b, off, A1, cap1, A2, cap2, rfl, hlo, hhi, c0, c1, c2, c3, h5, h6, h7, h8, hz2'⟩ := (Hc1.out.below hb.out hB).at_ hlt
      obtain ⟨hla, hlt2⟩ := hl3.out j hlt
      obtain ⟨xs, m, mv, how, hmo⟩ := hown.out
      obtain ⟨LA, LC, rfl⟩ := owns_form how
      have How := Lib.hid how
      have Hmo := Lib.hid hmo
      have hbs := hb.out.size
      have hdraw : Below hi wr (wr.alloc (.cells #[.string cs[j].name, .slice A1 cs[j].args.length cap1, .int .i64 cs[j].res, .slice A2 cs[j].table.length cap2] 79)) := (Below.refl _ _).alloc (by omega) _
      have Hz3 := Lib.hid (hz2'.below hdraw (Nat.le_refl _))
      clear how hmo hz2' hdraw
      go_wp2_with fail
      refine (ownFu_any lo hi _ _ _ _ cs[j] _ Hz3.out (by simp; omega) hla hlt2).mono ?_
      rintro e w2 ⟨v2, t2, rfl, hb2, hown2⟩
      obtain ⟨C2, hCC, hownA, hvC2, hownT⟩ := id hown2
      obtain ⟨VA2, VC2, rfl⟩ := owns_form hownA
      obtain ⟨TA2, TC2, rfl⟩ := owns_form hownT
      clear hCC hownA hvC2 hownT
      have hsz2 : wr.heap.size + 1 ≤ w2.heap.size := by simpa using hb2.size
      have H2 := Lib.hid (ownsRow_keep How.out fun g hg hgl => (hb2.block g (by (try simp); (try omega))).trans (Below.heap_alloc wr _ g hgl))
      have hq : Below wr.heap.size _ w2 := hb2.mono (by (try simp); (try omega))
      have hb12 : Below wr.heap.size wr w2 := ((Below.refl _ wr).alloc (Nat.le_refl _) (.cells #[.string cs[j].name, .slice A1 cs[j].args.length cap1, .int .i64 cs[j].res, .slice A2 cs[j].table.length cap2] 79)).trans hq
      have ho2 := Lib.hid (TwoOwned.lower (base' := wr.heap.size) hown2 (by (try simp); (try omega)))
      have Hb12 := Lib.hid hb12
      clear hb2 hown2 hq hb12
      go_wp2_with (at_builtin; refine wpList_append_lies _ rfl (.tmp 13) (.tmp 16) 36 rfl w.heap.size 79 i0 _ 4 72 Try.underlying36 hi0 hz0 hz1 hz2 rfl (by omega) (.slice LA j LC) j xs rfl (H2.out.alloc _) ⟨w2.heap.size, 0, none⟩ 1 1 [.string cs[j].name, .slice VA2 cs[j].args.length VC2, .int .i64 cs[j].res, .slice TA2 cs[j].table.length TC2] rfl rfl (World.news_of_block (cs := #[.string cs[j].name, .slice VA2 cs[j].args.length VC2, .int .i64 cs[j].res, .slice TA2 cs[j].table.length TC2]) (t := 79) (fr := (0, 0)) (heap_alloc_new w2 _)) (by simp [Value.oneCell']) (by omega) (by unfold maxLen; omega) (by omega) (by (try simp); (try omega)) (w2.heap.size + 1) (by simp) ?_; intro g' cap3 w3 hown3 hgrow hat hlt3; have Hown3 := Lib.hid hown3; have Hgrow := Lib.hid hgrow; have Hat := Lib.hid hat; clear hown3 hgrow hat)
      have hpush := FusOwned.push (w2 := w2) Hmo.out How.out (by omega) (show cs.getD j default = cs[j] by rw [List.getD_eq_getElem?_getD, List.getElem?_eq_getElem hlt]; rfl) Hb12.out ho2.out Hgrow.out Hat.out Hown3.out
      have hb13 : Below w.heap.size w w3 := ((hb.out.trans (Hb12.out.mono (by omega))).alloc (by omega) _).grown Hgrow.out (by (try simp); (try omega)) (fun k hk => by have := (owns_lt How.out k hk).1; omega)
      have Hpush := Lib.hid hpush
      have Hb13 := Lib.hid hb13
      clear hpush hb13
      go_roundw
      case rel => exact ⟨j + 1, by omega, by go_num, Hb13, Hpush⟩
      case measure => simp [intOf]; omega
    · obtain rfl : j = cs.length := by omega
      go_wp2
      go_ret
      exact ⟨_, rfl, hb.out, hown.out⟩
end Go.Proofs.Ytplncocfbajefaa

