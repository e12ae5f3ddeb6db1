/-
  The contracts of the functions that copy a function, some functions, a system into new memory.
  The contracts of the functions that compare: where both sides read as the same data, they return true.
  The contracts of the functions that compare functions and systems: where both sides read as the same data, they return true.
-/
import Derived.Test.YtnmbjmocnafekaaGreatDoorG2
import Derived.Test.YtnmbjmocnafekaaGreatDoorRows
import Derived.Test.YtnmbjmocnafekaaGreatDoorG1
import Derived.Outline
import Derived.Handy
import Derived.BigQuiet
import Derived.Deep.QuietTactic
import Derived.StillTailTactics
import Derived.Deep.RegionWith
namespace Go.Proofs.YtnmbjmocnafekaaGreatDoor
open Go.RowKit

set_option maxHeartbeats 800000 in
theorem toFunction_any (lo hi : Nat) (x a r t : Value) (f : Fu) (w : World) (hv : FuAt w lo hi x a r t f) (hB : hi ≤ w.heap.size) (hlen : f.args.length ≤ 1048576) (hlen2 : f.table.length ≤ 1048576) :
    Calls Tryz.prog 72 #[.agg #[x, a, r, t]] w fun e w' => e = .returned (.agg #[.string f.name, .slice (some ⟨w.heap.size + 3, 0, none⟩) f.args.length f.args.length, .int .i64 f.res, .slice (some ⟨w.heap.size + 4, 0, none⟩) f.table.length f.table.length]) ∧
      Below w.heap.size w w' ∧ w'.heap.size = w.heap.size + 5 ∧ Row w' (w.heap.size + 3) 3 (f.args.map (Value.int .i64)) ∧ Row w' (w.heap.size + 4) 3 (f.table.map (Value.int .i64)) := by
  obtain ⟨rfl, rfl, _, hs, ha, ht⟩ := hv
  obtain ⟨A, cap, rfl, _, _, ha⟩ := ha.form
  obtain ⟨B, bap, rfl, _, _, ht⟩ := ht.form
  go_enter Tryz.func72, Tryz.ntmps72
  go_wp2_with fail
  have h3 : Below w.heap.size w ((((w.alloc (.cells #[.string f.name, .slice A f.args.length cap, .int .i64 f.res, .slice B f.table.length bap] 109)).alloc (.cells #[.string ByteArray.empty, .slice none 0 0, .int .i64 0, .slice none 0 0] 111)).alloc (.cells #[.string f.name, .slice none 0 0, .int .i64 0, .slice none 0 0] 111))) := by go_grown
  refine (toIntS_any lo hi _ f.args _ (ha.below h3 hB) (by simp; omega) hlen).mono ?_
  rintro e w1 ⟨rfl, hb, hsz, hrow⟩
  have hbel := h3.trans (hb.mono (by simp; omega))
  obtain ⟨hcl, hfr⟩ := bcell hb
  simp only [World.size_alloc] at hsz hrow hcl hfr
  have hz1 : w.heap.size + 1 + 1 < w1.heap.size := by omega
  have Hrow := Lib.hid hrow
  have Hsz := Lib.hid hsz
  have Hbel := Lib.hid hbel
  have Hbw := Lib.hid hb
  clear hsz hrow hbel hb h3 ha
  go_wp2_with fail
  obtain ⟨wu, hwu⟩ : ∃ wu, wu = ((w1.setCell ⟨w.heap.size + 1 + 1, 1, none⟩ (.slice (some ⟨w.heap.size + 1 + 1 + 1, 0, none⟩) f.args.length f.args.length)).setCell ⟨w.heap.size + 1 + 1, 2, none⟩ (.int .i64 f.res)) := ⟨_, rfl⟩
  have hs1 : wu.heap.size = w.heap.size + 1 + 1 + 1 + 1 := by rw [hwu]; simpa [World.setCell] using Hsz.out
  have hb1 : Below w.heap.size w wu := by rw [hwu]; exact (Hbel.out.setCell (by dsimp only; omega) _).setCell (by dsimp only; omega) _
  have hr1 : Row wu (w.heap.size + 1 + 1 + 1) 3 (f.args.map (Value.int .i64)) := by rw [hwu]; exact (Hrow.out.far (by dsimp only; omega) _).far (by dsimp only; omega) _
  have hR1 : Row w1 (w.heap.size + 1 + 1) 111 [.string f.name, .slice none 0 0, .int .i64 0, .slice none 0 0] := by
    have hnew := Row.new ((w.alloc (.cells #[.string f.name, .slice A f.args.length cap, .int .i64 f.res, .slice B f.table.length bap] 109)).alloc (.cells #[.string ByteArray.empty, .slice none 0 0, .int .i64 0, .slice none 0 0] 111)) 111 [.string f.name, .slice none 0 0, .int .i64 0, .slice none 0 0]
    simp only [World.size_alloc] at hnew
    exact hnew.below Hbw.out (by simp)
  have hRu : Row wu (w.heap.size + 1 + 1) 111 [.string f.name, .slice (some ⟨w.heap.size + 1 + 1 + 1, 0, none⟩) f.args.length f.args.length, .int .i64 f.res, .slice none 0 0] := by rw [hwu]; exact (hR1.set_ 1 _).set_ 2 _
  have hB1 : Row w1 (w.heap.size + 1) 111 [.string ByteArray.empty, .slice none 0 0, .int .i64 0, .slice none 0 0] := by
    have hnew := (Row.new (w.alloc (.cells #[.string f.name, .slice A f.args.length cap, .int .i64 f.res, .slice B f.table.length bap] 109)) 111 [.string ByteArray.empty, .slice none 0 0, .int .i64 0, .slice none 0 0]).alloc (.cells #[.string f.name, .slice none 0 0, .int .i64 0, .slice none 0 0] 111)
    simp only [World.size_alloc] at hnew
    exact hnew.below Hbw.out (by simp)
  have hBu : Row wu (w.heap.size + 1) 111 [.string ByteArray.empty, .slice none 0 0, .int .i64 0, .slice none 0 0] := by rw [hwu]; exact (hB1.far (by dsimp only; omega) _).far (by dsimp only; omega) _
  rw [← hwu]
  clear hwu hcl hfr
  refine (toIntS_any lo hi _ f.table _ (ht.below hb1 hB) (by rw [hs1]; omega) hlen2).mono ?_
  rintro e w2 ⟨rfl, hb2, hsz2, hrow2⟩
  rw [hs1] at hsz2 hrow2
  have hbel2 := Lib.hid (hb1.trans (hb2.mono (by omega)))
  have hr2 := Lib.hid (hr1.below hb2 (by omega))
  have hR2 := hRu.below hb2 (by omega)
  have hR2x := Lib.hid hR2
  have k0 := hR2.cell 0
  have k1 := hR2.cell 1
  have k2 := hR2.cell 2
  have k3 := hR2.cell 3
  have m0 := hR2.frozen 0
  have m1 := hR2.frozen 1
  have m2 := hR2.frozen 2
  have m3 := hR2.frozen 3
  simp only [List.getElem?_cons_zero, List.getElem?_cons_succ] at k0 k1 k2 k3
  have hR3 := Lib.hid (hBu.below hb2 (by omega))
  have e0 := hR3.out.cell 0
  have e1 := hR3.out.cell 1
  have e2 := hR3.out.cell 2
  have e3 := hR3.out.cell 3
  have f0 := hR3.out.frozen 0
  have f1 := hR3.out.frozen 1
  have f2 := hR3.out.frozen 2
  have f3 := hR3.out.frozen 3
  simp only [List.getElem?_cons_zero, List.getElem?_cons_succ] at e0 e1 e2 e3
  have Hsz2 := Lib.hid hsz2
  have Hrow2 := Lib.hid hrow2
  rw [hs1]
  clear hsz2 hrow2 hb2 hb1 hr1 hRu hR2 hs1 hR1 hB1 hBu
  have Hb2 := hbel2
  go_wp2
  refine bodyPost_ret (v := .agg #[.string f.name, .slice (some ⟨w.heap.size + 1 + 1 + 1, 0, none⟩) f.args.length f.args.length, .int .i64 f.res, .slice (some ⟨w.heap.size + 1 + 1 + 1 + 1, 0, none⟩) f.table.length f.table.length]) (by simp [results, Tryz.results72, go_sem, e0, e1, e2, e3]) rfl ⟨rfl, ?_, ?_, ?_, ?_⟩
  · exact ((((Hb2.out.setCell (by dsimp only; omega) _).setCell (by dsimp only; omega) _).setCell (by dsimp only; omega) _).setCell (by dsimp only; omega) _).setCell (by dsimp only; omega) _
  · have := Hsz2.out
    simp only [World.setCell, Array.size_modify]; omega
  · exact ((((hr2.out.far (by dsimp only; omega) _).far (by dsimp only; omega) _).far (by dsimp only; omega) _).far (by dsimp only; omega) _).far (by dsimp only; omega) _
  · exact ((((Hrow2.out.far (by dsimp only; omega) _).far (by dsimp only; omega) _).far (by dsimp only; omega) _).far (by dsimp only; omega) _).far (by dsimp only; omega) _

theorem infoFunction : (Tryz.prog.info? 111).map (fun i => (i.zero, i.size, i.bytes)) = some (some (.agg #[.string ByteArray.empty, .slice none 0 0, .int .i64 0, .slice none 0 0]), 4, 72) := by kernel_rfl

set_option maxHeartbeats 1600000 in
theorem toFunctionS_any (lo hi : Nat) (v : Value) (fs : List Fu) (w : World) (hv : FusAt w lo hi v fs) (hB : hi ≤ w.heap.size) (hlen : fs.length ≤ 1048576) (hmaps : ∀ j, ∀ (hj : j < fs.length), fs[j].weight ≤ 1048576) :
    Calls Tryz.prog 38 #[v] w fun e w' => e = .returned (.slice (some ⟨w.heap.size, 0, none⟩) fs.length fs.length) ∧
      Below w.heap.size w w' ∧ w'.heap.size = w.heap.size + 1 + 5 * fs.length ∧ NewFus w' 3 111 w.heap.size fs := by
  obtain ⟨A, cap, rfl, hl, hm, hcos⟩ := hv.form
  unfold maxLen at hm
  obtain ⟨i0, hi0, hz0, hs0, hb0⟩ := info_parts infoFunction
  have hmk := fun wx => run_make_rows (P := Tryz.prog) 34 111 i0 _ Tryz.underlying34 hi0 hz0 .i64 .i64 fs.length (by rw [hb0]; omega) (by omega) wx
  rw [hs0] at hmk
  clear hi0 hz0 hs0 hb0
  generalize hX : madeCells (Value.agg #[.string ByteArray.empty, .slice none 0 0, .int .i64 0, .slice none 0 0]).cells (fs.length * 4) = X at hmk
  have hXs : X.toList.length = fs.length * 4 := by rw [← hX]; simp [madeCells]
  have HX := Lib.hid hXs
  clear hX hXs hv
  go_enter Tryz.func38, Tryz.ntmps38
  go_wp2
  go_loopw [4] (fun i wr => ∃ k : Nat, k ≤ fs.length ∧ i = .int .i64 k ∧ Below w.heap.size w wr ∧ wr.heap.size = w.heap.size + 1 + 5 * k ∧ (∃ xs, Row wr w.heap.size 111 xs ∧ FuRow xs (fun j => w.heap.size + 1 + 5 * j + 3) (fun j => w.heap.size + 1 + 5 * j + 4) fs k) ∧
      ∀ j, j < k → ∀ (hj : j < fs.length), Row wr (w.heap.size + 1 + 5 * j + 3) 3 (fs[j].args.map (Value.int .i64)) ∧ Row wr (w.heap.size + 1 + 5 * j + 4) 3 (fs[j].table.map (Value.int .i64))) (fun i _ => fs.length - (intOf i).toNat)
  case atStart => exact ⟨0, Nat.zero_le _, rfl, (Below.refl _ _).alloc (Nat.le_refl _) _, by simp, ⟨X.toList, by simpa using Row.new w _ X.toList, HX.out, fun j hj => absurd hj (by omega)⟩, fun j hj => absurd hj (by omega)⟩
  case round =>
    obtain ⟨k, hk, rfl, hb, hsz, ⟨xs, hrow, hxs⟩, hmr⟩ := hrel
    by_cases hlt : k < fs.length
    · have hin := hcos.below hb hB
      obtain ⟨b, off, A1, cap1, A2, cap2, rfl, hlo, hhi, c0, c1, c2, c3, h5, h6, h7, h8, hfu⟩ := hin.at_ hlt
      have hmap := hmaps k hlt
      unfold Fu.weight at hmap
      have Hs := Lib.hid hsz
      clear hsz
      have hbs := hb.size
      go_wp2_with fail
      refine (toFunction_any lo hi _ _ _ _ fs[k] _ hfu (by omega) (by omega) (by omega)).mono ?_
      rintro e w1 ⟨rfl, hb1, hsz1, hrow1, hrow1'⟩
      have hrow' := hrow.below hb1 hrow.lt
      have hlx := hxs.1
      have d0 := hrow'.cell_some (i := k * 4) (by omega)
      have d1 := hrow'.cell_some (i := k * 4 + 1) (by omega)
      have d2 := hrow'.cell_some (i := k * 4 + 2) (by omega)
      have d3 := hrow'.cell_some (i := k * 4 + 3) (by omega)
      have g0 := hrow'.frozen (k * 4)
      have g1 := hrow'.frozen (k * 4 + 1)
      have g2 := hrow'.frozen (k * 4 + 2)
      have g3 := hrow'.frozen (k * 4 + 3)
      generalize xs[k * 4]'(by omega) = y0 at d0
      generalize xs[k * 4 + 1]'(by omega) = y1 at d1
      generalize xs[k * 4 + 2]'(by omega) = y2 at d2
      generalize xs[k * 4 + 3]'(by omega) = y3 at d3
      have Hx := Lib.hid hxs
      have Hs1 := Lib.hid hsz1
      have Hr := Lib.hid hrow'
      have Hr1 := Lib.hid hrow1
      have Hr1' := Lib.hid hrow1'
      have Hmr := Lib.hid hmr
      have Hb := Lib.hid hb
      have Hb1 := Lib.hid hb1
      clear hxs hsz1 hrow' hrow1 hrow1' hmr hrow hlx hin hcos hfu hb hb1
      go_wp2
      go_roundw
      case rel =>
        have e1 := Hs.out
        have e2 := Hs1.out
        have hbb := Hb.out.trans (Hb1.out.mono (by omega : w.heap.size ≤ wr.heap.size))
        refine ⟨k + 1, by omega, by go_num, (((hbb.setCell (Nat.le_refl _) _).setCell (Nat.le_refl _) _).setCell (Nat.le_refl _) _).setCell (Nat.le_refl _) _, ?_, ⟨_, (((Hr.out.set_ _ _).set_ _ _).set_ _ _).set_ _ _, ?_⟩, ?_⟩
        · simp only [World.setCell, Array.size_modify]; omega
        · have := Hx.out.step hlt
          rw [← e1] at this
          exact this
        · intro j hj hjl
          by_cases ejk : j = k
          · subst ejk
            rw [← e1]
            exact ⟨(((Hr1.out.far (by dsimp only; omega) _).far (by dsimp only; omega) _).far (by dsimp only; omega) _).far (by dsimp only; omega) _, (((Hr1'.out.far (by dsimp only; omega) _).far (by dsimp only; omega) _).far (by dsimp only; omega) _).far (by dsimp only; omega) _⟩
          · exact ⟨((((((Hmr.out j (by omega) hjl).1).below Hb1.out (by omega)).far (by dsimp only; omega) _).far (by dsimp only; omega) _).far (by dsimp only; omega) _).far (by dsimp only; omega) _, ((((((Hmr.out j (by omega) hjl).2).below Hb1.out (by omega)).far (by dsimp only; omega) _).far (by dsimp only; omega) _).far (by dsimp only; omega) _).far (by dsimp only; omega) _⟩
      case measure => simp [intOf]; omega
    · obtain rfl : k = fs.length := by omega
      have H : Hid (Below w.heap.size w wr ∧ wr.heap.size = w.heap.size + 1 + 5 * fs.length ∧ NewFus wr 3 111 w.heap.size fs) := ⟨hb, hsz, ⟨xs, hrow, hxs⟩, fun j hj => hmr j hj hj⟩
      clear hb hsz hrow hxs hmr hcos
      go_wp2
      go_ret
      exact ⟨rfl, H.out⟩

set_option maxHeartbeats 800000 in
theorem toSystem_any (lo hi : Nat) (s c v : Value) (y : Sy) (w : World) (hv : SyAt w lo hi s c v y) (hB : hi ≤ w.heap.size) (hlen : y.bulk ≤ 1048576) :
    Calls Tryz.prog 11 #[.agg #[s, c, v]] w fun e w' => e = .returned (.agg #[.slice (some ⟨w.heap.size + 6, 0, none⟩) y.ty.sizes.length y.ty.sizes.length, .slice (some ⟨w.heap.size + 7, 0, none⟩) y.ty.cos.length y.ty.cos.length, .slice (some ⟨w.heap.size + 8 + 4 * y.ty.cos.length, 0, none⟩) y.fs.length y.fs.length]) ∧
      Below w.heap.size w w' ∧ w'.heap.size = w.heap.size + 9 + 4 * y.ty.cos.length + 5 * y.fs.length ∧ NewSy w' 3 185 111 (w.heap.size + 6) y := by
  obtain ⟨hty, hf⟩ := hv
  obtain ⟨A, cap, rfl, _, _, hz⟩ := hty.1.form
  obtain ⟨A2, cap2, rfl, _, _, hcos⟩ := hty.2.form
  obtain ⟨A3, cap3, rfl, _, _, hfu⟩ := hf.form
  have hT : TyAt w lo hi (.slice A y.ty.sizes.length cap) (.slice A2 y.ty.cos.length cap2) y.ty := ⟨hz, hcos⟩
  have hl1 : y.ty.bulk ≤ 1048576 := by unfold Sy.bulk at hlen; omega
  have hl2 : y.fs.length ≤ 1048576 := by unfold Sy.bulk at hlen; omega
  have hl3 : Hid (∀ j, ∀ (hj : j < y.fs.length), y.fs[j].weight ≤ 1048576) := fun j hj => Nat.le_trans (y.fu_le j hj) hlen
  clear hty hf hz hcos
  have h3 : Below w.heap.size w (((w.alloc (.cells #[.slice A y.ty.sizes.length cap, .slice A2 y.ty.cos.length cap2, .slice A3 y.fs.length cap3] 28)).alloc (.cells #[.slice none 0 0, .slice none 0 0, .slice none 0 0] 36)).alloc (.cells #[.slice none 0 0, .slice none 0 0, .slice none 0 0] 36)) := by go_grown
  go_enter Tryz.func11, Tryz.ntmps11
  go_wp2_with fail
  refine (toTypes_any lo hi _ _ y.ty _ (hT.below h3 hB) (by simp; omega) hl1).mono ?_
  rintro e w1 ⟨rfl, hb, hsz, hnew⟩
  have hbel := h3.trans (hb.mono (by simp; omega))
  simp only [World.size_alloc] at hsz hnew
  have hR1 : Row w1 (w.heap.size + 1 + 1) 36 [.slice none 0 0, .slice none 0 0, .slice none 0 0] := by
    have hn := Row.new ((w.alloc (.cells #[.slice A y.ty.sizes.length cap, .slice A2 y.ty.cos.length cap2, .slice A3 y.fs.length cap3] 28)).alloc (.cells #[.slice none 0 0, .slice none 0 0, .slice none 0 0] 36)) 36 [.slice none 0 0, .slice none 0 0, .slice none 0 0]
    simp only [World.size_alloc] at hn
    exact hn.below hb (by simp)
  have hB1 : Row w1 (w.heap.size + 1) 36 [.slice none 0 0, .slice none 0 0, .slice none 0 0] := by
    have hn := (Row.new (w.alloc (.cells #[.slice A y.ty.sizes.length cap, .slice A2 y.ty.cos.length cap2, .slice A3 y.fs.length cap3] 28)) 36 [.slice none 0 0, .slice none 0 0, .slice none 0 0]).alloc (.cells #[.slice none 0 0, .slice none 0 0, .slice none 0 0] 36)
    simp only [World.size_alloc] at hn
    exact hn.below hb (by simp)
  have hA1 : Row w1 w.heap.size 28 [.slice A y.ty.sizes.length cap, .slice A2 y.ty.cos.length cap2, .slice A3 y.fs.length cap3] := by
    have hn := ((Row.new w 28 [.slice A y.ty.sizes.length cap, .slice A2 y.ty.cos.length cap2, .slice A3 y.fs.length cap3]).alloc (.cells #[.slice none 0 0, .slice none 0 0, .slice none 0 0] 36)).alloc (.cells #[.slice none 0 0, .slice none 0 0, .slice none 0 0] 36)
    exact hn.below hb (by simp; omega)
  have a0 := hA1.cell 0
  have a1 := hA1.cell 1
  have a2 := hA1.cell 2
  have k0 := hR1.cell 0
  have k1 := hR1.cell 1
  have k2 := hR1.cell 2
  have m0 := hR1.frozen 0
  have m1 := hR1.frozen 1
  have m2 := hR1.frozen 2
  simp only [List.getElem?_cons_zero, List.getElem?_cons_succ] at a0 a1 a2 k0 k1 k2
  have hz1 : w.heap.size + 1 + 1 < w1.heap.size := by omega
  have Hnew := Lib.hid hnew
  have Hsz := Lib.hid hsz
  have Hbel := Lib.hid hbel
  have HR1 := Lib.hid hR1
  have HB1 := Lib.hid hB1
  clear hsz hnew hbel hb h3 hR1 hB1 hA1 hT
  go_wp2_with fail
  obtain ⟨wu, hwu⟩ : ∃ wu, wu = ((w1.setCell ⟨w.heap.size + 1 + 1, 0, none⟩ (.slice (some ⟨w.heap.size + 1 + 1 + 1 + 3, 0, none⟩) y.ty.sizes.length y.ty.sizes.length)).setCell ⟨w.heap.size + 1 + 1, 1, none⟩ (.slice (some ⟨w.heap.size + 1 + 1 + 1 + 4, 0, none⟩) y.ty.cos.length y.ty.cos.length)) := ⟨_, rfl⟩
  have hs1 : wu.heap.size = w.heap.size + 1 + 1 + 1 + 5 + 4 * y.ty.cos.length := by rw [hwu]; simpa [World.setCell] using Hsz.out
  have hb1 : Below w.heap.size w wu := by rw [hwu]; exact (Hbel.out.setCell (by dsimp only; omega) _).setCell (by dsimp only; omega) _
  have hN1 : NewTy wu 3 185 (w.heap.size + 1 + 1 + 1 + 3) y.ty := by
    rw [hwu]
    exact Hnew.out.keep fun k h1 _ => (Below.heap_setCell _ _ _ k (by dsimp only; omega)).trans (Below.heap_setCell _ _ _ k (by dsimp only; omega))
  have hRu : Row wu (w.heap.size + 1 + 1) 36 [.slice (some ⟨w.heap.size + 1 + 1 + 1 + 3, 0, none⟩) y.ty.sizes.length y.ty.sizes.length, .slice (some ⟨w.heap.size + 1 + 1 + 1 + 4, 0, none⟩) y.ty.cos.length y.ty.cos.length, .slice none 0 0] := by rw [hwu]; exact (HR1.out.set_ 0 _).set_ 1 _
  have hBu : Row wu (w.heap.size + 1) 36 [.slice none 0 0, .slice none 0 0, .slice none 0 0] := by rw [hwu]; exact (HB1.out.far (by dsimp only; omega) _).far (by dsimp only; omega) _
  rw [← hwu]
  clear hwu a0 a1 a2 k0 k1 k2 m0 m1 m2
  refine (toFunctionS_any lo hi _ y.fs _ (hfu.below hb1 hB) (by rw [hs1]; omega) hl2 hl3.out).mono ?_
  rintro e w2 ⟨rfl, hb2, hsz2, hnew2⟩
  rw [hs1] at hsz2 hnew2
  have Hb2 := Lib.hid (hb1.trans (hb2.mono (by omega)))
  have Hn2 := Lib.hid (hN1.below hb2 (by omega))
  have Hn3 := Lib.hid hnew2
  have hR2 := hRu.below hb2 (by omega)
  have hR3 := hBu.below hb2 (by omega)
  have k0 := hR2.cell 0
  have k1 := hR2.cell 1
  have k2 := hR2.cell 2
  have m0 := hR2.frozen 0
  have m1 := hR2.frozen 1
  have m2 := hR2.frozen 2
  have e0 := hR3.cell 0
  have e1 := hR3.cell 1
  have e2 := hR3.cell 2
  have f0 := hR3.frozen 0
  have f1 := hR3.frozen 1
  have f2 := hR3.frozen 2
  simp only [List.getElem?_cons_zero, List.getElem?_cons_succ] at k0 k1 k2 e0 e1 e2
  have hz2 : w.heap.size + 1 + 1 < w2.heap.size := by omega
  have Hsz2 := Lib.hid hsz2
  rw [hs1]
  clear hsz2 hnew2 hb2 hb1 hN1 hRu hBu hR2 hR3 hs1 hfu
  go_wp2
  refine bodyPost_ret (v := .agg #[.slice (some ⟨w.heap.size + 1 + 1 + 1 + 3, 0, none⟩) y.ty.sizes.length y.ty.sizes.length, .slice (some ⟨w.heap.size + 1 + 1 + 1 + 4, 0, none⟩) y.ty.cos.length y.ty.cos.length, .slice (some ⟨w.heap.size + 1 + 1 + 1 + 5 + 4 * y.ty.cos.length, 0, none⟩) y.fs.length y.fs.length]) (by simp [results, Tryz.results11, go_sem, e0, e1, e2]) rfl ⟨rfl, ?_, ?_, ?_, ?_⟩
  · exact (((Hb2.out.setCell (by dsimp only; omega) _).setCell (by dsimp only; omega) _).setCell (by dsimp only; omega) _).setCell (by dsimp only; omega) _
  · have := Hsz2.out
    simp only [World.setCell, Array.size_modify]; omega
  · exact Hn2.out.keep fun k h1 _ => (((Below.heap_setCell _ _ _ k (by dsimp only; omega)).trans (Below.heap_setCell _ _ _ k (by dsimp only; omega))).trans (Below.heap_setCell _ _ _ k (by dsimp only; omega))).trans (Below.heap_setCell _ _ _ k (by dsimp only; omega))
  · exact Hn3.out.keep fun k h1 _ => (((Below.heap_setCell _ _ _ k (by dsimp only; omega)).trans (Below.heap_setCell _ _ _ k (by dsimp only; omega))).trans (Below.heap_setCell _ _ _ k (by dsimp only; omega))).trans (Below.heap_setCell _ _ _ k (by dsimp only; omega))
end Go.Proofs.YtnmbjmocnafekaaGreatDoor

namespace Go.Proofs.YtnmbjmocnafekaaGreatDoor
open Go.RowKit


set_option maxHeartbeats 800000 in
theorem eqIntS_same (lo hi lo' hi' : Nat) (v v' : Value) (zs : List Int) (w : World) (hv : IntsAt w lo hi v zs) (hv' : IntsAt w lo' hi' v' zs) (hB : hi ≤ w.heap.size) (hB' : hi' ≤ w.heap.size) :
    Calls Tryz.prog 27 #[v, v'] w fun e w' => e = .returned (.bool true) ∧ Below w.heap.size w w' := by
  obtain ⟨A, cap, rfl, hl, hm, hz⟩ := hv.form
  obtain ⟨A', cap', rfl, hl', hm', hz'⟩ := hv'.form
  unfold maxLen at hm hm'
  have Hz := Lib.hid hz
  have Hz' := Lib.hid hz'
  clear hz hz' hv hv'
  go_enter Tryz.func27, Tryz.ntmps27
  go_wp2
  go_loopw [5] (fun i wr => ∃ k : Nat, k ≤ zs.length ∧ i = .int .i64 k ∧ Below w.heap.size w wr) (fun i _ => zs.length - (intOf i).toNat)
  case atStart => exact ⟨0, Nat.zero_le _, rfl, Below.refl _ _⟩
  case round =>
    obtain ⟨k, hk, rfl, hb⟩ := hrel
    by_cases hlt : k < zs.length
    · obtain ⟨b, off, rfl, _, _, c0, _⟩ := (Hz.out.below hb hB).at_ hlt
      obtain ⟨b', off', rfl, _, _, c0', _⟩ := (Hz'.out.below hb hB').at_ hlt
      have hi1 : (k : Int) < (zs.length : Int) := by omega
      go_wp2
      go_quiet (fail)
      go_wp2
      go_roundw
      case rel => exact ⟨k + 1, by omega, by go_num, below_drewN hb _⟩
      case measure => simp [intOf]; omega
    · obtain rfl : k = zs.length := by omega
      go_wp2
      go_ret
      exact ⟨rfl, hb⟩

set_option maxHeartbeats 800000 in
theorem eqCoercion_same (lo hi lo' hi' : Nat) (x y z x' y' z' : Value) (c : Co) (w : World) (hv : CoAt w lo hi x y z c) (hv' : CoAt w lo' hi' x' y' z' c) (hB : hi ≤ w.heap.size) (hB' : hi' ≤ w.heap.size) :
    Calls Tryz.prog 123 #[.agg #[x, y, z], .agg #[x', y', z']] w fun e w' => e = .returned (.bool true) ∧ Below w.heap.size w w' := by
  obtain ⟨rfl, rfl, _, _, hz⟩ := hv
  obtain ⟨rfl, rfl, _, _, hz'⟩ := hv'
  obtain ⟨A, cap, rfl, _, _, hz⟩ := hz.form
  obtain ⟨A', cap', rfl, _, _, hz'⟩ := hz'.form
  have h3 : Below w.heap.size w ((w.alloc (.cells #[.int .i64 c.src, .int .i64 c.dst, .slice A c.map.length cap] 185)).alloc (.cells #[.int .i64 c.src, .int .i64 c.dst, .slice A' c.map.length cap'] 185)) := by go_grown
  go_enter Tryz.func123, Tryz.ntmps123
  go_wp2_with (go_at_call 27; refine (eqIntS_same lo hi lo' hi' _ _ c.map _ (hz.below h3 hB) (hz'.below h3 hB') (by simp; omega) (by simp; omega)).mono ?_; rintro e w' ⟨rfl, hb⟩)
  go_ret
  exact ⟨rfl, h3.trans (hb.mono (by simp; omega))⟩

set_option maxRecDepth 100000 in
set_option maxHeartbeats 800000 in
theorem eqCoercionS_same (lo hi lo' hi' : Nat) (v v' : Value) (cs : List Co) (w : World) (hv : CosAt w lo hi v cs) (hv' : CosAt w lo' hi' v' cs) (hB : hi ≤ w.heap.size) (hB' : hi' ≤ w.heap.size) :
    Calls Tryz.prog 77 #[v, v'] w fun e w' => e = .returned (.bool true) ∧ Below w.heap.size w w' := by
  obtain ⟨A, cap, rfl, hl, hm, hz⟩ := hv.form
  obtain ⟨A', cap', rfl, hl', hm', hz'⟩ := hv'.form
  unfold maxLen at hm hm'
  have Hz := Lib.hid hz
  have Hz' := Lib.hid hz'
  clear hz hz' hv hv'
  go_enter Tryz.func77, Tryz.ntmps77
  go_wp2
  go_loopw [5] (fun i wr => ∃ k : Nat, k ≤ cs.length ∧ i = .int .i64 k ∧ Below w.heap.size w wr) (fun i _ => cs.length - (intOf i).toNat)
  case atStart => exact ⟨0, Nat.zero_le _, rfl, Below.refl _ _⟩
  case round =>
    obtain ⟨k, hk, rfl, hb⟩ := hrel
    by_cases hlt : k < cs.length
    · obtain ⟨b, off, B2, p2, rfl, _, _, c0, c1, c2, _, _, hs, hd, hq⟩ := (Hz.out.below hb hB).at_ hlt
      obtain ⟨b', off', B2', p2', rfl, _, _, c0', c1', c2', _, _, hs', hd', hq'⟩ := (Hz'.out.below hb hB').at_ hlt
      have hi1 : (k : Int) < (cs.length : Int) := by omega
      have hbs := hb.size
      go_wp2
      go_still_tail 8, (by kernel_rfl)
      change wpList _ _ _ _ _ wr.drew
      have hbd : Below w.heap.size w wr.drew := hb.drew
      go_wp2_with fail
      refine (eqCoercion_same lo hi lo' hi' _ _ _ _ _ _ cs[k] wr.drew ⟨rfl, rfl, hs, hd, hq⟩ ⟨rfl, rfl, hs', hd', hq'⟩ (Nat.le_trans hB hbd.size) (Nat.le_trans hB' hbd.size)).mono ?_
      rintro e w' ⟨rfl, hb2⟩
      go_wp2
      go_roundw
      case rel => exact ⟨k + 1, by omega, by go_num, hbd.trans (hb2.mono hbd.size)⟩
      case measure => simp [intOf]; omega
    · obtain rfl : k = cs.length := by omega
      go_wp2
      go_ret
      exact ⟨rfl, hb⟩

set_option maxHeartbeats 400000 in
theorem eqTypes_same (lo hi lo' hi' : Nat) (s c s' c' : Value) (t : Ty) (w : World) (hv : TyAt w lo hi s c t) (hv' : TyAt w lo' hi' s' c' t) (hB : hi ≤ w.heap.size) (hB' : hi' ≤ w.heap.size) :
    Calls Tryz.prog 41 #[.agg #[s, c], .agg #[s', c']] w fun e w' => e = .returned (.bool true) ∧ Below w.heap.size w w' := by
  obtain ⟨A, cap, rfl, _, _, hz⟩ := hv.1.form
  obtain ⟨A', cap', rfl, _, _, hz'⟩ := hv'.1.form
  obtain ⟨B, bap, rfl, _, _, hc⟩ := hv.2.form
  obtain ⟨B', bap', rfl, _, _, hc'⟩ := hv'.2.form
  clear hv hv'
  have h3 : Below w.heap.size w ((w.alloc (.cells #[.slice A t.sizes.length cap, .slice B t.cos.length bap] 33)).alloc (.cells #[.slice A' t.sizes.length cap', .slice B' t.cos.length bap'] 33)) := by go_grown
  go_enter Tryz.func41, Tryz.ntmps41
  go_wp2_with fail
  refine (eqIntS_same lo hi lo' hi' _ _ t.sizes _ (hz.below h3 hB) (hz'.below h3 hB') (by simp; omega) (by simp; omega)).mono ?_
  rintro e w1 ⟨rfl, hb⟩
  have hbel := h3.trans (hb.mono (by simp; omega))
  obtain ⟨hcl, hfr⟩ := bcell hb
  have hz1 := hb.size
  simp only [World.size_alloc] at hcl hfr hz1
  have Hbel := Lib.hid hbel
  clear hbel hb h3
  have hz2 : w.heap.size + 1 < w1.heap.size := by omega
  go_wp2_with (go_at_call 77; refine (eqCoercionS_same lo hi lo' hi' _ _ t.cos _ (hc.below Hbel.out hB) (hc'.below Hbel.out hB') (by omega) (by omega)).mono ?_; rintro e w' ⟨rfl, hb2⟩)
  go_ret
  exact ⟨rfl, Hbel.out.trans (hb2.mono (by omega))⟩
end Go.Proofs.YtnmbjmocnafekaaGreatDoor

namespace Go.Proofs.YtnmbjmocnafekaaGreatDoor
open Go.RowKit

set_option maxHeartbeats 800000 in
theorem eqFunction_same (lo hi lo' hi' : Nat) (x a r t x' a' r' t' : Value) (f : Fu) (w : World) (hv : FuAt w lo hi x a r t f) (hv' : FuAt w lo' hi' x' a' r' t' f) (hB : hi ≤ w.heap.size) (hB' : hi' ≤ w.heap.size) :
    Calls Tryz.prog 78 #[.agg #[x, a, r, t], .agg #[x', a', r', t']] w fun e w' => e = .returned (.bool true) ∧ Below w.heap.size w w' := by
  obtain ⟨rfl, rfl, _, _, ha, ht⟩ := hv
  obtain ⟨rfl, rfl, _, _, ha', ht'⟩ := hv'
  obtain ⟨A, cap, rfl, _, _, ha⟩ := ha.form
  obtain ⟨A', cap', rfl, _, _, ha'⟩ := ha'.form
  obtain ⟨B, bap, rfl, _, _, ht⟩ := ht.form
  obtain ⟨B', bap', rfl, _, _, ht'⟩ := ht'.form
  have h3 : Below w.heap.size w ((w.alloc (.cells #[.string f.name, .slice A f.args.length cap, .int .i64 f.res, .slice B f.table.length bap] 111)).alloc (.cells #[.string f.name, .slice A' f.args.length cap', .int .i64 f.res, .slice B' f.table.length bap'] 111)) := by go_grown
  go_enter Tryz.func78, Tryz.ntmps78
  go_wp2_with fail
  refine (eqIntS_same lo hi lo' hi' _ _ f.args _ (ha.below h3 hB) (ha'.below h3 hB') (by simp; omega) (by simp; omega)).mono ?_
  rintro e w1 ⟨rfl, hb⟩
  have hbel := h3.trans (hb.mono (by simp; omega))
  obtain ⟨hcl, hfr⟩ := bcell hb
  have hz1 := hb.size
  simp only [World.size_alloc] at hcl hfr hz1
  have Hbel := Lib.hid hbel
  clear hbel hb h3
  have hz2 : w.heap.size + 1 < w1.heap.size := by omega
  go_wp2_with (go_at_call 27; refine (eqIntS_same lo hi lo' hi' _ _ f.table _ (ht.below Hbel.out hB) (ht'.below Hbel.out hB') (by omega) (by omega)).mono ?_; rintro e w' ⟨rfl, hb2⟩)
  go_ret
  exact ⟨rfl, Hbel.out.trans (hb2.mono (by omega))⟩

set_option maxRecDepth 100000 in
set_option maxHeartbeats 800000 in
theorem eqFunctionS_same (lo hi lo' hi' : Nat) (v v' : Value) (fs : List Fu) (w : World) (hv : FusAt w lo hi v fs) (hv' : FusAt w lo' hi' v' fs) (hB : hi ≤ w.heap.size) (hB' : hi' ≤ w.heap.size) :
    Calls Tryz.prog 42 #[v, v'] w fun e w' => e = .returned (.bool true) ∧ Below w.heap.size w w' := by
  obtain ⟨A, cap, rfl, hl, hm, hz⟩ := hv.form
  obtain ⟨A', cap', rfl, hl', hm', hz'⟩ := hv'.form
  unfold maxLen at hm hm'
  have Hz := Lib.hid hz
  have Hz' := Lib.hid hz'
  clear hz hz' hv hv'
  go_enter Tryz.func42, Tryz.ntmps42
  go_wp2
  go_loopw [5] (fun i wr => ∃ k : Nat, k ≤ fs.length ∧ i = .int .i64 k ∧ Below w.heap.size w wr) (fun i _ => fs.length - (intOf i).toNat)
  case atStart => exact ⟨0, Nat.zero_le _, rfl, Below.refl _ _⟩
  case round =>
    obtain ⟨k, hk, rfl, hb⟩ := hrel
    by_cases hlt : k < fs.length
    · obtain ⟨b, off, B1, p1, B2, p2, rfl, _, _, c0, c1, c2, c3, _, _, _, _, hq⟩ := (Hz.out.below hb hB).at_ hlt
      obtain ⟨b', off', B1', p1', B2', p2', rfl, _, _, c0', c1', c2', c3', _, _, _, _, hq'⟩ := (Hz'.out.below hb hB').at_ hlt
      have hi1 : (k : Int) < (fs.length : Int) := by omega
      have hbs := hb.size
      go_wp2
      go_still_tail 8, (by kernel_rfl)
      change wpList _ _ _ _ _ wr.drew
      have hbd : Below w.heap.size w wr.drew := hb.drew
      go_wp2_with fail
      refine (eqFunction_same lo hi lo' hi' _ _ _ _ _ _ _ _ fs[k] wr.drew hq hq' (Nat.le_trans hB hbd.size) (Nat.le_trans hB' hbd.size)).mono ?_
      rintro e w' ⟨rfl, hb2⟩
      go_wp2
      go_roundw
      case rel => exact ⟨k + 1, by omega, by go_num, hbd.trans (hb2.mono hbd.size)⟩
      case measure => simp [intOf]; omega
    · obtain rfl : k = fs.length := by omega
      go_wp2
      go_ret
      exact ⟨rfl, hb⟩

set_option maxHeartbeats 400000 in
theorem eqSystem_same (lo hi lo' hi' : Nat) (s c v s' c' v' : Value) (y : Sy) (w : World) (hv : SyAt w lo hi s c v y) (hv' : SyAt w lo' hi' s' c' v' y) (hB : hi ≤ w.heap.size) (hB' : hi' ≤ w.heap.size) :
    Calls Tryz.prog 13 #[.agg #[s, c, v], .agg #[s', c', v']] w fun e w' => e = .returned (.bool true) ∧ Below w.heap.size w w' := by
  obtain ⟨hty, hf⟩ := hv
  obtain ⟨hty', hf'⟩ := hv'
  obtain ⟨A, cap, rfl, _, _, hz⟩ := hty.1.form
  obtain ⟨A', cap', rfl, _, _, hz'⟩ := hty'.1.form
  obtain ⟨B, bap, rfl, _, _, hc⟩ := hty.2.form
  obtain ⟨B', bap', rfl, _, _, hc'⟩ := hty'.2.form
  obtain ⟨C, dap, rfl, _, _, hf⟩ := hf.form
  obtain ⟨C', dap', rfl, _, _, hf'⟩ := hf'.form
  have hT : TyAt w lo hi (.slice A y.ty.sizes.length cap) (.slice B y.ty.cos.length bap) y.ty := ⟨hz, hc⟩
  have hT' : TyAt w lo' hi' (.slice A' y.ty.sizes.length cap') (.slice B' y.ty.cos.length bap') y.ty := ⟨hz', hc'⟩
  clear hty hty' hz hz' hc hc'
  have h3 : Below w.heap.size w ((w.alloc (.cells #[.slice A y.ty.sizes.length cap, .slice B y.ty.cos.length bap, .slice C y.fs.length dap] 36)).alloc (.cells #[.slice A' y.ty.sizes.length cap', .slice B' y.ty.cos.length bap', .slice C' y.fs.length dap'] 36)) := by go_grown
  go_enter Tryz.func13, Tryz.ntmps13
  go_wp2_with fail
  refine (eqTypes_same lo hi lo' hi' _ _ _ _ y.ty _ (hT.below h3 hB) (hT'.below h3 hB') (by simp; omega) (by simp; omega)).mono ?_
  rintro e w1 ⟨rfl, hb⟩
  have hbel := h3.trans (hb.mono (by simp; omega))
  obtain ⟨hcl, hfr⟩ := bcell hb
  have hz1 := hb.size
  simp only [World.size_alloc] at hcl hfr hz1
  have Hbel := Lib.hid hbel
  clear hbel hb h3
  have hz2 : w.heap.size + 1 < w1.heap.size := by omega
  go_wp2_with (go_at_call 42; refine (eqFunctionS_same lo hi lo' hi' _ _ y.fs _ (hf.below Hbel.out hB) (hf'.below Hbel.out hB') (by omega) (by omega)).mono ?_; rintro e w' ⟨rfl, hb2⟩)
  go_ret
  exact ⟨rfl, Hbel.out.trans (hb2.mono (by omega))⟩
end Go.Proofs.YtnmbjmocnafekaaGreatDoor

