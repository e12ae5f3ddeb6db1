/-
  The contract of the program's GapOf.
-/
import Derived.Test.YtnmbjmocnafekaaGreatDoorQfigf
import Derived.Test.YtnmbjmocnafekaaGreatDoorQas
namespace Go.Proofs.YtnmbjmocnafekaaGreatDoor
open Go.RowKit

set_option maxRecDepth 100000 in
set_option maxHeartbeats 1000000 in
theorem faultOfF_any (lo hi n : Nat) (sv cv fv : Value) (y : Sy) (hbk : y.bulk ≤ 1048576) (a0 a1 ai : Addr) (w : World) (hv : SyAt w lo hi sv cv fv y) (hB : hi ≤ w.heap.size) (hE : Errs w n a0 a1) (hnw : n ≤ w.heap.size) (hgi : 0 < n) (hci : w.cell? ⟨0, 0, none⟩ = some (.iface 314 (.pointer (some ai)))) :
    Calls Tryz.prog 39 #[.agg #[sv, cv, fv], .func (.func 40) #[] #[]] w fun e w' => (gapP y = none ∧ (e = .returned .nilIface ∨ e = .returned (.iface 314 (.pointer (some ai)))) ∨ ∃ p v, gapP y = some p ∧ e = .returned (.iface 76 (.agg #[.string (str p.1), v])) ∧ w'.ownsRow w.heap.size 3 1 v p.2.length (p.2.map (Value.int .i64)) ∧ ∀ z ∈ p.2, I64 z) ∧ Below w.heap.size w w' := by
  obtain ⟨A1, cap1, rfl, _, _, _⟩ := hv.1.1.form
  obtain ⟨A2, cap2, rfl, _, _, _⟩ := hv.1.2.form
  obtain ⟨A3, cap3, rfl, _, _, _⟩ := hv.2.form
  obtain ⟨W1, hW1⟩ : ∃ u, u = w.alloc (.cells #[.slice A1 y.ty.sizes.length cap1, .slice A2 y.ty.cos.length cap2, .slice A3 y.fs.length cap3] 36) := ⟨_, rfl⟩
  have hb1 : Below w.heap.size w W1 := by rw [hW1]; exact (Below.refl _ _).alloc (Nat.le_refl _) _
  have r1 : Row W1 w.heap.size 36 [.slice A1 y.ty.sizes.length cap1, .slice A2 y.ty.cos.length cap2, .slice A3 y.fs.length cap3] := by rw [hW1]; exact Row.new _ _ _
  have hs1 := hb1.size
  have HS := Lib.hid (implSysValid_any lo hi _ _ _ y W1 (hv.below hb1 hB) (by omega))
  have HV := Lib.hid hv
  have HE := Lib.hid hE
  have HB1 := Lib.hid hb1
  have HR1 := Lib.hid r1
  have HCI := Lib.hid hci
  have p0 := r1.cell 0
  have p1 := r1.cell 1
  have p2 := r1.cell 2
  simp only [List.getElem?_cons_zero, List.getElem?_cons_succ] at p0 p1 p2
  rw [hW1] at p0 p1 p2
  clear hv hb1 r1 hE hci
  go_enter Tryz.func39, Tryz.ntmps39
  go_wp2_with fail
  rw [← hW1]
  refine HS.out.mono ?_
  clear hW1 HS p0 p1 p2
  rintro e w2 ⟨rfl, hb2⟩
  have hs2 := hb2.size
  have hwb : Below w.heap.size w w2 := HB1.out.trans (hb2.mono hs1)
  have HB2 := Lib.hid hwb
  have hr2 := HR1.out.below hb2 HR1.out.lt
  have p0 := hr2.cell 0
  have p1 := hr2.cell 1
  have p2 := hr2.cell 2
  simp only [List.getElem?_cons_zero, List.getElem?_cons_succ] at p0 p1 p2
  have g0 : w2.cell? ⟨0, 0, none⟩ = some (.iface 314 (.pointer (some ai))) := (World.cell?_of_block (w := w) (hwb.block _ (by show 0 < w.heap.size; omega))).trans HCI.out
  clear hb2 hwb hr2
  cases hs : syB y with
  | false =>
    have HIR : Hid (gapP y = none) := by show _ = _; unfold gapP; rw [hs]; rfl
    go_wp2
    go_ret
    exact ⟨.inl ⟨HIR.out, .inr rfl⟩, HB2.out⟩
  | true =>
    have hyok := syB_iff.1 hs
    have HFG := Lib.hid (firstGapF_any lo hi n _ _ _ y hyok hbk a0 a1 w2 (HV.out.below HB2.out hB) (by have := HB2.out.size; omega) (HE.out.below HB2.out hnw) (by have := HB2.out.size; omega))
    have HSB := Lib.hid hs
    go_wp2_with fail
    refine HFG.out.mono ?_
    clear HFG p0 p1 p2 g0
    rintro e w3 ⟨⟨rfl, hg⟩ | ⟨s, p, t, v, h1, h2, h3, rfl, ho, h6⟩, hb3⟩
    · have HB3 : Hid (Below w.heap.size w w3) := HB2.out.trans (hb3.mono HB2.out.size)
      have HG := Lib.hid (gapP_none hg)
      clear hg hb3
      go_wp2
      go_ret
      exact ⟨.inl ⟨HG.out, .inl rfl⟩, HB3.out⟩
    · have HB3 : Hid (Below w.heap.size w w3) := HB2.out.trans (hb3.mono HB2.out.size)
      have HG := Lib.hid (gapP_some HSB.out h1 h2 h3)
      have HO := Lib.hid (ownsRow_lower ho HB2.out.size)
      have H6 := Lib.hid h6
      clear h1 h2 h3 ho h6 hb3
      go_wp2
      go_ret
      exact ⟨.inr ⟨p, v, HG.out, rfl, HO.out, H6.out⟩, HB3.out⟩

theorem asW_below (w : World) (t : Nat) (x y : Value) : Below w.heap.size w (asW w t x y) := by
  unfold asW
  exact (((((Below.refl _ _).alloc (Nat.le_refl _) _).alloc (by simp) _).alloc (by simp; omega) _).alloc (by simp; omega) _)
theorem asW0_below (w : World) (t : Nat) : Below w.heap.size w (asW0 w t) := by
  unfold asW0
  exact ((((Below.refl _ _).alloc (Nat.le_refl _) _).alloc (by simp) _).alloc (by simp; omega) _)

set_option maxRecDepth 100000 in
set_option maxHeartbeats 2000000 in
theorem implGapOf_any (lo hi n : Nat) (sv cv fv : Value) (y : Sy) (hbk : y.bulk ≤ 1048576) (a0 a1 ai : Addr) (w : World) (hv : SyAt w lo hi sv cv fv y) (hB : hi ≤ w.heap.size) (hE : Errs w n a0 a1) (hnw : n ≤ w.heap.size) (hgi : 0 < n) (hci : w.cell? ⟨0, 0, none⟩ = some (.iface 314 (.pointer (some ai)))) (hgt : 1 < n) (hct : w.cell? ⟨1, 0, none⟩ = some (.iface 210 (.agg #[.pointer (some ⟨11, 65, none⟩)]))) :
    Calls Tryz.prog 15 #[.agg #[sv, cv, fv]] w fun e w' => ∃ v, e = .returned (.tuple #[.agg #[.string (gapN (gapP y)), v], .bool (gapP y).isSome]) ∧ Below w.heap.size w w' ∧ w'.ownsRow w.heap.size 3 1 v (gapK (gapP y)).length ((gapK (gapP y)).map (Value.int .i64)) ∧ ∀ z ∈ gapK (gapP y), I64 z := by
  obtain ⟨A1, cap1, rfl, _, _, _⟩ := hv.1.1.form
  obtain ⟨A2, cap2, rfl, _, _, _⟩ := hv.1.2.form
  obtain ⟨A3, cap3, rfl, _, _, _⟩ := hv.2.form
  obtain ⟨W1, hW1⟩ : ∃ u, u = ((w.alloc (.cells #[.slice A1 y.ty.sizes.length cap1, .slice A2 y.ty.cos.length cap2, .slice A3 y.fs.length cap3] 36)).alloc (.cells #[.string ⟨#[]⟩, .slice none 0 0] 41)).alloc (.cells #[.string ⟨#[]⟩, .slice none 0 0] 76) := ⟨_, rfl⟩
  have h1s : W1.heap.size = w.heap.size + 3 := by rw [hW1]; simp
  have hb1 : Below w.heap.size w W1 := by rw [hW1]; exact (((Below.refl _ _).alloc (Nat.le_refl _) _).alloc (by simp) _).alloc (by simp; omega) _
  have r1 : Row W1 w.heap.size 36 [.slice A1 y.ty.sizes.length cap1, .slice A2 y.ty.cos.length cap2, .slice A3 y.fs.length cap3] := by rw [hW1]; exact ((Row.new _ _ _).alloc _).alloc _
  have rg1 : Row W1 (w.heap.size + 1) 41 [.string ⟨#[]⟩, .slice none 0 0] := by
    rw [hW1]
    have h := Row.new (w.alloc (.cells #[.slice A1 y.ty.sizes.length cap1, .slice A2 y.ty.cos.length cap2, .slice A3 y.fs.length cap3] 36)) 41 [.string ⟨#[]⟩, .slice none 0 0]
    rw [World.size_alloc] at h
    exact h.alloc _
  have rf1 : Row W1 (w.heap.size + 2) 76 [.string ⟨#[]⟩, .slice none 0 0] := by
    rw [hW1]
    have h := Row.new ((w.alloc (.cells #[.slice A1 y.ty.sizes.length cap1, .slice A2 y.ty.cos.length cap2, .slice A3 y.fs.length cap3] 36)).alloc (.cells #[.string ⟨#[]⟩, .slice none 0 0] 41)) 76 [.string ⟨#[]⟩, .slice none 0 0]
    rw [World.size_alloc, World.size_alloc] at h
    exact h
  have hgic : W1.cell? ⟨0, 0, none⟩ = some (.iface 314 (.pointer (some ai))) := (World.cell?_of_block (w := w) (hb1.block _ (by show 0 < w.heap.size; omega))).trans hci
  have hgtc : W1.cell? ⟨1, 0, none⟩ = some (.iface 210 (.agg #[.pointer (some ⟨11, 65, none⟩)])) := (World.cell?_of_block (w := w) (hb1.block _ (by show 1 < w.heap.size; omega))).trans hct
  have HF := Lib.hid (faultOfF_any lo hi n _ _ _ y hbk a0 a1 ai W1 (hv.below hb1 hB) (by omega) (hE.below hb1 hnw) (by omega) hgi hgic)
  have HB1 := Lib.hid hb1
  have HG1 := Lib.hid rg1
  have HF1 := Lib.hid rf1
  have HGT := Lib.hid hgtc
  have p0 := r1.cell 0
  have p1 := r1.cell 1
  have p2 := r1.cell 2
  simp only [List.getElem?_cons_zero, List.getElem?_cons_succ] at p0 p1 p2
  rw [hW1] at p0 p1 p2
  clear hv hb1 r1 hE hci rg1 rf1 hgtc hgic hct
  go_enter Tryz.func15, Tryz.ntmps15
  go_wp2_with fail
  rw [← hW1]
  refine HF.out.mono ?_
  clear hW1 HF p0 p1 p2
  rintro e w2 ⟨⟨hg, hc⟩ | ⟨p, v, hg, rfl, ho, h6⟩, hb2⟩
  · have HG := Lib.hid hg
    have HB2 : Hid (Below w.heap.size w w2) := HB1.out.trans (hb2.mono (by omega))
    have hs2 := hb2.size
    have hgl : 1 < w2.heap.size := by show 1 < w2.heap.size; omega
    have HGT2 : Hid (w2.cell? ⟨1, 0, none⟩ = some (.iface 210 (.agg #[.pointer (some ⟨11, 65, none⟩)]))) := (World.cell?_of_block (w := W1) (hb2.block _ (by show 1 < W1.heap.size; omega))).trans HGT.out
    have hAs : Hid (∃ u, Below w2.heap.size w2 u ∧ ∀ e0, e0 = Value.nilIface ∨ e0 = Value.iface 314 (.pointer (some ai)) → True) := ⟨w2, Below.refl _ _, fun _ _ => trivial⟩
    have hrg := HG1.out.below hb2 (by omega)
    have hrf := HF1.out.below hb2 (by omega)
    have HGR := Lib.hid hrg
    have HFR := Lib.hid hrf
    clear hg hb2 hAs hrg hrf
    have hcall : ∀ e0, e0 = Value.nilIface ∨ e0 = Value.iface 314 (.pointer (some ai)) → Calls Tryz.prog 45 #[e0, .iface 78 (.pointer (some ⟨w.heap.size + 2, 0, none⟩))] w2 fun e w' => e = .returned (.bool false) ∧ Below w2.heap.size w2 w' := by
      rintro e0 (rfl | rfl)
      · exact (asG_nil _ w2).mono fun e w' ⟨h1, h2⟩ => ⟨h1, by rw [h2]; exact Below.refl _ _⟩
      · exact (asG_miss (w.heap.size + 2) _ w2 HGT2.out hgl).mono fun e w' ⟨h1, h2⟩ => ⟨h1, by rw [h2]; exact asW0_below _ _⟩
    obtain ⟨e0, he0, rfl⟩ : ∃ e0, (e0 = Value.nilIface ∨ e0 = Value.iface 314 (.pointer (some ai))) ∧ e = .returned e0 := by
      rcases hc with h | h
      · exact ⟨_, .inl rfl, h⟩
      · exact ⟨_, .inr rfl, h⟩
    have HCA := Lib.hid (hcall e0 he0)
    clear hcall hc he0
    go_wp2_with fail
    refine HCA.out.mono ?_
    clear HCA
    rintro e w3 ⟨rfl, hb3⟩
    have hs3 := hb3.size
    have hrf := HFR.out.below hb3 (by omega)
    have hrg := HGR.out.below hb3 (by omega)
    have c0 := hrf.cell 0
    have c1 := hrf.cell 1
    have g0 := hrg.cell 0
    have f0 := hrg.frozen 0
    have hrg2 := hrg.set_ 0 (.string ⟨#[]⟩)
    have g1 := hrg2.cell 1
    have f1 := hrg2.frozen 1
    have hrg3 := hrg2.set_ 1 (.slice none 0 0)
    have HRG := Lib.hid hrg3
    have HBZ : Hid (Below w.heap.size w ((w3.setCell ⟨w.heap.size + 1, 0, none⟩ (.string ⟨#[]⟩)).setCell ⟨w.heap.size + 1, 1, none⟩ (.slice none 0 0))) := ((HB2.out.trans (hb3.mono (by omega))).setCell (by dsimp only; omega) _).setCell (by dsimp only; omega) _
    simp only [List.getElem?_cons_zero, List.getElem?_cons_succ, List.set_cons_zero] at c0 c1 g0 g1
    clear hb3 hrf hrg hrg2 hrg3
    go_wp2
    try rw [Exit.noGoto_ret]
    have r0 := HRG.out.cell 0
    have r1 := HRG.out.cell 1
    simp only [List.getElem?_cons_zero, List.getElem?_cons_succ, List.set_cons_zero, List.set_cons_succ] at r0 r1
    refine bodyPost_ret (v := .tuple #[.agg #[.string ⟨#[]⟩, .slice none 0 0], .bool false]) (by simp [results, Tryz.results15, go_sem, r0, r1]) rfl ?_
    refine ⟨.slice none 0 0, by rw [HG.out]; rfl, HBZ.out, ?_, ?_⟩
    · rw [HG.out]
      exact World.ownsRow_nil _ _ _ _
    · rw [HG.out]
      intro z hz
      cases hz
  · have HG := Lib.hid hg
    have HB2 : Hid (Below w.heap.size w w2) := HB1.out.trans (hb2.mono (by omega))
    have hs2 := hb2.size
    have HO := Lib.hid ho
    have H6 := Lib.hid h6
    have hgl : 1 < w2.heap.size := by show 1 < w2.heap.size; omega
    have hgt2 : w2.cell? ⟨1, 0, none⟩ = some (.iface 210 (.agg #[.pointer (some ⟨11, 65, none⟩)])) := (World.cell?_of_block (w := W1) (hb2.block _ (by show 1 < W1.heap.size; omega))).trans HGT.out
    have hrg := HG1.out.below hb2 (by omega)
    have hrf := HF1.out.below hb2 (by omega)
    obtain ⟨PA, PC, rfl⟩ := owns_form ho
    have c0 := hrf.cell 0
    have c1 := hrf.cell 1
    simp only [List.getElem?_cons_zero, List.getElem?_cons_succ] at c0 c1
    have HCA := Lib.hid (asG_hit (w.heap.size + 2) (.string (str p.1)) (.slice PA p.2.length PC) _ _ w2 rfl rfl hgt2 hgl (by omega) c0 c1 (hrf.frozen 0) (hrf.frozen 1))
    obtain ⟨u, hu⟩ : ∃ u, u = ((asW w2 (w.heap.size + 2) (.string (str p.1)) (.slice PA p.2.length PC)).setCell ⟨w.heap.size + 2, 0, none⟩ (.string (str p.1))).setCell ⟨w.heap.size + 2, 1, none⟩ (.slice PA p.2.length PC) := ⟨_, rfl⟩
    have hba := asW_below w2 (w.heap.size + 2) (.string (str p.1)) (.slice PA p.2.length PC)
    have hru := ((hrf.below hba (by omega)).set_ 0 (.string (str p.1))).set_ 1 (.slice PA p.2.length PC)
    have hgu : Row u (w.heap.size + 1) 41 [.string ⟨#[]⟩, .slice none 0 0] := by
      rw [hu]
      exact (hrg.below hba (by omega)).keep ((Below.heap_setCell _ _ _ _ (fun e => by have e' : w.heap.size + 1 = w.heap.size + 2 := e; omega)).trans (Below.heap_setCell _ _ _ _ (fun e => by have e' : w.heap.size + 1 = w.heap.size + 2 := e; omega)))
    rw [← hu] at hru HCA
    have hbu : Below w.heap.size w u := by
      rw [hu]
      exact ((HB2.out.trans (hba.mono (by omega))).setCell (by dsimp only; omega) _).setCell (by dsimp only; omega) _
    have hou : u.ownsRow W1.heap.size 3 1 (.slice PA p.2.length PC) p.2.length (p.2.map (Value.int .i64)) := by
      refine ownsRow_keep1 ho fun g hg9 => ?_
      have h9 := owns_lt ho g hg9
      rw [hu]
      exact (Below.heap_setCell _ _ _ _ (fun e => by have e' : g = w.heap.size + 2 := e; omega)).trans ((Below.heap_setCell _ _ _ _ (fun e => by have e' : g = w.heap.size + 2 := e; omega)).trans (hba.block g h9.2))
    have HRU := Lib.hid hru
    have HGU := Lib.hid hgu
    have HBU := Lib.hid hbu
    have HOU := Lib.hid hou
    clear hg hb2 ho h6 hgt2 hrg hrf c0 c1 hba hru hgu hbu hou hu
    go_wp2_with fail
    refine HCA.out.mono ?_
    clear HCA
    rintro e w3 ⟨rfl, hw3⟩
    obtain rfl : w3 = u := hw3
    have hrf := HRU.out
    have hrg := HGU.out
    have c0 := hrf.cell 0
    have c1 := hrf.cell 1
    have g0 := hrg.cell 0
    have f0 := hrg.frozen 0
    have hrg2 := hrg.set_ 0 (.string (str p.1))
    have g1 := hrg2.cell 1
    have f1 := hrg2.frozen 1
    have hrg3 := hrg2.set_ 1 (.slice PA p.2.length PC)
    have HRG := Lib.hid hrg3
    have hus := HBU.out.size
    have HBZ : Hid (Below w.heap.size w ((w3.setCell ⟨w.heap.size + 1, 0, none⟩ (.string (str p.1))).setCell ⟨w.heap.size + 1, 1, none⟩ (.slice PA p.2.length PC))) := (HBU.out.setCell (by dsimp only; omega) _).setCell (by dsimp only; omega) _
    have HOZ : Hid (((w3.setCell ⟨w.heap.size + 1, 0, none⟩ (.string (str p.1))).setCell ⟨w.heap.size + 1, 1, none⟩ (.slice PA p.2.length PC)).ownsRow w.heap.size 3 1 (.slice PA p.2.length PC) p.2.length (p.2.map (Value.int .i64))) := by
      show World.ownsRow _ _ _ _ _ _ _
      exact ownsRow_lower (ownsRow_setCell_below (ownsRow_setCell_below HOU.out (by dsimp only; omega) _) (by dsimp only; omega) _) (by omega)
    simp only [List.getElem?_cons_zero, List.getElem?_cons_succ, List.set_cons_zero, List.set_cons_succ] at c0 c1 g0 g1
    clear hrf hrg hrg2 hrg3
    go_wp2
    try rw [Exit.noGoto_ret]
    have r0 := HRG.out.cell 0
    have r1 := HRG.out.cell 1
    simp only [List.getElem?_cons_zero, List.getElem?_cons_succ, List.set_cons_zero, List.set_cons_succ] at r0 r1
    refine bodyPost_ret (v := .tuple #[.agg #[.string (str p.1), .slice PA p.2.length PC], .bool true]) (by simp [results, Tryz.results15, go_sem, r0, r1]) rfl ?_
    refine ⟨.slice PA p.2.length PC, by rw [HG.out]; rfl, HBZ.out, ?_, ?_⟩
    · rw [HG.out]
      exact HOZ.out
    · rw [HG.out]
      exact H6.out
end Go.Proofs.YtnmbjmocnafekaaGreatDoor

