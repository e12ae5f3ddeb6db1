/-
  The contracts of the functions that copy an argument into new memory.
-/
import Derived.Test.YthldlbbkbbgdkaaDoorRows
import Derived.Test.YthldlbbkbbgdkaaDoorMem
import Derived.Outline
import Derived.Handy
import Derived.Deep.OwnRows
namespace Go.Proofs.YthldlbbkbbgdkaaDoor
open Go.RowKit

theorem Tryd.infoInt : (Tryd.prog.info? 3).map (fun i => (i.zero, i.size, i.bytes)) = some (some (.int .i64 0), 1, 8) := by kernel_rfl

set_option maxHeartbeats 400000 in
theorem toIntS_any (lo hi : Nat) (v : Value) (zs : List Int) (w : World) (hv : IntsAt w lo hi v zs) (hB : hi ≤ w.heap.size) (hlen : zs.length ≤ 1048576) :
    Calls Tryd.prog 8 #[v] w fun e w' => e = .returned (.slice (some ⟨w.heap.size, 0, none⟩) zs.length zs.length) ∧ Below w.heap.size w w' ∧ w'.heap.size = w.heap.size + 1 ∧ Row w' w.heap.size 3 (zs.map (Value.int .i64)) := by
  obtain ⟨A, cap, rfl, hl, hm, hw, hc⟩ := hv
  unfold maxLen at hm
  have hmk := fun wx => run_make_row' (P := Tryd.prog) 22 3 (.int .i64 0) 8 Tryd.underlying22 Tryd.infoInt rfl .i64 .i64 zs.length (by omega) (by omega) wx
  rw [madeCells_one] at hmk
  have hc' := Lib.hid hc
  clear hc
  go_enter Tryd.func8, Tryd.ntmps8
  go_wp2
  go_loopw [4] (fun i wr => ∃ k : Nat, k ≤ zs.length ∧ i = .int .i64 k ∧ Below w.heap.size w wr ∧ wr.heap.size = w.heap.size + 1 ∧ Row wr w.heap.size 3 ((zs.take k).map (Value.int .i64) ++ List.replicate (zs.length - k) (.int .i64 0))) (fun i _ => zs.length - (intOf i).toNat)
  case atStart => exact ⟨0, Nat.zero_le _, rfl, (Below.refl _ _).alloc (Nat.le_refl _) _, by simp, by rw [fill_zero]; exact Row.new _ _ _⟩
  case round =>
    obtain ⟨k, hk, rfl, hb, hsz, hrow⟩ := hrel
    by_cases hlt : k < zs.length
    · obtain ⟨b, off, rfl, hlo, hhi, hcell⟩ := hc'.out (by omega)
      have c0 := (hb.cell (p := ⟨b, off + k, none⟩) (by simp; omega)).trans (hcell k hlt)
      have c1 := hrow.cell_some (i := k) (by rw [fill_len _ _ _ _ hk]; exact hlt)
      have f1 := hrow.frozen k
      have hset := hrow.set_ k (.int .i64 zs[k])
      rw [fill_step _ _ _ _ hlt] at hset
      generalize ((zs.take k).map (Value.int .i64) ++ List.replicate (zs.length - k) (.int .i64 0))[k]'(by rw [fill_len _ _ _ _ hk]; exact hlt) = u at c1
      have H := Lib.hid hset
      clear hset hrow hcell hc'
      go_wp2
      go_roundw
      case rel => exact ⟨k + 1, by omega, by go_num, hb.setCell (Nat.le_refl _) _, by simpa [World.setCell] using hsz, H.out⟩
      case measure => simp [intOf]; omega
    · obtain rfl : k = zs.length := by omega
      rw [fill_all] at hrow
      have H := Lib.hid hrow
      clear hrow hc'
      go_wp2
      go_ret
      exact ⟨rfl, hb, hsz, H.out⟩

set_option maxHeartbeats 400000 in
theorem toCoercion_any (lo hi : Nat) (x y z : Value) (c : Co) (w : World) (hv : CoAt w lo hi x y z c) (hB : hi ≤ w.heap.size) (hlen : c.map.length ≤ 1048576) :
    Calls Tryd.prog 68 #[.agg #[x, y, z]] w fun e w' => e = .returned (.agg #[.int .i64 c.src, .int .i64 c.dst, .slice (some ⟨w.heap.size + 3, 0, none⟩) c.map.length c.map.length]) ∧
      Below w.heap.size w w' ∧ w'.heap.size = w.heap.size + 4 ∧ Row w' (w.heap.size + 3) 3 (c.map.map (Value.int .i64)) := by
  obtain ⟨rfl, rfl, hs, hd, hz⟩ := hv
  obtain ⟨A, cap, rfl, _, _, hz⟩ := hz.form
  go_enter Tryd.func68, Tryd.ntmps68
  have h3 : Below w.heap.size w (((w.alloc (.cells #[.int .i64 c.src, .int .i64 c.dst, .slice A c.map.length cap] 110)).alloc (.cells #[.int .i64 0, .int .i64 0, .slice none 0 0] 116)).alloc (.cells #[.int .i64 c.src, .int .i64 c.dst, .slice none 0 0] 116)) := by go_grown
  go_wp2_with fail
  refine (toIntS_any lo hi _ c.map _ (hz.below h3 hB) (by simp; omega) hlen).mono ?_
  rintro e w1 ⟨rfl, hb, hsz, hrow⟩
  have hbel := h3.trans (hb.mono (by simp; omega))
  obtain ⟨hcl, hfr⟩ := bcell hb
  simp only [World.size_alloc] at hsz hrow hcl hfr
  have hz1 : w.heap.size + 1 + 1 < w1.heap.size := by omega
  have Hrow := Lib.hid hrow
  have Hsz := Lib.hid hsz
  clear hsz hrow
  go_wp2
  refine bodyPost_ret (v := .agg #[.int .i64 c.src, .int .i64 c.dst, .slice (some ⟨w.heap.size + 1 + 1 + 1, 0, none⟩) c.map.length c.map.length]) (by simp [results, Tryd.results68, go_sem, hcl]) rfl ⟨rfl, ?_, ?_, ?_⟩
  · exact (((hbel.setCell (by dsimp only; omega) _).setCell (by dsimp only; omega) _).setCell (by dsimp only; omega) _).setCell (by dsimp only; omega) _
  · simpa [World.setCell] using Hsz.out
  · exact (((Hrow.out.far (by dsimp only; omega) _).far (by dsimp only; omega) _).far (by dsimp only; omega) _).far (by dsimp only; omega) _

theorem infoCoercion : (Tryd.prog.info? 116).map (fun i => (i.zero, i.size, i.bytes)) = some (some (.agg #[.int .i64 0, .int .i64 0, .slice none 0 0]), 3, 40) := by kernel_rfl

theorem run_make_rows {P : Program} (t e : TypeId) (i : TypeInfo) (z : Value) (ht : P.underlying t = some (.slice e)) (hi : P.info? e = some i) (hz : i.zero = some z)
    (kl kc : IntKind) (n : Nat) (hbytes : i.bytes * n ≤ 281474976710656) (h63 : n ≤ 9223372036854775807) (w : World) :
    (Instr.makeSlice t (.int kl (n : Int)) (.int kc (n : Int))).run P w = .ok (.slice (some ⟨w.heap.size, 0, none⟩) n n) (w.alloc (.cells (madeCells z.cells (n * i.size)) e)) := by
  have hb : (i.bytes : Int) * (n : Int) ≤ 281474976710656 := by
    have h : ((i.bytes * n : Nat) : Int) ≤ 281474976710656 := by omega
    rwa [Int.natCast_mul] at h
  have hr := run_make (P := P) w t e i z ht hi hz kl kc n n (by omega) (by omega) hb (by omega)
  simp only [Int.toNat_natCast] at hr
  exact hr

set_option maxHeartbeats 800000 in
theorem toCoercionS_any (lo hi : Nat) (v : Value) (cs : List Co) (w : World) (hv : CosAt w lo hi v cs) (hB : hi ≤ w.heap.size) (hlen : cs.length ≤ 1048576) (hmaps : ∀ j, ∀ (hj : j < cs.length), cs[j].map.length ≤ 1048576) :
    Calls Tryd.prog 47 #[v] w fun e w' => e = .returned (.slice (some ⟨w.heap.size, 0, none⟩) cs.length cs.length) ∧
      Below w.heap.size w w' ∧ w'.heap.size = w.heap.size + 1 + 4 * cs.length ∧ (∃ xs, Row w' w.heap.size 116 xs ∧ CoRow xs (fun j => w.heap.size + 1 + 4 * j + 3) cs cs.length) ∧
      ∀ j, ∀ (hj : j < cs.length), Row w' (w.heap.size + 1 + 4 * j + 3) 3 (cs[j].map.map (Value.int .i64)) := by
  obtain ⟨A, cap, rfl, hl, hm, hcos⟩ := hv.form
  unfold maxLen at hm
  obtain ⟨i0, hi0, hz0, hs0, hb0⟩ := info_parts infoCoercion
  have hmk := fun wx => run_make_rows (P := Tryd.prog) 36 116 i0 _ Tryd.underlying36 hi0 hz0 .i64 .i64 cs.length (by rw [hb0]; omega) (by omega) wx
  rw [hs0] at hmk
  clear hi0 hz0 hs0 hb0
  generalize hX : madeCells (Value.agg #[.int .i64 0, .int .i64 0, .slice none 0 0]).cells (cs.length * 3) = X at hmk
  have hXs : X.toList.length = cs.length * 3 := by rw [← hX]; simp [madeCells]
  have HX := Lib.hid hXs
  clear hX hXs hv
  go_enter Tryd.func47, Tryd.ntmps47
  go_wp2
  go_loopw [4] (fun i wr => ∃ k : Nat, k ≤ cs.length ∧ i = .int .i64 k ∧ Below w.heap.size w wr ∧ wr.heap.size = w.heap.size + 1 + 4 * k ∧ (∃ xs, Row wr w.heap.size 116 xs ∧ CoRow xs (fun j => w.heap.size + 1 + 4 * j + 3) cs k) ∧
      ∀ j, j < k → ∀ (hj : j < cs.length), Row wr (w.heap.size + 1 + 4 * j + 3) 3 (cs[j].map.map (Value.int .i64))) (fun i _ => cs.length - (intOf i).toNat)
  case atStart => exact ⟨0, Nat.zero_le _, rfl, (Below.refl _ _).alloc (Nat.le_refl _) _, by simp, ⟨X.toList, by simpa using Row.new w _ X.toList, HX.out, fun j hj => absurd hj (by omega)⟩, fun j hj => absurd hj (by omega)⟩
  case round =>
    obtain ⟨k, hk, rfl, hb, hsz, ⟨xs, hrow, hxs⟩, hmr⟩ := hrel
    by_cases hlt : k < cs.length
    · have hin := hcos.below hb hB
      obtain ⟨b, off, A2, cap2, rfl, hlo, hhi, c0, c1, c2, h5, h6, hs, hd, hz2⟩ := hin.at_ hlt
      have hmap := hmaps k hlt
      have Hs := Lib.hid hsz
      clear hsz
      have hbs := hb.size
      go_wp2_with fail
      refine (toCoercion_any lo hi _ _ _ cs[k] _ ⟨rfl, rfl, hs, hd, hz2⟩ (by omega) hmap).mono ?_
      rintro e w1 ⟨rfl, hb1, hsz1, hrow1⟩
      have hrow' := hrow.below hb1 hrow.lt
      have hlx := hxs.1
      have d0 := hrow'.cell_some (i := k * 3) (by omega)
      have d1 := hrow'.cell_some (i := k * 3 + 1) (by omega)
      have d2 := hrow'.cell_some (i := k * 3 + 2) (by omega)
      have g0 := hrow'.frozen (k * 3)
      have g1 := hrow'.frozen (k * 3 + 1)
      have g2 := hrow'.frozen (k * 3 + 2)
      generalize xs[k * 3]'(by omega) = y0 at d0
      generalize xs[k * 3 + 1]'(by omega) = y1 at d1
      generalize xs[k * 3 + 2]'(by omega) = y2 at d2
      have Hx := Lib.hid hxs
      have Hs1 := Lib.hid hsz1
      have Hr := Lib.hid hrow'
      have Hr1 := Lib.hid hrow1
      have Hmr := Lib.hid hmr
      have Hb := Lib.hid hb
      have Hb1 := Lib.hid hb1
      clear hxs hsz1 hrow' hrow1 hmr hrow hlx hin hcos hz2 hb hb1
      go_wp2
      go_roundw
      case rel => 
        have e1 := Hs.out
        have e2 := Hs1.out
        have hbb := Hb.out.trans (Hb1.out.mono (by omega : w.heap.size ≤ wr.heap.size))
        refine ⟨k + 1, by omega, by go_num, ((hbb.setCell (Nat.le_refl _) _).setCell (Nat.le_refl _) _).setCell (Nat.le_refl _) _, ?_, ⟨_, ((Hr.out.set_ _ _).set_ _ _).set_ _ _, ?_⟩, ?_⟩
        · simp only [World.setCell, Array.size_modify]; omega
        · have := Hx.out.step hlt
          rw [← e1] at this
          exact this
        · intro j hj hjl
          by_cases ejk : j = k
          · subst ejk
            rw [← e1]
            exact ((Hr1.out.far (by dsimp only; omega) _).far (by dsimp only; omega) _).far (by dsimp only; omega) _
          · exact ((((Hmr.out j (by omega) hjl).below Hb1.out (by omega)).far (by dsimp only; omega) _).far (by dsimp only; omega) _).far (by dsimp only; omega) _
      case measure => simp [intOf]; omega
    · obtain rfl : k = cs.length := by omega
      have H : Hid (Below w.heap.size w wr ∧ wr.heap.size = w.heap.size + 1 + 4 * cs.length ∧ (∃ xs, Row wr w.heap.size 116 xs ∧ CoRow xs (fun j => w.heap.size + 1 + 4 * j + 3) cs cs.length) ∧
        ∀ j, ∀ (hj : j < cs.length), Row wr (w.heap.size + 1 + 4 * j + 3) 3 (cs[j].map.map (Value.int .i64))) := ⟨hb, hsz, ⟨xs, hrow, hxs⟩, fun j hj => hmr j hj hj⟩
      clear hb hsz hrow hxs hmr hcos
      go_wp2
      go_ret
      exact ⟨rfl, H.out⟩

set_option maxHeartbeats 400000 in
theorem toTypes_any (lo hi : Nat) (s c : Value) (t : Ty) (w : World) (hv : TyAt w lo hi s c t) (hB : hi ≤ w.heap.size) (hlen : t.bulk ≤ 1048576) :
    Calls Tryd.prog 31 #[.agg #[s, c]] w fun e w' => e = .returned (.agg #[.slice (some ⟨w.heap.size + 3, 0, none⟩) t.sizes.length t.sizes.length, .slice (some ⟨w.heap.size + 4, 0, none⟩) t.cos.length t.cos.length]) ∧
      Below w.heap.size w w' ∧ w'.heap.size = w.heap.size + 5 + 4 * t.cos.length ∧ NewTy w' 3 116 (w.heap.size + 3) t := by
  obtain ⟨h1, h2⟩ := hv
  obtain ⟨A, cap, rfl, _, _, hz⟩ := h1.form
  obtain ⟨A2, cap2, rfl, _, _, hcos⟩ := h2.form
  have hl1 : t.sizes.length ≤ 1048576 := by unfold Ty.bulk at hlen; omega
  have hl2 : t.cos.length ≤ 1048576 := by unfold Ty.bulk at hlen; omega
  have hl3 : Hid (∀ j, ∀ (hj : j < t.cos.length), t.cos[j].map.length ≤ 1048576) := fun j hj => Nat.le_trans (t.map_le j hj) hlen
  clear h1 h2
  have h3 : Below w.heap.size w (((w.alloc (.cells #[.slice A t.sizes.length cap, .slice A2 t.cos.length cap2] 29)).alloc (.cells #[.slice none 0 0, .slice none 0 0] 38)).alloc (.cells #[.slice none 0 0, .slice none 0 0] 38)) := by go_grown
  go_enter Tryd.func31, Tryd.ntmps31
  go_wp2_with fail
  refine (toIntS_any lo hi _ t.sizes _ (hz.below h3 hB) (by simp; omega) hl1).mono ?_
  rintro e w1 ⟨rfl, hb, hsz, hrow⟩
  have hbel := h3.trans (hb.mono (by simp; omega))
  obtain ⟨hcl, hfr⟩ := bcell hb
  simp only [World.size_alloc] at hsz hrow hcl hfr
  have hz1 : w.heap.size + 1 + 1 < w1.heap.size := by omega
  have Hrow := Lib.hid hrow
  have Hsz := Lib.hid hsz
  have Hbel := Lib.hid hbel
  clear hsz hrow hbel hb h3
  go_wp2_with fail
  have hs1 : (w1.setCell ⟨w.heap.size + 1 + 1, 0, none⟩ (.slice (some ⟨w.heap.size + 1 + 1 + 1, 0, none⟩) t.sizes.length t.sizes.length)).heap.size = w.heap.size + 1 + 1 + 1 + 1 := by simpa [World.setCell] using Hsz.out
  have hb1 : Below w.heap.size w (w1.setCell ⟨w.heap.size + 1 + 1, 0, none⟩ (.slice (some ⟨w.heap.size + 1 + 1 + 1, 0, none⟩) t.sizes.length t.sizes.length)) := Hbel.out.setCell (by dsimp only; omega) _
  have hr1 : Row (w1.setCell ⟨w.heap.size + 1 + 1, 0, none⟩ (.slice (some ⟨w.heap.size + 1 + 1 + 1, 0, none⟩) t.sizes.length t.sizes.length)) (w.heap.size + 1 + 1 + 1) 3 (t.sizes.map (Value.int .i64)) := Hrow.out.far (by dsimp only; omega) _
  refine (toCoercionS_any lo hi _ t.cos _ (hcos.below hb1 hB) (by rw [hs1]; omega) hl2 hl3.out).mono ?_
  rintro e w2 ⟨rfl, hb2, hsz2, ⟨xs, hrow2, hxs⟩, hmr⟩
  obtain ⟨hcl2, hfr2⟩ := bcell hb2
  have hbel2 := hb1.trans (hb2.mono (by rw [hs1]; omega))
  have hr2 := hr1.below hb2 (by rw [hs1]; omega)
  rw [hs1] at hsz2 hrow2 hcl2 hfr2 hxs hmr
  have hs1' := Lib.hid hs1
  have hz2 : w.heap.size + 1 + 1 < w2.heap.size := by omega
  have Hsz2 := Lib.hid hsz2
  have Hbel2 := Lib.hid hbel2
  have Hr2 := Lib.hid hr2
  have Hrow2 := Lib.hid hrow2
  have Hxs := Lib.hid hxs
  have Hmr := Lib.hid hmr
  clear hsz2 hbel2 hr2 hrow2 hxs hmr hs1 hb1 hr1 hb2 hcos hz
  rw [hs1'.out]
  go_wp2
  refine bodyPost_ret (v := .agg #[.slice (some ⟨w.heap.size + 1 + 1 + 1, 0, none⟩) t.sizes.length t.sizes.length, .slice (some ⟨w.heap.size + 1 + 1 + 1 + 1, 0, none⟩) t.cos.length t.cos.length]) (by simp [results, Tryd.results31, go_sem, hcl2, hcl]) rfl ⟨rfl, ?_, ?_, ?_⟩
  · exact ((Hbel2.out.setCell (by dsimp only; omega) _).setCell (by dsimp only; omega) _).setCell (by dsimp only; omega) _
  · have := Hsz2.out
    simp only [World.setCell, Array.size_modify]; omega
  · refine ⟨((Hr2.out.far (by dsimp only; omega) _).far (by dsimp only; omega) _).far (by dsimp only; omega) _, ⟨xs, ((Hrow2.out.far (by dsimp only; omega) _).far (by dsimp only; omega) _).far (by dsimp only; omega) _, Hxs.out⟩, fun j hj => ?_⟩
    exact (((Hmr.out j hj).far (by dsimp only; omega) _).far (by dsimp only; omega) _).far (by dsimp only; omega) _
end Go.Proofs.YthldlbbkbbgdkaaDoor
