/-
  The contract of copyTypes.
-/
import Derived.Test.YtplpnammboofiaaCopyt
namespace Go.Proofs.Ytplpnammboofiaa
open Go.RowKit

theorem infoCoercionW : (Try.prog.info? 28).map (fun i => (i.zero, i.size, i.bytes)) = some (some (.agg #[.int .i64 0, .int .i64 0, .slice none 0 0]), 3, 40) := by kernel_rfl

theorem owns_form {w : World} {base : Nat} {t : TypeId} {size : Nat} {v : Value} {n : Nat} {xs : List Value} (h : w.ownsRow base t size v n xs) : ∃ A c, v = .slice A n c := by
  obtain ⟨_, ⟨rfl, rfl⟩ | ⟨g', cap, cur, rfl, _⟩⟩ := h
  · exact ⟨_, _, rfl⟩
  · exact ⟨_, _, rfl⟩

set_option maxRecDepth 100000 in
set_option maxHeartbeats 2000000 in
theorem copyTypes_any (lo hi : Nat) (sv cv : Value) (t : Ty) (w : World) (hv : TyAt w lo hi sv cv t) (hB : hi ≤ w.heap.size) (hbk : t.bulk ≤ 1048576) :
    Calls Try.prog 39 #[.agg #[sv, cv]] w fun e w' => ∃ v l C, e = .returned (.agg #[v, l]) ∧ Below w.heap.size w w' ∧ w.heap.size ≤ C ∧ C < w'.heap.size ∧
      w'.ownsRow w.heap.size 3 1 v t.sizes.length (t.sizes.map (Value.int .i64)) ∧ (∀ g, v.ownBlock = some g → g < C) ∧ CosOwned w' (C + 1) l (fun i => t.cos.getD i default) t.cos.length := by
  obtain ⟨A, cap, rfl, hl1, hm1, hz⟩ := hv.1.form
  obtain ⟨B, bap, rfl, hl2, hm2, hc1⟩ := hv.2.form
  unfold maxLen at hm2
  obtain ⟨i0, hi0, hz0, hz1, hz2⟩ := info_parts infoCoercionW
  have hn : t.cos.length ≤ 1048576 := by unfold Ty.bulk at hbk; omega
  have hn1 : t.sizes.length ≤ 1048576 := by unfold Ty.bulk at hbk; omega
  have hl3 : Hid (∀ j, ∀ (hj : j < t.cos.length), t.cos[j].map.length ≤ 1048576) := fun j hj => Nat.le_trans (t.map_le j hj) hbk
  have h3 : Below w.heap.size w ((w.alloc (.cells #[.slice A t.sizes.length cap, .slice B t.cos.length bap] 26)).alloc (.cells #[.slice none 0 0, .slice none 0 0] 26)) := by go_grown
  have Hc1 := Lib.hid hc1
  clear hv hc1
  go_enter Try.func39, Try.ntmps39
  go_wp2_with fail
  refine (clone_any lo hi _ t.sizes _ (hz.below h3 hB) (by simp; omega) hn1).mono ?_
  rintro e w1 ⟨v, rfl, hb, hown⟩
  have hbel := Lib.hid (h3.trans (hb.mono (by simp; omega)))
  obtain ⟨hcl, hfr⟩ := bcell hb
  have hs1 := hb.size
  simp only [World.size_alloc] at hown hcl hfr hs1
  have hz1' : w.heap.size + 1 < w1.heap.size := by omega
  have hz0' : w.heap.size < w1.heap.size := by omega
  obtain ⟨VA, VC, rfl⟩ := owns_form hown
  have Hown := Lib.hid hown
  have he0 : w1.cell? ⟨w.heap.size, 0, none⟩ = some (.slice A t.sizes.length cap) := by rw [hcl _ _ (by omega)]; simp [go_sem]
  have he1 : w1.cell? ⟨w.heap.size, 1, none⟩ = some (.slice B t.cos.length bap) := by rw [hcl _ _ (by omega)]; simp [go_sem]
  have hd0 : w1.cell? ⟨w.heap.size + 1, 0, none⟩ = some (.slice none 0 0) := by rw [hcl _ _ (by omega)]; simp [go_sem]
  have hd1 : w1.cell? ⟨w.heap.size + 1, 1, none⟩ = some (.slice none 0 0) := by rw [hcl _ _ (by omega)]; simp [go_sem]
  have hf0 : w1.frozen? ⟨w.heap.size + 1, 0, none⟩ = false := by rw [hfr _ _ (by omega)]; simp [go_sem]
  have hf1 : w1.frozen? ⟨w.heap.size + 1, 1, none⟩ = false := by rw [hfr _ _ (by omega)]; simp [go_sem]
  have Hcl := Lib.hid hcl
  have Hfr := Lib.hid hfr
  clear hown hb h3 hcl hfr hz
  go_wp2
  go_loopw [13] (fun i wr => ∃ (j : Nat) (l : Value), j ≤ t.cos.length ∧ i = .int .i64 j ∧ Hid (Below w1.heap.size w1 wr) ∧ w1.heap.size < wr.heap.size ∧ Row wr w1.heap.size 26 [.slice VA t.sizes.length VC, l] ∧ Hid (CosOwned wr (w1.heap.size + 1) l (fun i => t.cos.getD i default) j)) (fun i _ => t.cos.length - (intOf i).toNat)
  case atStart => exact ⟨0, .slice none 0 0, Nat.zero_le _, rfl, Lib.hid ((Below.refl _ _).alloc (Nat.le_refl _) _), by simp, Row.new w1 _ [.slice VA t.sizes.length VC, .slice none 0 0], CosOwned.nil _ _ _⟩
  case round =>
    obtain ⟨j, l, hj, rfl, hb, hsz, hrow, hown⟩ := hrel
    have g0 := hrow.cell 0
    have g1 := hrow.cell 1
    simp only [List.getElem?_cons_zero, List.getElem?_cons_succ] at g0 g1
    have k0 := hrow.frozen 0
    have k1 := hrow.frozen 1
    have Hrow := Lib.hid hrow
    clear hrow
    by_cases hlt : j < t.cos.length
    · have hbw : Below w.heap.size w wr := hbel.out.trans (hb.out.mono (by omega))
      obtain ⟨b, off, A2, cap2, rfl, hlo, hhi, c0, c1, c2, h5, h6, hs, hd, hz2'⟩ := (Hc1.out.below hbw hB).at_ hlt
      have hmap := hl3.out j hlt
      obtain ⟨xs, m, mv, how, hmo⟩ := hown.out
      obtain ⟨LA, LC, rfl⟩ := owns_form how
      have How := Lib.hid how
      have Hmo := Lib.hid hmo
      have Hz2 := Lib.hid hz2'
      have Hbw := Lib.hid hbw
      clear how hmo hz2' hbw
      have hdraw : Below hi wr (wr.alloc (.cells #[.int .i64 t.cos[j].src, .int .i64 t.cos[j].dst, .slice A2 t.cos[j].map.length cap2] 28)) := (Below.refl _ _).alloc (by have := hbel.out.size; have := hb.out.size; omega) _
      have Hz3 := Lib.hid (Hz2.out.below hdraw (Nat.le_refl _))
      have hj1 : (j : Int) + 1 ≤ 1048576 := by omega
      clear hdraw
      go_upto_region 5 with fail
      go_region_law (first
        | (refine step_append_lies _ (by rfl) (.tmp 18) (.tmp 21) 24 (by rfl) (w1.heap.size + 1) 28 i0 _ 3 40 Try.underlying24 hi0 hz0 hz1 hz2 rfl (by omega) (.slice LA j LC) j xs (by rfl) ((H2.out.alloc _).drew)
            ⟨w2.heap.size, 0, none⟩ 1 1 [.int .i64 t.cos[j].src, .int .i64 t.cos[j].dst, .slice VA2 t.cos[j].map.length VC2] (by rfl) (by rfl) (World.news_of_block (cs := #[.int .i64 t.cos[j].src, .int .i64 t.cos[j].dst, .slice VA2 t.cos[j].map.length VC2]) (t := 28) (fr := (0, 0)) (heap_alloc_new w2 _)) (by simp [Value.oneCell'])
            (by omega) (by unfold maxLen; omega) (by omega) (by (try simp); (try omega)) (w2.heap.size + 1) (by simp) ?_; intro g' cap3 w3 hown3 hgrow hat hlt3; have hC3 : w3.heap[w1.heap.size]? = wr.heap[w1.heap.size]? := (hgrow.block _ (by (try simp); (try omega)) (fun hc => by have := (owns_lt How.out _ hc.symm).1; omega)).trans ((Below.heap_alloc w2 _ _ (by omega)).trans (hblk.out _ hsz)); have q1 := (Hrow.out.keep hC3).cell 1; have q1f := (Hrow.out.keep hC3).frozen 1; simp only [List.getElem?_cons_zero, List.getElem?_cons_succ] at q1; have Hown3 := Lib.hid hown3; have Hgrow := Lib.hid hgrow; have Hat := Lib.hid hat; have HC3 := Lib.hid hC3; clear hown3 hgrow hat hC3)
        | (go_simp; go_at_call 40; refine (copied_any lo hi _ _ _ t.cos[j] _ ⟨rfl, rfl, hs, hd, by exact Hz3.out⟩ (by (try simp); (try omega)) hmap).mono ?_; rintro e w2 ⟨v2, rfl, hb2, hown2⟩; obtain ⟨VA2, VC2, rfl⟩ := owns_form hown2; have hsz2 : wr.heap.size + 1 ≤ w2.heap.size := (by simpa using hb2.size); have H2 := Lib.hid (ownsRow_keep How.out fun g hg hgl => (hb2.block g (by (try simp); (try omega))).trans (Below.heap_alloc wr _ g hgl)); have hblk : Hid (∀ g, g < wr.heap.size → w2.heap[g]? = wr.heap[g]?) := fun g hgl => (hb2.block g (by (try simp); (try omega))).trans (Below.heap_alloc wr _ g hgl); have p1 : w2.cell? ⟨w1.heap.size, 1, none⟩ = some (.slice LA j LC) := (Hrow.out.keep (hblk.out _ hsz)).cell 1; have hsz3 : w1.heap.size < w2.heap.size := (by omega); have Hb2 := Lib.hid hb2; have Hown2 := Lib.hid hown2; clear hb2 hown2))
      all_goals
        have hq : Below wr.heap.size _ w2 := Hb2.out.mono (by (try simp); (try omega))
        have hb12 : Below wr.heap.size wr w2 := (((Below.refl _ wr).alloc (Nat.le_refl _) (.cells #[.int .i64 t.cos[j].src, .int .i64 t.cos[j].dst, .slice A2 t.cos[j].map.length cap2] 28)).drew).trans hq
        have ho2 := ownsRow_lower (base' := wr.heap.size) Hown2.out (by (try simp); (try omega))
        have hpush := CosOwned.push (w2 := w2) Hmo.out How.out (by omega) (show t.cos.getD j default = t.cos[j] by rw [List.getD_eq_getElem?_getD, List.getElem?_eq_getElem hlt]; rfl) hb12 ho2 Hgrow.out Hat.out Hown3.out
        have hb13 : Below w1.heap.size w1 w3 := ((hb.out.trans (hb12.mono (by omega))).alloc (by omega) _).grown Hgrow.out (by (try simp); (try omega)) (fun k hk => by have := (owns_lt How.out k hk).1; omega)
        have Hpush := Lib.hid hpush
        have Hb13 := Lib.hid hb13
        have hsz4 : w1.heap.size < w3.heap.size := by have := Hgrow.out.size; simp only [World.size_alloc] at this; omega
        clear hpush hb12 hb13 q1 q1f p1 hq ho2
        go_wp2
        go_roundw
        case rel =>
          exact ⟨j + 1, _, by omega, by go_num, Lib.hid (Hb13.out.setCell (Nat.le_refl _) _), by simp [World.setCell]; omega, (Hrow.out.keep HC3.out).set_ 1 _,
            Lib.hid (Hpush.out.keep (by simp [World.setCell]) fun g hg hgl => Below.heap_setCell _ _ _ _ (by dsimp only; omega))⟩
        case measure => simp [intOf]; omega
    · obtain rfl : j = t.cos.length := by omega
      have r0 : wr.cell? ⟨w.heap.size + 1, 0, none⟩ = some (.slice none 0 0) := ((bcell hb.out).1 _ _ hz1').trans hd0
      have r1 : wr.cell? ⟨w.heap.size + 1, 1, none⟩ = some (.slice none 0 0) := ((bcell hb.out).1 _ _ hz1').trans hd1
      have rf0 : wr.frozen? ⟨w.heap.size + 1, 0, none⟩ = false := ((bcell hb.out).2 _ _ hz1').trans hf0
      have rf1 : wr.frozen? ⟨w.heap.size + 1, 1, none⟩ = false := ((bcell hb.out).2 _ _ hz1').trans hf1
      obtain ⟨xs, m, mv, how, hmo⟩ := hown.out
      obtain ⟨LA, LC, rfl⟩ := owns_form how
      clear how hmo
      go_wp2
      refine bodyPost_ret (v := .agg #[.slice VA t.sizes.length VC, .slice LA t.cos.length LC]) (by simp [results, Try.results39, go_sem, r0, r1]) rfl ?_
      have hbw : Below w.heap.size w wr := hbel.out.trans (hb.out.mono (by omega))
      refine ⟨_, _, w1.heap.size, rfl, (hbw.setCell (by dsimp only; omega) _).setCell (by dsimp only; omega) _, by omega, by simpa [World.setCell] using hsz, ?_, ?_, ?_⟩
      · exact ownsRow_lower (ownsRow_keep Hown.out fun g hg hgl => (Below.heap_setCell _ _ _ _ (by dsimp only; omega)).trans ((Below.heap_setCell _ _ _ _ (by dsimp only; omega)).trans (hb.out.block g hgl))) (by omega)
      · intro g hg
        exact (owns_lt Hown.out g hg).2
      · refine hown.out.keep (by simp [World.setCell]) fun g hg hgl => (Below.heap_setCell _ _ _ _ (by dsimp only; omega)).trans (Below.heap_setCell _ _ _ _ (by dsimp only; omega))
end Go.Proofs.Ytplpnammboofiaa
