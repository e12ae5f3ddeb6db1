/-
  The contract of the model's function that copies types.
-/
import Derived.Test.YtplpnammboofiaaSownt
namespace Go.Proofs.Ytplpnammboofiaa
open Go.RowKit

theorem range_getD (cs : List Co) : (List.range cs.length).map (fun i => cs.getD i default) = cs := by
  apply List.ext_getElem
  · simp
  · intro i h1 h2
    simp [List.getElem?_eq_getElem h2]
theorem CosAt.wf {w : World} {lo hi : Nat} {v : Value} {cs : List Co} (h : CosAt w lo hi v cs) : ∀ i, i < cs.length → I64 (cs.getD i default).src ∧ I64 (cs.getD i default).dst ∧ ∀ z ∈ (cs.getD i default).map, I64 z := by
  intro i hi'
  obtain ⟨A, cap, rfl, _, _, hc⟩ := h.form
  obtain ⟨b, off, A2, cap2, _, _, _, _, _, _, _, _, hs, hd, hz⟩ := hc.at_ hi'
  have e : cs.getD i default = cs[i] := by rw [List.getD_eq_getElem?_getD, List.getElem?_eq_getElem hi']; rfl
  obtain ⟨_, _, _, _, _, hw, _⟩ := hz
  rw [e]
  exact ⟨hs, hd, hw⟩
theorem IntsAt.wf {w : World} {lo hi : Nat} {v : Value} {zs : List Int} (h : IntsAt w lo hi v zs) : ∀ z ∈ zs, I64 z := by
  obtain ⟨_, _, _, _, _, hw, _⟩ := h
  exact hw

set_option maxRecDepth 100000 in
set_option maxHeartbeats 2000000 in
theorem ownTypes_any (lo hi : Nat) (sv cv : Value) (t : Ty) (w : World) (hv : TyAt w lo hi sv cv t) (hB : hi ≤ w.heap.size) (hbk : t.bulk ≤ 1048576) :
    Calls Try.prog 42 #[.agg #[sv, cv]] w fun e w' => ∃ v l, e = .returned (.agg #[v, l]) ∧ Below w.heap.size w w' ∧ TyAt w' w.heap.size w'.heap.size v l t := by
  have hwf1 := Lib.hid (IntsAt.wf hv.1)
  have hwf2 := Lib.hid (CosAt.wf hv.2)
  obtain ⟨A, cap, rfl, hl1, hm1, hz⟩ := hv.1.form
  obtain ⟨B, bap, rfl, hl2, hm2, hc1⟩ := hv.2.form
  have hn : t.cos.length ≤ 1048576 := by unfold Ty.bulk at hbk; omega
  have hn1 : t.sizes.length ≤ 1048576 := by unfold Ty.bulk at hbk; omega
  have hl3 := Lib.hid (show ∀ j, ∀ (hj : j < t.cos.length), t.cos[j].map.length ≤ 1048576 from fun j hj => Nat.le_trans (t.map_le j hj) hbk)
  have h3 : Below w.heap.size w (((w.alloc (.cells #[.slice A t.sizes.length cap, .slice B t.cos.length bap] 26)).alloc (.cells #[.slice none 0 0, .slice none 0 0] 26)).alloc (.cells #[] 3)) := by go_grown
  have hw2 : (((w.alloc (.cells #[.slice A t.sizes.length cap, .slice B t.cos.length bap] 26)).alloc (.cells #[.slice none 0 0, .slice none 0 0] 26)).heap.size) = w.heap.size + 1 + 1 := by simp
  have h0 := World.ownsRow_lit (base := w.heap.size + 1 + 1) (e := 3) (size := 1) ((w.alloc (.cells #[.slice A t.sizes.length cap, .slice B t.cos.length bap] 26)).alloc (.cells #[.slice none 0 0, .slice none 0 0] 26)) #[] 0 (by rw [hw2]; exact Nat.le_refl _) (by unfold maxLen; omega) rfl
  rw [hw2] at h0
  have H0 := Lib.hid h0
  have Hz := Lib.hid (hz.below h3 hB)
  have Hc1 := Lib.hid hc1
  have H3 := Lib.hid h3
  clear h0 hz h3 hw2 hc1 hv
  go_enter Try.func42, Try.ntmps42
  go_wp2_with (at_builtin; refine wpList_append_ints rfl (.tmp 3) (.tmp 5) rfl (w.heap.size + 1 + 1) _ 0 [] rfl H0.out lo hi A t.sizes.length cap t.sizes rfl Hz.out rfl (by omega) (by simp) ?_; intro VA VC w2 hown2 hgrow; have hb := H3.out.grown hgrow (by simp; omega) (fun k hk => (by have h : (some (w.heap.size + 1 + 1) : Option Nat) = some k := hk; injection h with h; omega)); have hs2 := hgrow.size; simp only [World.size_alloc] at hs2; have hgrow' : World.grownBy _ w2 (some (w.heap.size + 1 + 1)) := hgrow; have e0 := grown_cell hgrow' w.heap.size 0 (by simp; omega) (by omega); have e1 := grown_cell hgrow' w.heap.size 1 (by simp; omega) (by omega); have d0 := grown_cell hgrow' (w.heap.size + 1) 0 (by simp) (by omega); have d1 := grown_cell hgrow' (w.heap.size + 1) 1 (by simp) (by omega); have f0 := grown_frozen hgrow' w.heap.size 0 (by simp; omega) (by omega); have f1 := grown_frozen hgrow' w.heap.size 1 (by simp; omega) (by omega); have k0 := grown_frozen hgrow' (w.heap.size + 1) 0 (by simp) (by omega); have k1 := grown_frozen hgrow' (w.heap.size + 1) 1 (by simp) (by omega); simp [go_sem] at e0 e1 d0 d1 f0 f1 k0 k1; have e0' : ∀ u, (w2.setCell ⟨w.heap.size, 0, none⟩ u).cell? ⟨w.heap.size, 0, none⟩ = some u := (fun u => World.cell?_setCell_same _ _ _ e0); have ho2 : w2.ownsRow (w.heap.size + 1 + 1) 3 1 (.slice VA t.sizes.length VC) t.sizes.length (t.sizes.map (Value.int .i64)) := (by simpa using hown2); have Hown2 := Lib.hid ho2; have Hb := Lib.hid hb; clear hown2 hgrow hgrow' hb ho2)
  refine (ownList_any lo hi _ t.cos _ (Hc1.out.below (Hb.out.setCell (by dsimp only; omega) _) hB) (by simp [World.setCell]; omega) hn hl3.out).mono ?_
  rintro e w3 ⟨l, rfl, hb3, hco⟩
  have hss : (w2.setCell ⟨w.heap.size, 0, none⟩ (.slice VA t.sizes.length VC)).heap.size = w2.heap.size := by simp [World.setCell]
  rw [hss] at hb3 hco
  have p0 : w3.cell? ⟨w.heap.size, 0, none⟩ = some (.slice VA t.sizes.length VC) := ((bcell hb3).1 _ _ (by omega)).trans (e0' _)
  have p1 : w3.cell? ⟨w.heap.size, 1, none⟩ = some (.slice B t.cos.length bap) := ((bcell hb3).1 _ _ (by omega)).trans (by simp [go_sem, e1])
  have q0 : w3.cell? ⟨w.heap.size + 1, 0, none⟩ = some (.slice none 0 0) := ((bcell hb3).1 _ _ (by omega)).trans (by simp [go_sem, d0])
  have q1 : w3.cell? ⟨w.heap.size + 1, 1, none⟩ = some (.slice none 0 0) := ((bcell hb3).1 _ _ (by omega)).trans (by simp [go_sem, d1])
  have pf0 : w3.frozen? ⟨w.heap.size, 0, none⟩ = false := ((bcell hb3).2 _ _ (by omega)).trans (by simp [go_sem, f0])
  have pf1 : w3.frozen? ⟨w.heap.size, 1, none⟩ = false := ((bcell hb3).2 _ _ (by omega)).trans (by simp [go_sem, f1])
  have qf0 : w3.frozen? ⟨w.heap.size + 1, 0, none⟩ = false := ((bcell hb3).2 _ _ (by omega)).trans (by simp [go_sem, k0])
  have qf1 : w3.frozen? ⟨w.heap.size + 1, 1, none⟩ = false := ((bcell hb3).2 _ _ (by omega)).trans (by simp [go_sem, k1])
  have p1' : ∀ u, (w3.setCell ⟨w.heap.size, 1, none⟩ u).cell? ⟨w.heap.size, 1, none⟩ = some u := fun u => World.cell?_setCell_same _ _ _ p1
  obtain ⟨xs, m, mv, how, hmo⟩ := hco
  obtain ⟨LA, LC, rfl⟩ := owns_form how
  have Hco := Lib.hid (show CosOwned w3 w2.heap.size (.slice LA t.cos.length LC) (fun i => t.cos.getD i default) t.cos.length from ⟨xs, m, mv, how, hmo⟩)
  have hsz3 := hb3.size
  rw [hss] at hsz3
  have hb03 := Lib.hid ((Hb.out.setCell (by dsimp only; omega) _).trans (hb3.mono (by omega)))
  have ho3 := Lib.hid (ownsRow_keep Hown2.out fun g hg hgl => (hb3.block g hgl).trans (Below.heap_setCell _ _ _ _ (by dsimp only; omega)))
  have hblk : Hid (∀ g, w.heap.size + 1 + 1 ≤ g → (((w3.setCell ⟨w.heap.size, 1, none⟩ (.slice LA t.cos.length LC)).setCell ⟨w.heap.size + 1, 0, none⟩ (.slice VA t.sizes.length VC)).setCell ⟨w.heap.size + 1, 1, none⟩ (.slice LA t.cos.length LC)).heap[g]? = w3.heap[g]?) := fun g hg => (Below.heap_setCell _ _ _ _ (by dsimp only; omega)).trans ((Below.heap_setCell _ _ _ _ (by dsimp only; omega)).trans (Below.heap_setCell _ _ _ _ (by dsimp only; omega)))
  clear how hmo hb3 hss e0' e0 e1 d0 d1 f0 f1 k0 k1
  go_wp2
  refine bodyPost_ret (v := .agg #[.slice VA t.sizes.length VC, .slice LA t.cos.length LC]) (by simp [results, Try.results42, go_sem, q0, q1]) rfl ?_
  refine ⟨_, _, rfl, ((hb03.out.setCell (by dsimp only; omega) _).setCell (by dsimp only; omega) _).setCell (by dsimp only; omega) _, ?_, ?_⟩
  · exact ownsRow.intsAt (base := w.heap.size + 1 + 1) (lo := w.heap.size) (ownsRow_keep ho3.out fun g hg _ => hblk.out g hg) hwf1.out (by omega) (Nat.le_refl _)
  · have := CosOwned.cosAt (lo := w.heap.size) (base := w2.heap.size) (Hco.out.keep (by simp [World.setCell]) fun g hg hgl => hblk.out g (by omega)) hwf2.out (by omega) (Nat.le_refl _)
    rw [range_getD] at this
    exact this
end Go.Proofs.Ytplpnammboofiaa
