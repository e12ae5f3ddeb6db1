/-
  The contract of WithoutCoercion, the program's.
-/
import Derived.Test.YtplpnammboofiaaDel
import Derived.Test.YtplpnammboofiaaScut
namespace Go.Proofs.Ytplpnammboofiaa
open Go.RowKit

/-- Where a place of the shorter list stood. -/
def sh (k i : Nat) : Nat := if i < k then i else i + 1
theorem sh_lt {k i n : Nat} (hi : i < n - 1) : sh k i < n := by unfold sh; split <;> omega
theorem sh_ne {k i j : Nat} (h : j ≠ i) : sh k j ≠ sh k i := by unfold sh; split <;> split <;> omega
theorem cut_len {t : Ty} {k : Nat} (hk : k < t.cos.length) : (cutCo t k).cos.length = t.cos.length - 1 := by
  show (t.cos.take k ++ t.cos.drop (k + 1)).length = _
  rw [List.length_append, List.length_take, List.length_drop]; omega
theorem cut_at {t : Ty} {k i : Nat} (hk : k < t.cos.length) (_hi : i < t.cos.length - 1) : (cutCo t k).cos.getD i default = t.cos.getD (sh k i) default := by
  show (t.cos.take k ++ t.cos.drop (k + 1)).getD i default = _
  have hl : (t.cos.take k).length = k := by rw [List.length_take, Nat.min_eq_left (Nat.le_of_lt hk)]
  rw [List.getD_eq_getElem?_getD, List.getD_eq_getElem?_getD]
  unfold sh
  by_cases h : i < k
  · rw [if_pos h, List.getElem?_append_left (by omega), List.getElem?_take_of_lt h]
  · rw [if_neg h, List.getElem?_append_right (by omega), hl, List.getElem?_drop, show k + 1 + (i - k) = i + 1 by omega]

theorem MapsOf.cut {w w' : World} {base : Nat} {row : Option Nat} {f : Nat → Co} {n : Nat} {xs : List Value} {m : Nat → Nat} {mv : Nat → Value} (h : MapsOf w base row f n xs m mv) (hx : xs.length = n * 3) {k : Nat} (hk : k < n) (hs : w.heap.size ≤ w'.heap.size) (hg : ∀ g, base ≤ g → g < w.heap.size → row ≠ some g → w'.heap[g]? = w.heap[g]?) :
    MapsOf w' base row (fun i => f (sh k i)) (n - 1) (xs.take (k * 3) ++ xs.drop ((k + 1) * 3)) (fun i => m (sh k i)) (fun i => mv (sh k i)) := by
  have hl : (xs.take (k * 3)).length = k * 3 := by rw [List.length_take, hx]; omega
  refine ⟨fun i hi => ?_, fun i hi => ?_, fun i hi h0 => ?_⟩
  · obtain ⟨c0, c1, c2⟩ := h.cells (sh k i) (sh_lt hi)
    have key : ∀ r, r < 3 → (xs.take (k * 3) ++ xs.drop ((k + 1) * 3))[i * 3 + r]? = xs[sh k i * 3 + r]? := by
      intro r hr
      unfold sh
      by_cases h1 : i < k
      · rw [if_pos h1, List.getElem?_append_left (by omega), List.getElem?_take_of_lt (by omega)]
      · rw [if_neg h1, List.getElem?_append_right (by omega), hl, List.getElem?_drop, show (k + 1) * 3 + (i * 3 + r - k * 3) = (i + 1) * 3 + r by omega]
    exact ⟨(key 0 (by omega)).trans c0, (key 1 (by omega)).trans c1, (key 2 (by omega)).trans c2⟩
  · exact (h.own (sh k i) (sh_lt hi)).keep fun h0 => by
      have ha := h.away (sh k i) (sh_lt hi) (by simpa using h0)
      exact hg _ ha.1 ha.2.1 ha.2.2.1
  · obtain ⟨a, b, c, d⟩ := h.away (sh k i) (sh_lt hi) h0
    exact ⟨a, Nat.lt_of_lt_of_le b hs, c, fun j hj hne h1 => d (sh k j) (sh_lt hj) (sh_ne hne) h1⟩
theorem MapsOf.one {w : World} {base : Nat} {row : Option Nat} {f : Nat → Co} {n : Nat} {xs : List Value} {m : Nat → Nat} {mv : Nat → Value} (h : MapsOf w base row f n xs m mv) (hx : xs.length = n * 3) : ∀ x ∈ xs, x.oneCell' = true := by
  intro x hxm
  obtain ⟨j, hj, rfl⟩ := List.getElem_of_mem hxm
  have hlt : j / 3 < n := by omega
  obtain ⟨c0, c1, c2⟩ := h.cells (j / 3) hlt
  have e := List.getElem?_eq_getElem hj
  rcases (by omega : j = j / 3 * 3 ∨ j = j / 3 * 3 + 1 ∨ j = j / 3 * 3 + 2) with e1 | e1 | e1
  · rw [← e1, e] at c0; injection c0 with c0; rw [c0]; rfl
  · rw [← e1, e] at c1; injection c1 with c1; rw [c1]; rfl
  · rw [← e1, e] at c2; injection c2 with c2; rw [c2]
    obtain ⟨A, cap, e2, _⟩ := h.own (j / 3) hlt
    rw [e2]; rfl

set_option maxRecDepth 100000 in
set_option maxHeartbeats 2000000 in
theorem implCut_any (lo hi : Nat) (sv cv : Value) (t : Ty) (i : Int) (w : World) (hv : TyAt w lo hi sv cv t) (hB : hi ≤ w.heap.size) (hbk : t.bulk ≤ 1048576) :
    Calls Try.prog 12 #[.agg #[sv, cv], .int .i64 i] w fun e w' => ∃ v l, e = .returned (.tuple #[.agg #[v, l], .bool (hasC t i)]) ∧ Below w.heap.size w w' ∧ TyOwned w' w.heap.size v l (wout t i) := by
  obtain ⟨A, cap, rfl, hl1, hm1, _⟩ := hv.1.form
  obtain ⟨B, bap, rfl, hl2, hm2, _⟩ := hv.2.form
  have hn : t.cos.length ≤ 1048576 := by unfold Ty.bulk at hbk; omega
  have h3 : Below w.heap.size w ((w.alloc (.cells #[.slice A t.sizes.length cap, .slice B t.cos.length bap] 26)).alloc (.cells #[.slice none 0 0, .slice none 0 0] 26)) := by go_grown
  have Hv := Lib.hid hv
  have H3 := Lib.hid h3
  clear hv h3
  go_enter Try.func12, Try.ntmps12
  go_wp2_with fail
  refine (hasCoercion_any lo hi _ _ t i _ (Hv.out.below H3.out hB) (by simp; omega)).mono ?_
  rintro e w1 ⟨rfl, hb1⟩
  have H1 := Lib.hid (H3.out.trans (hb1.mono (by simp; omega)))
  have RT : Row w1 w.heap.size 26 [.slice A t.sizes.length cap, .slice B t.cos.length bap] := ((Row.new w 26 [.slice A t.sizes.length cap, .slice B t.cos.length bap]).alloc _).below hb1 (by simp; omega)
  have RR : Row w1 (w.heap.size + 1) 26 [.slice none 0 0, .slice none 0 0] := by
    have h := Row.new (w.alloc (.cells #[.slice A t.sizes.length cap, .slice B t.cos.length bap] 26)) 26 [.slice none 0 0, .slice none 0 0]
    rw [World.size_alloc] at h
    exact h.below hb1 (by simp)
  have hs1 : w.heap.size + 1 + 1 ≤ w1.heap.size := by have := hb1.size; simpa using this
  have RT1 := Lib.hid RT
  have RR1 := Lib.hid RR
  clear hb1 RT RR
  have a0 := RT1.out.cell 0
  have a1 := RT1.out.cell 1
  have r0 := RR1.out.cell 0
  have r1 := RR1.out.cell 1
  have rf0 := RR1.out.frozen 0
  have rf1 := RR1.out.frozen 1
  simp only [List.getElem?_cons_zero, List.getElem?_cons_succ] at a0 a1 r0 r1
  by_cases hok : hasC t i = true
  · obtain ⟨_, hi0, hi1, hilt⟩ := hasC_of hok
    obtain ⟨k, rfl⟩ := Int.eq_ofNat_of_zero_le hi0
    have hkl : k < t.cos.length := by simpa using hilt
    have hwo : wout t (k : Nat) = cutCo t k := by rw [wout_yes hok]; simp
    have Hwo := Lib.hid hwo
    have Hok := Lib.hid hok
    have hw1 : IntKind.i64.wrap ((k : Int) + 1) = (k : Int) + 1 := by rw [IntKind.wrap_i64]; omega
    rw [hok]
    clear hok hwo hilt hi0 hi1
    go_wp2_with fail
    refine (copyTypes_any lo hi _ _ t _ (Hv.out.below H1.out hB) (by omega) hbk).mono ?_
    rintro e w2 ⟨v, l, C, rfl, hb2, hC, hC2, hov, hvC, hco⟩
    obtain ⟨VA, VC, rfl⟩ := owns_form hov
    obtain ⟨xs, m, mv, how, hmo⟩ := hco
    obtain ⟨LA, LC, rfl⟩ := owns_form how
    have hs2 := hb2.size
    have RR2 := Lib.hid (RR1.out.below hb2 (by omega))
    have H2 := Lib.hid (H1.out.trans (hb2.mono (by omega)))
    have How := Lib.hid how
    have Hmo := Lib.hid hmo
    have Hov := Lib.hid hov
    have HvC := Lib.hid hvC
    clear how hmo hov hvC hb2 a0 a1 r0 r1 rf0 rf1
    go_wp2_with fail
    refine (delete_any (C + 1) _ t.cos.length k xs _ (ownsRow_keep How.out fun g _ hg => Below.heap_alloc w2 _ g hg) hkl hn (Hmo.out.one How.out.1)).mono ?_
    rintro e w4 ⟨l', rfl, hlb, hown4, hg4⟩
    have hl4 := hg4.size
    simp only [World.size_alloc] at hl4
    obtain ⟨LA2, LC2, rfl⟩ := owns_form hown4
    have RQ : Row w4 w2.heap.size 26 [.slice VA t.sizes.length VC, .slice LA t.cos.length LC] := (Row.new w2 26 [.slice VA t.sizes.length VC, .slice LA t.cos.length LC]).keep (hg4.block _ (by simp) (fun e => by have := (owns_lt How.out _ e.symm).2; omega))
    have hb4 : ∀ g, g < C + 1 → w4.heap[g]? = w2.heap[g]? := fun g hg => (hg4.block g (by simp; omega) (fun e => by have := (owns_lt How.out _ e.symm).1; omega)).trans (Below.heap_alloc w2 _ g (by omega))
    have RR4 := Lib.hid (RR2.out.keep (hb4 (w.heap.size + 1) (by omega)))
    have RQ4 := Lib.hid RQ
    have Hb4 := Lib.hid hb4
    have Hg4 := Lib.hid hg4
    have Hown4 := Lib.hid hown4
    have Hlb := Lib.hid hlb
    have q0 := RQ4.out.cell 0
    have q1 := RQ4.out.cell 1
    have qf0 := RQ4.out.frozen 0
    have qf1 := RQ4.out.frozen 1
    have r0 := RR4.out.cell 0
    have r1 := RR4.out.cell 1
    have rf0 := RR4.out.frozen 0
    have rf1 := RR4.out.frozen 1
    simp only [List.getElem?_cons_zero, List.getElem?_cons_succ] at q0 q1 r0 r1
    clear RQ hb4 hg4 hown4 hlb
    go_wp2
    refine bodyPost_ret (v := .tuple #[.agg #[.slice VA t.sizes.length VC, .slice LA2 (t.cos.length - 1) LC2], .bool true]) (by simp [results, Try.results12, go_sem, r0, r1]) rfl ?_
    have hne : w.heap.size + 1 ≠ w2.heap.size := by omega
    have H4 : Below w.heap.size w w4 := H2.out.trans ⟨Hg4.out.os, Hg4.out.tape, Hg4.out.output, by omega, fun g hg => Hb4.out g (by omega)⟩
    refine ⟨_, _, by rw [Hok.out], ((H4.setCell (by dsimp only; omega) _).setCell (by dsimp only; omega) _).setCell (by dsimp only; omega) _, ?_⟩
    rw [Hwo.out]
    have hblk : ∀ g, g ≠ w2.heap.size → g ≠ w.heap.size + 1 → (((w4.setCell ⟨w2.heap.size, 1, none⟩ (.slice LA2 (t.cos.length - 1) LC2)).setCell ⟨w.heap.size + 1, 0, none⟩ (.slice VA t.sizes.length VC)).setCell ⟨w.heap.size + 1, 1, none⟩ (.slice LA2 (t.cos.length - 1) LC2)).heap[g]? = w4.heap[g]? := fun g h1 h2 =>
      (Below.heap_setCell _ _ _ _ (by dsimp only; omega)).trans ((Below.heap_setCell _ _ _ _ (by dsimp only; omega)).trans (Below.heap_setCell _ _ _ _ (by dsimp only; omega)))
    refine ⟨C, by omega, ?_, HvC.out, ?_⟩
    · exact ownsRow_lower (ownsRow_keep1 Hov.out fun g hg => (hblk g (by have := HvC.out g hg; omega) (by have := (owns_lt Hov.out g hg).1; omega)).trans (Hb4.out g (by have := HvC.out g hg; omega))) (by omega)
    · rw [cut_len hkl]
      refine CosOwned.congr (f := fun i => t.cos.getD (sh k i) default) ?_ (fun i hi => (cut_at hkl hi).symm)
      refine ⟨_, fun i => m (sh k i), fun i => mv (sh k i), ownsRow_keep1 Hown4.out fun g hg => ?_, ?_⟩
      · have h1 := owns_lt How.out g (by rw [← Hlb.out]; exact hg)
        exact hblk g (by omega) (by omega)
      · rw [Hlb.out]
        refine Hmo.out.cut How.out.1 hkl (by simp [World.setCell]; omega) fun g h1 h2 h3 => ?_
        exact (hblk g (by omega) (by omega)).trans ((Hg4.out.block g (by simp; omega) (fun e => h3 e.symm)).trans (Below.heap_alloc w2 _ g h2))
  · have hokf : hasC t i = false := by simpa using hok
    have hwo : wout t i = ⟨[], []⟩ := wout_no hokf
    have Hwo := Lib.hid hwo
    have Hok := Lib.hid hokf
    rw [hokf]
    clear hok hokf hwo
    go_wp2
    refine bodyPost_ret (v := .tuple #[.agg #[.slice none 0 0, .slice none 0 0], .bool false]) (by simp [results, Try.results12, go_sem, r0, r1]) rfl ?_
    refine ⟨_, _, by rw [Hok.out], (H1.out.setCell (by dsimp only; omega) _).setCell (by dsimp only; omega) _, ?_⟩
    rw [Hwo.out]
    exact ⟨w.heap.size, Nat.le_refl _, World.ownsRow_nil _ _ _ _, fun g hg => (by simp [Value.ownBlock] at hg), CosOwned.nil _ _ _⟩
end Go.Proofs.Ytplpnammboofiaa
