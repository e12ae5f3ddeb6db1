/-
  The contract of the model's WithCoercion.
-/
import Derived.Test.YtplpnammboofiaaSraw
namespace Go.Proofs.Ytplpnammboofiaa
open Go.RowKit

theorem tyOk_bulk {t : Ty} (h : tyOk t = true) : t.bulk ≤ 45 := by
  have h1 : sizesOk t.sizes = true := by
    simp only [tyOk, Bool.and_eq_true] at h
    exact h.1.1
  have h2 : t.cos.length ≤ 8 := by
    simp only [tyOk, Bool.and_eq_true, decide_eq_true_eq] at h
    exact h.1.2
  have h3 : ∀ i, ∀ (hi : i < t.cos.length), coOk t.sizes t.cos[i] = true := fun i hi => by
    simp only [tyOk, Bool.and_eq_true, List.all_eq_true] at h
    exact h.2 _ (List.getElem_mem hi)
  obtain ⟨_, h5, h6⟩ := sizesOk_of h1
  have key : ∀ k, k ≤ t.cos.length → mapsLen t.cos k ≤ 4 * k := by
    intro k
    induction k with
    | zero => intro _; rw [mapsLen_zero]; omega
    | succ k ih =>
      intro hk
      have hi := ih (by omega)
      rw [mapsLen_succ _ _ (by omega)]
      obtain ⟨c1, c2, c3, c4, _⟩ := coOk_of (h3 k (by omega))
      have e : t.cos.getD k default = t.cos[k] := by rw [List.getD_eq_getElem?_getD, List.getElem?_eq_getElem (by omega : k < t.cos.length)]; rfl
      rw [e]
      have hs : t.cos[k].src.toNat < t.sizes.length := by omega
      have hd := h6 _ hs
      rw [List.getD_eq_getElem?_getD, List.getElem?_eq_getElem hs, Option.getD_some] at c4
      omega
  have := key _ (Nat.le_refl _)
  unfold Ty.bulk
  omega
theorem withCo_bulk (t : Ty) (c : Co) : (withCo t c).bulk ≤ 45 := by
  unfold withCo
  by_cases h : withOk t c = true
  · rw [if_pos h]
    unfold withOk at h
    simp only [Bool.and_eq_true] at h
    exact tyOk_bulk h.2
  · rw [if_neg h]
    simp [Ty.bulk, mapsLen]

set_option maxRecDepth 100000 in
set_option maxHeartbeats 1000000 in
theorem specWith_any (lo hi : Nat) (sv cv x y z : Value) (t : Ty) (c : Co) (w : World) (hv : TyAt w lo hi sv cv t) (hc : CoAt w lo hi x y z c) (hB : hi ≤ w.heap.size) (hbk : t.bulk ≤ 1048576) (hlen : c.map.length ≤ 1048576) :
    Calls Try.prog 9 #[.agg #[sv, cv], .agg #[x, y, z]] w fun e w' => ∃ v l, e = .returned (.tuple #[.agg #[v, l], .bool (withOk t c)]) ∧ Below w.heap.size w w' ∧ TyAt w' w.heap.size w'.heap.size v l (withCo t c) := by
  obtain ⟨A, cap, rfl, hl1, hm1, _⟩ := hv.1.form
  obtain ⟨B, bap, rfl, hl2, hm2, _⟩ := hv.2.form
  obtain ⟨rfl, rfl, hs, hd, hcz⟩ := hc
  obtain ⟨A2, cap2, rfl, _, _, hcz⟩ := hcz.form
  have h3 : Below w.heap.size w (((w.alloc (.cells #[.slice A t.sizes.length cap, .slice B t.cos.length bap] 26)).alloc (.cells #[.int .i64 c.src, .int .i64 c.dst, .slice A2 c.map.length cap2] 28)).alloc (.cells #[.slice none 0 0, .slice none 0 0] 26)) := by go_grown
  have hv3 := Lib.hid (hv.below h3 hB)
  have hc3 := Lib.hid (hcz.below h3 hB)
  have H3 := Lib.hid h3
  have Hb := Lib.hid (withCo_bulk t c)
  clear hv hcz h3
  go_enter Try.func9, Try.ntmps9
  go_wp2_with fail
  refine (specRaw_any lo hi _ _ _ _ _ t c _ hv3.out ⟨rfl, rfl, hs, hd, hc3.out⟩ (by simp; omega) hbk hlen).mono ?_
  rintro e w1 ⟨v, l, rfl, hb1, hty1⟩
  have H1 := Lib.hid (H3.out.trans (hb1.mono (by simp; omega)))
  obtain ⟨VA, VC, rfl, _, _, _⟩ := hty1.1.form
  obtain ⟨LA, LC, rfl, _, _, _⟩ := hty1.2.form
  have RR : Row w1 (w.heap.size + 1 + 1) 26 [.slice none 0 0, .slice none 0 0] := by
    have h := Row.new ((w.alloc (.cells #[.slice A t.sizes.length cap, .slice B t.cos.length bap] 26)).alloc (.cells #[.int .i64 c.src, .int .i64 c.dst, .slice A2 c.map.length cap2] 28)) 26 [.slice none 0 0, .slice none 0 0]
    rw [World.size_alloc, World.size_alloc] at h
    exact h.below hb1 (by simp)
  have hs1 : w.heap.size + 1 + 1 + 1 ≤ w1.heap.size := by have := hb1.size; simpa using this
  simp only [World.size_alloc] at hty1
  have Hty1 := Lib.hid hty1
  have RR1 := Lib.hid RR
  clear hb1 hty1 RR
  go_wp2_with fail
  have hbx : Below w1.heap.size w1 (w1.alloc (.cells #[.slice VA (withCo t c).sizes.length VC, .slice LA (withCo t c).cos.length LC] 26)) := (Below.refl _ _).alloc (Nat.le_refl _) _
  refine (ownTypes_any _ _ _ _ (withCo t c) _ (Hty1.out.below hbx (Nat.le_refl _)) (by simp) (Nat.le_trans Hb.out (by omega))).mono ?_
  rintro e w2 ⟨v', l', rfl, hb2, hty2⟩
  obtain ⟨VA2, VC2, rfl, _, _, _⟩ := hty2.1.form
  obtain ⟨LA2, LC2, rfl, _, _, _⟩ := hty2.2.form
  have hb12 := hbx.trans (hb2.mono (by simp))
  have hs2 := hb12.size
  have RR2 := Lib.hid (RR1.out.below hb12 (by omega))
  have H2 := Lib.hid (H1.out.trans (hb12.mono (by omega)))
  have Hty2 := Lib.hid (hty2.more (lo' := w.heap.size + 1 + 1 + 1) (hi' := w2.heap.size) (by simp; omega) (Nat.le_refl _))
  have r0 := RR2.out.cell 0
  have r1 := RR2.out.cell 1
  have rf0 := RR2.out.frozen 0
  have rf1 := RR2.out.frozen 1
  simp only [List.getElem?_cons_zero, List.getElem?_cons_succ] at r0 r1
  clear hb2 hty2 hbx hb12
  go_wp2
  refine bodyPost_ret (v := .tuple #[.agg #[.slice VA2 (withCo t c).sizes.length VC2, .slice LA2 (withCo t c).cos.length LC2], .bool (withOk t c)]) (by simp [results, Try.results9, go_sem, r0, r1]) rfl ?_
  exact ⟨_, _, rfl, (H2.out.setCell (by dsimp only; omega) _).setCell (by dsimp only; omega) _, (Hty2.out.keep fun k hk1 _ => (Below.heap_setCell _ _ _ _ (by dsimp only; omega)).trans (Below.heap_setCell _ _ _ _ (by dsimp only; omega))).more (by omega) (by simp [World.setCell])⟩
end Go.Proofs.Ytplpnammboofiaa
