/-
  The contract of the model's WithoutCoercion, and what a cut leaves of valid types.
-/
import Derived.Test.YtplpnammboofiaaSwc
namespace Go.Proofs.Ytplpnammboofiaa
open Go.RowKit

theorem tyOk_cut {t : Ty} {k : Nat} (h : tyOk t = true) : tyOk (cutCo t k) = true := by
  simp only [tyOk, Bool.and_eq_true, List.all_eq_true, decide_eq_true_eq] at h ⊢
  refine ⟨⟨h.1.1, ?_⟩, fun c hc => h.2 c ?_⟩
  · have h1 := h.1.2
    show (t.cos.take k ++ t.cos.drop (k + 1)).length ≤ 8
    rw [List.length_append, List.length_take, List.length_drop]
    omega
  · rcases List.mem_append.1 hc with h1 | h1
    · exact List.mem_of_mem_take h1
    · exact List.mem_of_mem_drop h1
theorem wout_yes {t : Ty} {i : Int} (h : hasC t i = true) : wout t i = cutCo t i.toNat := by unfold wout; rw [if_pos h]
theorem wout_no {t : Ty} {i : Int} (h : hasC t i = false) : wout t i = ⟨[], []⟩ := by unfold wout; rw [if_neg (by rw [h]; exact Bool.false_ne_true)]
theorem wout_bulk (t : Ty) (i : Int) : (wout t i).bulk ≤ 45 := by
  cases h : hasC t i with
  | true => rw [wout_yes h]; exact tyOk_bulk (tyOk_cut (hasC_of h).1)
  | false => rw [wout_no h]; simp [Ty.bulk, mapsLen]

set_option maxRecDepth 100000 in
set_option maxHeartbeats 1000000 in
theorem specCut_any (lo hi : Nat) (sv cv : Value) (t : Ty) (i : Int) (w : World) (hv : TyAt w lo hi sv cv t) (hB : hi ≤ w.heap.size) (hbk : t.bulk ≤ 1048576) :
    Calls Try.prog 13 #[.agg #[sv, cv], .int .i64 i] w fun e w' => ∃ v l, e = .returned (.tuple #[.agg #[v, l], .bool (hasC t i)]) ∧ Below w.heap.size w w' ∧ TyAt w' w.heap.size w'.heap.size v l (wout t i) := by
  obtain ⟨A, cap, rfl, hl1, hm1, _⟩ := hv.1.form
  obtain ⟨B, bap, rfl, hl2, hm2, _⟩ := hv.2.form
  have h3 : Below w.heap.size w ((w.alloc (.cells #[.slice A t.sizes.length cap, .slice B t.cos.length bap] 26)).alloc (.cells #[.slice none 0 0, .slice none 0 0] 26)) := by go_grown
  have hv3 := Lib.hid (hv.below h3 hB)
  have H3 := Lib.hid h3
  have Hb := Lib.hid (wout_bulk t i)
  clear hv h3
  go_enter Try.func13, Try.ntmps13
  go_wp2_with fail
  refine (specRawCut_any lo hi _ _ t i _ hv3.out (by simp; omega) hbk).mono ?_
  rintro e w1 ⟨v, l, rfl, hb1, hty1⟩
  have H1 := Lib.hid (H3.out.trans (hb1.mono (by simp; omega)))
  obtain ⟨VA, VC, rfl, _, _, _⟩ := hty1.1.form
  obtain ⟨LA, LC, rfl, _, _, _⟩ := hty1.2.form
  have RR : Row w1 (w.heap.size + 1) 26 [.slice none 0 0, .slice none 0 0] := by
    have h := Row.new (w.alloc (.cells #[.slice A t.sizes.length cap, .slice B t.cos.length bap] 26)) 26 [.slice none 0 0, .slice none 0 0]
    rw [World.size_alloc] at h
    exact h.below hb1 (by simp)
  have hs1 : w.heap.size + 1 + 1 ≤ w1.heap.size := by have := hb1.size; simpa using this
  simp only [World.size_alloc] at hty1
  have Hty1 := Lib.hid hty1
  have RR1 := Lib.hid RR
  clear hb1 hty1 RR
  go_wp2_with fail
  have hbx : Below w1.heap.size w1 (w1.alloc (.cells #[.slice VA (wout t i).sizes.length VC, .slice LA (wout t i).cos.length LC] 26)) := (Below.refl _ _).alloc (Nat.le_refl _) _
  refine (ownTypes_any _ _ _ _ (wout t i) _ (Hty1.out.below hbx (Nat.le_refl _)) (by simp) (Nat.le_trans Hb.out (by omega))).mono ?_
  rintro e w2 ⟨v', l', rfl, hb2, hty2⟩
  obtain ⟨VA2, VC2, rfl, _, _, _⟩ := hty2.1.form
  obtain ⟨LA2, LC2, rfl, _, _, _⟩ := hty2.2.form
  have hb12 := hbx.trans (hb2.mono (by simp))
  have hs2 := hb12.size
  have RR2 := Lib.hid (RR1.out.below hb12 (by omega))
  have H2 := Lib.hid (H1.out.trans (hb12.mono (by omega)))
  have Hty2 := Lib.hid (hty2.more (lo' := w.heap.size + 1 + 1) (hi' := w2.heap.size) (by simp; omega) (Nat.le_refl _))
  have r0 := RR2.out.cell 0
  have r1 := RR2.out.cell 1
  have rf0 := RR2.out.frozen 0
  have rf1 := RR2.out.frozen 1
  simp only [List.getElem?_cons_zero, List.getElem?_cons_succ] at r0 r1
  clear hb2 hty2 hbx hb12
  go_wp2
  refine bodyPost_ret (v := .tuple #[.agg #[.slice VA2 (wout t i).sizes.length VC2, .slice LA2 (wout t i).cos.length LC2], .bool (hasC t i)]) (by simp [results, Try.results13, go_sem, r0, r1]) rfl ?_
  exact ⟨_, _, rfl, (H2.out.setCell (by dsimp only; omega) _).setCell (by dsimp only; omega) _, (Hty2.out.keep fun k hk1 _ => (Below.heap_setCell _ _ _ _ (by dsimp only; omega)).trans (Below.heap_setCell _ _ _ _ (by dsimp only; omega))).more (by omega) (by simp [World.setCell])⟩
end Go.Proofs.Ytplpnammboofiaa
