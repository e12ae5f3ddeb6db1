/-
  Systems in memory of the call's own; the contract of the function that marks them.
-/
import Derived.Test.YtilcahidmoaakaaMarkf
import Derived.Test.YtilcahidmoaakaaMarkt
namespace Go.Proofs.Ytilcahidmoaakaa
open Go.RowKit

/-- A system in memory of the call's own. -/
structure OwnSy (w : World) (gs gc : Nat) (m : Nat → Nat) (mv : Nat → Value) (sv cv : Value) (ss : List Int) (n : Nat) (f : Nat → Co) (gf : Nat) (mf : Nat → Bool → Nat) (mvf : Nat → Bool → Value) (fv : Value) (nf : Nat) (ff : Nat → Fu) : Prop where
  ty : OwnTy w 3 67 gs gc m mv sv cv ss n f
  fs : OwnFus w 3 55 gf mf mvf fv nf ff
  apart : ApartF gf mf nf ff
  away : ∀ k, OwnTy.uses gs gc m ss n f k → FuKeeps gf mf nf ff k
/-- The blocks of such a system. -/
def OwnSy.uses (gs gc : Nat) (m : Nat → Nat) (ss : List Int) (n : Nat) (f : Nat → Co) (gf : Nat) (mf : Nat → Bool → Nat) (nf : Nat) (ff : Nat → Fu) (k : Nat) : Prop := OwnTy.uses gs gc m ss n f k ∨ ¬ FuKeeps gf mf nf ff k
theorem OwnTy.uses_lt {w : World} {ti tc : TypeId} {gs gc n : Nat} {m : Nat → Nat} {mv : Nat → Value} {sv cv : Value} {ss : List Int} {f : Nat → Co} (h : OwnTy w ti tc gs gc m mv sv cv ss n f) {k : Nat} (hk : OwnTy.uses gs gc m ss n f k) : k < w.heap.size := by
  rcases hk with ⟨h0, rfl⟩ | ⟨h0, rfl⟩ | ⟨i, hi, h0, rfl⟩
  · exact h.sizes.lt h0
  · exact h.cos.lt.1 h0
  · exact h.cos.lt.2 i hi h0
theorem not_keeps {gf nf : Nat} {mf : Nat → Bool → Nat} {ff : Nat → Fu} {k : Nat} (h : ¬ FuKeeps gf mf nf ff k) : (0 < nf ∧ k = gf) ∨ ∃ i b, i < nf ∧ 0 < ((ff i).zs b).length ∧ k = mf i b := by
  unfold FuKeeps at h
  rcases Classical.em (0 < nf → k ≠ gf) with h1 | h1
  · rcases Classical.em (∀ i b, i < nf → 0 < ((ff i).zs b).length → k ≠ mf i b) with h2 | h2
    · exact absurd ⟨h1, h2⟩ h
    · refine .inr ?_
      apply Classical.byContradiction
      intro hn
      exact h2 fun i b hi hl e => hn ⟨i, b, hi, hl, e⟩
  · refine .inl ?_
    apply Classical.byContradiction
    intro hn
    exact h1 fun h0 e => hn ⟨h0, e⟩

/-- A system as the copying lays it is such a system. -/
theorem NewSy.own {w : World} {g : Nat} {y : Sy} (h : NewSy w 3 67 55 g y) (hb : y.bulk ≤ 1048576) :
    OwnSy w g (g + 1) (fun j => g + 1 + 1 + 4 * j + 3) (fun j => .slice (some ⟨g + 1 + 1 + 4 * j + 3, 0, none⟩) (y.ty.cos.getD j default).map.length (y.ty.cos.getD j default).map.length)
      (.slice (some ⟨g, 0, none⟩) y.ty.sizes.length y.ty.sizes.length) (.slice (some ⟨g + 1, 0, none⟩) y.ty.cos.length y.ty.cos.length) y.ty.sizes y.ty.cos.length (fun j => y.ty.cos.getD j default)
      (g + 2 + 4 * y.ty.cos.length) (fun j b => g + 2 + 4 * y.ty.cos.length + 1 + 5 * j + (if b then 4 else 3)) (fun j b => .slice (some ⟨g + 2 + 4 * y.ty.cos.length + 1 + 5 * j + (if b then 4 else 3), 0, none⟩) ((y.fs.getD j default).zs b).length ((y.fs.getD j default).zs b).length)
      (.slice (some ⟨g + 2 + 4 * y.ty.cos.length, 0, none⟩) y.fs.length y.fs.length) y.fs.length (fun j => y.fs.getD j default) := by
  have hb' := hb
  unfold Sy.bulk at hb'
  obtain ⟨h1, ⟨xs, h2, h3⟩, h4⟩ := h
  refine ⟨h1.own (by omega), ⟨xs, ⟨_, _, rfl, Nat.le_refl _, by unfold maxLen; omega, fun h0 => List.eq_nil_of_length_eq_zero (by rw [h3.1, h0]), fun _ => ⟨rfl, [], by simpa using h2⟩⟩, h3.1, fun i hi => ?_, fun i b hi => ?_⟩, fun i b hi _ => ⟨?_, fun j c hj hne _ => ?_⟩, fun k hk => ?_⟩
  · obtain ⟨a, b, c, d⟩ := h3.2 i hi hi
    have e : y.fs.getD i default = y.fs[i] := by rw [List.getD_eq_getElem?_getD, List.getElem?_eq_getElem hi]; rfl
    simp only [e]
    exact ⟨a, b, c, d⟩
  · have e : y.fs.getD i default = y.fs[i] := by rw [List.getD_eq_getElem?_getD, List.getElem?_eq_getElem hi]; rfl
    simp only [e]
    have hw := y.fu_le i hi
    unfold Fu.weight at hw
    cases b with
    | false => exact (h4 i hi).1.own (Nat.le_refl _) (by show y.fs[i].args.length ≤ maxLen; unfold maxLen; omega)
    | true => exact (h4 i hi).2.own (Nat.le_refl _) (by show y.fs[i].table.length ≤ maxLen; unfold maxLen; omega)
  · show g + 2 + 4 * y.ty.cos.length + 1 + 5 * i + _ ≠ g + 2 + 4 * y.ty.cos.length
    split <;> omega
  · show g + 2 + 4 * y.ty.cos.length + 1 + 5 * j + _ ≠ g + 2 + 4 * y.ty.cos.length + 1 + 5 * i + _
    rcases hne with hne | hne
    · cases b <;> cases c <;> simp <;> omega
    · cases b <;> cases c <;> simp at hne ⊢ <;> omega
  · have hk2 : g ≤ k ∧ k < g + 2 + 4 * y.ty.cos.length := by
      rcases hk with ⟨_, rfl⟩ | ⟨_, rfl⟩ | ⟨i, hi, _, rfl⟩
      · omega
      · omega
      · dsimp only; omega
    exact ⟨fun _ => by omega, fun i b hi _ => by dsimp only; split <;> omega⟩

set_option maxRecDepth 100000 in
set_option maxHeartbeats 2000000 in
theorem markSystem_any (gs gc n : Nat) (m : Nat → Nat) (mv : Nat → Value) (sv cv : Value) (ss : List Int) (f : Nat → Co) (gf nf : Nat) (mf : Nat → Bool → Nat) (mvf : Nat → Bool → Value) (fv : Value) (ff : Nat → Fu) (k0 : Int) (w : World)
    (hv : OwnSy w gs gc m mv sv cv ss n f gf mf mvf fv nf ff) (h0 : 0 ≤ k0) (h1 : k0 + (ss.length : Int) + 2 * (n : Int) + (lenSum f n : Int) + 2 * (nf : Int) + (lenF ff nf : Int) ≤ 900000000) :
    Calls Try.prog 26 #[.agg #[sv, cv, fv], .int .i64 k0] w fun e w' => e = .returned (.int .i64 (markAtF ff (markAt f (k0 + ss.length) n) nf)) ∧ Kept (fun k => ¬ OwnSy.uses gs gc m ss n f gf mf nf ff k) w w' := by
  have Hv := Lib.hid hv
  obtain ⟨⟨⟨A, cap, rfl, _⟩, ⟨_, ⟨B, bap, rfl, _⟩, _⟩, _, _⟩, ⟨_, ⟨F, fap, rfl, _⟩, _⟩, _, _⟩ := hv
  have hat : markAt f (k0 + ss.length) n = k0 + (ss.length : Int) + 2 * (n : Int) + (lenSum f n : Int) := rfl
  have h3 : Below w.heap.size w (w.alloc (.cells #[.slice A ss.length cap, .slice B n bap, .slice F nf fap] 36)) := by go_grown
  have H1 := Lib.hid (Below.refl (w.heap.size + 1) (w.alloc (.cells #[.slice A ss.length cap, .slice B n bap, .slice F nf fap] 36)))
  go_enter Try.func26, Try.ntmps26
  go_wp2_with fail
  refine (markTypes_any gs gc n m mv _ _ ss f k0 _ (Hv.out.ty.keep fun k hk _ => h3.block k hk) h0 (by omega)).mono ?_
  rintro e w1 ⟨rfl, hk1, hs1, ho1⟩
  have hrow : Row w1 w.heap.size 36 [.slice A ss.length cap, .slice B n bap, .slice F nf fap] := (Row.new w 36 [.slice A ss.length cap, .slice B n bap, .slice F nf fap]).keep (hk1.block _ (by simp) (fun h => by have := Hv.out.ty.uses_lt h; omega))
  have q2 := hrow.cell 2
  simp only [List.getElem?_cons_zero, List.getElem?_cons_succ] at q2
  have Hk1 := Lib.hid hk1
  have Hs1 := Lib.hid hs1
  have H3 := Lib.hid h3
  have hf1 : OwnFus w1 3 55 gf mf mvf (.slice F nf fap) nf ff := by
    have hlt := Hv.out.fs.lt
    refine Hv.out.fs.keep (fun h0 => ?_) (fun i b hi hl => ?_)
    · exact (hk1.block gf (by have := hlt.1 h0; simp; omega) (fun h => (Hv.out.away _ h).1 h0 rfl)).trans (h3.block _ (hlt.1 h0))
    · exact (hk1.block _ (by have := hlt.2 i b hi hl; simp; omega) (fun h => (Hv.out.away _ h).2 i b hi hl rfl)).trans (h3.block _ (hlt.2 i b hi hl))
  have Hf1 := Lib.hid hf1
  clear hk1 hs1 ho1 h3 hrow hf1 H1
  obtain ⟨M, hM⟩ : ∃ M, M = markAt f (k0 + ss.length) n := ⟨_, rfl⟩
  rw [← hM]
  have HM := Lib.hid hM
  have hM0 : 0 ≤ M := by rw [hM, hat]; omega
  have hM1 : M + 2 * (nf : Int) + (lenF ff nf : Int) ≤ 900000000 := by rw [hM, hat]; omega
  clear hM hat
  go_wp2_with fail
  refine (markFunctionS_any gf nf mf mvf _ ff M _ Hf1.out Hv.out.apart hM0 hM1).mono ?_
  rintro e w2 ⟨rfl, hk2, ho2⟩
  have Hk2 := Lib.hid hk2
  clear hk2 ho2
  go_wp2
  go_ret
  rw [← HM.out]
  refine ⟨rfl, ?_⟩
  have k0 : Kept (fun k => ¬ OwnSy.uses gs gc m ss n f gf mf nf ff k) w (w.alloc (.cells #[.slice A ss.length cap, .slice B n bap, .slice F nf fap] 36)) := ⟨H3.out.os, H3.out.tape, H3.out.output, H3.out.size, fun k hk _ => H3.out.block k hk⟩
  exact (k0.trans (Hk1.out.weak fun k h h2 => h (.inl h2))).trans (Hk2.out.weak fun k h => Classical.byContradiction fun h2 => h (.inr h2))
end Go.Proofs.Ytilcahidmoaakaa
