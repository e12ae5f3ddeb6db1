/-
  The contracts of the functions that mark types, and look whether the marks hold.
  Systems in memory of the call's own; the contract of the function that marks them.
  Systems that a call has copied: what they read as, and that they lie in memory of the call's own.
  What it is that types are valid, as a Bool function on plain data; the contracts of the model's functions that ask it.
  What it is that a function fits types, and that a system is valid; plain data only.
  A map from names to the indices of the functions that have them: as plain data, and what it is for no two functions to be alike.
-/
import Derived.Test.YtplncocfbajefaaD3
import Derived.Test.YtplncocfbajefaaD4
import Derived.Test.YtplncocfbajefaaD7
import Derived.Test.YtplncocfbajefaaRows
import Derived.Test.YtplncocfbajefaaD1
import Derived.Outline
import Derived.Handy
import Derived.BigQuiet
import Derived.Deep.QuietTactic
import Derived.StillTailTactics
import Derived.Maps.OwnRows
import Derived.Maps.Views
import Derived.Maps.RangeWalk
import Derived.StringKeys
namespace Go.Proofs.Ytplncocfbajefaa
open Go.RowKit

set_option maxRecDepth 100000 in
set_option maxHeartbeats 1000000 in
theorem markTypes_any (gs gc n : Nat) (m : Nat → Nat) (mv : Nat → Value) (sv cv : Value) (ss : List Int) (f : Nat → Co) (k0 : Int) (w : World) (hv : OwnTy w 3 42 gs gc m mv sv cv ss n f) (h0 : 0 ≤ k0)
    (h1 : k0 + (ss.length : Int) + 2 * (n : Int) + (lenSum f n : Int) ≤ 900000000) :
    Calls Try.prog 30 #[.agg #[sv, cv], .int .i64 k0] w fun e w' => e = .returned (.int .i64 (markAt f (k0 + ss.length) n)) ∧ Kept (fun k => ¬ OwnTy.uses gs gc m ss n f k) w w' ∧ w'.heap.size = w.heap.size + 1 ∧
      OwnTy w' 3 42 gs gc m mv sv cv (markL k0 ss.length) n (mixCo f (k0 + ss.length) n) := by
  have Hv := Lib.hid hv
  obtain ⟨⟨A, cap, rfl, _⟩, ⟨_, ⟨B, bap, rfl, _⟩, _⟩, _, _⟩ := hv
  have hin : ∀ (k : Nat), k < w.heap.size → ∀ o : Obj, (w.alloc o).heap[k]? = w.heap[k]? := fun k hk o => Below.heap_alloc w o k hk
  have Hin := Lib.hid hin
  clear hin
  go_enter Try.func30, Try.ntmps30
  go_wp2_with fail
  refine (markIntS_any gs _ ss k0 _ (Hv.out.sizes.keep fun h => Hin.out _ (Hv.out.sizes.lt h) _) h0 (by omega)).mono ?_
  rintro e w1 ⟨rfl, hk1, ho1, hs1⟩
  have q1 : w1.cell? ⟨w.heap.size, 1, none⟩ = some (.slice B n bap) := by
    have hb : w1.heap[w.heap.size]? = (w.alloc (.cells #[.slice A ss.length cap, .slice B n bap] 35)).heap[w.heap.size]? := hk1.block _ (by simp) (fun h => by have := Hv.out.sizes.lt h; omega)
    rw [World.cell?_of_block (w := w.alloc (.cells #[.slice A ss.length cap, .slice B n bap] 35)) hb]
    simp [go_sem]
  have Hk1 := Lib.hid hk1
  have Ho1 := Lib.hid ho1
  have Hs1 := Lib.hid hs1
  have hco : OwnCos w1 3 42 gc m mv (.slice B n bap) n f := Hv.out.cos.keep
    (fun h => (Hk1.out.block gc (by have := Hv.out.cos.lt.1 h; simp; omega) (fun h2 => (Hv.out.away h2).1.symm)).trans (Hin.out _ (Hv.out.cos.lt.1 h) _))
    (fun i hi hl => (Hk1.out.block (m i) (by have := Hv.out.cos.lt.2 i hi hl; simp; omega) (fun h2 => ((Hv.out.away h2).2 i hi hl).symm)).trans (Hin.out _ (Hv.out.cos.lt.2 i hi hl) _))
  have Hco := Lib.hid hco
  clear hk1 ho1 hs1 hco
  go_wp2_with fail
  refine (markCoercionS_any gc n m mv _ f (k0 + (ss.length : Int)) _ Hco.out Hv.out.apart (by omega) (by omega)).mono ?_
  rintro e w2 ⟨rfl, hk2, hs2, ho2⟩
  have Hk2 := Lib.hid hk2
  have Ho2 := Lib.hid ho2
  have Hs2 := Lib.hid hs2
  clear hk2 ho2 hs2
  go_wp2
  go_ret
  refine ⟨rfl, ?_, by rw [Hs2.out, Hs1.out]; simp, ⟨?_, Ho2.out, Hv.out.apart.mix _ _, fun h => ?_⟩⟩
  · refine (((Kept.refl _ w).alloc _).trans (Hk1.out.weak fun k hk h e => hk (.inl ⟨h, e⟩))).trans (Hk2.out.weak fun k hk => ?_)
    exact ⟨fun hn e => hk (.inr (.inl ⟨hn, e⟩)), fun i hi hl e => hk (.inr (.inr ⟨i, hi, hl, e⟩))⟩
  · refine Ho1.out.keep fun h => ?_
    rw [markL_len] at h
    have hlt := Hv.out.sizes.lt h
    exact Hk2.out.block gs (by rw [Hs1.out]; simp; omega) ⟨fun _ => (Hv.out.away h).1, fun i hi hl => (Hv.out.away h).2 i hi hl⟩
  · rw [markL_len] at h
    exact ⟨(Hv.out.away h).1, fun i hi hl => (Hv.out.away h).2 i hi (by rw [mixCo_len] at hl; exact hl)⟩
end Go.Proofs.Ytplncocfbajefaa

namespace Go.Proofs.Ytplncocfbajefaa
open Go.RowKit

/-- A system in memory of the call's own. -/
structure OwnSy (w : World) (gs gc : Nat) (m : Nat → Nat) (mv : Nat → Value) (sv cv : Value) (ss : List Int) (n : Nat) (f : Nat → Co) (gf : Nat) (mf : Nat → Bool → Nat) (mvf : Nat → Bool → Value) (fv : Value) (nf : Nat) (ff : Nat → Fu) : Prop where
  ty : OwnTy w 3 42 gs gc m mv sv cv ss n f
  fs : OwnFus w 3 79 gf mf mvf fv nf ff
  apart : ApartF gf mf nf ff
  away : ∀ k, OwnTy.uses gs gc m ss n f k → FuKeeps gf mf nf ff k
/-- The blocks of such a system. -/
def OwnSy.uses (gs gc : Nat) (m : Nat → Nat) (ss : List Int) (n : Nat) (f : Nat → Co) (gf : Nat) (mf : Nat → Bool → Nat) (nf : Nat) (ff : Nat → Fu) (k : Nat) : Prop := OwnTy.uses gs gc m ss n f k ∨ ¬ FuKeeps gf mf nf ff k
theorem OwnTy.uses_lt {w : World} {ti tc : TypeId} {gs gc n : Nat} {m : Nat → Nat} {mv : Nat → Value} {sv cv : Value} {ss : List Int} {f : Nat → Co} (h : OwnTy w ti tc gs gc m mv sv cv ss n f) {k : Nat} (hk : OwnTy.uses gs gc m ss n f k) : k < w.heap.size := by
  rcases hk with ⟨h0, rfl⟩ | ⟨h0, rfl⟩ | ⟨i, hi, h0, rfl⟩
  · exact h.sizes.lt h0
  · exact h.cos.lt.1 h0
  · exact h.cos.lt.2 i hi h0
theorem not_keeps {gf nf : Nat} {mf : Nat → Bool → Nat} {ff : Nat → Fu} {k : Nat} (h : ¬ FuKeeps gf mf nf ff k) : (0 < nf ∧ k = gf) ∨ ∃ i b, i < nf ∧ 0 < ((ff i).zs b).length ∧ k = mf i b := by
  unfold FuKeeps at h
  rcases Classical.em (0 < nf → k ≠ gf) with h1 | h1
  · rcases Classical.em (∀ i b, i < nf → 0 < ((ff i).zs b).length → k ≠ mf i b) with h2 | h2
    · exact absurd ⟨h1, h2⟩ h
    · refine .inr ?_
      apply Classical.byContradiction
      intro hn
      exact h2 fun i b hi hl e => hn ⟨i, b, hi, hl, e⟩
  · refine .inl ?_
    apply Classical.byContradiction
    intro hn
    exact h1 fun h0 e => hn ⟨h0, e⟩

/-- A system as the copying lays it is such a system. -/
theorem NewSy.own {w : World} {g : Nat} {y : Sy} (h : NewSy w 3 42 79 g y) (hb : y.bulk ≤ 1048576) :
    OwnSy w g (g + 1) (fun j => g + 1 + 1 + 4 * j + 3) (fun j => .slice (some ⟨g + 1 + 1 + 4 * j + 3, 0, none⟩) (y.ty.cos.getD j default).map.length (y.ty.cos.getD j default).map.length)
      (.slice (some ⟨g, 0, none⟩) y.ty.sizes.length y.ty.sizes.length) (.slice (some ⟨g + 1, 0, none⟩) y.ty.cos.length y.ty.cos.length) y.ty.sizes y.ty.cos.length (fun j => y.ty.cos.getD j default)
      (g + 2 + 4 * y.ty.cos.length) (fun j b => g + 2 + 4 * y.ty.cos.length + 1 + 5 * j + (if b then 4 else 3)) (fun j b => .slice (some ⟨g + 2 + 4 * y.ty.cos.length + 1 + 5 * j + (if b then 4 else 3), 0, none⟩) ((y.fs.getD j default).zs b).length ((y.fs.getD j default).zs b).length)
      (.slice (some ⟨g + 2 + 4 * y.ty.cos.length, 0, none⟩) y.fs.length y.fs.length) y.fs.length (fun j => y.fs.getD j default) := by
  have hb' := hb
  unfold Sy.bulk at hb'
  obtain ⟨h1, ⟨xs, h2, h3⟩, h4⟩ := h
  refine ⟨h1.own (by omega), ⟨xs, ⟨_, _, rfl, Nat.le_refl _, by unfold maxLen; omega, fun h0 => List.eq_nil_of_length_eq_zero (by rw [h3.1, h0]), fun _ => ⟨rfl, [], by simpa using h2⟩⟩, h3.1, fun i hi => ?_, fun i b hi => ?_⟩, fun i b hi _ => ⟨?_, fun j c hj hne _ => ?_⟩, fun k hk => ?_⟩
  · obtain ⟨a, b, c, d⟩ := h3.2 i hi hi
    have e : y.fs.getD i default = y.fs[i] := by rw [List.getD_eq_getElem?_getD, List.getElem?_eq_getElem hi]; rfl
    simp only [e]
    exact ⟨a, b, c, d⟩
  · have e : y.fs.getD i default = y.fs[i] := by rw [List.getD_eq_getElem?_getD, List.getElem?_eq_getElem hi]; rfl
    simp only [e]
    have hw := y.fu_le i hi
    unfold Fu.weight at hw
    cases b with
    | false => exact (h4 i hi).1.own (Nat.le_refl _) (by show y.fs[i].args.length ≤ maxLen; unfold maxLen; omega)
    | true => exact (h4 i hi).2.own (Nat.le_refl _) (by show y.fs[i].table.length ≤ maxLen; unfold maxLen; omega)
  · show g + 2 + 4 * y.ty.cos.length + 1 + 5 * i + _ ≠ g + 2 + 4 * y.ty.cos.length
    split <;> omega
  · show g + 2 + 4 * y.ty.cos.length + 1 + 5 * j + _ ≠ g + 2 + 4 * y.ty.cos.length + 1 + 5 * i + _
    rcases hne with hne | hne
    · cases b <;> cases c <;> simp <;> omega
    · cases b <;> cases c <;> simp at hne ⊢ <;> omega
  · have hk2 : g ≤ k ∧ k < g + 2 + 4 * y.ty.cos.length := by
      rcases hk with ⟨_, rfl⟩ | ⟨_, rfl⟩ | ⟨i, hi, _, rfl⟩
      · omega
      · omega
      · dsimp only; omega
    exact ⟨fun _ => by omega, fun i b hi _ => by dsimp only; split <;> omega⟩

set_option maxRecDepth 100000 in
set_option maxHeartbeats 2000000 in
theorem markSystem_any (gs gc n : Nat) (m : Nat → Nat) (mv : Nat → Value) (sv cv : Value) (ss : List Int) (f : Nat → Co) (gf nf : Nat) (mf : Nat → Bool → Nat) (mvf : Nat → Bool → Value) (fv : Value) (ff : Nat → Fu) (k0 : Int) (w : World)
    (hv : OwnSy w gs gc m mv sv cv ss n f gf mf mvf fv nf ff) (h0 : 0 ≤ k0) (h1 : k0 + (ss.length : Int) + 2 * (n : Int) + (lenSum f n : Int) + 2 * (nf : Int) + (lenF ff nf : Int) ≤ 900000000) :
    Calls Try.prog 13 #[.agg #[sv, cv, fv], .int .i64 k0] w fun e w' => e = .returned (.int .i64 (markAtF ff (markAt f (k0 + ss.length) n) nf)) ∧ Kept (fun k => ¬ OwnSy.uses gs gc m ss n f gf mf nf ff k) w w' := by
  have Hv := Lib.hid hv
  obtain ⟨⟨⟨A, cap, rfl, _⟩, ⟨_, ⟨B, bap, rfl, _⟩, _⟩, _, _⟩, ⟨_, ⟨F, fap, rfl, _⟩, _⟩, _, _⟩ := hv
  have hat : markAt f (k0 + ss.length) n = k0 + (ss.length : Int) + 2 * (n : Int) + (lenSum f n : Int) := rfl
  have h3 : Below w.heap.size w (w.alloc (.cells #[.slice A ss.length cap, .slice B n bap, .slice F nf fap] 38)) := by go_grown
  have H1 := Lib.hid (Below.refl (w.heap.size + 1) (w.alloc (.cells #[.slice A ss.length cap, .slice B n bap, .slice F nf fap] 38)))
  go_enter Try.func13, Try.ntmps13
  go_wp2_with fail
  refine (markTypes_any gs gc n m mv _ _ ss f k0 _ (Hv.out.ty.keep fun k hk _ => h3.block k hk) h0 (by omega)).mono ?_
  rintro e w1 ⟨rfl, hk1, hs1, ho1⟩
  have hrow : Row w1 w.heap.size 38 [.slice A ss.length cap, .slice B n bap, .slice F nf fap] := (Row.new w 38 [.slice A ss.length cap, .slice B n bap, .slice F nf fap]).keep (hk1.block _ (by simp) (fun h => by have := Hv.out.ty.uses_lt h; omega))
  have q2 := hrow.cell 2
  simp only [List.getElem?_cons_zero, List.getElem?_cons_succ] at q2
  have Hk1 := Lib.hid hk1
  have Hs1 := Lib.hid hs1
  have H3 := Lib.hid h3
  have hf1 : OwnFus w1 3 79 gf mf mvf (.slice F nf fap) nf ff := by
    have hlt := Hv.out.fs.lt
    refine Hv.out.fs.keep (fun h0 => ?_) (fun i b hi hl => ?_)
    · exact (hk1.block gf (by have := hlt.1 h0; simp; omega) (fun h => (Hv.out.away _ h).1 h0 rfl)).trans (h3.block _ (hlt.1 h0))
    · exact (hk1.block _ (by have := hlt.2 i b hi hl; simp; omega) (fun h => (Hv.out.away _ h).2 i b hi hl rfl)).trans (h3.block _ (hlt.2 i b hi hl))
  have Hf1 := Lib.hid hf1
  clear hk1 hs1 ho1 h3 hrow hf1 H1
  obtain ⟨M, hM⟩ : ∃ M, M = markAt f (k0 + ss.length) n := ⟨_, rfl⟩
  rw [← hM]
  have HM := Lib.hid hM
  have hM0 : 0 ≤ M := by rw [hM, hat]; omega
  have hM1 : M + 2 * (nf : Int) + (lenF ff nf : Int) ≤ 900000000 := by rw [hM, hat]; omega
  clear hM hat
  go_wp2_with fail
  refine (markFunctionS_any gf nf mf mvf _ ff M _ Hf1.out Hv.out.apart hM0 hM1).mono ?_
  rintro e w2 ⟨rfl, hk2, ho2⟩
  have Hk2 := Lib.hid hk2
  clear hk2 ho2
  go_wp2
  go_ret
  rw [← HM.out]
  refine ⟨rfl, ?_⟩
  have k0 : Kept (fun k => ¬ OwnSy.uses gs gc m ss n f gf mf nf ff k) w (w.alloc (.cells #[.slice A ss.length cap, .slice B n bap, .slice F nf fap] 38)) := ⟨H3.out.os, H3.out.tape, H3.out.output, H3.out.size, fun k hk _ => H3.out.block k hk⟩
  exact (k0.trans (Hk1.out.weak fun k h h2 => h (.inl h2))).trans (Hk2.out.weak fun k h => Classical.byContradiction fun h2 => h (.inr h2))
end Go.Proofs.Ytplncocfbajefaa

namespace Go.Proofs.Ytplncocfbajefaa
open Go.RowKit

theorem Ty.fits.co {t : Ty} (h : t.fits) : ∀ i, i < t.cos.length → I64 (t.cos.getD i default).src ∧ I64 (t.cos.getD i default).dst ∧ ∀ z ∈ (t.cos.getD i default).map, I64 z := by
  intro i hi
  have e : t.cos.getD i default = t.cos[i] := by rw [List.getD_eq_getElem?_getD, List.getElem?_eq_getElem hi]; rfl
  rw [e]
  exact h.2 i hi
theorem TysOwned.tyAt {w : World} {base lo hi : Nat} {v l : Value} {t : Ty} (h : TysOwned w base v l t) (hf : t.fits) (hlo : lo ≤ base) (hhi : w.heap.size ≤ hi) : TyAt w lo hi v l t := by
  obtain ⟨C, h1, h2, _, h4⟩ := h
  refine ⟨ownsRow.intsAt h2 hf.1 hlo hhi, ?_⟩
  have := CosOwned.cosAt h4 hf.co (by omega : lo ≤ C + 1) hhi
  rw [range_getD] at this
  exact this
theorem SyOwned.syAt {w : World} {base lo hi : Nat} {v l q : Value} {y : Sy} (h : SyOwned w base v l q y) (hf : y.fits) (hlo : lo ≤ base) (hhi : w.heap.size ≤ hi) : SyAt w lo hi v l q y := by
  obtain ⟨b, u, b2, h0, h0', h1, h2, h3, h4, h5⟩ := h
  refine ⟨TyAt.more (lo := b) (hi := u.heap.size) ((h1.tyAt hf.1 (Nat.le_refl _) (Nat.le_refl _)).keep h2) (by omega) (by omega), ?_⟩
  have := FusOwned.fusAt (lo := lo) (hi := hi) h5 (fun i hi' => by
    have e : y.fs.getD i default = y.fs[i] := by rw [List.getD_eq_getElem?_getD, List.getElem?_eq_getElem hi']; rfl
    rw [e]
    exact hf.2 i hi') (by omega) hhi
  rw [range_getDF] at this
  exact this
theorem slAt_own' {w : World} {base n size : Nat} {e : TypeId} {v : Value} {xs : List Value} (d : Nat) (h : w.ownsRow base e size v n xs) : SlAt w e (v.ownBlock.getD d) v n xs ∧ (0 < n → v.ownBlock = some (v.ownBlock.getD d) ∧ base ≤ v.ownBlock.getD d ∧ v.ownBlock.getD d < w.heap.size) := by
  have hlt := owns_lt h
  obtain ⟨h1, ⟨rfl, rfl⟩ | ⟨g, cap, cur, rfl, hb, hh, hc, hm, hsz, htk⟩⟩ := h
  · exact ⟨⟨none, 0, rfl, Nat.le_refl _, Nat.zero_le _, fun _ => List.eq_nil_of_length_eq_zero (by simpa using h1), fun h0 => absurd h0 (by omega)⟩, fun h0 => absurd h0 (by omega)⟩
  · have hr : Row w g e (xs ++ cur.toList.drop (n * size)) := by
      rw [← htk, List.take_append_drop]
      simpa [Row] using hh
    exact ⟨⟨_, _, rfl, hc, hm, fun e0 => List.eq_nil_of_length_eq_zero (by rw [h1, e0]; simp), fun _ => ⟨rfl, _, hr⟩⟩, fun _ => ⟨rfl, hlt g rfl⟩⟩
theorem TysOwned.own {w : World} {base : Nat} {v l : Value} {t : Ty} (h : TysOwned w base v l t) : ∃ (gs gc : Nat) (m : Nat → Nat) (mv : Nat → Value), OwnTy w 3 42 gs gc m mv v l t.sizes t.cos.length (fun i => t.cos.getD i default) ∧
    ∀ k, OwnTy.uses gs gc m t.sizes t.cos.length (fun i => t.cos.getD i default) k → base ≤ k ∧ k < w.heap.size := by
  obtain ⟨C, hC, hv, hvC, xs, m, mv, hl, hm⟩ := h
  obtain ⟨s1, s2⟩ := slAt_own' 0 hv
  obtain ⟨c1, c2⟩ := slAt_own' C hl
  have hgc : C ≤ l.ownBlock.getD C := by
    cases e : l.ownBlock with
    | none => exact Nat.le_refl _
    | some g => have := (owns_lt hl g e).1; simp only [Option.getD_some]; omega
  have hne : ∀ i, i < t.cos.length → 0 < (t.cos.getD i default).map.length → m i ≠ l.ownBlock.getD C := by
    intro i hi h0 e
    obtain ⟨a1, a2, a3, _⟩ := hm.away i hi h0
    cases e2 : l.ownBlock with
    | none => rw [e2] at e; simp only [Option.getD_none] at e; omega
    | some g => rw [e2] at e a3; simp only [Option.getD_some] at e; exact a3 (by rw [e])
  refine ⟨v.ownBlock.getD 0, l.ownBlock.getD C, m, mv, ⟨s1, ⟨xs, c1, hl.1, hm.cells, hm.own⟩, fun i hi h0 => ⟨hne i hi h0, (hm.away i hi h0).2.2.2⟩, fun h0 => ?_⟩, fun k hk => ?_⟩
  · have h1 := hvC _ (s2 h0).1
    exact ⟨by omega, fun i hi hl0 => by have := (hm.away i hi hl0).1; omega⟩
  · rcases hk with ⟨h0, rfl⟩ | ⟨h0, rfl⟩ | ⟨i, hi, h0, rfl⟩
    · exact ⟨(s2 h0).2.1, (s2 h0).2.2⟩
    · have := c2 h0
      exact ⟨by omega, this.2.2⟩
    · have := hm.away i hi h0
      exact ⟨by omega, this.2.1⟩
theorem SyOwned.own {w : World} {base : Nat} {v l q : Value} {y : Sy} (h : SyOwned w base v l q y) :
    ∃ (gs gc : Nat) (m : Nat → Nat) (mv : Nat → Value) (gf : Nat) (mf : Nat → Bool → Nat) (mvf : Nat → Bool → Value), OwnSy w gs gc m mv v l y.ty.sizes y.ty.cos.length (fun i => y.ty.cos.getD i default) gf mf mvf q y.fs.length (fun i => y.fs.getD i default) ∧
    ∀ k, OwnSy.uses gs gc m y.ty.sizes y.ty.cos.length (fun i => y.ty.cos.getD i default) gf mf y.fs.length (fun i => y.fs.getD i default) k → base ≤ k ∧ k < w.heap.size := by
  obtain ⟨b, u, b2, h0, h0', h1, h2, h3, h4, h5⟩ := h
  obtain ⟨gs, gc, m, mv, k1, k2⟩ := h1.own
  obtain ⟨gf, mf, mvf, f1, f2, f3, f4⟩ := h5.own
  refine ⟨gs, gc, m, mv, gf, mf, mvf, ⟨k1.keep fun k hk hu => h2 k (k2 k hu).1 hk, f1, f2, fun k hk => ⟨fun hn e => ?_, fun i b' hi hl e => ?_⟩⟩, fun k hk => ?_⟩
  · have := k2 k hk
    have := f3 hn
    omega
  · have := k2 k hk
    have := f4 i b' hi hl
    omega
  · rcases hk with hk | hk
    · have := k2 k hk
      omega
    · rcases not_keeps hk with ⟨hn, rfl⟩ | ⟨i, b', hi, hl, rfl⟩
      · have := f3 hn
        omega
      · have := f4 i b' hi hl
        omega
end Go.Proofs.Ytplncocfbajefaa

namespace Go.Proofs.Ytplncocfbajefaa
open Go.RowKit

/-- Does n lie between two numbers? -/
def inB (n lo hi : Int) : Bool := decide (lo ≤ n ∧ n ≤ hi)
theorem inB_yes {n lo hi : Int} (h1 : lo ≤ n) (h2 : n ≤ hi) : inB n lo hi = true := by simp [inB, h1, h2]
theorem inB_low {n lo hi : Int} (h1 : ¬ lo ≤ n) : inB n lo hi = false := by simp [inB, h1]
theorem inB_high {n lo hi : Int} (h1 : ¬ n ≤ hi) : inB n lo hi = false := by simp [inB, h1]
theorem inB_iff {n lo hi : Int} : inB n lo hi = true ↔ lo ≤ n ∧ n ≤ hi := by simp [inB]

theorem l1In_any (n lo hi : Int) (w : World) : Calls Try.prog 71 #[.int .i64 n, .int .i64 lo, .int .i64 hi] w fun e w' => e = .returned (.bool (inB n lo hi)) ∧ w = w' := by
  by_cases h1 : lo ≤ n
  · by_cases h2 : n ≤ hi
    · have H := Lib.hid (inB_yes h1 h2)
      go_enter Try.func71, Try.ntmps71
      go_wp2
      go_ret
      exact ⟨ret_bool H.out.symm, rfl⟩
    · have H := Lib.hid (inB_high (lo := lo) h2)
      go_enter Try.func71, Try.ntmps71
      go_wp2
      go_ret
      exact ⟨ret_bool H.out.symm, rfl⟩
  · have H := Lib.hid (inB_low (hi := hi) h1)
    go_enter Try.func71, Try.ntmps71
    go_wp2
    go_ret
    exact ⟨ret_bool H.out.symm, rfl⟩

/-- The sizes are valid. -/
def sizesOk (ss : List Int) : Bool := decide (1 ≤ ss.length ∧ ss.length ≤ 5) && ss.all fun n => inB n 1 4
theorem sizesOk_of {ss : List Int} (h : sizesOk ss = true) : 1 ≤ ss.length ∧ ss.length ≤ 5 ∧ ∀ k, ∀ (hk : k < ss.length), 1 ≤ ss[k] ∧ ss[k] ≤ 4 := by
  simp only [sizesOk, Bool.and_eq_true, decide_eq_true_eq, List.all_eq_true] at h
  exact ⟨h.1.1, h.1.2, fun k hk => inB_iff.1 (h.2 _ (List.getElem_mem hk))⟩

/-- All but the map's numbers of a coercion are right: for valid sizes. -/
def coHead (ss : List Int) (c : Co) : Bool := decide (0 ≤ c.src ∧ c.src < c.dst ∧ c.dst < ss.length ∧ (c.map.length : Int) = ss.getD c.src.toNat 0)
def coOk (ss : List Int) (c : Co) : Bool := coHead ss c && c.map.all fun z => inB z 0 (ss.getD c.dst.toNat 0 - 1)
def tyOk (t : Ty) : Bool := sizesOk t.sizes && decide (t.cos.length ≤ 8) && t.cos.all fun c => coOk t.sizes c
theorem coOk_of {ss : List Int} {c : Co} (h : coOk ss c = true) : 0 ≤ c.src ∧ c.src < c.dst ∧ c.dst < ss.length ∧ (c.map.length : Int) = ss.getD c.src.toNat 0 ∧ ∀ k, ∀ (hk : k < c.map.length), 0 ≤ c.map[k] ∧ c.map[k] ≤ ss.getD c.dst.toNat 0 - 1 := by
  simp only [coOk, coHead, Bool.and_eq_true, decide_eq_true_eq, List.all_eq_true] at h
  exact ⟨h.1.1, h.1.2.1, h.1.2.2.1, h.1.2.2.2, fun k hk => inB_iff.1 (h.2 _ (List.getElem_mem hk))⟩

/-- One element fails; all elements pass. -/
theorem all_false_of {α : Type} {l : List α} {p : α → Bool} (k : Nat) (hk : k < l.length) (h : p l[k] = false) : l.all p = false := by
  rw [List.all_eq_false]
  exact ⟨l[k], List.getElem_mem hk, by simp [h]⟩
theorem all_true_of {α : Type} {l : List α} {p : α → Bool} (h : ∀ j, ∀ (hj : j < l.length), p l[j] = true) : l.all p = true := by
  rw [List.all_eq_true]
  intro x hx
  obtain ⟨i, hi, rfl⟩ := List.getElem_of_mem hx
  exact h i hi

theorem wrapIn (x : Int) (h1 : -9223372036854775808 ≤ x) (h2 : x ≤ 9223372036854775807) : IntKind.i64.wrap x = x := IntWalk.i64_in x (by omega)

set_option maxRecDepth 100000 in
set_option maxHeartbeats 1000000 in
/-- The head of a coercion is wrong: the model says no. -/
theorem l1Map_no (lo hi lo' hi' : Nat) (sv x y z : Value) (ss : List Int) (c : Co) (w : World) (hv : IntsAt w lo hi sv ss) (hc : CoAt w lo' hi' x y z c) (hB : hi ≤ w.heap.size) (_hB' : hi' ≤ w.heap.size) (hok : sizesOk ss = true) (hno : coHead ss c = false) :
    Calls Try.prog 73 #[sv, .agg #[x, y, z]] w fun e w' => e = .returned (.bool false) ∧ Below w.heap.size w w' := by
  obtain ⟨h1, h5, hall⟩ := sizesOk_of hok
  obtain ⟨rfl, rfl, hs, hd, hz⟩ := hc
  obtain ⟨A, cap, rfl, _, _, hi1⟩ := hv.form
  obtain ⟨A', cap', rfl, hl2, hm2, hi2⟩ := hz.form
  unfold I64 at hs hd
  unfold maxLen at hm2
  have h3 : Below w.heap.size w (w.alloc (.cells #[.int .i64 c.src, .int .i64 c.dst, .slice A' c.map.length cap'] 42)) := by go_grown
  have hwr := wrapIn ((ss.length : Int) - 1) (by omega) (by omega)
  by_cases ha : 1 ≤ c.dst ∧ c.dst ≤ (ss.length : Int) - 1
  · have hA := inB_yes ha.1 ha.2
    have hwr2 := wrapIn (c.dst - 1) (by omega) (by omega)
    by_cases hb : 0 ≤ c.src ∧ c.src ≤ c.dst - 1
    · have hB2 := inB_yes hb.1 hb.2
      have hlt : c.src.toNat < ss.length := by omega
      obtain ⟨b, off, rfl, _, hbh, c0, _⟩ := (hi1.below h3 hB).at_ hlt
      have hne : ((c.map.length : Int) == ss[c.src.toNat]) = false := by
        have : ¬ (c.map.length : Int) = ss[c.src.toNat] := by
          intro e
          simp only [coHead, decide_eq_false_iff_not] at hno
          apply hno
          rw [List.getD_eq_getElem?_getD, List.getElem?_eq_getElem hlt]
          exact ⟨hb.1, by omega, by omega, e⟩
        simpa using this
      go_enter Try.func73, Try.ntmps73
      go_wp2_with fail
      go_quiet ((first | (go_at_call 71; exact quiet_eq (l1In_any _ _ _ _))))
      go_wp2
      go_ret
      exact ⟨rfl, below_drewN h3 _⟩
    · have hB2 : inB c.src 0 (c.dst - 1) = false := by
        by_cases h0 : 0 ≤ c.src
        · exact inB_high (fun h => hb ⟨h0, h⟩)
        · exact inB_low h0
      go_enter Try.func73, Try.ntmps73
      go_wp2_with fail
      go_quiet ((first | (go_at_call 71; exact quiet_eq (l1In_any _ _ _ _))))
      go_wp2
      go_ret
      exact ⟨rfl, below_drewN h3 _⟩
  · have hA : inB c.dst 1 ((ss.length : Int) - 1) = false := by
      by_cases h0 : 1 ≤ c.dst
      · exact inB_high (fun h => ha ⟨h0, h⟩)
      · exact inB_low h0
    go_enter Try.func73, Try.ntmps73
    go_wp2_with fail
    go_quiet ((first | (go_at_call 71; exact quiet_eq (l1In_any _ _ _ _))))
    go_wp2
    go_ret
    exact ⟨rfl, below_drewN h3 _⟩

set_option maxRecDepth 100000 in
set_option maxHeartbeats 2000000 in
/-- The head of a coercion is right: the model looks at the map's numbers. -/
theorem l1Map_yes (lo hi lo' hi' : Nat) (sv x y z : Value) (ss : List Int) (c : Co) (w : World) (hv : IntsAt w lo hi sv ss) (hc : CoAt w lo' hi' x y z c) (hB : hi ≤ w.heap.size) (hB' : hi' ≤ w.heap.size) (hok : sizesOk ss = true) (hyes : coHead ss c = true) :
    Calls Try.prog 73 #[sv, .agg #[x, y, z]] w fun e w' => e = .returned (.bool (coOk ss c)) ∧ Below w.heap.size w w' := by
  obtain ⟨h1, h5, hall⟩ := sizesOk_of hok
  obtain ⟨rfl, rfl, hs, hd, hz⟩ := hc
  obtain ⟨A, cap, rfl, _, _, hi1⟩ := hv.form
  obtain ⟨A', cap', rfl, hl2, hm2, hi2⟩ := hz.form
  unfold I64 at hs hd
  unfold maxLen at hm2
  have hyes' := hyes
  simp only [coHead, decide_eq_true_eq] at hyes'
  obtain ⟨e1, e2, e3, e4⟩ := hyes'
  have h3 : Below w.heap.size w (w.alloc (.cells #[.int .i64 c.src, .int .i64 c.dst, .slice A' c.map.length cap'] 42)) := by go_grown
  have hwr := wrapIn ((ss.length : Int) - 1) (by omega) (by omega)
  have hA := inB_yes (n := c.dst) (lo := 1) (hi := (ss.length : Int) - 1) (by omega) (by omega)
  have hwr2 := wrapIn (c.dst - 1) (by omega) (by omega)
  have hB2 := inB_yes (n := c.src) (lo := 0) (hi := c.dst - 1) (by omega) (by omega)
  have hlt : c.src.toNat < ss.length := by omega
  have hlt2 : c.dst.toNat < ss.length := by omega
  obtain ⟨b, off, rfl, _, hbh, c0, _⟩ := (hi1.below h3 hB).at_ hlt
  rw [List.getD_eq_getElem?_getD, List.getElem?_eq_getElem hlt] at e4
  have hne : ((c.map.length : Int) != ss[c.src.toNat]) = false := by simpa using e4
  have hyz := Lib.hid hyes
  have h4 := Lib.hid e4
  clear hyes e4
  go_enter Try.func73, Try.ntmps73
  go_wp2_with fail
  go_quiet ((first | (go_at_call 71; exact quiet_eq (l1In_any _ _ _ _))))
  go_wp2
  clear hA hB2 hne hwr hwr2 c0
  obtain ⟨b2, off2, eb2, _, hbh2, c02, _⟩ := (hi1.below h3 hB).at_ hlt2
  injection eb2 with eb2
  injection eb2 with eb2 eo2
  subst eb2 eo2
  have hsz := hall _ hlt2
  have Hi2 := Lib.hid (hi2.below h3 hB')
  have H3 := Lib.hid h3
  clear hi1 hi2 hv hz h3 hall
  go_loop [37] (fun i => ∃ k : Nat, k ≤ c.map.length ∧ i = .int .i64 k ∧ Hid (∀ j, j < k → ∀ (hj : j < c.map.length), inB c.map[j] 0 (ss.getD c.dst.toNat 0 - 1) = true)) (fun i => c.map.length - (intOf i).toNat)
  case atStart => exact ⟨0, Nat.zero_le _, rfl, fun j hj => absurd hj (by omega)⟩
  case round =>
    obtain ⟨k, hk, rfl, hok2⟩ := hrel
    by_cases hkl : k < c.map.length
    · obtain ⟨b3, off3, rfl, _, _, c3, _⟩ := Hi2.out.at_ hkl
      by_cases hin : inB c.map[k] 0 (ss[c.dst.toNat] - 1) = true
      · have hin' : Hid (inB c.map[k] 0 (ss.getD c.dst.toNat 0 - 1) = true) := by
          rw [List.getD_eq_getElem?_getD, List.getElem?_eq_getElem hlt2]; exact hin
        go_wp2_with (go_at_call 71; refine (l1In_any _ _ _ _).mono ?_; rintro e w' ⟨rfl, rfl⟩; rw [hin])
        go_round
        case rel =>
          refine ⟨k + 1, by omega, by go_num, fun j hj hjl => ?_⟩
          by_cases ej : j = k
          · subst ej; exact hin'.out
          · exact hok2.out j (by omega) hjl
        case measure => simp [intOf]; omega
      · have hinf : inB c.map[k] 0 (ss[c.dst.toNat] - 1) = false := by simpa using hin
        have hfin : Hid (coOk ss c = false) := by
          unfold coOk
          rw [hyz.out, Bool.true_and]
          refine all_false_of k hkl ?_
          rw [List.getD_eq_getElem?_getD, List.getElem?_eq_getElem hlt2]; exact hinf
        clear hin
        go_wp2_with (go_at_call 71; refine (l1In_any _ _ _ _).mono ?_; rintro e w' ⟨rfl, rfl⟩; rw [hinf])
        go_ret
        exact ⟨ret_bool hfin.out.symm, below_drewN H3.out _⟩
    · obtain rfl : k = c.map.length := by omega
      have hfin : Hid (coOk ss c = true) := by
        unfold coOk
        rw [hyz.out, Bool.true_and]
        exact all_true_of fun j hj => hok2.out j hj hj
      go_wp2
      go_ret
      exact ⟨ret_bool hfin.out.symm, below_drewN H3.out _⟩

theorem l1Map_any (lo hi lo' hi' : Nat) (sv x y z : Value) (ss : List Int) (c : Co) (w : World) (hv : IntsAt w lo hi sv ss) (hc : CoAt w lo' hi' x y z c) (hB : hi ≤ w.heap.size) (hB' : hi' ≤ w.heap.size) (hok : sizesOk ss = true) :
    Calls Try.prog 73 #[sv, .agg #[x, y, z]] w fun e w' => e = .returned (.bool (coOk ss c)) ∧ Below w.heap.size w w' := by
  by_cases h : coHead ss c = true
  · exact l1Map_yes lo hi lo' hi' sv x y z ss c w hv hc hB hB' hok h
  · have hf : coHead ss c = false := by simpa using h
    have e : coOk ss c = false := by unfold coOk; rw [hf, Bool.false_and]
    rw [e]
    exact l1Map_no lo hi lo' hi' sv x y z ss c w hv hc hB hB' hok hf

theorem tyOk_false1 {t : Ty} (h : sizesOk t.sizes = false) : tyOk t = false := by unfold tyOk; rw [h, Bool.false_and, Bool.false_and]
theorem tyOk_false2 {t : Ty} (h : ¬ t.cos.length ≤ 8) : tyOk t = false := by unfold tyOk; simp [h]
theorem tyOk_of {t : Ty} (h1 : sizesOk t.sizes = true) (h2 : t.cos.length ≤ 8) : tyOk t = t.cos.all fun c => coOk t.sizes c := by unfold tyOk; simp [h1, h2]
end Go.Proofs.Ytplncocfbajefaa

namespace Go.Proofs.Ytplncocfbajefaa
open Go.RowKit

/-- A name that a function can have. -/
def NameOk (s : ByteArray) : Prop := ∃ b : UInt8, s = ⟨#[b]⟩ ∧ 102 ≤ b.toNat ∧ b.toNat ≤ 107

/-- How many results a function with some types of arguments has: over the first k arguments. -/
def cellsTo (ss args : List Int) : Nat → Int
  | 0 => 1
  | k + 1 => cellsTo ss args k * ss.getD (args.getD k 0).toNat 0
def cellsI (ss args : List Int) : Int := cellsTo ss args args.length

/-- A function fits some sizes. -/
structure FuOk (ss : List Int) (f : Fu) : Prop where
  name : NameOk f.name
  few : f.args.length ≤ 2
  args : ∀ j, ∀ (hj : j < f.args.length), 0 ≤ f.args[j] ∧ f.args[j] < ss.length
  res : 0 ≤ f.res ∧ f.res < ss.length
  len : (f.table.length : Int) = cellsI ss f.args
  table : ∀ j, ∀ (hj : j < f.table.length), 0 ≤ f.table[j] ∧ f.table[j] < ss.getD f.res.toNat 0

/-- No two functions have the same name and the same types of arguments. -/
def Differ (fs : List Fu) : Prop := ∀ i k : Nat, i < fs.length → k < i → ¬ ((fs.getD i default).name = (fs.getD k default).name ∧ (fs.getD i default).args = (fs.getD k default).args)

structure SyOk (y : Sy) : Prop where
  ty : tyOk y.ty = true
  few : y.fs.length ≤ 8
  each : ∀ i, ∀ (hi : i < y.fs.length), FuOk y.ty.sizes y.fs[i]
  differ : Differ y.fs

open Classical in
noncomputable def fuB (ss : List Int) (f : Fu) : Bool := decide (FuOk ss f)
open Classical in
noncomputable def syB (y : Sy) : Bool := decide (SyOk y)
theorem fuB_yes {ss : List Int} {f : Fu} (h : FuOk ss f) : fuB ss f = true := by unfold fuB; exact @decide_eq_true _ (Classical.propDecidable _) h
theorem fuB_no {ss : List Int} {f : Fu} (h : ¬ FuOk ss f) : fuB ss f = false := by unfold fuB; exact @decide_eq_false _ (Classical.propDecidable _) h
theorem fuB_iff {ss : List Int} {f : Fu} : fuB ss f = true ↔ FuOk ss f := by unfold fuB; exact @decide_eq_true_iff _ (Classical.propDecidable _)
theorem syB_yes {y : Sy} (h : SyOk y) : syB y = true := by unfold syB; exact @decide_eq_true _ (Classical.propDecidable _) h
theorem syB_no {y : Sy} (h : ¬ SyOk y) : syB y = false := by unfold syB; exact @decide_eq_false _ (Classical.propDecidable _) h
theorem syB_iff {y : Sy} : syB y = true ↔ SyOk y := by unfold syB; exact @decide_eq_true_iff _ (Classical.propDecidable _)

/-- With valid sizes and two arguments at most, the product is small. -/
theorem cellsTo_small {ss args : List Int} (hok : sizesOk ss = true) (ha : ∀ j, ∀ (hj : j < args.length), 0 ≤ args[j] ∧ args[j] < ss.length) (hf : args.length ≤ 2) : ∀ k, k ≤ args.length → 1 ≤ cellsTo ss args k ∧ cellsTo ss args k ≤ 16 := by
  obtain ⟨_, _, hall⟩ := sizesOk_of hok
  have one : ∀ k, k < args.length → 1 ≤ ss.getD (args.getD k 0).toNat 0 ∧ ss.getD (args.getD k 0).toNat 0 ≤ 4 := fun k hk => by
    obtain ⟨h0, h1⟩ := ha k hk
    have e : args.getD k 0 = args[k] := by rw [List.getD_eq_getElem?_getD, List.getElem?_eq_getElem hk]; rfl
    have hlt : args[k].toNat < ss.length := by omega
    rw [e, List.getD_eq_getElem?_getD, List.getElem?_eq_getElem hlt]
    exact hall _ hlt
  intro k hk
  match k, hk with
  | 0, _ => exact ⟨by show (1 : Int) ≤ 1; omega, by show (1 : Int) ≤ 16; omega⟩
  | 1, hk =>
    have := one 0 (by omega)
    show 1 ≤ 1 * ss.getD (args.getD 0 0).toNat 0 ∧ 1 * ss.getD (args.getD 0 0).toNat 0 ≤ 16
    rw [Int.one_mul]
    omega
  | 2, hk =>
    have h0 := one 0 (by omega)
    have h1 := one 1 (by omega)
    show 1 ≤ 1 * ss.getD (args.getD 0 0).toNat 0 * ss.getD (args.getD 1 0).toNat 0 ∧ 1 * ss.getD (args.getD 0 0).toNat 0 * ss.getD (args.getD 1 0).toNat 0 ≤ 16
    rw [Int.one_mul]
    generalize ss.getD (args.getD 0 0).toNat 0 = p at *
    generalize ss.getD (args.getD 1 0).toNat 0 = q at *
    have hp : p = 1 ∨ p = 2 ∨ p = 3 ∨ p = 4 := by omega
    rcases hp with rfl | rfl | rfl | rfl <;> omega
  | k + 3, hk => omega
end Go.Proofs.Ytplncocfbajefaa

namespace Go.Proofs.Ytplncocfbajefaa
open Go.RowKit Go.Maps
open Go.ChangeShapes (lits)

theorem bytes_eq {a b : ByteArray} (h : a.toList = b.toList) : a = b := by
  rw [ByteArray.toList_eq, ByteArray.toList_eq] at h
  exact Go.WideShapes.bytes_inj h

/-- What a name reads as where it is a map's key. -/
def kN (s : ByteArray) : Lit := .string s.data.toList
theorem kN_inj {a b : ByteArray} (h : kN a = kN b) : a = b := by
  unfold kN at h
  injection h with h
  have h2 : a.data = b.data := Array.toList_inj.1 h
  cases a; cases b; simp_all
theorem lawStr : Keyed Try.prog 9 := string_keyed Try.underlying9
theorem kN_key {s : ByteArray} (h : s.size ≤ maxLen) : keyOf Try.prog 9 (.string s) = some (kN s) := Go.WideMaps.keyOf_string_mk Try.underlying9 h
theorem kN_lit {s : ByteArray} (h : s.size ≤ maxLen) : WideAt.IsKeyLit (kN s) := lawStr.key (kN_key h)

open Classical in
/-- The indices of the first k functions that have a name. -/
noncomputable def idxs (fs : List Fu) (k : Nat) (nm : ByteArray) : List Int := ((List.range k).filter fun i => decide ((fs.getD i default).name = nm)).map fun i : Nat => (i : Int)
theorem idxs_same {fs : List Fu} {k : Nat} {nm : ByteArray} (h : (fs.getD k default).name = nm) : idxs fs (k + 1) nm = idxs fs k nm ++ [(k : Int)] := by
  unfold idxs
  rw [List.range_succ, List.filter_append, List.map_append]
  rw [List.getD_eq_getElem?_getD] at h
  simp [h]
theorem idxs_other {fs : List Fu} {k : Nat} {nm : ByteArray} (h : (fs.getD k default).name ≠ nm) : idxs fs (k + 1) nm = idxs fs k nm := by
  unfold idxs
  rw [List.range_succ, List.filter_append, List.map_append]
  rw [List.getD_eq_getElem?_getD] at h
  simp [h]
theorem idxs_mem {fs : List Fu} {k : Nat} {nm : ByteArray} {z : Int} : z ∈ idxs fs k nm ↔ ∃ i : Nat, i < k ∧ (fs.getD i default).name = nm ∧ z = (i : Int) := by
  unfold idxs
  rw [List.mem_map]
  constructor
  · rintro ⟨i, hi, rfl⟩
    obtain ⟨h1, h2⟩ := List.mem_filter.1 hi
    exact ⟨i, List.mem_range.1 h1, by simpa using h2, rfl⟩
  · rintro ⟨i, h1, h2, rfl⟩
    exact ⟨i, List.mem_filter.2 ⟨List.mem_range.2 h1, by simpa using h2⟩, rfl⟩
theorem idxs_asc (fs : List Fu) (k : Nat) (nm : ByteArray) : (idxs fs k nm).Pairwise (· < ·) := by
  unfold idxs
  rw [List.pairwise_map]
  refine List.Pairwise.imp (fun {a b} h => ?_) (List.Pairwise.filter _ (List.pairwise_lt_range (n := k)))
  show (a : Int) < (b : Int)
  omega
theorem idxs_len (fs : List Fu) (k : Nat) (nm : ByteArray) : (idxs fs k nm).length ≤ k := by
  unfold idxs
  rw [List.length_map]
  exact Nat.le_trans (List.length_filter_le _ _) (by simp)
theorem idxs_zero (fs : List Fu) (nm : ByteArray) : idxs fs 0 nm = [] := by simp [idxs]
theorem getD_of {α : Type} {l : List α} {i : Nat} {d : α} (h : i < l.length) : l.getD i d = l[i] := by rw [List.getD_eq_getElem?_getD, List.getElem?_eq_getElem h]; rfl

/-- D is the map of the first k functions. -/
structure Grp (fs : List Fu) (k : Nat) (D : DataW Unit) : Prop where
  map : IsMap D
  at_ : ∀ nm : ByteArray, nm.size ≤ maxLen → idxs fs k nm ≠ [] → D.atKey (kN nm) .nil = .slice (lits .i64 (idxs fs k nm)) []
  none_ : ∀ nm : ByteArray, nm.size ≤ maxLen → idxs fs k nm = [] → D.atKey (kN nm) .nil = .nil
  has : ∀ nm : ByteArray, nm.size ≤ maxLen → (Maps.has D (kN nm) = true ↔ idxs fs k nm ≠ [])
theorem Grp.start (fs : List Fu) : Grp fs 0 (.map []) := ⟨isMap_empty, fun nm _ h => absurd (idxs_zero fs nm) h, fun _ _ _ => rfl, fun nm _ => ⟨fun h => (by cases h), fun h => absurd (idxs_zero fs nm) h⟩⟩
theorem Grp.step {fs : List Fu} {k : Nat} {D : DataW Unit} {nm : ByteArray} (h : Grp fs k D) (hn : (fs.getD k default).name = nm) (hs : nm.size ≤ maxLen) {w : World} {base : Nat} {e : TypeId} {v : Value} {zs : List Int}
    (ho : w.ownsInts base e .i64 v zs) (hat : D.atKey (kN nm) .nil = rowDatum .i64 v zs) : zs = idxs fs k nm ∧ Grp fs (k + 1) (D.put (kN nm) (.slice (lits .i64 (zs ++ [(k : Int)])) [])) := by
  have hz : zs = idxs fs k nm := by
    rcases ho.datum (H := Unit) with ⟨h1, rfl⟩ | h1
    · rw [h1] at hat
      by_cases e : idxs fs k nm = []
      · exact e.symm
      · rw [h.at_ nm hs e] at hat
        cases hat
    · rw [h1] at hat
      by_cases e : idxs fs k nm = []
      · rw [h.none_ nm hs e] at hat
        cases hat
      · rw [h.at_ nm hs e] at hat
        simp only [DataW.slice.injEq, and_true] at hat
        unfold lits at hat
        exact (List.map_inj_right (fun a b hab => by simpa using hab)).1 hat.symm
  refine ⟨hz, h.map.put _ _, fun m hm hne => ?_, fun m hm hne => ?_, fun m hm => ?_⟩
  · by_cases e : nm = m
    · subst e
      rw [atKey_put_same h.map (kN_lit hs), idxs_same hn, hz]
    · rw [atKey_put_other (fun e2 => e (kN_inj e2).symm)]
      rw [idxs_other (by rw [hn]; exact e)] at hne ⊢
      exact h.at_ m hm hne
  · by_cases e : nm = m
    · subst e
      rw [idxs_same hn] at hne
      simp at hne
    · rw [atKey_put_other (fun e2 => e (kN_inj e2).symm)]
      rw [idxs_other (by rw [hn]; exact e)] at hne
      exact h.none_ m hm hne
  · by_cases e : nm = m
    · subst e
      rw [has_put_same h.map (kN_lit hs), idxs_same hn]
      simp
    · rw [has_put_other (fun e2 => e (kN_inj e2).symm), idxs_other (by rw [hn]; exact e)]
      exact h.has m hm

/-- What the look-up of a name gives. -/
theorem Grp.look {fs : List Fu} {k : Nat} {D : DataW Unit} {nm : ByteArray} (h : Grp fs k D) (hs : nm.size ≤ maxLen) {w : World} {base : Nat} {e : TypeId} {v : Value} {zs : List Int}
    (ho : w.ownsInts base e .i64 v zs) (hat : D.atKey (kN nm) .nil = rowDatum .i64 v zs) : zs = idxs fs k nm := by
  rcases ho.datum (H := Unit) with ⟨h1, rfl⟩ | h1
  · rw [h1] at hat
    by_cases e : idxs fs k nm = []
    · exact e.symm
    · rw [h.at_ nm hs e] at hat
      cases hat
  · rw [h1] at hat
    by_cases e : idxs fs k nm = []
    · rw [h.none_ nm hs e] at hat
      cases hat
    · rw [h.at_ nm hs e] at hat
      simp only [DataW.slice.injEq, and_true] at hat
      unfold lits at hat
      exact (List.map_inj_right (fun a b hab => by simpa using hab)).1 hat.symm

/-- No two of some functions have the same types of arguments. -/
def Parts (fs : List Fu) (l : List Int) : Prop := ∀ a b : Nat, a < l.length → b < a → (fs.getD (l.getD a 0).toNat default).args ≠ (fs.getD (l.getD b 0).toNat default).args
theorem differ_of_parts {fs : List Fu} (h : ∀ nm : ByteArray, idxs fs fs.length nm ≠ [] → Parts fs (idxs fs fs.length nm)) : Differ fs := by
  rintro i k hi hk ⟨h1, h2⟩
  have mi : (i : Int) ∈ idxs fs fs.length (fs.getD i default).name := idxs_mem.2 ⟨i, hi, rfl, rfl⟩
  have mk : (k : Int) ∈ idxs fs fs.length (fs.getD i default).name := idxs_mem.2 ⟨k, by omega, h1.symm, rfl⟩
  obtain ⟨a, ha, ea⟩ := List.getElem_of_mem mi
  obtain ⟨b, hb, eb⟩ := List.getElem_of_mem mk
  have hlt : b < a := by
    rcases Nat.lt_trichotomy a b with h3 | h3 | h3
    · have := List.pairwise_iff_getElem.1 (idxs_asc fs fs.length (fs.getD i default).name) a b ha hb h3
      omega
    · subst h3; rw [ea] at eb; omega
    · exact h3
  refine h _ (fun e => by rw [e] at mi; cases mi) a b ha hlt ?_
  rw [getD_of ha, getD_of hb]
  simp only [ea, eb, Int.toNat_natCast]
  exact h2
theorem not_differ {fs : List Fu} {nm : ByteArray} {a b : Nat} (ha : a < (idxs fs fs.length nm).length) (hb : b < a) (he : (fs.getD ((idxs fs fs.length nm).getD a 0).toNat default).args = (fs.getD ((idxs fs fs.length nm).getD b 0).toNat default).args) : ¬ Differ fs := by
  intro h
  have hb' : b < (idxs fs fs.length nm).length := by omega
  obtain ⟨i, hi, hni, ei⟩ := idxs_mem.1 (List.getElem_mem ha)
  obtain ⟨k, hk, hnk, ek⟩ := idxs_mem.1 (List.getElem_mem hb')
  have hlt := List.pairwise_iff_getElem.1 (idxs_asc fs fs.length nm) b a hb' ha hb
  rw [ei, ek] at hlt
  rw [getD_of ha, getD_of hb'] at he
  simp only [ei, ek, Int.toNat_natCast] at he
  exact h i k hi (by omega) ⟨hni.trans hnk.symm, he⟩
open Classical in
noncomputable def differB (fs : List Fu) : Bool := decide (Differ fs)
theorem differB_iff {fs : List Fu} : differB fs = true ↔ Differ fs := by unfold differB; exact @decide_eq_true_iff _ (Classical.propDecidable _)
theorem differB_yes {fs : List Fu} (h : Differ fs) : differB fs = true := by unfold differB; exact @decide_eq_true _ (Classical.propDecidable _) h
theorem differB_no {fs : List Fu} (h : ¬ Differ fs) : differB fs = false := by unfold differB; exact @decide_eq_false _ (Classical.propDecidable _) h

/-- The look-up in any world that holds the map's block as it stood. -/
theorem groups_look {P : Program} {w : World} {t E k e : TypeId} {q : IntKind} {base b n : Nat} {D : DataW Unit} {key : Value} {kl : Lit} (h : w.ownsGroups P k base e q b n D) (K : Keyed P k) (ht : P.underlying t = some (.map k E)) (hz : ∀ u : World, (zeroValue E).run P u = .ok (.slice none 0 0) u) (hn : n < maxLen) (hkey : keyOf P k key = some kl) :
    ∃ v zs, (∀ u : World, u.heap[b]? = w.heap[b]? → (Instr.lookup t (.map (some b)) key false).run P u = .ok v u) ∧ D.atKey kl .nil = rowDatum q v zs ∧ w.ownsInts base e q v zs ∧ zs.length ≤ n ∧ w.groupBack P t k base e q b n D key kl v := by
  have hOwn := h
  obtain ⟨v, zs, hrun, r⟩ := hOwn.at K ht (hz w) hn hkey
  refine ⟨v, zs, fun u hu => ?_, r⟩
  obtain ⟨es, clock, hb, F, hs, rfl, hbb, hlen, hap⟩ := h
  have hub : u.heap[b]? = some (.map es clock) := hu.trans hb
  rcases K.find w hkey es.toList F.keys with ⟨h1, h2⟩ | ⟨j, e0, h1, h2, h3⟩
  · have e1 : (Instr.lookup t (.map (some b)) key false).run P w = .ok (.slice none 0 0) w := by simp [Instr.lookup, run_underlying ht, MapKept.run_getObj_map hb, K.check w _ hkey, h1, hz, Result.andThen]
    rw [hrun] at e1
    obtain rfl : v = .slice none 0 0 := by simpa using e1
    rcases K.find u hkey es.toList F.keys with ⟨g1, g2⟩ | ⟨j, e0, g1, g2, g3⟩
    · simp [Instr.lookup, run_underlying ht, MapKept.run_getObj_map hub, K.check u _ hkey, g1, hz, Result.andThen]
    · exact absurd g3 (h2 e0 (List.mem_of_getElem? g2))
  · have e1 : (Instr.lookup t (.map (some b)) key false).run P w = .ok e0.val w := by simp [Instr.lookup, run_underlying ht, MapKept.run_getObj_map hb, K.check w _ hkey, h1, Result.andThen]
    rw [hrun] at e1
    obtain rfl : v = e0.val := by simpa using e1
    rcases K.find u hkey es.toList F.keys with ⟨g1, g2⟩ | ⟨j', e0', g1, g2, g3⟩
    · exact absurd h3 (g2 e0 (List.mem_of_getElem? h2))
    · have hpw : es.toList.Pairwise (fun x y => x.key ≠ y.key) := ((MapKept.stamped_iff es clock).1 F.stamped).2.2
      obtain rfl := entry_eq_of_key hpw (List.mem_of_getElem? h2) (List.mem_of_getElem? g2) (h3.trans g3.symm)
      simp [Instr.lookup, run_underlying ht, MapKept.run_getObj_map hub, K.check u _ hkey, g1, Result.andThen]
end Go.Proofs.Ytplncocfbajefaa

