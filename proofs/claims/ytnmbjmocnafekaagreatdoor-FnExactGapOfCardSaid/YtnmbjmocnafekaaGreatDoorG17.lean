/-
  The model's finder in memory: its way so far and what it has found.
  The contract of the model's finder: all ways from a type, found behind what was found.
  The contracts of the program's finder: finderOf, isWay, along.
  The contracts of GoWay, the program's and the model's.
  The contract of the program's GoWay.
  The contracts of WayMap, the program's and the model's.
  The contracts of the model's l2Ways, l2Can and CanCoerce.
-/
import Derived.Test.YtnmbjmocnafekaaGreatDoorG8
import Derived.Deep.RegionLaw
import Derived.Test.YtnmbjmocnafekaaGreatDoorG6
import Derived.Test.YtnmbjmocnafekaaGreatDoorG12
namespace Go.Proofs.YtnmbjmocnafekaaGreatDoor
open Go.RowKit

theorem owns_ne_row {w : World} {base g : Nat} {e t : TypeId} {v : Value} {n : Nat} {xs ys : List Value} (h : w.ownsRow base e 1 v n xs) (hr : Row w g t ys) (hne : e ≠ t) : v.ownBlock ≠ some g := by
  intro hv
  obtain ⟨_, ⟨rfl, _⟩ | ⟨g', cap, cur, rfl, hb, hh, _⟩⟩ := h
  · simp [Value.ownBlock] at hv
  · simp only [Value.ownBlock, Option.some.injEq] at hv
    subst hv
    unfold Row at hr
    rw [hr] at hh
    simp only [Option.some.injEq, Obj.cells.injEq] at hh
    exact hne hh.2.1.symm
theorem owns_ne_owns {w : World} {base base' : Nat} {e e' : TypeId} {v v' : Value} {n n' : Nat} {xs xs' : List Value} (h : w.ownsRow base e 1 v n xs) (h' : w.ownsRow base' e' 1 v' n' xs') (hne : e ≠ e') : ∀ b, v.ownBlock = some b → v'.ownBlock ≠ some b := by
  intro b hv hv'
  obtain ⟨_, ⟨rfl, _⟩ | ⟨g, cap, cur, rfl, hb, hh, _⟩⟩ := h
  · simp [Value.ownBlock] at hv
  obtain ⟨_, ⟨rfl, _⟩ | ⟨g', cap', cur', rfl, hb', hh', _⟩⟩ := h'
  · simp [Value.ownBlock] at hv'
  simp only [Value.ownBlock, Option.some.injEq] at hv hv'
  subst hv
  subst hv'
  rw [hh] at hh'
  simp only [Option.some.injEq, Obj.cells.injEq] at hh'
  exact hne hh'.2.1

/-- The pieces of a finder in memory: the value of the way, of what was found, the cells of the latter, the blocks in which the found ways lie. -/
structure FP (sv cv : Value) (goal : Int) (base g : Nat) (way : List Int) (outs : List (List Int)) (w : World) (wv ov : Value) (xs : List Value) (S : Nat → Prop) : Prop where
  row : Row w g 225 [sv, cv, .int .i64 goal, wv, ov]
  le : base ≤ g
  fway : w.ownsRow base 3 1 wv way.length (way.map (Value.int .i64))
  fouts : w.ownsRow base 22 1 ov outs.length xs
  ints : ∀ i, ∀ (h : i < outs.length), ∃ x, xs[i]? = some x ∧ IntsIn w S x outs[i]
  set : ∀ b, S b → base ≤ b ∧ b < w.heap.size ∧ b ≠ g ∧ some b ≠ wv.ownBlock ∧ some b ≠ ov.ownBlock
def FS (sv cv : Value) (goal : Int) (base g : Nat) (way : List Int) (outs : List (List Int)) (w : World) : Prop := ∃ wv ov xs S, FP sv cv goal base g way outs w wv ov xs S

section
variable {sv cv wv ov : Value} {goal : Int} {base g : Nat} {way : List Int} {outs : List (List Int)} {w w' w6 w7 : World} {xs : List Value} {S : Nat → Prop}
theorem FP.ne1 (h : FP sv cv goal base g way outs w wv ov xs S) : wv.ownBlock ≠ some g := owns_ne_row h.fway h.row (by decide)
theorem FP.ne2 (h : FP sv cv goal base g way outs w wv ov xs S) : ov.ownBlock ≠ some g := owns_ne_row h.fouts h.row (by decide)
theorem FP.ne3 (h : FP sv cv goal base g way outs w wv ov xs S) : ∀ b, wv.ownBlock = some b → ov.ownBlock ≠ some b := owns_ne_owns h.fway h.fouts (by decide)
theorem FP.keep (h : FP sv cv goal base g way outs w wv ov xs S) (hs : w.heap.size ≤ w'.heap.size) (hk : ∀ k, base ≤ k → k < w.heap.size → w'.heap[k]? = w.heap[k]?) : FP sv cv goal base g way outs w' wv ov xs S where
  row := h.row.keep (hk g h.le h.row.lt)
  le := h.le
  fway := ownsRow_keep h.fway hk
  fouts := ownsRow_keep h.fouts hk
  ints := fun i hi => by
    obtain ⟨x, hx, hz⟩ := h.ints i hi
    exact ⟨x, hx, hz.keep fun b hb => hk b (h.set b hb).1 (h.set b hb).2.1⟩
  set := fun b hb => by
    obtain ⟨h1, h2, h3⟩ := h.set b hb
    exact ⟨h1, by omega, h3⟩
theorem FS.keep (h : FS sv cv goal base g way outs w) (hs : w.heap.size ≤ w'.heap.size) (hk : ∀ k, base ≤ k → k < w.heap.size → w'.heap[k]? = w.heap[k]?) : FS sv cv goal base g way outs w' := by
  obtain ⟨wv, ov, xs, S, h⟩ := h
  exact ⟨wv, ov, xs, S, h.keep hs hk⟩
theorem heap_set_ne (w : World) (g i : Nat) (u : Value) (k : Nat) (h : k ≠ g) : (w.setCell ⟨g, i, none⟩ u).heap[k]? = w.heap[k]? := Below.heap_setCell w ⟨g, i, none⟩ u k h

theorem FP.pushWay {wv' : Value} {i : Int} (h : FP sv cv goal base g way outs w wv ov xs S) (hp : Pushed w w' base 3 wv wv' way.length (way.map (Value.int .i64)) (.int .i64 i)) :
    FP sv cv goal base g (way ++ [i]) outs (w'.setCell ⟨g, 3, none⟩ wv') wv' ov xs S := by
  have hg := h.row.lt
  have hgr : w'.heap[g]? = w.heap[g]? := hp.grown.block g hg (fun e => h.ne1 e.symm)
  have hne' : wv'.ownBlock ≠ some g := by
    rcases hp.at_ with e | ⟨g', e, h1, _⟩
    · rw [e]; exact h.ne1
    · rw [e]; intro h2; simp only [Option.some.injEq] at h2; omega
  refine ⟨(h.row.keep hgr).set_ 3 wv', h.le, ?_, ?_, fun j hj => ?_, fun b hb => ?_⟩
  · refine ownsRow_keep1 (w := w') ?_ fun b hb => heap_set_ne _ _ _ _ _ (fun e => hne' (by rw [hb, e]))
    rw [List.length_append, List.map_append]
    exact hp.own
  · refine ownsRow_keep1 h.fouts fun b hb => (heap_set_ne _ _ _ _ _ (fun e => h.ne2 (by rw [hb, e]))).trans (hp.grown.block b (owns_lt h.fouts b hb).2 fun e => h.ne3 b e.symm hb)
  · obtain ⟨x, hx, hz⟩ := h.ints j hj
    refine ⟨x, hx, hz.keep fun b hb => ?_⟩
    obtain ⟨_, h2, h3, h4, _⟩ := h.set b hb
    exact (heap_set_ne _ _ _ _ _ h3).trans (hp.grown.block b h2 h4)
  · obtain ⟨h1, h2, h3, h4, h5⟩ := h.set b hb
    refine ⟨h1, by have := hp.grown.size; simp [World.setCell]; omega, h3, ?_, h5⟩
    rcases hp.at_ with e | ⟨g', e, h6, _⟩
    · rw [e]; exact h4
    · rw [e]; intro h7; simp only [Option.some.injEq] at h7; omega

theorem FP.pushOut {ov' x : Value} (h : FP sv cv goal base g way outs w wv ov xs S) (hs : w.heap.size ≤ w6.heap.size) (hk : ∀ k, k < w.heap.size → w6.heap[k]? = w.heap[k]?) (hx : IntsIn w6 (fun b => w.heap.size ≤ b ∧ b < w6.heap.size) x way)
    (hp : Pushed w6 w7 base 22 ov ov' outs.length xs x) : FS sv cv goal base g way (outs ++ [way]) (w7.setCell ⟨g, 4, none⟩ ov') := by
  have hg := h.row.lt
  have h6 := h.keep hs (fun k _ hkk => hk k hkk)
  have hgr : w7.heap[g]? = w6.heap[g]? := hp.grown.block g h6.row.lt (fun e => h6.ne2 e.symm)
  have hne' : ov'.ownBlock ≠ some g := by
    rcases hp.at_ with e | ⟨g', e, h1, _⟩
    · rw [e]; exact h6.ne2
    · rw [e]; intro h2; simp only [Option.some.injEq] at h2; omega
  have hwl := owns_lt h.fway
  have hbl := owns_lt h.fouts
  have hsz := hp.grown.size
  have hxl := h.fouts.1
  refine ⟨wv, ov', xs ++ [x], fun b => S b ∨ (w.heap.size ≤ b ∧ b < w6.heap.size), (h6.row.keep hgr).set_ 4 ov', h.le, ?_, ?_, fun j hj => ?_, fun b hb => ?_⟩
  · refine ownsRow_keep1 h6.fway fun b hb => (heap_set_ne _ _ _ _ _ (fun e => h.ne1 (by rw [hb, e]))).trans (hp.grown.block b (owns_lt h6.fway b hb).2 fun e => h.ne3 b hb e.symm)
  · refine ownsRow_keep1 (w := w7) ?_ fun b hb => heap_set_ne _ _ _ _ _ (fun e => hne' (by rw [hb, e]))
    rw [List.length_append]
    exact hp.own
  · have kept : ∀ b, (S b ∨ (w.heap.size ≤ b ∧ b < w6.heap.size)) → (w7.setCell ⟨g, 4, none⟩ ov').heap[b]? = w6.heap[b]? := by
      intro b hb
      rcases hb with hb | hb
      · obtain ⟨_, h2, h3, h4, h5⟩ := h.set b hb
        exact (heap_set_ne _ _ _ _ _ h3).trans (hp.grown.block b (by omega) h5)
      · refine (heap_set_ne _ _ _ _ _ (by omega)).trans (hp.grown.block b hb.2 fun e => ?_)
        have := (hbl b e.symm).2
        omega
    by_cases hjl : j < outs.length
    · obtain ⟨y, hy, hz⟩ := h6.ints j hjl
      refine ⟨y, ?_, ?_⟩
      · rw [List.getElem?_append_left (by rw [hxl]; omega)]; exact hy
      · rw [List.getElem_append_left hjl]
        exact (hz.more fun b hb => Or.inl hb).keep kept
    · obtain rfl : j = outs.length := by simp at hj; omega
      refine ⟨x, ?_, ?_⟩
      · rw [List.getElem?_append_right (by rw [hxl]; omega), hxl]; simp
      · have e : (outs ++ [way])[outs.length] = way := by simp
        rw [e]
        exact (hx.more fun b hb => Or.inr hb).keep kept
  · have h5' : b < (w7.setCell ⟨g, 4, none⟩ ov').heap.size ↔ b < w7.heap.size := by simp [World.setCell]
    rcases hb with hb | hb
    · obtain ⟨h1, h2, h3, h4, h5⟩ := h.set b hb
      refine ⟨h1, h5'.2 (by omega), h3, h4, ?_⟩
      rcases hp.at_ with e | ⟨g', e, h6, _⟩
      · rw [e]; exact h5
      · rw [e]; intro h7; simp only [Option.some.injEq] at h7; omega
    · have hle := h.le
      refine ⟨by omega, h5'.2 (by omega), by omega, ?_, ?_⟩
      · intro e
        have := (hwl b e.symm).2
        omega
      · rcases hp.at_ with e | ⟨g', e, h6, _⟩
        · rw [e]; intro e2
          have := (hbl b e2.symm).2
          omega
        · rw [e]; intro h7; simp only [Option.some.injEq] at h7; omega

theorem IntsAt.in_ {w : World} {lo hi : Nat} {v : Value} {zs : List Int} (h : IntsAt w lo hi v zs) : IntsIn w (fun b => lo ≤ b ∧ b < hi) v zs := by
  obtain ⟨A, cap, e, h1, h2, h3, h4⟩ := h
  refine ⟨A, cap, e, h1, h2, h3, fun h0 => ?_⟩
  obtain ⟨b, off, hA, hl, hh, hc⟩ := h4 h0
  exact ⟨b, off, hA, ⟨hl, hh⟩, hc⟩
theorem FP.belowOut {ov' x u : Value} {j : Nat} (h : FP sv cv goal base g way outs w wv ov xs S) (ho : w6.os = w.os ∧ w6.tape = w.tape ∧ w6.output = w.output) (hbs : base ≤ w.heap.size) (hs : w.heap.size ≤ w6.heap.size) (hk : ∀ k, k < w.heap.size → w6.heap[k]? = w.heap[k]?)
    (hp : Pushed w6 w7 base 22 ov ov' outs.length xs x) : Below base w (w7.setCell ⟨g, j, none⟩ u) := by
  have hb : Below base w w7 := ⟨hp.grown.os.trans ho.1, hp.grown.tape.trans ho.2.1, hp.grown.output.trans ho.2.2, Nat.le_trans hs hp.grown.size, fun k hk2 => (hp.grown.block k (by omega) (fun e => by have := (owns_lt h.fouts k e.symm).1; omega)).trans (hk k (by omega))⟩
  exact hb.setCell h.le _

theorem FP.pop {i : Int} {g2 cap : Nat} (h : FP sv cv goal base g (way ++ [i]) outs w (.slice (some ⟨g2, 0, none⟩) (way.length + 1) cap) ov xs S) :
    FS sv cv goal base g way outs (w.setCell ⟨g, 3, none⟩ (.slice (some ⟨g2, 0, none⟩) way.length cap)) := by
  have hne : g2 ≠ g := fun e => h.ne1 (by rw [← e]; rfl)
  refine ⟨.slice (some ⟨g2, 0, none⟩) way.length cap, ov, xs, S, h.row.set_ 3 _, h.le, ?_, ?_, fun j hj => ?_, fun b hb => ?_⟩
  · have hw := h.fway
    rw [List.length_append, List.map_append] at hw
    exact ownsRow_keep1 (owns_shrink (x := .int .i64 i) hw) fun b hb => heap_set_ne _ _ _ _ _ (fun e => by simp only [Value.ownBlock, Option.some.injEq] at hb; omega)
  · exact ownsRow_keep1 h.fouts fun b hb => heap_set_ne _ _ _ _ _ (fun e => h.ne2 (by rw [hb, e]))
  · obtain ⟨x, hx, hz⟩ := h.ints j hj
    exact ⟨x, hx, hz.keep fun b hb => heap_set_ne _ _ _ _ _ (h.set b hb).2.2.1⟩
  · obtain ⟨h1, h2, h3, h4, h5⟩ := h.set b hb
    exact ⟨h1, by simpa [World.setCell] using h2, h3, h4, h5⟩
end
end Go.Proofs.YtnmbjmocnafekaaGreatDoor

namespace Go.Proofs.YtnmbjmocnafekaaGreatDoor
open Go.RowKit

theorem Tryz.infoIntS : (Tryz.prog.info? 22).map (fun i => (i.zero, i.size, i.bytes)) = some (some (.slice none 0 0), 1, 24) := by kernel_rfl

set_option maxRecDepth 100000 in
set_option maxHeartbeats 4000000 in
theorem from_any (lo hi : Nat) (sv cv : Value) (t : Ty) (goal : Int) (base g : Nat) (hok : tyOk t = true) (hB : hi ≤ base) : ∀ (n : Nat) (k : Int) (way : List Int) (outs : List (List Int)) (w : World), TyAt w lo hi sv cv t → base ≤ w.heap.size →
    0 ≤ k → k < t.sizes.length → t.sizes.length ≤ k.toNat + n → way.length + n ≤ 20 → (∀ z ∈ way, I64 z) → outs.length + (waysF t.cos n k goal).length ≤ 1000000 → FS sv cv goal base g way outs w →
    Calls Tryz.prog 130 #[.pointer (some ⟨g, 0, none⟩), .int .i64 k] w fun e w' => e = .returned (.tuple #[]) ∧ Below base w w' ∧ FS sv cv goal base g way (outs ++ (waysF t.cos n k goal).map (way ++ ·)) w' := by
  intro n
  induction n with
  | zero => intro k way outs w _ _ h1 h2 h3; omega
  | succ n ih =>
    intro k way outs w hv hbs hk0 hk1 hkn hwn hwf hon hfs
    obtain ⟨A, cap, rfl, hl1, hm1, _⟩ := hv.1.form
    obtain ⟨B, bap, rfl, hl2, hm2, hc1⟩ := hv.2.form
    obtain ⟨wv, ov, xs, S, hfp⟩ := hfs
    have hfew := tyOk_few hok
    have c0 := hfp.row.cell 0
    have c1 := hfp.row.cell 1
    have c2 := hfp.row.cell 2
    have c3 := hfp.row.cell 3
    have c4 := hfp.row.cell 4
    have f3 := hfp.row.frozen 3
    have f4 := hfp.row.frozen 4
    simp only [List.getElem?_cons_zero, List.getElem?_cons_succ] at c0 c1 c2 c3 c4
    obtain ⟨i0, hi0, hz0, hz1, hz2⟩ := info_parts Tryz.infoInt
    obtain ⟨i1, hi1, hy0, hy1, hy2⟩ := info_parts Tryz.infoIntS
    have Hfp := Lib.hid hfp
    have Hv := Lib.hid hv
    have Hc1 := Lib.hid hc1
    have Ih := Lib.hid ih
    have Hwf := Lib.hid hwf
    have hgw := hfp.row.lt
    have hgb := hfp.le
    by_cases hkg : k = goal
    · have Hways := Lib.hid (show waysF t.cos (n + 1) k goal = [[]] by rw [hkg]; exact waysF_eq _ _ _)
      have htest : (k == goal) = true := by simpa using hkg
      have hlo : outs.length ≤ 1000000 := by omega
      have Hz0 := Lib.hid (ownsRow.intsAt (lo := base) (hi := w.heap.size) hfp.fway hwf (Nat.le_refl _) (Nat.le_refl _))
      obtain ⟨WA, WC, hwv⟩ := owns_form hfp.fway
      rw [hwv] at c3 Hz0 Hfp
      obtain ⟨OA, OC, hov⟩ := owns_form hfp.fouts
      rw [hov] at c4 Hfp
      clear hv hc1 hfp ih hwf hkg hwv hov
      go_enter Tryz.func130, Tryz.ntmps130
      go_upto_region 1 with fail
      clear Ih Hc1 c0 c1 c2 Hv
      have K0 : Hid (w.drew.cell? ⟨g, 3, none⟩ = some (.slice WA way.length WC) ∧ w.drew.cell? ⟨g, 4, none⟩ = some (.slice OA outs.length OC)) := ⟨c3, c4⟩
      have hk1 : ∀ k, k < w.heap.size → (w.drew.alloc (.cells #[] 3)).heap[k]? = w.heap[k]? := fun k hk => Below.heap_alloc w.drew _ k hk
      have Hk1 := Lib.hid hk1
      have K1 : Hid ((w.drew.alloc (.cells #[] 3)).cell? ⟨g, 3, none⟩ = some (.slice WA way.length WC) ∧ (w.drew.alloc (.cells #[] 3)).cell? ⟨g, 4, none⟩ = some (.slice OA outs.length OC)) := ⟨(World.cell?_of_block (w := w) (hk1 g hgw)).trans c3, (World.cell?_of_block (w := w) (hk1 g hgw)).trans c4⟩
      have hlit := World.ownsRow_lit (base := w.heap.size) (e := 3) (size := 1) w.drew #[] 0 (Nat.le_refl _) (by unfold maxLen; omega) rfl
      have Hlit := Lib.hid hlit
      clear hk1 hlit
      have k14 := K1.out.2
      have k04 := K0.out.2
      have k13 := K1.out.1
      have k03 := K0.out.1
      go_region_law
        (first
          | (refine step_append_ints rfl (.tmp 17) (.tmp 21) rfl w.heap.size _ 0 _ rfl Hlit.out base w.heap.size WA way.length WC way rfl (Hz0.out.keep fun k _ hk => Hk1.out k hk) rfl (by omega) (by simp) ?_
             intro VA VC w5 hown5 hgrow5
             simp only [Nat.zero_add, List.nil_append] at hown5
             have hg5 : (w.drew.alloc (.cells #[] 3)).grownBy w5 (some w.heap.size) := hgrow5
             have hs5 : w.heap.size + 1 ≤ w5.heap.size := by have := hg5.size; rw [World.size_alloc] at this; exact this
             have hk5 : ∀ k, k < w.heap.size → w5.heap[k]? = w.heap[k]? := fun k hk => (hg5.block k (by rw [World.size_alloc]; exact Nat.lt_succ_of_lt hk) (by intro e; simp only [Option.some.injEq] at e; omega)).trans (Hk1.out k hk)
             have hos5 : w5.os = w.os ∧ w5.tape = w.tape ∧ w5.output = w.output := ⟨hg5.os, hg5.tape, hg5.output⟩
             have hk6 : ∀ k, k < w.heap.size → (w5.alloc (.cells #[.slice VA way.length VC] 22)).heap[k]? = w.heap[k]? := fun k hk => (Below.heap_alloc w5 _ k (by omega)).trans (hk5 k hk)
             have K5 : Hid (w5.cell? ⟨g, 3, none⟩ = some (.slice WA way.length WC) ∧ w5.cell? ⟨g, 4, none⟩ = some (.slice OA outs.length OC)) := ⟨(World.cell?_of_block (w := w) (hk5 g hgw)).trans c3, (World.cell?_of_block (w := w) (hk5 g hgw)).trans c4⟩
             have K6 : Hid ((w5.alloc (.cells #[.slice VA way.length VC] 22)).cell? ⟨g, 3, none⟩ = some (.slice WA way.length WC) ∧ (w5.alloc (.cells #[.slice VA way.length VC] 22)).cell? ⟨g, 4, none⟩ = some (.slice OA outs.length OC)) := ⟨(World.cell?_of_block (w := w) (hk6 g hgw)).trans c3, (World.cell?_of_block (w := w) (hk6 g hgw)).trans c4⟩
             have k54 := K5.out.2
             have k64 := K6.out.2
             have Hk6 := Lib.hid hk6
             have Hos5 := Lib.hid hos5
             have Hown5 := Lib.hid hown5
             clear hk5 hk6 hgrow5 hg5 hown5 hos5)
          | (refine step_push (by simp [Region.wanted]) (.tmp 16) (.tmp 23) 71 rfl i1 (.slice none 0 0) 24 Tryz.underlying71 hi1 hy0 hy1 hy2 rfl rfl (ownsRow_keep Hfp.out.fouts fun k _ hk => Hk6.out k hk) ⟨w5.heap.size, 0, none⟩ 1 (.slice VA way.length VC) rfl (by simp [go_sem]) rfl (by unfold maxLen; omega) (by omega) (by simp; omega) ?_
             intro v7 w7 hp7
             obtain ⟨g7, cap7, rfl⟩ := hp7.form
             have r7 := (Hfp.out.row.keep (Hk6.out g hgw)).keep (hp7.grown.block g (by simp; omega) (fun e => Hfp.out.ne2 e.symm))
             have p3 : w7.cell? ⟨g, 3, none⟩ = some (.slice WA way.length WC) := r7.cell 3
             have p4 : w7.cell? ⟨g, 4, none⟩ = some (.slice OA outs.length OC) := r7.cell 4
             have pf4 : w7.frozen? ⟨g, 4, none⟩ = false := r7.frozen 4
             have K7 := Lib.hid (show w7.cell? ⟨g, 3, none⟩ = some (.slice WA way.length WC) ∧ w7.cell? ⟨g, 4, none⟩ = some (.slice OA outs.length OC) from ⟨p3, p4⟩)
             have Hp7 := Lib.hid hp7
             clear hp7 r7))
      all_goals
        have hx6 : IntsIn (w5.alloc (.cells #[.slice VA way.length VC] 22)) (fun b => w.heap.size ≤ b ∧ b < (w5.alloc (.cells #[.slice VA way.length VC] 22)).heap.size) (.slice VA way.length VC) way :=
          ((ownsRow.intsAt (lo := w.heap.size) (hi := w5.heap.size) Hown5.out Hwf.out (Nat.le_refl _) (Nat.le_refl _)).keep fun k _ hk => Below.heap_alloc w5 _ k hk).in_.more fun b hb => ⟨hb.1, by simp; omega⟩
        have hend := Lib.hid (Hfp.out.pushOut (by simp; omega) Hk6.out hx6 Hp7.out)
        have hbel := Lib.hid (Hfp.out.belowOut (w6 := w5.alloc (.cells #[.slice VA way.length VC] 22)) (j := 4) (u := .slice (some ⟨g7, 0, none⟩) (outs.length + 1) cap7) Hos5.out hbs (by simp; omega) Hk6.out Hp7.out)
        clear hx6 k04 k14 k03 k13 k54 k64
        go_wp2
        refine bodyPost_ret (results_none rfl _ _ _) rfl ?_
        exact ⟨rfl, hbel.out, by rw [Hways.out]; simpa using hend.out⟩
    · have hwj := Lib.hid (waysF_ne (cs := t.cos) (n := n) hkg)
      have htest : (k == goal) = false := by simpa using hkg
      have hon2 : outs.length + (waysJ t.cos n k goal t.cos.length).length ≤ 1000000 := by rw [← hwj.out]; exact hon
      have hfs0 := Lib.hid (show FS (.slice A t.sizes.length cap) (.slice B t.cos.length bap) goal base g way outs w from ⟨wv, ov, xs, S, hfp⟩)
      clear hv hc1 hfp ih hwf hkg hon Hfp c0 c3 c4 f3 f4
      go_enter Tryz.func130, Tryz.ntmps130
      go_wp2
      go_loopw [33] (fun i wr => ∃ j : Nat, j ≤ t.cos.length ∧ i = .int .i64 j ∧ Hid (Below base w wr) ∧ Hid (FS (.slice A t.sizes.length cap) (.slice B t.cos.length bap) goal base g way (outs ++ (waysJ t.cos n k goal j).map (way ++ ·)) wr)) (fun i _ => t.cos.length - (intOf i).toNat)
      case atStart => exact ⟨0, Nat.zero_le _, rfl, Below.refl _ _, by show FS _ _ _ _ _ _ _ _; rw [waysJ_zero]; simpa using hfs0.out⟩
      case round =>
        obtain ⟨j, hj, rfl, hb, hfs⟩ := hrel
        have hbsz := hb.out.size
        by_cases hlt : j < t.cos.length
        · obtain ⟨b, off, A2, cap2, rfl, hlo, hhi, d0, d1, d2, h5, h6, hsI, hdI, hz2'⟩ := (Hc1.out.below hb.out hB).at_ hlt
          clear hz2' hsI hdI
          by_cases hq : t.cos[j].src = k
          · have hh := Lib.hid (waysJ_hit (n := n) (goal := goal) hlt hq)
            have hco := coOk_of (tyOk_co hok hlt)
            have hdst : 0 ≤ t.cos[j].dst ∧ t.cos[j].dst < t.sizes.length ∧ t.sizes.length ≤ t.cos[j].dst.toNat + n := by omega
            have hmono := waysJ_mono t.cos n k goal (show j + 1 ≤ t.cos.length from hlt)
            have hlen3 : (outs ++ (waysJ t.cos n k goal j).map (way ++ ·)).length + (waysF t.cos n t.cos[j].dst goal).length ≤ 1000000 := by
              have e := congrArg List.length hh.out
              rw [List.length_append, List.length_map] at e
              rw [List.length_append, List.length_map]
              omega
            have htq : (t.cos[j].src != k) = false := by simpa using hq
            obtain ⟨wv2, ov2, xs2, S2, hfp2⟩ := hfs.out
            have p3 := hfp2.row.cell 3
            have pf3 := hfp2.row.frozen 3
            simp only [List.getElem?_cons_zero, List.getElem?_cons_succ] at p3
            have hgr := hfp2.row.lt
            have hfp3 := hfp2.keep (w' := (wr.alloc (.cells #[.int .i64 t.cos[j].src, .int .i64 t.cos[j].dst, .slice A2 t.cos[j].map.length cap2] 185)).alloc (.cells #[.int .i64 j] 3)) (by simp; omega) (fun k _ hk => (Below.heap_alloc _ _ k (by simp; omega)).trans (Below.heap_alloc _ _ k hk))
            have Hfp3 := Lib.hid hfp3
            have Hco := Lib.hid hco
            have Hlen3 := Lib.hid hlen3
            have Hwl := Lib.hid (owns_lt hfp2.fway)
            have Hdst := Lib.hid hdst
            clear hfp2 hfp3 hco hq hlen3 hmono hdst
            go_wp2_with (at_builtin; refine wpList_push rfl (.tmp 46) (.tmp 48) 22 rfl i0 (.int .i64 0) 8 Tryz.underlying22 hi0 hz0 hz1 hz2 rfl rfl Hfp3.out.fway ⟨wr.heap.size + 1, 0, none⟩ 1 (.int .i64 j) rfl (by simp [go_sem]) rfl (by unfold maxLen; omega) (by omega) (by simp; omega) ?_)
            intro v5 w5 hp5
            obtain ⟨g5, cap5, rfl⟩ := hp5.form
            have r5 := Hfp3.out.row.keep (hp5.grown.block g (by simp; omega) (fun e => Hfp3.out.ne1 e.symm))
            have e3 : w5.cell? ⟨g, 3, none⟩ = some wv2 := r5.cell 3
            have ef3 : w5.frozen? ⟨g, 3, none⟩ = false := r5.frozen 3
            have hs5 : wr.heap.size + 2 ≤ w5.heap.size := by have := hp5.grown.size; simpa using this
            have hf5 := Hfp3.out.pushWay hp5
            have e1 : w5.cell? ⟨wr.heap.size, 1, none⟩ = some (.int .i64 t.cos[j].dst) := (hp5.grown.cell_far ⟨wr.heap.size, 1, none⟩ (by simp; omega) (fun e => by have := (Hwl.out _ e.symm).2; dsimp only at this; omega)).trans (by simp [go_sem])
            have hb6 := (((hb.out.alloc (by omega) (.cells #[.int .i64 t.cos[j].src, .int .i64 t.cos[j].dst, .slice A2 t.cos[j].map.length cap2] 185)).alloc (by simp; omega) (.cells #[.int .i64 j] 3)).grown hp5.grown (by simp; omega) (fun k hk => (owns_lt Hfp3.out.fway k hk).1)).setCell (p := ⟨g, 3, none⟩) hgb (.slice (some ⟨g5, 0, none⟩) (way.length + 1) cap5)
            have e1' : (w5.setCell ⟨g, 3, none⟩ (.slice (some ⟨g5, 0, none⟩) (way.length + 1) cap5)).cell? ⟨wr.heap.size, 1, none⟩ = some (.int .i64 t.cos[j].dst) := (World.cell?_of_block (w := w5) (heap_set_ne _ _ _ _ _ (by dsimp only; omega))).trans e1
            have hs6 : (w5.setCell ⟨g, 3, none⟩ (.slice (some ⟨g5, 0, none⟩) (way.length + 1) cap5)).heap.size = w5.heap.size := by simp [World.setCell]
            have Hb6 := Lib.hid hb6
            have Hf5 := Lib.hid hf5
            clear hp5 r5 hf5 hb6
            go_wp2_with fail
            refine (Ih.out t.cos[j].dst (way ++ [(j : Int)]) _ _ (Hv.out.below Hb6.out hB) (by rw [hs6]; omega) Hdst.out.1 Hdst.out.2.1 Hdst.out.2.2 (by rw [List.length_append, List.length_singleton]; omega) (fun z hz => by
              rcases List.mem_append.1 hz with h | h
              · exact Hwf.out z h
              · simp at h; subst h; unfold I64; omega) Hlen3.out ⟨_, _, _, _, Hf5.out⟩).mono ?_
            rintro e w7 ⟨rfl, hb7, hfs7⟩
            have Hb7 := Lib.hid (Hb6.out.trans hb7)
            obtain ⟨wv7, ov7, xs7, S7, hfp7⟩ := hfs7
            obtain ⟨g7, cap7, rfl⟩ : ∃ g7 cap7, wv7 = .slice (some ⟨g7, 0, none⟩) (way.length + 1) cap7 := by
              obtain ⟨_, ⟨_, h0⟩ | ⟨g7, cap7, _, e, _⟩⟩ := hfp7.fway
              · rw [List.length_append, List.length_singleton] at h0; omega
              · rw [List.length_append, List.length_singleton] at e; exact ⟨g7, cap7, e⟩
            have hc7 : way.length + 1 ≤ cap7 := by
              obtain ⟨_, ⟨h0, _⟩ | ⟨g8, cap8, _, e, _, _, h1, _⟩⟩ := hfp7.fway
              · cases h0
              · rw [List.length_append, List.length_singleton] at e h1
                simp only [Value.slice.injEq] at e
                omega
            have z3 : w7.cell? ⟨g, 3, none⟩ = some (.slice (some ⟨g7, 0, none⟩) (way.length + 1) cap7) := hfp7.row.cell 3
            have zf3 : w7.frozen? ⟨g, 3, none⟩ = false := hfp7.row.frozen 3
            have hpop := Lib.hid (FP.pop hfp7)
            clear hb7 hfp7 e1 e1' e3 ef3 p3 pf3 d0 d1 d2
            go_upto_region 8 with fail
            go_region
            have hlist : (outs ++ (waysJ t.cos n k goal j).map (way ++ ·)) ++ (waysF t.cos n t.cos[j].dst goal).map ((way ++ [(j : Int)]) ++ ·) = outs ++ (waysJ t.cos n k goal (j + 1)).map (way ++ ·) := by
              rw [hh.out]
              simp [List.map_append, List.append_assoc, Function.comp_def]
            have hfin := hpop.out
            rw [hlist] at hfin
            have Hfin := Lib.hid hfin
            clear hfin hlist
            go_wp2
            go_roundw
            case rel => exact ⟨j + 1, by omega, by go_num, (Hb7.out.setCell hgb _).drew, Hfin.out.keep (Nat.le_refl _) (fun _ _ _ => rfl)⟩
            case measure => simp [intOf]; omega
          · have hh := Lib.hid (waysJ_miss (n := n) (goal := goal) hlt hq)
            have htq : (t.cos[j].src != k) = true := by simpa using hq
            clear hq
            go_wp2
            go_roundw
            case rel => exact ⟨j + 1, by omega, by go_num, hb.out.alloc (by omega) _, by
              show FS _ _ _ _ _ _ _ _
              rw [hh.out]
              exact hfs.out.keep (by simp) (fun k _ hk => Below.heap_alloc _ _ k hk)⟩
            case measure => simp [intOf]; omega
        · obtain rfl : j = t.cos.length := by omega
          go_wp2
          go_end0
          exact ⟨rfl, hb.out, by rw [hwj.out]; exact hfs.out⟩
end Go.Proofs.YtnmbjmocnafekaaGreatDoor

namespace Go.Proofs.YtnmbjmocnafekaaGreatDoor
open Go.RowKit

/-- Are the types valid, and are these all types of theirs? -/
def findOk (t : Ty) (ks : List Int) : Bool := tyOk t && ks.all fun k => ixB k t.sizes.length

set_option maxRecDepth 100000 in
set_option maxHeartbeats 1000000 in
theorem finderOf_any (lo hi lo2 hi2 : Nat) (sv cv kv : Value) (t : Ty) (ks : List Int) (w : World) (hv : TyAt w lo hi sv cv t) (hB : hi ≤ w.heap.size) (hk : IntsAt w lo2 hi2 kv ks) (hB2 : hi2 ≤ w.heap.size) :
    Calls Tryz.prog 101 #[.agg #[sv, cv], kv] w fun e w' => ∃ p, e = .returned (.tuple #[.pointer p, .bool (findOk t ks)]) ∧ Below w.heap.size w w' ∧
      (findOk t ks = true → ∃ g, p = some ⟨g, 0, none⟩ ∧ w.heap.size ≤ g ∧ Row w' g 159 [sv, cv]) := by
  obtain ⟨A, cap, rfl, hl1, hm1, _⟩ := hv.1.form
  obtain ⟨B, bap, rfl, hl2, hm2, _⟩ := hv.2.form
  obtain ⟨K, kap, rfl, hl3, hm3, hk1⟩ := hk.form
  unfold maxLen at hm1 hm3
  have h3 : Below w.heap.size w (w.alloc (.cells #[.slice A t.sizes.length cap, .slice B t.cos.length bap] 33)) := by go_grown
  have hv3 := Lib.hid (hv.below h3 hB)
  have Hk1 := Lib.hid hk1
  clear hv hk hk1
  go_enter Tryz.func101, Tryz.ntmps101
  go_wp2_with fail
  refine (implValid_any lo hi _ _ t _ hv3.out (by simp; omega)).mono ?_
  rintro e w1 ⟨rfl, hb1⟩
  have H1 := Lib.hid (box2 (hb1.mono (by simp)))
  obtain ⟨q0, q1, hl, _⟩ := box2 (hb1.mono (by simp))
  clear hb1
  by_cases hok : tyOk t = true
  · have hfin : Hid (findOk t ks = ks.all fun k => ixB k t.sizes.length) := by show _ = _; unfold findOk; rw [hok, Bool.true_and]
    rw [hok]
    clear hok
    go_wp2
    go_loopw [13] (fun i wr => ∃ j : Nat, j ≤ ks.length ∧ i = .int .i64 j ∧ w1 = wr ∧ Hid (∀ m, ∀ (hm : m < ks.length), m < j → ixB ks[m] t.sizes.length = true)) (fun i _ => ks.length - (intOf i).toNat)
    case atStart => exact ⟨0, Nat.zero_le _, rfl, rfl, fun m hm h => absurd h (by omega)⟩
    case round =>
      obtain ⟨j, hj, rfl, rfl, hall⟩ := hrel
      by_cases hlt : j < ks.length
      · obtain ⟨b, off, rfl, _, _, c0, _⟩ := (Hk1.out.below H1.out.2.2.2 hB2).at_ hlt
        by_cases hx : ixB ks[j] t.sizes.length = true
        · have hall2 : Hid (∀ m, ∀ (hm : m < ks.length), m < j + 1 → ixB ks[m] t.sizes.length = true) := fun m hm h => by
            by_cases e : m = j
            · subst e; exact hx
            · exact hall.out m hm (by omega)
          go_wp2_with (go_at_call 93; refine (isIndex_any _ _ _).mono ?_; rintro e w' ⟨rfl, rfl⟩; rw [hx])
          go_roundw
          case rel => exact ⟨j + 1, by omega, by go_num, trivial, hall2⟩
          case measure => simp [intOf]; omega
        · have hxf : ixB ks[j] t.sizes.length = false := by simpa using hx
          have hno : findOk t ks = false := by rw [hfin.out]; exact all_false_of j hlt hxf
          clear hx
          have Hno := Lib.hid hno
          clear hno
          go_wp2_with (go_at_call 93; refine (isIndex_any _ _ _).mono ?_; rintro e w' ⟨rfl, rfl⟩; rw [hxf])
          refine bodyPost_ret (v := .tuple #[.pointer none, .bool false]) (by simp [results, Tryz.results101, go_sem]) rfl ?_
          exact ⟨none, by rw [Hno.out], H1.out.2.2.2, fun h => by rw [Hno.out] at h; cases h⟩
      · obtain rfl : j = ks.length := by omega
        have hyes : findOk t ks = true := by rw [hfin.out]; exact all_true_of fun m hm => hall.out m hm hm
        have Hyes := Lib.hid hyes
        clear hyes
        go_wp2
        refine bodyPost_ret (v := .tuple #[.pointer (some ⟨w1.heap.size, 0, none⟩), .bool true]) (by simp [results, Tryz.results101, go_sem]) rfl ?_
        exact ⟨_, by rw [Hyes.out], H1.out.2.2.2.alloc (by omega) _, fun _ => ⟨_, rfl, by omega, Row.new _ _ [.slice A t.sizes.length cap, .slice B t.cos.length bap]⟩⟩
  · have hokf : tyOk t = false := by simpa using hok
    have hfin : Hid (findOk t ks = false) := by show _ = _; unfold findOk; rw [hokf, Bool.false_and]
    rw [hokf]
    clear hok
    go_wp2
    refine bodyPost_ret (v := .tuple #[.pointer none, .bool false]) (by simp [results, Tryz.results101, go_sem]) rfl ?_
    exact ⟨none, by rw [hfin.out], H1.out.2.2.2, fun h => by rw [hfin.out] at h; cases h⟩

end Go.Proofs.YtnmbjmocnafekaaGreatDoor

namespace Go.Proofs.YtnmbjmocnafekaaGreatDoor
open Go.RowKit

theorem endV_of {cs : List Co} {t : Ty} {k : Int} {zs : List Int} {o : Option Int} (hc : t.cos = cs) (h : wayEnd cs k zs = o) : endV t k zs = o.getD (-1) := by
  subst hc
  unfold endV
  rw [h]

theorem hasV_of {t : Ty} {k v : Int} (h : hasV t k v = true) : tyOk t = true ∧ ValOf t.sizes k v := by
  unfold hasV at h
  rw [Bool.and_eq_true] at h
  exact ⟨h.1, valOf_hasV0.1 h.2⟩
theorem goWayV_yes {t : Ty} {k v : Int} {zs : List Int} (h : hasV t k v = true) (h2 : (wayEnd t.cos k zs).isSome = true) : goWayV t k zs v = goV t.cos v zs := by unfold goWayV; rw [if_pos ⟨h, h2⟩]
theorem goWayV_no {t : Ty} {k v : Int} {zs : List Int} (h : ¬ (hasV t k v = true ∧ (wayEnd t.cos k zs).isSome = true)) : goWayV t k zs v = -1 := by unfold goWayV; rw [if_neg h]

end Go.Proofs.YtnmbjmocnafekaaGreatDoor

namespace Go.Proofs.YtnmbjmocnafekaaGreatDoor
open Go.RowKit

theorem findOk_one {t : Ty} {k : Int} : findOk t [k] = (tyOk t && ixB k t.sizes.length) := by simp [findOk]
/-- One number in new memory. -/
theorem ints_one (w : World) (z : Int) (hz : I64 z) (t : TypeId) : IntsAt (w.alloc (.cells #[.int .i64 z] t)) w.heap.size (w.heap.size + 1) (.slice (some ⟨w.heap.size, 0, none⟩) 1 1) [z] :=
  (show Row (w.alloc (.cells #[.int .i64 z] t)) w.heap.size t ([z].map (Value.int .i64)) from Row.new w t [.int .i64 z]).ints (fun x hx => by simp at hx; subst hx; exact hz) (Nat.le_refl _) (by omega) (Nat.le_refl _) (by unfold maxLen; simp)

end Go.Proofs.YtnmbjmocnafekaaGreatDoor

namespace Go.Proofs.YtnmbjmocnafekaaGreatDoor
open Go.RowKit

/-- What a row of coercions makes of the first n values. -/
def mapL (cs : List Co) (zs : List Int) (n : Nat) : List Int := (List.range n).map fun v : Nat => goV cs (v : Int) zs
theorem mapL_zero (cs : List Co) (zs : List Int) : mapL cs zs 0 = [] := rfl
theorem mapL_succ (cs : List Co) (zs : List Int) (n : Nat) : mapL cs zs (n + 1) = mapL cs zs n ++ [goV cs (n : Int) zs] := by
  unfold mapL
  rw [List.range_succ, List.map_append]
  rfl
theorem mapL_len (cs : List Co) (zs : List Int) (n : Nat) : (mapL cs zs n).length = n := by simp [mapL]
/-- Is there such a way in valid types? -/
def wayB (t : Ty) (k : Int) (zs : List Int) : Bool := tyOk t && ixB k t.sizes.length && (wayEnd t.cos k zs).isSome
def wayMapV (t : Ty) (k : Int) (zs : List Int) : List Int := if wayB t k zs = true then mapL t.cos zs (t.sizes.getD k.toNat 0).toNat else []
theorem wayB_of {t : Ty} {k : Int} {zs : List Int} (h : wayB t k zs = true) : tyOk t = true ∧ ixB k t.sizes.length = true ∧ (wayEnd t.cos k zs).isSome = true := by
  unfold wayB at h
  simp only [Bool.and_eq_true] at h
  exact ⟨h.1.1, h.1.2, h.2⟩
theorem wayMapV_yes {t : Ty} {k : Int} {zs : List Int} (h : wayB t k zs = true) : wayMapV t k zs = mapL t.cos zs (t.sizes.getD k.toNat 0).toNat := by unfold wayMapV; rw [if_pos h]
theorem wayMapV_no {t : Ty} {k : Int} {zs : List Int} (h : wayB t k zs = false) : wayMapV t k zs = [] := by unfold wayMapV; rw [if_neg (by simp [h])]
/-- How many values a type of valid types has. -/
theorem size_of {t : Ty} {k : Int} (hty : tyOk t = true) (hk : ixB k t.sizes.length = true) : 0 ≤ k ∧ k < t.sizes.length ∧ ∃ (hn : k.toNat < t.sizes.length) (n : Nat), t.sizes[k.toNat] = (n : Int) ∧ n ≤ 4 ∧ t.sizes.getD k.toNat 0 = (n : Int) := by
  simp only [ixB, decide_eq_true_eq] at hk
  have hn : k.toNat < t.sizes.length := by omega
  have h := (sizesOk_of (tyOk_sizes hty)).2.2 _ hn
  refine ⟨hk.1, hk.2, hn, t.sizes[k.toNat].toNat, by omega, by omega, ?_⟩
  rw [List.getD_eq_getElem?_getD, List.getElem?_eq_getElem hn]
  simp only [Option.getD_some]
  omega
theorem goV_val {t : Ty} (h : tyOk t = true) : ∀ (zs : List Int) (k v : Int), ValOf t.sizes k v → (wayEnd t.cos k zs).isSome = true → ∃ q, ValOf t.sizes q (goV t.cos v zs) := by
  intro zs
  induction zs with
  | nil => intro k v hv _; exact ⟨k, hv⟩
  | cons i is ih =>
    intro k v hv hw
    obtain ⟨h0, h1, hi, hs, hw2⟩ := wayEnd_some (zs := i :: is) (j := 0) (by simp) hw
    simp only [List.getElem_cons_zero, List.drop_succ_cons, List.drop_zero] at h0 h1 hi hs hw2
    have := valOf_step h hi (by rw [hs]; exact hv)
    obtain ⟨_, _, _, _, _, hv2⟩ := this
    rw [goV, getD_at hi]
    exact ih _ _ hv2 hw2
theorem valOf_I64 {t : Ty} (h : tyOk t = true) {q v : Int} (hv : ValOf t.sizes q v) : I64 v := by
  obtain ⟨h1, h2, h3, h4⟩ := hv
  have hn : q.toNat < t.sizes.length := by omega
  have := (sizesOk_of (tyOk_sizes h)).2.2 _ hn
  rw [List.getD_eq_getElem?_getD, List.getElem?_eq_getElem hn] at h4
  simp only [Option.getD_some] at h4
  unfold I64
  omega
theorem wayMapV_wf (t : Ty) (k : Int) (zs : List Int) : ∀ z ∈ wayMapV t k zs, I64 z := by
  intro z hz
  by_cases h : wayB t k zs = true
  · rw [wayMapV_yes h] at hz
    obtain ⟨h1, h2, h3⟩ := wayB_of h
    obtain ⟨g1, g2, hn, n, e, _, e2⟩ := size_of h1 h2
    unfold mapL at hz
    obtain ⟨v, hv, rfl⟩ := List.mem_map.1 hz
    have hv := List.mem_range.1 hv
    rw [e2] at hv
    obtain ⟨q, hq⟩ := goV_val h1 zs k v ⟨g1, g2, by omega, by rw [e2]; omega⟩ h3
    exact valOf_I64 h1 hq
  · rw [wayMapV_no (by simpa using h)] at hz
    exact absurd hz (by simp)
theorem wayMapV_le (t : Ty) (k : Int) (zs : List Int) : (wayMapV t k zs).length ≤ 4 := by
  by_cases h : wayB t k zs = true
  · obtain ⟨h1, h2, h3⟩ := wayB_of h
    obtain ⟨g1, g2, hn, n, e, hn4, e2⟩ := size_of h1 h2
    rw [wayMapV_yes h, mapL_len, e2]
    omega
  · rw [wayMapV_no (by simpa using h)]; simp

/-- Are the types valid, and are a and b types of theirs? -/
def typesB (t : Ty) (a b : Int) : Bool := tyOk t && ixB a t.sizes.length && ixB b t.sizes.length

end Go.Proofs.YtnmbjmocnafekaaGreatDoor

namespace Go.Proofs.YtnmbjmocnafekaaGreatDoor
open Go.RowKit

/-- A slice of slices in new memory that reads as lists of numbers. -/
def WaysAt (w : World) (base : Nat) (ov : Value) (zss : List (List Int)) : Prop :=
  ∃ (xs : List Value) (S : Nat → Prop), w.ownsRow base 22 1 ov zss.length xs ∧ (∀ i, ∀ (h : i < zss.length), ∃ x, xs[i]? = some x ∧ IntsIn w S x zss[i]) ∧ ∀ b, S b → base ≤ b ∧ b < w.heap.size ∧ some b ≠ ov.ownBlock
theorem typesB_of {t : Ty} {a b : Int} (h : typesB t a b = true) : tyOk t = true ∧ 0 ≤ a ∧ a < t.sizes.length ∧ 0 ≤ b ∧ b < t.sizes.length := by
  simp only [typesB, ixB, Bool.and_eq_true, decide_eq_true_eq] at h
  exact ⟨h.1.1, h.1.2.1, h.1.2.2, h.2.1, h.2.2⟩
theorem typesB_len {t : Ty} (h : tyOk t = true) : t.sizes.length ≤ 5 := (sizesOk_of (tyOk_sizes h)).2.1

set_option maxRecDepth 100000 in
set_option maxHeartbeats 1000000 in
theorem l2Ways_any (lo hi : Nat) (sv cv : Value) (t : Ty) (a b : Int) (w : World) (hv : TyAt w lo hi sv cv t) (hB : hi ≤ w.heap.size) (htb : typesB t a b = true) :
    Calls Tryz.prog 88 #[.agg #[sv, cv], .int .i64 a, .int .i64 b] w fun e w' => ∃ ov, e = .returned ov ∧ Below w.heap.size w w' ∧ WaysAt w' w.heap.size ov (waysOf t a b) := by
  obtain ⟨A, cap, rfl, hl1, hm1, _⟩ := hv.1.form
  obtain ⟨B, bap, rfl, hl2, hm2, _⟩ := hv.2.form
  obtain ⟨hok, ha0, ha1, hb0, hb1⟩ := typesB_of htb
  have h5 := typesB_len hok
  have hwl := waysOf_len hok a b
  have hbel : Below w.heap.size w (((w.alloc (.cells #[.slice A t.sizes.length cap, .slice B t.cos.length bap] 33)).alloc (.cells #[] 22)).alloc (.cells #[.slice A t.sizes.length cap, .slice B t.cos.length bap, .int .i64 b, .slice none 0 0, .slice (some ⟨w.heap.size + 1, 0, none⟩) 0 0] 225)) := by go_grown
  have Hbel := Lib.hid hbel
  have Hv := Lib.hid (hv.below hbel hB)
  have hfp : FP (.slice A t.sizes.length cap) (.slice B t.cos.length bap) b w.heap.size (w.heap.size + 2) [] [] (((w.alloc (.cells #[.slice A t.sizes.length cap, .slice B t.cos.length bap] 33)).alloc (.cells #[] 22)).alloc (.cells #[.slice A t.sizes.length cap, .slice B t.cos.length bap, .int .i64 b, .slice none 0 0, .slice (some ⟨w.heap.size + 1, 0, none⟩) 0 0] 225)) (.slice none 0 0) (.slice (some ⟨w.heap.size + 1, 0, none⟩) 0 0) [] (fun _ => False) := by
    refine ⟨?_, by omega, World.ownsRow_nil _ _ _ _, ?_, fun i hi => absurd hi (by simp), fun b hb => hb.elim⟩
    · have := Row.new ((w.alloc (.cells #[.slice A t.sizes.length cap, .slice B t.cos.length bap] 33)).alloc (.cells #[] 22)) 225 [.slice A t.sizes.length cap, .slice B t.cos.length bap, .int .i64 b, .slice none 0 0, .slice (some ⟨w.heap.size + 1, 0, none⟩) 0 0]
      rw [World.size_alloc, World.size_alloc] at this
      exact this
    · have := World.ownsRow_lit (base := w.heap.size) (e := 22) (size := 1) (w.alloc (.cells #[.slice A t.sizes.length cap, .slice B t.cos.length bap] 33)) #[] 0 (by simp) (by unfold maxLen; omega) rfl
      rw [World.size_alloc] at this
      exact ownsRow_keep1 this fun g hg => Below.heap_alloc _ _ g (by simp only [Value.ownBlock, Option.some.injEq] at hg; simp; omega)
  have Hfp := Lib.hid hfp
  clear hv hfp hbel htb
  go_enter Tryz.func88, Tryz.ntmps88
  go_wp2_with fail
  refine (from_any lo hi _ _ t b w.heap.size (w.heap.size + 2) hok hB 5 a [] [] _ Hv.out (by simp; omega) ha0 ha1 (by omega) (by simp) (by simp) (by have : (waysF t.cos 5 a b).length ≤ 32768 := hwl; simp; omega) ⟨_, _, _, _, Hfp.out⟩).mono ?_
  rintro e w1 ⟨rfl, hb1, hfs1⟩
  obtain ⟨wv, ov, xs, S, h1⟩ := hfs1
  have c4 : w1.cell? ⟨w.heap.size + 2, 4, none⟩ = some ov := h1.row.cell 4
  have Hb1 := Lib.hid (Hbel.out.trans hb1)
  have H1 := Lib.hid h1
  clear hb1 h1
  go_wp2
  go_ret
  have e : ([] : List (List Int)) ++ (waysF t.cos 5 a b).map (([] : List Int) ++ ·) = waysOf t a b := by
    simp only [List.nil_append]
    exact List.map_id' _
  have h2 := H1.out
  rw [e] at h2
  exact ⟨_, rfl, Hb1.out, xs, S, h2.fouts, h2.ints, fun b hb => ⟨(h2.set b hb).1, (h2.set b hb).2.1, (h2.set b hb).2.2.2.2⟩⟩

/-- Is there a way? -/
def canB (t : Ty) (a b : Int) : Bool := decide (0 < (waysOf t a b).length)
def canC (t : Ty) (a b : Int) : Bool := typesB t a b && canB t a b

end Go.Proofs.YtnmbjmocnafekaaGreatDoor

