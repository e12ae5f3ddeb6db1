/-
  The contracts of the program's DropFunction and of what it calls.
-/
import Derived.Test.YtplncocfbajefaaQosy
import Derived.Test.YtplncocfbajefaaD13
import Derived.Test.YtplncocfbajefaaD12
import Derived.Test.YtplncocfbajefaaQsdrp
namespace Go.Proofs.Ytplncocfbajefaa
open Go.RowKit
attribute [local go_sem] Oper.semAt_some

/-- Where a place of the shorter list stood. -/
def shF (k i : Nat) : Nat := if i < k then i else i + 1
theorem shF_lt {k i n : Nat} (hi : i < n - 1) : shF k i < n := by unfold shF; split <;> omega
theorem shF_ne {k i j : Nat} (h : j ≠ i) : shF k j ≠ shF k i := by unfold shF; split <;> split <;> omega
theorem cutF_len {y : Sy} {k : Nat} (hk : k < y.fs.length) : (cutFu y k).fs.length = y.fs.length - 1 := by
  show (y.fs.take k ++ y.fs.drop (k + 1)).length = _
  rw [List.length_append, List.length_take, List.length_drop]; omega
theorem cutF_at {y : Sy} {k i : Nat} (hk : k < y.fs.length) (_hi : i < y.fs.length - 1) : (cutFu y k).fs.getD i default = y.fs.getD (shF k i) default := by
  show (y.fs.take k ++ y.fs.drop (k + 1)).getD i default = _
  have hl : (y.fs.take k).length = k := by rw [List.length_take, Nat.min_eq_left (Nat.le_of_lt hk)]
  rw [List.getD_eq_getElem?_getD, List.getD_eq_getElem?_getD]
  unfold shF
  by_cases h : i < k
  · rw [if_pos h, List.getElem?_append_left (by omega), List.getElem?_take_of_lt h]
  · rw [if_neg h, List.getElem?_append_right (by omega), hl, List.getElem?_drop, show k + 1 + (i - k) = i + 1 by omega]

theorem PiecesOf.cut {w w' : World} {base : Nat} {row : Option Nat} {f : Nat → Fu} {n : Nat} {xs : List Value} {m : Nat → Bool → Nat} {mv : Nat → Bool → Value} (h : PiecesOf w base row f n xs m mv) (hx : xs.length = n * 4) {k : Nat} (hk : k < n) (hs : w.heap.size ≤ w'.heap.size) (hg : ∀ g, base ≤ g → g < w.heap.size → row ≠ some g → w'.heap[g]? = w.heap[g]?) :
    PiecesOf w' base row (fun i => f (shF k i)) (n - 1) (xs.take (k * 4) ++ xs.drop ((k + 1) * 4)) (fun i => m (shF k i)) (fun i => mv (shF k i)) := by
  have hl : (xs.take (k * 4)).length = k * 4 := by rw [List.length_take, hx]; omega
  refine ⟨fun i hi => ?_, fun i b hi => ?_, fun i b hi h0 => ?_⟩
  · obtain ⟨c0, c1, c2, c3⟩ := h.cells (shF k i) (shF_lt hi)
    have key : ∀ r, r < 4 → (xs.take (k * 4) ++ xs.drop ((k + 1) * 4))[i * 4 + r]? = xs[shF k i * 4 + r]? := by
      intro r hr
      unfold shF
      by_cases h1 : i < k
      · rw [if_pos h1, List.getElem?_append_left (by omega), List.getElem?_take_of_lt (by omega)]
      · rw [if_neg h1, List.getElem?_append_right (by omega), hl, List.getElem?_drop, show (k + 1) * 4 + (i * 4 + r - k * 4) = (i + 1) * 4 + r by omega]
    exact ⟨(key 0 (by omega)).trans c0, (key 1 (by omega)).trans c1, (key 2 (by omega)).trans c2, (key 3 (by omega)).trans c3⟩
  · exact (h.own (shF k i) b (shF_lt hi)).keep fun h0 => by
      have ha := h.away (shF k i) b (shF_lt hi) (by simpa using h0)
      exact hg _ ha.1 ha.2.1 ha.2.2.1
  · obtain ⟨a, b', c, d⟩ := h.away (shF k i) b (shF_lt hi) h0
    refine ⟨a, Nat.lt_of_lt_of_le b' hs, c, fun j c2 hj hne h1 => d (shF k j) c2 (shF_lt hj) ?_ h1⟩
    rcases hne with hne | hne
    · exact .inl (shF_ne hne)
    · exact .inr hne
theorem PiecesOf.one {w : World} {base : Nat} {row : Option Nat} {f : Nat → Fu} {n : Nat} {xs : List Value} {m : Nat → Bool → Nat} {mv : Nat → Bool → Value} (h : PiecesOf w base row f n xs m mv) (hx : xs.length = n * 4) : ∀ x ∈ xs, x.oneCell' = true := by
  intro x hxm
  obtain ⟨j, hj, rfl⟩ := List.getElem_of_mem hxm
  have hlt : j / 4 < n := by omega
  obtain ⟨c0, c1, c2, c3⟩ := h.cells (j / 4) hlt
  have e := List.getElem?_eq_getElem hj
  rcases (by omega : j = j / 4 * 4 ∨ j = j / 4 * 4 + 1 ∨ j = j / 4 * 4 + 2 ∨ j = j / 4 * 4 + 3) with e1 | e1 | e1 | e1
  · rw [← e1, e] at c0; injection c0 with c0; rw [c0]; rfl
  · rw [← e1, e] at c1; injection c1 with c1; rw [c1]
    obtain ⟨A, cap, e2, _⟩ := h.own (j / 4) false hlt
    rw [e2]; rfl
  · rw [← e1, e] at c2; injection c2 with c2; rw [c2]; rfl
  · rw [← e1, e] at c3; injection c3 with c3; rw [c3]
    obtain ⟨A, cap, e2, _⟩ := h.own (j / 4) true hlt
    rw [e2]; rfl

set_option maxRecDepth 100000 in
set_option maxHeartbeats 4000000 in
theorem droppedOf_any (lo hi : Nat) (sv cv fv : Value) (y : Sy) (i : Int) (hi64 : I64 i) (w : World) (hv : SyAt w lo hi sv cv fv y) (hB : hi ≤ w.heap.size) (hbk : y.bulk ≤ 1048576) :
    Calls Try.prog 36 #[.agg #[.int .i64 i], .agg #[sv, cv, fv]] w fun e w' => ∃ v l q, e = .returned (.tuple #[.agg #[v, l, q], .bool (hasFB y i)]) ∧ Below w.heap.size w w' ∧ SyOwned w' w.heap.size v l q (dropFu y i) := by
  obtain ⟨A, cap, rfl, hl1, hm1, _⟩ := hv.1.1.form
  obtain ⟨B, bap, rfl, hl2, hm2, _⟩ := hv.1.2.form
  obtain ⟨Q, qap, rfl, hl3, hm3, _⟩ := hv.2.form
  have hn : y.fs.length ≤ 1048576 := by unfold Sy.bulk at hbk; omega
  obtain ⟨W1, hW1⟩ : ∃ u, u = (((w.alloc (.cells #[.int .i64 i] 67)).alloc (.cells #[.slice A y.ty.sizes.length cap, .slice B y.ty.cos.length bap, .slice Q y.fs.length qap] 38)).alloc (.cells #[.slice none 0 0, .slice none 0 0, .slice none 0 0] 38)).alloc (.cells #[.int .i64 i] 3) := ⟨_, rfl⟩
  have h3 : Below w.heap.size w W1 := by
    rw [hW1]
    exact ((((Below.refl _ _).alloc (Nat.le_refl _) _).alloc (by simp) _).alloc (by simp; omega) _).alloc (by simp; omega) _
  have hs1 : W1.heap.size = w.heap.size + 4 := by rw [hW1]; simp
  have hri : Row W1 w.heap.size 67 [.int .i64 i] := by rw [hW1]; exact (((Row.new w 67 [.int .i64 i]).alloc _).alloc _).alloc _
  have hrs : Row W1 (w.heap.size + 1) 38 [.slice A y.ty.sizes.length cap, .slice B y.ty.cos.length bap, .slice Q y.fs.length qap] := by
    rw [hW1]
    have h := Row.new (w.alloc (.cells #[.int .i64 i] 67)) 38 [.slice A y.ty.sizes.length cap, .slice B y.ty.cos.length bap, .slice Q y.fs.length qap]
    rw [World.size_alloc] at h
    exact (h.alloc _).alloc _
  have hrr : Row W1 (w.heap.size + 2) 38 [.slice none 0 0, .slice none 0 0, .slice none 0 0] := by
    rw [hW1]
    have h := Row.new ((w.alloc (.cells #[.int .i64 i] 67)).alloc (.cells #[.slice A y.ty.sizes.length cap, .slice B y.ty.cos.length bap, .slice Q y.fs.length qap] 38)) 38 [.slice none 0 0, .slice none 0 0, .slice none 0 0]
    rw [World.size_alloc, World.size_alloc] at h
    exact h.alloc _
  have hrz : Row W1 (w.heap.size + 3) 3 ([i].map (Value.int .i64)) := by
    rw [hW1]
    have h := Row.new (((w.alloc (.cells #[.int .i64 i] 67)).alloc (.cells #[.slice A y.ty.sizes.length cap, .slice B y.ty.cos.length bap, .slice Q y.fs.length qap] 38)).alloc (.cells #[.slice none 0 0, .slice none 0 0, .slice none 0 0] 38)) 3 ([i].map (Value.int .i64))
    rw [World.size_alloc, World.size_alloc, World.size_alloc] at h
    exact h
  have hzi := Lib.hid (hrz.ints (lo := w.heap.size + 3) (hi := w.heap.size + 4) (cap := 1) (by intro z hz; simp at hz; rw [hz]; exact hi64) (Nat.le_refl _) (by omega) (by simp) (by unfold maxLen; omega))
  have HE : Hid ((syB y && allIx [i] (y.fs.length : Int)) = hasFB y i) := by
    show _ = _
    unfold hasFB
    simp [allIx]
  have HV1 := Lib.hid (hv.below h3 hB)
  have H1 := Lib.hid h3
  have HRI := Lib.hid hri
  have HRS := Lib.hid hrs
  have HRR := Lib.hid hrr
  have hs1' : w.heap.size + 4 ≤ W1.heap.size := by omega
  have hs1'' : W1.heap.size ≤ w.heap.size + 4 := by omega
  clear hv h3 hri hrs hrr hrz hs1
  go_enter Try.func36, Try.ntmps36
  go_wp2_with fail
  rw [← hW1]
  refine (hasFunctions_any lo hi (w.heap.size + 3) (w.heap.size + 4) _ _ _ _ y [i] _ HV1.out hzi.out (by omega) hs1').mono ?_
  rintro e w1 ⟨rfl, hb1⟩
  rw [HE.out]
  have hsw1 : w.heap.size + 4 ≤ w1.heap.size := by have := hb1.size; omega
  have HRI1 := Lib.hid (HRI.out.below hb1 HRI.out.lt)
  have HRS1 := Lib.hid (HRS.out.below hb1 HRS.out.lt)
  have HRR1 := Lib.hid (HRR.out.below hb1 HRR.out.lt)
  have HV2 := Lib.hid (HV1.out.below hb1 (by omega))
  have H2 := Lib.hid (H1.out.trans (hb1.mono (by omega)))
  clear hb1 hW1 HRI HRS HRR HV1 H1 hzi
  have i0 := HRI1.out.cell 0
  have s0 := HRS1.out.cell 0
  have s1 := HRS1.out.cell 1
  have s2 := HRS1.out.cell 2
  have r0 := HRR1.out.cell 0
  have r1 := HRR1.out.cell 1
  have r2 := HRR1.out.cell 2
  have rf0 := HRR1.out.frozen 0
  have rf1 := HRR1.out.frozen 1
  have rf2 := HRR1.out.frozen 2
  simp only [List.getElem?_cons_zero, List.getElem?_cons_succ] at i0 s0 s1 s2 r0 r1 r2
  by_cases hok : hasFB y i = true
  · obtain ⟨_, hi0, hi1, hilt⟩ := hasFB_of hok
    obtain ⟨k, rfl⟩ := Int.eq_ofNat_of_zero_le hi0
    have hkl : k < y.fs.length := by simpa using hilt
    have hwo : dropFu y (k : Nat) = cutFu y k := by rw [dropFu_yes hok]; simp
    have Hwo := Lib.hid hwo
    have Hok := Lib.hid hok
    have hw1 : IntKind.i64.wrap ((k : Int) + 1) = (k : Int) + 1 := by rw [IntKind.wrap_i64]; omega
    rw [hok]
    clear hok hwo hilt hi0 hi1
    go_wp2_with fail
    refine (ownSystem_any lo hi _ _ _ y _ HV2.out (by have := H2.out.size; omega) hbk).mono ?_
    rintro e w2 ⟨v, l, q, rfl, hb2, hown⟩
    obtain ⟨bb, u, bq, hbb, hbu, htys, hkeep, hubq, hbqw, xs, m, mv, how, hmo⟩ := hown
    have hvf : ∃ A B, v = .slice A y.ty.sizes.length B := by
      obtain ⟨C, _, h, _⟩ := htys
      exact owns_form h
    have hlf : ∃ A B, l = .slice A y.ty.cos.length B := by
      obtain ⟨C, _, _, _, _, _, _, h, _⟩ := htys
      exact owns_form h
    obtain ⟨VA, VC, rfl⟩ := hvf
    obtain ⟨WA, WC, rfl⟩ := hlf
    have hqf : ∃ LA LC, q = .slice LA y.fs.length LC := owns_form how
    obtain ⟨LA, LC, rfl⟩ := hqf
    have hs2 := hb2.size
    have HRI2 := Lib.hid (HRI1.out.below hb2 (by omega))
    have HRR2 := Lib.hid (HRR1.out.below hb2 (by omega))
    have H3 := Lib.hid (H2.out.trans (hb2.mono (by omega)))
    have How := Lib.hid how
    have Hmo := Lib.hid hmo
    have Htys := Lib.hid htys
    have Hkeep := Lib.hid hkeep
    have i0 := HRI2.out.cell 0
    simp only [List.getElem?_cons_zero] at i0
    have hlt0 : w.heap.size < w2.heap.size := by omega
    clear how hmo htys hkeep hb2 s0 s1 s2 r0 r1 r2 rf0 rf1 rf2 HRS1 HRI1 HRR1
    go_wp2_with fail
    refine (deleteF_any bq _ y.fs.length k xs _ (ownsRow_keep How.out fun g _ hg => Below.heap_alloc w2 _ g hg) hkl hn (Hmo.out.one How.out.1)).mono ?_
    rintro e w4 ⟨l', rfl, hlb, hown4, hg4⟩
    have hl4 := hg4.size
    simp only [World.size_alloc] at hl4
    obtain ⟨LA2, LC2, rfl⟩ := owns_form hown4
    have RQ : Row w4 w2.heap.size 38 [.slice VA y.ty.sizes.length VC, .slice WA y.ty.cos.length WC, .slice LA y.fs.length LC] := (Row.new w2 38 [.slice VA y.ty.sizes.length VC, .slice WA y.ty.cos.length WC, .slice LA y.fs.length LC]).keep (hg4.block _ (by simp) (fun e => by have := (owns_lt How.out _ e.symm).2; omega))
    have hb4 : ∀ g, g < bq → w4.heap[g]? = w2.heap[g]? := fun g hg => (hg4.block g (by simp; omega) (fun e => by have := (owns_lt How.out _ e.symm).1; omega)).trans (Below.heap_alloc w2 _ g (by omega))
    have hubw : w1.heap.size + 1 + 1 ≤ bq := by omega
    have RR4 := Lib.hid (HRR2.out.keep (hb4 (w.heap.size + 2) (by omega)))
    have RQ4 := Lib.hid RQ
    have Hb4 := Lib.hid hb4
    have Hg4 := Lib.hid hg4
    have Hown4 := Lib.hid hown4
    have Hlb := Lib.hid hlb
    have q0 := RQ4.out.cell 0
    have q1 := RQ4.out.cell 1
    have q2 := RQ4.out.cell 2
    have qf0 := RQ4.out.frozen 0
    have qf1 := RQ4.out.frozen 1
    have qf2 := RQ4.out.frozen 2
    have r0 := RR4.out.cell 0
    have r1 := RR4.out.cell 1
    have r2 := RR4.out.cell 2
    have rf0 := RR4.out.frozen 0
    have rf1 := RR4.out.frozen 1
    have rf2 := RR4.out.frozen 2
    simp only [List.getElem?_cons_zero, List.getElem?_cons_succ] at q0 q1 q2 r0 r1 r2
    have hne : w.heap.size + 2 ≠ w2.heap.size := by omega
    have hl4a : w2.heap.size + 1 ≤ w4.heap.size := by omega
    clear RQ hb4 hg4 hown4 hlb i0 hl4
    go_wp2
    refine bodyPost_ret (v := .tuple #[.agg #[.slice VA y.ty.sizes.length VC, .slice WA y.ty.cos.length WC, .slice LA2 (y.fs.length - 1) LC2], .bool true]) (by simp [results, Try.results36, go_sem, r0, r1, r2]) rfl ?_
    have H4 : Below w.heap.size w w4 := H3.out.trans ⟨Hg4.out.os, Hg4.out.tape, Hg4.out.output, by omega, fun g hg => Hb4.out g (by omega)⟩
    refine ⟨_, _, _, by rw [Hok.out], (((H4.setCell (by dsimp only; omega) _).setCell (by dsimp only; omega) _).setCell (by dsimp only; omega) _).setCell (by dsimp only; omega) _, ?_⟩
    rw [Hwo.out]
    have hblk : ∀ g, g ≠ w2.heap.size → g ≠ w.heap.size + 2 → ((((w4.setCell ⟨w2.heap.size, 2, none⟩ (.slice LA2 (y.fs.length - 1) LC2)).setCell ⟨w.heap.size + 2, 0, none⟩ (.slice VA y.ty.sizes.length VC)).setCell ⟨w.heap.size + 2, 1, none⟩ (.slice WA y.ty.cos.length WC)).setCell ⟨w.heap.size + 2, 2, none⟩ (.slice LA2 (y.fs.length - 1) LC2)).heap[g]? = w4.heap[g]? := fun g h1 h2 =>
      (Below.heap_setCell _ _ _ _ (by dsimp only; omega)).trans ((Below.heap_setCell _ _ _ _ (by dsimp only; omega)).trans ((Below.heap_setCell _ _ _ _ (by dsimp only; omega)).trans (Below.heap_setCell _ _ _ _ (by dsimp only; omega))))
    refine ⟨bb, u, bq, by omega, hbu, Htys.out, fun g hg hgl => ?_, hubq, by simp [World.setCell]; omega, ?_⟩
    · exact (hblk g (by omega) (by omega)).trans ((Hb4.out g (by omega)).trans (Hkeep.out g hg hgl))
    · rw [cutF_len hkl]
      refine FusOwned.congr (f := fun i => y.fs.getD (shF k i) default) ?_ (fun i hi => (cutF_at hkl hi).symm)
      refine ⟨_, fun i => m (shF k i), fun i => mv (shF k i), ownsRow_keep1 Hown4.out fun g hg => ?_, ?_⟩
      · have h1 := owns_lt How.out g (by rw [← Hlb.out]; exact hg)
        exact hblk g (by omega) (by omega)
      · rw [Hlb.out]
        refine Hmo.out.cut How.out.1 hkl (by simp [World.setCell]; omega) fun g h1 h2 h3 => ?_
        exact (hblk g (by omega) (by omega)).trans ((Hg4.out.block g (by simp; omega) (fun e => h3 e.symm)).trans (Below.heap_alloc w2 _ g h2))
  · have hokf : hasFB y i = false := by simpa using hok
    have Hwo := Lib.hid (dropFu_no hokf)
    have Hok := Lib.hid hokf
    rw [hokf]
    clear hok hokf
    go_wp2
    refine bodyPost_ret (v := .tuple #[.agg #[.slice none 0 0, .slice none 0 0, .slice none 0 0], .bool false]) (by simp [results, Try.results36, go_sem, r0, r1, r2]) rfl ?_
    refine ⟨_, _, _, by rw [Hok.out], ((H2.out.setCell (by dsimp only; omega) _).setCell (by dsimp only; omega) _).setCell (by dsimp only; omega) _, ?_⟩
    rw [Hwo.out]
    exact SyOwned.none_ _ _ (by simp [World.setCell]; omega)

set_option maxRecDepth 100000 in
set_option maxHeartbeats 2000000 in
theorem implDrop_any (lo hi : Nat) (sv cv fv : Value) (y : Sy) (i : Int) (hi64 : I64 i) (w : World) (hv : SyAt w lo hi sv cv fv y) (hB : hi ≤ w.heap.size) (hbk : y.bulk ≤ 1048576) :
    Calls Try.prog 17 #[.agg #[sv, cv, fv], .int .i64 i] w fun e w' => ∃ v l q, e = .returned (.tuple #[.agg #[v, l, q], .bool (hasFB y i)]) ∧ Below w.heap.size w w' ∧ SyOwned w' w.heap.size v l q (dropFu y i) := by
  obtain ⟨A, cap, rfl, hl1, hm1, _⟩ := hv.1.1.form
  obtain ⟨B, bap, rfl, hl2, hm2, _⟩ := hv.1.2.form
  obtain ⟨Q, qap, rfl, hl3, hm3, _⟩ := hv.2.form
  have h3 : Below w.heap.size w ((w.alloc (.cells #[.slice A y.ty.sizes.length cap, .slice B y.ty.cos.length bap, .slice Q y.fs.length qap] 38)).alloc (.cells #[.slice none 0 0, .slice none 0 0, .slice none 0 0] 38)) := by go_grown
  have Hv := Lib.hid hv
  have H3 := Lib.hid h3
  clear hv h3
  go_enter Try.func17, Try.ntmps17
  go_wp2_with fail
  refine (droppedOf_any lo hi _ _ _ y i hi64 _ (Hv.out.below H3.out hB) (by simp; omega) hbk).mono ?_
  rintro e w1 ⟨v, l, q, rfl, hb1, hown⟩
  have HR : Hid (Row w1 (w.heap.size + 1) 38 [.slice none 0 0, .slice none 0 0, .slice none 0 0]) := by
    have h := Row.new (w.alloc (.cells #[.slice A y.ty.sizes.length cap, .slice B y.ty.cos.length bap, .slice Q y.fs.length qap] 38)) 38 [.slice none 0 0, .slice none 0 0, .slice none 0 0]
    rw [World.size_alloc] at h
    exact h.below hb1 (by simp)
  have hs1 : w.heap.size + 1 + 1 ≤ w1.heap.size := by have := hb1.size; simpa using this
  have H1 := Lib.hid (H3.out.trans (hb1.mono (by simp; omega)))
  simp only [World.size_alloc] at hown
  have Hown := Lib.hid hown
  obtain ⟨bb, u, bq, hbb, hbu, htys, hkeep, hubq, hbqw, xs, m, mv, how, hmo⟩ := hown
  have hvf : ∃ A B, v = .slice A (dropFu y i).ty.sizes.length B := by
    obtain ⟨C, _, h, _⟩ := htys
    exact owns_form h
  have hlf : ∃ A B, l = .slice A (dropFu y i).ty.cos.length B := by
    obtain ⟨C, _, _, _, _, _, _, h, _⟩ := htys
    exact owns_form h
  obtain ⟨VA, VC, rfl⟩ := hvf
  obtain ⟨WA, WC, rfl⟩ := hlf
  have hqf : ∃ LA LC, q = .slice LA (dropFu y i).fs.length LC := owns_form how
  obtain ⟨LA, LC, rfl⟩ := hqf
  have r0 := HR.out.cell 0
  have r1 := HR.out.cell 1
  have r2 := HR.out.cell 2
  have rf0 := HR.out.frozen 0
  have rf1 := HR.out.frozen 1
  have rf2 := HR.out.frozen 2
  simp only [List.getElem?_cons_zero, List.getElem?_cons_succ] at r0 r1 r2
  clear hb1 htys hkeep how hmo hbb hbu hubq hbqw
  go_wp2
  refine bodyPost_ret (v := .tuple #[.agg #[.slice VA (dropFu y i).ty.sizes.length VC, .slice WA (dropFu y i).ty.cos.length WC, .slice LA (dropFu y i).fs.length LC], .bool (hasFB y i)]) (by simp [results, Try.results17, go_sem, r0, r1, r2]) rfl ?_
  refine ⟨_, _, _, rfl, ((H1.out.setCell (by dsimp only; omega) _).setCell (by dsimp only; omega) _).setCell (by dsimp only; omega) _, ?_⟩
  refine SyOwned.lower (base := w.heap.size + 1 + 1) (Hown.out.keep (by simp [World.setCell]) fun g hg _ => ?_) (by omega)
  exact (Below.heap_setCell _ _ _ _ (by dsimp only; omega)).trans ((Below.heap_setCell _ _ _ _ (by dsimp only; omega)).trans (Below.heap_setCell _ _ _ _ (by dsimp only; omega)))
end Go.Proofs.Ytplncocfbajefaa

