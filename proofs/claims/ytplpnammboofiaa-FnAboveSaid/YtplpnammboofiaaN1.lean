/-
  The contract of the model's DrawJoinsOf.
  The contracts of AboveOf, the program's and the model's.
  The contracts of JoinsOf, the program's and the model's.
  FnAbove as data: ways go on, what is above two types is above one of their joins, and joins of a type and one above it.
  The contracts of JoinsOf: the model's face, the program's two functions.
-/
import Derived.Test.YtplpnammboofiaaJ5
import Derived.Test.YtplpnammboofiaaJ10
import Derived.WalkMore
import Derived.Deep.LoopGhost
import Derived.Test.YtplpnammboofiaaQwyd
namespace Go.Proofs.Ytplpnammboofiaa
open Go.RowKit

set_option maxRecDepth 100000 in
set_option maxHeartbeats 1000000 in
theorem drawJoins_any (v : Value) (w : World) (h : CodeAt w w.heap.size v) :
    Calls Try.prog 28 #[v] w fun e w' => ∃ sv cv t k z, e = .returned (.tuple #[.agg #[sv, cv], .int .i64 k, .int .i64 z]) ∧ Below w.heap.size w w' ∧ TyAt w' w.heap.size w'.heap.size sv cv t ∧ BdOk t ∧ I64 k ∧ I64 z := by
  have hb0 : Below w.heap.size w (w.alloc (.cells #[.slice none 0 0, .slice none 0 0] 26)) := (Below.refl _ _).alloc (Nat.le_refl _) _
  have hc0 : CodeAt (w.alloc (.cells #[.slice none 0 0, .slice none 0 0] 26)) (w.heap.size + 1) v := by
    obtain ⟨A, n, c, e, h1, h2, h3⟩ := h
    refine ⟨A, n, c, e, h1, h2, fun h0 => ?_⟩
    obtain ⟨a, off, e2, h4, h5⟩ := h3 h0
    refine ⟨a, off, e2, by omega, fun k hk => ?_⟩
    obtain ⟨x, hx, hc⟩ := h5 k hk
    exact ⟨x, hx, (World.cell?_of_block (a := ⟨a, off + k, none⟩) (Below.heap_alloc w _ a h4)).trans hc⟩
  have HO := Lib.hid (l13Open_any (w.heap.size + 1) v _ hc0 (by simp))
  have HB0 := Lib.hid hb0
  clear h hb0 hc0
  go_enter Try.func28, Try.ntmps28
  go_wp2_with fail
  refine HO.out.mono ?_
  rintro e w1 ⟨rfl, hb1, hs1, hr1⟩
  simp only [World.size_alloc] at hs1 hr1
  have HRR1 : Hid (Row w1 w.heap.size 26 [.slice none 0 0, .slice none 0 0]) := (Row.new w 26 [.slice none 0 0, .slice none 0 0]).below hb1 (by simp)
  have HB1 := Lib.hid (HB0.out.trans (hb1.mono (by simp)))
  have HR1 := Lib.hid hr1
  have hs1a : w.heap.size + 2 ≤ w1.heap.size := by omega
  clear hb1 hr1 hs1
  go_wp2_with fail
  refine (two_any (w.heap.size + 1) 0 w1 HR1.out (by omega)).mono ?_
  rintro e w2 ⟨sv, cv, t, k, z, rfl, _, hg2, hv2, hd2, hk64, hz64⟩
  obtain ⟨A, cap, rfl, _, _, _⟩ := hv2.1.form
  obtain ⟨C, cbp, rfl, _, _, _⟩ := hv2.2.form
  have hs2 := hg2.size
  have hrr := HRR1.out.keep (hg2.block _ (by omega) (fun e => by simp only [Option.some.injEq] at e; omega))
  have HB2 : Hid (Below w.heap.size w w2) := ⟨hg2.os.trans HB1.out.os, hg2.tape.trans HB1.out.tape, hg2.output.trans HB1.out.output, Nat.le_trans HB1.out.size hs2, fun g hg => (hg2.block g (by omega) (fun e => by simp only [Option.some.injEq] at e; omega)).trans (HB1.out.block g hg)⟩
  have HV2 := Lib.hid hv2
  have HD2 := Lib.hid hd2
  have HKZ : Hid (I64 k ∧ I64 z) := ⟨hk64, hz64⟩
  have q0 := hrr.cell 0
  have q1 := hrr.cell 1
  have qf0 := hrr.frozen 0
  have qf1 := hrr.frozen 1
  simp only [List.getElem?_cons_zero, List.getElem?_cons_succ] at q0 q1
  clear hg2 hv2 hd2 hrr hk64 hz64
  go_wp2
  refine bodyPost_ret (v := .tuple #[.agg #[.slice A t.sizes.length cap, .slice C t.cos.length cbp], .int .i64 k, .int .i64 z]) (by simp [results, Try.results28, go_sem, q0, q1]) rfl ?_
  have hset : ∀ g, g ≠ w.heap.size → ((w2.setCell ⟨w.heap.size, 0, none⟩ (.slice A t.sizes.length cap)).setCell ⟨w.heap.size, 1, none⟩ (.slice C t.cos.length cbp)).heap[g]? = w2.heap[g]? := fun g h2 => (Below.heap_setCell _ _ _ _ (by dsimp only; omega)).trans (Below.heap_setCell _ _ _ _ (by dsimp only; omega))
  exact ⟨_, _, t, k, z, rfl, (HB2.out.setCell (by dsimp only; omega) _).setCell (by dsimp only; omega) _, (HV2.out.keep fun g h1 h2 => hset g (by omega)).more (by omega) (by simp [World.setCell]), HD2.out, HKZ.out.1, HKZ.out.2⟩
end Go.Proofs.Ytplpnammboofiaa

namespace Go.Proofs.Ytplpnammboofiaa
open Go.RowKit

/-- The numbers below n that pass. -/
def filtL (p : Nat → Bool) (n : Nat) : List Int := ((List.range n).filter p).map fun i : Nat => (i : Int)
theorem filtL_zero (p : Nat → Bool) : filtL p 0 = [] := rfl
theorem filtL_hit {p : Nat → Bool} {n : Nat} (h : p n = true) : filtL p (n + 1) = filtL p n ++ [(n : Int)] := by
  unfold filtL
  rw [List.range_succ, List.filter_append, List.map_append]
  simp [h]
theorem filtL_miss {p : Nat → Bool} {n : Nat} (h : p n = false) : filtL p (n + 1) = filtL p n := by
  unfold filtL
  rw [List.range_succ, List.filter_append, List.map_append]
  simp [h]
theorem filtL_le (p : Nat → Bool) (n : Nat) : (filtL p n).length ≤ n := by
  unfold filtL
  rw [List.length_map]
  have := List.length_filter_le p (List.range n)
  simpa using this
theorem filtL_mem {p : Nat → Bool} {n : Nat} {z : Int} (h : z ∈ filtL p n) : ∃ i : Nat, z = (i : Int) ∧ i < n ∧ p i = true := by
  unfold filtL at h
  obtain ⟨i, hi, rfl⟩ := List.mem_map.1 h
  have h2 := List.mem_filter.1 hi
  exact ⟨i, rfl, List.mem_range.1 h2.1, h2.2⟩
theorem filtL_congr {p q : Nat → Bool} {n : Nat} (h : ∀ i, i < n → p i = q i) : filtL p n = filtL q n := by
  unfold filtL
  rw [List.filter_congr fun i hi => h i (List.mem_range.1 hi)]
theorem filtL_none {p : Nat → Bool} {n : Nat} (h : ∀ i, i < n → p i = false) : filtL p n = [] := by
  rw [filtL_congr (q := fun _ => false) h]
  simp [filtL]
/-- The types above one. -/
def aboveV (t : Ty) (k : Int) : List Int := filtL (fun i => canC t k i) t.sizes.length
theorem aboveV_wf (t : Ty) (k : Int) (hb : t.bulk ≤ 1048576) : ∀ z ∈ aboveV t k, I64 z := by
  intro z hz
  obtain ⟨i, rfl, hi, _⟩ := filtL_mem hz
  unfold Ty.bulk at hb
  unfold I64
  omega
theorem aboveV_le (t : Ty) (k : Int) : (aboveV t k).length ≤ t.sizes.length := filtL_le _ _
theorem aboveV_ok {t : Ty} {k : Int} (h : (tyOk t && ixB k t.sizes.length) = true) : aboveV t k = filtL (fun i => canB t k i) t.sizes.length := by
  unfold aboveV
  refine filtL_congr fun i hi => ?_
  have hx : ixB (i : Int) t.sizes.length = true := ixB_yes (by omega) (by omega)
  unfold canC typesB
  rw [h, hx, Bool.and_self, Bool.true_and]
theorem aboveV_no {t : Ty} {k : Int} (h : (tyOk t && ixB k t.sizes.length) = false) : aboveV t k = [] := by
  refine filtL_none fun i hi => ?_
  unfold canC typesB
  rw [h, Bool.false_and, Bool.false_and]

set_option maxRecDepth 100000 in
set_option maxHeartbeats 2000000 in
theorem specAbove_any (lo hi : Nat) (sv cv : Value) (t : Ty) (q : Int) (w : World) (hv : TyAt w lo hi sv cv t) (hB : hi ≤ w.heap.size) (hbk : t.bulk ≤ 1048576) :
    Calls Try.prog 31 #[.agg #[sv, cv], .int .i64 q] w fun e w' => ∃ v, e = .returned v ∧ Below w.heap.size w w' ∧ w'.ownsRow w.heap.size 3 1 v (aboveV t q).length ((aboveV t q).map (Value.int .i64)) := by
  obtain ⟨A, cap, rfl, hl1, hm1, hi1⟩ := hv.1.form
  obtain ⟨B, bap, rfl, hl2, hm2, hc1⟩ := hv.2.form
  obtain ⟨i0, hi0, hz0, hz1, hz2⟩ := info_parts Try.infoInt
  have hn : t.sizes.length ≤ 1048576 := by unfold Ty.bulk at hbk; omega
  have Hv := Lib.hid hv
  clear hv hi1 hc1
  have h3 : Below (w.heap.size + 1) (w.alloc (.cells #[.slice A t.sizes.length cap, .slice B t.cos.length bap] 26)) (w.alloc (.cells #[.slice A t.sizes.length cap, .slice B t.cos.length bap] 26)) := Below.refl _ _
  have H3 := Lib.hid h3
  clear h3
  go_enter Try.func31, Try.ntmps31
  go_wp2
  go_loopw [5, 11] (fun l i wr => ∃ j : Nat, j ≤ t.sizes.length ∧ i = .int .i64 j ∧ Hid (Below (w.heap.size + 1) (w.alloc (.cells #[.slice A t.sizes.length cap, .slice B t.cos.length bap] 26)) wr) ∧ Hid (wr.ownsRow (w.heap.size + 1) 3 1 l (filtL (fun i => canC t q i) j).length ((filtL (fun i => canC t q i) j).map (Value.int .i64)))) (fun _ i _ => t.sizes.length - (intOf i).toNat)
  case atStart =>
    refine ⟨0, Nat.zero_le _, rfl, H3.out.alloc (by simp) _, ?_⟩
    show World.ownsRow _ _ _ _ _ _ _
    rw [filtL_zero]
    have := World.ownsRow_lit (base := w.heap.size + 1) (e := 3) (size := 1) (w.alloc (.cells #[.slice A t.sizes.length cap, .slice B t.cos.length bap] 26)) #[] 0 (by simp) (by unfold maxLen; omega) rfl
    simpa using this
  case round =>
    obtain ⟨j, hj, rfl, hb, hown⟩ := hrel
    obtain ⟨q0, q1, hlr, hb0⟩ := box2 hb.out
    have Hb0 := Lib.hid hb0
    have hle := filtL_le (fun i => canC t q i) j
    clear hb0
    by_cases hlt : j < t.sizes.length
    · go_wp2_with fail
      refine (specCan_any lo hi _ _ t q j _ (Hv.out.below Hb0.out hB) (by omega)).mono ?_
      rintro e w1 ⟨rfl, hb1⟩
      have hbx := hb.out.trans (hb1.mono (by omega))
      have hown1 := ownsRow_below hown.out hb1 (Nat.le_refl _)
      have Hown1 := Lib.hid hown1
      have Hbx := Lib.hid hbx
      have hsz1 : w.heap.size + 1 ≤ w1.heap.size := by have := hb1.size; omega
      clear hown1 hbx hb1
      by_cases hq : canC t q j = true
      · have hh := Lib.hid (filtL_hit (p := fun i => canC t q i) (n := j) hq)
        rw [hq]
        clear hq
        go_wp2_with (at_builtin; refine wpList_append_own _ rfl (.tmp 18) (.tmp 20) 23 rfl (w.heap.size + 1) 3 i0 (.int .i64 0) 1 8 Try.underlying23 hi0 hz0 hz1 hz2 rfl (by decide) _ _ _ rfl (Hown1.out.alloc _) ⟨w1.heap.size, 0, none⟩ 1 1 [.int .i64 j] rfl rfl ?c1 ?c2 ?c3 ?c4 ?c5 ?_)
        case c1 =>
          intro i u hi
          match i, hi with
          | 0, hi => simp at hi; subst hi; simp [Addr.add]
        case c2 => intro u hu; simp at hu; subst hu; rfl
        case c3 => unfold maxLen; omega
        case c4 => omega
        case c5 => simp; omega
        intro v' w2 hown2 hgrow _
        have hb2 := (Hbx.out.alloc (by omega) _).grown hgrow (by simp; omega) (fun k hk => by
          obtain ⟨_, ⟨e, _⟩ | ⟨g, cap3, cur, e, hg, _⟩⟩ := hown.out
          · rw [e] at hk; simp [Value.ownBlock] at hk
          · rw [e] at hk; simp [Value.ownBlock] at hk; omega)
        have Hb2 := Lib.hid hb2
        have Hown2 := Lib.hid hown2
        clear hown2 hgrow hb2
        go_wp2
        go_roundw
        case rel => exact ⟨j + 1, by omega, by go_num, Hb2.out, ownsRow_cast Hown2.out (by rw [hh.out]; simp) (by rw [hh.out]; simp)⟩
        case measure => simp [intOf]; omega
      · have hqf : canC t q j = false := by simpa using hq
        have hh := Lib.hid (filtL_miss (p := fun i => canC t q i) (n := j) hqf)
        rw [hqf]
        clear hq hqf
        go_wp2
        go_roundw
        case rel => exact ⟨j + 1, by omega, by go_num, Hbx.out, ownsRow_cast Hown1.out (by rw [hh.out]) (by rw [hh.out])⟩
        case measure => simp [intOf]; omega
    · obtain rfl : j = t.sizes.length := by omega
      go_wp2
      go_ret
      exact ⟨_, rfl, Hb0.out, ownsRow_base hown.out (by omega)⟩

set_option maxRecDepth 100000 in
set_option maxHeartbeats 2000000 in
theorem above_any (lo hi g : Nat) (sv cv : Value) (t : Ty) (q : Int) (w : World) (hv : TyAt w lo hi sv cv t) (hB : hi ≤ w.heap.size) (hrow : Row w g 81 [sv, cv]) (hok : (tyOk t && ixB q t.sizes.length) = true) :
    Calls Try.prog 69 #[.pointer (some ⟨g, 0, none⟩), .int .i64 q] w fun e w' => ∃ v, e = .returned v ∧ Below w.heap.size w w' ∧ w'.ownsRow w.heap.size 3 1 v (aboveV t q).length ((aboveV t q).map (Value.int .i64)) := by
  obtain ⟨A, cap, rfl, hl1, hm1, hi1⟩ := hv.1.form
  obtain ⟨B, bap, rfl, hl2, hm2, hc1⟩ := hv.2.form
  obtain ⟨i0, hi0, hz0, hz1, hz2⟩ := info_parts Try.infoInt
  have g0 : w.cell? ⟨g, 0, none⟩ = some (.slice A t.sizes.length cap) := hrow.cell 0
  have hab := Lib.hid (aboveV_ok hok)
  have htb : ∀ j : Nat, j < t.sizes.length → typesB t q j = true := fun j hj => by unfold typesB; rw [hok, Bool.true_and]; exact ixB_yes (by omega) (by omega)
  have hn : t.sizes.length ≤ 5 := by rw [Bool.and_eq_true] at hok; exact typesB_len hok.1
  have Htb := Lib.hid htb
  have Hv := Lib.hid hv
  have Hrow := Lib.hid hrow
  have hgl := hrow.lt
  clear hv hrow hi1 hc1 hok htb
  go_enter Try.func69, Try.ntmps69
  go_wp2
  go_loopw [5, 13] (fun l i wr => ∃ j : Nat, j ≤ t.sizes.length ∧ i = .int .i64 j ∧ Hid (Below w.heap.size w wr) ∧ Hid (wr.ownsRow w.heap.size 3 1 l (filtL (fun i => canB t q i) j).length ((filtL (fun i => canB t q i) j).map (Value.int .i64)))) (fun _ i _ => t.sizes.length - (intOf i).toNat)
  case atStart => exact ⟨0, Nat.zero_le _, rfl, Below.refl _ _, World.ownsRow_nil _ _ _ _⟩
  case round =>
    obtain ⟨j, hj, rfl, hb, hown⟩ := hrel
    have hbs := hb.out.size
    have hle := filtL_le (fun i => canB t q i) j
    by_cases hlt : j < t.sizes.length
    · go_wp2_with fail
      refine (leads_any lo hi g _ _ t q j _ (Hv.out.below hb.out hB) (by omega) (Hrow.out.below hb.out hgl) (Htb.out j hlt)).mono ?_
      rintro e w1 ⟨rfl, hb1⟩
      have hbx := hb.out.trans (hb1.mono hbs)
      have hown1 := ownsRow_below hown.out hb1 (Nat.le_refl _)
      have Hown1 := Lib.hid hown1
      have Hbx := Lib.hid hbx
      have hsz1 : w.heap.size ≤ w1.heap.size := by have := hb1.size; omega
      clear hown1 hbx hb1
      by_cases hq : canB t q j = true
      · have hh := Lib.hid (filtL_hit (p := fun i => canB t q i) (n := j) hq)
        rw [hq]
        clear hq
        go_wp2_with (at_builtin; refine wpList_append_own _ rfl (.tmp 20) (.tmp 22) 23 rfl w.heap.size 3 i0 (.int .i64 0) 1 8 Try.underlying23 hi0 hz0 hz1 hz2 rfl (by decide) _ _ _ rfl (Hown1.out.alloc _) ⟨w1.heap.size, 0, none⟩ 1 1 [.int .i64 j] rfl rfl ?c1 ?c2 ?c3 ?c4 ?c5 ?_)
        case c1 =>
          intro i u hi
          match i, hi with
          | 0, hi => simp at hi; subst hi; simp [Addr.add]
        case c2 => intro u hu; simp at hu; subst hu; rfl
        case c3 => unfold maxLen; omega
        case c4 => omega
        case c5 => simp; omega
        intro v' w2 hown2 hgrow _
        have hb2 := (Hbx.out.alloc (by omega) _).grown hgrow (by simp; omega) (fun k hk => by
          obtain ⟨_, ⟨e, _⟩ | ⟨g, cap3, cur, e, hg, _⟩⟩ := hown.out
          · rw [e] at hk; simp [Value.ownBlock] at hk
          · rw [e] at hk; simp [Value.ownBlock] at hk; omega)
        have Hb2 := Lib.hid hb2
        have Hown2 := Lib.hid hown2
        clear hown2 hgrow hb2
        go_wp2
        go_roundw
        case rel => exact ⟨j + 1, by omega, by go_num, Hb2.out, ownsRow_cast Hown2.out (by rw [hh.out]; simp) (by rw [hh.out]; simp)⟩
        case measure => simp [intOf]; omega
      · have hqf : canB t q j = false := by simpa using hq
        have hh := Lib.hid (filtL_miss (p := fun i => canB t q i) (n := j) hqf)
        rw [hqf]
        clear hq hqf
        go_wp2
        go_roundw
        case rel => exact ⟨j + 1, by omega, by go_num, Hbx.out, ownsRow_cast Hown1.out (by rw [hh.out]) (by rw [hh.out])⟩
        case measure => simp [intOf]; omega
    · obtain rfl : j = t.sizes.length := by omega
      go_wp2
      go_ret
      exact ⟨_, rfl, hb.out, by rw [hab.out]; exact hown.out⟩

set_option maxRecDepth 100000 in
set_option maxHeartbeats 1000000 in
theorem implAbove_any (lo hi : Nat) (sv cv : Value) (t : Ty) (q : Int) (w : World) (hv : TyAt w lo hi sv cv t) (hB : hi ≤ w.heap.size) (hq : I64 q) :
    Calls Try.prog 29 #[.agg #[sv, cv], .int .i64 q] w fun e w' => ∃ v, e = .returned v ∧ Below w.heap.size w w' ∧ w'.ownsRow w.heap.size 3 1 v (aboveV t q).length ((aboveV t q).map (Value.int .i64)) := by
  obtain ⟨A, cap, rfl, hl1, hm1, hi1⟩ := hv.1.form
  obtain ⟨B, bap, rfl, hl2, hm2, hc1⟩ := hv.2.form
  have Hv := Lib.hid hv
  clear hv hi1 hc1
  have h4 : Below w.heap.size w ((w.alloc (.cells #[.slice A t.sizes.length cap, .slice B t.cos.length bap] 26)).alloc (.cells #[.int .i64 q] 3)) := by go_grown
  have hone := ints_one (w.alloc (.cells #[.slice A t.sizes.length cap, .slice B t.cos.length bap] 26)) q hq 3
  rw [World.size_alloc] at hone
  have H4 := Lib.hid h4
  have Hone := Lib.hid hone
  clear h4 hone
  go_enter Try.func29, Try.ntmps29
  go_wp2_with fail
  refine (finderOf_any lo hi _ _ _ _ _ t [q] _ (Hv.out.below H4.out hB) (by simp; omega) Hone.out (by simp only [World.size_alloc]; omega)).mono ?_
  rintro e w1 ⟨p, rfl, hb1, hf1⟩
  rw [findOk_one] at hf1 ⊢
  have H1 := Lib.hid (H4.out.trans (hb1.mono (by simp; omega)))
  have hs1 : w.heap.size ≤ w1.heap.size := H1.out.size
  clear hb1
  by_cases hok : (tyOk t && ixB q t.sizes.length) = true
  · obtain ⟨g, rfl, hg, hrow⟩ := hf1 hok
    have Hrow := Lib.hid hrow
    have Hok := Lib.hid hok
    rw [hok]
    clear hrow hok
    go_wp2_with fail
    refine (above_any lo hi g _ _ t q _ (Hv.out.below H1.out hB) (by omega) Hrow.out Hok.out).mono ?_
    rintro e w2 ⟨v, rfl, hb2, hown2⟩
    have H2 := Lib.hid (H1.out.trans (hb2.mono hs1))
    have Hown2 := Lib.hid (ownsRow_base hown2 hs1)
    clear hb2 hown2
    go_wp2
    go_ret
    exact ⟨_, rfl, H2.out, Hown2.out⟩
  · have hokf : (tyOk t && ixB q t.sizes.length) = false := by simpa using hok
    have hno := Lib.hid (aboveV_no hokf)
    rw [hokf]
    clear hok hf1
    go_wp2
    go_ret
    refine ⟨_, rfl, H1.out, ?_⟩
    rw [hno.out]
    exact World.ownsRow_nil _ _ _ _
end Go.Proofs.Ytplpnammboofiaa

namespace Go.Proofs.Ytplpnammboofiaa
open Go.RowKit

/-- The types above both. -/
def bothV (t : Ty) (a b : Int) : List Int := filtL (fun i => canB t a i && canB t b i) t.sizes.length
/-- Is no other one of the list below k? -/
def lowB (t : Ty) (both : List Int) (k : Int) : Bool := both.all fun l => !(decide (l ≠ k) && canB t l k)
def joinL (t : Ty) (both : List Int) (m : Nat) : List Int := (both.take m).filter fun k => lowB t both k
theorem joinL_zero (t : Ty) (both : List Int) : joinL t both 0 = [] := by simp [joinL]
theorem joinL_hit {t : Ty} {both : List Int} {m : Nat} (hm : m < both.length) (h : lowB t both both[m] = true) : joinL t both (m + 1) = joinL t both m ++ [both[m]] := by
  unfold joinL
  rw [List.take_succ_eq_append_getElem hm, List.filter_append]
  simp [h]
theorem joinL_miss {t : Ty} {both : List Int} {m : Nat} (hm : m < both.length) (h : lowB t both both[m] = false) : joinL t both (m + 1) = joinL t both m := by
  unfold joinL
  rw [List.take_succ_eq_append_getElem hm, List.filter_append]
  simp [h]
theorem joinL_le (t : Ty) (both : List Int) (m : Nat) : (joinL t both m).length ≤ m := by
  unfold joinL
  have h1 := List.length_filter_le (fun k => lowB t both k) (both.take m)
  rw [List.length_take] at h1
  omega
def joinsV (t : Ty) (a b : Int) : List Int := if typesB t a b = true then joinL t (bothV t a b) (bothV t a b).length else []
theorem joinsV_yes {t : Ty} {a b : Int} (h : typesB t a b = true) : joinsV t a b = joinL t (bothV t a b) (bothV t a b).length := by unfold joinsV; rw [if_pos h]
theorem joinsV_no {t : Ty} {a b : Int} (h : typesB t a b = false) : joinsV t a b = [] := by unfold joinsV; rw [if_neg (by simp [h])]
theorem bothV_le (t : Ty) (a b : Int) : (bothV t a b).length ≤ t.sizes.length := filtL_le _ _
theorem bothV_at {t : Ty} {a b : Int} {m : Nat} (hm : m < (bothV t a b).length) : ∃ i : Nat, (bothV t a b)[m] = (i : Int) ∧ i < t.sizes.length := by
  obtain ⟨i, h1, h2, _⟩ := filtL_mem (List.getElem_mem hm)
  exact ⟨i, h1, h2⟩
theorem bothV_wf (t : Ty) (a b : Int) (h : t.sizes.length ≤ 1048576) : ∀ z ∈ bothV t a b, I64 z := by
  intro z hz
  obtain ⟨i, rfl, hi, _⟩ := filtL_mem hz
  unfold I64
  omega
theorem joinsV_le (t : Ty) (a b : Int) : (joinsV t a b).length ≤ t.sizes.length := by
  by_cases h : typesB t a b = true
  · rw [joinsV_yes h]; exact Nat.le_trans (joinL_le _ _ _) (bothV_le _ _ _)
  · rw [joinsV_no (by simpa using h)]; simp
theorem joinsV_wf (t : Ty) (a b : Int) (hb : t.bulk ≤ 1048576) : ∀ z ∈ joinsV t a b, I64 z := by
  intro z hz
  by_cases h : typesB t a b = true
  · rw [joinsV_yes h] at hz
    unfold joinL at hz
    have h2 := List.mem_of_mem_take (List.mem_filter.1 hz).1
    exact bothV_wf t a b (by unfold Ty.bulk at hb; omega) z h2
  · rw [joinsV_no (by simpa using h)] at hz; exact absurd hz (by simp)
theorem lowB_no {t : Ty} {both : List Int} {k : Int} {m : Nat} (hm : m < both.length) (h1 : both[m] ≠ k) (h2 : canB t both[m] k = true) : lowB t both k = false := by
  unfold lowB
  exact all_false_of m hm (by simp [h1, h2])
theorem lowB_yes {t : Ty} {both : List Int} {k : Int} (h : ∀ m, ∀ (hm : m < both.length), ¬ (both[m] ≠ k ∧ canB t both[m] k = true)) : lowB t both k = true := by
  unfold lowB
  refine all_true_of fun m hm => ?_
  have := h m hm
  by_cases e : both[m] = k
  · simp [e]
  · have : canB t both[m] k = false := by
      cases hc : canB t both[m] k
      · rfl
      · exact absurd ⟨e, hc⟩ this
    simp [this]
/-- Types that are above one are types. -/
theorem both_types {t : Ty} {a b : Int} (h : typesB t a b = true) {m n : Nat} (hm : m < (bothV t a b).length) (hn : n < (bothV t a b).length) : typesB t (bothV t a b)[m] (bothV t a b)[n] = true := by
  obtain ⟨i, e, hi⟩ := bothV_at hm
  obtain ⟨j, e', hj⟩ := bothV_at hn
  rw [e, e']
  have := (typesB_of h).1
  unfold typesB
  rw [this, ixB_yes (by omega) (by omega), ixB_yes (by omega) (by omega)]
  rfl

set_option maxRecDepth 100000 in
set_option maxHeartbeats 4000000 in
theorem l2Joins_any (lo hi : Nat) (sv cv : Value) (t : Ty) (a b : Int) (w : World) (hv : TyAt w lo hi sv cv t) (hB : hi ≤ w.heap.size) (htb : typesB t a b = true) :
    Calls Try.prog 71 #[.agg #[sv, cv], .int .i64 a, .int .i64 b] w fun e w' => ∃ v, e = .returned v ∧ Below w.heap.size w w' ∧ w'.ownsRow w.heap.size 3 1 v (joinsV t a b).length ((joinsV t a b).map (Value.int .i64)) := by
  obtain ⟨A, cap, rfl, hl1, hm1, hi1⟩ := hv.1.form
  obtain ⟨B, bap, rfl, hl2, hm2, hc1⟩ := hv.2.form
  obtain ⟨i0, hi0, hz0, hz1, hz2⟩ := info_parts Try.infoInt
  obtain ⟨hty, ha0, ha1, hb0', hb1'⟩ := typesB_of htb
  have hn5 := typesB_len hty
  have hval := Lib.hid (joinsV_yes htb)
  have htk : ∀ (x : Int), 0 ≤ x → x < t.sizes.length → ∀ j : Nat, j < t.sizes.length → typesB t x j = true := fun x h0 h1 j hj => by
    unfold typesB
    rw [hty, ixB_yes h0 h1, ixB_yes (by omega) (by omega)]
    rfl
  have Htk := Lib.hid htk
  have Htb := Lib.hid htb
  have Hv := Lib.hid hv
  clear hv hi1 hc1 htk htb
  have h3 : Below (w.heap.size + 1) (w.alloc (.cells #[.slice A t.sizes.length cap, .slice B t.cos.length bap] 26)) (w.alloc (.cells #[.slice A t.sizes.length cap, .slice B t.cos.length bap] 26)) := Below.refl _ _
  have H3 := Lib.hid h3
  clear h3
  go_enter Try.func71, Try.ntmps71
  go_wp2
  go_step3
  go_wp2
  go_loopw [8, 19] (fun l i wr => ∃ j : Nat, j ≤ t.sizes.length ∧ i = .int .i64 j ∧ Hid (Below (w.heap.size + 1) (w.alloc (.cells #[.slice A t.sizes.length cap, .slice B t.cos.length bap] 26)) wr) ∧ Hid (w.heap.size + 2 ≤ wr.heap.size ∧ Row wr (w.heap.size + 1) 3 []) ∧ Hid (wr.ownsRow (w.heap.size + 2) 3 1 l (filtL (fun i => canB t a i && canB t b i) j).length ((filtL (fun i => canB t a i && canB t b i) j).map (Value.int .i64)))) (fun _ i _ => t.sizes.length - (intOf i).toNat)
  case atStart =>
    refine ⟨0, Nat.zero_le _, rfl, (H3.out.alloc (by simp) _).alloc (by simp) _, ?_, ?_⟩
    · refine ⟨by simp, ?_⟩
      have := (Row.new (w.alloc (.cells #[.slice A t.sizes.length cap, .slice B t.cos.length bap] 26)) 3 []).alloc (.cells #[] 3)
      rw [World.size_alloc] at this
      exact this
    · show World.ownsRow _ _ _ _ _ _ _
      rw [filtL_zero]
      have := World.ownsRow_lit (base := w.heap.size + 2) (e := 3) (size := 1) ((w.alloc (.cells #[.slice A t.sizes.length cap, .slice B t.cos.length bap] 26)).alloc (.cells #[] 3)) #[] 0 (by simp) (by unfold maxLen; omega) rfl
      simpa using this
  case round =>
    obtain ⟨j, hj, rfl, hb, hlit, hown⟩ := hrel
    obtain ⟨q0, q1, hlr, hb0⟩ := box2 hb.out
    have Hb0 := Lib.hid hb0
    obtain ⟨hsz0, hlrow⟩ := hlit.out
    have Hlrow := Lib.hid hlrow
    have hle := filtL_le (fun i => canB t a i && canB t b i) j
    clear hb0 hlrow
    by_cases hlt : j < t.sizes.length
    · go_wp2_with fail
      refine (l2Can_any lo hi _ _ t a j _ (Hv.out.below Hb0.out hB) (by omega) (Htk.out a ha0 ha1 j hlt)).mono ?_
      rintro e w1 ⟨rfl, hb1⟩
      have Hb1 := Lib.hid hb1
      have hbx := hb.out.trans (hb1.mono (by omega))
      have q0' : w1.cell? ⟨w.heap.size, 0, none⟩ = some (.slice A t.sizes.length cap) := (box2 hbx).1
      have q1' : w1.cell? ⟨w.heap.size, 1, none⟩ = some (.slice B t.cos.length bap) := (box2 hbx).2.1
      have Hbx := Lib.hid hbx
      have hs1 := hb1.size
      clear hb1 hbx
      by_cases hqa : canB t a j = true
      · rw [hqa]
        go_wp2_with fail
        refine (l2Can_any lo hi _ _ t b j _ (Hv.out.below (box2 Hbx.out).2.2.2 hB) (by omega) (Htk.out b hb0' hb1' j hlt)).mono ?_
        rintro e w2 ⟨rfl, hb2⟩
        have hb12 := Hb1.out.trans (hb2.mono hs1)
        have hbx2 := Lib.hid (hb.out.trans (hb12.mono (by omega)))
        have Hown2 := Lib.hid (ownsRow_below hown.out hb12 (Nat.le_refl _))
        have Hlit2 := Lib.hid (show w.heap.size + 2 ≤ w2.heap.size ∧ Row w2 (w.heap.size + 1) 3 [] from ⟨by have := hb12.size; omega, Hlrow.out.below hb12 (by omega)⟩)
        have hs2 := Hlit2.out.1
        clear hb2 hb12 q0 q1 q0' q1'
        by_cases hqb : canB t b j = true
        · have hh := Lib.hid (filtL_hit (p := fun i => canB t a i && canB t b i) (n := j) (by rw [hqa, hqb]; rfl))
          rw [hqb]
          clear hqa hqb
          go_wp2_with (at_builtin; refine wpList_push rfl (.tmp 32) (.tmp 34) 23 rfl i0 (.int .i64 0) 8 Try.underlying23 hi0 hz0 hz1 hz2 rfl rfl (Hown2.out.alloc _) ⟨w2.heap.size, 0, none⟩ 1 (.int .i64 j) rfl (by simp [go_sem]) rfl (by unfold maxLen; omega) (by omega) (by simp; omega) ?_)
          intro v' w3 hp
          have hbl := owns_lt Hown2.out
          have hb3 := Lib.hid ((hbx2.out.alloc (by omega) (.cells #[.int .i64 j] 3)).grown hp.grown (by simp; omega) (fun k hk => by have := (hbl k hk).1; omega))
          have Hlit3 := Lib.hid (show w.heap.size + 2 ≤ w3.heap.size ∧ Row w3 (w.heap.size + 1) 3 [] from ⟨by have := hp.grown.size; simp at this; omega, (Hlit2.out.2.alloc _).keep (hp.grown.block _ (by simp; omega) (fun e => by have := (hbl _ e.symm).1; omega))⟩)
          have Hown3 := Lib.hid hp.own
          clear hp
          go_wp2
          go_roundw
          case rel => exact ⟨j + 1, by omega, by go_num, hb3, Hlit3, ownsRow_cast Hown3.out (by rw [hh.out]; simp) (by rw [hh.out]; simp)⟩
          case measure => simp [intOf]; omega
        · have hqf : canB t b j = false := by simpa using hqb
          have hh := Lib.hid (filtL_miss (p := fun i => canB t a i && canB t b i) (n := j) (by rw [hqa, hqf]; rfl))
          rw [hqf]
          clear hqa hqb hqf
          go_wp2
          go_roundw
          case rel => exact ⟨j + 1, by omega, by go_num, hbx2, Hlit2, ownsRow_cast Hown2.out (by rw [hh.out]) (by rw [hh.out])⟩
          case measure => simp [intOf]; omega
      · have hqf : canB t a j = false := by simpa using hqa
        have hh := Lib.hid (filtL_miss (p := fun i => canB t a i && canB t b i) (n := j) (by rw [hqf]; rfl))
        have Hown1 := Lib.hid (ownsRow_below hown.out Hb1.out (Nat.le_refl _))
        have Hlit1 := Lib.hid (show w.heap.size + 2 ≤ w1.heap.size ∧ Row w1 (w.heap.size + 1) 3 [] from ⟨by omega, Hlrow.out.below Hb1.out (by omega)⟩)
        rw [hqf]
        clear hqa hqf
        go_wp2
        go_roundw
        case rel => exact ⟨j + 1, by omega, by go_num, Hbx, Hlit1, ownsRow_cast Hown1.out (by rw [hh.out]) (by rw [hh.out])⟩
        case measure => simp [intOf]; omega
    · obtain rfl : j = t.sizes.length := by omega
      have hwfb := bothV_wf t a b (by omega)
      have hbl := Lib.hid (owns_lt hown.out)
      have hbi := Lib.hid (ownsRow.intsAt (lo := w.heap.size + 2) (hi := wr.heap.size) (show wr.ownsRow (w.heap.size + 2) 3 1 _ (bothV t a b).length ((bothV t a b).map (Value.int .i64)) from hown.out) hwfb (Nat.le_refl _) (Nat.le_refl _))
      obtain ⟨OA, OC, rfl⟩ := owns_form hown.out
      have hble := bothV_le t a b
      have hlenb : (filtL (fun i => canB t a i && canB t b i) t.sizes.length).length = (bothV t a b).length := rfl
      rw [hlenb] at *
      have Hbi := hbi
      have hlit0 : wr.ownsRow (w.heap.size + 1) 3 1 (.slice (some ⟨w.heap.size + 1, 0, none⟩) 0 0) 0 [] := ⟨rfl, .inr ⟨w.heap.size + 1, 0, #[], rfl, Nat.le_refl _, Hlrow.out, Nat.le_refl _, by unfold maxLen; omega, rfl, rfl⟩⟩
      have Hlit0 := Lib.hid hlit0
      clear hlit0 hwfb
      obtain ⟨wL, rfl⟩ : ∃ u, u = wr := ⟨_, rfl⟩
      go_wp2
      go_step3
      go_wp2
      go_loopg [7, 39] (bothV t a b).length (fun gk l i wx => ∃ j : Nat, j + gk = (bothV t a b).length ∧ i = .int .i64 j ∧ Hid (Below (w.heap.size + 1) (w.alloc (.cells #[.slice A t.sizes.length cap, .slice B t.cos.length bap] 26)) wx) ∧ Hid (wL.heap.size ≤ wx.heap.size ∧ ∀ k, k < wL.heap.size → k ≠ w.heap.size + 1 → wx.heap[k]? = wL.heap[k]?) ∧
        Hid (wx.ownsRow (w.heap.size + 1) 3 1 l (joinL t (bothV t a b) j).length ((joinL t (bothV t a b) j).map (Value.int .i64))) ∧ Hid (∀ b, l.ownBlock = some b → b = w.heap.size + 1 ∨ wL.heap.size ≤ b))
      case atStart =>
        refine ⟨0, by omega, rfl, hb, ⟨Nat.le_refl _, fun _ _ _ => rfl⟩, by show World.ownsRow _ _ _ _ _ _ _; rw [joinL_zero]; exact Hlit0.out, fun b hb => ?_⟩
        simp only [Value.ownBlock, Option.some.injEq] at hb
        omega
      case round =>
        obtain ⟨j, hjg, rfl, hbx, hhx, hownx, hobx⟩ := hrel
        obtain ⟨wx, rfl⟩ : ∃ u, u = wr := ⟨_, rfl⟩
        have hjle := joinL_le t (bothV t a b) j
        cases gk with
        | zero =>
          obtain rfl : j = (bothV t a b).length := by omega
          go_wp2
          try rw [Exit.noGoto_ret]
          go_ret
          exact ⟨_, rfl, (box2 hbx.out).2.2.2, by rw [hval.out]; exact ownsRow_base hownx.out (by omega)⟩
        | succ g2 =>
          have hlt : j < (bothV t a b).length := by omega
          have hlx : w.heap.size + 1 ≤ wx.heap.size := by have := hhx.out.1; omega
          have Hbix := Lib.hid (Hbi.out.keep (w' := wx) fun k hk1 hk2 => hhx.out.2 k hk2 (by omega))
          obtain ⟨b8, off8, rfl, _, _, c8, _⟩ := Hbix.out.at_ hlt
          obtain ⟨q0, q1, hlr', hb0⟩ := box2 hbx.out
          have Hbx0 := Lib.hid hb0
          have hsx := hhx.out.1
          clear hb0
          go_wp2
          go_loopg [45] (bothV t a b).length (fun gi i wy => ∃ m : Nat, m + gi = (bothV t a b).length ∧ i = .int .i64 m ∧ Hid (Below wx.heap.size wx wy) ∧ Hid (∀ q, ∀ (hq : q < (bothV t a b).length), q < m → ¬ ((bothV t a b)[q] ≠ (bothV t a b)[j] ∧ canB t (bothV t a b)[q] (bothV t a b)[j] = true)))
          case atStart => exact ⟨0, by omega, rfl, Below.refl _ _, fun q _ h => absurd h (by omega)⟩
          case round =>
            obtain ⟨m, hmg, rfl, hby, hnone⟩ := hrel
            obtain ⟨wy, rfl⟩ : ∃ u, u = wr := ⟨_, rfl⟩
            have hbxy := hbx.out.trans (hby.out.mono hlx)
            obtain ⟨z0, z1, hlz, hbz⟩ := box2 hbxy
            have Hbxy := Lib.hid hbxy
            have Hbz := Lib.hid hbz
            have hsy := hby.out.size
            have Hhy := Lib.hid (show wL.heap.size ≤ wy.heap.size ∧ ∀ k, k < wL.heap.size → k ≠ w.heap.size + 1 → wy.heap[k]? = wL.heap[k]? from ⟨by omega, fun k h1 h2 => (hby.out.block k (by omega)).trans (hhx.out.2 k h1 h2)⟩)
            have Howny := Lib.hid (ownsRow_below hownx.out hby.out (Nat.le_refl _))
            clear hbxy hbz
            cases gk with
            | zero =>
              obtain rfl : m = (bothV t a b).length := by omega
              have hlow := lowB_yes (t := t) (both := bothV t a b) (k := (bothV t a b)[j]) (fun q hq => hnone.out q hq hq)
              have hh := Lib.hid (joinL_hit hlt hlow)
              have hbl2 := Lib.hid (owns_lt Howny.out)
              clear hlow
              go_wp2_with (at_builtin; refine wpList_push rfl (.tmp 59) (.tmp 61) 23 rfl i0 (.int .i64 0) 8 Try.underlying23 hi0 hz0 hz1 hz2 rfl rfl (Howny.out.alloc _) ⟨wy.heap.size, 0, none⟩ 1 (.int .i64 (bothV t a b)[j]) rfl (by simp [go_sem]) rfl (by unfold maxLen; omega) (by omega) (by simp; omega) ?_)
              intro v' w3 hp
              have hb3 := Lib.hid ((Hbxy.out.alloc (by omega) (.cells #[.int .i64 (bothV t a b)[j]] 3)).grown hp.grown (by simp; omega) (fun k hk => (hbl2.out k hk).1))
              have hg3 := hp.grown.size
              simp only [World.size_alloc] at hg3
              have Hh3 := Lib.hid (show wL.heap.size ≤ w3.heap.size ∧ ∀ k, k < wL.heap.size → k ≠ w.heap.size + 1 → w3.heap[k]? = wL.heap[k]? from ⟨by omega, fun k h1 h2 => (hp.grown.block k (by simp; omega) (fun e => by rcases hobx.out k e.symm with h | h <;> omega)).trans ((Below.heap_alloc wy _ k (by omega)).trans (Hhy.out.2 k h1 h2))⟩)
              have hob3 : Hid (∀ b, v'.ownBlock = some b → b = w.heap.size + 1 ∨ wL.heap.size ≤ b) := fun b hb => by
                rcases hp.at_ with e | ⟨g', e, h6, _⟩
                · exact hobx.out b (by rw [← e]; exact hb)
                · rw [e] at hb
                  simp only [Option.some.injEq, World.size_alloc] at hb h6
                  omega
              have Hown3 := Lib.hid hp.own
              clear hp hg3
              go_wp2
              go_roundg g2
              case measure => omega
              case rel => exact ⟨j + 1, by omega, by go_num, hb3, Hh3, ownsRow_cast Hown3.out (by rw [hh.out]; simp) (by rw [hh.out]; simp), hob3⟩
            | succ g3 =>
              have hmt : m < (bothV t a b).length := by omega
              have Hbiy := Lib.hid (Hbi.out.keep (w' := wy) fun k hk1 hk2 => Hhy.out.2 k hk2 (by omega))
              obtain ⟨b9, off9, e9, _, _, c9, _⟩ := Hbiy.out.at_ hmt
              injection e9 with e9
              injection e9 with e91 e92
              subst e91
              subst e92
              by_cases hne : (bothV t a b)[m] = (bothV t a b)[j]
              · have htest : ((bothV t a b)[m] != (bothV t a b)[j]) = false := by simpa using hne
                have hnone2 : Hid (∀ q, ∀ (hq : q < (bothV t a b).length), q < m + 1 → ¬ ((bothV t a b)[q] ≠ (bothV t a b)[j] ∧ canB t (bothV t a b)[q] (bothV t a b)[j] = true)) := fun q hq h => by
                  by_cases e : q = m
                  · subst e; exact fun h2 => h2.1 hne
                  · exact hnone.out q hq (by omega)
                clear hne
                go_wp2
                go_roundg g3
                case measure => omega
                case rel => exact ⟨m + 1, by omega, by go_num, hby, hnone2⟩
              · have htest : ((bothV t a b)[m] != (bothV t a b)[j]) = true := by simpa using hne
                go_wp2_with fail
                refine (l2Can_any lo hi _ _ t (bothV t a b)[m] (bothV t a b)[j] _ (Hv.out.below Hbz.out hB) (by omega) (both_types Htb.out hmt hlt)).mono ?_
                rintro e w4 ⟨rfl, hb4⟩
                have Hb4 := Lib.hid hb4
                clear hb4
                by_cases hc : canB t (bothV t a b)[m] (bothV t a b)[j] = true
                · have hh := Lib.hid (joinL_miss hlt (lowB_no hmt hne hc))
                  have hs4 := Hb4.out.size
                  have hb5 := Lib.hid (Hbxy.out.trans (Hb4.out.mono (by omega)))
                  have Hh5 := Lib.hid (show wL.heap.size ≤ w4.heap.size ∧ ∀ k, k < wL.heap.size → k ≠ w.heap.size + 1 → w4.heap[k]? = wL.heap[k]? from ⟨by omega, fun k h1 h2 => (Hb4.out.block k (by omega)).trans (Hhy.out.2 k h1 h2)⟩)
                  have Hown5 := Lib.hid (ownsRow_below Howny.out Hb4.out (Nat.le_refl _))
                  rw [hc]
                  clear hc hne
                  go_wp2
                  go_roundg g2
                  case measure => omega
                  case rel => exact ⟨j + 1, by omega, by go_num, hb5, Hh5, ownsRow_cast Hown5.out (by rw [hh.out]) (by rw [hh.out]), hobx⟩
                · have hcf : canB t (bothV t a b)[m] (bothV t a b)[j] = false := by simpa using hc
                  have hnone2 : Hid (∀ q, ∀ (hq : q < (bothV t a b).length), q < m + 1 → ¬ ((bothV t a b)[q] ≠ (bothV t a b)[j] ∧ canB t (bothV t a b)[q] (bothV t a b)[j] = true)) := fun q hq h => by
                    by_cases e : q = m
                    · subst e; exact fun h2 => hc h2.2
                    · exact hnone.out q hq (by omega)
                  have hby4 := Lib.hid (hby.out.trans (Hb4.out.mono hsy))
                  rw [hcf]
                  clear hc hcf hne
                  go_wp2
                  go_roundg g3
                  case measure => omega
                  case rel => exact ⟨m + 1, by omega, by go_num, hby4, hnone2⟩
end Go.Proofs.Ytplpnammboofiaa

namespace Go.Proofs.Ytplpnammboofiaa
open Go.RowKit

/-- Coercions lead from k to g. -/
inductive Leads2 (cs : List Co) : Int → Int → Prop
  | here (k : Int) : Leads2 cs k k
  | step {k g : Int} (i : Nat) (hi : i < cs.length) (hs : cs[i].src = k) (h : Leads2 cs cs[i].dst g) : Leads2 cs k g
theorem Leads2.trans {cs : List Co} {a b c : Int} (h : Leads2 cs a b) (k : Leads2 cs b c) : Leads2 cs a c := by
  induction h with
  | here _ => exact k
  | step i hi hs _ ih => exact .step i hi hs (ih k)
theorem Leads2.up {t : Ty} (ht : tyOk t = true) {a b : Int} (h : Leads2 t.cos a b) : a = b ∨ a < b := by
  induction h with
  | here _ => exact .inl rfl
  | step i hi hs _ ih =>
    have := tyOk_up ht hi
    right
    rcases ih with h1 | h1 <;> omega
theorem Leads2.of_ways {cs : List Co} : ∀ (n : Nat) (k g : Int), ∀ y ∈ waysF cs n k g, Leads2 cs k g := by
  intro n
  induction n with
  | zero => intro k g y hy; simp [waysF] at hy
  | succ n ih =>
    intro k g y hy
    by_cases hg : k = g
    · subst hg; exact .here k
    · rw [waysF_ne hg] at hy
      obtain ⟨i, hi, hs, z, hz, _⟩ := waysJ_mem.1 hy
      have e : cs.getD i default = cs[i] := by rw [List.getD_eq_getElem?_getD, List.getElem?_eq_getElem hi]; rfl
      rw [e] at hs hz
      exact .step i hi hs (ih _ _ z hz)
theorem Leads2.ways {t : Ty} (ht : tyOk t = true) {k g : Int} (h : Leads2 t.cos k g) : ∀ n : Nat, 0 < n → (t.sizes.length : Int) ≤ k + (n : Int) → waysF t.cos n k g ≠ [] := by
  induction h with
  | here k =>
    intro n hn _
    obtain ⟨m, rfl⟩ : ∃ m, n = m + 1 := ⟨n - 1, by omega⟩
    rw [waysF_eq]
    simp
  | step i hi hs _ ih =>
    rename_i k g hh
    intro n hn hl
    have hu := tyOk_up ht hi
    obtain ⟨m, rfl⟩ : ∃ m, n = m + 1 := ⟨n - 1, by omega⟩
    by_cases hg : k = g
    · subst hg; rw [waysF_eq]; simp
    · rw [waysF_ne hg]
      have h1 := ih m (by omega) (by omega)
      obtain ⟨y, hy⟩ := List.exists_mem_of_ne_nil _ h1
      have e : t.cos.getD i default = t.cos[i] := by rw [List.getD_eq_getElem?_getD, List.getElem?_eq_getElem hi]; rfl
      have hm : (i : Int) :: y ∈ waysJ t.cos m k g t.cos.length := waysJ_mem.2 ⟨i, hi, by rw [e]; exact hs, y, by rw [e]; exact hy, rfl⟩
      exact List.ne_nil_of_mem hm
theorem canB_iff {t : Ty} (ht : tyOk t = true) {a b : Int} (ha : 0 ≤ a) : canB t a b = true ↔ Leads2 t.cos a b := by
  unfold canB
  rw [decide_eq_true_eq]
  constructor
  · intro h
    obtain ⟨y, hy⟩ := List.exists_mem_of_length_pos h
    exact Leads2.of_ways 5 a b y hy
  · intro h
    have h5 := tyOk_five ht
    exact List.length_pos_iff.2 (h.ways ht 5 (by omega) (by omega))
theorem canC_iff {t : Ty} {a b : Int} : canC t a b = true ↔ typesB t a b = true ∧ Leads2 t.cos a b := by
  unfold canC
  rw [Bool.and_eq_true]
  constructor
  · rintro ⟨h1, h2⟩
    obtain ⟨ht, ha, _⟩ := types_of h1
    exact ⟨h1, (canB_iff ht ha).1 h2⟩
  · rintro ⟨h1, h2⟩
    obtain ⟨ht, ha, _⟩ := types_of h1
    exact ⟨h1, (canB_iff ht ha).2 h2⟩
/-- Ways go on. -/
theorem canC_trans {t : Ty} {a b c : Int} (h1 : canC t a b = true) (h2 : canC t b c = true) : canC t a c = true := by
  obtain ⟨p1, q1⟩ := canC_iff.1 h1
  obtain ⟨p2, q2⟩ := canC_iff.1 h2
  obtain ⟨ht, ha, ha2, _, _⟩ := types_of p1
  obtain ⟨_, _, _, hc, hc2⟩ := types_of p2
  exact canC_iff.2 ⟨types_mk ht ha ha2 hc hc2, q1.trans q2⟩
theorem filtL_in {p : Nat → Bool} {n i : Nat} (hi : i < n) (h : p i = true) : (i : Int) ∈ filtL p n := by
  unfold filtL
  exact List.mem_map.2 ⟨i, List.mem_filter.2 ⟨List.mem_range.2 hi, h⟩, rfl⟩
theorem above_mem {t : Ty} {a k : Int} (h : k ∈ aboveV t a) : canC t a k = true := by
  obtain ⟨i, rfl, _, hc⟩ := filtL_mem h
  exact hc
/-- A type leads to itself just where something is above it. -/
theorem above_self (t : Ty) (a : Int) : canC t a a = !decide ((aboveV t a).length = 0) := by
  cases h : canC t a a with
  | true =>
    obtain ⟨p, _⟩ := canC_iff.1 h
    obtain ⟨_, ha, ha2, _, _⟩ := types_of p
    obtain ⟨i, rfl⟩ : ∃ i : Nat, a = i := ⟨a.toNat, by omega⟩
    have hm : (i : Int) ∈ aboveV t i := filtL_in (by omega) h
    have := List.length_pos_of_mem hm
    simp
    intro e
    rw [e] at this
    exact absurd this (by simp)
  | false =>
    have hn : aboveV t a = [] := by
      apply aboveV_no
      cases hx : (tyOk t && ixB a t.sizes.length) with
      | false => rfl
      | true =>
        rw [Bool.and_eq_true] at hx
        obtain ⟨h1, h2⟩ := hx
        have hy : 0 ≤ a ∧ a < t.sizes.length := by simpa [ixB] using h2
        have : canC t a a = true := canC_iff.2 ⟨types_mk h1 hy.1 hy.2 hy.1 hy.2, .here a⟩
        rw [h] at this
        cases this
    rw [hn]
    rfl
theorem both_mem {t : Ty} {a b k : Int} (h : typesB t a b = true) : k ∈ bothV t a b ↔ canC t a k = true ∧ canC t b k = true := by
  obtain ⟨ht, ha, ha2, hb, hb2⟩ := types_of h
  constructor
  · intro hk
    obtain ⟨i, rfl, hi, hc⟩ := filtL_mem hk
    simp only [Bool.and_eq_true] at hc
    have h1 := types_mk ht ha ha2 (show (0 : Int) ≤ (i : Int) by omega) (by omega)
    have h2 := types_mk ht hb hb2 (show (0 : Int) ≤ (i : Int) by omega) (by omega)
    unfold canC
    rw [h1, h2, hc.1, hc.2]
    exact ⟨rfl, rfl⟩
  · rintro ⟨h1, h2⟩
    obtain ⟨p1, _⟩ := canC_iff.1 h1
    obtain ⟨_, _, _, hk, hk2⟩ := types_of p1
    obtain ⟨i, rfl⟩ : ∃ i : Nat, k = i := ⟨k.toNat, by omega⟩
    unfold canC at h1 h2
    rw [Bool.and_eq_true] at h1 h2
    exact filtL_in (by omega) (by rw [h1.2, h2.2]; rfl)
theorem joins_mem {t : Ty} {a b k : Int} (h : typesB t a b = true) : k ∈ joinsV t a b ↔ k ∈ bothV t a b ∧ ∀ l ∈ bothV t a b, l ≠ k → canB t l k = false := by
  rw [joinsV_yes h]
  unfold joinL
  rw [List.take_length, List.mem_filter]
  unfold lowB
  rw [List.all_eq_true]
  constructor
  · rintro ⟨h1, h2⟩
    refine ⟨h1, fun l hl hne => ?_⟩
    have := h2 l hl
    simpa [hne] using this
  · rintro ⟨h1, h2⟩
    refine ⟨h1, fun l hl => ?_⟩
    by_cases e : l = k
    · simp [e]
    · simp [e, h2 l hl e]
/-- What is above both is above a join. -/
theorem join_below {t : Ty} {a b : Int} (h : typesB t a b = true) : ∀ (n : Nat) (k : Int), k.toNat ≤ n → k ∈ bothV t a b → ∃ j ∈ joinsV t a b, canC t j k = true := by
  obtain ⟨ht, _⟩ := types_of h
  intro n
  induction n with
  | zero =>
    intro k hn hk
    have hkk : canC t k k = true := by
      obtain ⟨p1, _⟩ := canC_iff.1 ((both_mem h).1 hk).1
      obtain ⟨_, _, _, h1, h2⟩ := types_of p1
      exact canC_iff.2 ⟨types_mk ht h1 h2 h1 h2, .here k⟩
    refine ⟨k, (joins_mem h).2 ⟨hk, fun l hl hne => ?_⟩, hkk⟩
    cases hc : canB t l k with
    | false => rfl
    | true =>
      obtain ⟨i, rfl, _, _⟩ := filtL_mem hl
      have hk0 : 0 ≤ k := (types_of (canC_iff.1 hkk).1).2.1
      rcases ((canB_iff ht (show (0 : Int) ≤ (i : Int) by omega)).1 hc).up ht with h1 | h1
      · exact absurd h1 hne
      · omega
  | succ n ih =>
    intro k hn hk
    have hkk : canC t k k = true := by
      obtain ⟨p1, _⟩ := canC_iff.1 ((both_mem h).1 hk).1
      obtain ⟨_, _, _, h1, h2⟩ := types_of p1
      exact canC_iff.2 ⟨types_mk ht h1 h2 h1 h2, .here k⟩
    by_cases hall : ∀ l ∈ bothV t a b, l ≠ k → canB t l k = false
    · exact ⟨k, (joins_mem h).2 ⟨hk, hall⟩, hkk⟩
    · have hex : ∃ l, l ∈ bothV t a b ∧ l ≠ k ∧ canB t l k = true := by
        apply Classical.byContradiction
        intro hno
        exact hall fun l hl hne => by
          cases hc : canB t l k with
          | false => rfl
          | true => exact absurd ⟨l, hl, hne, hc⟩ hno
      obtain ⟨l, hl, hne, hc⟩ := hex
      obtain ⟨i, rfl, hi, _⟩ := filtL_mem hl
      have hlk := (canB_iff ht (show (0 : Int) ≤ (i : Int) by omega)).1 hc
      have hlt : (i : Int) < k := by
        rcases hlk.up ht with h1 | h1
        · exact absurd h1 hne
        · exact h1
      obtain ⟨j, hj, hjl⟩ := ih (i : Int) (by omega) hl
      obtain ⟨_, _, _, h1, h2⟩ := types_of (canC_iff.1 hkk).1
      exact ⟨j, hj, canC_trans hjl (canC_iff.2 ⟨types_mk ht (by omega) (by omega) h1 h2, hlk⟩)⟩
/-- A type is above both just where it is above some join. -/
theorem join_some (t : Ty) (a b : Int) (k : Int) : (canC t a k && canC t b k) = (joinsV t a b).any fun j => canC t j k := by
  by_cases h : typesB t a b = true
  · cases hb : (canC t a k && canC t b k) with
    | true =>
      rw [Bool.and_eq_true] at hb
      obtain ⟨j, hj, hc⟩ := join_below h k.toNat k (Nat.le_refl _) ((both_mem h).2 hb)
      exact (List.any_eq_true.2 ⟨j, hj, hc⟩).symm
    | false =>
      cases ha : (joinsV t a b).any fun j => canC t j k with
      | false => rfl
      | true =>
        obtain ⟨j, hj, hc⟩ := List.any_eq_true.1 ha
        obtain ⟨h1, h2⟩ := (both_mem h).1 ((joins_mem h).1 hj).1
        rw [canC_trans h1 hc, canC_trans h2 hc] at hb
        cases hb
  · rw [joinsV_no (by simpa using h)]
    show _ = false
    cases hb : (canC t a k && canC t b k) with
    | false => rfl
    | true =>
      rw [Bool.and_eq_true] at hb
      obtain ⟨ht, h1, h2, _⟩ := types_of (canC_iff.1 hb.1).1
      obtain ⟨_, h3, h4, _⟩ := types_of (canC_iff.1 hb.2).1
      exact absurd (types_mk ht h1 h2 h3 h4) h
theorem types_swap (t : Ty) (a b : Int) : typesB t b a = typesB t a b := by
  unfold typesB
  rw [Bool.and_assoc, Bool.and_assoc, Bool.and_comm (ixB b _)]
theorem joins_swap (t : Ty) (a b : Int) : joinsV t b a = joinsV t a b := by
  unfold joinsV
  rw [types_swap]
  have e : bothV t b a = bothV t a b := filtL_congr fun i _ => Bool.and_comm _ _
  rw [e]
theorem filtL_one (b n : Nat) (hb : b < n) : filtL (fun i => decide (i = b)) n = [(b : Int)] := by
  unfold filtL
  have : (List.range n).filter (fun i => decide (i = b)) = [b] := by
    induction n with
    | zero => omega
    | succ n ih =>
      rw [List.range_succ, List.filter_append]
      by_cases e : b = n
      · subst e
        have h0 : (List.range b).filter (fun i => decide (i = b)) = [] := by
          apply List.filter_eq_nil_iff.2
          intro i hi
          have := List.mem_range.1 hi
          simp
          omega
        rw [h0]
        simp
      · rw [ih (by omega)]
        have : ¬ n = b := fun h => e h.symm
        simp [this]
  rw [this]
  rfl
/-- The join of a type and one above it is that one. -/
theorem join_up {t : Ty} {a b : Int} (h : canC t a b = true) : joinsV t a b = [b] := by
  obtain ⟨hty, hl⟩ := canC_iff.1 h
  obtain ⟨ht, _, _, hb, hb2⟩ := types_of hty
  obtain ⟨n, rfl⟩ : ∃ n : Nat, b = n := ⟨b.toNat, by omega⟩
  have hbb : canC t n n = true := canC_iff.2 ⟨types_mk ht hb hb2 hb hb2, .here _⟩
  have hin : (n : Int) ∈ bothV t a n := (both_mem hty).2 ⟨h, hbb⟩
  have key : ∀ k ∈ bothV t a n, lowB t (bothV t a n) k = decide (k = (n : Int)) := fun k hk => by
    by_cases e : k = (n : Int)
    · subst e
      rw [decide_eq_true rfl]
      unfold lowB
      rw [List.all_eq_true]
      intro l hl
      by_cases e2 : l = (n : Int)
      · simp [e2]
      · obtain ⟨_, h2⟩ := (both_mem hty).1 hl
        have hup := (canC_iff.1 h2).2.up ht
        have hc : canB t l n = false := by
          cases hc : canB t l n with
          | false => rfl
          | true =>
            obtain ⟨i, rfl, _, _⟩ := filtL_mem hl
            rcases ((canB_iff ht (show (0 : Int) ≤ (i : Int) by omega)).1 hc).up ht with h1 | h1 <;> rcases hup with h3 | h3 <;> omega
        simp [hc]
    · rw [decide_eq_false e]
      unfold lowB
      cases hx : (bothV t a n).all fun l => !(decide (l ≠ k) && canB t l k) with
      | false => rfl
      | true =>
        have h1 := List.all_eq_true.1 hx _ hin
        have h2 : canC t n k = true := ((both_mem hty).1 hk).2
        unfold canC at h2
        rw [Bool.and_eq_true] at h2
        rw [h2.2] at h1
        have h4 : ¬ (n : Int) = k := fun h => e h.symm
        simp [h4] at h1
  rw [joinsV_yes hty]
  unfold joinL
  rw [List.take_length, List.filter_congr key]
  have e2 : (bothV t a n).filter (fun k => decide (k = (n : Int))) = filtL (fun i => decide (i = n)) t.sizes.length := by
    unfold bothV filtL
    rw [List.filter_map, List.filter_filter]
    congr 1
    apply List.filter_congr
    intro i hi
    have hi2 := List.mem_range.1 hi
    by_cases e : i = n
    · subst e
      have hp : (canB t a i && canB t i i) = true := by
        unfold canC at h hbb
        rw [Bool.and_eq_true] at h hbb
        rw [h.2, hbb.2]
        rfl
      simp [hp]
    · have hne : ¬ (i : Int) = (n : Int) := by omega
      simp [e]
      exact fun h => absurd h hne
  rw [e2]
  exact filtL_one n _ (by omega)
end Go.Proofs.Ytplpnammboofiaa

namespace Go.Proofs.Ytplpnammboofiaa
open Go.RowKit

set_option maxRecDepth 100000 in
set_option maxHeartbeats 1000000 in
theorem specJoins_any (lo hi : Nat) (sv cv : Value) (t : Ty) (a b : Int) (w : World) (hv : TyAt w lo hi sv cv t) (hB : hi ≤ w.heap.size) (_hbk : t.bulk ≤ 1048576) :
    Calls Try.prog 32 #[.agg #[sv, cv], .int .i64 a, .int .i64 b] w fun e w' => ∃ v, e = .returned v ∧ Below w.heap.size w w' ∧ w'.ownsRow w.heap.size 3 1 v (joinsV t a b).length ((joinsV t a b).map (Value.int .i64)) := by
  obtain ⟨A, cap, rfl, hl1, hm1, _⟩ := hv.1.form
  obtain ⟨B, bap, rfl, hl2, hm2, _⟩ := hv.2.form
  have h3 : Below w.heap.size w (w.alloc (.cells #[.slice A t.sizes.length cap, .slice B t.cos.length bap] 26)) := by go_grown
  have hv3 := Lib.hid (hv.below h3 hB)
  have Hv := Lib.hid hv
  clear hv
  go_enter Try.func32, Try.ntmps32
  go_wp2_with fail
  refine (l2Types_any lo hi _ _ t a b _ hv3.out (by simp; omega)).mono ?_
  rintro e w1 ⟨rfl, hb1⟩
  have H1 := Lib.hid (box2 (hb1.mono (by simp)))
  obtain ⟨q0, q1, hl, _⟩ := box2 (hb1.mono (by simp))
  clear hb1
  by_cases hok : typesB t a b = true
  · have Hok := Lib.hid hok
    rw [hok]
    clear hok
    go_wp2_with fail
    refine (l2Joins_any lo hi _ _ t a b _ (Hv.out.below H1.out.2.2.2 hB) (by omega) Hok.out).mono ?_
    rintro e w2 ⟨v, rfl, hb2, hown2⟩
    have H2 := Lib.hid (H1.out.2.2.2.trans (hb2.mono (by omega)))
    have Hown2 := Lib.hid (ownsRow_base hown2 (Nat.le_of_lt hl))
    clear hb2 hown2
    go_wp2
    go_ret
    exact ⟨_, rfl, H2.out, Hown2.out⟩
  · have hokf : typesB t a b = false := by simpa using hok
    have hno := Lib.hid (joinsV_no hokf)
    rw [hokf]
    clear hok
    go_wp2
    go_ret
    refine ⟨_, rfl, H1.out.2.2.2.alloc (by omega) _, ?_⟩
    rw [hno.out]
    have := World.ownsRow_lit (base := w.heap.size) (e := 3) (size := 1) w1 #[] 0 (by omega) (by unfold maxLen; omega) rfl
    simpa using this

def accL (t : Ty) (b : Int) (l : List Int) (j : Nat) : List Int := (l.take j).filter fun z => canB t b z
theorem accL_zero (t : Ty) (b : Int) (l : List Int) : accL t b l 0 = [] := by simp [accL]
theorem accL_hit {t : Ty} {b : Int} {l : List Int} {m : Nat} (hm : m < l.length) (h : canB t b l[m] = true) : accL t b l (m + 1) = accL t b l m ++ [l[m]] := by
  unfold accL
  rw [List.take_succ_eq_append_getElem hm, List.filter_append]
  simp [h]
theorem accL_miss {t : Ty} {b : Int} {l : List Int} {m : Nat} (hm : m < l.length) (h : canB t b l[m] = false) : accL t b l (m + 1) = accL t b l m := by
  unfold accL
  rw [List.take_succ_eq_append_getElem hm, List.filter_append]
  simp [h]
theorem accL_le (t : Ty) (b : Int) (l : List Int) (j : Nat) : (accL t b l j).length ≤ j := by
  unfold accL
  have h1 := List.length_filter_le (fun z => canB t b z) (l.take j)
  rw [List.length_take] at h1
  omega
theorem accL_all {t : Ty} {a b : Int} (h : (tyOk t && ixB a t.sizes.length) = true) : accL t b (aboveV t a) (aboveV t a).length = bothV t a b := by
  unfold accL bothV
  rw [List.take_length, aboveV_ok h]
  unfold filtL
  rw [List.filter_map, List.filter_filter]
  congr 1
  refine List.filter_congr fun i _ => ?_
  simp [Bool.and_comm]

set_option maxRecDepth 100000 in
set_option maxHeartbeats 2000000 in
theorem aboveBoth_any (lo hi g : Nat) (sv cv : Value) (t : Ty) (a b : Int) (w : World) (hv : TyAt w lo hi sv cv t) (hB : hi ≤ w.heap.size) (hrow : Row w g 81 [sv, cv]) (htb : typesB t a b = true) :
    Calls Try.prog 70 #[.pointer (some ⟨g, 0, none⟩), .int .i64 a, .int .i64 b] w fun e w' => ∃ v, e = .returned v ∧ Below w.heap.size w w' ∧ w'.ownsRow w.heap.size 3 1 v (bothV t a b).length ((bothV t a b).map (Value.int .i64)) := by
  obtain ⟨A, cap, rfl, hl1, hm1, hi1⟩ := hv.1.form
  obtain ⟨B, bap, rfl, hl2, hm2, hc1⟩ := hv.2.form
  obtain ⟨i0, hi0, hz0, hz1, hz2⟩ := info_parts Try.infoInt
  obtain ⟨hty, ha0, ha1, hb0', hb1'⟩ := typesB_of htb
  have hn := typesB_len hty
  have hok : (tyOk t && ixB a t.sizes.length) = true := by rw [hty, ixB_yes ha0 ha1]; rfl
  have hall := Lib.hid (accL_all (b := b) hok)
  have hal := aboveV_le t a
  have hmem : ∀ j, ∀ (hj : j < (aboveV t a).length), typesB t b (aboveV t a)[j] = true := fun j hj => by
    obtain ⟨i, e, hi, _⟩ := filtL_mem (show (aboveV t a)[j] ∈ filtL (fun i => canC t a i) t.sizes.length from List.getElem_mem hj)
    rw [e]
    unfold typesB
    rw [hty, ixB_yes hb0' hb1', ixB_yes (by omega) (by omega)]
    rfl
  have hwf : ∀ z ∈ aboveV t a, I64 z := fun z hz => by
    obtain ⟨i, rfl, hi, _⟩ := filtL_mem hz
    unfold I64
    omega
  have Hmem := Lib.hid hmem
  have Hwf := Lib.hid hwf
  have Hok := Lib.hid hok
  have Hv := Lib.hid hv
  have Hrow := Lib.hid hrow
  have hgl := hrow.lt
  clear hv hrow hi1 hc1 hok htb hmem hwf
  go_enter Try.func70, Try.ntmps70
  go_wp2_with fail
  refine (above_any lo hi g _ _ t a _ Hv.out hB Hrow.out Hok.out).mono ?_
  rintro e w1 ⟨v1, rfl, hb1, hown1⟩
  have Hi1 := Lib.hid (ownsRow.intsAt (lo := w.heap.size) (hi := w1.heap.size) hown1 Hwf.out (Nat.le_refl _) (Nat.le_refl _))
  obtain ⟨VA, VC, rfl⟩ := owns_form hown1
  have Hb1 := Lib.hid hb1
  have hs1 := hb1.size
  clear hb1 hown1
  go_wp2
  go_loopw [7, 14] (fun l i wr => ∃ j : Nat, j ≤ (aboveV t a).length ∧ i = .int .i64 j ∧ Hid (Below w1.heap.size w1 wr) ∧ Hid (wr.ownsRow w1.heap.size 3 1 l (accL t b (aboveV t a) j).length ((accL t b (aboveV t a) j).map (Value.int .i64)))) (fun _ i _ => (aboveV t a).length - (intOf i).toNat)
  case atStart => exact ⟨0, Nat.zero_le _, rfl, Below.refl _ _, by show World.ownsRow _ _ _ _ _ _ _; rw [accL_zero]; exact World.ownsRow_nil _ _ _ _⟩
  case round =>
    obtain ⟨j, hj, rfl, hb, hown⟩ := hrel
    have hbs := hb.out.size
    have hle := accL_le t b (aboveV t a) j
    have Hbw := Lib.hid (Hb1.out.trans (hb.out.mono hs1))
    by_cases hlt : j < (aboveV t a).length
    · obtain ⟨b8, off8, rfl, _, _, c8, _⟩ := (Hi1.out.below hb.out (Nat.le_refl _)).at_ hlt
      go_wp2_with fail
      refine (leads_any lo hi g _ _ t b (aboveV t a)[j] _ (Hv.out.below Hbw.out hB) (by omega) (Hrow.out.below Hbw.out hgl) (Hmem.out j hlt)).mono ?_
      rintro e w2 ⟨rfl, hb2⟩
      have hbx := hb.out.trans (hb2.mono hbs)
      have hown1 := ownsRow_below hown.out hb2 (Nat.le_refl _)
      have Hown1 := Lib.hid hown1
      have Hbx := Lib.hid hbx
      have hsz1 : w1.heap.size ≤ w2.heap.size := by have := hb2.size; omega
      clear hown1 hbx hb2
      by_cases hq : canB t b (aboveV t a)[j] = true
      · have hh := Lib.hid (accL_hit hlt hq)
        rw [hq]
        clear hq
        go_wp2_with (at_builtin; refine wpList_append_own _ rfl (.tmp 22) (.tmp 24) 23 rfl w1.heap.size 3 i0 (.int .i64 0) 1 8 Try.underlying23 hi0 hz0 hz1 hz2 rfl (by decide) _ _ _ rfl (Hown1.out.alloc _) ⟨w2.heap.size, 0, none⟩ 1 1 [.int .i64 (aboveV t a)[j]] rfl rfl ?c1 ?c2 ?c3 ?c4 ?c5 ?_)
        case c1 =>
          intro i u hi
          match i, hi with
          | 0, hi => simp at hi; subst hi; simp [Addr.add]
        case c2 => intro u hu; simp at hu; subst hu; rfl
        case c3 => unfold maxLen; omega
        case c4 => omega
        case c5 => simp; omega
        intro v' w3 hown2 hgrow _
        have hbl := owns_lt Hown1.out
        have hb3 := (Hbx.out.alloc (by omega) _).grown hgrow (by simp; omega) (fun k hk => (hbl k hk).1)
        have Hb3 := Lib.hid hb3
        have Hown2 := Lib.hid hown2
        clear hown2 hgrow hb3 hbl
        go_wp2
        go_roundw
        case rel => exact ⟨j + 1, by omega, by go_num, Hb3.out, ownsRow_cast Hown2.out (by rw [hh.out]; simp) (by rw [hh.out]; simp)⟩
        case measure => simp [intOf]; omega
      · have hqf : canB t b (aboveV t a)[j] = false := by simpa using hq
        have hh := Lib.hid (accL_miss hlt hqf)
        rw [hqf]
        clear hq hqf
        go_wp2
        go_roundw
        case rel => exact ⟨j + 1, by omega, by go_num, Hbx.out, ownsRow_cast Hown1.out (by rw [hh.out]) (by rw [hh.out])⟩
        case measure => simp [intOf]; omega
    · obtain rfl : j = (aboveV t a).length := by omega
      go_wp2
      go_ret
      exact ⟨_, rfl, Hbw.out, by rw [← hall.out]; exact ownsRow_base hown.out hs1⟩

set_option maxRecDepth 100000 in
set_option maxHeartbeats 4000000 in
theorem implJoins_any (lo hi : Nat) (sv cv : Value) (t : Ty) (a b : Int) (w : World) (hv : TyAt w lo hi sv cv t) (hB : hi ≤ w.heap.size) (ha : I64 a) (hb : I64 b) :
    Calls Try.prog 30 #[.agg #[sv, cv], .int .i64 a, .int .i64 b] w fun e w' => ∃ v, e = .returned v ∧ Below w.heap.size w w' ∧ w'.ownsRow w.heap.size 3 1 v (joinsV t a b).length ((joinsV t a b).map (Value.int .i64)) := by
  obtain ⟨A, cap, rfl, hl1, hm1, hi1⟩ := hv.1.form
  obtain ⟨B, bap, rfl, hl2, hm2, hc1⟩ := hv.2.form
  obtain ⟨i0, hi0, hz0, hz1, hz2⟩ := info_parts Try.infoInt
  have Hv := Lib.hid hv
  clear hv hi1 hc1
  have h4 : Below w.heap.size w ((w.alloc (.cells #[.slice A t.sizes.length cap, .slice B t.cos.length bap] 26)).alloc (.cells #[.int .i64 a, .int .i64 b] 3)) := by go_grown
  have hone := ints_two (w.alloc (.cells #[.slice A t.sizes.length cap, .slice B t.cos.length bap] 26)) a b ha hb 3
  rw [World.size_alloc] at hone
  have H4 := Lib.hid h4
  have Hone := Lib.hid hone
  clear h4 hone
  go_enter Try.func30, Try.ntmps30
  go_wp2
  go_step3
  go_wp2_with fail
  refine (finderOf_any lo hi _ _ _ _ _ t [a, b] _ (Hv.out.below H4.out hB) (by simp; omega) Hone.out (by simp only [World.size_alloc]; omega)).mono ?_
  rintro e w1 ⟨p, rfl, hb1, hf1⟩
  rw [findOk_two] at hf1 ⊢
  have H1 := Lib.hid (H4.out.trans (hb1.mono (by simp; omega)))
  have hs1 : w.heap.size ≤ w1.heap.size := H1.out.size
  clear hb1
  by_cases hok : typesB t a b = true
  · obtain ⟨g, rfl, hg, hrow⟩ := hf1 hok
    have Hrow := Lib.hid hrow
    have Htb := Lib.hid hok
    have hval := Lib.hid (joinsV_yes hok)
    have hn5 := typesB_len (typesB_of hok).1
    have hgl := hrow.lt
    rw [hok]
    clear hrow hok
    go_wp2_with fail
    refine (aboveBoth_any lo hi g _ _ t a b _ (Hv.out.below H1.out hB) (by omega) Hrow.out Htb.out).mono ?_
    rintro e wL ⟨vb, rfl, hb2, hown2⟩
    have hble := bothV_le t a b
    have Hbi := Lib.hid (ownsRow.intsAt (lo := w1.heap.size) (hi := wL.heap.size) hown2 (bothV_wf t a b (by omega)) (Nat.le_refl _) (Nat.le_refl _))
    obtain ⟨OA, OC, rfl⟩ := owns_form hown2
    have hsL := hb2.size
    have HbL := Lib.hid (H1.out.trans (hb2.mono hs1))
    have HrowL := Lib.hid (Hrow.out.below hb2 hgl)
    clear hb2 hown2
    go_wp2
    go_step3
    go_wp2
    go_loopg [10, 31] (bothV t a b).length (fun gk l i wx => ∃ j : Nat, j + gk = (bothV t a b).length ∧ i = .int .i64 j ∧ Hid (Below wL.heap.size wL wx) ∧
      Hid (wx.ownsRow wL.heap.size 3 1 l (joinL t (bothV t a b) j).length ((joinL t (bothV t a b) j).map (Value.int .i64))))
    case atStart => exact ⟨0, by omega, rfl, Below.refl _ _, by show World.ownsRow _ _ _ _ _ _ _; rw [joinL_zero]; exact World.ownsRow_nil _ _ _ _⟩
    case round =>
      obtain ⟨j, hjg, rfl, hbx, hownx⟩ := hrel
      obtain ⟨wx, rfl⟩ : ∃ u, u = wr := ⟨_, rfl⟩
      have hjle := joinL_le t (bothV t a b) j
      have hsx := hbx.out.size
      cases gk with
      | zero =>
        obtain rfl : j = (bothV t a b).length := by omega
        have Hfin := Lib.hid (HbL.out.trans (hbx.out.mono (by omega)))
        go_wp2
        try rw [Exit.noGoto_ret]
        go_ret
        exact ⟨_, rfl, Hfin.out, by rw [hval.out]; exact ownsRow_base hownx.out (by omega)⟩
      | succ g2 =>
        have hlt : j < (bothV t a b).length := by omega
        obtain ⟨b8, off8, rfl, _, _, c8, _⟩ := (Hbi.out.below hbx.out (Nat.le_refl _)).at_ hlt
        go_wp2
        go_loopg [37] (bothV t a b).length (fun gi i wy => ∃ m : Nat, m + gi = (bothV t a b).length ∧ i = .int .i64 m ∧ Hid (Below wx.heap.size wx wy) ∧ Hid (∀ q, ∀ (hq : q < (bothV t a b).length), q < m → ¬ ((bothV t a b)[q] ≠ (bothV t a b)[j] ∧ canB t (bothV t a b)[q] (bothV t a b)[j] = true)))
        case atStart => exact ⟨0, by omega, rfl, Below.refl _ _, fun q _ h => absurd h (by omega)⟩
        case round =>
          obtain ⟨m, hmg, rfl, hby, hnone⟩ := hrel
          obtain ⟨wy, rfl⟩ : ∃ u, u = wr := ⟨_, rfl⟩
          have Hbxy := Lib.hid (hbx.out.trans (hby.out.mono hsx))
          have Hby0 := Lib.hid (HbL.out.trans (Hbxy.out.mono (by omega)))
          have hsy := hby.out.size
          have Howny := Lib.hid (ownsRow_below hownx.out hby.out (Nat.le_refl _))
          cases gk with
          | zero =>
            obtain rfl : m = (bothV t a b).length := by omega
            have hlow := lowB_yes (t := t) (both := bothV t a b) (k := (bothV t a b)[j]) (fun q hq => hnone.out q hq hq)
            have hh := Lib.hid (joinL_hit hlt hlow)
            have hbl2 := Lib.hid (owns_lt Howny.out)
            clear hlow
            go_wp2_with (at_builtin; refine wpList_push rfl (.tmp 51) (.tmp 53) 23 rfl i0 (.int .i64 0) 8 Try.underlying23 hi0 hz0 hz1 hz2 rfl rfl (Howny.out.alloc _) ⟨wy.heap.size, 0, none⟩ 1 (.int .i64 (bothV t a b)[j]) rfl (by simp [go_sem]) rfl (by unfold maxLen; omega) (by omega) (by simp; omega) ?_)
            intro v' w3 hp
            have hb3 := Lib.hid ((Hbxy.out.alloc (by omega) (.cells #[.int .i64 (bothV t a b)[j]] 3)).grown hp.grown (by simp; omega) (fun k hk => (hbl2.out k hk).1))
            have Hown3 := Lib.hid hp.own
            clear hp
            go_wp2
            go_roundg g2
            case measure => omega
            case rel => exact ⟨j + 1, by omega, by go_num, hb3, ownsRow_cast Hown3.out (by rw [hh.out]; simp) (by rw [hh.out]; simp)⟩
          | succ g3 =>
            have hmt : m < (bothV t a b).length := by omega
            obtain ⟨b9, off9, e9, _, _, c9, _⟩ := (Hbi.out.below Hbxy.out (Nat.le_refl _)).at_ hmt
            injection e9 with e9
            injection e9 with e91 e92
            subst e91
            subst e92
            by_cases hne : (bothV t a b)[m] = (bothV t a b)[j]
            · have htest : ((bothV t a b)[m] != (bothV t a b)[j]) = false := by simpa using hne
              have hnone2 : Hid (∀ q, ∀ (hq : q < (bothV t a b).length), q < m + 1 → ¬ ((bothV t a b)[q] ≠ (bothV t a b)[j] ∧ canB t (bothV t a b)[q] (bothV t a b)[j] = true)) := fun q hq h => by
                by_cases e : q = m
                · subst e; exact fun h2 => h2.1 hne
                · exact hnone.out q hq (by omega)
              clear hne
              go_wp2
              go_roundg g3
              case measure => omega
              case rel => exact ⟨m + 1, by omega, by go_num, hby, hnone2⟩
            · have htest : ((bothV t a b)[m] != (bothV t a b)[j]) = true := by simpa using hne
              go_wp2_with fail
              refine (leads_any lo hi g _ _ t (bothV t a b)[m] (bothV t a b)[j] _ (Hv.out.below Hby0.out hB) (by omega) (HrowL.out.below Hbxy.out (by omega)) (both_types Htb.out hmt hlt)).mono ?_
              rintro e w4 ⟨rfl, hb4⟩
              have Hb4 := Lib.hid hb4
              clear hb4
              by_cases hc : canB t (bothV t a b)[m] (bothV t a b)[j] = true
              · have hh := Lib.hid (joinL_miss hlt (lowB_no hmt hne hc))
                have hb5 := Lib.hid (Hbxy.out.trans (Hb4.out.mono (by omega)))
                have Hown5 := Lib.hid (ownsRow_below Howny.out Hb4.out (Nat.le_refl _))
                rw [hc]
                clear hc hne
                go_wp2
                go_roundg g2
                case measure => omega
                case rel => exact ⟨j + 1, by omega, by go_num, hb5, ownsRow_cast Hown5.out (by rw [hh.out]) (by rw [hh.out])⟩
              · have hcf : canB t (bothV t a b)[m] (bothV t a b)[j] = false := by simpa using hc
                have hnone2 : Hid (∀ q, ∀ (hq : q < (bothV t a b).length), q < m + 1 → ¬ ((bothV t a b)[q] ≠ (bothV t a b)[j] ∧ canB t (bothV t a b)[q] (bothV t a b)[j] = true)) := fun q hq h => by
                  by_cases e : q = m
                  · subst e; exact fun h2 => hc h2.2
                  · exact hnone.out q hq (by omega)
                have hby4 := Lib.hid (hby.out.trans (Hb4.out.mono hsy))
                rw [hcf]
                clear hc hcf hne
                go_wp2
                go_roundg g3
                case measure => omega
                case rel => exact ⟨m + 1, by omega, by go_num, hby4, hnone2⟩
  · have hokf : typesB t a b = false := by simpa using hok
    have hno := Lib.hid (joinsV_no hokf)
    rw [hokf]
    clear hok hf1
    go_wp2
    try rw [Exit.noGoto_ret]
    go_ret
    refine ⟨_, rfl, H1.out, ?_⟩
    rw [hno.out]
    exact World.ownsRow_nil _ _ _ _
end Go.Proofs.Ytplpnammboofiaa

