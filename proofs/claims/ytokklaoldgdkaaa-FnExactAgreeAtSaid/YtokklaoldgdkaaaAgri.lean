/-
  The contract of the program's AgreeAt.
-/
import Derived.Test.YtokklaoldgdkaaaWmk
import Derived.Test.YtokklaoldgdkaaaAccd
import Derived.Test.YtokklaoldgdkaaaTwo
import Derived.Maps.RangeWalk
namespace Go.Proofs.Ytokklaoldgdkaaa
open Go.RowKit Go.Maps

/-- What has been collected while the map of images is ranged over. -/
structure Coll (im : List (List Int)) (v : Nat) (D0 : DataW Unit) (left : Lit → Bool) (acc : List Int) : Prop where
  sub : ∀ kl, left kl = true → Maps.has D0 kl = true
  from_ : ∀ x ∈ acc, ∃ y ∈ im, x = y.getD v 0
  done : ∀ y ∈ im, left (kI y) = false → y.getD v 0 ∈ acc

theorem Coll.start {im : List (List Int)} {v : Nat} {D0 : DataW Unit} (hC : Cnt im D0) : Coll im v D0 (Maps.has D0) [] :=
  ⟨fun _ h => h, fun x h => absurd h (by simp), fun y hy h => by rw [(hC.has y (hC.four y hy)).2 hy] at h; cases h⟩
theorem Coll.step {im : List (List Int)} {v : Nat} {D0 : DataW Unit} {left : Lit → Bool} {acc : List Int} (hC : Cnt im D0) (h : Coll im v D0 left acc) {y : List Int} (hy : y ∈ im) : Coll im v D0 (fun z => left z && !z.sameKey (kI y)) (acc ++ [y.getD v 0]) := by
  refine ⟨fun kl hk => h.sub kl (by simp only [Bool.and_eq_true] at hk; exact hk.1), fun x hx => ?_, fun z hz hl => ?_⟩
  · rcases List.mem_append.1 hx with hx | hx
    · exact h.from_ x hx
    · simp only [List.mem_singleton] at hx; exact ⟨y, hy, hx⟩
  · rw [List.mem_append]
    simp only [Bool.and_eq_false_iff, Bool.not_eq_false'] at hl
    rcases hl with hl | hl
    · exact .inl (h.done z hz hl)
    · right
      rw [kI_inj (hC.four z hz) (hC.four y hy) (WideAt.sameKey_eq hl)]
      simp
theorem Coll.over {im : List (List Int)} {v : Nat} {D0 : DataW Unit} {left : Lit → Bool} {acc : List Int} (h : Coll im v D0 left acc) (hl : ∀ kl, left kl = false) : Maps.size (accD acc) ≤ 1 ↔ ∀ x ∈ im, ∀ y ∈ im, x.getD v 0 = y.getD v 0 := by
  rw [acc_size]
  constructor
  · intro ha x hx y hy
    exact ha _ (h.done x hx (hl _)) _ (h.done y hy (hl _))
  · intro ha x hx y hy
    obtain ⟨x', hx', rfl⟩ := h.from_ x hx
    obtain ⟨y', hy', rfl⟩ := h.from_ y hy
    exact ha _ hx' _ hy'

theorem aggI_inj {x y : List Int} (h : aggI x = aggI y) : x = y := by
  have h2 : x.map (Value.int .i64) = y.map (Value.int .i64) := by simpa [aggI] using h
  exact (List.map_inj_right (fun a b e => by simpa using e)).1 h2
theorem imgs_four {t : Ty} {a b : Int} (hok : typesB t a b = true) : ∀ x ∈ (waysOf t a b).map (imgV t a), Four x := fun x hx => by
  obtain ⟨z, hz, rfl⟩ := List.mem_map.1 hx
  obtain ⟨hty, ha0, ha1, _⟩ := typesB_of hok
  refine ⟨rfl, fun y hy => ?_⟩
  simp only [imgV, List.mem_cons, List.not_mem_nil, or_false] at hy
  rcases hy with rfl | rfl | rfl | rfl <;> exact imgAt_wf hty ha0 ha1 (by rw [waysOf_end hz]; rfl)

theorem imgV_get (t : Ty) (a : Int) (z : List Int) {n : Nat} (h : n < 4) : (imgV t a z).getD n 0 = imgAt t a z n := by
  rcases (by omega : n = 0 ∨ n = 1 ∨ n = 2 ∨ n = 3) with rfl | rfl | rfl | rfl <;> rfl
theorem imgV_at {t : Ty} {a v : Int} (z : List Int) (h0 : 0 ≤ v) (h4 : v < 4) (h : v < t.sizes.getD a.toNat 0) : (imgV t a z).getD v.toNat 0 = goV t.cos v z := by
  rw [imgV_get t a z (by omega), imgAt_in (by omega), show ((v.toNat : Nat) : Int) = v by omega]
theorem same_iff {t : Ty} {a b v : Int} (h0 : 0 ≤ v) (h4 : v < 4) (h : v < t.sizes.getD a.toNat 0) : sameB t a b v = true ↔ ∀ x ∈ (waysOf t a b).map (imgV t a), ∀ y ∈ (waysOf t a b).map (imgV t a), x.getD v.toNat 0 = y.getD v.toNat 0 := by
  unfold sameB
  rw [List.all_eq_true]
  constructor
  · intro hs x hx y hy
    obtain ⟨x', hx', rfl⟩ := List.mem_map.1 hx
    obtain ⟨y', hy', rfl⟩ := List.mem_map.1 hy
    rw [imgV_at x' h0 h4 h, imgV_at y' h0 h4 h, eq_of_beq (hs x' hx'), eq_of_beq (hs y' hy')]
  · intro hs z hz
    have hh : (waysOf t a b).headD [] ∈ waysOf t a b := by
      cases e : waysOf t a b with
      | nil => rw [e] at hz; cases hz
      | cons p q => simp
    have := hs _ (List.mem_map.2 ⟨z, hz, rfl⟩) _ (List.mem_map.2 ⟨_, hh, rfl⟩)
    rw [imgV_at z h0 h4 h, imgV_at _ h0 h4 h] at this
    rw [this]
    exact beq_self_eq_true _

set_option maxRecDepth 100000 in
set_option maxHeartbeats 4000000 in
theorem implAgree_any (lo hi : Nat) (sv cv : Value) (t : Ty) (a b v : Int) (w : World) (hv : TyAt w lo hi sv cv t) (hB : hi ≤ w.heap.size) (ha : I64 a) (hb : I64 b) :
    Calls Try.prog 32 #[.agg #[sv, cv], .int .i64 a, .int .i64 b, .int .i64 v] w fun e w' => e = .returned (.bool (agreeV t a b v)) ∧ Below w.heap.size w w' := by
  obtain ⟨A, cap, rfl, hl1, hm1, hi1⟩ := hv.1.form
  obtain ⟨B, bap, rfl, hl2, hm2, _⟩ := hv.2.form
  have Hv := Lib.hid hv
  have Hi1 := Lib.hid hi1
  clear hv hi1
  have h4 : Below w.heap.size w ((w.alloc (.cells #[.slice A t.sizes.length cap, .slice B t.cos.length bap] 30)).alloc (.cells #[.int .i64 a, .int .i64 b] 3)) := by go_grown
  have hone := ints_two (w.alloc (.cells #[.slice A t.sizes.length cap, .slice B t.cos.length bap] 30)) a b ha hb 3
  rw [World.size_alloc] at hone
  have H4 := Lib.hid h4
  have Hone := Lib.hid hone
  have hmm := @run_makeMap Try.prog
  clear h4 hone
  go_enter Try.func32, Try.ntmps32
  go_wp2_with fail
  refine (finderOf_any lo hi _ _ _ _ _ t [a, b] _ (Hv.out.below H4.out hB) (by simp; omega) Hone.out (by simp only [World.size_alloc]; omega)).mono ?_
  rintro e w1 ⟨p, rfl, hb1, hf1⟩
  rw [findOk_two] at hf1 ⊢
  have H1 := Lib.hid (H4.out.trans (hb1.mono (by simp; omega)))
  have hs1 : w.heap.size ≤ w1.heap.size := H1.out.size
  clear hb1
  by_cases hok : typesB t a b = true
  · obtain ⟨g, rfl, hg, hrow⟩ := hf1 hok
    obtain ⟨hty, ha0, ha1, hb0, hb1⟩ := typesB_of hok
    have hkn : a.toNat < t.sizes.length := by omega
    have hgd : t.sizes.getD a.toNat 0 = t.sizes[a.toNat] := by rw [List.getD_eq_getElem?_getD, List.getElem?_eq_getElem hkn]; rfl
    obtain ⟨bs, offs, rfl, _, _, s0, _⟩ := (Hi1.out.below H1.out hB).at_ hkn
    have g0 : w1.cell? ⟨g, 0, none⟩ = some (.slice (some ⟨bs, offs, none⟩) t.sizes.length cap) := hrow.cell 0
    have Hrow := Lib.hid hrow
    have Hok := Lib.hid hok
    rw [hok]
    clear hok hf1 hrow
    by_cases hh : hasV0 t.sizes a v = true
    · obtain ⟨_, _, hv0, hv1⟩ := valOf_hasV0.1 hh
      have hix : ixB v t.sizes[a.toNat] = true := by rw [← hgd]; exact ixB_yes hv0 hv1
      have h4s := sizes_four hty ha0 ha1
      have hfin : Hid (agreeV t a b v = sameB t a b v) := by show _ = _; unfold agreeV; rw [Hok.out, hh]; rfl
      clear hh hgd
      go_wp2_with (first
        | (go_at_call 84; refine (isIndex_any _ _ _).mono ?_; rintro e w' ⟨rfl, rfl⟩; rw [hix])
        | (go_at_call 75
           have hb1m : Below w1.heap.size w1 (w1.alloc (.map #[] 0)) := (Below.refl _ _).alloc (Nat.le_refl _) _
           refine (waysMaking_any lo hi g _ _ t a b _ (Hv.out.below (H1.out.trans (hb1m.mono hs1)) hB) (by simp only [World.size_alloc]; omega) (Hrow.out.below hb1m Hrow.out.lt) Hok.out).mono ?_
           rintro e w2 ⟨gm, D0, rfl, hb2, hgm, hown, hcnt⟩)
        | (at_range; refine wpList_range_own _ rfl _ 86 rfl 89 3 keyedKey Try.underlying86 _ gm _ D0 rfl hown ?_; intro w3 hrg0 hg0 hsz0)
        | go_in)
      go_frame
      have hsz2 := hb2.size
      simp only [World.size_alloc] at hsz2 hgm
      have hbw3 : Below w1.heap.size w1 w3 := (hb1m.trans (hb2.mono (by simp))).trans (⟨hg0.os, hg0.tape, hg0.output, hg0.size, fun q hq => hg0.block q (by omega) (by simp)⟩ : Below w1.heap.size w2 w3)
      have hmade : w3.ownsMap Try.prog 3 (plainElem Try.prog 4) w1.heap.size 0 (accD []) :=
        ((World.ownsMap_made (H := Unit) w1 Try.prog 3 (plainElem Try.prog 4)).kept (row := none) ⟨hb2.os, hb2.tape, hb2.output, hb2.size, fun q hq _ => hb2.block q hq⟩ (by simp)).kept hg0 (by simp)
      have hsl := hown.size_le
      have hwl := waysOf_len (typesB_of Hok.out).1 a b
      have hc0 := Lib.hid (Coll.start (v := v.toNat) hcnt)
      have Hcnt := Lib.hid hcnt
      have Hbw3 := Lib.hid hbw3
      have hvl : v < 4 := by omega
      clear hcnt hbw3 hown hb2 hb1m s0 g0
      go_loopw [12] (fun _ wr => ∃ left cnt acc, wr.ranges Try.prog 89 (plainElem Try.prog 3) gm w2.heap.size (waysOf t a b).length D0 left cnt ∧ acc.length + cnt ≤ 40000 ∧ wr.ownsMap Try.prog 3 (plainElem Try.prog 4) w1.heap.size acc.length (accD acc) ∧ Hid (Below w1.heap.size w1 wr) ∧ Hid (Coll ((waysOf t a b).map (imgV t a)) v.toNat D0 left acc)) (fun _ wr => wr.rangeLeft gm w2.heap.size)
      case atStart => exact ⟨_, _, [], hrg0, by simp; omega, hmade, Hbw3, hc0⟩
      case round =>
        obtain ⟨left, cnt, acc, hrg, hlen, hout, hbel, hcoll⟩ := hrel
        go_wp2_with (first
          | (at_next; refine wpList_next_ranges _ rfl _ rfl 89 keyedKey (plainElem Try.prog 3) aggI (Value.int .i64) (fun key kl hk => (key_inv hk).imp fun _ h => h.1) (fun v' y hy => (plainElem_int_inv Try.underlying3 hy).imp fun _ h => h.1) gm w2.heap.size _ D0 left cnt rfl hrg ?_ ?_)
          | go_in)
        · intro hc0' hl0
          have hsz := Lib.hid (hcoll.out.over hl0)
          go_wp2_with (first
            | (at_len; refine wpList_len_own _ rfl _ 97 rfl 3 4 Try.underlying97 _ w1.heap.size acc.length (accD acc) rfl hout ?_)
            | go_in)
          go_ret
          refine ⟨ret_bool ?_, H1.out.trans (hbel.out.mono hs1)⟩
          rw [hfin.out, Bool.eq_iff_iff, decide_eq_true_eq, same_iff hv0 hvl hv1]
          rw [← hsz.out]
          omega
        · intro x c kl y1 y2 w4 cnt1 hkx hlk hRv hat hrg1 hlt hg1 hs1 hen
          obtain ⟨y', hy', hkl⟩ := Hcnt.out.only kl (hcoll.out.sub kl hlk)
          have hf' := Hcnt.out.four y' hy'
          have hxy : x = y' := aggI_inj (keyedKey.inj hkx (hkl ▸ key_of hf'))
          subst hxy
          subst hkl
          have hcoll2 := Lib.hid (hcoll.out.step Hcnt.out hy')
          obtain ⟨p, q, r, s, rfl, wp, wq, wr', ws⟩ := four_cases hf'
          simp only [aggI, List.map_cons, List.map_nil] at hen ⊢
          have hout1 := hout.kept hg1 (by simp only [ne_eq, Option.some.injEq]; omega)
          have hn4 : v.toNat < 4 := by omega
          have hel : ∀ (n : Nat) (hn : n < 4), ([Value.int .i64 p, .int .i64 q, .int .i64 r, .int .i64 s][n]'(by simpa using hn)) = .int .i64 ([p, q, r, s].getD n 0) := fun n hn => by
            rcases (by omega : n = 0 ∨ n = 1 ∨ n = 2 ∨ n = 3) with rfl | rfl | rfl | rfl <;> rfl
          have hwf : I64 ([p, q, r, s].getD v.toNat 0) := by
            rcases (by omega : v.toNat = 0 ∨ v.toNat = 1 ∨ v.toNat = 2 ∨ v.toNat = 3) with h | h | h | h <;> rw [h] <;> assumption
          have hke : keyOf Try.prog 3 ([Value.int .i64 p, .int .i64 q, .int .i64 r, .int .i64 s][v.toNat]'(by simpa using hn4)) = some (.int .i64 ([p, q, r, s].getD v.toNat 0)) := by rw [hel v.toNat hn4]; exact keyOf_int_mk Try.underlying3 (wf_of hwf)
          have hout1a := hout1.alloc (.cells #[.int .i64 p, .int .i64 q, .int .i64 r, .int .i64 s] 89)
          have hrg1a := hrg1.alloc (.cells #[.int .i64 p, .int .i64 q, .int .i64 r, .int .i64 s] 89)
          have hsw := hbel.out.size
          have hb4 := hbel.out.grown hg1 (by omega) (fun j e => by simp only [Option.some.injEq] at e; omega)
          have Hb4 := Lib.hid (hb4.alloc (by have := hb4.size; omega) (.cells #[.int .i64 p, .int .i64 q, .int .i64 r, .int .i64 s] 89))
          have hs4 := hb4.size
          clear hel hwf hb4
          go_wp2_with (first
            | (at_mapUpdate; refine wpList_mapUpdate_own _ rfl _ _ _ 97 rfl 3 4 keyedInt Try.underlying97 _ w1.heap.size acc.length (accD acc) rfl hout1a (by unfold maxLen; omega) _ _ _ rfl rfl hke _ [] (plainElem_bool Try.underlying4 true) ?_; intro w5 hout5 hg5; go_frame)
            | go_in)
          have hrg5 := hrg1a.kept hg5 (by simp only [ne_eq, Option.some.injEq]; omega) (by simp only [ne_eq, Option.some.injEq]; omega)
          have hacc : (accD acc).put (.int .i64 ([p, q, r, s].getD v.toNat 0)) (.lit (.bool true)) = accD (acc ++ [[p, q, r, s].getD v.toNat 0]) := by
            unfold accD
            rw [List.map_append, List.map_cons, List.map_nil, setOf_snoc]
          rw [hacc] at hout5
          have Hb5 := Lib.hid (Hb4.out.grown hg5 (by simp only [World.size_alloc]; omega) (fun j e => by simp only [Option.some.injEq] at e; omega))
          go_roundw
          case rel => exact ⟨_, cnt1, acc ++ [[p, q, r, s].getD v.toNat 0], hrg5, by simp; omega, by simpa using hout5, Hb5, hcoll2⟩
          case measure => rw [hrg5.left_eq, hrg.left_eq]; exact hlt
    · have hix : ixB v t.sizes[a.toNat] = false := by
        rw [← hgd]
        refine ixB_no fun hx => hh (valOf_hasV0.2 ⟨ha0, ha1, hx.1, hx.2⟩)
      have hfin : Hid (agreeV t a b v = false) := by show _ = _; unfold agreeV; rw [(by simpa using hh : hasV0 t.sizes a v = false)]; simp
      clear hh hgd
      go_wp2_with (go_at_call 84; refine (isIndex_any _ _ _).mono ?_; rintro e w' ⟨rfl, rfl⟩; rw [hix])
      go_ret
      exact ⟨ret_bool hfin.out.symm, H1.out⟩
  · have hokf : typesB t a b = false := by simpa using hok
    have hfin : Hid (agreeV t a b v = false) := by show _ = _; unfold agreeV; rw [hokf, Bool.false_and]
    rw [hokf]
    clear hok hf1
    go_wp2
    go_ret
    exact ⟨ret_bool hfin.out.symm, H1.out⟩
end Go.Proofs.Ytokklaoldgdkaaa
