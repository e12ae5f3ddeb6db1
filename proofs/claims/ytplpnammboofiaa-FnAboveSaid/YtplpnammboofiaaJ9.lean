/-
  The contracts of WayMap, the program's and the model's.
  The contracts of the model's l2Ways, l2Can and CanCoerce.
  How many ways there are: as many as from the types to which one coercion leads, and one more to the type itself.
  A finder for two types.
  The contract of the program's goOn: it yields all ways from a type, in order, to whatever client keeps what it must.
-/
import Derived.Test.YtplpnammboofiaaJ8
import Derived.Test.YtplpnammboofiaaJ7
import Derived.Test.YtplpnammboofiaaJ2
import Derived.RangeFuncSeq
import Derived.RangeFuncIn
import Derived.RangeFuncCalls
import Derived.Shelf.Abstract
import Derived.OwnWalkIn
import Derived.TacticsInMore
import Derived.Deep.RegionLaw
namespace Go.Proofs.Ytplpnammboofiaa
open Go.RowKit

/-- What a row of coercions makes of the first n values. -/
def mapL (cs : List Co) (zs : List Int) (n : Nat) : List Int := (List.range n).map fun v : Nat => goV cs (v : Int) zs
theorem mapL_zero (cs : List Co) (zs : List Int) : mapL cs zs 0 = [] := rfl
theorem mapL_succ (cs : List Co) (zs : List Int) (n : Nat) : mapL cs zs (n + 1) = mapL cs zs n ++ [goV cs (n : Int) zs] := by
  unfold mapL
  rw [List.range_succ, List.map_append]
  rfl
theorem mapL_len (cs : List Co) (zs : List Int) (n : Nat) : (mapL cs zs n).length = n := by simp [mapL]
/-- Is there such a way in valid types? -/
def wayB (t : Ty) (k : Int) (zs : List Int) : Bool := tyOk t && ixB k t.sizes.length && (wayEnd t.cos k zs).isSome
def wayMapV (t : Ty) (k : Int) (zs : List Int) : List Int := if wayB t k zs = true then mapL t.cos zs (t.sizes.getD k.toNat 0).toNat else []
theorem wayB_of {t : Ty} {k : Int} {zs : List Int} (h : wayB t k zs = true) : tyOk t = true ∧ ixB k t.sizes.length = true ∧ (wayEnd t.cos k zs).isSome = true := by
  unfold wayB at h
  simp only [Bool.and_eq_true] at h
  exact ⟨h.1.1, h.1.2, h.2⟩
theorem wayMapV_yes {t : Ty} {k : Int} {zs : List Int} (h : wayB t k zs = true) : wayMapV t k zs = mapL t.cos zs (t.sizes.getD k.toNat 0).toNat := by unfold wayMapV; rw [if_pos h]
theorem wayMapV_no {t : Ty} {k : Int} {zs : List Int} (h : wayB t k zs = false) : wayMapV t k zs = [] := by unfold wayMapV; rw [if_neg (by simp [h])]
/-- How many values a type of valid types has. -/
theorem size_of {t : Ty} {k : Int} (hty : tyOk t = true) (hk : ixB k t.sizes.length = true) : 0 ≤ k ∧ k < t.sizes.length ∧ ∃ (hn : k.toNat < t.sizes.length) (n : Nat), t.sizes[k.toNat] = (n : Int) ∧ n ≤ 4 ∧ t.sizes.getD k.toNat 0 = (n : Int) := by
  simp only [ixB, decide_eq_true_eq] at hk
  have hn : k.toNat < t.sizes.length := by omega
  have h := (sizesOk_of (tyOk_sizes hty)).2.2 _ hn
  refine ⟨hk.1, hk.2, hn, t.sizes[k.toNat].toNat, by omega, by omega, ?_⟩
  rw [List.getD_eq_getElem?_getD, List.getElem?_eq_getElem hn]
  simp only [Option.getD_some]
  omega
theorem goV_val {t : Ty} (h : tyOk t = true) : ∀ (zs : List Int) (k v : Int), ValOf t.sizes k v → (wayEnd t.cos k zs).isSome = true → ∃ q, ValOf t.sizes q (goV t.cos v zs) := by
  intro zs
  induction zs with
  | nil => intro k v hv _; exact ⟨k, hv⟩
  | cons i is ih =>
    intro k v hv hw
    obtain ⟨h0, h1, hi, hs, hw2⟩ := wayEnd_some (zs := i :: is) (j := 0) (by simp) hw
    simp only [List.getElem_cons_zero, List.drop_succ_cons, List.drop_zero] at h0 h1 hi hs hw2
    have := valOf_step h hi (by rw [hs]; exact hv)
    obtain ⟨_, _, _, _, _, hv2⟩ := this
    rw [goV, getD_at hi]
    exact ih _ _ hv2 hw2
theorem valOf_I64 {t : Ty} (h : tyOk t = true) {q v : Int} (hv : ValOf t.sizes q v) : I64 v := by
  obtain ⟨h1, h2, h3, h4⟩ := hv
  have hn : q.toNat < t.sizes.length := by omega
  have := (sizesOk_of (tyOk_sizes h)).2.2 _ hn
  rw [List.getD_eq_getElem?_getD, List.getElem?_eq_getElem hn] at h4
  simp only [Option.getD_some] at h4
  unfold I64
  omega
theorem wayMapV_wf (t : Ty) (k : Int) (zs : List Int) : ∀ z ∈ wayMapV t k zs, I64 z := by
  intro z hz
  by_cases h : wayB t k zs = true
  · rw [wayMapV_yes h] at hz
    obtain ⟨h1, h2, h3⟩ := wayB_of h
    obtain ⟨g1, g2, hn, n, e, _, e2⟩ := size_of h1 h2
    unfold mapL at hz
    obtain ⟨v, hv, rfl⟩ := List.mem_map.1 hz
    have hv := List.mem_range.1 hv
    rw [e2] at hv
    obtain ⟨q, hq⟩ := goV_val h1 zs k v ⟨g1, g2, by omega, by rw [e2]; omega⟩ h3
    exact valOf_I64 h1 hq
  · rw [wayMapV_no (by simpa using h)] at hz
    exact absurd hz (by simp)
theorem wayMapV_le (t : Ty) (k : Int) (zs : List Int) : (wayMapV t k zs).length ≤ 4 := by
  by_cases h : wayB t k zs = true
  · obtain ⟨h1, h2, h3⟩ := wayB_of h
    obtain ⟨g1, g2, hn, n, e, hn4, e2⟩ := size_of h1 h2
    rw [wayMapV_yes h, mapL_len, e2]
    omega
  · rw [wayMapV_no (by simpa using h)]; simp

/-- Are the types valid, and are a and b types of theirs? -/
def typesB (t : Ty) (a b : Int) : Bool := tyOk t && ixB a t.sizes.length && ixB b t.sizes.length

set_option maxRecDepth 100000 in
set_option maxHeartbeats 1000000 in
theorem l2Types_any (lo hi : Nat) (sv cv : Value) (t : Ty) (a b : Int) (w : World) (hv : TyAt w lo hi sv cv t) (hB : hi ≤ w.heap.size) :
    Calls Try.prog 56 #[.agg #[sv, cv], .int .i64 a, .int .i64 b] w fun e w' => e = .returned (.bool (typesB t a b)) ∧ Below w.heap.size w w' := by
  obtain ⟨A, cap, rfl, hl1, hm1, _⟩ := hv.1.form
  obtain ⟨B, bap, rfl, hl2, hm2, _⟩ := hv.2.form
  have h3 : Below w.heap.size w (w.alloc (.cells #[.slice A t.sizes.length cap, .slice B t.cos.length bap] 26)) := by go_grown
  have hv3 := Lib.hid (hv.below h3 hB)
  clear hv
  unfold maxLen at hm1
  go_enter Try.func56, Try.ntmps56
  go_wp2_with fail
  refine (specValid_any lo hi _ _ t _ hv3.out (by simp; omega)).mono ?_
  rintro e w1 ⟨rfl, hb1⟩
  have H1 := Lib.hid (box2 (hb1.mono (by simp)))
  obtain ⟨q0, q1, hl, _⟩ := box2 (hb1.mono (by simp))
  clear hb1
  by_cases hok : tyOk t = true
  · have hfin : Hid (typesB t a b = (ixB a t.sizes.length && ixB b t.sizes.length)) := by show _ = _; unfold typesB; rw [hok, Bool.true_and]
    rw [hok]
    clear hok
    by_cases ha : ixB a t.sizes.length = true
    · have ha2 : inB a 0 ((t.sizes.length : Int) - 1) = true := by rw [inB_ix]; exact ha
      have hf2 : Hid (typesB t a b = inB b 0 ((t.sizes.length : Int) - 1)) := by show _ = _; rw [hfin.out, ha, Bool.true_and, inB_ix]
      clear ha
      go_wp2_with (go_at_call 74; refine (l1In_any _ _ _ _).mono ?_; rintro e w' ⟨rfl, rfl⟩; try rw [ha2])
      go_ret
      exact ⟨ret_bool hf2.out.symm, H1.out.2.2.2⟩
    · have ha2 : inB a 0 ((t.sizes.length : Int) - 1) = false := by rw [inB_ix]; simpa using ha
      have hf2 : Hid (typesB t a b = false) := by show _ = _; rw [hfin.out, (by simpa using ha : ixB a t.sizes.length = false), Bool.false_and]
      clear ha
      go_wp2_with (go_at_call 74; refine (l1In_any _ _ _ _).mono ?_; rintro e w' ⟨rfl, rfl⟩; try rw [ha2])
      go_ret
      exact ⟨ret_bool hf2.out.symm, H1.out.2.2.2⟩
  · have hokf : tyOk t = false := by simpa using hok
    have hfin : Hid (typesB t a b = false) := by show _ = _; unfold typesB; rw [hokf, Bool.false_and, Bool.false_and]
    rw [hokf]
    clear hok
    go_wp2
    go_ret
    exact ⟨ret_bool hfin.out.symm, H1.out.2.2.2⟩

set_option maxRecDepth 100000 in
set_option maxHeartbeats 2000000 in
theorem l2Map_any (lo hi lo2 hi2 : Nat) (sv cv rv : Value) (t : Ty) (k : Int) (zs : List Int) (w : World) (hv : TyAt w lo hi sv cv t) (hB : hi ≤ w.heap.size) (hr : IntsAt w lo2 hi2 rv zs) (hB2 : hi2 ≤ w.heap.size) (hwb : wayB t k zs = true) :
    Calls Try.prog 64 #[.agg #[sv, cv], .int .i64 k, rv] w fun e w' => ∃ v, e = .returned v ∧ Below w.heap.size w w' ∧ w'.ownsRow w.heap.size 3 1 v (wayMapV t k zs).length ((wayMapV t k zs).map (Value.int .i64)) := by
  obtain ⟨A, cap, rfl, hl1, hm1, hi1⟩ := hv.1.form
  obtain ⟨B, bap, rfl, hl2, hm2, hc1⟩ := hv.2.form
  obtain ⟨i0, hi0, hz0, hz1, hz2⟩ := info_parts Try.infoInt
  obtain ⟨hty, hkx, hwy⟩ := wayB_of hwb
  obtain ⟨hk0, hk1, hkn, n, hsn, hn4, hgn⟩ := size_of hty hkx
  have hval := wayMapV_yes hwb
  rw [hgn, Int.toNat_natCast] at hval
  have Hval := Lib.hid hval
  have Hv := Lib.hid hv
  have Hr := Lib.hid hr
  have Hty := Lib.hid hty
  have Hwy := Lib.hid hwy
  have h3 : Below (w.heap.size + 1) (w.alloc (.cells #[.slice A t.sizes.length cap, .slice B t.cos.length bap] 26)) (w.alloc (.cells #[.slice A t.sizes.length cap, .slice B t.cos.length bap] 26)) := Below.refl _ _
  have H3 := Lib.hid h3
  have h4 : Below w.heap.size w ((w.alloc (.cells #[.slice A t.sizes.length cap, .slice B t.cos.length bap] 26)).alloc (.cells #[] 3)) := by go_grown
  obtain ⟨b, off, rfl, _, _, s0, _⟩ := (hi1.below h4 hB).at_ hkn
  rw [hsn] at s0
  have hgv : ∀ j : Nat, j < n → ValOf t.sizes k j := fun j hj => ⟨hk0, hk1, by omega, by rw [hgn]; omega⟩
  have Hgv := Lib.hid hgv
  clear hv hr hi1 hc1 hty hwy h3 h4 hval hwb hkx hsn hgn hgv
  go_enter Try.func64, Try.ntmps64
  go_wp2
  go_loopw [7, 15] (fun l i wr => ∃ j : Nat, j ≤ n ∧ i = .int .i64 j ∧ Hid (Below (w.heap.size + 1) (w.alloc (.cells #[.slice (some ⟨b, off, none⟩) t.sizes.length cap, .slice B t.cos.length bap] 26)) wr) ∧ Hid (wr.ownsRow (w.heap.size + 1) 3 1 l (mapL t.cos zs j).length ((mapL t.cos zs j).map (Value.int .i64)))) (fun _ i _ => n - (intOf i).toNat)
  case atStart =>
    refine ⟨0, Nat.zero_le _, rfl, H3.out.alloc (by simp) _, ?_⟩
    show World.ownsRow _ _ _ _ _ _ _
    rw [mapL_zero]
    have := World.ownsRow_lit (base := w.heap.size + 1) (e := 3) (size := 1) (w.alloc (.cells #[.slice (some ⟨b, off, none⟩) t.sizes.length cap, .slice B t.cos.length bap] 26)) #[] 0 (by simp) (by unfold maxLen; omega) rfl
    simpa using this
  case round =>
    obtain ⟨j, hj, rfl, hb, hown⟩ := hrel
    obtain ⟨q0, q1, hlr, hb0⟩ := box2 hb.out
    by_cases hlt : j < n
    · have Hb0 := Lib.hid hb0
      have hml := mapL_len t.cos zs j
      clear hb0
      go_wp2_with fail
      refine (l2Go_any lo hi lo2 hi2 _ _ _ t k j zs _ (Hv.out.below Hb0.out hB) (by omega) (Hr.out.below Hb0.out hB2) (by omega) Hty.out (Hgv.out j hlt) Hwy.out).mono ?_
      rintro e w1 ⟨rfl, hb1⟩
      have hbx := hb.out.trans (hb1.mono (by omega))
      have hown1 := ownsRow_below hown.out hb1 (Nat.le_refl _)
      have Hown1 := Lib.hid hown1
      have Hbx := Lib.hid hbx
      have hsz1 : w.heap.size + 1 ≤ w1.heap.size := by have := hb1.size; omega
      clear hown1 hbx hb1
      go_wp2_with (at_builtin; refine wpList_append_own _ rfl (.tmp 18) (.tmp 23) 23 rfl (w.heap.size + 1) 3 i0 (.int .i64 0) 1 8 Try.underlying23 hi0 hz0 hz1 hz2 rfl (by decide) _ _ _ rfl (Hown1.out.alloc _) ⟨w1.heap.size, 0, none⟩ 1 1 [.int .i64 (goV t.cos j zs)] rfl rfl ?c1 ?c2 ?c3 ?c4 ?c5 ?_)
      case c1 =>
        intro i u hi
        match i, hi with
        | 0, hi => simp at hi; subst hi; simp [Addr.add]
      case c2 => intro u hu; simp at hu; subst hu; rfl
      case c3 => unfold maxLen; omega
      case c4 => omega
      case c5 => simp; omega
      intro v' w2 hown2 hgrow _
      have hb2 := (Hbx.out.alloc (by omega) _).grown hgrow (by simp; omega) (fun k hk => by
        obtain ⟨_, ⟨e, _⟩ | ⟨g, cap3, cur, e, hg, _⟩⟩ := hown.out
        · rw [e] at hk; simp [Value.ownBlock] at hk
        · rw [e] at hk; simp [Value.ownBlock] at hk; omega)
      have Hb2 := Lib.hid hb2
      have Hown2 := Lib.hid hown2
      clear hown2 hgrow hb2
      go_wp2
      go_roundw
      case rel => exact ⟨j + 1, by omega, by go_num, Hb2.out, ownsRow_cast Hown2.out (by rw [mapL_len]) (by rw [mapL_succ]; simp)⟩
      case measure => simp [intOf]; omega
    · obtain rfl : j = n := by omega
      have Hb0 := Lib.hid hb0
      clear hb0
      go_wp2
      go_ret
      exact ⟨_, rfl, Hb0.out, by rw [Hval.out]; exact ownsRow_base hown.out (by omega)⟩

end Go.Proofs.Ytplpnammboofiaa

namespace Go.Proofs.Ytplpnammboofiaa
open Go.RowKit

/-- A slice of slices in new memory that reads as lists of numbers. -/
def WaysAt (w : World) (base : Nat) (ov : Value) (zss : List (List Int)) : Prop :=
  ∃ (xs : List Value) (S : Nat → Prop), w.ownsRow base 23 1 ov zss.length xs ∧ (∀ i, ∀ (h : i < zss.length), ∃ x, xs[i]? = some x ∧ IntsIn w S x zss[i]) ∧ ∀ b, S b → base ≤ b ∧ b < w.heap.size ∧ some b ≠ ov.ownBlock
theorem typesB_of {t : Ty} {a b : Int} (h : typesB t a b = true) : tyOk t = true ∧ 0 ≤ a ∧ a < t.sizes.length ∧ 0 ≤ b ∧ b < t.sizes.length := by
  simp only [typesB, ixB, Bool.and_eq_true, decide_eq_true_eq] at h
  exact ⟨h.1.1, h.1.2.1, h.1.2.2, h.2.1, h.2.2⟩
theorem typesB_len {t : Ty} (h : tyOk t = true) : t.sizes.length ≤ 5 := (sizesOk_of (tyOk_sizes h)).2.1

set_option maxRecDepth 100000 in
set_option maxHeartbeats 1000000 in
theorem l2Ways_any (lo hi : Nat) (sv cv : Value) (t : Ty) (a b : Int) (w : World) (hv : TyAt w lo hi sv cv t) (hB : hi ≤ w.heap.size) (htb : typesB t a b = true) :
    Calls Try.prog 84 #[.agg #[sv, cv], .int .i64 a, .int .i64 b] w fun e w' => ∃ ov, e = .returned ov ∧ Below w.heap.size w w' ∧ WaysAt w' w.heap.size ov (waysOf t a b) := by
  obtain ⟨A, cap, rfl, hl1, hm1, _⟩ := hv.1.form
  obtain ⟨B, bap, rfl, hl2, hm2, _⟩ := hv.2.form
  obtain ⟨hok, ha0, ha1, hb0, hb1⟩ := typesB_of htb
  have h5 := typesB_len hok
  have hwl := waysOf_len hok a b
  have hbel : Below w.heap.size w (((w.alloc (.cells #[.slice A t.sizes.length cap, .slice B t.cos.length bap] 26)).alloc (.cells #[] 23)).alloc (.cells #[.slice A t.sizes.length cap, .slice B t.cos.length bap, .int .i64 b, .slice none 0 0, .slice (some ⟨w.heap.size + 1, 0, none⟩) 0 0] 119)) := by go_grown
  have Hbel := Lib.hid hbel
  have Hv := Lib.hid (hv.below hbel hB)
  have hfp : FP (.slice A t.sizes.length cap) (.slice B t.cos.length bap) b w.heap.size (w.heap.size + 2) [] [] (((w.alloc (.cells #[.slice A t.sizes.length cap, .slice B t.cos.length bap] 26)).alloc (.cells #[] 23)).alloc (.cells #[.slice A t.sizes.length cap, .slice B t.cos.length bap, .int .i64 b, .slice none 0 0, .slice (some ⟨w.heap.size + 1, 0, none⟩) 0 0] 119)) (.slice none 0 0) (.slice (some ⟨w.heap.size + 1, 0, none⟩) 0 0) [] (fun _ => False) := by
    refine ⟨?_, by omega, World.ownsRow_nil _ _ _ _, ?_, fun i hi => absurd hi (by simp), fun b hb => hb.elim⟩
    · have := Row.new ((w.alloc (.cells #[.slice A t.sizes.length cap, .slice B t.cos.length bap] 26)).alloc (.cells #[] 23)) 119 [.slice A t.sizes.length cap, .slice B t.cos.length bap, .int .i64 b, .slice none 0 0, .slice (some ⟨w.heap.size + 1, 0, none⟩) 0 0]
      rw [World.size_alloc, World.size_alloc] at this
      exact this
    · have := World.ownsRow_lit (base := w.heap.size) (e := 23) (size := 1) (w.alloc (.cells #[.slice A t.sizes.length cap, .slice B t.cos.length bap] 26)) #[] 0 (by simp) (by unfold maxLen; omega) rfl
      rw [World.size_alloc] at this
      exact ownsRow_keep1 this fun g hg => Below.heap_alloc _ _ g (by simp only [Value.ownBlock, Option.some.injEq] at hg; simp; omega)
  have Hfp := Lib.hid hfp
  clear hv hfp hbel htb
  go_enter Try.func84, Try.ntmps84
  go_wp2_with fail
  refine (from_any lo hi _ _ t b w.heap.size (w.heap.size + 2) hok hB 5 a [] [] _ Hv.out (by simp; omega) ha0 ha1 (by omega) (by simp) (by simp) (by have : (waysF t.cos 5 a b).length ≤ 32768 := hwl; simp; omega) ⟨_, _, _, _, Hfp.out⟩).mono ?_
  rintro e w1 ⟨rfl, hb1, hfs1⟩
  obtain ⟨wv, ov, xs, S, h1⟩ := hfs1
  have c4 : w1.cell? ⟨w.heap.size + 2, 4, none⟩ = some ov := h1.row.cell 4
  have Hb1 := Lib.hid (Hbel.out.trans hb1)
  have H1 := Lib.hid h1
  clear hb1 h1
  go_wp2
  go_ret
  have e : ([] : List (List Int)) ++ (waysF t.cos 5 a b).map (([] : List Int) ++ ·) = waysOf t a b := by
    simp only [List.nil_append]
    exact List.map_id' _
  have h2 := H1.out
  rw [e] at h2
  exact ⟨_, rfl, Hb1.out, xs, S, h2.fouts, h2.ints, fun b hb => ⟨(h2.set b hb).1, (h2.set b hb).2.1, (h2.set b hb).2.2.2.2⟩⟩

/-- Is there a way? -/
def canB (t : Ty) (a b : Int) : Bool := decide (0 < (waysOf t a b).length)
def canC (t : Ty) (a b : Int) : Bool := typesB t a b && canB t a b

end Go.Proofs.Ytplpnammboofiaa

namespace Go.Proofs.Ytplpnammboofiaa
open Go.RowKit

theorem tyOk_up {t : Ty} (h : tyOk t = true) {i : Nat} (hi : i < t.cos.length) : 0 ≤ t.cos[i].src ∧ t.cos[i].src < t.cos[i].dst ∧ t.cos[i].dst < t.sizes.length := by
  simp only [tyOk, Bool.and_eq_true, List.all_eq_true] at h
  have := coOk_of (h.2 _ (List.getElem_mem hi))
  exact ⟨this.1, this.2.1, this.2.2.1⟩
/-- No way leads to an earlier type. -/
theorem waysF_back {t : Ty} (h : tyOk t = true) : ∀ (n : Nat) (k goal : Int), goal < k → waysF t.cos n k goal = [] := by
  intro n
  induction n with
  | zero => intro k goal _; rfl
  | succ n ih =>
    intro k goal hk
    rw [waysF_ne (by omega)]
    unfold waysJ
    apply List.flatMap_eq_nil_iff.2
    intro i hi
    have hl := List.mem_range.1 hi
    have e : t.cos.getD i default = t.cos[i] := by rw [List.getD_eq_getElem?_getD, List.getElem?_eq_getElem hl]; rfl
    rw [e]
    by_cases hs : t.cos[i].src = k
    · rw [if_pos hs, ih _ _ (by have := (tyOk_up h hl).2.1; omega)]; rfl
    · rw [if_neg hs]
/-- More steps than types are left find no more ways. -/
theorem waysF_fuel {t : Ty} (h : tyOk t = true) : ∀ (n : Nat) (k goal : Int), (t.sizes.length : Int) ≤ k + n → waysF t.cos (n + 1) k goal = waysF t.cos n k goal ∨ (t.sizes.length : Int) ≤ k := by
  intro n
  induction n with
  | zero => intro k goal hk; right; omega
  | succ n ih =>
    intro k goal hk
    by_cases hk2 : (t.sizes.length : Int) ≤ k
    · exact .inr hk2
    refine .inl ?_
    by_cases hg : k = goal
    · subst hg; rw [waysF_eq, waysF_eq]
    · rw [waysF_ne hg, waysF_ne hg]
      unfold waysJ
      have key : ∀ i, i ∈ List.range t.cos.length → (if (t.cos.getD i default).src = k then (waysF t.cos (n + 1) (t.cos.getD i default).dst goal).map fun z => (i : Int) :: z else []) = (if (t.cos.getD i default).src = k then (waysF t.cos n (t.cos.getD i default).dst goal).map fun z => (i : Int) :: z else []) := by
        intro i hi
        have hl := List.mem_range.1 hi
        have e : t.cos.getD i default = t.cos[i] := by rw [List.getD_eq_getElem?_getD, List.getElem?_eq_getElem hl]; rfl
        rw [e]
        by_cases hs : t.cos[i].src = k
        · rw [if_pos hs, if_pos hs]
          have hu := tyOk_up h hl
          rcases ih t.cos[i].dst goal (by omega) with h1 | h1
          · rw [h1]
          · omega
        · rw [if_neg hs, if_neg hs]
      simp only [List.flatMap_def]
      rw [List.map_congr_left key]
theorem tyOk_five {t : Ty} (h : tyOk t = true) : t.sizes.length ≤ 5 := by
  simp only [tyOk, Bool.and_eq_true] at h
  exact (sizesOk_of h.1.1).2.1
/-- The ways from a type to another one, as many as from the types to which one coercion leads. -/
theorem ways_count {t : Ty} (h : tyOk t = true) {a b : Int} (ha : 0 ≤ a) (j : Nat) (hj : j ≤ t.cos.length) (_hab : ¬ a = b) :
    (waysJ t.cos 4 a b j).length = ((cfr t.cos a j).map fun i => (waysOf t (t.cos.getD i.toNat default).dst b).length).sum := by
  induction j with
  | zero => rw [waysJ_zero, cfr_zero]; rfl
  | succ j ih =>
    have hl : j < t.cos.length := by omega
    have ih := ih (by omega)
    by_cases hs : t.cos[j].src = a
    · rw [waysJ_hit hl hs, cfr_hit hl hs, List.length_append, List.map_append, List.sum_append, ih, List.length_map]
      have e : t.cos.getD j default = t.cos[j] := by rw [List.getD_eq_getElem?_getD, List.getElem?_eq_getElem hl]; rfl
      have hu := tyOk_up h hl
      have h5 := tyOk_five h
      have hf : waysF t.cos 5 t.cos[j].dst b = waysF t.cos 4 t.cos[j].dst b := by
        rcases waysF_fuel h 4 t.cos[j].dst b (by omega) with h1 | h1
        · exact h1
        · omega
      simp only [List.map_cons, List.map_nil, List.sum_cons, List.sum_nil, Int.toNat_natCast, Nat.add_zero]
      rw [e]
      unfold waysOf
      rw [hf]
    · rw [waysJ_miss hl hs, cfr_miss hl hs, ih]
end Go.Proofs.Ytplpnammboofiaa

namespace Go.Proofs.Ytplpnammboofiaa
open Go.RowKit

theorem findOk_two {t : Ty} {a b : Int} : findOk t [a, b] = typesB t a b := by simp [findOk, typesB, Bool.and_assoc]
theorem ints_two (w : World) (a b : Int) (ha : I64 a) (hb : I64 b) (t : TypeId) : IntsAt (w.alloc (.cells #[.int .i64 a, .int .i64 b] t)) w.heap.size (w.heap.size + 1) (.slice (some ⟨w.heap.size, 0, none⟩) 2 2) [a, b] :=
  (show Row (w.alloc (.cells #[.int .i64 a, .int .i64 b] t)) w.heap.size t ([a, b].map (Value.int .i64)) from Row.new w t [.int .i64 a, .int .i64 b]).ints (fun x hx => by
    simp only [List.mem_cons, List.not_mem_nil, or_false] at hx
    rcases hx with rfl | rfl
    · exact ha
    · exact hb) (Nat.le_refl _) (by omega) (Nat.le_refl _) (by unfold maxLen; simp)
end Go.Proofs.Ytplpnammboofiaa

namespace Go.Proofs.Ytplpnammboofiaa
open Go.RowKit

/-- The blocks of S are as they were. -/
def HoldsOn (S : Nat → Prop) (w w' : World) : Prop := w.heap.size ≤ w'.heap.size ∧ ∀ k, k < w.heap.size → S k → w'.heap[k]? = w.heap[k]?
/-- Who takes what is yielded: J s O w: the ways s have come; the iterator owns the blocks of O. -/
structure Client (l : Nat) (T : Nat → Prop) (Z : List Int → Prop) (J Jx : List (List Int) → (Nat → Prop) → World → Prop) : Prop where
  step : ∀ s O A C row, J s O A → A.grownBy C row → (∀ r, row = some r → O r) → J s (fun k => O k ∨ (A.heap.size ≤ k ∧ k < C.heap.size)) C
  give : ∀ s O O' A, J s O A → (∀ k, O' k → O k) → J s O' A
  round : ∀ s v zs O A0 A, Z zs → J s O A0 → s.length < 40000 → Below A0.heap.size A0 A → A.ownsRow 0 3 1 v zs.length (zs.map (Value.int .i64)) → (∀ b, v.ownBlock = some b → A0.heap.size ≤ b ∧ ¬ O b ∧ ¬ T b) → (∀ z ∈ zs, I64 z) →
    ∀ m, YieldAt Fence.wide m Try.prog l #[v] A fun e C => (e = .returned (.bool true) ∧ J (s ++ [zs]) O C ∧ HoldsOn (fun k => O k ∨ T k) A C) ∨ (e = .returned (.bool false) ∧ Jx (s ++ [zs]) O C)

theorem grown_of_below {w w' : World} (h : Below w.heap.size w w') : w.grownBy w' none := ⟨h.os, h.tape, h.output, h.size, fun k hk _ => h.block k hk⟩

/-- What goOn leaves. -/
def Gone (J Jx : List (List Int) → (Nat → Prop) → World → Prop) (T : Nat → Prop) (base : Nat) (rowv : Value) (pre : List Int) (s : List (List Int)) (O : Nat → Prop) (ways : List (List Int)) (w : World) (e : Ending) (w' : World) : Prop :=
  ∃ bv, e = .returned (.bool bv) ∧ ((bv = true ∧ ∃ O' : Nat → Prop, (∀ b, O b → O' b) ∧ (∀ b, O' b → (O b ∨ w.heap.size ≤ b) ∧ b < w'.heap.size) ∧ J (s ++ ways.map (pre ++ ·)) O' w' ∧ HoldsOn (fun b => (O b ∧ rowv.ownBlock ≠ some b) ∨ T b) w w' ∧
      w'.ownsRow base 3 1 rowv pre.length (pre.map (Value.int .i64))) ∨
    (bv = false ∧ 0 < ways.length ∧ ∃ s' O', Jx s' O' w'))

attribute [local go_sem] Oper.semAt_some

set_option maxRecDepth 100000 in
set_option maxHeartbeats 4000000 in
theorem goOn_here (l base g : Nat) (T : Nat → Prop) (Z : List Int → Prop) (J Jx : List (List Int) → (Nat → Prop) → World → Prop) (hC : Client l T Z J Jx) (n : Nat) (k : Int) (pre : List Int) (rowv : Value) (s : List (List Int)) (O : Nat → Prop) (w : World) (cs : List Co)
    (hZ : Z pre) (hJ : J s O w) (hown : w.ownsRow base 3 1 rowv pre.length (pre.map (Value.int .i64))) (hO : ∀ b, O b → b < w.heap.size) (hro : ∀ b, rowv.ownBlock = some b → O b) (hT : ∀ b, T b → b < w.heap.size) (hwf : ∀ z ∈ pre, I64 z) (hpl : pre.length ≤ 20) (hs : s.length < 40000) :
    Calls Try.prog 83 #[.pointer (some ⟨g, 0, none⟩), rowv, .int .i64 k, .int .i64 k, .func (.yield l) #[] #[]] w (Gone J Jx T base rowv pre s O (waysF cs (n + 1) k k) w) := by
  have hz := ownsRow.intsAt (lo := base) (hi := w.heap.size) hown hwf (Nat.le_refl _) (Nat.le_refl _)
  have hcl := clone_any base w.heap.size rowv pre w hz (Nat.le_refl _) (by omega)
  have hdd : ∀ k : Nat, (Fence.wide.depth.isSome = true → 1 ≤ k) := fun k h => by simp [Fence.wide] at h
  refine (callsIn_wide (n := 3)).1 ?_
  refine callsIn_of_wp Try.func83 rfl trivial ?_ rfl
  simp only [Try.ntmps83, List.size_toArray, List.length_cons, List.length_nil, Nat.reduceAdd, Nat.reduceSub, Array.replicate_succ, Array.replicate_zero, List.push_toArray, List.append_toArray, List.nil_append, List.cons_append]
  gi_wp2
  refine ⟨trivial, ?_⟩
  gi_at_call 76
  refine (callsIn_wide.2 hcl).mono ?_
  rintro e w1 ⟨v, rfl, hb1, hown1⟩
  have hz1 : ∀ b, v.ownBlock = some b → w.heap.size ≤ b ∧ ¬ O b ∧ ¬ T b := fun b hb => by
    have h := (owns_lt hown1 b hb).1
    exact ⟨h, fun h2 => by have := hO b h2; omega, fun h2 => by have := hT b h2; omega⟩
  obtain ⟨fn, tmps, assign, body, hy, hR⟩ := hC.round s v pre O w w1 hZ hJ hs hb1 (ownsRow_lower hown1 (Nat.zero_le _)) hz1 hwf 2
  have h1s := hb1.size
  have Hb1 := Lib.hid hb1
  have Hown := Lib.hid hown
  clear hz hcl hown1 hz1 hb1 hown hJ hC
  gi_wp2
  refine hR.mono ?_
  rintro e w2 (⟨rfl, hJ2, hh2⟩ | ⟨rfl, hx2⟩)
  · have hfin : Gone J Jx T base rowv pre s O (waysF cs (n + 1) k k) w (.returned (.bool true)) w2 := by
      refine ⟨true, rfl, .inl ⟨rfl, O, fun b h => h, fun b h => ⟨.inl h, ?_⟩, by rw [waysF_eq]; simpa using hJ2, ⟨Nat.le_trans h1s hh2.1, fun b hb hS => ?_⟩, ?_⟩⟩
      · have := hO b h; have := hh2.1; omega
      · exact (hh2.2 b (by omega) (hS.elim (fun h => .inl h.1) .inr)).trans (Hb1.out.block b hb)
      · exact ownsRow_keep1 Hown.out fun b hb => (hh2.2 b (by have := hO b (hro b hb); omega) (.inl (hro b hb))).trans (Hb1.out.block b (hO b (hro b hb)))
    have Hfin := Lib.hid hfin
    clear hfin hJ2 hh2 hR hy
    gi_wp2
    go_ret
    exact Hfin.out
  · have hfin : Gone J Jx T base rowv pre s O (waysF cs (n + 1) k k) w (.returned (.bool false)) w2 := ⟨false, rfl, .inr ⟨rfl, by rw [waysF_eq]; simp, _, _, hx2⟩⟩
    have Hfin := Lib.hid hfin
    clear hfin hx2 hR hy
    gi_wp2
    go_ret
    exact Hfin.out
end Go.Proofs.Ytplpnammboofiaa

