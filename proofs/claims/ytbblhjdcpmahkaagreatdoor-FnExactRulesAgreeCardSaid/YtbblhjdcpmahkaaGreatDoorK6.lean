/-
  The contracts of the program's finder: finderOf, isWay, along.
  The contracts of GoWay, the program's and the model's.
  The contract of the program's GoWay.
  The contracts of CoercionsFrom, the program's and the model's.
  The contracts of WayMap, the program's and the model's.
  The contracts of the model's l2Ways, l2Can and CanCoerce.
  The contract of the model's test for a way.
  The contracts of l4Has, hasFunctions and l4Fits.
  A finder for two types.
-/
import Derived.Test.YtbblhjdcpmahkaaGreatDoorK5
import Derived.Test.YtbblhjdcpmahkaaGreatDoorK2
import Derived.Test.YtbblhjdcpmahkaaGreatDoorK1
import Derived.Test.YtbblhjdcpmahkaaGreatDoorK4
namespace Go.Proofs.YtbblhjdcpmahkaaGreatDoor
open Go.RowKit

/-- Are the types valid, and are these all types of theirs? -/
def findOk (t : Ty) (ks : List Int) : Bool := tyOk t && ks.all fun k => ixB k t.sizes.length

set_option maxRecDepth 100000 in
set_option maxHeartbeats 1000000 in
theorem finderOf_any (lo hi lo2 hi2 : Nat) (sv cv kv : Value) (t : Ty) (ks : List Int) (w : World) (hv : TyAt w lo hi sv cv t) (hB : hi ≤ w.heap.size) (hk : IntsAt w lo2 hi2 kv ks) (hB2 : hi2 ≤ w.heap.size) :
    Calls Tryz.prog 61 #[.agg #[sv, cv], kv] w fun e w' => ∃ p, e = .returned (.tuple #[.pointer p, .bool (findOk t ks)]) ∧ Below w.heap.size w w' ∧
      (findOk t ks = true → ∃ g, p = some ⟨g, 0, none⟩ ∧ w.heap.size ≤ g ∧ Row w' g 136 [sv, cv]) := by
  obtain ⟨A, cap, rfl, hl1, hm1, _⟩ := hv.1.form
  obtain ⟨B, bap, rfl, hl2, hm2, _⟩ := hv.2.form
  obtain ⟨K, kap, rfl, hl3, hm3, hk1⟩ := hk.form
  unfold maxLen at hm1 hm3
  have h3 : Below w.heap.size w (w.alloc (.cells #[.slice A t.sizes.length cap, .slice B t.cos.length bap] 34)) := by go_grown
  have hv3 := Lib.hid (hv.below h3 hB)
  have Hk1 := Lib.hid hk1
  clear hv hk hk1
  go_enter Tryz.func61, Tryz.ntmps61
  go_wp2_with fail
  refine (implValid_any lo hi _ _ t _ hv3.out (by simp; omega)).mono ?_
  rintro e w1 ⟨rfl, hb1⟩
  have H1 := Lib.hid (box2 (hb1.mono (by simp)))
  obtain ⟨q0, q1, hl, _⟩ := box2 (hb1.mono (by simp))
  clear hb1
  by_cases hok : tyOk t = true
  · have hfin : Hid (findOk t ks = ks.all fun k => ixB k t.sizes.length) := by show _ = _; unfold findOk; rw [hok, Bool.true_and]
    rw [hok]
    clear hok
    go_wp2
    go_loopw [13] (fun i wr => ∃ j : Nat, j ≤ ks.length ∧ i = .int .i64 j ∧ w1 = wr ∧ Hid (∀ m, ∀ (hm : m < ks.length), m < j → ixB ks[m] t.sizes.length = true)) (fun i _ => ks.length - (intOf i).toNat)
    case atStart => exact ⟨0, Nat.zero_le _, rfl, rfl, fun m hm h => absurd h (by omega)⟩
    case round =>
      obtain ⟨j, hj, rfl, rfl, hall⟩ := hrel
      by_cases hlt : j < ks.length
      · obtain ⟨b, off, rfl, _, _, c0, _⟩ := (Hk1.out.below H1.out.2.2.2 hB2).at_ hlt
        by_cases hx : ixB ks[j] t.sizes.length = true
        · have hall2 : Hid (∀ m, ∀ (hm : m < ks.length), m < j + 1 → ixB ks[m] t.sizes.length = true) := fun m hm h => by
            by_cases e : m = j
            · subst e; exact hx
            · exact hall.out m hm (by omega)
          go_wp2_with (go_at_call 74; refine (isIndex_any _ _ _).mono ?_; rintro e w' ⟨rfl, rfl⟩; rw [hx])
          go_roundw
          case rel => exact ⟨j + 1, by omega, by go_num, trivial, hall2⟩
          case measure => simp [intOf]; omega
        · have hxf : ixB ks[j] t.sizes.length = false := by simpa using hx
          have hno : findOk t ks = false := by rw [hfin.out]; exact all_false_of j hlt hxf
          clear hx
          have Hno := Lib.hid hno
          clear hno
          go_wp2_with (go_at_call 74; refine (isIndex_any _ _ _).mono ?_; rintro e w' ⟨rfl, rfl⟩; rw [hxf])
          refine bodyPost_ret (v := .tuple #[.pointer none, .bool false]) (by simp [results, Tryz.results61, go_sem]) rfl ?_
          exact ⟨none, by rw [Hno.out], H1.out.2.2.2, fun h => by rw [Hno.out] at h; cases h⟩
      · obtain rfl : j = ks.length := by omega
        have hyes : findOk t ks = true := by rw [hfin.out]; exact all_true_of fun m hm => hall.out m hm hm
        have Hyes := Lib.hid hyes
        clear hyes
        go_wp2
        refine bodyPost_ret (v := .tuple #[.pointer (some ⟨w1.heap.size, 0, none⟩), .bool true]) (by simp [results, Tryz.results61, go_sem]) rfl ?_
        exact ⟨_, by rw [Hyes.out], H1.out.2.2.2.alloc (by omega) _, fun _ => ⟨_, rfl, by omega, Row.new _ _ [.slice A t.sizes.length cap, .slice B t.cos.length bap]⟩⟩
  · have hokf : tyOk t = false := by simpa using hok
    have hfin : Hid (findOk t ks = false) := by show _ = _; unfold findOk; rw [hokf, Bool.false_and]
    rw [hokf]
    clear hok
    go_wp2
    refine bodyPost_ret (v := .tuple #[.pointer none, .bool false]) (by simp [results, Tryz.results61, go_sem]) rfl ?_
    exact ⟨none, by rw [hfin.out], H1.out.2.2.2, fun h => by rw [hfin.out] at h; cases h⟩

end Go.Proofs.YtbblhjdcpmahkaaGreatDoor

namespace Go.Proofs.YtbblhjdcpmahkaaGreatDoor
open Go.RowKit

theorem endV_of {cs : List Co} {t : Ty} {k : Int} {zs : List Int} {o : Option Int} (hc : t.cos = cs) (h : wayEnd cs k zs = o) : endV t k zs = o.getD (-1) := by
  subst hc
  unfold endV
  rw [h]

theorem hasV_of {t : Ty} {k v : Int} (h : hasV t k v = true) : tyOk t = true ∧ ValOf t.sizes k v := by
  unfold hasV at h
  rw [Bool.and_eq_true] at h
  exact ⟨h.1, valOf_hasV0.1 h.2⟩
theorem goWayV_yes {t : Ty} {k v : Int} {zs : List Int} (h : hasV t k v = true) (h2 : (wayEnd t.cos k zs).isSome = true) : goWayV t k zs v = goV t.cos v zs := by unfold goWayV; rw [if_pos ⟨h, h2⟩]
theorem goWayV_no {t : Ty} {k v : Int} {zs : List Int} (h : ¬ (hasV t k v = true ∧ (wayEnd t.cos k zs).isSome = true)) : goWayV t k zs v = -1 := by unfold goWayV; rw [if_neg h]

end Go.Proofs.YtbblhjdcpmahkaaGreatDoor

namespace Go.Proofs.YtbblhjdcpmahkaaGreatDoor
open Go.RowKit

theorem findOk_one {t : Ty} {k : Int} : findOk t [k] = (tyOk t && ixB k t.sizes.length) := by simp [findOk]
/-- One number in new memory. -/
theorem ints_one (w : World) (z : Int) (hz : I64 z) (t : TypeId) : IntsAt (w.alloc (.cells #[.int .i64 z] t)) w.heap.size (w.heap.size + 1) (.slice (some ⟨w.heap.size, 0, none⟩) 1 1) [z] :=
  (show Row (w.alloc (.cells #[.int .i64 z] t)) w.heap.size t ([z].map (Value.int .i64)) from Row.new w t [.int .i64 z]).ints (fun x hx => by simp at hx; subst hx; exact hz) (Nat.le_refl _) (by omega) (Nat.le_refl _) (by unfold maxLen; simp)

end Go.Proofs.YtbblhjdcpmahkaaGreatDoor

namespace Go.Proofs.YtbblhjdcpmahkaaGreatDoor
open Go.RowKit

/-- The indices, below j, of the coercions that begin with a type. -/
def cfr (cs : List Co) (k : Int) (j : Nat) : List Int := ((List.range j).filter fun i => decide ((cs.getD i default).src = k)).map fun i : Nat => (i : Int)
theorem cfr_zero (cs : List Co) (k : Int) : cfr cs k 0 = [] := rfl
theorem cfr_hit {cs : List Co} {k : Int} {j : Nat} (hj : j < cs.length) (h : cs[j].src = k) : cfr cs k (j + 1) = cfr cs k j ++ [(j : Int)] := by
  unfold cfr
  rw [List.range_succ, List.filter_append, List.map_append]
  have e : (cs[j]?.getD default).src = k := by rw [List.getElem?_eq_getElem hj]; exact h
  simp [e]
theorem cfr_miss {cs : List Co} {k : Int} {j : Nat} (hj : j < cs.length) (h : ¬ cs[j].src = k) : cfr cs k (j + 1) = cfr cs k j := by
  unfold cfr
  rw [List.range_succ, List.filter_append, List.map_append]
  have e : ¬ (cs[j]?.getD default).src = k := by rw [List.getElem?_eq_getElem hj]; exact h
  simp [e]
theorem cfr_le (cs : List Co) (k : Int) (j : Nat) : (cfr cs k j).length ≤ j := by
  unfold cfr
  rw [List.length_map]
  have := List.length_filter_le (fun i => decide ((cs.getD i default).src = k)) (List.range j)
  simpa using this
theorem cfr_wf (cs : List Co) (k : Int) (j : Nat) (hj : j ≤ 1048576) : ∀ z ∈ cfr cs k j, I64 z := by
  intro z hz
  unfold cfr at hz
  obtain ⟨i, hi, rfl⟩ := List.mem_map.1 hz
  have := List.mem_range.1 (List.mem_filter.1 hi).1
  unfold I64
  omega
def cFrom (t : Ty) (k : Int) : List Int := if tyOk t = true then cfr t.cos k t.cos.length else []

def accF (t : Ty) (q : Int) (j : Nat) : List Int := if tyOk t = true then cfr t.cos q j else []
theorem accF_le (t : Ty) (q : Int) (j : Nat) : (accF t q j).length ≤ j := by
  unfold accF
  split
  · exact cfr_le _ _ _
  · simp
theorem ownsRow_cast {w : World} {base : Nat} {t : TypeId} {v : Value} {n n' : Nat} {xs xs' : List Value} (h : w.ownsRow base t 1 v n xs) (hn : n = n') (hx : xs = xs') : w.ownsRow base t 1 v n' xs' := by subst hn; subst hx; exact h

theorem ownsRow_base {w : World} {base base' : Nat} {t : TypeId} {v : Value} {n : Nat} {xs : List Value} (h : w.ownsRow base t 1 v n xs) (hb : base' ≤ base) : w.ownsRow base' t 1 v n xs := by
  obtain ⟨h1, h2 | ⟨g, cap, cur, e, hg, r⟩⟩ := h
  · exact ⟨h1, .inl h2⟩
  · exact ⟨h1, .inr ⟨g, cap, cur, e, by omega, r⟩⟩
theorem ownsRow_below {w w' : World} {base B : Nat} {t : TypeId} {v : Value} {n : Nat} {xs : List Value} (h : w.ownsRow base t 1 v n xs) (hb : Below B w w') (hB : w.heap.size ≤ B) : w'.ownsRow base t 1 v n xs := by
  obtain ⟨h1, h2 | ⟨g, cap, cur, e, hg, hh, r⟩⟩ := h
  · exact ⟨h1, .inl h2⟩
  · have hlt : g < w.heap.size := by
      rcases Nat.lt_or_ge g w.heap.size with hlt | hge
      · exact hlt
      · rw [Array.getElem?_eq_none hge] at hh; cases hh
    exact ⟨h1, .inr ⟨g, cap, cur, e, hg, (hb.block g (by omega)).trans hh, r⟩⟩
end Go.Proofs.YtbblhjdcpmahkaaGreatDoor

namespace Go.Proofs.YtbblhjdcpmahkaaGreatDoor
open Go.RowKit

/-- What a row of coercions makes of the first n values. -/
def mapL (cs : List Co) (zs : List Int) (n : Nat) : List Int := (List.range n).map fun v : Nat => goV cs (v : Int) zs
theorem mapL_zero (cs : List Co) (zs : List Int) : mapL cs zs 0 = [] := rfl
theorem mapL_succ (cs : List Co) (zs : List Int) (n : Nat) : mapL cs zs (n + 1) = mapL cs zs n ++ [goV cs (n : Int) zs] := by
  unfold mapL
  rw [List.range_succ, List.map_append]
  rfl
theorem mapL_len (cs : List Co) (zs : List Int) (n : Nat) : (mapL cs zs n).length = n := by simp [mapL]
/-- Is there such a way in valid types? -/
def wayB (t : Ty) (k : Int) (zs : List Int) : Bool := tyOk t && ixB k t.sizes.length && (wayEnd t.cos k zs).isSome
def wayMapV (t : Ty) (k : Int) (zs : List Int) : List Int := if wayB t k zs = true then mapL t.cos zs (t.sizes.getD k.toNat 0).toNat else []
theorem wayB_of {t : Ty} {k : Int} {zs : List Int} (h : wayB t k zs = true) : tyOk t = true ∧ ixB k t.sizes.length = true ∧ (wayEnd t.cos k zs).isSome = true := by
  unfold wayB at h
  simp only [Bool.and_eq_true] at h
  exact ⟨h.1.1, h.1.2, h.2⟩
theorem wayMapV_yes {t : Ty} {k : Int} {zs : List Int} (h : wayB t k zs = true) : wayMapV t k zs = mapL t.cos zs (t.sizes.getD k.toNat 0).toNat := by unfold wayMapV; rw [if_pos h]
theorem wayMapV_no {t : Ty} {k : Int} {zs : List Int} (h : wayB t k zs = false) : wayMapV t k zs = [] := by unfold wayMapV; rw [if_neg (by simp [h])]
/-- How many values a type of valid types has. -/
theorem size_of {t : Ty} {k : Int} (hty : tyOk t = true) (hk : ixB k t.sizes.length = true) : 0 ≤ k ∧ k < t.sizes.length ∧ ∃ (hn : k.toNat < t.sizes.length) (n : Nat), t.sizes[k.toNat] = (n : Int) ∧ n ≤ 4 ∧ t.sizes.getD k.toNat 0 = (n : Int) := by
  simp only [ixB, decide_eq_true_eq] at hk
  have hn : k.toNat < t.sizes.length := by omega
  have h := (sizesOk_of (tyOk_sizes hty)).2.2 _ hn
  refine ⟨hk.1, hk.2, hn, t.sizes[k.toNat].toNat, by omega, by omega, ?_⟩
  rw [List.getD_eq_getElem?_getD, List.getElem?_eq_getElem hn]
  simp only [Option.getD_some]
  omega
theorem goV_val {t : Ty} (h : tyOk t = true) : ∀ (zs : List Int) (k v : Int), ValOf t.sizes k v → (wayEnd t.cos k zs).isSome = true → ∃ q, ValOf t.sizes q (goV t.cos v zs) := by
  intro zs
  induction zs with
  | nil => intro k v hv _; exact ⟨k, hv⟩
  | cons i is ih =>
    intro k v hv hw
    obtain ⟨h0, h1, hi, hs, hw2⟩ := wayEnd_some (zs := i :: is) (j := 0) (by simp) hw
    simp only [List.getElem_cons_zero, List.drop_succ_cons, List.drop_zero] at h0 h1 hi hs hw2
    have := valOf_step h hi (by rw [hs]; exact hv)
    obtain ⟨_, _, _, _, _, hv2⟩ := this
    rw [goV, getD_at hi]
    exact ih _ _ hv2 hw2
theorem valOf_I64 {t : Ty} (h : tyOk t = true) {q v : Int} (hv : ValOf t.sizes q v) : I64 v := by
  obtain ⟨h1, h2, h3, h4⟩ := hv
  have hn : q.toNat < t.sizes.length := by omega
  have := (sizesOk_of (tyOk_sizes h)).2.2 _ hn
  rw [List.getD_eq_getElem?_getD, List.getElem?_eq_getElem hn] at h4
  simp only [Option.getD_some] at h4
  unfold I64
  omega
theorem wayMapV_wf (t : Ty) (k : Int) (zs : List Int) : ∀ z ∈ wayMapV t k zs, I64 z := by
  intro z hz
  by_cases h : wayB t k zs = true
  · rw [wayMapV_yes h] at hz
    obtain ⟨h1, h2, h3⟩ := wayB_of h
    obtain ⟨g1, g2, hn, n, e, _, e2⟩ := size_of h1 h2
    unfold mapL at hz
    obtain ⟨v, hv, rfl⟩ := List.mem_map.1 hz
    have hv := List.mem_range.1 hv
    rw [e2] at hv
    obtain ⟨q, hq⟩ := goV_val h1 zs k v ⟨g1, g2, by omega, by rw [e2]; omega⟩ h3
    exact valOf_I64 h1 hq
  · rw [wayMapV_no (by simpa using h)] at hz
    exact absurd hz (by simp)
theorem wayMapV_le (t : Ty) (k : Int) (zs : List Int) : (wayMapV t k zs).length ≤ 4 := by
  by_cases h : wayB t k zs = true
  · obtain ⟨h1, h2, h3⟩ := wayB_of h
    obtain ⟨g1, g2, hn, n, e, hn4, e2⟩ := size_of h1 h2
    rw [wayMapV_yes h, mapL_len, e2]
    omega
  · rw [wayMapV_no (by simpa using h)]; simp

/-- Are the types valid, and are a and b types of theirs? -/
def typesB (t : Ty) (a b : Int) : Bool := tyOk t && ixB a t.sizes.length && ixB b t.sizes.length

end Go.Proofs.YtbblhjdcpmahkaaGreatDoor

namespace Go.Proofs.YtbblhjdcpmahkaaGreatDoor
open Go.RowKit

/-- A slice of slices in new memory that reads as lists of numbers. -/
def WaysAt (w : World) (base : Nat) (ov : Value) (zss : List (List Int)) : Prop :=
  ∃ (xs : List Value) (S : Nat → Prop), w.ownsRow base 22 1 ov zss.length xs ∧ (∀ i, ∀ (h : i < zss.length), ∃ x, xs[i]? = some x ∧ IntsIn w S x zss[i]) ∧ ∀ b, S b → base ≤ b ∧ b < w.heap.size ∧ some b ≠ ov.ownBlock
theorem typesB_of {t : Ty} {a b : Int} (h : typesB t a b = true) : tyOk t = true ∧ 0 ≤ a ∧ a < t.sizes.length ∧ 0 ≤ b ∧ b < t.sizes.length := by
  simp only [typesB, ixB, Bool.and_eq_true, decide_eq_true_eq] at h
  exact ⟨h.1.1, h.1.2.1, h.1.2.2, h.2.1, h.2.2⟩
theorem typesB_len {t : Ty} (h : tyOk t = true) : t.sizes.length ≤ 5 := (sizesOk_of (tyOk_sizes h)).2.1

set_option maxRecDepth 100000 in
set_option maxHeartbeats 1000000 in
theorem l2Ways_any (lo hi : Nat) (sv cv : Value) (t : Ty) (a b : Int) (w : World) (hv : TyAt w lo hi sv cv t) (hB : hi ≤ w.heap.size) (htb : typesB t a b = true) :
    Calls Tryz.prog 58 #[.agg #[sv, cv], .int .i64 a, .int .i64 b] w fun e w' => ∃ ov, e = .returned ov ∧ Below w.heap.size w w' ∧ WaysAt w' w.heap.size ov (waysOf t a b) := by
  obtain ⟨A, cap, rfl, hl1, hm1, _⟩ := hv.1.form
  obtain ⟨B, bap, rfl, hl2, hm2, _⟩ := hv.2.form
  obtain ⟨hok, ha0, ha1, hb0, hb1⟩ := typesB_of htb
  have h5 := typesB_len hok
  have hwl := waysOf_len hok a b
  have hbel : Below w.heap.size w (((w.alloc (.cells #[.slice A t.sizes.length cap, .slice B t.cos.length bap] 34)).alloc (.cells #[] 22)).alloc (.cells #[.slice A t.sizes.length cap, .slice B t.cos.length bap, .int .i64 b, .slice none 0 0, .slice (some ⟨w.heap.size + 1, 0, none⟩) 0 0] 131)) := by go_grown
  have Hbel := Lib.hid hbel
  have Hv := Lib.hid (hv.below hbel hB)
  have hfp : FP (.slice A t.sizes.length cap) (.slice B t.cos.length bap) b w.heap.size (w.heap.size + 2) [] [] (((w.alloc (.cells #[.slice A t.sizes.length cap, .slice B t.cos.length bap] 34)).alloc (.cells #[] 22)).alloc (.cells #[.slice A t.sizes.length cap, .slice B t.cos.length bap, .int .i64 b, .slice none 0 0, .slice (some ⟨w.heap.size + 1, 0, none⟩) 0 0] 131)) (.slice none 0 0) (.slice (some ⟨w.heap.size + 1, 0, none⟩) 0 0) [] (fun _ => False) := by
    refine ⟨?_, by omega, World.ownsRow_nil _ _ _ _, ?_, fun i hi => absurd hi (by simp), fun b hb => hb.elim⟩
    · have := Row.new ((w.alloc (.cells #[.slice A t.sizes.length cap, .slice B t.cos.length bap] 34)).alloc (.cells #[] 22)) 131 [.slice A t.sizes.length cap, .slice B t.cos.length bap, .int .i64 b, .slice none 0 0, .slice (some ⟨w.heap.size + 1, 0, none⟩) 0 0]
      rw [World.size_alloc, World.size_alloc] at this
      exact this
    · have := World.ownsRow_lit (base := w.heap.size) (e := 22) (size := 1) (w.alloc (.cells #[.slice A t.sizes.length cap, .slice B t.cos.length bap] 34)) #[] 0 (by simp) (by unfold maxLen; omega) rfl
      rw [World.size_alloc] at this
      exact ownsRow_keep1 this fun g hg => Below.heap_alloc _ _ g (by simp only [Value.ownBlock, Option.some.injEq] at hg; simp; omega)
  have Hfp := Lib.hid hfp
  clear hv hfp hbel htb
  go_enter Tryz.func58, Tryz.ntmps58
  go_wp2_with fail
  refine (from_any lo hi _ _ t b w.heap.size (w.heap.size + 2) hok hB 5 a [] [] _ Hv.out (by simp; omega) ha0 ha1 (by omega) (by simp) (by simp) (by have : (waysF t.cos 5 a b).length ≤ 32768 := hwl; simp; omega) ⟨_, _, _, _, Hfp.out⟩).mono ?_
  rintro e w1 ⟨rfl, hb1, hfs1⟩
  obtain ⟨wv, ov, xs, S, h1⟩ := hfs1
  have c4 : w1.cell? ⟨w.heap.size + 2, 4, none⟩ = some ov := h1.row.cell 4
  have Hb1 := Lib.hid (Hbel.out.trans hb1)
  have H1 := Lib.hid h1
  clear hb1 h1
  go_wp2
  go_ret
  have e : ([] : List (List Int)) ++ (waysF t.cos 5 a b).map (([] : List Int) ++ ·) = waysOf t a b := by
    simp only [List.nil_append]
    exact List.map_id' _
  have h2 := H1.out
  rw [e] at h2
  exact ⟨_, rfl, Hb1.out, xs, S, h2.fouts, h2.ints, fun b hb => ⟨(h2.set b hb).1, (h2.set b hb).2.1, (h2.set b hb).2.2.2.2⟩⟩

/-- Is there a way? -/
def canB (t : Ty) (a b : Int) : Bool := decide (0 < (waysOf t a b).length)
def canC (t : Ty) (a b : Int) : Bool := typesB t a b && canB t a b

end Go.Proofs.YtbblhjdcpmahkaaGreatDoor

namespace Go.Proofs.YtbblhjdcpmahkaaGreatDoor
open Go.RowKit
attribute [local go_sem] Oper.semAt_some

set_option maxRecDepth 100000 in
set_option maxHeartbeats 1000000 in
theorem l2Can_any (lo hi : Nat) (sv cv : Value) (t : Ty) (a b : Int) (w : World) (hv : TyAt w lo hi sv cv t) (hB : hi ≤ w.heap.size) (htb : typesB t a b = true) :
    Calls Tryz.prog 69 #[.agg #[sv, cv], .int .i64 a, .int .i64 b] w fun e w' => e = .returned (.bool (canB t a b)) ∧ Below w.heap.size w w' := by
  obtain ⟨A, cap, rfl, hl1, hm1, _⟩ := hv.1.form
  obtain ⟨B, bap, rfl, hl2, hm2, _⟩ := hv.2.form
  have h3 : Below w.heap.size w (w.alloc (.cells #[.slice A t.sizes.length cap, .slice B t.cos.length bap] 34)) := by go_grown
  have hv3 := Lib.hid (hv.below h3 hB)
  have hwl := waysOf_len (typesB_of htb).1 a b
  clear hv
  go_enter Tryz.func69, Tryz.ntmps69
  go_wp2_with fail
  refine (l2Ways_any lo hi _ _ t a b _ hv3.out (by simp; omega) htb).mono ?_
  rintro e w1 ⟨ov, rfl, hb1, hwy⟩
  obtain ⟨xs, S, hown, _⟩ := hwy
  obtain ⟨OA, OC, rfl⟩ := owns_form hown
  have Hb1 := Lib.hid (h3.trans (hb1.mono (by simp)))
  clear hb1 hown
  go_wp2
  go_ret
  refine ⟨ret_bool ?_, Hb1.out⟩
  unfold canB
  rw [decide_eq_decide]
end Go.Proofs.YtbblhjdcpmahkaaGreatDoor

namespace Go.Proofs.YtbblhjdcpmahkaaGreatDoor
open Go.RowKit
attribute [local go_sem] Oper.semAt_some

/-- A valid system has a function. -/
noncomputable def hasFB (y : Sy) (i : Int) : Bool := syB y && ixB i y.fs.length
theorem hasFB_of {y : Sy} {i : Int} (h : hasFB y i = true) : SyOk y ∧ 0 ≤ i ∧ i < y.fs.length ∧ i.toNat < y.fs.length := by
  simp only [hasFB, Bool.and_eq_true, ixB, decide_eq_true_eq] at h
  exact ⟨syB_iff.1 h.1, h.2.1, h.2.2, by omega⟩

/-- Types can be coerced to others, one by one. -/
def FitsTo (t : Ty) (xs ys : List Int) : Prop := xs.length = ys.length ∧ ∀ j, j < xs.length → canB t (xs.getD j 0) (ys.getD j 0) = true
open Classical in
noncomputable def fitsToB (t : Ty) (xs ys : List Int) : Bool := decide (FitsTo t xs ys)
theorem fitsToB_yes {t : Ty} {xs ys : List Int} (h : FitsTo t xs ys) : fitsToB t xs ys = true := by unfold fitsToB; exact @decide_eq_true _ (Classical.propDecidable _) h
theorem fitsToB_no {t : Ty} {xs ys : List Int} (h : ¬ FitsTo t xs ys) : fitsToB t xs ys = false := by unfold fitsToB; exact @decide_eq_false _ (Classical.propDecidable _) h
theorem fitsToB_iff {t : Ty} {xs ys : List Int} : fitsToB t xs ys = true ↔ FitsTo t xs ys := by unfold fitsToB; exact @decide_eq_true_iff _ (Classical.propDecidable _)
theorem typesB_mk {t : Ty} {a b : Int} (h : tyOk t = true) (ha : 0 ≤ a ∧ a < t.sizes.length) (hb : 0 ≤ b ∧ b < t.sizes.length) : typesB t a b = true := by
  simp [typesB, h, ixB, ha, hb]

set_option maxRecDepth 100000 in
set_option maxHeartbeats 4000000 in
theorem l4Fits_any (lo hi lo1 hi1 lo2 hi2 : Nat) (sv cv xv yv : Value) (t : Ty) (xs ys : List Int) (w : World) (hv : TyAt w lo hi sv cv t) (hx : IntsAt w lo1 hi1 xv xs) (hy : IntsAt w lo2 hi2 yv ys) (hB : hi ≤ w.heap.size) (hB1 : hi1 ≤ w.heap.size) (hB2 : hi2 ≤ w.heap.size) (hok : tyOk t = true)
    (hxs : ∀ j, ∀ (hj : j < xs.length), 0 ≤ xs[j] ∧ xs[j] < t.sizes.length) (hys : ∀ j, ∀ (hj : j < ys.length), 0 ≤ ys[j] ∧ ys[j] < t.sizes.length) :
    Calls Tryz.prog 53 #[.agg #[sv, cv], xv, yv] w fun e w' => e = .returned (.bool (fitsToB t xs ys)) ∧ Below w.heap.size w w' := by
  obtain ⟨A, cap, rfl, hl1, hm1, hi0⟩ := hv.1.form
  obtain ⟨B, bap, rfl, hl2, hm2, hc0⟩ := hv.2.form
  obtain ⟨X, xap, rfl, hlx, hmx, hx1⟩ := hx.form
  obtain ⟨Y, yap, rfl, hly, hmy, hy1⟩ := hy.form
  unfold maxLen at hmx hmy
  have hT : TyAt w lo hi (.slice A t.sizes.length cap) (.slice B t.cos.length bap) t := ⟨hi0, hc0⟩
  have h3 : Below w.heap.size w (w.alloc (.cells #[.slice A t.sizes.length cap, .slice B t.cos.length bap] 34)) := by go_grown
  have HT := Lib.hid hT
  have Hx := Lib.hid hx1
  have Hy := Lib.hid hy1
  have Hxs := Lib.hid hxs
  have Hys := Lib.hid hys
  clear hv hx hy hi0 hc0 hx1 hy1 hT hxs hys
  go_enter Tryz.func53, Tryz.ntmps53
  go_wp2
  · rename_i hmin
    obtain ⟨wb, hwb⟩ : ∃ wb, wb = w.alloc (.cells #[.slice A t.sizes.length cap, .slice B t.cos.length bap] 34) := ⟨_, rfl⟩
    have hrow : Row wb w.heap.size 34 [.slice A t.sizes.length cap, .slice B t.cos.length bap] := by rw [hwb]; exact Row.new _ _ _
    have hbb : Below w.heap.size w wb := by rw [hwb]; exact h3
    have HTb := Lib.hid (HT.out.below hbb hB)
    have Hxb := Lib.hid (Hx.out.below hbb hB1)
    have Hyb := Lib.hid (Hy.out.below hbb hB2)
    have Hrow := Lib.hid hrow
    have Hbb := Lib.hid hbb
    have Hsz := Lib.hid hbb.size
    rw [← hwb]
    clear h3 hrow hbb hwb
    go_loopw [13] (fun i wr => ∃ k : Nat, k ≤ ys.length ∧ i = .int .i64 k ∧ Hid (Below wb.heap.size wb wr) ∧ Hid (∀ j, j < k → canB t (xs.getD j 0) (ys.getD j 0) = true)) (fun i _ => ys.length - (intOf i).toNat)
    case atStart => exact ⟨0, Nat.zero_le _, rfl, Below.refl _ _, fun j hj => absurd hj (by omega)⟩
    case round =>
      obtain ⟨k, hk, rfl, hbr, hok2⟩ := hrel
      have hsr := hbr.out.size
      have HbW : Hid (Below w.heap.size w wr) := Hbb.out.trans (hbr.out.mono Hsz.out)
      have hBr : hi ≤ wr.heap.size := by have := Hsz.out; omega
      have hBr1 : hi1 ≤ wr.heap.size := by have := Hsz.out; omega
      have hBr2 : hi2 ≤ wr.heap.size := by have := Hsz.out; omega
      by_cases hkl : k < ys.length
      · have hkx : k < xs.length := by omega
        have hky : k < ys.length := by omega
        have q0 := (Hrow.out.below hbr.out Hrow.out.lt).cell 0
        have q1 := (Hrow.out.below hbr.out Hrow.out.lt).cell 1
        simp only [List.getElem?_cons_zero, List.getElem?_cons_succ] at q0 q1
        have hls : w.heap.size < wr.heap.size := Nat.lt_of_lt_of_le Hrow.out.lt hsr
        obtain ⟨b1, o1, rfl, _, hb1, e0, _⟩ := (Hxb.out.below hbr.out (by have := Hsz.out; omega)).at_ hkx
        obtain ⟨b2, o2, rfl, _, hb2, e1, _⟩ := (Hyb.out.below hbr.out (by have := Hsz.out; omega)).at_ hky
        have htb := Lib.hid (typesB_mk hok (Hxs.out k hkx) (Hys.out k hky))
        have HTr := Lib.hid (HTb.out.below hbr.out (by have := Hsz.out; omega))
        have hg : Hid (canB t (xs.getD k 0) (ys.getD k 0) = canB t xs[k] ys[k]) := by show _ = _; rw [getD_of hkx, getD_of hky]
        have k0 : ∀ z : InC (Below wr.heap.size wr), z.val.cell? ⟨w.heap.size, 0, none⟩ = some (.slice A t.sizes.length cap) := fun z => (z.inD.cell (p := ⟨w.heap.size, 0, none⟩) (by dsimp only; omega)).trans q0
        have k1 : ∀ z : InC (Below wr.heap.size wr), z.val.cell? ⟨w.heap.size, 1, none⟩ = some (.slice B t.cos.length bap) := fun z => (z.inD.cell (p := ⟨w.heap.size, 1, none⟩) (by dsimp only; omega)).trans q1
        have k2 : ∀ z : InC (Below wr.heap.size wr), z.val.cell? ⟨b1, o1 + k, none⟩ = some (.int .i64 xs[k]) := fun z => (z.inD.cell (p := ⟨b1, o1 + k, none⟩) (by dsimp only; omega)).trans e0
        have k3 : ∀ z : InC (Below wr.heap.size wr), z.val.cell? ⟨b2, o2 + k, none⟩ = some (.int .i64 ys[k]) := fun z => (z.inD.cell (p := ⟨b2, o2 + k, none⟩) (by dsimp only; omega)).trans e1
        have hne : Nonempty (InC (Below wr.heap.size wr)) := ⟨⟨wr, Below.refl _ _⟩⟩
        have hkxI : (k : Int) < (xs.length : Int) := by omega
        have hkyI : (k : Int) < (ys.length : Int) := by omega
        clear q0 q1 e0 e1
        by_cases hc : canB t xs[k] ys[k] = true
        · have hok3 : Hid (∀ j, j < k + 1 → canB t (xs.getD j 0) (ys.getD j 0) = true) := fun j hj => by
            by_cases e : j = k
            · subst e; rw [hg.out]; exact hc
            · exact hok2.out j (by omega)
          have Hc := Lib.hid hc
          clear hc
          go_wp2_with fail
          refine wp_region_class (Below wr.heap.size wr) (by kernel_rfl) (by kernel_rfl) ((Below.refl _ _).drew) ?_
          repeat (go_big_quiet_step ((go_at_call 69; rename_i z; exact (l2Can_any lo hi _ _ t xs[k] ys[k] z.val (HTr.out.below z.inD hBr) (by have := z.inD.size; omega) htb.out).mono fun e w' ⟨he, hbx⟩ => ⟨by rw [he, Hc.out], ⟨_, z.inD.trans (hbx.mono z.inD.size)⟩, rfl⟩)))
          refine wpQuiet_nil ?_
          intro _ hw'
          obtain ⟨⟨wz, hbz⟩, rfl⟩ := hw'
          have Hbz := Lib.hid (hbr.out.trans (hbz.mono hsr))
          clear hbz
          go_wp2
          go_roundw
          case rel => exact ⟨k + 1, by omega, by go_num, Hbz.out, hok3⟩
          case measure => simp [intOf]; omega
        · have hcf : Hid (canB t xs[k] ys[k] = false) := by show _ = _; simpa using hc
          have H : Hid (fitsToB t xs ys = false) := fitsToB_no fun h => hc (by rw [← hg.out]; exact h.2 k hkx)
          clear hc
          go_wp2_with fail
          refine wp_region_class (Below wr.heap.size wr) (by kernel_rfl) (by kernel_rfl) ((Below.refl _ _).drew) ?_
          repeat (go_big_quiet_step ((go_at_call 69; rename_i z; exact (l2Can_any lo hi _ _ t xs[k] ys[k] z.val (HTr.out.below z.inD hBr) (by have := z.inD.size; omega) htb.out).mono fun e w' ⟨he, hbx⟩ => ⟨by rw [he, hcf.out], ⟨_, z.inD.trans (hbx.mono z.inD.size)⟩, rfl⟩)))
          refine wpQuiet_nil ?_
          intro _ hw'
          obtain ⟨⟨wz, hbz⟩, rfl⟩ := hw'
          have Hbz := Lib.hid (HbW.out.trans (hbz.mono HbW.out.size))
          clear hbz
          go_wp2
          go_ret
          exact ⟨ret_bool H.out.symm, Hbz.out⟩
      · obtain rfl : k = ys.length := by omega
        have H : Hid (fitsToB t xs ys = ((xs.length : Int) == (ys.length : Int))) := by
          show _ = _
          rw [Bool.eq_iff_iff, fitsToB_iff, beq_iff_eq]
          exact ⟨fun h => by have := h.1; omega, fun h => ⟨by omega, fun j hj => hok2.out j (by omega)⟩⟩
        go_wp2
        go_ret
        exact ⟨ret_bool H.out.symm, HbW.out⟩
  · rename_i hmin
    obtain ⟨wb, hwb⟩ : ∃ wb, wb = w.alloc (.cells #[.slice A t.sizes.length cap, .slice B t.cos.length bap] 34) := ⟨_, rfl⟩
    have hrow : Row wb w.heap.size 34 [.slice A t.sizes.length cap, .slice B t.cos.length bap] := by rw [hwb]; exact Row.new _ _ _
    have hbb : Below w.heap.size w wb := by rw [hwb]; exact h3
    have HTb := Lib.hid (HT.out.below hbb hB)
    have Hxb := Lib.hid (Hx.out.below hbb hB1)
    have Hyb := Lib.hid (Hy.out.below hbb hB2)
    have Hrow := Lib.hid hrow
    have Hbb := Lib.hid hbb
    have Hsz := Lib.hid hbb.size
    rw [← hwb]
    clear h3 hrow hbb hwb
    go_loopw [13] (fun i wr => ∃ k : Nat, k ≤ xs.length ∧ i = .int .i64 k ∧ Hid (Below wb.heap.size wb wr) ∧ Hid (∀ j, j < k → canB t (xs.getD j 0) (ys.getD j 0) = true)) (fun i _ => xs.length - (intOf i).toNat)
    case atStart => exact ⟨0, Nat.zero_le _, rfl, Below.refl _ _, fun j hj => absurd hj (by omega)⟩
    case round =>
      obtain ⟨k, hk, rfl, hbr, hok2⟩ := hrel
      have hsr := hbr.out.size
      have HbW : Hid (Below w.heap.size w wr) := Hbb.out.trans (hbr.out.mono Hsz.out)
      have hBr : hi ≤ wr.heap.size := by have := Hsz.out; omega
      have hBr1 : hi1 ≤ wr.heap.size := by have := Hsz.out; omega
      have hBr2 : hi2 ≤ wr.heap.size := by have := Hsz.out; omega
      by_cases hkl : k < xs.length
      · have hkx : k < xs.length := by omega
        have hky : k < ys.length := by omega
        have q0 := (Hrow.out.below hbr.out Hrow.out.lt).cell 0
        have q1 := (Hrow.out.below hbr.out Hrow.out.lt).cell 1
        simp only [List.getElem?_cons_zero, List.getElem?_cons_succ] at q0 q1
        have hls : w.heap.size < wr.heap.size := Nat.lt_of_lt_of_le Hrow.out.lt hsr
        obtain ⟨b1, o1, rfl, _, hb1, e0, _⟩ := (Hxb.out.below hbr.out (by have := Hsz.out; omega)).at_ hkx
        obtain ⟨b2, o2, rfl, _, hb2, e1, _⟩ := (Hyb.out.below hbr.out (by have := Hsz.out; omega)).at_ hky
        have htb := Lib.hid (typesB_mk hok (Hxs.out k hkx) (Hys.out k hky))
        have HTr := Lib.hid (HTb.out.below hbr.out (by have := Hsz.out; omega))
        have hg : Hid (canB t (xs.getD k 0) (ys.getD k 0) = canB t xs[k] ys[k]) := by show _ = _; rw [getD_of hkx, getD_of hky]
        have k0 : ∀ z : InC (Below wr.heap.size wr), z.val.cell? ⟨w.heap.size, 0, none⟩ = some (.slice A t.sizes.length cap) := fun z => (z.inD.cell (p := ⟨w.heap.size, 0, none⟩) (by dsimp only; omega)).trans q0
        have k1 : ∀ z : InC (Below wr.heap.size wr), z.val.cell? ⟨w.heap.size, 1, none⟩ = some (.slice B t.cos.length bap) := fun z => (z.inD.cell (p := ⟨w.heap.size, 1, none⟩) (by dsimp only; omega)).trans q1
        have k2 : ∀ z : InC (Below wr.heap.size wr), z.val.cell? ⟨b1, o1 + k, none⟩ = some (.int .i64 xs[k]) := fun z => (z.inD.cell (p := ⟨b1, o1 + k, none⟩) (by dsimp only; omega)).trans e0
        have k3 : ∀ z : InC (Below wr.heap.size wr), z.val.cell? ⟨b2, o2 + k, none⟩ = some (.int .i64 ys[k]) := fun z => (z.inD.cell (p := ⟨b2, o2 + k, none⟩) (by dsimp only; omega)).trans e1
        have hne : Nonempty (InC (Below wr.heap.size wr)) := ⟨⟨wr, Below.refl _ _⟩⟩
        have hkxI : (k : Int) < (xs.length : Int) := by omega
        have hkyI : (k : Int) < (ys.length : Int) := by omega
        clear q0 q1 e0 e1
        by_cases hc : canB t xs[k] ys[k] = true
        · have hok3 : Hid (∀ j, j < k + 1 → canB t (xs.getD j 0) (ys.getD j 0) = true) := fun j hj => by
            by_cases e : j = k
            · subst e; rw [hg.out]; exact hc
            · exact hok2.out j (by omega)
          have Hc := Lib.hid hc
          clear hc
          go_wp2_with fail
          refine wp_region_class (Below wr.heap.size wr) (by kernel_rfl) (by kernel_rfl) ((Below.refl _ _).drew) ?_
          repeat (go_big_quiet_step ((go_at_call 69; rename_i z; exact (l2Can_any lo hi _ _ t xs[k] ys[k] z.val (HTr.out.below z.inD hBr) (by have := z.inD.size; omega) htb.out).mono fun e w' ⟨he, hbx⟩ => ⟨by rw [he, Hc.out], ⟨_, z.inD.trans (hbx.mono z.inD.size)⟩, rfl⟩)))
          refine wpQuiet_nil ?_
          intro _ hw'
          obtain ⟨⟨wz, hbz⟩, rfl⟩ := hw'
          have Hbz := Lib.hid (hbr.out.trans (hbz.mono hsr))
          clear hbz
          go_wp2
          go_roundw
          case rel => exact ⟨k + 1, by omega, by go_num, Hbz.out, hok3⟩
          case measure => simp [intOf]; omega
        · have hcf : Hid (canB t xs[k] ys[k] = false) := by show _ = _; simpa using hc
          have H : Hid (fitsToB t xs ys = false) := fitsToB_no fun h => hc (by rw [← hg.out]; exact h.2 k hkx)
          clear hc
          go_wp2_with fail
          refine wp_region_class (Below wr.heap.size wr) (by kernel_rfl) (by kernel_rfl) ((Below.refl _ _).drew) ?_
          repeat (go_big_quiet_step ((go_at_call 69; rename_i z; exact (l2Can_any lo hi _ _ t xs[k] ys[k] z.val (HTr.out.below z.inD hBr) (by have := z.inD.size; omega) htb.out).mono fun e w' ⟨he, hbx⟩ => ⟨by rw [he, hcf.out], ⟨_, z.inD.trans (hbx.mono z.inD.size)⟩, rfl⟩)))
          refine wpQuiet_nil ?_
          intro _ hw'
          obtain ⟨⟨wz, hbz⟩, rfl⟩ := hw'
          have Hbz := Lib.hid (HbW.out.trans (hbz.mono HbW.out.size))
          clear hbz
          go_wp2
          go_ret
          exact ⟨ret_bool H.out.symm, Hbz.out⟩
      · obtain rfl : k = xs.length := by omega
        have H : Hid (fitsToB t xs ys = ((xs.length : Int) == (ys.length : Int))) := by
          show _ = _
          rw [Bool.eq_iff_iff, fitsToB_iff, beq_iff_eq]
          exact ⟨fun h => by have := h.1; omega, fun h => ⟨by omega, fun j hj => hok2.out j (by omega)⟩⟩
        go_wp2
        go_ret
        exact ⟨ret_bool H.out.symm, HbW.out⟩
end Go.Proofs.YtbblhjdcpmahkaaGreatDoor

namespace Go.Proofs.YtbblhjdcpmahkaaGreatDoor
open Go.RowKit

theorem findOk_two {t : Ty} {a b : Int} : findOk t [a, b] = typesB t a b := by simp [findOk, typesB, Bool.and_assoc]
theorem ints_two (w : World) (a b : Int) (ha : I64 a) (hb : I64 b) (t : TypeId) : IntsAt (w.alloc (.cells #[.int .i64 a, .int .i64 b] t)) w.heap.size (w.heap.size + 1) (.slice (some ⟨w.heap.size, 0, none⟩) 2 2) [a, b] :=
  (show Row (w.alloc (.cells #[.int .i64 a, .int .i64 b] t)) w.heap.size t ([a, b].map (Value.int .i64)) from Row.new w t [.int .i64 a, .int .i64 b]).ints (fun x hx => by
    simp only [List.mem_cons, List.not_mem_nil, or_false] at hx
    rcases hx with rfl | rfl
    · exact ha
    · exact hb) (Nat.le_refl _) (by omega) (Nat.le_refl _) (by unfold maxLen; simp)
end Go.Proofs.YtbblhjdcpmahkaaGreatDoor

