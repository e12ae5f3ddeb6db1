/-
  The contracts of the program's finder: finderOf, isWay, along.
  The contracts of GoWay, the program's and the model's.
  The contract of the program's GoWay.
  The contracts of WayMap, the program's and the model's.
  The contracts of the model's l2Ways, l2Can and CanCoerce.
  The contract of the model's test for a way.
  The contracts of l4Has, hasFunctions and l4Fits.
  The contract of the program's caller: a function value that has a table of its own.
  The contract of the program's CallFunction.
  The contract of the model's CallFunction.
  The values of explicit terms, and their parts in the order in which they are had; plain data only.
-/
import Derived.Test.YtdemcoghgnnheaaGreatDoorK5
import Derived.Test.YtdemcoghgnnheaaGreatDoorK4
import Derived.Test.YtdemcoghgnnheaaGreatDoorK7
import Derived.Test.YtdemcoghgnnheaaGreatDoorK6
import Derived.Deep.AppendLies
namespace Go.Proofs.YtdemcoghgnnheaaGreatDoor
open Go.RowKit

/-- Are the types valid, and are these all types of theirs? -/
def findOk (t : Ty) (ks : List Int) : Bool := tyOk t && ks.all fun k => ixB k t.sizes.length

set_option maxRecDepth 100000 in
set_option maxHeartbeats 1000000 in
theorem finderOf_any (lo hi lo2 hi2 : Nat) (sv cv kv : Value) (t : Ty) (ks : List Int) (w : World) (hv : TyAt w lo hi sv cv t) (hB : hi ≤ w.heap.size) (hk : IntsAt w lo2 hi2 kv ks) (hB2 : hi2 ≤ w.heap.size) :
    Calls Tryz.prog 128 #[.agg #[sv, cv], kv] w fun e w' => ∃ p, e = .returned (.tuple #[.pointer p, .bool (findOk t ks)]) ∧ Below w.heap.size w w' ∧
      (findOk t ks = true → ∃ g, p = some ⟨g, 0, none⟩ ∧ w.heap.size ≤ g ∧ Row w' g 236 [sv, cv]) := by
  obtain ⟨A, cap, rfl, hl1, hm1, _⟩ := hv.1.form
  obtain ⟨B, bap, rfl, hl2, hm2, _⟩ := hv.2.form
  obtain ⟨K, kap, rfl, hl3, hm3, hk1⟩ := hk.form
  unfold maxLen at hm1 hm3
  have h3 : Below w.heap.size w (w.alloc (.cells #[.slice A t.sizes.length cap, .slice B t.cos.length bap] 34)) := by go_grown
  have hv3 := Lib.hid (hv.below h3 hB)
  have Hk1 := Lib.hid hk1
  clear hv hk hk1
  go_enter Tryz.func128, Tryz.ntmps128
  go_wp2_with fail
  refine (implValid_any lo hi _ _ t _ hv3.out (by simp; omega)).mono ?_
  rintro e w1 ⟨rfl, hb1⟩
  have H1 := Lib.hid (box2 (hb1.mono (by simp)))
  obtain ⟨q0, q1, hl, _⟩ := box2 (hb1.mono (by simp))
  clear hb1
  by_cases hok : tyOk t = true
  · have hfin : Hid (findOk t ks = ks.all fun k => ixB k t.sizes.length) := by show _ = _; unfold findOk; rw [hok, Bool.true_and]
    rw [hok]
    clear hok
    go_wp2
    go_loopw [13] (fun i wr => ∃ j : Nat, j ≤ ks.length ∧ i = .int .i64 j ∧ w1 = wr ∧ Hid (∀ m, ∀ (hm : m < ks.length), m < j → ixB ks[m] t.sizes.length = true)) (fun i _ => ks.length - (intOf i).toNat)
    case atStart => exact ⟨0, Nat.zero_le _, rfl, rfl, fun m hm h => absurd h (by omega)⟩
    case round =>
      obtain ⟨j, hj, rfl, rfl, hall⟩ := hrel
      by_cases hlt : j < ks.length
      · obtain ⟨b, off, rfl, _, _, c0, _⟩ := (Hk1.out.below H1.out.2.2.2 hB2).at_ hlt
        by_cases hx : ixB ks[j] t.sizes.length = true
        · have hall2 : Hid (∀ m, ∀ (hm : m < ks.length), m < j + 1 → ixB ks[m] t.sizes.length = true) := fun m hm h => by
            by_cases e : m = j
            · subst e; exact hx
            · exact hall.out m hm (by omega)
          go_wp2_with (go_at_call 158; refine (isIndex_any _ _ _).mono ?_; rintro e w' ⟨rfl, rfl⟩; rw [hx])
          go_roundw
          case rel => exact ⟨j + 1, by omega, by go_num, trivial, hall2⟩
          case measure => simp [intOf]; omega
        · have hxf : ixB ks[j] t.sizes.length = false := by simpa using hx
          have hno : findOk t ks = false := by rw [hfin.out]; exact all_false_of j hlt hxf
          clear hx
          have Hno := Lib.hid hno
          clear hno
          go_wp2_with (go_at_call 158; refine (isIndex_any _ _ _).mono ?_; rintro e w' ⟨rfl, rfl⟩; rw [hxf])
          refine bodyPost_ret (v := .tuple #[.pointer none, .bool false]) (by simp [results, Tryz.results128, go_sem]) rfl ?_
          exact ⟨none, by rw [Hno.out], H1.out.2.2.2, fun h => by rw [Hno.out] at h; cases h⟩
      · obtain rfl : j = ks.length := by omega
        have hyes : findOk t ks = true := by rw [hfin.out]; exact all_true_of fun m hm => hall.out m hm hm
        have Hyes := Lib.hid hyes
        clear hyes
        go_wp2
        refine bodyPost_ret (v := .tuple #[.pointer (some ⟨w1.heap.size, 0, none⟩), .bool true]) (by simp [results, Tryz.results128, go_sem]) rfl ?_
        exact ⟨_, by rw [Hyes.out], H1.out.2.2.2.alloc (by omega) _, fun _ => ⟨_, rfl, by omega, Row.new _ _ [.slice A t.sizes.length cap, .slice B t.cos.length bap]⟩⟩
  · have hokf : tyOk t = false := by simpa using hok
    have hfin : Hid (findOk t ks = false) := by show _ = _; unfold findOk; rw [hokf, Bool.false_and]
    rw [hokf]
    clear hok
    go_wp2
    refine bodyPost_ret (v := .tuple #[.pointer none, .bool false]) (by simp [results, Tryz.results128, go_sem]) rfl ?_
    exact ⟨none, by rw [hfin.out], H1.out.2.2.2, fun h => by rw [hfin.out] at h; cases h⟩

end Go.Proofs.YtdemcoghgnnheaaGreatDoor

namespace Go.Proofs.YtdemcoghgnnheaaGreatDoor
open Go.RowKit

theorem endV_of {cs : List Co} {t : Ty} {k : Int} {zs : List Int} {o : Option Int} (hc : t.cos = cs) (h : wayEnd cs k zs = o) : endV t k zs = o.getD (-1) := by
  subst hc
  unfold endV
  rw [h]

theorem hasV_of {t : Ty} {k v : Int} (h : hasV t k v = true) : tyOk t = true ∧ ValOf t.sizes k v := by
  unfold hasV at h
  rw [Bool.and_eq_true] at h
  exact ⟨h.1, valOf_hasV0.1 h.2⟩
theorem goWayV_yes {t : Ty} {k v : Int} {zs : List Int} (h : hasV t k v = true) (h2 : (wayEnd t.cos k zs).isSome = true) : goWayV t k zs v = goV t.cos v zs := by unfold goWayV; rw [if_pos ⟨h, h2⟩]
theorem goWayV_no {t : Ty} {k v : Int} {zs : List Int} (h : ¬ (hasV t k v = true ∧ (wayEnd t.cos k zs).isSome = true)) : goWayV t k zs v = -1 := by unfold goWayV; rw [if_neg h]

end Go.Proofs.YtdemcoghgnnheaaGreatDoor

namespace Go.Proofs.YtdemcoghgnnheaaGreatDoor
open Go.RowKit

theorem findOk_one {t : Ty} {k : Int} : findOk t [k] = (tyOk t && ixB k t.sizes.length) := by simp [findOk]
/-- One number in new memory. -/
theorem ints_one (w : World) (z : Int) (hz : I64 z) (t : TypeId) : IntsAt (w.alloc (.cells #[.int .i64 z] t)) w.heap.size (w.heap.size + 1) (.slice (some ⟨w.heap.size, 0, none⟩) 1 1) [z] :=
  (show Row (w.alloc (.cells #[.int .i64 z] t)) w.heap.size t ([z].map (Value.int .i64)) from Row.new w t [.int .i64 z]).ints (fun x hx => by simp at hx; subst hx; exact hz) (Nat.le_refl _) (by omega) (Nat.le_refl _) (by unfold maxLen; simp)

end Go.Proofs.YtdemcoghgnnheaaGreatDoor

namespace Go.Proofs.YtdemcoghgnnheaaGreatDoor
open Go.RowKit

/-- What a row of coercions makes of the first n values. -/
def mapL (cs : List Co) (zs : List Int) (n : Nat) : List Int := (List.range n).map fun v : Nat => goV cs (v : Int) zs
theorem mapL_zero (cs : List Co) (zs : List Int) : mapL cs zs 0 = [] := rfl
theorem mapL_succ (cs : List Co) (zs : List Int) (n : Nat) : mapL cs zs (n + 1) = mapL cs zs n ++ [goV cs (n : Int) zs] := by
  unfold mapL
  rw [List.range_succ, List.map_append]
  rfl
theorem mapL_len (cs : List Co) (zs : List Int) (n : Nat) : (mapL cs zs n).length = n := by simp [mapL]
/-- Is there such a way in valid types? -/
def wayB (t : Ty) (k : Int) (zs : List Int) : Bool := tyOk t && ixB k t.sizes.length && (wayEnd t.cos k zs).isSome
def wayMapV (t : Ty) (k : Int) (zs : List Int) : List Int := if wayB t k zs = true then mapL t.cos zs (t.sizes.getD k.toNat 0).toNat else []
theorem wayB_of {t : Ty} {k : Int} {zs : List Int} (h : wayB t k zs = true) : tyOk t = true ∧ ixB k t.sizes.length = true ∧ (wayEnd t.cos k zs).isSome = true := by
  unfold wayB at h
  simp only [Bool.and_eq_true] at h
  exact ⟨h.1.1, h.1.2, h.2⟩
theorem wayMapV_yes {t : Ty} {k : Int} {zs : List Int} (h : wayB t k zs = true) : wayMapV t k zs = mapL t.cos zs (t.sizes.getD k.toNat 0).toNat := by unfold wayMapV; rw [if_pos h]
theorem wayMapV_no {t : Ty} {k : Int} {zs : List Int} (h : wayB t k zs = false) : wayMapV t k zs = [] := by unfold wayMapV; rw [if_neg (by simp [h])]
/-- How many values a type of valid types has. -/
theorem size_of {t : Ty} {k : Int} (hty : tyOk t = true) (hk : ixB k t.sizes.length = true) : 0 ≤ k ∧ k < t.sizes.length ∧ ∃ (hn : k.toNat < t.sizes.length) (n : Nat), t.sizes[k.toNat] = (n : Int) ∧ n ≤ 4 ∧ t.sizes.getD k.toNat 0 = (n : Int) := by
  simp only [ixB, decide_eq_true_eq] at hk
  have hn : k.toNat < t.sizes.length := by omega
  have h := (sizesOk_of (tyOk_sizes hty)).2.2 _ hn
  refine ⟨hk.1, hk.2, hn, t.sizes[k.toNat].toNat, by omega, by omega, ?_⟩
  rw [List.getD_eq_getElem?_getD, List.getElem?_eq_getElem hn]
  simp only [Option.getD_some]
  omega
theorem goV_val {t : Ty} (h : tyOk t = true) : ∀ (zs : List Int) (k v : Int), ValOf t.sizes k v → (wayEnd t.cos k zs).isSome = true → ∃ q, ValOf t.sizes q (goV t.cos v zs) := by
  intro zs
  induction zs with
  | nil => intro k v hv _; exact ⟨k, hv⟩
  | cons i is ih =>
    intro k v hv hw
    obtain ⟨h0, h1, hi, hs, hw2⟩ := wayEnd_some (zs := i :: is) (j := 0) (by simp) hw
    simp only [List.getElem_cons_zero, List.drop_succ_cons, List.drop_zero] at h0 h1 hi hs hw2
    have := valOf_step h hi (by rw [hs]; exact hv)
    obtain ⟨_, _, _, _, _, hv2⟩ := this
    rw [goV, getD_at hi]
    exact ih _ _ hv2 hw2
theorem valOf_I64 {t : Ty} (h : tyOk t = true) {q v : Int} (hv : ValOf t.sizes q v) : I64 v := by
  obtain ⟨h1, h2, h3, h4⟩ := hv
  have hn : q.toNat < t.sizes.length := by omega
  have := (sizesOk_of (tyOk_sizes h)).2.2 _ hn
  rw [List.getD_eq_getElem?_getD, List.getElem?_eq_getElem hn] at h4
  simp only [Option.getD_some] at h4
  unfold I64
  omega
theorem wayMapV_wf (t : Ty) (k : Int) (zs : List Int) : ∀ z ∈ wayMapV t k zs, I64 z := by
  intro z hz
  by_cases h : wayB t k zs = true
  · rw [wayMapV_yes h] at hz
    obtain ⟨h1, h2, h3⟩ := wayB_of h
    obtain ⟨g1, g2, hn, n, e, _, e2⟩ := size_of h1 h2
    unfold mapL at hz
    obtain ⟨v, hv, rfl⟩ := List.mem_map.1 hz
    have hv := List.mem_range.1 hv
    rw [e2] at hv
    obtain ⟨q, hq⟩ := goV_val h1 zs k v ⟨g1, g2, by omega, by rw [e2]; omega⟩ h3
    exact valOf_I64 h1 hq
  · rw [wayMapV_no (by simpa using h)] at hz
    exact absurd hz (by simp)
theorem wayMapV_le (t : Ty) (k : Int) (zs : List Int) : (wayMapV t k zs).length ≤ 4 := by
  by_cases h : wayB t k zs = true
  · obtain ⟨h1, h2, h3⟩ := wayB_of h
    obtain ⟨g1, g2, hn, n, e, hn4, e2⟩ := size_of h1 h2
    rw [wayMapV_yes h, mapL_len, e2]
    omega
  · rw [wayMapV_no (by simpa using h)]; simp

/-- Are the types valid, and are a and b types of theirs? -/
def typesB (t : Ty) (a b : Int) : Bool := tyOk t && ixB a t.sizes.length && ixB b t.sizes.length

end Go.Proofs.YtdemcoghgnnheaaGreatDoor

namespace Go.Proofs.YtdemcoghgnnheaaGreatDoor
open Go.RowKit

/-- A slice of slices in new memory that reads as lists of numbers. -/
def WaysAt (w : World) (base : Nat) (ov : Value) (zss : List (List Int)) : Prop :=
  ∃ (xs : List Value) (S : Nat → Prop), w.ownsRow base 22 1 ov zss.length xs ∧ (∀ i, ∀ (h : i < zss.length), ∃ x, xs[i]? = some x ∧ IntsIn w S x zss[i]) ∧ ∀ b, S b → base ≤ b ∧ b < w.heap.size ∧ some b ≠ ov.ownBlock
theorem typesB_of {t : Ty} {a b : Int} (h : typesB t a b = true) : tyOk t = true ∧ 0 ≤ a ∧ a < t.sizes.length ∧ 0 ≤ b ∧ b < t.sizes.length := by
  simp only [typesB, ixB, Bool.and_eq_true, decide_eq_true_eq] at h
  exact ⟨h.1.1, h.1.2.1, h.1.2.2, h.2.1, h.2.2⟩
theorem typesB_len {t : Ty} (h : tyOk t = true) : t.sizes.length ≤ 5 := (sizesOk_of (tyOk_sizes h)).2.1

set_option maxRecDepth 100000 in
set_option maxHeartbeats 1000000 in
theorem l2Ways_any (lo hi : Nat) (sv cv : Value) (t : Ty) (a b : Int) (w : World) (hv : TyAt w lo hi sv cv t) (hB : hi ≤ w.heap.size) (htb : typesB t a b = true) :
    Calls Tryz.prog 86 #[.agg #[sv, cv], .int .i64 a, .int .i64 b] w fun e w' => ∃ ov, e = .returned ov ∧ Below w.heap.size w w' ∧ WaysAt w' w.heap.size ov (waysOf t a b) := by
  obtain ⟨A, cap, rfl, hl1, hm1, _⟩ := hv.1.form
  obtain ⟨B, bap, rfl, hl2, hm2, _⟩ := hv.2.form
  obtain ⟨hok, ha0, ha1, hb0, hb1⟩ := typesB_of htb
  have h5 := typesB_len hok
  have hwl := waysOf_len hok a b
  have hbel : Below w.heap.size w (((w.alloc (.cells #[.slice A t.sizes.length cap, .slice B t.cos.length bap] 34)).alloc (.cells #[] 22)).alloc (.cells #[.slice A t.sizes.length cap, .slice B t.cos.length bap, .int .i64 b, .slice none 0 0, .slice (some ⟨w.heap.size + 1, 0, none⟩) 0 0] 185)) := by go_grown
  have Hbel := Lib.hid hbel
  have Hv := Lib.hid (hv.below hbel hB)
  have hfp : FP (.slice A t.sizes.length cap) (.slice B t.cos.length bap) b w.heap.size (w.heap.size + 2) [] [] (((w.alloc (.cells #[.slice A t.sizes.length cap, .slice B t.cos.length bap] 34)).alloc (.cells #[] 22)).alloc (.cells #[.slice A t.sizes.length cap, .slice B t.cos.length bap, .int .i64 b, .slice none 0 0, .slice (some ⟨w.heap.size + 1, 0, none⟩) 0 0] 185)) (.slice none 0 0) (.slice (some ⟨w.heap.size + 1, 0, none⟩) 0 0) [] (fun _ => False) := by
    refine ⟨?_, by omega, World.ownsRow_nil _ _ _ _, ?_, fun i hi => absurd hi (by simp), fun b hb => hb.elim⟩
    · have := Row.new ((w.alloc (.cells #[.slice A t.sizes.length cap, .slice B t.cos.length bap] 34)).alloc (.cells #[] 22)) 185 [.slice A t.sizes.length cap, .slice B t.cos.length bap, .int .i64 b, .slice none 0 0, .slice (some ⟨w.heap.size + 1, 0, none⟩) 0 0]
      rw [World.size_alloc, World.size_alloc] at this
      exact this
    · have := World.ownsRow_lit (base := w.heap.size) (e := 22) (size := 1) (w.alloc (.cells #[.slice A t.sizes.length cap, .slice B t.cos.length bap] 34)) #[] 0 (by simp) (by unfold maxLen; omega) rfl
      rw [World.size_alloc] at this
      exact ownsRow_keep1 this fun g hg => Below.heap_alloc _ _ g (by simp only [Value.ownBlock, Option.some.injEq] at hg; simp; omega)
  have Hfp := Lib.hid hfp
  clear hv hfp hbel htb
  go_enter Tryz.func86, Tryz.ntmps86
  go_wp2_with fail
  refine (from_any lo hi _ _ t b w.heap.size (w.heap.size + 2) hok hB 5 a [] [] _ Hv.out (by simp; omega) ha0 ha1 (by omega) (by simp) (by simp) (by have : (waysF t.cos 5 a b).length ≤ 32768 := hwl; simp; omega) ⟨_, _, _, _, Hfp.out⟩).mono ?_
  rintro e w1 ⟨rfl, hb1, hfs1⟩
  obtain ⟨wv, ov, xs, S, h1⟩ := hfs1
  have c4 : w1.cell? ⟨w.heap.size + 2, 4, none⟩ = some ov := h1.row.cell 4
  have Hb1 := Lib.hid (Hbel.out.trans hb1)
  have H1 := Lib.hid h1
  clear hb1 h1
  go_wp2
  go_ret
  have e : ([] : List (List Int)) ++ (waysF t.cos 5 a b).map (([] : List Int) ++ ·) = waysOf t a b := by
    simp only [List.nil_append]
    exact List.map_id' _
  have h2 := H1.out
  rw [e] at h2
  exact ⟨_, rfl, Hb1.out, xs, S, h2.fouts, h2.ints, fun b hb => ⟨(h2.set b hb).1, (h2.set b hb).2.1, (h2.set b hb).2.2.2.2⟩⟩

/-- Is there a way? -/
def canB (t : Ty) (a b : Int) : Bool := decide (0 < (waysOf t a b).length)
def canC (t : Ty) (a b : Int) : Bool := typesB t a b && canB t a b

end Go.Proofs.YtdemcoghgnnheaaGreatDoor

namespace Go.Proofs.YtdemcoghgnnheaaGreatDoor
open Go.RowKit
attribute [local go_sem] Oper.semAt_some

set_option maxRecDepth 100000 in
set_option maxHeartbeats 1000000 in
theorem l2Can_any (lo hi : Nat) (sv cv : Value) (t : Ty) (a b : Int) (w : World) (hv : TyAt w lo hi sv cv t) (hB : hi ≤ w.heap.size) (htb : typesB t a b = true) :
    Calls Tryz.prog 52 #[.agg #[sv, cv], .int .i64 a, .int .i64 b] w fun e w' => e = .returned (.bool (canB t a b)) ∧ Below w.heap.size w w' := by
  obtain ⟨A, cap, rfl, hl1, hm1, _⟩ := hv.1.form
  obtain ⟨B, bap, rfl, hl2, hm2, _⟩ := hv.2.form
  have h3 : Below w.heap.size w (w.alloc (.cells #[.slice A t.sizes.length cap, .slice B t.cos.length bap] 34)) := by go_grown
  have hv3 := Lib.hid (hv.below h3 hB)
  have hwl := waysOf_len (typesB_of htb).1 a b
  clear hv
  go_enter Tryz.func52, Tryz.ntmps52
  go_wp2_with fail
  refine (l2Ways_any lo hi _ _ t a b _ hv3.out (by simp; omega) htb).mono ?_
  rintro e w1 ⟨ov, rfl, hb1, hwy⟩
  obtain ⟨xs, S, hown, _⟩ := hwy
  obtain ⟨OA, OC, rfl⟩ := owns_form hown
  have Hb1 := Lib.hid (h3.trans (hb1.mono (by simp)))
  clear hb1 hown
  go_wp2
  go_ret
  refine ⟨ret_bool ?_, Hb1.out⟩
  unfold canB
  rw [decide_eq_decide]
end Go.Proofs.YtdemcoghgnnheaaGreatDoor

namespace Go.Proofs.YtdemcoghgnnheaaGreatDoor
open Go.RowKit
attribute [local go_sem] Oper.semAt_some

/-- A valid system has a function. -/
noncomputable def hasFB (y : Sy) (i : Int) : Bool := syB y && ixB i y.fs.length
theorem hasFB_of {y : Sy} {i : Int} (h : hasFB y i = true) : SyOk y ∧ 0 ≤ i ∧ i < y.fs.length ∧ i.toNat < y.fs.length := by
  simp only [hasFB, Bool.and_eq_true, ixB, decide_eq_true_eq] at h
  exact ⟨syB_iff.1 h.1, h.2.1, h.2.2, by omega⟩

/-- Types can be coerced to others, one by one. -/
def FitsTo (t : Ty) (xs ys : List Int) : Prop := xs.length = ys.length ∧ ∀ j, j < xs.length → canB t (xs.getD j 0) (ys.getD j 0) = true
open Classical in
noncomputable def fitsToB (t : Ty) (xs ys : List Int) : Bool := decide (FitsTo t xs ys)
theorem fitsToB_yes {t : Ty} {xs ys : List Int} (h : FitsTo t xs ys) : fitsToB t xs ys = true := by unfold fitsToB; exact @decide_eq_true _ (Classical.propDecidable _) h
theorem fitsToB_no {t : Ty} {xs ys : List Int} (h : ¬ FitsTo t xs ys) : fitsToB t xs ys = false := by unfold fitsToB; exact @decide_eq_false _ (Classical.propDecidable _) h
theorem fitsToB_iff {t : Ty} {xs ys : List Int} : fitsToB t xs ys = true ↔ FitsTo t xs ys := by unfold fitsToB; exact @decide_eq_true_iff _ (Classical.propDecidable _)
theorem typesB_mk {t : Ty} {a b : Int} (h : tyOk t = true) (ha : 0 ≤ a ∧ a < t.sizes.length) (hb : 0 ≤ b ∧ b < t.sizes.length) : typesB t a b = true := by
  simp [typesB, h, ixB, ha, hb]

set_option maxRecDepth 100000 in
set_option maxHeartbeats 4000000 in
theorem l4Fits_any (lo hi lo1 hi1 lo2 hi2 : Nat) (sv cv xv yv : Value) (t : Ty) (xs ys : List Int) (w : World) (hv : TyAt w lo hi sv cv t) (hx : IntsAt w lo1 hi1 xv xs) (hy : IntsAt w lo2 hi2 yv ys) (hB : hi ≤ w.heap.size) (hB1 : hi1 ≤ w.heap.size) (hB2 : hi2 ≤ w.heap.size) (hok : tyOk t = true)
    (hxs : ∀ j, ∀ (hj : j < xs.length), 0 ≤ xs[j] ∧ xs[j] < t.sizes.length) (hys : ∀ j, ∀ (hj : j < ys.length), 0 ≤ ys[j] ∧ ys[j] < t.sizes.length) :
    Calls Tryz.prog 151 #[.agg #[sv, cv], xv, yv] w fun e w' => e = .returned (.bool (fitsToB t xs ys)) ∧ Below w.heap.size w w' := by
  obtain ⟨A, cap, rfl, hl1, hm1, hi0⟩ := hv.1.form
  obtain ⟨B, bap, rfl, hl2, hm2, hc0⟩ := hv.2.form
  obtain ⟨X, xap, rfl, hlx, hmx, hx1⟩ := hx.form
  obtain ⟨Y, yap, rfl, hly, hmy, hy1⟩ := hy.form
  unfold maxLen at hmx hmy
  have hT : TyAt w lo hi (.slice A t.sizes.length cap) (.slice B t.cos.length bap) t := ⟨hi0, hc0⟩
  have h3 : Below w.heap.size w (w.alloc (.cells #[.slice A t.sizes.length cap, .slice B t.cos.length bap] 34)) := by go_grown
  have HT := Lib.hid hT
  have Hx := Lib.hid hx1
  have Hy := Lib.hid hy1
  have Hxs := Lib.hid hxs
  have Hys := Lib.hid hys
  clear hv hx hy hi0 hc0 hx1 hy1 hT hxs hys
  go_enter Tryz.func151, Tryz.ntmps151
  go_wp2
  · rename_i hmin
    obtain ⟨wb, hwb⟩ : ∃ wb, wb = w.alloc (.cells #[.slice A t.sizes.length cap, .slice B t.cos.length bap] 34) := ⟨_, rfl⟩
    have hrow : Row wb w.heap.size 34 [.slice A t.sizes.length cap, .slice B t.cos.length bap] := by rw [hwb]; exact Row.new _ _ _
    have hbb : Below w.heap.size w wb := by rw [hwb]; exact h3
    have HTb := Lib.hid (HT.out.below hbb hB)
    have Hxb := Lib.hid (Hx.out.below hbb hB1)
    have Hyb := Lib.hid (Hy.out.below hbb hB2)
    have Hrow := Lib.hid hrow
    have Hbb := Lib.hid hbb
    have Hsz := Lib.hid hbb.size
    rw [← hwb]
    clear h3 hrow hbb hwb
    go_loopw [13] (fun i wr => ∃ k : Nat, k ≤ ys.length ∧ i = .int .i64 k ∧ Hid (Below wb.heap.size wb wr) ∧ Hid (∀ j, j < k → canB t (xs.getD j 0) (ys.getD j 0) = true)) (fun i _ => ys.length - (intOf i).toNat)
    case atStart => exact ⟨0, Nat.zero_le _, rfl, Below.refl _ _, fun j hj => absurd hj (by omega)⟩
    case round =>
      obtain ⟨k, hk, rfl, hbr, hok2⟩ := hrel
      have hsr := hbr.out.size
      have HbW : Hid (Below w.heap.size w wr) := Hbb.out.trans (hbr.out.mono Hsz.out)
      have hBr : hi ≤ wr.heap.size := by have := Hsz.out; omega
      have hBr1 : hi1 ≤ wr.heap.size := by have := Hsz.out; omega
      have hBr2 : hi2 ≤ wr.heap.size := by have := Hsz.out; omega
      by_cases hkl : k < ys.length
      · have hkx : k < xs.length := by omega
        have hky : k < ys.length := by omega
        have q0 := (Hrow.out.below hbr.out Hrow.out.lt).cell 0
        have q1 := (Hrow.out.below hbr.out Hrow.out.lt).cell 1
        simp only [List.getElem?_cons_zero, List.getElem?_cons_succ] at q0 q1
        have hls : w.heap.size < wr.heap.size := Nat.lt_of_lt_of_le Hrow.out.lt hsr
        obtain ⟨b1, o1, rfl, _, hb1, e0, _⟩ := (Hxb.out.below hbr.out (by have := Hsz.out; omega)).at_ hkx
        obtain ⟨b2, o2, rfl, _, hb2, e1, _⟩ := (Hyb.out.below hbr.out (by have := Hsz.out; omega)).at_ hky
        have htb := Lib.hid (typesB_mk hok (Hxs.out k hkx) (Hys.out k hky))
        have HTr := Lib.hid (HTb.out.below hbr.out (by have := Hsz.out; omega))
        have hg : Hid (canB t (xs.getD k 0) (ys.getD k 0) = canB t xs[k] ys[k]) := by show _ = _; rw [getD_of hkx, getD_of hky]
        have k0 : ∀ z : InC (Below wr.heap.size wr), z.val.cell? ⟨w.heap.size, 0, none⟩ = some (.slice A t.sizes.length cap) := fun z => (z.inD.cell (p := ⟨w.heap.size, 0, none⟩) (by dsimp only; omega)).trans q0
        have k1 : ∀ z : InC (Below wr.heap.size wr), z.val.cell? ⟨w.heap.size, 1, none⟩ = some (.slice B t.cos.length bap) := fun z => (z.inD.cell (p := ⟨w.heap.size, 1, none⟩) (by dsimp only; omega)).trans q1
        have k2 : ∀ z : InC (Below wr.heap.size wr), z.val.cell? ⟨b1, o1 + k, none⟩ = some (.int .i64 xs[k]) := fun z => (z.inD.cell (p := ⟨b1, o1 + k, none⟩) (by dsimp only; omega)).trans e0
        have k3 : ∀ z : InC (Below wr.heap.size wr), z.val.cell? ⟨b2, o2 + k, none⟩ = some (.int .i64 ys[k]) := fun z => (z.inD.cell (p := ⟨b2, o2 + k, none⟩) (by dsimp only; omega)).trans e1
        have hne : Nonempty (InC (Below wr.heap.size wr)) := ⟨⟨wr, Below.refl _ _⟩⟩
        have hkxI : (k : Int) < (xs.length : Int) := by omega
        have hkyI : (k : Int) < (ys.length : Int) := by omega
        clear q0 q1 e0 e1
        by_cases hc : canB t xs[k] ys[k] = true
        · have hok3 : Hid (∀ j, j < k + 1 → canB t (xs.getD j 0) (ys.getD j 0) = true) := fun j hj => by
            by_cases e : j = k
            · subst e; rw [hg.out]; exact hc
            · exact hok2.out j (by omega)
          have Hc := Lib.hid hc
          clear hc
          go_wp2_with fail
          refine wp_region_class (Below wr.heap.size wr) (by kernel_rfl) (by kernel_rfl) ((Below.refl _ _).drew) ?_
          repeat (go_big_quiet_step ((go_at_call 52; rename_i z; exact (l2Can_any lo hi _ _ t xs[k] ys[k] z.val (HTr.out.below z.inD hBr) (by have := z.inD.size; omega) htb.out).mono fun e w' ⟨he, hbx⟩ => ⟨by rw [he, Hc.out], ⟨_, z.inD.trans (hbx.mono z.inD.size)⟩, rfl⟩)))
          refine wpQuiet_nil ?_
          intro _ hw'
          obtain ⟨⟨wz, hbz⟩, rfl⟩ := hw'
          have Hbz := Lib.hid (hbr.out.trans (hbz.mono hsr))
          clear hbz
          go_wp2
          go_roundw
          case rel => exact ⟨k + 1, by omega, by go_num, Hbz.out, hok3⟩
          case measure => simp [intOf]; omega
        · have hcf : Hid (canB t xs[k] ys[k] = false) := by show _ = _; simpa using hc
          have H : Hid (fitsToB t xs ys = false) := fitsToB_no fun h => hc (by rw [← hg.out]; exact h.2 k hkx)
          clear hc
          go_wp2_with fail
          refine wp_region_class (Below wr.heap.size wr) (by kernel_rfl) (by kernel_rfl) ((Below.refl _ _).drew) ?_
          repeat (go_big_quiet_step ((go_at_call 52; rename_i z; exact (l2Can_any lo hi _ _ t xs[k] ys[k] z.val (HTr.out.below z.inD hBr) (by have := z.inD.size; omega) htb.out).mono fun e w' ⟨he, hbx⟩ => ⟨by rw [he, hcf.out], ⟨_, z.inD.trans (hbx.mono z.inD.size)⟩, rfl⟩)))
          refine wpQuiet_nil ?_
          intro _ hw'
          obtain ⟨⟨wz, hbz⟩, rfl⟩ := hw'
          have Hbz := Lib.hid (HbW.out.trans (hbz.mono HbW.out.size))
          clear hbz
          go_wp2
          go_ret
          exact ⟨ret_bool H.out.symm, Hbz.out⟩
      · obtain rfl : k = ys.length := by omega
        have H : Hid (fitsToB t xs ys = ((xs.length : Int) == (ys.length : Int))) := by
          show _ = _
          rw [Bool.eq_iff_iff, fitsToB_iff, beq_iff_eq]
          exact ⟨fun h => by have := h.1; omega, fun h => ⟨by omega, fun j hj => hok2.out j (by omega)⟩⟩
        go_wp2
        go_ret
        exact ⟨ret_bool H.out.symm, HbW.out⟩
  · rename_i hmin
    obtain ⟨wb, hwb⟩ : ∃ wb, wb = w.alloc (.cells #[.slice A t.sizes.length cap, .slice B t.cos.length bap] 34) := ⟨_, rfl⟩
    have hrow : Row wb w.heap.size 34 [.slice A t.sizes.length cap, .slice B t.cos.length bap] := by rw [hwb]; exact Row.new _ _ _
    have hbb : Below w.heap.size w wb := by rw [hwb]; exact h3
    have HTb := Lib.hid (HT.out.below hbb hB)
    have Hxb := Lib.hid (Hx.out.below hbb hB1)
    have Hyb := Lib.hid (Hy.out.below hbb hB2)
    have Hrow := Lib.hid hrow
    have Hbb := Lib.hid hbb
    have Hsz := Lib.hid hbb.size
    rw [← hwb]
    clear h3 hrow hbb hwb
    go_loopw [13] (fun i wr => ∃ k : Nat, k ≤ xs.length ∧ i = .int .i64 k ∧ Hid (Below wb.heap.size wb wr) ∧ Hid (∀ j, j < k → canB t (xs.getD j 0) (ys.getD j 0) = true)) (fun i _ => xs.length - (intOf i).toNat)
    case atStart => exact ⟨0, Nat.zero_le _, rfl, Below.refl _ _, fun j hj => absurd hj (by omega)⟩
    case round =>
      obtain ⟨k, hk, rfl, hbr, hok2⟩ := hrel
      have hsr := hbr.out.size
      have HbW : Hid (Below w.heap.size w wr) := Hbb.out.trans (hbr.out.mono Hsz.out)
      have hBr : hi ≤ wr.heap.size := by have := Hsz.out; omega
      have hBr1 : hi1 ≤ wr.heap.size := by have := Hsz.out; omega
      have hBr2 : hi2 ≤ wr.heap.size := by have := Hsz.out; omega
      by_cases hkl : k < xs.length
      · have hkx : k < xs.length := by omega
        have hky : k < ys.length := by omega
        have q0 := (Hrow.out.below hbr.out Hrow.out.lt).cell 0
        have q1 := (Hrow.out.below hbr.out Hrow.out.lt).cell 1
        simp only [List.getElem?_cons_zero, List.getElem?_cons_succ] at q0 q1
        have hls : w.heap.size < wr.heap.size := Nat.lt_of_lt_of_le Hrow.out.lt hsr
        obtain ⟨b1, o1, rfl, _, hb1, e0, _⟩ := (Hxb.out.below hbr.out (by have := Hsz.out; omega)).at_ hkx
        obtain ⟨b2, o2, rfl, _, hb2, e1, _⟩ := (Hyb.out.below hbr.out (by have := Hsz.out; omega)).at_ hky
        have htb := Lib.hid (typesB_mk hok (Hxs.out k hkx) (Hys.out k hky))
        have HTr := Lib.hid (HTb.out.below hbr.out (by have := Hsz.out; omega))
        have hg : Hid (canB t (xs.getD k 0) (ys.getD k 0) = canB t xs[k] ys[k]) := by show _ = _; rw [getD_of hkx, getD_of hky]
        have k0 : ∀ z : InC (Below wr.heap.size wr), z.val.cell? ⟨w.heap.size, 0, none⟩ = some (.slice A t.sizes.length cap) := fun z => (z.inD.cell (p := ⟨w.heap.size, 0, none⟩) (by dsimp only; omega)).trans q0
        have k1 : ∀ z : InC (Below wr.heap.size wr), z.val.cell? ⟨w.heap.size, 1, none⟩ = some (.slice B t.cos.length bap) := fun z => (z.inD.cell (p := ⟨w.heap.size, 1, none⟩) (by dsimp only; omega)).trans q1
        have k2 : ∀ z : InC (Below wr.heap.size wr), z.val.cell? ⟨b1, o1 + k, none⟩ = some (.int .i64 xs[k]) := fun z => (z.inD.cell (p := ⟨b1, o1 + k, none⟩) (by dsimp only; omega)).trans e0
        have k3 : ∀ z : InC (Below wr.heap.size wr), z.val.cell? ⟨b2, o2 + k, none⟩ = some (.int .i64 ys[k]) := fun z => (z.inD.cell (p := ⟨b2, o2 + k, none⟩) (by dsimp only; omega)).trans e1
        have hne : Nonempty (InC (Below wr.heap.size wr)) := ⟨⟨wr, Below.refl _ _⟩⟩
        have hkxI : (k : Int) < (xs.length : Int) := by omega
        have hkyI : (k : Int) < (ys.length : Int) := by omega
        clear q0 q1 e0 e1
        by_cases hc : canB t xs[k] ys[k] = true
        · have hok3 : Hid (∀ j, j < k + 1 → canB t (xs.getD j 0) (ys.getD j 0) = true) := fun j hj => by
            by_cases e : j = k
            · subst e; rw [hg.out]; exact hc
            · exact hok2.out j (by omega)
          have Hc := Lib.hid hc
          clear hc
          go_wp2_with fail
          refine wp_region_class (Below wr.heap.size wr) (by kernel_rfl) (by kernel_rfl) ((Below.refl _ _).drew) ?_
          repeat (go_big_quiet_step ((go_at_call 52; rename_i z; exact (l2Can_any lo hi _ _ t xs[k] ys[k] z.val (HTr.out.below z.inD hBr) (by have := z.inD.size; omega) htb.out).mono fun e w' ⟨he, hbx⟩ => ⟨by rw [he, Hc.out], ⟨_, z.inD.trans (hbx.mono z.inD.size)⟩, rfl⟩)))
          refine wpQuiet_nil ?_
          intro _ hw'
          obtain ⟨⟨wz, hbz⟩, rfl⟩ := hw'
          have Hbz := Lib.hid (hbr.out.trans (hbz.mono hsr))
          clear hbz
          go_wp2
          go_roundw
          case rel => exact ⟨k + 1, by omega, by go_num, Hbz.out, hok3⟩
          case measure => simp [intOf]; omega
        · have hcf : Hid (canB t xs[k] ys[k] = false) := by show _ = _; simpa using hc
          have H : Hid (fitsToB t xs ys = false) := fitsToB_no fun h => hc (by rw [← hg.out]; exact h.2 k hkx)
          clear hc
          go_wp2_with fail
          refine wp_region_class (Below wr.heap.size wr) (by kernel_rfl) (by kernel_rfl) ((Below.refl _ _).drew) ?_
          repeat (go_big_quiet_step ((go_at_call 52; rename_i z; exact (l2Can_any lo hi _ _ t xs[k] ys[k] z.val (HTr.out.below z.inD hBr) (by have := z.inD.size; omega) htb.out).mono fun e w' ⟨he, hbx⟩ => ⟨by rw [he, hcf.out], ⟨_, z.inD.trans (hbx.mono z.inD.size)⟩, rfl⟩)))
          refine wpQuiet_nil ?_
          intro _ hw'
          obtain ⟨⟨wz, hbz⟩, rfl⟩ := hw'
          have Hbz := Lib.hid (HbW.out.trans (hbz.mono HbW.out.size))
          clear hbz
          go_wp2
          go_ret
          exact ⟨ret_bool H.out.symm, Hbz.out⟩
      · obtain rfl : k = xs.length := by omega
        have H : Hid (fitsToB t xs ys = ((xs.length : Int) == (ys.length : Int))) := by
          show _ = _
          rw [Bool.eq_iff_iff, fitsToB_iff, beq_iff_eq]
          exact ⟨fun h => by have := h.1; omega, fun h => ⟨by omega, fun j hj => hok2.out j (by omega)⟩⟩
        go_wp2
        go_ret
        exact ⟨ret_bool H.out.symm, HbW.out⟩
end Go.Proofs.YtdemcoghgnnheaaGreatDoor

namespace Go.Proofs.YtdemcoghgnnheaaGreatDoor
open Go.RowKit
attribute [local go_sem] Oper.semAt_some

/-- The sizes of the types of a function's arguments. -/
def tsOf (ss args : List Int) : List Int := args.map fun a => ss.getD a.toNat 0
theorem tsOf_len (ss args : List Int) : (tsOf ss args).length = args.length := by simp [tsOf]
theorem tsOf_get (ss args : List Int) {j : Nat} (h : j < args.length) : (tsOf ss args).getD j 0 = ss.getD (args.getD j 0).toNat 0 := by
  rw [getD_of (by rw [tsOf_len]; exact h), getD_of h]
  simp [tsOf]
theorem tsOf_bound {ss args : List Int} (hok : sizesOk ss = true) (ha : ∀ j, ∀ (hj : j < args.length), 0 ≤ args[j] ∧ args[j] < ss.length) : ∀ j, j < (tsOf ss args).length → 1 ≤ (tsOf ss args).getD j 0 ∧ (tsOf ss args).getD j 0 ≤ 4 := by
  intro j hj
  rw [tsOf_len] at hj
  obtain ⟨_, _, hall⟩ := sizesOk_of hok
  obtain ⟨h0, h1⟩ := ha j hj
  have hlt : args[j].toNat < ss.length := by omega
  rw [tsOf_get ss args hj, getD_of hj, getD_of hlt]
  exact hall _ hlt
theorem prodTo_cells (ss args : List Int) : ∀ k, k ≤ args.length → prodTo (tsOf ss args) k = cellsTo ss args k := by
  intro k
  induction k with
  | zero => intro _; rfl
  | succ k ih =>
    intro hk
    show prodTo (tsOf ss args) k * (tsOf ss args).getD k 0 = cellsTo ss args k * ss.getD (args.getD k 0).toNat 0
    rw [ih (by omega), tsOf_get ss args (by omega)]

set_option maxRecDepth 100000 in
set_option maxHeartbeats 4000000 in
theorem caller_any (lo hi : Nat) (sv cv fv : Value) (y : Sy) (i : Int) (w : World) (hv : SyAt w lo hi sv cv fv y) (hB : hi ≤ w.heap.size) (c1 : hasFB y i = true) :
    Calls Tryz.prog 140 #[.agg #[sv, cv, fv], .int .i64 i] w fun e w' => ∃ tv rv, e = .returned (.func (Fn.func 175) #[.agg #[tv, rv]] #[]) ∧ Below w.heap.size w w' ∧ IntsAt w' w.heap.size w'.heap.size tv (tsOf y.ty.sizes (y.fs.getD i.toNat default).args) ∧ IntsAt w' lo hi rv (y.fs.getD i.toNat default).table := by
  obtain ⟨A, cap, rfl, hl1, hm1, hi1⟩ := hv.1.1.form
  obtain ⟨B, bap, rfl, hl2, hm2, hc1⟩ := hv.1.2.form
  obtain ⟨F, fap, rfl, hl3, hm3, hf1⟩ := hv.2.form
  unfold maxLen at hm3
  obtain ⟨hsy, hi0, hi1', hilt⟩ := hasFB_of c1
  obtain ⟨b, off, A1, cap1, A2, cap2, rfl, _, hbh, d0, d1, d2, d3, _, _, _, _, hfi⟩ := hf1.at_ hilt
  have hbw : b < w.heap.size := by omega
  obtain ⟨i0, hi0', hz0, hz1, hz2⟩ := info_parts Tryz.infoInt
  have Hfi := Lib.hid hfi
  have Hi1 := Lib.hid hi1
  have Hsy := Lib.hid hsy
  have few := (Hsy.out.each _ hilt).few
  have Hargs := Lib.hid (Hsy.out.each _ hilt).args
  clear hi1 hc1 hf1 hv hfi hsy c1
  go_enter Tryz.func140, Tryz.ntmps140
  go_wp2
  obtain ⟨W0, hW0⟩ : ∃ W0, W0 = ((w.alloc (.cells #[.slice A y.ty.sizes.length cap, .slice B y.ty.cos.length bap, .slice (some ⟨b, off, none⟩) y.fs.length fap] 37)).alloc (.cells #[.string y.fs[i.toNat].name, .slice A1 y.fs[i.toNat].args.length cap1, .int .i64 y.fs[i.toNat].res, .slice A2 y.fs[i.toNat].table.length cap2] 110)).alloc (.cells #[.slice none 0 0, .slice A2 y.fs[i.toNat].table.length cap2] 261) := ⟨_, rfl⟩
  have hr0 : Row W0 w.heap.size 37 [.slice A y.ty.sizes.length cap, .slice B y.ty.cos.length bap, .slice (some ⟨b, off, none⟩) y.fs.length fap] := by rw [hW0]; exact ((Row.new w _ _).alloc _).alloc _
  have hr2 : Row W0 (w.heap.size + 1 + 1) 261 [.slice none 0 0, .slice A2 y.fs[i.toNat].table.length cap2] := by
    have h := Row.new ((w.alloc (.cells #[.slice A y.ty.sizes.length cap, .slice B y.ty.cos.length bap, .slice (some ⟨b, off, none⟩) y.fs.length fap] 37)).alloc (.cells #[.string y.fs[i.toNat].name, .slice A1 y.fs[i.toNat].args.length cap1, .int .i64 y.fs[i.toNat].res, .slice A2 y.fs[i.toNat].table.length cap2] 110)) 261 [.slice none 0 0, .slice A2 y.fs[i.toNat].table.length cap2]
    simp only [World.size_alloc] at h
    rw [hW0]; exact h
  have hb0 : Below w.heap.size w W0 := by rw [hW0]; go_grown
  have hs0 : w.heap.size + 3 ≤ W0.heap.size := by rw [hW0]; simp
  have Hr0 := Lib.hid hr0
  have Hr2 := Lib.hid hr2
  have Hb0 := Lib.hid hb0
  rw [← hW0]
  clear hW0 hr0 hr2 hb0 d0 d1 d2 d3
  generalize hN : w.heap.size = N at *
  have HN := Lib.hid hN
  clear hN
  go_loopw [20] (fun q wr => ∃ (j : Nat) (l : Value), j ≤ y.fs[i.toNat].args.length ∧ q = .int .i64 j ∧ Hid (Below N w wr) ∧ N + 3 ≤ wr.heap.size ∧ Hid (Row wr N 37 [.slice A y.ty.sizes.length cap, .slice B y.ty.cos.length bap, .slice (some ⟨b, off, none⟩) y.fs.length fap]) ∧
    Hid (Row wr (N + 1 + 1) 261 [l, .slice A2 y.fs[i.toNat].table.length cap2]) ∧ Hid (wr.ownsRow (N + 3) 3 1 l j (((tsOf y.ty.sizes y.fs[i.toNat].args).take j).map (Value.int .i64)))) (fun q _ => y.fs[i.toNat].args.length - (intOf q).toNat)
  case atStart => exact ⟨0, .slice none 0 0, Nat.zero_le _, rfl, Hb0.out, hs0, Hr0.out, Hr2.out, World.ownsRow_nil _ _ _ _⟩
  case round =>
    obtain ⟨j, l, hj, rfl, hb, hsz, hr0, hr2, hown⟩ := hrel
    obtain ⟨LA, LC, rfl⟩ := owns_form hown.out
    have p0 := hr0.out.cell 0
    have p1 := hr0.out.cell 1
    have p2 := hr0.out.cell 2
    have t0 := hr2.out.cell 0
    have t1 := hr2.out.cell 1
    have tl := hr2.out.lt
    have pl := hr0.out.lt
    simp only [List.getElem?_cons_zero, List.getElem?_cons_succ] at p0 p1 p2 t0 t1
    by_cases hlt : j < y.fs[i.toNat].args.length
    · obtain ⟨b1, o1, rfl, _, hb1, e1, _⟩ := (Hfi.out.2.2.2.2.1.below hb.out hB).at_ hlt
      obtain ⟨ha0, ha1⟩ := Hargs.out j hlt
      have hlt2 : y.fs[i.toNat].args[j].toNat < y.ty.sizes.length := by omega
      obtain ⟨b2, o2, rfl, _, hb2, e2, _⟩ := (Hi1.out.below hb.out hB).at_ hlt2
      have hb2w : b2 < wr.heap.size := by omega
      have htake : Hid ((tsOf y.ty.sizes y.fs[i.toNat].args).take (j + 1) = (tsOf y.ty.sizes y.fs[i.toNat].args).take j ++ [y.ty.sizes[y.fs[i.toNat].args[j].toNat]]) := by
        show _ = _
        have hl : j < (tsOf y.ty.sizes y.fs[i.toNat].args).length := by simpa [tsOf] using hlt
        rw [List.take_succ_eq_append_getElem hl]
        congr 2
        simp only [tsOf, List.getElem_map]
        rw [List.getD_eq_getElem?_getD, List.getElem?_eq_getElem hlt2]; rfl
      have Hown := Lib.hid hown.out
      generalize hV : y.ty.sizes[y.fs[i.toNat].args[j].toNat] = V at *
      clear hV
      go_upto_region 6 with fail
      go_region_law (refine step_append_lies _ (by rfl) (.tmp 25) (.tmp 32) 22 (by rfl) (N + 3) 3 i0 _ 1 8 Tryz.underlying22 hi0' hz0 hz1 hz2 rfl (by omega) (.slice LA j LC) j (((tsOf y.ty.sizes y.fs[i.toNat].args).take j).map (Value.int .i64)) (by rfl) ((Hown.out.alloc _).drew) ⟨wr.heap.size, 0, none⟩ 1 1 [.int .i64 V] (by rfl) (by rfl) (World.news_of_block (cs := #[.int .i64 V]) (t := 3) (fr := (0, 0)) (heap_alloc_new wr _)) (by simp [Value.oneCell']) (by omega) (by unfold maxLen; omega) (by omega) (by (try simp); (try omega)) (wr.heap.size + 1) (by simp) ?_; intro g' cap3 w3 hown3 hgrow hat hlt3; have hC3 : w3.heap[N + 1 + 1]? = wr.heap[N + 1 + 1]? := (hgrow.block _ (by (try simp); (try omega)) (fun hc => by have := (owns_lt Hown.out _ hc.symm).1; omega)).trans (Below.heap_alloc wr _ _ (by omega)); have q2 := (hr2.out.keep hC3).cell 0; have q2f := (hr2.out.keep hC3).frozen 0; simp only [List.getElem?_cons_zero] at q2; have Hown3 := Lib.hid hown3; have Hk : Hid (∀ g, g < wr.heap.size → some g ≠ (Value.slice LA j LC).ownBlock → w3.heap[g]? = wr.heap[g]?) := (fun g h1 h2 => (hgrow.block g (by (try simp); (try omega)) h2).trans (Below.heap_alloc wr _ g h1)); have HG : Hid (w3.os = wr.os ∧ w3.tape = wr.tape ∧ w3.output = wr.output ∧ wr.heap.size ≤ w3.heap.size) := (⟨hgrow.os, hgrow.tape, hgrow.output, (by have := hgrow.size; simp at this; omega)⟩); have HC3 := Lib.hid hC3; clear hown3 hgrow hat hC3)
      all_goals
        go_wp2
        go_roundw
        case rel =>
          have hset : ∀ g, g ≠ N + 1 + 1 → (w3.setCell ⟨N + 1 + 1, 0, none⟩ (.slice (some ⟨g', 0, none⟩) (j + 1) cap3)).heap[g]? = w3.heap[g]? := fun g hg => Below.heap_setCell _ _ _ _ (by dsimp only; omega)
          have hold : ∀ g, g < N + 3 → w3.heap[g]? = wr.heap[g]? := fun g hg2 => Hk.out g (by omega) (fun e => by have := (owns_lt Hown.out _ e.symm).1; omega)
          refine ⟨j + 1, .slice (some ⟨g', 0, none⟩) (j + 1) cap3, by omega, by go_num, ⟨HG.out.1.trans hb.out.os, HG.out.2.1.trans hb.out.tape, HG.out.2.2.1.trans hb.out.output, by have h1 := HG.out.2.2.2; have h2 := hb.out.size; simp [World.setCell]; omega, fun g hg2 => (hset g (by omega)).trans ((hold g (by omega)).trans (hb.out.block g hg2))⟩, by have := HG.out.2.2.2; simp [World.setCell]; omega, (hr0.out.keep (hold _ (by omega))).far (by dsimp only; omega) _, (hr2.out.keep HC3.out).set_ 0 _, ?_⟩
          show World.ownsRow _ _ _ _ _ _ _
          rw [htake.out, List.map_append]
          exact ownsRow_keep1 Hown3.out fun g hg2 => hset g (by have := (owns_lt Hown3.out g hg2).1; omega)
        case measure => simp [intOf]; omega
    · obtain rfl : j = y.fs[i.toNat].args.length := by omega
      go_wp2
      go_ret
      have htk : (tsOf y.ty.sizes y.fs[i.toNat].args).take y.fs[i.toNat].args.length = tsOf y.ty.sizes y.fs[i.toNat].args := List.take_of_length_le (by rw [tsOf_len]; exact Nat.le_refl _)
      have ho := hown.out
      rw [htk] at ho
      rw [getD_of hilt, HN.out]
      have hwf : ∀ z ∈ tsOf y.ty.sizes y.fs[i.toNat].args, I64 z := fun z hz => by
        obtain ⟨j, hj, rfl⟩ := List.getElem_of_mem hz
        have := tsOf_bound (tyOk_sizes Hsy.out.ty) Hargs.out j hj
        rw [getD_of hj] at this
        unfold I64; omega
      refine ⟨_, _, rfl, hb.out, ?_, Hfi.out.2.2.2.2.2.below hb.out hB⟩
      have ho2 : wr.ownsRow (N + 3) 3 1 (.slice LA y.fs[i.toNat].args.length LC) (tsOf y.ty.sizes y.fs[i.toNat].args).length ((tsOf y.ty.sizes y.fs[i.toNat].args).map (Value.int .i64)) := by rw [tsOf_len]; exact ho
      exact ownsRow.intsAt (lo := N) (hi := wr.heap.size) ho2 hwf (by omega) (Nat.le_refl _)
end Go.Proofs.YtdemcoghgnnheaaGreatDoor

namespace Go.Proofs.YtdemcoghgnnheaaGreatDoor
open Go.RowKit
attribute [local go_sem] Oper.semAt_some

/-- What CallFunction returns. -/
noncomputable def fcallV (y : Sy) (i : Int) (vs : List Int) : Int := if hasFB y i = true then resV (tsOf y.ty.sizes (y.fs.getD i.toNat default).args) (y.fs.getD i.toNat default).table vs else -1
theorem fcallV_yes {y : Sy} {i : Int} {vs : List Int} (h : hasFB y i = true) : fcallV y i vs = resV (tsOf y.ty.sizes (y.fs.getD i.toNat default).args) (y.fs.getD i.toNat default).table vs := by unfold fcallV; exact if_pos h
theorem fcallV_no {y : Sy} {i : Int} {vs : List Int} (h : ¬ hasFB y i = true) : fcallV y i vs = -1 := by unfold fcallV; exact if_neg h

end Go.Proofs.YtdemcoghgnnheaaGreatDoor

namespace Go.Proofs.YtdemcoghgnnheaaGreatDoor
open Go.RowKit
attribute [local go_sem] Oper.semAt_some

set_option maxRecDepth 100000 in
set_option maxHeartbeats 4000000 in
theorem l4Call_any (lo hi lo1 hi1 : Nat) (sv cv fv vv : Value) (y : Sy) (i : Int) (vs : List Int) (w : World) (hv : SyAt w lo hi sv cv fv y) (hz : IntsAt w lo1 hi1 vv vs) (hB : hi ≤ w.heap.size) (hB1 : hi1 ≤ w.heap.size) (c : hasFB y i = true) (hilt : i.toNat < y.fs.length)
    (hin : InT (tsOf y.ty.sizes y.fs[i.toNat].args) vs) :
    Calls Tryz.prog 92 #[.agg #[sv, cv, fv], .int .i64 i, vv] w fun e w' => e = .returned (.int .i64 (fcallV y i vs)) ∧ Below w.heap.size w w' := by
  obtain ⟨A, cap, rfl, hl1, hm1, hi1'⟩ := hv.1.1.form
  obtain ⟨B, bap, rfl, hl2, hm2, hc1⟩ := hv.1.2.form
  obtain ⟨F, fap, rfl, hl3, hm3, hf1⟩ := hv.2.form
  obtain ⟨Z, zap, rfl, hl4, hm4, hz1⟩ := hz.form
  unfold maxLen at hm3 hm4
  obtain ⟨hsy, hi0, hilt', _⟩ := hasFB_of c
  have hfo := hsy.each _ hilt
  have H : Hid (fcallV y i vs = resV (tsOf y.ty.sizes y.fs[i.toNat].args) y.fs[i.toNat].table vs) := by show _ = _; rw [fcallV_yes c, getD_of hilt]
  have few : (tsOf y.ty.sizes y.fs[i.toNat].args).length ≤ 2 := by rw [tsOf_len]; exact hfo.few
  have Hb4 := Lib.hid (tsOf_bound (tyOk_sizes hsy.ty) hfo.args)
  have Hlen : Hid ((y.fs[i.toNat].table.length : Int) = prodTo (tsOf y.ty.sizes y.fs[i.toNat].args) (tsOf y.ty.sizes y.fs[i.toNat].args).length) := by show _ = _; rw [tsOf_len, prodTo_cells _ _ _ (Nat.le_refl _)]; exact hfo.len
  have Hin := Lib.hid hin
  have Hargs := Lib.hid hfo.args
  obtain ⟨b, off, A1, cap1, A2, cap2, rfl, _, hbh, d0, d1, d2, d3, _, _, _, _, hfi⟩ := hf1.at_ hilt
  have Hfi := Lib.hid hfi
  have Hi1 := Lib.hid hi1'
  have Hz := Lib.hid hz1
  have hbw : b < w.heap.size := by omega
  clear hi1' hc1 hf1 hv hz hz1 hfi hin hfo hsy c
  go_enter Tryz.func92, Tryz.ntmps92
  go_wp2
  obtain ⟨W0, hW0⟩ : ∃ W0, W0 = (w.alloc (.cells #[.slice A y.ty.sizes.length cap, .slice B y.ty.cos.length bap, .slice (some ⟨b, off, none⟩) y.fs.length fap] 37)).alloc (.cells #[.string y.fs[i.toNat].name, .slice A1 y.fs[i.toNat].args.length cap1, .int .i64 y.fs[i.toNat].res, .slice A2 y.fs[i.toNat].table.length cap2] 110) := ⟨_, rfl⟩
  have hr0 : Row W0 w.heap.size 37 [.slice A y.ty.sizes.length cap, .slice B y.ty.cos.length bap, .slice (some ⟨b, off, none⟩) y.fs.length fap] := by rw [hW0]; exact (Row.new w _ _).alloc _
  have hr1 : Row W0 (w.heap.size + 1) 110 [.string y.fs[i.toNat].name, .slice A1 y.fs[i.toNat].args.length cap1, .int .i64 y.fs[i.toNat].res, .slice A2 y.fs[i.toNat].table.length cap2] := by
    have h := Row.new (w.alloc (.cells #[.slice A y.ty.sizes.length cap, .slice B y.ty.cos.length bap, .slice (some ⟨b, off, none⟩) y.fs.length fap] 37)) 110 [.string y.fs[i.toNat].name, .slice A1 y.fs[i.toNat].args.length cap1, .int .i64 y.fs[i.toNat].res, .slice A2 y.fs[i.toNat].table.length cap2]
    rw [World.size_alloc] at h
    rw [hW0]; exact h
  have hb0 : Below w.heap.size w W0 := by rw [hW0]; go_grown
  have Hr0 := Lib.hid hr0
  have Hr1 := Lib.hid hr1
  have Hb0 := Lib.hid hb0
  rw [← hW0]
  clear hW0 hr0 hr1 hb0 d0 d1 d2 d3
  go_loopw [8, 18] (fun r q wr => ∃ k : Nat, k ≤ vs.length ∧ q = .int .i64 k ∧ r = .int .i64 (plTo (tsOf y.ty.sizes y.fs[i.toNat].args) vs k) ∧ Hid (∃ m, wr = W0.drewN m)) (fun _ q _ => vs.length - (intOf q).toNat)
  case atStart => exact ⟨0, Nat.zero_le _, rfl, rfl, ⟨0, rfl⟩⟩
  case round =>
    obtain ⟨k, hk, rfl, rfl, hm⟩ := hrel
    have hb : Hid (Below w.heap.size w wr) := by obtain ⟨m, rfl⟩ := hm.out; exact below_drewN Hb0.out m
    have hr0 : Row wr w.heap.size 37 [.slice A y.ty.sizes.length cap, .slice B y.ty.cos.length bap, .slice (some ⟨b, off, none⟩) y.fs.length fap] := by obtain ⟨m, rfl⟩ := hm.out; exact Hr0.out
    have hr1 : Row wr (w.heap.size + 1) 110 [.string y.fs[i.toNat].name, .slice A1 y.fs[i.toNat].args.length cap1, .int .i64 y.fs[i.toNat].res, .slice A2 y.fs[i.toNat].table.length cap2] := by obtain ⟨m, rfl⟩ := hm.out; exact Hr1.out
    have p0 := hr0.cell 0
    have t1 := hr1.cell 1
    have t3 := hr1.cell 3
    simp only [List.getElem?_cons_zero, List.getElem?_cons_succ] at p0 t1 t3
    clear hr0 hr1
    by_cases hlt : k < vs.length
    · have hkt : k < (tsOf y.ty.sizes y.fs[i.toNat].args).length := by rw [← Hin.out.1]; exact hlt
      have hka : k < y.fs[i.toNat].args.length := by rw [tsOf_len] at hkt; exact hkt
      obtain ⟨ha0, ha1⟩ := Hargs.out k hka
      have hlt2 : y.fs[i.toNat].args[k].toNat < y.ty.sizes.length := by omega
      obtain ⟨b0, o0, rfl, _, _, e0, _⟩ := (Hz.out.below hb.out hB1).at_ hlt
      obtain ⟨b1, o1, rfl, _, _, e1, _⟩ := (Hfi.out.2.2.2.2.1.below hb.out hB).at_ hka
      obtain ⟨b2, o2, rfl, _, _, e2, _⟩ := (Hi1.out.below hb.out hB).at_ hlt2
      have hkaI : (k : Int) < (y.fs[i.toNat].args.length : Int) := by omega
      have hgv : Hid (vs.getD k 0 = vs[k]) := getD_of hlt
      have hgt : Hid ((tsOf y.ty.sizes y.fs[i.toNat].args).getD k 0 = y.ty.sizes[y.fs[i.toNat].args[k].toNat]) := by show _ = _; rw [tsOf_get _ _ hka, getD_of hka, getD_of hlt2]
      have hb1 := plTo_bound few Hb4.out (k + 1) hkt (fun j hj => Hin.out.2 j (by omega))
      have hb2 := plTo_bound few Hb4.out k (by omega) (fun j hj => Hin.out.2 j (by omega))
      have hstep : plTo (tsOf y.ty.sizes y.fs[i.toNat].args) vs (k + 1) = plTo (tsOf y.ty.sizes y.fs[i.toNat].args) vs k * y.ty.sizes[y.fs[i.toNat].args[k].toNat] + vs[k] := by
        show plTo _ vs k * (tsOf y.ty.sizes y.fs[i.toNat].args).getD k 0 + vs.getD k 0 = _
        rw [hgv.out, hgt.out]
      have hv0 := (Hin.out.2 k hkt).1
      have ht4 := Hb4.out k hkt
      rw [hstep] at hb1
      rw [hgv.out] at hv0
      rw [hgt.out] at ht4
      have hm0 : 0 ≤ plTo (tsOf y.ty.sizes y.fs[i.toNat].args) vs k * y.ty.sizes[y.fs[i.toNat].args[k].toNat] := Int.mul_nonneg hb2.1 (by omega)
      have hwr := wrapIn (plTo (tsOf y.ty.sizes y.fs[i.toNat].args) vs k * y.ty.sizes[y.fs[i.toNat].args[k].toNat]) (by omega) (by omega)
      have hwr2 := wrapIn (plTo (tsOf y.ty.sizes y.fs[i.toNat].args) vs k * y.ty.sizes[y.fs[i.toNat].args[k].toNat] + vs[k]) (by omega) (by omega)
      have Hstep := Lib.hid hstep
      clear hstep hb1 hb2 hm0 ht4 hkt
      go_wp2
      go_quiet (fail)
      go_wp2
      go_roundw
      case rel => exact ⟨k + 1, by omega, by go_num, by rw [Hstep.out], (by show ∃ m, _ = _; obtain ⟨m, rfl⟩ := hm.out; exact ⟨_, World.drewN_drewN ..⟩)⟩
      case measure => simp [intOf]; omega
    · obtain rfl : k = vs.length := by omega
      have hpb := plTo_bound few Hb4.out _ (Nat.le_refl _) Hin.out.2
      have hL := Hlen.out
      rw [← Hin.out.1] at hpb hL
      have hlt2 : (plTo (tsOf y.ty.sizes y.fs[i.toNat].args) vs vs.length).toNat < y.fs[i.toNat].table.length := by omega
      have H2 : Hid (fcallV y i vs = y.fs[i.toNat].table[(plTo (tsOf y.ty.sizes y.fs[i.toNat].args) vs vs.length).toNat]) := by
        show _ = _
        rw [H.out, resV_yes Hin.out, ← Hin.out.1, getD_of hlt2]
      obtain ⟨b3, o3, rfl, _, _, e3, _⟩ := (Hfi.out.2.2.2.2.2.below hb.out hB).at_ hlt2
      have hp0 := hpb.1
      have hp1 : plTo (tsOf y.ty.sizes y.fs[i.toNat].args) vs vs.length < (y.fs[i.toNat].table.length : Int) := by omega
      clear hpb hL
      go_wp2
      go_ret
      exact ⟨ret_int H2.out.symm, hb.out⟩

end Go.Proofs.YtdemcoghgnnheaaGreatDoor

namespace Go.Proofs.YtdemcoghgnnheaaGreatDoor
open Go.RowKit

/-- The value of an explicit term. -/
noncomputable def valM (y : Sy) : Mk → Int
  | .lit _ v => v
  | .co i m => lookOf (y.ty.cos.getD i default).map (valM y m)
  | .a0 i => fcallV y i []
  | .a1 i m => fcallV y i [valM y m]
  | .a2 i m p => fcallV y i [valM y m, valM y p]
/-- All its parts, each behind those within it. -/
def itM : Mk → List Mk
  | .lit k v => [.lit k v]
  | .co i m => itM m ++ [.co i m]
  | .a0 i => [.a0 i]
  | .a1 i m => itM m ++ [.a1 i m]
  | .a2 i m p => itM m ++ itM p ++ [.a2 i m p]
/-- What is right within it. -/
def inM : Mk → List Mk
  | .lit _ _ => []
  | .co _ m => [m]
  | .a0 _ => []
  | .a1 _ m => [m]
  | .a2 _ m p => [m, p]
noncomputable def stM (y : Sy) (m : Mk) : List Int := (itM m).map (valM y)
theorem itM_in : ∀ m : Mk, itM m = ((inM m).map itM).flatten ++ [m]
  | .lit _ _ => rfl
  | .co _ _ => by simp [itM, inM]
  | .a0 _ => rfl
  | .a1 _ _ => by simp [itM, inM]
  | .a2 _ _ _ => by simp [itM, inM]
theorem inM_two (m : Mk) : (inM m).length ≤ 2 := by cases m <;> simp [inM]
theorem inM_len {m p : Mk} (h : p ∈ inM m) : (mkT p).length + 3 ≤ (mkT m).length := by
  match m, h with
  | .co i m, h => simp [inM] at h; subst h; simp [mkT, dg]
  | .a1 i m, h => simp [inM] at h; subst h; simp [mkT, dg]
  | .a2 i m q, h =>
    simp [inM] at h
    rcases h with h | h
    · subst h; simp [mkT, dg] <;> omega
    · subst h; simp [mkT, dg] <;> omega
theorem inM_ok {y : Sy} {m p : Mk} (hm : MkOk y m) (h : p ∈ inM m) : MkOk y p := by
  match m, hm, h with
  | .co i m, hm, h => simp [inM] at h; subst h; exact hm.2.2.1
  | .a1 i m, hm, h => simp [inM] at h; subst h; exact hm.2.2.2.1
  | .a2 i m q, hm, h =>
    simp [inM] at h
    rcases h with h | h
    · subst h; exact hm.2.2.2.1
    · subst h; exact hm.2.2.2.2.1
theorem itM_len : ∀ m : Mk, (itM m).length ≤ (mkT m).length
  | .lit _ _ => by simp [itM, mkT, dg]
  | .co _ m => by have := itM_len m; simp [itM, mkT, dg]; omega
  | .a0 _ => by simp [itM, mkT, dg]
  | .a1 _ m => by have := itM_len m; simp [itM, mkT, dg]; omega
  | .a2 _ m p => by have := itM_len m; have := itM_len p; simp [itM, mkT, dg]; omega
theorem itM_last (m : Mk) : ∃ l, itM m = l ++ [m] := ⟨_, itM_in m⟩
theorem itM_ok {y : Sy} : ∀ {m : Mk}, MkOk y m → ∀ p ∈ itM m, MkOk y p
  | .lit _ _, h, p, hp => by simp [itM] at hp; subst hp; exact h
  | .co i m, h, p, hp => by
    simp [itM] at hp
    rcases hp with hp | hp
    · exact itM_ok (m := m) h.2.2.1 p hp
    · subst hp; exact h
  | .a0 _, h, p, hp => by simp [itM] at hp; subst hp; exact h
  | .a1 i m, h, p, hp => by
    simp [itM] at hp
    rcases hp with hp | hp
    · exact itM_ok (m := m) h.2.2.2.1 p hp
    · subst hp; exact h
  | .a2 i m q, h, p, hp => by
    simp [itM] at hp
    rcases hp with hp | hp | hp
    · exact itM_ok (m := m) h.2.2.2.1 p hp
    · exact itM_ok (m := q) h.2.2.2.2.1 p hp
    · subst hp; exact h

theorem hasV0_iff {ss : List Int} {k v : Int} : hasV0 ss k v = true ↔ 0 ≤ k ∧ k < ss.length ∧ 0 ≤ v ∧ v < ss.getD k.toNat 0 := by
  unfold hasV0 ixB
  simp only [Bool.and_eq_true, decide_eq_true_eq]
  exact ⟨fun h => ⟨h.1.1, h.1.2, h.2.1, h.2.2⟩, fun h => ⟨⟨h.1, h.2.1⟩, h.2.2.1, h.2.2.2⟩⟩
theorem hasFB_yes {y : Sy} (hy : SyOk y) {i : Nat} (hi : i < y.fs.length) : hasFB y i = true := by
  unfold hasFB
  rw [syB_yes hy, Bool.true_and, ixB_yes (by omega) (by omega)]
theorem tyOk_at {t : Ty} (h : tyOk t = true) {i : Nat} (hi : i < t.cos.length) : coOk t.sizes t.cos[i] = true := by
  simp only [tyOk, Bool.and_eq_true, List.all_eq_true] at h
  exact h.2 _ (List.getElem_mem hi)
/-- The result of a function for values of the types of its arguments is one of its type. -/
theorem fcallV_ok {y : Sy} (hy : SyOk y) {i : Nat} (hi : i < y.fs.length) {vs : List Int} (hv : InT (tsOf y.ty.sizes y.fs[i].args) vs) : hasV0 y.ty.sizes y.fs[i].res (fcallV y i vs) = true := by
  have hf := hy.each i hi
  have hfew : (tsOf y.ty.sizes y.fs[i].args).length ≤ 2 := by rw [tsOf_len]; exact hf.few
  have hp := plTo_bound hfew (tsOf_bound (tyOk_sizes hy.ty) hf.args) _ (Nat.le_refl _) hv.2
  have hl : (y.fs[i].table.length : Int) = prodTo (tsOf y.ty.sizes y.fs[i].args) (tsOf y.ty.sizes y.fs[i].args).length := by rw [tsOf_len, prodTo_cells _ _ _ (Nat.le_refl _)]; exact hf.len
  have e : fcallV y i vs = y.fs[i].table.getD (plTo (tsOf y.ty.sizes y.fs[i].args) vs (tsOf y.ty.sizes y.fs[i].args).length).toNat 0 := by
    rw [fcallV_yes (hasFB_yes hy hi), Int.toNat_natCast, getD_get hi, resV_yes hv]
  have hlt : (plTo (tsOf y.ty.sizes y.fs[i].args) vs (tsOf y.ty.sizes y.fs[i].args).length).toNat < y.fs[i].table.length := by omega
  rw [e, getD_get hlt]
  have ht := hf.table _ hlt
  exact hasV0_iff.2 ⟨hf.res.1, hf.res.2, ht.1, ht.2⟩
theorem args_in {y : Sy} {i : Nat} (hi : i < y.fs.length) {j : Nat} (hj : j < (y.fs.getD i default).args.length) {m : Mk} {v : Int} (hk : kindM y m = (y.fs.getD i default).args.getD j 0) (hv : hasV0 y.ty.sizes (kindM y m) v = true) : 0 ≤ v ∧ v < (tsOf y.ty.sizes y.fs[i].args).getD j 0 := by
  rw [getD_get hi] at hj hk
  rw [tsOf_get _ _ hj, ← hk]
  exact (hasV0_iff.1 hv).2.2
/-- The value of an explicit term is one of its type. -/
theorem valM_ok {y : Sy} (hy : SyOk y) : ∀ {m : Mk}, MkOk y m → hasV0 y.ty.sizes (kindM y m) (valM y m) = true
  | .lit _ _, h => h.2.2
  | .co i m, h => by
    have hi := h.1
    have ih := hasV0_iff.1 (valM_ok hy (m := m) h.2.2.1)
    have hco := coOk_of (tyOk_at hy.ty h.1)
    rw [h.2.2.2, getD_get h.1] at ih
    have hlt : (valM y m).toNat < y.ty.cos[i].map.length := by omega
    have hm := hco.2.2.2.2 _ hlt
    have e : valM y (.co i m) = y.ty.cos[i].map[(valM y m).toNat] := by
      show lookOf (y.ty.cos.getD i default).map (valM y m) = _
      rw [getD_get h.1, lookOf, if_pos ⟨ih.2.2.1, by omega⟩, getD_get hlt]
    have ek : kindM y (.co i m) = y.ty.cos[i].dst := by show (y.ty.cos.getD i default).dst = _; rw [getD_get h.1]
    rw [e, ek]
    exact hasV0_iff.2 ⟨by omega, hco.2.2.1, hm.1, by omega⟩
  | .a0 i, h => by
    have hi := h.1
    have ek : kindM y (.a0 i) = y.fs[i].res := by show (y.fs.getD i default).res = _; rw [getD_get h.1]
    have hl : y.fs[i].args.length = 0 := by have := h.2.2; rwa [getD_get hi] at this
    rw [ek]
    exact fcallV_ok hy h.1 ⟨by rw [tsOf_len, hl]; rfl, fun j hj => by rw [tsOf_len] at hj; omega⟩
  | .a1 i m, h => by
    have hi := h.1
    have ek : kindM y (.a1 i m) = y.fs[i].res := by show (y.fs.getD i default).res = _; rw [getD_get h.1]
    have hl : y.fs[i].args.length = 1 := by have := h.2.2.1; rwa [getD_get h.1] at this
    have i1 := args_in h.1 (j := 0) (by rw [h.2.2.1]; omega) h.2.2.2.2 (valM_ok hy (m := m) h.2.2.2.1)
    rw [ek]
    refine fcallV_ok hy h.1 ⟨by rw [tsOf_len, hl]; rfl, fun j hj => ?_⟩
    rw [tsOf_len] at hj
    obtain rfl : j = 0 := by omega
    exact i1
  | .a2 i m p, h => by
    have hi := h.1
    have ek : kindM y (.a2 i m p) = y.fs[i].res := by show (y.fs.getD i default).res = _; rw [getD_get h.1]
    have hl : y.fs[i].args.length = 2 := by have := h.2.2.1; rwa [getD_get h.1] at this
    have i1 := args_in h.1 (j := 0) (by rw [h.2.2.1]; omega) h.2.2.2.2.2.1 (valM_ok hy (m := m) h.2.2.2.1)
    have i2 := args_in h.1 (j := 1) (by rw [h.2.2.1]; omega) h.2.2.2.2.2.2 (valM_ok hy (m := p) h.2.2.2.2.1)
    rw [ek]
    refine fcallV_ok hy h.1 ⟨by rw [tsOf_len, hl]; rfl, fun j hj => ?_⟩
    rw [tsOf_len] at hj
    have : j = 0 ∨ j = 1 := by omega
    rcases this with rfl | rfl
    · exact i1
    · exact i2
theorem valM_small {y : Sy} (hy : SyOk y) {m : Mk} (h : MkOk y m) : 0 ≤ valM y m ∧ valM y m ≤ 3 ∧ I64 (valM y m) := by
  have hv := hasV0_iff.1 (valM_ok hy h)
  obtain ⟨_, _, h4⟩ := sizesOk_of (tyOk_sizes hy.ty)
  have hk : (kindM y m).toNat < y.ty.sizes.length := by omega
  have := h4 _ hk
  rw [getD_get hk] at hv
  unfold I64
  omega
/-- What a call is of: the values of its arguments are of their types. -/
theorem inT_ok {y : Sy} (hy : SyOk y) {i : Nat} {ms : List Mk} (h2 : ms.length ≤ 2) (h : MkOk y (mkA i ms)) : ∃ hi : i < y.fs.length, InT (tsOf y.ty.sizes y.fs[i].args) (ms.map (valM y)) := by
  match ms, h2, h with
  | [], _, h =>
    have hi := h.1
    have hl : y.fs[i].args.length = 0 := by have := h.2.2; rwa [getD_get hi] at this
    exact ⟨h.1, by rw [tsOf_len, hl]; rfl, fun j hj => by rw [tsOf_len] at hj; omega⟩
  | [m], _, h =>
    have hi := h.1
    have hl : y.fs[i].args.length = 1 := by have := h.2.2.1; rwa [getD_get h.1] at this
    have i1 := args_in h.1 (j := 0) (by rw [h.2.2.1]; omega) h.2.2.2.2 (valM_ok hy (m := m) h.2.2.2.1)
    refine ⟨h.1, by rw [tsOf_len, hl]; rfl, fun j hj => ?_⟩
    rw [tsOf_len] at hj
    obtain rfl : j = 0 := by omega
    exact i1
  | [m, p], _, h =>
    have hi := h.1
    have hl : y.fs[i].args.length = 2 := by have := h.2.2.1; rwa [getD_get h.1] at this
    have i1 := args_in h.1 (j := 0) (by rw [h.2.2.1]; omega) h.2.2.2.2.2.1 (valM_ok hy (m := m) h.2.2.2.1)
    have i2 := args_in h.1 (j := 1) (by rw [h.2.2.1]; omega) h.2.2.2.2.2.2 (valM_ok hy (m := p) h.2.2.2.2.1)
    refine ⟨h.1, by rw [tsOf_len, hl]; rfl, fun j hj => ?_⟩
    rw [tsOf_len] at hj
    have : j = 0 ∨ j = 1 := by omega
    rcases this with rfl | rfl
    · exact i1
    · exact i2
theorem valM_mkA (y : Sy) (i : Nat) (ms : List Mk) (h : ms.length ≤ 2) : valM y (mkA i ms) = fcallV y i (ms.map (valM y)) := by
  match ms, h with
  | [], _ => rfl
  | [_], _ => rfl
  | [_, _], _ => rfl
theorem stM_64 {y : Sy} (hy : SyOk y) {m : Mk} (h : MkOk y m) : ∀ z ∈ stM y m, I64 z := by
  intro z hz
  obtain ⟨p, hp, rfl⟩ := List.mem_map.1 hz
  exact (valM_small hy (itM_ok h p hp)).2.2
end Go.Proofs.YtdemcoghgnnheaaGreatDoor

