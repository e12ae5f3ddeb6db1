/-
  The contract of IsRedundant, the model's.
-/
import Derived.Test.YtokklaoldgdkaaaShort
import Derived.BigQuiet
import Derived.Deep.RegionWith
import Derived.Test.YtokklaoldgdkaaaRinv
import Derived.Test.YtokklaoldgdkaaaMem
import Derived.Test.YtokklaoldgdkaaaSapply
namespace Go.Proofs.Ytokklaoldgdkaaa
open Go.RowKit

theorem waysJ_mem {cs : List Co} {n : Nat} {k goal : Int} {j : Nat} {z : List Int} : z ∈ waysJ cs n k goal j ↔ ∃ i, i < j ∧ (cs.getD i default).src = k ∧ ∃ y, y ∈ waysF cs n (cs.getD i default).dst goal ∧ (i : Int) :: y = z := by
  unfold waysJ
  simp only [List.mem_flatMap, List.mem_range]
  constructor
  · rintro ⟨i, hi, hz⟩
    split at hz
    case isTrue hs =>
      obtain ⟨y, hy, e⟩ := List.mem_map.1 hz
      exact ⟨i, hi, hs, y, hy, e⟩
    case isFalse => simp at hz
  · rintro ⟨i, hi, hs, y, hy, e⟩
    exact ⟨i, hi, by rw [if_pos hs]; exact List.mem_map.2 ⟨y, hy, e⟩⟩

/-- All ways lead to the goal. -/
theorem waysF_end {cs : List Co} : ∀ (n : Nat) (k goal : Int), ∀ z ∈ waysF cs n k goal, wayEnd cs k z = some goal := by
  intro n
  induction n with
  | zero => intro k goal z hz; simp [waysF] at hz
  | succ n ih =>
    intro k goal z hz
    by_cases h : k = goal
    · subst h; rw [waysF_eq] at hz; simp at hz; subst hz; rfl
    · rw [waysF_ne h] at hz
      obtain ⟨i, hi, hs, y, hy, rfl⟩ := waysJ_mem.1 hz
      rw [wayEnd, show ((i : Int)).toNat = i from Int.toNat_natCast i, if_pos ⟨ixB_yes (by omega) (by omega), hs⟩]
      exact ih _ _ y hy
theorem waysOf_end {t : Ty} {a b : Int} {z : List Int} (h : z ∈ waysOf t a b) : wayEnd t.cos a z = some b := waysF_end 5 a b z h

/-- No way is there twice. -/
theorem waysF_nodup {cs : List Co} : ∀ (n : Nat) (k goal : Int), (waysF cs n k goal).Pairwise (· ≠ ·) := by
  intro n
  induction n with
  | zero => intro k goal; simp [waysF]
  | succ n ih =>
    intro k goal
    by_cases h : k = goal
    · subst h; rw [waysF_eq]; simp
    · rw [waysF_ne h]
      have key : ∀ j, j ≤ cs.length → (waysJ cs n k goal j).Pairwise (· ≠ ·) := by
        intro j
        induction j with
        | zero => intro _; simp [waysJ_zero]
        | succ j ihj =>
          intro hj
          by_cases hs : cs[j].src = k
          · rw [waysJ_hit (by omega) hs, List.pairwise_append]
            refine ⟨ihj (by omega), ?_, fun a ha b hb e => ?_⟩
            · rw [List.pairwise_map]
              exact (ih _ _).imp fun hab e => hab (List.cons.inj e).2
            · obtain ⟨i, hi, _, y, _, rfl⟩ := waysJ_mem.1 ha
              obtain ⟨y2, _, rfl⟩ := List.mem_map.1 hb
              have := (List.cons.inj e).1
              omega
          · rw [waysJ_miss (by omega) hs]
            exact ihj (by omega)
      exact key _ (Nat.le_refl _)

/-- A coercion by itself is a way. -/
theorem waysOf_one {t : Ty} (h : tyOk t = true) {i : Nat} (hi : i < t.cos.length) : [(i : Int)] ∈ waysOf t t.cos[i].src t.cos[i].dst := by
  obtain ⟨h1, h2, h3, _⟩ := coOk_of (tyOk_co h hi)
  show _ ∈ waysF t.cos (4 + 1) _ _
  rw [waysF_ne (by omega)]
  exact waysJ_mem.2 ⟨i, hi, by rw [getD_at hi], [], by rw [getD_at hi]; show _ ∈ waysF t.cos (3 + 1) _ _; rw [waysF_eq]; simp, rfl⟩

/-- What a way makes of each of the four numbers, -1 of those that are no value. -/
def imgAt (t : Ty) (k : Int) (z : List Int) (v : Nat) : Int := if (v : Int) < t.sizes.getD k.toNat 0 then goV t.cos (v : Int) z else -1
def imgV (t : Ty) (k : Int) (z : List Int) : List Int := [imgAt t k z 0, imgAt t k z 1, imgAt t k z 2, imgAt t k z 3]
theorem imgAt_in {t : Ty} {k : Int} {z : List Int} {v : Nat} (h : (v : Int) < t.sizes.getD k.toNat 0) : imgAt t k z v = goV t.cos (v : Int) z := if_pos h
theorem imgAt_out {t : Ty} {k : Int} {z : List Int} {v : Nat} (h : ¬ (v : Int) < t.sizes.getD k.toNat 0) : imgAt t k z v = -1 := if_neg h
theorem imgAt_wf {t : Ty} (h : tyOk t = true) {k : Int} {z : List Int} {v : Nat} (hk : 0 ≤ k) (hk2 : k < t.sizes.length) (hz : (wayEnd t.cos k z).isSome = true) : I64 (imgAt t k z v) := by
  by_cases hv : (v : Int) < t.sizes.getD k.toNat 0
  · rw [imgAt_in hv]
    obtain ⟨q, hq⟩ := goV_val h z k (v : Int) ⟨hk, hk2, by omega, hv⟩ hz
    exact valOf_I64 h hq
  · rw [imgAt_out hv]; unfold I64; omega
theorem sizes_four {t : Ty} (h : tyOk t = true) {k : Int} (hk : 0 ≤ k) (hk2 : k < t.sizes.length) : t.sizes.getD k.toNat 0 ≤ 4 := by
  have hs : k.toNat < t.sizes.length := by omega
  have := (sizesOk_of (tyOk_sizes h)).2.2 _ hs
  rw [List.getD_eq_getElem?_getD, List.getElem?_eq_getElem hs]
  simp only [Option.getD_some]
  omega
/-- Two ways make the same of all values just if their images are one. -/
theorem imgV_eq {t : Ty} (h : tyOk t = true) {k : Int} (hk : 0 ≤ k) (hk2 : k < t.sizes.length) {y z : List Int} : imgV t k y = imgV t k z ↔ ∀ v : Nat, (v : Int) < t.sizes.getD k.toNat 0 → goV t.cos (v : Int) y = goV t.cos (v : Int) z := by
  have h4 := sizes_four h hk hk2
  constructor
  · intro e v hv
    simp only [imgV, List.cons.injEq, and_true] at e
    obtain ⟨e0, e1, e2, e3⟩ := e
    have hlt : v < 4 := by omega
    rw [← imgAt_in (z := y) hv, ← imgAt_in (z := z) hv]
    rcases (by omega : v = 0 ∨ v = 1 ∨ v = 2 ∨ v = 3) with rfl | rfl | rfl | rfl <;> assumption
  · intro e
    have key : ∀ v : Nat, imgAt t k y v = imgAt t k z v := fun v => by
      by_cases hv : (v : Int) < t.sizes.getD k.toNat 0
      · rw [imgAt_in hv, imgAt_in hv, e v hv]
      · rw [imgAt_out hv, imgAt_out hv]
    simp only [imgV, key]

/-- Do all ways make the same of a value? -/
def sameB (t : Ty) (a b v : Int) : Bool := (waysOf t a b).all fun z => goV t.cos v z == goV t.cos v ((waysOf t a b).headD [])
def agreeV (t : Ty) (a b v : Int) : Bool := typesB t a b && (hasV0 t.sizes a v && sameB t a b v)
/-- Does another way make the same as a coercion? -/
def redB (t : Ty) (i : Nat) (c : Co) : Bool := (waysOf t c.src c.dst).any fun z => !(decide (z = [(i : Int)])) && decide (mapL t.cos z (t.sizes.getD c.src.toNat 0).toNat = c.map)
end Go.Proofs.Ytokklaoldgdkaaa

namespace Go.Proofs.Ytokklaoldgdkaaa
open Go.RowKit

theorem same_pre {xs ys : List Int} (hl : xs.length = ys.length) (h : ∀ k, ∀ (h1 : k < xs.length) (h2 : k < ys.length), xs[k] = ys[k]) : xs = ys := List.ext_getElem hl h

set_option maxRecDepth 100000 in
set_option maxHeartbeats 2000000 in
theorem l3Same_any (lo hi lo2 hi2 : Nat) (xv yv : Value) (xs ys : List Int) (w : World) (hx : IntsAt w lo hi xv xs) (hy : IntsAt w lo2 hi2 yv ys) (hB : hi ≤ w.heap.size) (hB2 : hi2 ≤ w.heap.size) :
    Calls Try.prog 109 #[xv, yv] w fun e w' => e = .returned (.bool (decide (xs = ys))) ∧ Below w.heap.size w w' := by
  obtain ⟨X, xap, rfl, hlx, hmx, hx1⟩ := hx.form
  obtain ⟨Y, yap, rfl, hly, hmy, hy1⟩ := hy.form
  unfold maxLen at hmx hmy
  have Hx := Lib.hid hx1
  have Hy := Lib.hid hy1
  clear hx hy hx1 hy1
  go_enter Try.func109, Try.ntmps109
  go_wp2
  · go_loopw [11] (fun i wr => ∃ j : Nat, j ≤ ys.length ∧ i = .int .i64 j ∧ Hid (Below w.heap.size w wr) ∧ Hid (∀ k, ∀ (h1 : k < xs.length) (h2 : k < ys.length), k < j → xs[k] = ys[k])) (fun i _ => ys.length - (intOf i).toNat)
    case atStart => exact ⟨0, Nat.zero_le _, rfl, Below.refl _ _, fun k _ _ h => absurd h (by omega)⟩
    case round =>
      obtain ⟨j, hj, rfl, hb, hpre⟩ := hrel
      by_cases hlt : j < ys.length
      · obtain ⟨b, off, rfl, _, _, c0, _⟩ := (Hx.out.below hb.out hB).at_ (k := j) (by omega)
        obtain ⟨b', off', rfl, _, _, c0', _⟩ := (Hy.out.below hb.out hB2).at_ (k := j) (by omega)
        have hi1 : (j : Int) < (xs.length : Int) := by omega
        have hi2' : (j : Int) < (ys.length : Int) := by omega
        by_cases he : xs[j] = ys[j]
        · have htest : (xs[j] != ys[j]) = false := by simpa using he
          have hpre2 : Hid (∀ k, ∀ (h1 : k < xs.length) (h2 : k < ys.length), k < j + 1 → xs[k] = ys[k]) := fun k h1 h2 h => by
            by_cases e : k = j
            · subst e; exact he
            · exact hpre.out k h1 h2 (by omega)
          clear he
          go_wp2
          go_quiet (fail)
          go_wp2
          go_roundw
          case rel => exact ⟨j + 1, by omega, by go_num, below_drewN hb.out _, hpre2⟩
          case measure => simp [intOf]; omega
        · have htest : (xs[j] != ys[j]) = true := by simpa using he
          have hno : Hid (decide (xs = ys) = false) := by show _ = _; exact decide_eq_false fun e => he (by subst e; rfl)
          clear he
          go_wp2
          go_quiet (fail)
          go_wp2
          go_ret
          exact ⟨ret_bool hno.out.symm, below_drewN hb.out _⟩
      · obtain rfl : j = ys.length := by omega
        go_wp2
        go_ret
        refine ⟨ret_bool ?_, hb.out⟩
        rw [Bool.eq_iff_iff, beq_iff_eq, decide_eq_true_eq]
        constructor
        · intro e
          exact same_pre (by omega) fun k h1 h2 => hpre.out k h1 h2 (by omega)
        · rintro rfl
          rfl
  · go_loopw [11] (fun i wr => ∃ j : Nat, j ≤ xs.length ∧ i = .int .i64 j ∧ Hid (Below w.heap.size w wr) ∧ Hid (∀ k, ∀ (h1 : k < xs.length) (h2 : k < ys.length), k < j → xs[k] = ys[k])) (fun i _ => xs.length - (intOf i).toNat)
    case atStart => exact ⟨0, Nat.zero_le _, rfl, Below.refl _ _, fun k _ _ h => absurd h (by omega)⟩
    case round =>
      obtain ⟨j, hj, rfl, hb, hpre⟩ := hrel
      by_cases hlt : j < xs.length
      · obtain ⟨b, off, rfl, _, _, c0, _⟩ := (Hx.out.below hb.out hB).at_ (k := j) (by omega)
        obtain ⟨b', off', rfl, _, _, c0', _⟩ := (Hy.out.below hb.out hB2).at_ (k := j) (by omega)
        have hi1 : (j : Int) < (xs.length : Int) := by omega
        have hi2' : (j : Int) < (ys.length : Int) := by omega
        by_cases he : xs[j] = ys[j]
        · have htest : (xs[j] != ys[j]) = false := by simpa using he
          have hpre2 : Hid (∀ k, ∀ (h1 : k < xs.length) (h2 : k < ys.length), k < j + 1 → xs[k] = ys[k]) := fun k h1 h2 h => by
            by_cases e : k = j
            · subst e; exact he
            · exact hpre.out k h1 h2 (by omega)
          clear he
          go_wp2
          go_quiet (fail)
          go_wp2
          go_roundw
          case rel => exact ⟨j + 1, by omega, by go_num, below_drewN hb.out _, hpre2⟩
          case measure => simp [intOf]; omega
        · have htest : (xs[j] != ys[j]) = true := by simpa using he
          have hno : Hid (decide (xs = ys) = false) := by show _ = _; exact decide_eq_false fun e => he (by subst e; rfl)
          clear he
          go_wp2
          go_quiet (fail)
          go_wp2
          go_ret
          exact ⟨ret_bool hno.out.symm, below_drewN hb.out _⟩
      · obtain rfl : j = xs.length := by omega
        go_wp2
        go_ret
        refine ⟨ret_bool ?_, hb.out⟩
        rw [Bool.eq_iff_iff, beq_iff_eq, decide_eq_true_eq]
        constructor
        · intro e
          exact same_pre (by omega) fun k h1 h2 => hpre.out k h1 h2 (by omega)
        · rintro rfl
          rfl
end Go.Proofs.Ytokklaoldgdkaaa

namespace Go.Proofs.Ytokklaoldgdkaaa
open Go.RowKit
attribute [local go_sem] Oper.semAt_some

/-- The k-th element of a list of lists. -/
theorem WaysAt.at_ {w : World} {base : Nat} {ov : Value} {zss : List (List Int)} (h : WaysAt w base ov zss) : ∃ (O : Option Addr) (oc : Nat), ov = .slice O zss.length oc ∧ zss.length ≤ maxLen ∧ ∀ j, ∀ (hj : j < zss.length), ∃ g A2 c2, O = some ⟨g, 0, none⟩ ∧ base ≤ g ∧ g < w.heap.size ∧ w.cell? ⟨g, j, none⟩ = some (.slice A2 zss[j].length c2) ∧ IntsAt w base w.heap.size (.slice A2 zss[j].length c2) zss[j] := by
  obtain ⟨xs, S, hown, hints, hS⟩ := h
  obtain ⟨OA, OC, rfl⟩ := owns_form hown
  refine ⟨OA, OC, rfl, ?_, ?_⟩
  · obtain ⟨_, ⟨e, h0⟩ | ⟨g, cap', cur, e, _, _, h1, h2, _⟩⟩ := hown
    · rw [h0]; exact Nat.zero_le _
    · omega
  intro j hj
  obtain ⟨x, hx, hz⟩ := hints j hj
  have hlt := owns_lt hown
  obtain ⟨_, ⟨_, h0⟩ | ⟨g, cap', cur, e, hrest⟩⟩ := hown
  · omega
  · simp only [Value.slice.injEq] at e
    obtain ⟨rfl, -, rfl⟩ := e
    have hc := World.ownsRow.cells (⟨‹_›, .inr ⟨g, OC, cur, rfl, hrest⟩⟩ : w.ownsRow _ 22 1 (.slice (some ⟨g, 0, none⟩) zss.length OC) zss.length xs) (g := g) rfl j x hx
    have hat := hz.at (lo := base) (hi := w.heap.size) fun b hb => ⟨(hS b hb).1, (hS b hb).2.1⟩
    obtain ⟨A2, c2, rfl, _, _, hat2⟩ := hat.form
    rw [Go.WideShapes.add_plain, Nat.zero_add] at hc
    exact ⟨g, A2, c2, rfl, (hlt g rfl).1, (hlt g rfl).2, hc, hat2⟩

theorem headD_get {l : List (List Int)} (h : 0 < l.length) : l.headD [] = l[0] := by
  cases l with
  | nil => simp at h
  | cons p q => rfl
theorem sameB_no {t : Ty} {a b v : Int} {j : Nat} (hj : j < (waysOf t a b).length) (h : ¬ goV t.cos v (waysOf t a b)[j] = goV t.cos v ((waysOf t a b).headD [])) : sameB t a b v = false := by
  cases e : sameB t a b v with
  | false => rfl
  | true =>
    unfold sameB at e
    rw [List.all_eq_true] at e
    exact absurd (eq_of_beq (e _ (List.getElem_mem hj))) h

set_option maxRecDepth 100000 in
set_option maxHeartbeats 4000000 in
theorem specAgree_any (lo hi : Nat) (sv cv : Value) (t : Ty) (a b v : Int) (w : World) (hv : TyAt w lo hi sv cv t) (hB : hi ≤ w.heap.size) :
    Calls Try.prog 31 #[.agg #[sv, cv], .int .i64 a, .int .i64 b, .int .i64 v] w fun e w' => e = .returned (.bool (agreeV t a b v)) ∧ Below w.heap.size w w' := by
  obtain ⟨A, cap, rfl, hl1, hm1, _⟩ := hv.1.form
  obtain ⟨B, bap, rfl, hl2, hm2, _⟩ := hv.2.form
  have h3 : Below w.heap.size w (w.alloc (.cells #[.slice A t.sizes.length cap, .slice B t.cos.length bap] 30)) := by go_grown
  have hv3 := Lib.hid (hv.below h3 hB)
  have Hv := Lib.hid hv
  clear hv
  go_enter Try.func31, Try.ntmps31
  go_wp2_with fail
  refine (l2Types_any lo hi _ _ t a b _ hv3.out (by simp; omega)).mono ?_
  rintro e w1 ⟨rfl, hb1⟩
  have H1 := Lib.hid (hb1.mono (by simp : w.heap.size + 1 ≤ _))
  obtain ⟨q0, q1, hl, _⟩ := box2 H1.out
  clear hb1
  by_cases htb : typesB t a b = true
  · have Htb := Lib.hid htb
    rw [htb]
    clear htb
    go_wp2_with fail
    refine (l1Has_any lo hi _ _ t a v _ (Hv.out.below (box2 H1.out).2.2.2 hB) (by omega) (tyOk_sizes (typesB_of Htb.out).1)).mono ?_
    rintro e w2 ⟨rfl, hb2⟩
    have H2 := Lib.hid (H1.out.trans (hb2.mono (by omega)))
    clear hb2 q0 q1
    obtain ⟨q0, q1, hl2, _⟩ := box2 H2.out
    by_cases hh : hasV0 t.sizes a v = true
    · have Hh := Lib.hid hh
      have hfin : Hid (agreeV t a b v = sameB t a b v) := by show _ = _; unfold agreeV; rw [Htb.out, hh]; rfl
      rw [hh]
      clear hh
      go_wp2_with fail
      refine (l2Ways_any lo hi _ _ t a b _ (Hv.out.below (box2 H2.out).2.2.2 hB) (by omega) Htb.out).mono ?_
      rintro e w3 ⟨ov, rfl, hb3, hways⟩
      have H3 := Lib.hid (H2.out.trans (hb3.mono (by omega)))
      obtain ⟨O, oc, rfl, hom, hcell⟩ := hways.at_
      have Hcell := Lib.hid hcell
      have hl3 := (box2 H3.out).2.2.1
      unfold maxLen at hom
      clear hb3 hways hcell q0 q1
      go_wp2
      go_loopw [30] (fun i wr => ∃ j : Nat, j ≤ (waysOf t a b).length ∧ i = .int .i64 j ∧ Hid (Below w3.heap.size w3 wr) ∧ Hid (∀ k, ∀ (hk : k < (waysOf t a b).length), k < j → goV t.cos v (waysOf t a b)[k] = goV t.cos v ((waysOf t a b).headD []))) (fun i _ => (waysOf t a b).length - (intOf i).toNat)
      case atStart => exact ⟨0, Nat.zero_le _, rfl, Below.refl _ _, fun k _ h => absurd h (by omega)⟩
      case round =>
        obtain ⟨j, hj, rfl, hbr, hpre⟩ := hrel
        have hbs := hbr.out.size
        by_cases hlt : j < (waysOf t a b).length
        · obtain ⟨g, A2, c2, rfl, hg0, hg1, cz, hat⟩ := Hcell.out j hlt
          obtain ⟨g', A0, c0, e0, _, _, cz0, hat0⟩ := Hcell.out 0 (by omega)
          simp only [Option.some.injEq, Addr.mk.injEq, and_true] at e0
          subst e0
          have H4 := Lib.hid (H3.out.trans (hbr.out.mono (by omega)))
          obtain ⟨zj, ezj, czr, Hat, hwj⟩ : ∃ z, Hid (z = (waysOf t a b)[j]) ∧ wr.cell? ⟨g, j, none⟩ = some (.slice A2 z.length c2) ∧ Hid (IntsAt wr w2.heap.size w3.heap.size (.slice A2 z.length c2) z) ∧ Hid ((wayEnd t.cos a z).isSome = true) :=
            ⟨(waysOf t a b)[j], Lib.hid rfl, (hbr.out.cell (p := ⟨g, j, none⟩) hg1).trans cz, hat.below hbr.out (Nat.le_refl _), by show _ = true; rw [waysOf_end (List.getElem_mem hlt)]; rfl⟩
          obtain ⟨z0, ez0, cz0r, Hat0, hw0⟩ : ∃ z, Hid (z = (waysOf t a b).headD []) ∧ wr.cell? ⟨g, 0, none⟩ = some (.slice A0 z.length c0) ∧ Hid (IntsAt wr w2.heap.size w3.heap.size (.slice A0 z.length c0) z) ∧ Hid ((wayEnd t.cos a z).isSome = true) :=
            ⟨(waysOf t a b)[0], Lib.hid (headD_get (by omega)).symm, (hbr.out.cell (p := ⟨g, 0, none⟩) hg1).trans cz0, hat0.below hbr.out (Nat.le_refl _), by show _ = true; rw [waysOf_end (List.getElem_mem (by omega))]; rfl⟩
          have k0 : ∀ x : InC (Below wr.heap.size wr), x.val.cell? ⟨w.heap.size, 0, none⟩ = some (.slice A t.sizes.length cap) := fun x => (box2 (H4.out.trans (x.inD.mono (box2 H4.out).2.2.1))).1
          have k1 : ∀ x : InC (Below wr.heap.size wr), x.val.cell? ⟨w.heap.size, 1, none⟩ = some (.slice B t.cos.length bap) := fun x => (box2 (H4.out.trans (x.inD.mono (box2 H4.out).2.2.1))).2.1
          have k2 : ∀ x : InC (Below wr.heap.size wr), x.val.cell? ⟨g, 0, none⟩ = some (.slice A0 z0.length c0) := fun x => (x.inD.cell (p := ⟨g, 0, none⟩) (by dsimp only; omega)).trans cz0r
          have hne : Nonempty (InC (Below wr.heap.size wr)) := ⟨⟨_, Below.refl _ _⟩⟩
          have hcj : ∀ x : InC (Below wr.heap.size wr), Calls Try.prog 83 #[.agg #[.slice A t.sizes.length cap, .slice B t.cos.length bap], .slice A2 zj.length c2, .int .i64 v] x.val fun e w' => e = .returned (.int .i64 (goV t.cos v zj)) ∧ ∃ y : InC (Below wr.heap.size wr), w' = y.val := fun x =>
            (l2Go_any lo hi _ _ _ _ _ t a v zj x.val (Hv.out.below ((box2 H4.out).2.2.2.trans (x.inD.mono (by omega))) hB) (by have := x.inD.size; omega) (Hat.out.below x.inD hbs) (by have := x.inD.size; omega) (typesB_of Htb.out).1 (valOf_hasV0.1 Hh.out) hwj.out).mono fun e w' ⟨he, hb⟩ => ⟨he, ⟨_, x.inD.trans (hb.mono x.inD.size)⟩, rfl⟩
          have hc0 : ∀ x : InC (Below wr.heap.size wr), Calls Try.prog 83 #[.agg #[.slice A t.sizes.length cap, .slice B t.cos.length bap], .slice A0 z0.length c0, .int .i64 v] x.val fun e w' => e = .returned (.int .i64 (goV t.cos v z0)) ∧ ∃ y : InC (Below wr.heap.size wr), w' = y.val := fun x =>
            (l2Go_any lo hi _ _ _ _ _ t a v z0 x.val (Hv.out.below ((box2 H4.out).2.2.2.trans (x.inD.mono (by omega))) hB) (by have := x.inD.size; omega) (Hat0.out.below x.inD hbs) (by have := x.inD.size; omega) (typesB_of Htb.out).1 (valOf_hasV0.1 Hh.out) hw0.out).mono fun e w' ⟨he, hb⟩ => ⟨he, ⟨_, x.inD.trans (hb.mono x.inD.size)⟩, rfl⟩
          have Hcj := Lib.hid hcj
          have Hc0 := Lib.hid hc0
          clear cz cz0 hat hat0 hcj hc0
          go_wp2_with fail
          refine wp_region_class (Below wr.heap.size wr) (by kernel_rfl) (by kernel_rfl) (Below.refl _ _).drew ?_
          repeat (go_big_quiet_step ((first
            | (go_at_call 83; rename_i x; with_reducible exact Hcj.out x)
            | (go_at_call 83; rename_i x; with_reducible exact Hc0.out x))))
          refine wpQuiet_nil ?_
          intro _ hw'
          obtain ⟨⟨w5, hb5⟩, rfl⟩ := hw'
          have Hb5 := Lib.hid (hbr.out.trans (hb5.mono hbs))
          clear hb5
          by_cases hne2 : goV t.cos v zj = goV t.cos v z0
          · have htest : (goV t.cos v zj != goV t.cos v z0) = false := by simpa using hne2
            have hpre2 : Hid (∀ k, ∀ (hk : k < (waysOf t a b).length), k < j + 1 → goV t.cos v (waysOf t a b)[k] = goV t.cos v ((waysOf t a b).headD [])) := fun k hk h => by
              by_cases e : k = j
              · subst e; rw [← ezj.out, ← ez0.out]; exact hne2
              · exact hpre.out k hk (by omega)
            clear hne2
            go_wp2
            go_roundw
            case rel => exact ⟨j + 1, by omega, by go_num, Hb5, hpre2⟩
            case measure => simp [intOf]; omega
          · have htest : (goV t.cos v zj != goV t.cos v z0) = true := by simpa using hne2
            have hno := Lib.hid (sameB_no hlt (v := v) (by rw [← ezj.out, ← ez0.out]; exact hne2))
            clear hne2
            go_wp2
            go_ret
            exact ⟨ret_bool (by rw [hfin.out, hno.out]), (box2 H3.out).2.2.2.trans (Hb5.out.mono (by omega))⟩
        · obtain rfl : j = (waysOf t a b).length := by omega
          have hyes : Hid (sameB t a b v = true) := by
            show _ = true
            unfold sameB
            rw [List.all_eq_true]
            intro z hz
            obtain ⟨k, hk, rfl⟩ := List.getElem_of_mem hz
            rw [hpre.out k hk hk]
            exact beq_self_eq_true _
          go_wp2
          go_ret
          exact ⟨ret_bool (by rw [hfin.out, hyes.out]), (box2 H3.out).2.2.2.trans (hbr.out.mono (by omega))⟩
    · have hfin : Hid (agreeV t a b v = false) := by show _ = _; unfold agreeV; rw [(by simpa using hh : hasV0 t.sizes a v = false)]; simp
      have hhf : hasV0 t.sizes a v = false := by simpa using hh
      rw [hhf]
      clear hh hhf
      go_wp2
      go_ret
      exact ⟨ret_bool hfin.out.symm, (box2 H2.out).2.2.2⟩
  · have hokf : typesB t a b = false := by simpa using htb
    have hfin : Hid (agreeV t a b v = false) := by show _ = _; unfold agreeV; rw [hokf, Bool.false_and]
    rw [hokf]
    clear htb hokf
    go_wp2
    go_ret
    exact ⟨ret_bool hfin.out.symm, (box2 H1.out).2.2.2⟩
end Go.Proofs.Ytokklaoldgdkaaa

namespace Go.Proofs.Ytokklaoldgdkaaa
open Go.RowKit

theorem if_yes {c : Bool} {A B : Prop} (h : c = true) (ha : A) : if c = true then A else B := by rw [if_pos h]; exact ha
theorem if_no {c : Bool} {A B : Prop} (h : c = false) (hb : B) : if c = true then A else B := by rw [h]; exact hb

structure RedF (run : Bool) (wr : World) (mz : List Int) (f : Nat → Bool) (x24 x25 x26 x27 x28 x29 x30 x31 x32 x33 x34 x35 x36 x37 x38 x39 x40 x41 x42 x43 v24 v25 v26 v27 v28 v29 v30 v31 v32 v33 v34 v35 v36 v37 v38 v39 v40 v41 v42 v43 : Value) (u : World) : Prop where
  wb : Below wr.heap.size wr u
  b0 : f 0 = true → x24 = v24
  b1 : f 1 = true → x25 = v25
  b2 : f 2 = true → x26 = v26
  b3 : f 3 = true → x27 = v27
  b4 : f 4 = true → x28 = v28
  b5 : f 5 = true → x29 = v29
  b6 : f 6 = true → x30 = v30
  b7 : f 7 = true → x31 = v31
  b8 : f 8 = true → x32 = v32
  b9 : f 9 = true → x33 = v33
  b10 : f 10 = true → x34 = v34
  b11 : f 11 = true → x35 = v35
  b12 : f 12 = true → x36 = v36
  b13 : f 13 = true → x37 = v37
  b14 : f 14 = true → x38 = v38
  b15 : run = true → f 15 = true → ∃ A c, x39 = .slice A mz.length c ∧ IntsAt u wr.heap.size u.heap.size x39 mz
  b16 : f 16 = true → x40 = v40
  b17 : f 17 = true → x41 = v41
  b18 : f 18 = true → x42 = v42
  b19 : f 19 = true → x43 = v43
section
variable {run : Bool} {wr u : World} {mz : List Int} {f : Nat → Bool} {x24 x25 x26 x27 x28 x29 x30 x31 x32 x33 x34 x35 x36 x37 x38 x39 x40 x41 x42 x43 v24 v25 v26 v27 v28 v29 v30 v31 v32 v33 v34 v35 v36 v37 v38 v39 v40 v41 v42 v43 : Value}
theorem RedF.s0 (h : RedF run wr mz f x24 x25 x26 x27 x28 x29 x30 x31 x32 x33 x34 x35 x36 x37 x38 x39 x40 x41 x42 x43 v24 v25 v26 v27 v28 v29 v30 v31 v32 v33 v34 v35 v36 v37 v38 v39 v40 v41 v42 v43 u) : RedF run wr mz (fun k => decide (k = 0) || f k) v24 x25 x26 x27 x28 x29 x30 x31 x32 x33 x34 x35 x36 x37 x38 x39 x40 x41 x42 x43 v24 v25 v26 v27 v28 v29 v30 v31 v32 v33 v34 v35 v36 v37 v38 v39 v40 v41 v42 v43 u where
  wb := h.wb
  b0 := fun _ => rfl
  b1 := by simpa using h.b1
  b2 := by simpa using h.b2
  b3 := by simpa using h.b3
  b4 := by simpa using h.b4
  b5 := by simpa using h.b5
  b6 := by simpa using h.b6
  b7 := by simpa using h.b7
  b8 := by simpa using h.b8
  b9 := by simpa using h.b9
  b10 := by simpa using h.b10
  b11 := by simpa using h.b11
  b12 := by simpa using h.b12
  b13 := by simpa using h.b13
  b14 := by simpa using h.b14
  b15 := by simpa using h.b15
  b16 := by simpa using h.b16
  b17 := by simpa using h.b17
  b18 := by simpa using h.b18
  b19 := by simpa using h.b19
theorem RedF.s1 (h : RedF run wr mz f x24 x25 x26 x27 x28 x29 x30 x31 x32 x33 x34 x35 x36 x37 x38 x39 x40 x41 x42 x43 v24 v25 v26 v27 v28 v29 v30 v31 v32 v33 v34 v35 v36 v37 v38 v39 v40 v41 v42 v43 u) : RedF run wr mz (fun k => decide (k = 1) || f k) x24 v25 x26 x27 x28 x29 x30 x31 x32 x33 x34 x35 x36 x37 x38 x39 x40 x41 x42 x43 v24 v25 v26 v27 v28 v29 v30 v31 v32 v33 v34 v35 v36 v37 v38 v39 v40 v41 v42 v43 u where
  wb := h.wb
  b0 := by simpa using h.b0
  b1 := fun _ => rfl
  b2 := by simpa using h.b2
  b3 := by simpa using h.b3
  b4 := by simpa using h.b4
  b5 := by simpa using h.b5
  b6 := by simpa using h.b6
  b7 := by simpa using h.b7
  b8 := by simpa using h.b8
  b9 := by simpa using h.b9
  b10 := by simpa using h.b10
  b11 := by simpa using h.b11
  b12 := by simpa using h.b12
  b13 := by simpa using h.b13
  b14 := by simpa using h.b14
  b15 := by simpa using h.b15
  b16 := by simpa using h.b16
  b17 := by simpa using h.b17
  b18 := by simpa using h.b18
  b19 := by simpa using h.b19
theorem RedF.s2 (h : RedF run wr mz f x24 x25 x26 x27 x28 x29 x30 x31 x32 x33 x34 x35 x36 x37 x38 x39 x40 x41 x42 x43 v24 v25 v26 v27 v28 v29 v30 v31 v32 v33 v34 v35 v36 v37 v38 v39 v40 v41 v42 v43 u) : RedF run wr mz (fun k => decide (k = 2) || f k) x24 x25 v26 x27 x28 x29 x30 x31 x32 x33 x34 x35 x36 x37 x38 x39 x40 x41 x42 x43 v24 v25 v26 v27 v28 v29 v30 v31 v32 v33 v34 v35 v36 v37 v38 v39 v40 v41 v42 v43 u where
  wb := h.wb
  b0 := by simpa using h.b0
  b1 := by simpa using h.b1
  b2 := fun _ => rfl
  b3 := by simpa using h.b3
  b4 := by simpa using h.b4
  b5 := by simpa using h.b5
  b6 := by simpa using h.b6
  b7 := by simpa using h.b7
  b8 := by simpa using h.b8
  b9 := by simpa using h.b9
  b10 := by simpa using h.b10
  b11 := by simpa using h.b11
  b12 := by simpa using h.b12
  b13 := by simpa using h.b13
  b14 := by simpa using h.b14
  b15 := by simpa using h.b15
  b16 := by simpa using h.b16
  b17 := by simpa using h.b17
  b18 := by simpa using h.b18
  b19 := by simpa using h.b19
theorem RedF.s3 (h : RedF run wr mz f x24 x25 x26 x27 x28 x29 x30 x31 x32 x33 x34 x35 x36 x37 x38 x39 x40 x41 x42 x43 v24 v25 v26 v27 v28 v29 v30 v31 v32 v33 v34 v35 v36 v37 v38 v39 v40 v41 v42 v43 u) : RedF run wr mz (fun k => decide (k = 3) || f k) x24 x25 x26 v27 x28 x29 x30 x31 x32 x33 x34 x35 x36 x37 x38 x39 x40 x41 x42 x43 v24 v25 v26 v27 v28 v29 v30 v31 v32 v33 v34 v35 v36 v37 v38 v39 v40 v41 v42 v43 u where
  wb := h.wb
  b0 := by simpa using h.b0
  b1 := by simpa using h.b1
  b2 := by simpa using h.b2
  b3 := fun _ => rfl
  b4 := by simpa using h.b4
  b5 := by simpa using h.b5
  b6 := by simpa using h.b6
  b7 := by simpa using h.b7
  b8 := by simpa using h.b8
  b9 := by simpa using h.b9
  b10 := by simpa using h.b10
  b11 := by simpa using h.b11
  b12 := by simpa using h.b12
  b13 := by simpa using h.b13
  b14 := by simpa using h.b14
  b15 := by simpa using h.b15
  b16 := by simpa using h.b16
  b17 := by simpa using h.b17
  b18 := by simpa using h.b18
  b19 := by simpa using h.b19
theorem RedF.s4 (h : RedF run wr mz f x24 x25 x26 x27 x28 x29 x30 x31 x32 x33 x34 x35 x36 x37 x38 x39 x40 x41 x42 x43 v24 v25 v26 v27 v28 v29 v30 v31 v32 v33 v34 v35 v36 v37 v38 v39 v40 v41 v42 v43 u) : RedF run wr mz (fun k => decide (k = 4) || f k) x24 x25 x26 x27 v28 x29 x30 x31 x32 x33 x34 x35 x36 x37 x38 x39 x40 x41 x42 x43 v24 v25 v26 v27 v28 v29 v30 v31 v32 v33 v34 v35 v36 v37 v38 v39 v40 v41 v42 v43 u where
  wb := h.wb
  b0 := by simpa using h.b0
  b1 := by simpa using h.b1
  b2 := by simpa using h.b2
  b3 := by simpa using h.b3
  b4 := fun _ => rfl
  b5 := by simpa using h.b5
  b6 := by simpa using h.b6
  b7 := by simpa using h.b7
  b8 := by simpa using h.b8
  b9 := by simpa using h.b9
  b10 := by simpa using h.b10
  b11 := by simpa using h.b11
  b12 := by simpa using h.b12
  b13 := by simpa using h.b13
  b14 := by simpa using h.b14
  b15 := by simpa using h.b15
  b16 := by simpa using h.b16
  b17 := by simpa using h.b17
  b18 := by simpa using h.b18
  b19 := by simpa using h.b19
theorem RedF.s5 (h : RedF run wr mz f x24 x25 x26 x27 x28 x29 x30 x31 x32 x33 x34 x35 x36 x37 x38 x39 x40 x41 x42 x43 v24 v25 v26 v27 v28 v29 v30 v31 v32 v33 v34 v35 v36 v37 v38 v39 v40 v41 v42 v43 u) : RedF run wr mz (fun k => decide (k = 5) || f k) x24 x25 x26 x27 x28 v29 x30 x31 x32 x33 x34 x35 x36 x37 x38 x39 x40 x41 x42 x43 v24 v25 v26 v27 v28 v29 v30 v31 v32 v33 v34 v35 v36 v37 v38 v39 v40 v41 v42 v43 u where
  wb := h.wb
  b0 := by simpa using h.b0
  b1 := by simpa using h.b1
  b2 := by simpa using h.b2
  b3 := by simpa using h.b3
  b4 := by simpa using h.b4
  b5 := fun _ => rfl
  b6 := by simpa using h.b6
  b7 := by simpa using h.b7
  b8 := by simpa using h.b8
  b9 := by simpa using h.b9
  b10 := by simpa using h.b10
  b11 := by simpa using h.b11
  b12 := by simpa using h.b12
  b13 := by simpa using h.b13
  b14 := by simpa using h.b14
  b15 := by simpa using h.b15
  b16 := by simpa using h.b16
  b17 := by simpa using h.b17
  b18 := by simpa using h.b18
  b19 := by simpa using h.b19
theorem RedF.s6 (h : RedF run wr mz f x24 x25 x26 x27 x28 x29 x30 x31 x32 x33 x34 x35 x36 x37 x38 x39 x40 x41 x42 x43 v24 v25 v26 v27 v28 v29 v30 v31 v32 v33 v34 v35 v36 v37 v38 v39 v40 v41 v42 v43 u) : RedF run wr mz (fun k => decide (k = 6) || f k) x24 x25 x26 x27 x28 x29 v30 x31 x32 x33 x34 x35 x36 x37 x38 x39 x40 x41 x42 x43 v24 v25 v26 v27 v28 v29 v30 v31 v32 v33 v34 v35 v36 v37 v38 v39 v40 v41 v42 v43 u where
  wb := h.wb
  b0 := by simpa using h.b0
  b1 := by simpa using h.b1
  b2 := by simpa using h.b2
  b3 := by simpa using h.b3
  b4 := by simpa using h.b4
  b5 := by simpa using h.b5
  b6 := fun _ => rfl
  b7 := by simpa using h.b7
  b8 := by simpa using h.b8
  b9 := by simpa using h.b9
  b10 := by simpa using h.b10
  b11 := by simpa using h.b11
  b12 := by simpa using h.b12
  b13 := by simpa using h.b13
  b14 := by simpa using h.b14
  b15 := by simpa using h.b15
  b16 := by simpa using h.b16
  b17 := by simpa using h.b17
  b18 := by simpa using h.b18
  b19 := by simpa using h.b19
theorem RedF.s7 (h : RedF run wr mz f x24 x25 x26 x27 x28 x29 x30 x31 x32 x33 x34 x35 x36 x37 x38 x39 x40 x41 x42 x43 v24 v25 v26 v27 v28 v29 v30 v31 v32 v33 v34 v35 v36 v37 v38 v39 v40 v41 v42 v43 u) : RedF run wr mz (fun k => decide (k = 7) || f k) x24 x25 x26 x27 x28 x29 x30 v31 x32 x33 x34 x35 x36 x37 x38 x39 x40 x41 x42 x43 v24 v25 v26 v27 v28 v29 v30 v31 v32 v33 v34 v35 v36 v37 v38 v39 v40 v41 v42 v43 u where
  wb := h.wb
  b0 := by simpa using h.b0
  b1 := by simpa using h.b1
  b2 := by simpa using h.b2
  b3 := by simpa using h.b3
  b4 := by simpa using h.b4
  b5 := by simpa using h.b5
  b6 := by simpa using h.b6
  b7 := fun _ => rfl
  b8 := by simpa using h.b8
  b9 := by simpa using h.b9
  b10 := by simpa using h.b10
  b11 := by simpa using h.b11
  b12 := by simpa using h.b12
  b13 := by simpa using h.b13
  b14 := by simpa using h.b14
  b15 := by simpa using h.b15
  b16 := by simpa using h.b16
  b17 := by simpa using h.b17
  b18 := by simpa using h.b18
  b19 := by simpa using h.b19
theorem RedF.s8 (h : RedF run wr mz f x24 x25 x26 x27 x28 x29 x30 x31 x32 x33 x34 x35 x36 x37 x38 x39 x40 x41 x42 x43 v24 v25 v26 v27 v28 v29 v30 v31 v32 v33 v34 v35 v36 v37 v38 v39 v40 v41 v42 v43 u) : RedF run wr mz (fun k => decide (k = 8) || f k) x24 x25 x26 x27 x28 x29 x30 x31 v32 x33 x34 x35 x36 x37 x38 x39 x40 x41 x42 x43 v24 v25 v26 v27 v28 v29 v30 v31 v32 v33 v34 v35 v36 v37 v38 v39 v40 v41 v42 v43 u where
  wb := h.wb
  b0 := by simpa using h.b0
  b1 := by simpa using h.b1
  b2 := by simpa using h.b2
  b3 := by simpa using h.b3
  b4 := by simpa using h.b4
  b5 := by simpa using h.b5
  b6 := by simpa using h.b6
  b7 := by simpa using h.b7
  b8 := fun _ => rfl
  b9 := by simpa using h.b9
  b10 := by simpa using h.b10
  b11 := by simpa using h.b11
  b12 := by simpa using h.b12
  b13 := by simpa using h.b13
  b14 := by simpa using h.b14
  b15 := by simpa using h.b15
  b16 := by simpa using h.b16
  b17 := by simpa using h.b17
  b18 := by simpa using h.b18
  b19 := by simpa using h.b19
theorem RedF.s9 (h : RedF run wr mz f x24 x25 x26 x27 x28 x29 x30 x31 x32 x33 x34 x35 x36 x37 x38 x39 x40 x41 x42 x43 v24 v25 v26 v27 v28 v29 v30 v31 v32 v33 v34 v35 v36 v37 v38 v39 v40 v41 v42 v43 u) : RedF run wr mz (fun k => decide (k = 9) || f k) x24 x25 x26 x27 x28 x29 x30 x31 x32 v33 x34 x35 x36 x37 x38 x39 x40 x41 x42 x43 v24 v25 v26 v27 v28 v29 v30 v31 v32 v33 v34 v35 v36 v37 v38 v39 v40 v41 v42 v43 u where
  wb := h.wb
  b0 := by simpa using h.b0
  b1 := by simpa using h.b1
  b2 := by simpa using h.b2
  b3 := by simpa using h.b3
  b4 := by simpa using h.b4
  b5 := by simpa using h.b5
  b6 := by simpa using h.b6
  b7 := by simpa using h.b7
  b8 := by simpa using h.b8
  b9 := fun _ => rfl
  b10 := by simpa using h.b10
  b11 := by simpa using h.b11
  b12 := by simpa using h.b12
  b13 := by simpa using h.b13
  b14 := by simpa using h.b14
  b15 := by simpa using h.b15
  b16 := by simpa using h.b16
  b17 := by simpa using h.b17
  b18 := by simpa using h.b18
  b19 := by simpa using h.b19
theorem RedF.s10 (h : RedF run wr mz f x24 x25 x26 x27 x28 x29 x30 x31 x32 x33 x34 x35 x36 x37 x38 x39 x40 x41 x42 x43 v24 v25 v26 v27 v28 v29 v30 v31 v32 v33 v34 v35 v36 v37 v38 v39 v40 v41 v42 v43 u) : RedF run wr mz (fun k => decide (k = 10) || f k) x24 x25 x26 x27 x28 x29 x30 x31 x32 x33 v34 x35 x36 x37 x38 x39 x40 x41 x42 x43 v24 v25 v26 v27 v28 v29 v30 v31 v32 v33 v34 v35 v36 v37 v38 v39 v40 v41 v42 v43 u where
  wb := h.wb
  b0 := by simpa using h.b0
  b1 := by simpa using h.b1
  b2 := by simpa using h.b2
  b3 := by simpa using h.b3
  b4 := by simpa using h.b4
  b5 := by simpa using h.b5
  b6 := by simpa using h.b6
  b7 := by simpa using h.b7
  b8 := by simpa using h.b8
  b9 := by simpa using h.b9
  b10 := fun _ => rfl
  b11 := by simpa using h.b11
  b12 := by simpa using h.b12
  b13 := by simpa using h.b13
  b14 := by simpa using h.b14
  b15 := by simpa using h.b15
  b16 := by simpa using h.b16
  b17 := by simpa using h.b17
  b18 := by simpa using h.b18
  b19 := by simpa using h.b19
theorem RedF.s11 (h : RedF run wr mz f x24 x25 x26 x27 x28 x29 x30 x31 x32 x33 x34 x35 x36 x37 x38 x39 x40 x41 x42 x43 v24 v25 v26 v27 v28 v29 v30 v31 v32 v33 v34 v35 v36 v37 v38 v39 v40 v41 v42 v43 u) : RedF run wr mz (fun k => decide (k = 11) || f k) x24 x25 x26 x27 x28 x29 x30 x31 x32 x33 x34 v35 x36 x37 x38 x39 x40 x41 x42 x43 v24 v25 v26 v27 v28 v29 v30 v31 v32 v33 v34 v35 v36 v37 v38 v39 v40 v41 v42 v43 u where
  wb := h.wb
  b0 := by simpa using h.b0
  b1 := by simpa using h.b1
  b2 := by simpa using h.b2
  b3 := by simpa using h.b3
  b4 := by simpa using h.b4
  b5 := by simpa using h.b5
  b6 := by simpa using h.b6
  b7 := by simpa using h.b7
  b8 := by simpa using h.b8
  b9 := by simpa using h.b9
  b10 := by simpa using h.b10
  b11 := fun _ => rfl
  b12 := by simpa using h.b12
  b13 := by simpa using h.b13
  b14 := by simpa using h.b14
  b15 := by simpa using h.b15
  b16 := by simpa using h.b16
  b17 := by simpa using h.b17
  b18 := by simpa using h.b18
  b19 := by simpa using h.b19
theorem RedF.s12 (h : RedF run wr mz f x24 x25 x26 x27 x28 x29 x30 x31 x32 x33 x34 x35 x36 x37 x38 x39 x40 x41 x42 x43 v24 v25 v26 v27 v28 v29 v30 v31 v32 v33 v34 v35 v36 v37 v38 v39 v40 v41 v42 v43 u) : RedF run wr mz (fun k => decide (k = 12) || f k) x24 x25 x26 x27 x28 x29 x30 x31 x32 x33 x34 x35 v36 x37 x38 x39 x40 x41 x42 x43 v24 v25 v26 v27 v28 v29 v30 v31 v32 v33 v34 v35 v36 v37 v38 v39 v40 v41 v42 v43 u where
  wb := h.wb
  b0 := by simpa using h.b0
  b1 := by simpa using h.b1
  b2 := by simpa using h.b2
  b3 := by simpa using h.b3
  b4 := by simpa using h.b4
  b5 := by simpa using h.b5
  b6 := by simpa using h.b6
  b7 := by simpa using h.b7
  b8 := by simpa using h.b8
  b9 := by simpa using h.b9
  b10 := by simpa using h.b10
  b11 := by simpa using h.b11
  b12 := fun _ => rfl
  b13 := by simpa using h.b13
  b14 := by simpa using h.b14
  b15 := by simpa using h.b15
  b16 := by simpa using h.b16
  b17 := by simpa using h.b17
  b18 := by simpa using h.b18
  b19 := by simpa using h.b19
theorem RedF.s13 (h : RedF run wr mz f x24 x25 x26 x27 x28 x29 x30 x31 x32 x33 x34 x35 x36 x37 x38 x39 x40 x41 x42 x43 v24 v25 v26 v27 v28 v29 v30 v31 v32 v33 v34 v35 v36 v37 v38 v39 v40 v41 v42 v43 u) : RedF run wr mz (fun k => decide (k = 13) || f k) x24 x25 x26 x27 x28 x29 x30 x31 x32 x33 x34 x35 x36 v37 x38 x39 x40 x41 x42 x43 v24 v25 v26 v27 v28 v29 v30 v31 v32 v33 v34 v35 v36 v37 v38 v39 v40 v41 v42 v43 u where
  wb := h.wb
  b0 := by simpa using h.b0
  b1 := by simpa using h.b1
  b2 := by simpa using h.b2
  b3 := by simpa using h.b3
  b4 := by simpa using h.b4
  b5 := by simpa using h.b5
  b6 := by simpa using h.b6
  b7 := by simpa using h.b7
  b8 := by simpa using h.b8
  b9 := by simpa using h.b9
  b10 := by simpa using h.b10
  b11 := by simpa using h.b11
  b12 := by simpa using h.b12
  b13 := fun _ => rfl
  b14 := by simpa using h.b14
  b15 := by simpa using h.b15
  b16 := by simpa using h.b16
  b17 := by simpa using h.b17
  b18 := by simpa using h.b18
  b19 := by simpa using h.b19
theorem RedF.s14 (h : RedF run wr mz f x24 x25 x26 x27 x28 x29 x30 x31 x32 x33 x34 x35 x36 x37 x38 x39 x40 x41 x42 x43 v24 v25 v26 v27 v28 v29 v30 v31 v32 v33 v34 v35 v36 v37 v38 v39 v40 v41 v42 v43 u) : RedF run wr mz (fun k => decide (k = 14) || f k) x24 x25 x26 x27 x28 x29 x30 x31 x32 x33 x34 x35 x36 x37 v38 x39 x40 x41 x42 x43 v24 v25 v26 v27 v28 v29 v30 v31 v32 v33 v34 v35 v36 v37 v38 v39 v40 v41 v42 v43 u where
  wb := h.wb
  b0 := by simpa using h.b0
  b1 := by simpa using h.b1
  b2 := by simpa using h.b2
  b3 := by simpa using h.b3
  b4 := by simpa using h.b4
  b5 := by simpa using h.b5
  b6 := by simpa using h.b6
  b7 := by simpa using h.b7
  b8 := by simpa using h.b8
  b9 := by simpa using h.b9
  b10 := by simpa using h.b10
  b11 := by simpa using h.b11
  b12 := by simpa using h.b12
  b13 := by simpa using h.b13
  b14 := fun _ => rfl
  b15 := by simpa using h.b15
  b16 := by simpa using h.b16
  b17 := by simpa using h.b17
  b18 := by simpa using h.b18
  b19 := by simpa using h.b19
theorem RedF.s15 (h : RedF run wr mz f x24 x25 x26 x27 x28 x29 x30 x31 x32 x33 x34 x35 x36 x37 x38 x39 x40 x41 x42 x43 v24 v25 v26 v27 v28 v29 v30 v31 v32 v33 v34 v35 v36 v37 v38 v39 v40 v41 v42 v43 u) {u2 : World} (hb : Below u.heap.size u u2) {A : Option Addr} {c : Nat} (hi : IntsAt u2 u.heap.size u2.heap.size (.slice A mz.length c) mz) : RedF run wr mz (fun k => decide (k = 15) || f k) x24 x25 x26 x27 x28 x29 x30 x31 x32 x33 x34 x35 x36 x37 x38 (.slice A mz.length c) x40 x41 x42 x43 v24 v25 v26 v27 v28 v29 v30 v31 v32 v33 v34 v35 v36 v37 v38 v39 v40 v41 v42 v43 u2 where
  wb := h.wb.trans (hb.mono h.wb.size)
  b0 := by simpa using h.b0
  b1 := by simpa using h.b1
  b2 := by simpa using h.b2
  b3 := by simpa using h.b3
  b4 := by simpa using h.b4
  b5 := by simpa using h.b5
  b6 := by simpa using h.b6
  b7 := by simpa using h.b7
  b8 := by simpa using h.b8
  b9 := by simpa using h.b9
  b10 := by simpa using h.b10
  b11 := by simpa using h.b11
  b12 := by simpa using h.b12
  b13 := by simpa using h.b13
  b14 := by simpa using h.b14
  b15 := fun _ _ => ⟨A, c, rfl, hi.more h.wb.size (Nat.le_refl _)⟩
  b16 := by simpa using h.b16
  b17 := by simpa using h.b17
  b18 := by simpa using h.b18
  b19 := by simpa using h.b19
theorem RedF.s16 (h : RedF run wr mz f x24 x25 x26 x27 x28 x29 x30 x31 x32 x33 x34 x35 x36 x37 x38 x39 x40 x41 x42 x43 v24 v25 v26 v27 v28 v29 v30 v31 v32 v33 v34 v35 v36 v37 v38 v39 v40 v41 v42 v43 u) : RedF run wr mz (fun k => decide (k = 16) || f k) x24 x25 x26 x27 x28 x29 x30 x31 x32 x33 x34 x35 x36 x37 x38 x39 v40 x41 x42 x43 v24 v25 v26 v27 v28 v29 v30 v31 v32 v33 v34 v35 v36 v37 v38 v39 v40 v41 v42 v43 u where
  wb := h.wb
  b0 := by simpa using h.b0
  b1 := by simpa using h.b1
  b2 := by simpa using h.b2
  b3 := by simpa using h.b3
  b4 := by simpa using h.b4
  b5 := by simpa using h.b5
  b6 := by simpa using h.b6
  b7 := by simpa using h.b7
  b8 := by simpa using h.b8
  b9 := by simpa using h.b9
  b10 := by simpa using h.b10
  b11 := by simpa using h.b11
  b12 := by simpa using h.b12
  b13 := by simpa using h.b13
  b14 := by simpa using h.b14
  b15 := by simpa using h.b15
  b16 := fun _ => rfl
  b17 := by simpa using h.b17
  b18 := by simpa using h.b18
  b19 := by simpa using h.b19
theorem RedF.s17 (h : RedF run wr mz f x24 x25 x26 x27 x28 x29 x30 x31 x32 x33 x34 x35 x36 x37 x38 x39 x40 x41 x42 x43 v24 v25 v26 v27 v28 v29 v30 v31 v32 v33 v34 v35 v36 v37 v38 v39 v40 v41 v42 v43 u) : RedF run wr mz (fun k => decide (k = 17) || f k) x24 x25 x26 x27 x28 x29 x30 x31 x32 x33 x34 x35 x36 x37 x38 x39 x40 v41 x42 x43 v24 v25 v26 v27 v28 v29 v30 v31 v32 v33 v34 v35 v36 v37 v38 v39 v40 v41 v42 v43 u where
  wb := h.wb
  b0 := by simpa using h.b0
  b1 := by simpa using h.b1
  b2 := by simpa using h.b2
  b3 := by simpa using h.b3
  b4 := by simpa using h.b4
  b5 := by simpa using h.b5
  b6 := by simpa using h.b6
  b7 := by simpa using h.b7
  b8 := by simpa using h.b8
  b9 := by simpa using h.b9
  b10 := by simpa using h.b10
  b11 := by simpa using h.b11
  b12 := by simpa using h.b12
  b13 := by simpa using h.b13
  b14 := by simpa using h.b14
  b15 := by simpa using h.b15
  b16 := by simpa using h.b16
  b17 := fun _ => rfl
  b18 := by simpa using h.b18
  b19 := by simpa using h.b19
theorem RedF.s18 (h : RedF run wr mz f x24 x25 x26 x27 x28 x29 x30 x31 x32 x33 x34 x35 x36 x37 x38 x39 x40 x41 x42 x43 v24 v25 v26 v27 v28 v29 v30 v31 v32 v33 v34 v35 v36 v37 v38 v39 v40 v41 v42 v43 u) {u2 : World} (hb : Below u.heap.size u u2) : RedF run wr mz (fun k => decide (k = 18) || f k) x24 x25 x26 x27 x28 x29 x30 x31 x32 x33 x34 x35 x36 x37 x38 x39 x40 x41 v42 x43 v24 v25 v26 v27 v28 v29 v30 v31 v32 v33 v34 v35 v36 v37 v38 v39 v40 v41 v42 v43 u2 where
  wb := h.wb.trans (hb.mono h.wb.size)
  b0 := by simpa using h.b0
  b1 := by simpa using h.b1
  b2 := by simpa using h.b2
  b3 := by simpa using h.b3
  b4 := by simpa using h.b4
  b5 := by simpa using h.b5
  b6 := by simpa using h.b6
  b7 := by simpa using h.b7
  b8 := by simpa using h.b8
  b9 := by simpa using h.b9
  b10 := by simpa using h.b10
  b11 := by simpa using h.b11
  b12 := by simpa using h.b12
  b13 := by simpa using h.b13
  b14 := by simpa using h.b14
  b15 := fun e0 e => by
    obtain ⟨A, c, h1, h2⟩ := h.b15 e0 (by simpa using e)
    exact ⟨A, c, h1, (h2.below hb (Nat.le_refl _)).more (Nat.le_refl _) hb.size⟩
  b16 := by simpa using h.b16
  b17 := by simpa using h.b17
  b18 := fun _ => rfl
  b19 := by simpa using h.b19
theorem RedF.s19 (h : RedF run wr mz f x24 x25 x26 x27 x28 x29 x30 x31 x32 x33 x34 x35 x36 x37 x38 x39 x40 x41 x42 x43 v24 v25 v26 v27 v28 v29 v30 v31 v32 v33 v34 v35 v36 v37 v38 v39 v40 v41 v42 v43 u) : RedF run wr mz (fun k => decide (k = 19) || f k) x24 x25 x26 x27 x28 x29 x30 x31 x32 x33 x34 x35 x36 x37 x38 x39 x40 x41 x42 v43 v24 v25 v26 v27 v28 v29 v30 v31 v32 v33 v34 v35 v36 v37 v38 v39 v40 v41 v42 v43 u where
  wb := h.wb
  b0 := by simpa using h.b0
  b1 := by simpa using h.b1
  b2 := by simpa using h.b2
  b3 := by simpa using h.b3
  b4 := by simpa using h.b4
  b5 := by simpa using h.b5
  b6 := by simpa using h.b6
  b7 := by simpa using h.b7
  b8 := by simpa using h.b8
  b9 := by simpa using h.b9
  b10 := by simpa using h.b10
  b11 := by simpa using h.b11
  b12 := by simpa using h.b12
  b13 := by simpa using h.b13
  b14 := by simpa using h.b14
  b15 := by simpa using h.b15
  b16 := by simpa using h.b16
  b17 := by simpa using h.b17
  b18 := by simpa using h.b18
  b19 := fun _ => rfl
theorem RedF.s15n (h : RedF run wr mz f x24 x25 x26 x27 x28 x29 x30 x31 x32 x33 x34 x35 x36 x37 x38 x39 x40 x41 x42 x43 v24 v25 v26 v27 v28 v29 v30 v31 v32 v33 v34 v35 v36 v37 v38 v39 v40 v41 v42 v43 u) (hr : run = false) : RedF run wr mz (fun k => decide (k = 15) || f k) x24 x25 x26 x27 x28 x29 x30 x31 x32 x33 x34 x35 x36 x37 x38 undef x40 x41 x42 x43 v24 v25 v26 v27 v28 v29 v30 v31 v32 v33 v34 v35 v36 v37 v38 v39 v40 v41 v42 v43 u where
  wb := h.wb
  b0 := by simpa using h.b0
  b1 := by simpa using h.b1
  b2 := by simpa using h.b2
  b3 := by simpa using h.b3
  b4 := by simpa using h.b4
  b5 := by simpa using h.b5
  b6 := by simpa using h.b6
  b7 := by simpa using h.b7
  b8 := by simpa using h.b8
  b9 := by simpa using h.b9
  b10 := by simpa using h.b10
  b11 := by simpa using h.b11
  b12 := by simpa using h.b12
  b13 := by simpa using h.b13
  b14 := by simpa using h.b14
  b15 := fun e => by rw [hr] at e; cases e
  b16 := by simpa using h.b16
  b17 := by simpa using h.b17
  b18 := by simpa using h.b18
  b19 := by simpa using h.b19
end
end Go.Proofs.Ytokklaoldgdkaaa

namespace Go.Proofs.Ytokklaoldgdkaaa
open Go.RowKit
attribute [local go_sem] Oper.semAt_some

/-- Does a way, not the coercion by itself, make what it makes? -/
def redZ (t : Ty) (i : Nat) (c : Co) (z : List Int) : Bool := !(decide (z = [(i : Int)])) && decide (mapL t.cos z (t.sizes.getD c.src.toNat 0).toNat = c.map)

theorem red_yes {t : Ty} {i : Nat} {c : Co} {j : Nat} (hj : j < (waysOf t c.src c.dst).length) (h : redZ t i c (waysOf t c.src c.dst)[j] = true) : redB t i c = true := by
  unfold redB
  rw [List.any_eq_true]
  exact ⟨_, List.getElem_mem hj, h⟩
theorem red_no {t : Ty} {i : Nat} {c : Co} (h : ∀ k, ∀ (hk : k < (waysOf t c.src c.dst).length), k < (waysOf t c.src c.dst).length → redZ t i c (waysOf t c.src c.dst)[k] = false) : redB t i c = false := by
  cases e : redB t i c with
  | false => rfl
  | true =>
    unfold redB at e
    rw [List.any_eq_true] at e
    obtain ⟨z, hz, h2⟩ := e
    obtain ⟨k, hk, rfl⟩ := List.getElem_of_mem hz
    exact absurd (h k hk hk) (by unfold redZ; rw [h2]; simp)

set_option maxRecDepth 100000 in
set_option maxHeartbeats 4000000 in
theorem l3Redundant_any (lo hi : Nat) (sv cv : Value) (t : Ty) (i : Int) (w : World) (hv : TyAt w lo hi sv cv t) (hB : hi ≤ w.heap.size) (hok : hasC t i = true) :
    Calls Try.prog 73 #[.agg #[sv, cv], .int .i64 i] w fun e w' => e = .returned (.bool (redB t i.toNat (t.cos.getD i.toNat default))) ∧ Below w.heap.size w w' := by
  obtain ⟨A, cap, rfl, hl1, hm1, _⟩ := hv.1.form
  obtain ⟨B, bap, rfl, hl2, hm2, hc1⟩ := hv.2.form
  obtain ⟨hty, hi0, hi1, hlt⟩ := hasC_of hok
  have hco := coOk_of (hasC_co hok hlt)
  have hgd : t.cos.getD i.toNat default = t.cos[i.toNat] := getD_at hlt
  rw [hgd]
  have h3 : Below w.heap.size w (w.alloc (.cells #[.slice A t.sizes.length cap, .slice B t.cos.length bap] 30)) := by go_grown
  obtain ⟨b, off, A3, cap3, rfl, hlo, hhi, c0, c1, c2, h5, h6, hs, hd, hz⟩ := (hc1.below h3 hB).at_ hlt
  have htb : typesB t t.cos[i.toNat].src t.cos[i.toNat].dst = true := by
    unfold typesB
    rw [hty, ixB_yes hco.1 (by omega), ixB_yes (by omega) hco.2.2.1]; rfl
  generalize hcc : t.cos[i.toNat] = c at *
  have Hcc := Lib.hid hcc
  have Htb := Lib.hid htb
  have hz0 := hz.keep (w' := w) fun k h1 h2 => (h3.block k (by omega)).symm
  have Hz := Lib.hid hz0
  have Hv := Lib.hid hv
  have Hty := Lib.hid hty
  clear hv hc1 hz hz0 hok hgd htb hco hcc hty
  go_enter Try.func73, Try.ntmps73
  go_wp2_with fail
  have hb1 : Below w.heap.size w ((w.alloc (.cells #[.slice A t.sizes.length cap, .slice (some ⟨b, off, none⟩) t.cos.length bap] 30)).alloc (.cells #[.int .i64 c.src, .int .i64 c.dst, .slice A3 c.map.length cap3] 52)) := by go_grown
  have hr0 := (Row.new w 30 [.slice A t.sizes.length cap, .slice (some ⟨b, off, none⟩) t.cos.length bap]).alloc (.cells #[.int .i64 c.src, .int .i64 c.dst, .slice A3 c.map.length cap3] 52)
  have hr1 := Row.new (w.alloc (.cells #[.slice A t.sizes.length cap, .slice (some ⟨b, off, none⟩) t.cos.length bap] 30)) 52 [.int .i64 c.src, .int .i64 c.dst, .slice A3 c.map.length cap3]
  rw [World.size_alloc] at hr1
  refine (l2Ways_any lo hi _ _ t c.src c.dst _ (Hv.out.below hb1 hB) (by simp; omega) Htb.out).mono ?_
  rintro e w3 ⟨ov, rfl, hb3, hways⟩
  obtain ⟨O, oc, rfl, hom, hcell⟩ := hways.at_
  have Hcell := Lib.hid hcell
  have H3 := Lib.hid (hb1.trans (hb3.mono (by simp; omega)))
  have R0 := Lib.hid (hr0.below hb3 (by simp; omega))
  have R1 := Lib.hid (hr1.below hb3 (by simp))
  have hl3 := hb3.size
  simp only [World.size_alloc] at hl3 Hcell
  unfold maxLen at hom
  clear hb3 hways hcell hb1 hr0 hr1
  go_wp2
  go_loopw [20] (fun i' wr => ∃ j : Nat, j ≤ (waysOf t c.src c.dst).length ∧ i' = .int .i64 j ∧ Hid (Below w3.heap.size w3 wr) ∧ Hid (∀ k, ∀ (hk : k < (waysOf t c.src c.dst).length), k < j → redZ t i.toNat c (waysOf t c.src c.dst)[k] = false)) (fun i' _ => (waysOf t c.src c.dst).length - (intOf i').toNat)
  case atStart => exact ⟨0, Nat.zero_le _, rfl, Below.refl _ _, fun k _ h => absurd h (by omega)⟩
  case round =>
    obtain ⟨j, hj, rfl, hbr, hpre⟩ := hrel
    have hbs := hbr.out.size
    by_cases hltj : j < (waysOf t c.src c.dst).length
    · obtain ⟨g, A2, c2, rfl, hg0, hg1, cz, hat⟩ := Hcell.out j hltj
      obtain ⟨zj, ezj, czr, Hat, hwj⟩ : ∃ z, Hid (z = (waysOf t c.src c.dst)[j]) ∧ wr.cell? ⟨g, j, none⟩ = some (.slice A2 z.length c2) ∧ Hid (IntsAt wr (w.heap.size + 1 + 1) w3.heap.size (.slice A2 z.length c2) z) ∧ Hid (wayEnd t.cos c.src z = some c.dst) :=
        ⟨(waysOf t c.src c.dst)[j], Lib.hid rfl, (hbr.out.cell (p := ⟨g, j, none⟩) hg1).trans cz, hat.below hbr.out (Nat.le_refl _), waysOf_end (List.getElem_mem hltj)⟩
      clear cz hat
      have hsrc := Lib.hid (typesB_of Htb.out)
      have hwayB : Hid (wayB t c.src zj = true) := by show _ = true; unfold wayB; rw [Hty.out, ixB_yes hsrc.out.2.1 hsrc.out.2.2.1, hwj.out]; rfl
      have hwml := wayMapV_yes hwayB.out
      have Hbw := Lib.hid (H3.out.trans (hbr.out.mono (by omega)))
      have hcells : ∀ u, Below wr.heap.size wr u → u.cell? ⟨w.heap.size, 0, none⟩ = some (.slice A t.sizes.length cap) ∧ u.cell? ⟨w.heap.size, 1, none⟩ = some (.slice (some ⟨b, off, none⟩) t.cos.length bap) ∧ u.cell? ⟨w.heap.size + 1, 0, none⟩ = some (.int .i64 c.src) ∧ u.cell? ⟨w.heap.size + 1, 1, none⟩ = some (.int .i64 c.dst) ∧ u.cell? ⟨w.heap.size + 1, 2, none⟩ = some (.slice A3 c.map.length cap3) := fun u hu => by
        have r0 := (R0.out.below (hbr.out.trans (hu.mono hbs)) (by omega))
        have r1 := (R1.out.below (hbr.out.trans (hu.mono hbs)) (by omega))
        exact ⟨r0.cell 0, r0.cell 1, r1.cell 0, r1.cell 1, r1.cell 2⟩
      have hmap : ∀ u, Below wr.heap.size wr u → Calls Try.prog 110 #[.agg #[.slice A t.sizes.length cap, .slice (some ⟨b, off, none⟩) t.cos.length bap], .int .i64 c.src, .slice A2 zj.length c2] u fun e u2 => ∃ v, e = .returned v ∧ Below u.heap.size u u2 ∧ IntsAt u2 u.heap.size u2.heap.size v (wayMapV t c.src zj) := fun u hu =>
        (l2Map_any lo hi _ _ _ _ _ t c.src zj u (Hv.out.below (Hbw.out.trans (hu.mono Hbw.out.size)) hB) (by have := hu.size; have := Hbw.out.size; omega) (Hat.out.below hu hbs) (by have := hu.size; omega) hwayB.out).mono fun e u2 ⟨v, he, hb, ho⟩ => ⟨v, he, hb, ownsRow.intsAt ho (wayMapV_wf t c.src zj) (Nat.le_refl _) (Nat.le_refl _)⟩
      have hred : ¬ zj = [(i.toNat : Int)] → redZ t i.toNat c zj = decide (wayMapV t c.src zj = c.map) := fun h => by
        unfold redZ
        rw [decide_eq_false h, hwml]; rfl
      have Hcells := Lib.hid hcells
      have Hmap := Lib.hid hmap
      have Hred := Lib.hid hred
      have hiN : ((i.toNat : Nat) : Int) = i := by omega
      clear hcells hmap hwml hred
      by_cases hz1 : zj = [(i.toNat : Int)]
      · have hno : Hid (redZ t i.toNat c zj = false) := by show _ = false; unfold redZ; rw [decide_eq_true hz1]; rfl
        have hl1z : zj.length = 1 := by rw [hz1]; rfl
        obtain ⟨zb, zo, rfl, _, hzb, e0, hI⟩ := Hat.out.at_ (k := 0) (by omega)
        clear hI
        have hq : zj[0]'(by omega) = i := by simp [hz1, hiN]
        rw [hq] at e0
        have hpre2 : Hid (∀ k, ∀ (hk : k < (waysOf t c.src c.dst).length), k < j + 1 → redZ t i.toNat c (waysOf t c.src c.dst)[k] = false) := fun k hk h => by
          by_cases e : k = j
          · subst e; rw [← ezj.out]; exact hno.out
          · exact hpre.out k hk (by omega)
        have hlt1 : ((zj.length : Int) != 1) = false := by simp; omega
        have hne : (i != i) = false := by simp
        have Hcz : Hid (∀ u, Below wr.heap.size wr u → u.cell? ⟨zb, zo, none⟩ = some (.int .i64 i)) := fun u hu => (hu.cell (p := ⟨zb, zo, none⟩) (by dsimp only; omega)).trans e0
        have hpos1 : (0 : Int) < (zj.length : Int) := by omega
        have hpos2 : 0 < zj.length := by omega
        clear hq hz1 e0 hl1z
        go_wp2
        refine wp_region_inv (by kernel_rfl) (fun f x u => ∃ x24 x25 x26 x27 x28 x29 x30 x31 x32 x33 x34 x35 x36 x37 x38 x39 x40 x41 x42 x43, x = ⟨#[.agg #[.slice A t.sizes.length cap, .slice (some ⟨b, off, none⟩) t.cos.length bap], .int .i64 i, .pointer (some ⟨w.heap.size, 0, none⟩), undef, u4, .pointer (some ⟨w.heap.size + 1, 0, none⟩), undef, .slice (some ⟨zb, zo, none⟩) zj.length c2, .pointer (some ⟨w.heap.size, 1, none⟩), .slice (some ⟨b, off, none⟩) t.cos.length bap, .int .i64 i, .pointer (some ⟨b, off + i.toNat * 3, none⟩), .agg #[.int .i64 c.src, .int .i64 c.dst, .slice A3 c.map.length cap3], .agg #[.slice A t.sizes.length cap, .slice (some ⟨b, off, none⟩) t.cos.length bap], .pointer (some ⟨w.heap.size + 1, 0, none⟩), .int .i64 c.src, .pointer (some ⟨w.heap.size + 1, 1, none⟩), .int .i64 c.dst, .slice (some ⟨g, 0, none⟩) (waysOf t c.src c.dst).length oc, .int .i64 ((waysOf t c.src c.dst).length : Nat), .int .i64 (j : Nat), .bool true, .pointer (some ⟨g, j, none⟩), .slice (some ⟨zb, zo, none⟩) zj.length c2, x24, x25, x26, x27, x28, x29, x30, x31, x32, x33, x34, x35, x36, x37, x38, x39, x40, x41, x42, x43, u44], []⟩ ∧ RedF false wr (wayMapV t c.src zj) f x24 x25 x26 x27 x28 x29 x30 x31 x32 x33 x34 x35 x36 x37 x38 x39 x40 x41 x42 x43 (.slice (some ⟨zb, zo, none⟩) zj.length c2) (.int .i64 (zj.length : Nat)) (.bool false) (.bool false) (.slice (some ⟨zb, zo, none⟩) zj.length c2) (.pointer (some ⟨zb, zo, none⟩)) (.int .i64 i) (.int .i64 i) (.bool false) (.bool false) (.bool false) undef undef undef undef undef undef undef undef (.bool false) u) (of_decide_eq_true (by kernel_rfl)) ⟨_, _, _, _, _, _, _, _, _, _, _, _, _, _, _, _, _, _, _, _, rfl, ⟨(Below.refl _ _).drew, nofun, nofun, nofun, nofun, nofun, nofun, nofun, nofun, nofun, nofun, nofun, nofun, nofun, nofun, nofun, nofun, nofun, nofun, nofun, nofun⟩⟩ ?_ ?_
        · rintro f x u q o ho hfi hdep ⟨x24, x25, x26, x27, x28, x29, x30, x31, x32, x33, x34, x35, x36, x37, x38, x39, x40, x41, x42, x43, rfl, hF⟩
          have hil : q < 20 := by have := (Array.getElem?_eq_some_iff.1 ho).1; simpa using this
          obtain ⟨p0, p1, p2, p3, p4⟩ := Hcells.out u hF.wb
          have p5 := Hcz.out u hF.wb
          obtain rfl | rfl | rfl | rfl | rfl | rfl | rfl | rfl | rfl | rfl | rfl | rfl | rfl | rfl | rfl | rfl | rfl | rfl | rfl | rfl : q = 0 ∨ q = 1 ∨ q = 2 ∨ q = 3 ∨ q = 4 ∨ q = 5 ∨ q = 6 ∨ q = 7 ∨ q = 8 ∨ q = 9 ∨ q = 10 ∨ q = 11 ∨ q = 12 ∨ q = 13 ∨ q = 14 ∨ q = 15 ∨ q = 16 ∨ q = 17 ∨ q = 18 ∨ q = 19 := by omega
          all_goals
            obtain rfl := Option.some.inj ho
            refine wpOp_step ho fun K hK => ?_
            simp [Region.binds] at hdep
            clear ho
          · refine if_yes rfl ?_
            have HF := Lib.hid hF
            clear hF
            unfold Oper.wp
            go_simp
            exact hK _ _ ⟨_, _, _, _, _, _, _, _, _, _, _, _, _, _, _, _, _, _, _, _, rfl, HF.out.s0⟩
          · have d0 : f 0 = true := by simp [hdep]
            obtain rfl := hF.b0 d0
            refine if_yes rfl ?_
            have HF := Lib.hid hF
            clear hF
            unfold Oper.wp
            go_simp
            exact hK _ _ ⟨_, _, _, _, _, _, _, _, _, _, _, _, _, _, _, _, _, _, _, _, rfl, HF.out.s1⟩
          · have d1 : f 1 = true := by simp [hdep]
            obtain rfl := hF.b1 d1
            refine if_yes rfl ?_
            have HF := Lib.hid hF
            clear hF
            unfold Oper.wp
            go_simp
            exact hK _ _ ⟨_, _, _, _, _, _, _, _, _, _, _, _, _, _, _, _, _, _, _, _, rfl, HF.out.s2⟩
          · have d2 : f 2 = true := by simp [hdep]
            obtain rfl := hF.b2 d2
            refine if_yes rfl ?_
            have HF := Lib.hid hF
            clear hF
            unfold Oper.wp
            go_simp
            exact hK _ _ ⟨_, _, _, _, _, _, _, _, _, _, _, _, _, _, _, _, _, _, _, _, rfl, HF.out.s3⟩
          · have d3 : f 3 = true := by simp [hdep]
            obtain rfl := hF.b3 d3
            refine if_yes rfl ?_
            have HF := Lib.hid hF
            clear hF
            unfold Oper.wp
            go_simp
            exact hK _ _ ⟨_, _, _, _, _, _, _, _, _, _, _, _, _, _, _, _, _, _, _, _, rfl, HF.out.s4⟩
          · have d4 : f 4 = true := by simp [hdep]
            have d3 : f 3 = true := by simp [hdep]
            obtain rfl := hF.b4 d4
            obtain rfl := hF.b3 d3
            refine if_yes rfl ?_
            have HF := Lib.hid hF
            clear hF
            unfold Oper.wp
            go_simp
            exact hK _ _ ⟨_, _, _, _, _, _, _, _, _, _, _, _, _, _, _, _, _, _, _, _, rfl, HF.out.s5⟩
          · have d5 : f 5 = true := by simp [hdep]
            have d3 : f 3 = true := by simp [hdep]
            obtain rfl := hF.b5 d5
            obtain rfl := hF.b3 d3
            refine if_yes rfl ?_
            have HF := Lib.hid hF
            clear hF
            unfold Oper.wp
            go_simp
            exact hK _ _ ⟨_, _, _, _, _, _, _, _, _, _, _, _, _, _, _, _, _, _, _, _, rfl, HF.out.s6⟩
          · have d3 : f 3 = true := by simp [hdep]
            obtain rfl := hF.b3 d3
            refine if_yes rfl ?_
            have HF := Lib.hid hF
            clear hF
            unfold Oper.wp
            go_simp
            exact hK _ _ ⟨_, _, _, _, _, _, _, _, _, _, _, _, _, _, _, _, _, _, _, _, rfl, HF.out.s7⟩
          · have d6 : f 6 = true := by simp [hdep]
            have d7 : f 7 = true := by simp [hdep]
            have d3 : f 3 = true := by simp [hdep]
            obtain rfl := hF.b6 d6
            obtain rfl := hF.b7 d7
            obtain rfl := hF.b3 d3
            refine if_yes rfl ?_
            have HF := Lib.hid hF
            clear hF
            unfold Oper.wp
            go_simp
            exact hK _ _ ⟨_, _, _, _, _, _, _, _, _, _, _, _, _, _, _, _, _, _, _, _, rfl, HF.out.s8⟩
          · have d3 : f 3 = true := by simp [hdep]
            have d8 : f 8 = true := by simp [hdep]
            obtain rfl := hF.b3 d3
            obtain rfl := hF.b8 d8
            refine if_yes rfl ?_
            have HF := Lib.hid hF
            clear hF
            unfold Oper.wp
            go_simp
            exact hK _ _ ⟨_, _, _, _, _, _, _, _, _, _, _, _, _, _, _, _, _, _, _, _, rfl, HF.out.s9⟩
          · have d9 : f 9 = true := by simp [hdep]
            obtain rfl := hF.b9 d9
            refine if_yes rfl ?_
            have HF := Lib.hid hF
            clear hF
            unfold Oper.wp
            go_simp
            exact hK _ _ ⟨_, _, _, _, _, _, _, _, _, _, _, _, _, _, _, _, _, _, _, _, rfl, HF.out.s10⟩
          · have d10 : f 10 = true := by simp [hdep]
            obtain rfl := hF.b10 d10
            refine if_no rfl ?_
            exact hK _ _ ⟨_, _, _, _, _, _, _, _, _, _, _, _, _, _, _, _, _, _, _, _, rfl, hF.s11⟩
          · have d10 : f 10 = true := by simp [hdep]
            obtain rfl := hF.b10 d10
            refine if_no rfl ?_
            exact hK _ _ ⟨_, _, _, _, _, _, _, _, _, _, _, _, _, _, _, _, _, _, _, _, rfl, hF.s12⟩
          · have d10 : f 10 = true := by simp [hdep]
            obtain rfl := hF.b10 d10
            refine if_no rfl ?_
            exact hK _ _ ⟨_, _, _, _, _, _, _, _, _, _, _, _, _, _, _, _, _, _, _, _, rfl, hF.s13⟩
          · have d10 : f 10 = true := by simp [hdep]
            obtain rfl := hF.b10 d10
            refine if_no rfl ?_
            exact hK _ _ ⟨_, _, _, _, _, _, _, _, _, _, _, _, _, _, _, _, _, _, _, _, rfl, hF.s14⟩
          · have d10 : f 10 = true := by simp [hdep]
            obtain rfl := hF.b10 d10
            refine if_no rfl ?_
            exact hK _ _ ⟨_, _, _, _, _, _, _, _, _, _, _, _, _, _, _, _, _, _, _, _, rfl, hF.s15n rfl⟩
          · have d10 : f 10 = true := by simp [hdep]
            obtain rfl := hF.b10 d10
            refine if_no rfl ?_
            exact hK _ _ ⟨_, _, _, _, _, _, _, _, _, _, _, _, _, _, _, _, _, _, _, _, rfl, hF.s16⟩
          · have d10 : f 10 = true := by simp [hdep]
            obtain rfl := hF.b10 d10
            refine if_no rfl ?_
            exact hK _ _ ⟨_, _, _, _, _, _, _, _, _, _, _, _, _, _, _, _, _, _, _, _, rfl, hF.s17⟩
          · have d10 : f 10 = true := by simp [hdep]
            obtain rfl := hF.b10 d10
            refine if_no rfl ?_
            exact hK _ _ ⟨_, _, _, _, _, _, _, _, _, _, _, _, _, _, _, _, _, _, _, _, rfl, hF.s18 (Below.refl _ _)⟩
          · have d10 : f 10 = true := by simp [hdep]
            obtain rfl := hF.b10 d10
            have d18 : f 18 = true := by simp [hdep]
            obtain rfl := hF.b18 d18
            refine if_yes rfl ?_
            have HF := Lib.hid hF
            clear hF
            unfold Oper.wp
            go_simp
            exact hK _ _ ⟨_, _, _, _, _, _, _, _, _, _, _, _, _, _, _, _, _, _, _, _, rfl, HF.out.s19⟩
        · rintro f x u hall ⟨x24, x25, x26, x27, x28, x29, x30, x31, x32, x33, x34, x35, x36, x37, x38, x39, x40, x41, x42, x43, rfl, hF⟩
          obtain rfl := hF.b19 (hall 19 (by simp))
          have Hwb := Lib.hid (hbr.out.trans (hF.wb.mono hbs))
          clear hF hall
          go_wp2
          go_roundw
          case rel => exact ⟨j + 1, by omega, by go_num, Hwb, hpre2⟩
          case measure => simp [intOf]; omega
      have hz1l : ¬ (zj.length = 1 ∧ zj.getD 0 0 = i) := fun h => hz1 (by
        obtain ⟨h1, h2⟩ := h
        match zj, h1, h2 with
        | [q], _, h2 => simp only [List.getD_cons_zero] at h2; rw [h2, hiN])
      by_cases hl1z : zj.length = 1
      · obtain ⟨zb, zo, rfl, _, hzb, e0, hI⟩ := Hat.out.at_ (k := 0) (by omega)
        clear hI
        obtain ⟨zq, hzq⟩ : ∃ zq, zq = zj[0]'(by omega) := ⟨_, rfl⟩
        rw [← hzq] at e0
        have hne : (zq != i) = true := by
          have : ¬ zq = i := fun e => hz1l ⟨hl1z, by rw [List.getD_eq_getElem?_getD, List.getElem?_eq_getElem (by omega), ← hzq, e]; rfl⟩
          simpa using this
        have hlt1 : ((zj.length : Int) != 1) = false := by simp; omega
        have Hcz : Hid (∀ u, Below wr.heap.size wr u → u.cell? ⟨zb, zo, none⟩ = some (.int .i64 zq)) := fun u hu => (hu.cell (p := ⟨zb, zo, none⟩) (by dsimp only; omega)).trans e0
        have hpos1 : (0 : Int) < (zj.length : Int) := by omega
        have hpos2 : 0 < zj.length := by omega
        clear e0 hz1l hl1z hzq
        go_wp2
        refine wp_region_inv (by kernel_rfl) (fun f x u => ∃ x24 x25 x26 x27 x28 x29 x30 x31 x32 x33 x34 x35 x36 x37 x38 x39 x40 x41 x42 x43, x = ⟨#[.agg #[.slice A t.sizes.length cap, .slice (some ⟨b, off, none⟩) t.cos.length bap], .int .i64 i, .pointer (some ⟨w.heap.size, 0, none⟩), undef, u4, .pointer (some ⟨w.heap.size + 1, 0, none⟩), undef, .slice (some ⟨zb, zo, none⟩) zj.length c2, .pointer (some ⟨w.heap.size, 1, none⟩), .slice (some ⟨b, off, none⟩) t.cos.length bap, .int .i64 i, .pointer (some ⟨b, off + i.toNat * 3, none⟩), .agg #[.int .i64 c.src, .int .i64 c.dst, .slice A3 c.map.length cap3], .agg #[.slice A t.sizes.length cap, .slice (some ⟨b, off, none⟩) t.cos.length bap], .pointer (some ⟨w.heap.size + 1, 0, none⟩), .int .i64 c.src, .pointer (some ⟨w.heap.size + 1, 1, none⟩), .int .i64 c.dst, .slice (some ⟨g, 0, none⟩) (waysOf t c.src c.dst).length oc, .int .i64 ((waysOf t c.src c.dst).length : Nat), .int .i64 (j : Nat), .bool true, .pointer (some ⟨g, j, none⟩), .slice (some ⟨zb, zo, none⟩) zj.length c2, x24, x25, x26, x27, x28, x29, x30, x31, x32, x33, x34, x35, x36, x37, x38, x39, x40, x41, x42, x43, u44], []⟩ ∧ RedF true wr (wayMapV t c.src zj) f x24 x25 x26 x27 x28 x29 x30 x31 x32 x33 x34 x35 x36 x37 x38 x39 x40 x41 x42 x43 (.slice (some ⟨zb, zo, none⟩) zj.length c2) (.int .i64 (zj.length : Nat)) (.bool false) (.bool false) (.slice (some ⟨zb, zo, none⟩) zj.length c2) (.pointer (some ⟨zb, zo, none⟩)) (.int .i64 zq) (.int .i64 i) (.bool true) (.bool true) (.bool true) (.agg #[.slice A t.sizes.length cap, .slice (some ⟨b, off, none⟩) t.cos.length bap]) (.pointer (some ⟨w.heap.size + 1, 0, none⟩)) (.int .i64 c.src) (.slice (some ⟨zb, zo, none⟩) zj.length c2) undef (.pointer (some ⟨w.heap.size + 1, 2, none⟩)) (.slice A3 c.map.length cap3) (.bool (decide (wayMapV t c.src zj = c.map))) (.bool (decide (wayMapV t c.src zj = c.map))) u) (of_decide_eq_true (by kernel_rfl)) ⟨_, _, _, _, _, _, _, _, _, _, _, _, _, _, _, _, _, _, _, _, rfl, ⟨(Below.refl _ _).drew, nofun, nofun, nofun, nofun, nofun, nofun, nofun, nofun, nofun, nofun, nofun, nofun, nofun, nofun, nofun, nofun, nofun, nofun, nofun, nofun⟩⟩ ?_ ?_
        · rintro f x u q o ho hfi hdep ⟨x24, x25, x26, x27, x28, x29, x30, x31, x32, x33, x34, x35, x36, x37, x38, x39, x40, x41, x42, x43, rfl, hF⟩
          have hil : q < 20 := by have := (Array.getElem?_eq_some_iff.1 ho).1; simpa using this
          obtain ⟨p0, p1, p2, p3, p4⟩ := Hcells.out u hF.wb
          have p5 := Hcz.out u hF.wb
          obtain rfl | rfl | rfl | rfl | rfl | rfl | rfl | rfl | rfl | rfl | rfl | rfl | rfl | rfl | rfl | rfl | rfl | rfl | rfl | rfl : q = 0 ∨ q = 1 ∨ q = 2 ∨ q = 3 ∨ q = 4 ∨ q = 5 ∨ q = 6 ∨ q = 7 ∨ q = 8 ∨ q = 9 ∨ q = 10 ∨ q = 11 ∨ q = 12 ∨ q = 13 ∨ q = 14 ∨ q = 15 ∨ q = 16 ∨ q = 17 ∨ q = 18 ∨ q = 19 := by omega
          all_goals
            obtain rfl := Option.some.inj ho
            refine wpOp_step ho fun K hK => ?_
            simp [Region.binds] at hdep
            clear ho
          · refine if_yes rfl ?_
            have HF := Lib.hid hF
            clear hF
            unfold Oper.wp
            go_simp
            exact hK _ _ ⟨_, _, _, _, _, _, _, _, _, _, _, _, _, _, _, _, _, _, _, _, rfl, HF.out.s0⟩
          · have d0 : f 0 = true := by simp [hdep]
            obtain rfl := hF.b0 d0
            refine if_yes rfl ?_
            have HF := Lib.hid hF
            clear hF
            unfold Oper.wp
            go_simp
            exact hK _ _ ⟨_, _, _, _, _, _, _, _, _, _, _, _, _, _, _, _, _, _, _, _, rfl, HF.out.s1⟩
          · have d1 : f 1 = true := by simp [hdep]
            obtain rfl := hF.b1 d1
            refine if_yes rfl ?_
            have HF := Lib.hid hF
            clear hF
            unfold Oper.wp
            go_simp
            exact hK _ _ ⟨_, _, _, _, _, _, _, _, _, _, _, _, _, _, _, _, _, _, _, _, rfl, HF.out.s2⟩
          · have d2 : f 2 = true := by simp [hdep]
            obtain rfl := hF.b2 d2
            refine if_yes rfl ?_
            have HF := Lib.hid hF
            clear hF
            unfold Oper.wp
            go_simp
            exact hK _ _ ⟨_, _, _, _, _, _, _, _, _, _, _, _, _, _, _, _, _, _, _, _, rfl, HF.out.s3⟩
          · have d3 : f 3 = true := by simp [hdep]
            obtain rfl := hF.b3 d3
            refine if_yes rfl ?_
            have HF := Lib.hid hF
            clear hF
            unfold Oper.wp
            go_simp
            exact hK _ _ ⟨_, _, _, _, _, _, _, _, _, _, _, _, _, _, _, _, _, _, _, _, rfl, HF.out.s4⟩
          · have d4 : f 4 = true := by simp [hdep]
            have d3 : f 3 = true := by simp [hdep]
            obtain rfl := hF.b4 d4
            obtain rfl := hF.b3 d3
            refine if_yes rfl ?_
            have HF := Lib.hid hF
            clear hF
            unfold Oper.wp
            go_simp
            exact hK _ _ ⟨_, _, _, _, _, _, _, _, _, _, _, _, _, _, _, _, _, _, _, _, rfl, HF.out.s5⟩
          · have d5 : f 5 = true := by simp [hdep]
            have d3 : f 3 = true := by simp [hdep]
            obtain rfl := hF.b5 d5
            obtain rfl := hF.b3 d3
            refine if_yes rfl ?_
            have HF := Lib.hid hF
            clear hF
            unfold Oper.wp
            go_simp
            exact hK _ _ ⟨_, _, _, _, _, _, _, _, _, _, _, _, _, _, _, _, _, _, _, _, rfl, HF.out.s6⟩
          · have d3 : f 3 = true := by simp [hdep]
            obtain rfl := hF.b3 d3
            refine if_yes rfl ?_
            have HF := Lib.hid hF
            clear hF
            unfold Oper.wp
            go_simp
            exact hK _ _ ⟨_, _, _, _, _, _, _, _, _, _, _, _, _, _, _, _, _, _, _, _, rfl, HF.out.s7⟩
          · have d6 : f 6 = true := by simp [hdep]
            have d7 : f 7 = true := by simp [hdep]
            have d3 : f 3 = true := by simp [hdep]
            obtain rfl := hF.b6 d6
            obtain rfl := hF.b7 d7
            obtain rfl := hF.b3 d3
            refine if_yes rfl ?_
            have HF := Lib.hid hF
            clear hF
            unfold Oper.wp
            go_simp
            exact hK _ _ ⟨_, _, _, _, _, _, _, _, _, _, _, _, _, _, _, _, _, _, _, _, rfl, HF.out.s8⟩
          · have d3 : f 3 = true := by simp [hdep]
            have d8 : f 8 = true := by simp [hdep]
            obtain rfl := hF.b3 d3
            obtain rfl := hF.b8 d8
            refine if_yes rfl ?_
            have HF := Lib.hid hF
            clear hF
            unfold Oper.wp
            go_simp
            exact hK _ _ ⟨_, _, _, _, _, _, _, _, _, _, _, _, _, _, _, _, _, _, _, _, rfl, HF.out.s9⟩
          · have d9 : f 9 = true := by simp [hdep]
            obtain rfl := hF.b9 d9
            refine if_yes rfl ?_
            have HF := Lib.hid hF
            clear hF
            unfold Oper.wp
            go_simp
            exact hK _ _ ⟨_, _, _, _, _, _, _, _, _, _, _, _, _, _, _, _, _, _, _, _, rfl, HF.out.s10⟩
          · have d10 : f 10 = true := by simp [hdep]
            obtain rfl := hF.b10 d10
            refine if_yes rfl ?_
            have HF := Lib.hid hF
            clear hF
            unfold Oper.wp
            go_simp
            exact hK _ _ ⟨_, _, _, _, _, _, _, _, _, _, _, _, _, _, _, _, _, _, _, _, rfl, HF.out.s11⟩
          · have d10 : f 10 = true := by simp [hdep]
            obtain rfl := hF.b10 d10
            refine if_yes rfl ?_
            have HF := Lib.hid hF
            clear hF
            unfold Oper.wp
            go_simp
            exact hK _ _ ⟨_, _, _, _, _, _, _, _, _, _, _, _, _, _, _, _, _, _, _, _, rfl, HF.out.s12⟩
          · have d12 : f 12 = true := by simp [hdep]
            have d10 : f 10 = true := by simp [hdep]
            obtain rfl := hF.b12 d12
            obtain rfl := hF.b10 d10
            refine if_yes rfl ?_
            have HF := Lib.hid hF
            clear hF
            unfold Oper.wp
            go_simp
            exact hK _ _ ⟨_, _, _, _, _, _, _, _, _, _, _, _, _, _, _, _, _, _, _, _, rfl, HF.out.s13⟩
          · have d10 : f 10 = true := by simp [hdep]
            obtain rfl := hF.b10 d10
            refine if_yes rfl ?_
            have HF := Lib.hid hF
            clear hF
            unfold Oper.wp
            go_simp
            exact hK _ _ ⟨_, _, _, _, _, _, _, _, _, _, _, _, _, _, _, _, _, _, _, _, rfl, HF.out.s14⟩
          · have d11 : f 11 = true := by simp [hdep]
            have d13 : f 13 = true := by simp [hdep]
            have d14 : f 14 = true := by simp [hdep]
            have d10 : f 10 = true := by simp [hdep]
            obtain rfl := hF.b11 d11
            obtain rfl := hF.b13 d13
            obtain rfl := hF.b14 d14
            obtain rfl := hF.b10 d10
            refine if_yes rfl ?_
            have HF := Lib.hid hF
            clear hF
            unfold Oper.wp
            go_simp
            refine (Hmap.out u HF.out.wb).mono ?_
            rintro e u2 ⟨v9, rfl, hb9, hi9⟩
            obtain ⟨A9, c9, rfl, _, _, _⟩ := hi9.form
            exact hK _ _ ⟨_, _, _, _, _, _, _, _, _, _, _, _, _, _, _, _, _, _, _, _, rfl, HF.out.s15 hb9 hi9⟩
          · have d10 : f 10 = true := by simp [hdep]
            obtain rfl := hF.b10 d10
            refine if_yes rfl ?_
            have HF := Lib.hid hF
            clear hF
            unfold Oper.wp
            go_simp
            exact hK _ _ ⟨_, _, _, _, _, _, _, _, _, _, _, _, _, _, _, _, _, _, _, _, rfl, HF.out.s16⟩
          · have d16 : f 16 = true := by simp [hdep]
            have d10 : f 10 = true := by simp [hdep]
            obtain rfl := hF.b16 d16
            obtain rfl := hF.b10 d10
            refine if_yes rfl ?_
            have HF := Lib.hid hF
            clear hF
            unfold Oper.wp
            go_simp
            exact hK _ _ ⟨_, _, _, _, _, _, _, _, _, _, _, _, _, _, _, _, _, _, _, _, rfl, HF.out.s17⟩
          · have d15 : f 15 = true := by simp [hdep]
            have d17 : f 17 = true := by simp [hdep]
            have d10 : f 10 = true := by simp [hdep]
            obtain ⟨A9, c9, rfl, hi9⟩ := hF.b15 rfl d15
            obtain rfl := hF.b17 d17
            obtain rfl := hF.b10 d10
            refine if_yes rfl ?_
            have HF := Lib.hid hF
            have Hi9 := Lib.hid hi9
            clear hF hi9
            unfold Oper.wp
            go_simp
            refine (l3Same_any wr.heap.size u.heap.size lo hi _ _ (wayMapV t c.src zj) c.map u Hi9.out (Hz.out.below (Hbw.out.trans (HF.out.wb.mono Hbw.out.size)) hB) (Nat.le_refl _) (by have := HF.out.wb.size; have := Hbw.out.size; omega)).mono ?_
            rintro e u2 ⟨rfl, hb9⟩
            exact hK _ _ ⟨_, _, _, _, _, _, _, _, _, _, _, _, _, _, _, _, _, _, _, _, rfl, HF.out.s18 hb9⟩
          · have d10 : f 10 = true := by simp [hdep]
            have d18 : f 18 = true := by simp [hdep]
            obtain rfl := hF.b10 d10
            obtain rfl := hF.b18 d18
            refine if_yes rfl ?_
            have HF := Lib.hid hF
            clear hF
            unfold Oper.wp
            go_simp
            exact hK _ _ ⟨_, _, _, _, _, _, _, _, _, _, _, _, _, _, _, _, _, _, _, _, rfl, HF.out.s19⟩
        · rintro f x u hall ⟨x24, x25, x26, x27, x28, x29, x30, x31, x32, x33, x34, x35, x36, x37, x38, x39, x40, x41, x42, x43, rfl, hF⟩
          obtain rfl := hF.b19 (hall 19 (by simp))
          have Hwb := Lib.hid (hbr.out.trans (hF.wb.mono hbs))
          clear hF hall
          by_cases hsame : wayMapV t c.src zj = c.map
          · have hd : decide (wayMapV t c.src zj = c.map) = true := decide_eq_true hsame
            have hfin : Hid (redB t i.toNat c = true) := red_yes hltj (by rw [← ezj.out]; exact (Hred.out hz1).trans hd)
            rw [hd]
            clear hd hsame
            go_wp2
            go_ret
            exact ⟨ret_bool hfin.out.symm, H3.out.trans (Hwb.out.mono (by omega))⟩
          · have hd : decide (wayMapV t c.src zj = c.map) = false := decide_eq_false hsame
            have hpre2 : Hid (∀ k, ∀ (hk : k < (waysOf t c.src c.dst).length), k < j + 1 → redZ t i.toNat c (waysOf t c.src c.dst)[k] = false) := fun k hk h => by
              by_cases e : k = j
              · subst e; rw [← ezj.out]; exact (Hred.out hz1).trans hd
              · exact hpre.out k hk (by omega)
            rw [hd]
            clear hd hsame
            go_wp2
            go_roundw
            case rel => exact ⟨j + 1, by omega, by go_num, Hwb, hpre2⟩
            case measure => simp [intOf]; omega
      · have hlt1 : ((zj.length : Int) != 1) = true := by simp; omega
        clear hz1l
        go_wp2
        refine wp_region_inv (by kernel_rfl) (fun f x u => ∃ x24 x25 x26 x27 x28 x29 x30 x31 x32 x33 x34 x35 x36 x37 x38 x39 x40 x41 x42 x43, x = ⟨#[.agg #[.slice A t.sizes.length cap, .slice (some ⟨b, off, none⟩) t.cos.length bap], .int .i64 i, .pointer (some ⟨w.heap.size, 0, none⟩), undef, u4, .pointer (some ⟨w.heap.size + 1, 0, none⟩), undef, .slice A2 zj.length c2, .pointer (some ⟨w.heap.size, 1, none⟩), .slice (some ⟨b, off, none⟩) t.cos.length bap, .int .i64 i, .pointer (some ⟨b, off + i.toNat * 3, none⟩), .agg #[.int .i64 c.src, .int .i64 c.dst, .slice A3 c.map.length cap3], .agg #[.slice A t.sizes.length cap, .slice (some ⟨b, off, none⟩) t.cos.length bap], .pointer (some ⟨w.heap.size + 1, 0, none⟩), .int .i64 c.src, .pointer (some ⟨w.heap.size + 1, 1, none⟩), .int .i64 c.dst, .slice (some ⟨g, 0, none⟩) (waysOf t c.src c.dst).length oc, .int .i64 ((waysOf t c.src c.dst).length : Nat), .int .i64 (j : Nat), .bool true, .pointer (some ⟨g, j, none⟩), .slice A2 zj.length c2, x24, x25, x26, x27, x28, x29, x30, x31, x32, x33, x34, x35, x36, x37, x38, x39, x40, x41, x42, x43, u44], []⟩ ∧ RedF true wr (wayMapV t c.src zj) f x24 x25 x26 x27 x28 x29 x30 x31 x32 x33 x34 x35 x36 x37 x38 x39 x40 x41 x42 x43 (.slice A2 zj.length c2) (.int .i64 (zj.length : Nat)) (.bool true) (.bool true) undef undef undef undef undef (.bool true) (.bool true) (.agg #[.slice A t.sizes.length cap, .slice (some ⟨b, off, none⟩) t.cos.length bap]) (.pointer (some ⟨w.heap.size + 1, 0, none⟩)) (.int .i64 c.src) (.slice A2 zj.length c2) undef (.pointer (some ⟨w.heap.size + 1, 2, none⟩)) (.slice A3 c.map.length cap3) (.bool (decide (wayMapV t c.src zj = c.map))) (.bool (decide (wayMapV t c.src zj = c.map))) u) (of_decide_eq_true (by kernel_rfl)) ⟨_, _, _, _, _, _, _, _, _, _, _, _, _, _, _, _, _, _, _, _, rfl, ⟨(Below.refl _ _).drew, nofun, nofun, nofun, nofun, nofun, nofun, nofun, nofun, nofun, nofun, nofun, nofun, nofun, nofun, nofun, nofun, nofun, nofun, nofun, nofun⟩⟩ ?_ ?_
        · rintro f x u q o ho hfi hdep ⟨x24, x25, x26, x27, x28, x29, x30, x31, x32, x33, x34, x35, x36, x37, x38, x39, x40, x41, x42, x43, rfl, hF⟩
          have hil : q < 20 := by have := (Array.getElem?_eq_some_iff.1 ho).1; simpa using this
          obtain ⟨p0, p1, p2, p3, p4⟩ := Hcells.out u hF.wb
          obtain rfl | rfl | rfl | rfl | rfl | rfl | rfl | rfl | rfl | rfl | rfl | rfl | rfl | rfl | rfl | rfl | rfl | rfl | rfl | rfl : q = 0 ∨ q = 1 ∨ q = 2 ∨ q = 3 ∨ q = 4 ∨ q = 5 ∨ q = 6 ∨ q = 7 ∨ q = 8 ∨ q = 9 ∨ q = 10 ∨ q = 11 ∨ q = 12 ∨ q = 13 ∨ q = 14 ∨ q = 15 ∨ q = 16 ∨ q = 17 ∨ q = 18 ∨ q = 19 := by omega
          all_goals
            obtain rfl := Option.some.inj ho
            refine wpOp_step ho fun K hK => ?_
            simp [Region.binds] at hdep
            clear ho
          · refine if_yes rfl ?_
            have HF := Lib.hid hF
            clear hF
            unfold Oper.wp
            go_simp
            exact hK _ _ ⟨_, _, _, _, _, _, _, _, _, _, _, _, _, _, _, _, _, _, _, _, rfl, HF.out.s0⟩
          · have d0 : f 0 = true := by simp [hdep]
            obtain rfl := hF.b0 d0
            refine if_yes rfl ?_
            have HF := Lib.hid hF
            clear hF
            unfold Oper.wp
            go_simp
            exact hK _ _ ⟨_, _, _, _, _, _, _, _, _, _, _, _, _, _, _, _, _, _, _, _, rfl, HF.out.s1⟩
          · have d1 : f 1 = true := by simp [hdep]
            obtain rfl := hF.b1 d1
            refine if_yes rfl ?_
            have HF := Lib.hid hF
            clear hF
            unfold Oper.wp
            go_simp
            exact hK _ _ ⟨_, _, _, _, _, _, _, _, _, _, _, _, _, _, _, _, _, _, _, _, rfl, HF.out.s2⟩
          · have d2 : f 2 = true := by simp [hdep]
            obtain rfl := hF.b2 d2
            refine if_yes rfl ?_
            have HF := Lib.hid hF
            clear hF
            unfold Oper.wp
            go_simp
            exact hK _ _ ⟨_, _, _, _, _, _, _, _, _, _, _, _, _, _, _, _, _, _, _, _, rfl, HF.out.s3⟩
          · have d3 : f 3 = true := by simp [hdep]
            obtain rfl := hF.b3 d3
            refine if_no rfl ?_
            exact hK _ _ ⟨_, _, _, _, _, _, _, _, _, _, _, _, _, _, _, _, _, _, _, _, rfl, hF.s4⟩
          · have d4 : f 4 = true := by simp [hdep]
            have d3 : f 3 = true := by simp [hdep]
            obtain rfl := hF.b4 d4
            obtain rfl := hF.b3 d3
            refine if_no rfl ?_
            exact hK _ _ ⟨_, _, _, _, _, _, _, _, _, _, _, _, _, _, _, _, _, _, _, _, rfl, hF.s5⟩
          · have d5 : f 5 = true := by simp [hdep]
            have d3 : f 3 = true := by simp [hdep]
            obtain rfl := hF.b5 d5
            obtain rfl := hF.b3 d3
            refine if_no rfl ?_
            exact hK _ _ ⟨_, _, _, _, _, _, _, _, _, _, _, _, _, _, _, _, _, _, _, _, rfl, hF.s6⟩
          · have d3 : f 3 = true := by simp [hdep]
            obtain rfl := hF.b3 d3
            refine if_no rfl ?_
            exact hK _ _ ⟨_, _, _, _, _, _, _, _, _, _, _, _, _, _, _, _, _, _, _, _, rfl, hF.s7⟩
          · have d6 : f 6 = true := by simp [hdep]
            have d7 : f 7 = true := by simp [hdep]
            have d3 : f 3 = true := by simp [hdep]
            obtain rfl := hF.b6 d6
            obtain rfl := hF.b7 d7
            obtain rfl := hF.b3 d3
            refine if_no rfl ?_
            exact hK _ _ ⟨_, _, _, _, _, _, _, _, _, _, _, _, _, _, _, _, _, _, _, _, rfl, hF.s8⟩
          · have d3 : f 3 = true := by simp [hdep]
            have d8 : f 8 = true := by simp [hdep]
            obtain rfl := hF.b3 d3
            obtain rfl := hF.b8 d8
            refine if_yes rfl ?_
            have HF := Lib.hid hF
            clear hF
            unfold Oper.wp
            go_simp
            exact hK _ _ ⟨_, _, _, _, _, _, _, _, _, _, _, _, _, _, _, _, _, _, _, _, rfl, HF.out.s9⟩
          · have d9 : f 9 = true := by simp [hdep]
            obtain rfl := hF.b9 d9
            refine if_yes rfl ?_
            have HF := Lib.hid hF
            clear hF
            unfold Oper.wp
            go_simp
            exact hK _ _ ⟨_, _, _, _, _, _, _, _, _, _, _, _, _, _, _, _, _, _, _, _, rfl, HF.out.s10⟩
          · have d10 : f 10 = true := by simp [hdep]
            obtain rfl := hF.b10 d10
            refine if_yes rfl ?_
            have HF := Lib.hid hF
            clear hF
            unfold Oper.wp
            go_simp
            exact hK _ _ ⟨_, _, _, _, _, _, _, _, _, _, _, _, _, _, _, _, _, _, _, _, rfl, HF.out.s11⟩
          · have d10 : f 10 = true := by simp [hdep]
            obtain rfl := hF.b10 d10
            refine if_yes rfl ?_
            have HF := Lib.hid hF
            clear hF
            unfold Oper.wp
            go_simp
            exact hK _ _ ⟨_, _, _, _, _, _, _, _, _, _, _, _, _, _, _, _, _, _, _, _, rfl, HF.out.s12⟩
          · have d12 : f 12 = true := by simp [hdep]
            have d10 : f 10 = true := by simp [hdep]
            obtain rfl := hF.b12 d12
            obtain rfl := hF.b10 d10
            refine if_yes rfl ?_
            have HF := Lib.hid hF
            clear hF
            unfold Oper.wp
            go_simp
            exact hK _ _ ⟨_, _, _, _, _, _, _, _, _, _, _, _, _, _, _, _, _, _, _, _, rfl, HF.out.s13⟩
          · have d10 : f 10 = true := by simp [hdep]
            obtain rfl := hF.b10 d10
            refine if_yes rfl ?_
            have HF := Lib.hid hF
            clear hF
            unfold Oper.wp
            go_simp
            exact hK _ _ ⟨_, _, _, _, _, _, _, _, _, _, _, _, _, _, _, _, _, _, _, _, rfl, HF.out.s14⟩
          · have d11 : f 11 = true := by simp [hdep]
            have d13 : f 13 = true := by simp [hdep]
            have d14 : f 14 = true := by simp [hdep]
            have d10 : f 10 = true := by simp [hdep]
            obtain rfl := hF.b11 d11
            obtain rfl := hF.b13 d13
            obtain rfl := hF.b14 d14
            obtain rfl := hF.b10 d10
            refine if_yes rfl ?_
            have HF := Lib.hid hF
            clear hF
            unfold Oper.wp
            go_simp
            refine (Hmap.out u HF.out.wb).mono ?_
            rintro e u2 ⟨v9, rfl, hb9, hi9⟩
            obtain ⟨A9, c9, rfl, _, _, _⟩ := hi9.form
            exact hK _ _ ⟨_, _, _, _, _, _, _, _, _, _, _, _, _, _, _, _, _, _, _, _, rfl, HF.out.s15 hb9 hi9⟩
          · have d10 : f 10 = true := by simp [hdep]
            obtain rfl := hF.b10 d10
            refine if_yes rfl ?_
            have HF := Lib.hid hF
            clear hF
            unfold Oper.wp
            go_simp
            exact hK _ _ ⟨_, _, _, _, _, _, _, _, _, _, _, _, _, _, _, _, _, _, _, _, rfl, HF.out.s16⟩
          · have d16 : f 16 = true := by simp [hdep]
            have d10 : f 10 = true := by simp [hdep]
            obtain rfl := hF.b16 d16
            obtain rfl := hF.b10 d10
            refine if_yes rfl ?_
            have HF := Lib.hid hF
            clear hF
            unfold Oper.wp
            go_simp
            exact hK _ _ ⟨_, _, _, _, _, _, _, _, _, _, _, _, _, _, _, _, _, _, _, _, rfl, HF.out.s17⟩
          · have d15 : f 15 = true := by simp [hdep]
            have d17 : f 17 = true := by simp [hdep]
            have d10 : f 10 = true := by simp [hdep]
            obtain ⟨A9, c9, rfl, hi9⟩ := hF.b15 rfl d15
            obtain rfl := hF.b17 d17
            obtain rfl := hF.b10 d10
            refine if_yes rfl ?_
            have HF := Lib.hid hF
            have Hi9 := Lib.hid hi9
            clear hF hi9
            unfold Oper.wp
            go_simp
            refine (l3Same_any wr.heap.size u.heap.size lo hi _ _ (wayMapV t c.src zj) c.map u Hi9.out (Hz.out.below (Hbw.out.trans (HF.out.wb.mono Hbw.out.size)) hB) (Nat.le_refl _) (by have := HF.out.wb.size; have := Hbw.out.size; omega)).mono ?_
            rintro e u2 ⟨rfl, hb9⟩
            exact hK _ _ ⟨_, _, _, _, _, _, _, _, _, _, _, _, _, _, _, _, _, _, _, _, rfl, HF.out.s18 hb9⟩
          · have d10 : f 10 = true := by simp [hdep]
            have d18 : f 18 = true := by simp [hdep]
            obtain rfl := hF.b10 d10
            obtain rfl := hF.b18 d18
            refine if_yes rfl ?_
            have HF := Lib.hid hF
            clear hF
            unfold Oper.wp
            go_simp
            exact hK _ _ ⟨_, _, _, _, _, _, _, _, _, _, _, _, _, _, _, _, _, _, _, _, rfl, HF.out.s19⟩
        · rintro f x u hall ⟨x24, x25, x26, x27, x28, x29, x30, x31, x32, x33, x34, x35, x36, x37, x38, x39, x40, x41, x42, x43, rfl, hF⟩
          obtain rfl := hF.b19 (hall 19 (by simp))
          have Hwb := Lib.hid (hbr.out.trans (hF.wb.mono hbs))
          clear hF hall
          by_cases hsame : wayMapV t c.src zj = c.map
          · have hd : decide (wayMapV t c.src zj = c.map) = true := decide_eq_true hsame
            have hfin : Hid (redB t i.toNat c = true) := red_yes hltj (by rw [← ezj.out]; exact (Hred.out hz1).trans hd)
            rw [hd]
            clear hd hsame
            go_wp2
            go_ret
            exact ⟨ret_bool hfin.out.symm, H3.out.trans (Hwb.out.mono (by omega))⟩
          · have hd : decide (wayMapV t c.src zj = c.map) = false := decide_eq_false hsame
            have hpre2 : Hid (∀ k, ∀ (hk : k < (waysOf t c.src c.dst).length), k < j + 1 → redZ t i.toNat c (waysOf t c.src c.dst)[k] = false) := fun k hk h => by
              by_cases e : k = j
              · subst e; rw [← ezj.out]; exact (Hred.out hz1).trans hd
              · exact hpre.out k hk (by omega)
            rw [hd]
            clear hd hsame
            go_wp2
            go_roundw
            case rel => exact ⟨j + 1, by omega, by go_num, Hwb, hpre2⟩
            case measure => simp [intOf]; omega
    · obtain rfl : j = (waysOf t c.src c.dst).length := by omega
      have hno := Lib.hid (red_no hpre.out)
      go_wp2
      go_ret
      exact ⟨ret_bool hno.out.symm, H3.out.trans (hbr.out.mono (by omega))⟩
end Go.Proofs.Ytokklaoldgdkaaa

