/-
  The contracts of the model's WaysOf.
  The contracts of ShortestWay, the program's and the model's.
  What ways make of all values, as plain data: images, agreement, redundancy. Nothing here speaks of the program.
-/
import Derived.Test.YtplpnammboofiaaQcollw
import Derived.Test.YtplpnammboofiaaJ9
import Derived.Test.YtplpnammboofiaaJ10
import Derived.BigQuiet
namespace Go.Proofs.Ytplpnammboofiaa
open Go.RowKit

theorem WaysAt.ss {w : World} {base : Nat} {ov : Value} {zss : List (List Int)} (h : WaysAt w base ov zss) : SSAt w base w.heap.size ov zss := by
  obtain ⟨xs, S, ho, hi, hS⟩ := h
  obtain ⟨h1, h2⟩ := slAt_of_owns ho
  obtain ⟨A, cap, rfl, h3, h4, h5, h6⟩ := h1
  refine ⟨A, cap, rfl, h3, h4, fun h0 => ?_⟩
  obtain ⟨hA, rest, hr⟩ := h6 h0
  refine ⟨_, 0, hA, (h2 h0).2.1, (h2 h0).2.2, fun k hk => ?_⟩
  obtain ⟨x, hx, hz⟩ := hi k hk
  refine ⟨x, ?_, hz.at fun b hb => ⟨(hS b hb).1, (hS b hb).2.1⟩⟩
  rw [Nat.zero_add, hr.cell, List.getElem?_append_left (List.getElem?_eq_some_iff.1 hx).1]
  exact hx
theorem WaysAt.push {w w6 w7 : World} {base : Nat} {ov ov' x : Value} {zss : List (List Int)} {z : List Int} {xs : List Value} {S : Nat → Prop} (ho : w.ownsRow base 23 1 ov zss.length xs) (hi : ∀ i, ∀ (h : i < zss.length), ∃ x, xs[i]? = some x ∧ IntsIn w S x zss[i]) (hS : ∀ b, S b → base ≤ b ∧ b < w.heap.size ∧ some b ≠ ov.ownBlock)
    (hb : base ≤ w.heap.size) (hs : w.heap.size ≤ w6.heap.size) (hk : ∀ k, k < w.heap.size → w6.heap[k]? = w.heap[k]?) (hx : IntsIn w6 (fun b => w.heap.size ≤ b ∧ b < w6.heap.size) x z) (hp : Pushed w6 w7 base 23 ov ov' zss.length xs x) : WaysAt w7 base ov' (zss ++ [z]) := by
  have hbl := owns_lt ho
  have hsz := hp.grown.size
  have hxl := ho.1
  have kept : ∀ b, (S b ∨ (w.heap.size ≤ b ∧ b < w6.heap.size)) → w7.heap[b]? = w6.heap[b]? := by
    intro b hb
    rcases hb with hb | hb
    · exact hp.grown.block b (by have := (hS b hb).2.1; omega) (hS b hb).2.2
    · exact hp.grown.block b hb.2 (fun e => by have := (hbl b e.symm).2; omega)
  refine ⟨xs ++ [x], fun b => S b ∨ (w.heap.size ≤ b ∧ b < w6.heap.size), ?_, fun j hj => ?_, fun b hb2 => ?_⟩
  · rw [List.length_append]
    exact hp.own
  · by_cases hjl : j < zss.length
    · obtain ⟨y, hy, hz⟩ := hi j hjl
      refine ⟨y, by rw [List.getElem?_append_left (by omega)]; exact hy, ?_⟩
      rw [List.getElem_append_left hjl]
      exact ((hz.keep fun b hb => hk b (hS b hb).2.1).more fun b hb => Or.inl hb).keep kept
    · obtain rfl : j = zss.length := by simp at hj; omega
      refine ⟨x, by rw [List.getElem?_append_right (by omega)]; simp [hxl], ?_⟩
      have e : (zss ++ [z])[zss.length] = z := by simp
      rw [e]
      exact (hx.more fun b hb => Or.inr hb).keep kept
  · rcases hb2 with h | h
    · obtain ⟨h1, h2, h3⟩ := hS b h
      refine ⟨h1, by omega, ?_⟩
      rcases hp.at_ with e | ⟨g', e, h6, _⟩
      · rw [e]; exact h3
      · rw [e]; intro h7; simp only [Option.some.injEq] at h7; omega
    · refine ⟨by omega, by omega, ?_⟩
      rcases hp.at_ with e | ⟨g', e, h6, _⟩
      · rw [e]; intro e2
        have := (hbl b e2.symm).2
        omega
      · rw [e]; intro h7; simp only [Option.some.injEq] at h7; omega

set_option maxRecDepth 100000 in
set_option maxHeartbeats 2000000 in
theorem ownSS_any (lo hi : Nat) (v : Value) (zss : List (List Int)) (w : World) (hv : SSAt w lo hi v zss) (hB : hi ≤ w.heap.size) (hn : zss.length ≤ 40000) (hl5 : ∀ z ∈ zss, z.length ≤ 5) (hwf : ∀ z ∈ zss, ∀ i ∈ z, I64 i) :
    Calls Try.prog 54 #[v] w fun e w' => ∃ v', e = .returned v' ∧ Below w.heap.size w w' ∧ SSAt w' w.heap.size w'.heap.size v' zss := by
  obtain ⟨A, cap, rfl, hl, hm, hz⟩ := hv.form
  obtain ⟨i0, hi0, hz0, hz1, hz2⟩ := info_parts Try.infoInt
  obtain ⟨i1, hi1, hy0, hy1, hy2⟩ := info_parts Try.infoIntS
  have Hz := Lib.hid hz
  have Hwf := Lib.hid hwf
  have Hl5 := Lib.hid hl5
  clear hz hv hwf hl5
  go_enter Try.func54, Try.ntmps54
  go_wp2
  go_loopw [3, 9] (fun l i wr => ∃ j : Nat, j ≤ zss.length ∧ i = .int .i64 j ∧ Hid (Below w.heap.size w wr) ∧ Hid (WaysAt wr w.heap.size l (zss.take j))) (fun _ i _ => zss.length - (intOf i).toNat)
  case atStart =>
    refine ⟨0, Nat.zero_le _, rfl, (Below.refl _ _).alloc (Nat.le_refl _) _, [], fun _ => False, ?_, fun i h => absurd h (by simp), fun b h => h.elim⟩
    have := World.ownsRow_lit (base := w.heap.size) (e := 23) (size := 1) w #[] 0 (Nat.le_refl _) (by unfold maxLen; omega) rfl
    simpa using this
  case round =>
    obtain ⟨j, hj, rfl, hb, hwy⟩ := hrel
    have hbs := hb.out.size
    by_cases hlt : j < zss.length
    · obtain ⟨b, off, A2, c2, rfl, _, _, c0, hi0'⟩ := (Hz.out.below hb.out hB).at_ hlt
      obtain ⟨xs, S, ho, hints, hS⟩ := hwy.out
      obtain ⟨LA, LC, rfl⟩ := owns_form ho
      have htl : (zss.take j).length = j := by rw [List.length_take]; omega
      rw [htl] at ho hS
      have htake : zss.take (j + 1) = zss.take j ++ [zss[j]] := List.take_succ_eq_append_getElem hlt
      have h5 := Hl5.out _ (List.getElem_mem hlt)
      have hw5 := Lib.hid (Hwf.out _ (List.getElem_mem hlt))
      have Hi0 := Lib.hid hi0'
      have Ho := Lib.hid ho
      have Hints := Lib.hid hints
      have HS := Lib.hid hS
      have Htake := Lib.hid htake
      have hlit := World.ownsRow_lit (base := wr.heap.size) (e := 3) (size := 1) wr #[] 0 (Nat.le_refl _) (by unfold maxLen; omega) rfl
      have Hlit := Lib.hid hlit
      clear hi0' ho hints hS htake hlit
      go_wp2_with (at_builtin; refine wpList_append_ints rfl (.tmp 14) (.tmp 15) rfl wr.heap.size _ 0 _ rfl Hlit.out lo hi A2 zss[j].length c2 zss[j] rfl (Hi0.out.keep fun k _ hk => Below.heap_alloc wr _ k (by omega)) rfl (by omega) (by simp) ?_)
      intro VA VC w5 hown5 hgrow5
      have hg5 : (wr.alloc (.cells #[] 3)).grownBy w5 (some wr.heap.size) := hgrow5
      have hs5 : wr.heap.size + 1 ≤ w5.heap.size := by have := hg5.size; rw [World.size_alloc] at this; exact this
      have hk5 : ∀ k, k < wr.heap.size → w5.heap[k]? = wr.heap[k]? := fun k hk => (hg5.block k (by rw [World.size_alloc]; exact Nat.lt_succ_of_lt hk) (by intro e; simp only [Option.some.injEq] at e; omega)).trans (Below.heap_alloc wr _ k hk)
      have hb5 : Below wr.heap.size wr w5 := ⟨hg5.os, hg5.tape, hg5.output, by omega, hk5⟩
      have Hb5 := Lib.hid hb5
      have Hown5 := Lib.hid hown5
      clear hgrow5 hg5 hk5 hb5 hown5
      go_wp2_with (at_builtin; refine wpList_push rfl (.tmp 13) (.tmp 17) 41 rfl i1 (.slice none 0 0) 24 Try.underlying41 hi1 hy0 hy1 hy2 rfl rfl (ownsRow_keep1 Ho.out fun g hg => (Below.heap_alloc w5 _ g (by have := (owns_lt Ho.out g hg).2; omega)).trans (Hb5.out.block g (owns_lt Ho.out g hg).2)) ⟨w5.heap.size, 0, none⟩ 1 (.slice VA zss[j].length VC) rfl (by simp [go_sem]) rfl (by unfold maxLen; omega) (by omega) (by simp; omega) ?_)
      intro v7 w7 hp7
      have hx6 : IntsIn (w5.alloc (.cells #[.slice VA zss[j].length VC] 23)) (fun b => wr.heap.size ≤ b ∧ b < (w5.alloc (.cells #[.slice VA zss[j].length VC] 23)).heap.size) (.slice VA zss[j].length VC) zss[j] :=
        ((ownsRow.intsAt (lo := wr.heap.size) (hi := w5.heap.size) Hown5.out hw5.out (Nat.le_refl _) (Nat.le_refl _)).keep fun k _ hk => Below.heap_alloc w5 _ k hk).in_.more fun b hb => ⟨hb.1, by simp; omega⟩
      have hpush := WaysAt.push (zss := zss.take j) (z := zss[j]) (by rw [htl]; exact Ho.out) Hints.out HS.out hbs (by simp; omega) (fun k hk => (Below.heap_alloc w5 _ k (by omega)).trans (Hb5.out.block k hk)) hx6 (by rw [htl]; exact hp7)
      rw [← Htake.out] at hpush
      have Hpush := Lib.hid hpush
      have hb7 := Lib.hid (((hb.out.trans (Hb5.out.mono hbs)).alloc (by omega) (.cells #[.slice VA zss[j].length VC] 23)).grown hp7.grown (by simp; omega) (fun k hk => (owns_lt Ho.out k hk).1))
      clear hpush hp7 hx6
      go_wp2
      go_roundw
      case rel => exact ⟨j + 1, by omega, by go_num, hb7, Hpush⟩
      case measure => simp [intOf]; omega
    · obtain rfl : j = zss.length := by omega
      have hfin := hwy.out
      rw [List.take_length] at hfin
      have Hfin := Lib.hid hfin.ss
      clear hfin
      go_wp2
      go_ret
      exact ⟨_, rfl, hb.out, Hfin.out⟩

theorem SSAt.nil {w : World} {lo hi : Nat} (a : Option Addr) : SSAt w lo hi (.slice a 0 0) [] := ⟨_, 0, rfl, Nat.le_refl _, Nat.zero_le _, fun h => absurd h (by simp)⟩
theorem SSAt.more {w : World} {lo hi lo' hi' : Nat} {v : Value} {zss : List (List Int)} (h : SSAt w lo hi v zss) (h1 : lo' ≤ lo) (h2 : hi ≤ hi') : SSAt w lo' hi' v zss := by
  obtain ⟨A, cap, e, a1, a2, a3⟩ := h
  refine ⟨A, cap, e, a1, a2, fun h0 => ?_⟩
  obtain ⟨b, off, hA, hl, hh, hc⟩ := a3 h0
  refine ⟨b, off, hA, by omega, by omega, fun k hk => ?_⟩
  obtain ⟨x, hx, hz⟩ := hc k hk
  exact ⟨x, hx, hz.more h1 h2⟩
theorem waysV_all (t : Ty) (a b : Int) : (waysV t a b).length ≤ 32768 ∧ (∀ z ∈ waysV t a b, z.length ≤ 5) ∧ ∀ z ∈ waysV t a b, ∀ i ∈ z, I64 i := by
  by_cases h : typesB t a b = true
  · rw [waysV_yes h]
    have hok := (typesB_of h).1
    exact ⟨waysOf_len hok a b, fun z hz => by have := waysF_short 5 a b z hz; omega, fun z hz => waysF_wf (tyOk_few hok) 5 a b z hz⟩
  · rw [waysV_no (by simpa using h)]
    exact ⟨by simp, fun z hz => absurd hz (by simp), fun z hz => absurd hz (by simp)⟩

set_option maxRecDepth 100000 in
set_option maxHeartbeats 1000000 in
theorem rawWays_any (lo hi : Nat) (sv cv : Value) (t : Ty) (a b : Int) (w : World) (hv : TyAt w lo hi sv cv t) (hB : hi ≤ w.heap.size) :
    Calls Try.prog 53 #[.agg #[sv, cv], .int .i64 a, .int .i64 b] w fun e w' => ∃ v, e = .returned (.tuple #[v, .bool (typesB t a b)]) ∧ Below w.heap.size w w' ∧ SSAt w' w.heap.size w'.heap.size v (waysV t a b) := by
  obtain ⟨A, cap, rfl, hl1, hm1, _⟩ := hv.1.form
  obtain ⟨B, bap, rfl, hl2, hm2, _⟩ := hv.2.form
  have h3 : Below w.heap.size w (w.alloc (.cells #[.slice A t.sizes.length cap, .slice B t.cos.length bap] 26)) := by go_grown
  have hv3 := Lib.hid (hv.below h3 hB)
  have Hv := Lib.hid hv
  clear hv
  go_enter Try.func53, Try.ntmps53
  go_wp2_with fail
  refine (l2Types_any lo hi _ _ t a b _ hv3.out (by simp; omega)).mono ?_
  rintro e w1 ⟨rfl, hb1⟩
  have H1 := Lib.hid (box2 (hb1.mono (by simp)))
  obtain ⟨q0, q1, hl, _⟩ := box2 (hb1.mono (by simp))
  clear hb1
  by_cases hok : typesB t a b = true
  · have Hok := Lib.hid hok
    have hyes := Lib.hid (waysV_yes hok)
    rw [hok]
    clear hok
    go_wp2_with fail
    refine (l2Ways_any lo hi _ _ t a b _ (Hv.out.below H1.out.2.2.2 hB) (by omega) Hok.out).mono ?_
    rintro e w2 ⟨v, rfl, hb2, hwy⟩
    have H2 := Lib.hid (H1.out.2.2.2.trans (hb2.mono (by omega)))
    have Hss := Lib.hid (hwy.ss.more (lo' := w.heap.size) (hi' := w2.heap.size) (by omega) (Nat.le_refl _))
    clear hb2 hwy
    go_wp2
    refine bodyPost_ret (v := .tuple #[v, .bool true]) (by simp [results, Try.results53, go_sem]) rfl ?_
    exact ⟨v, by rw [Hok.out], H2.out, by rw [hyes.out]; exact Hss.out⟩
  · have hokf : typesB t a b = false := by simpa using hok
    have hno := Lib.hid (waysV_no hokf)
    have Hokf := Lib.hid hokf
    rw [hokf]
    clear hok hokf
    go_wp2
    refine bodyPost_ret (v := .tuple #[.slice (some ⟨w1.heap.size, 0, none⟩) 0 0, .bool false]) (by simp [results, Try.results53, go_sem]) rfl ?_
    exact ⟨_, by rw [Hokf.out], H1.out.2.2.2.alloc (by omega) _, by rw [hno.out]; exact SSAt.nil _⟩

set_option maxRecDepth 100000 in
set_option maxHeartbeats 1000000 in
theorem specWays_any (lo hi : Nat) (sv cv : Value) (t : Ty) (a b : Int) (w : World) (hv : TyAt w lo hi sv cv t) (hB : hi ≤ w.heap.size) :
    Calls Try.prog 17 #[.agg #[sv, cv], .int .i64 a, .int .i64 b] w fun e w' => ∃ v, e = .returned (.tuple #[v, .bool (typesB t a b)]) ∧ Below w.heap.size w w' ∧ SSAt w' w.heap.size w'.heap.size v (waysV t a b) := by
  obtain ⟨A, cap, rfl, hl1, hm1, _⟩ := hv.1.form
  obtain ⟨B, bap, rfl, hl2, hm2, _⟩ := hv.2.form
  have h3 : Below w.heap.size w (w.alloc (.cells #[.slice A t.sizes.length cap, .slice B t.cos.length bap] 26)) := by go_grown
  have hv3 := Lib.hid (hv.below h3 hB)
  have H3 := Lib.hid h3
  obtain ⟨n1, n2, n3⟩ := waysV_all t a b
  have N2 := Lib.hid n2
  have N3 := Lib.hid n3
  clear hv n2 n3 h3
  go_enter Try.func17, Try.ntmps17
  go_wp2_with fail
  refine (rawWays_any lo hi _ _ t a b _ hv3.out (by simp; omega)).mono ?_
  rintro e w1 ⟨v, rfl, hb1, hss⟩
  have H1 := Lib.hid (H3.out.trans (hb1.mono (by simp)))
  have hs1 : w.heap.size ≤ w1.heap.size := H1.out.size
  have Hss := Lib.hid hss
  clear hb1 hss
  go_wp2_with fail
  refine (ownSS_any _ _ _ _ _ Hss.out (Nat.le_refl _) (by omega) N2.out N3.out).mono ?_
  rintro e w2 ⟨v', rfl, hb2, hss2⟩
  have H2 := Lib.hid (H1.out.trans (hb2.mono hs1))
  have Hss2 := Lib.hid (hss2.more (lo' := w.heap.size) (hi' := w2.heap.size) hs1 (Nat.le_refl _))
  clear hb2 hss2
  go_wp2
  refine bodyPost_ret (v := .tuple #[v', .bool (typesB t a b)]) (by simp [results, Try.results17, go_sem]) rfl ?_
  exact ⟨v', rfl, H2.out, Hss2.out⟩
end Go.Proofs.Ytplpnammboofiaa

namespace Go.Proofs.Ytplpnammboofiaa
open Go.RowKit
attribute [local go_sem] Oper.semAt_some

/-- The first one of the shortest. -/
def pickS : Option (List Int) → List Int → Option (List Int)
  | none, z => some z
  | some y, z => if z.length < y.length then some z else some y
def shortO (s : List (List Int)) : Option (List Int) := s.foldl pickS none
theorem shortO_nil : shortO [] = none := rfl
theorem shortO_snoc (s : List (List Int)) (z : List Int) : shortO (s ++ [z]) = pickS (shortO s) z := by simp [shortO, List.foldl_append]
theorem pickS_some (y z : List Int) : ∃ x, pickS (some y) z = some x ∧ (x = y ∨ x = z) := by
  by_cases h : z.length < y.length
  · exact ⟨z, by simp [pickS, h], .inr rfl⟩
  · exact ⟨y, by simp [pickS, h], .inl rfl⟩
theorem foldS (s : List (List Int)) : ∀ y, ∃ x, s.foldl pickS (some y) = some x ∧ (x = y ∨ x ∈ s) := by
  induction s with
  | nil => intro y; exact ⟨y, rfl, .inl rfl⟩
  | cons z s ih =>
    intro y
    obtain ⟨u, hu, hor⟩ := pickS_some y z
    obtain ⟨x, hx, hor2⟩ := ih u
    refine ⟨x, by rw [List.foldl_cons, hu]; exact hx, ?_⟩
    rcases hor2 with rfl | h
    · rcases hor with rfl | rfl
      · exact .inl rfl
      · exact .inr (by simp)
    · exact .inr (List.mem_cons_of_mem _ h)
theorem shortO_some (s : List (List Int)) (hs : s ≠ []) : ∃ y, shortO s = some y := by
  cases s with
  | nil => exact absurd rfl hs
  | cons z s =>
    obtain ⟨x, hx, _⟩ := foldS s z
    exact ⟨x, hx⟩
theorem shortO_mem (s : List (List Int)) (y : List Int) (h : shortO s = some y) : y ∈ s := by
  cases s with
  | nil => cases h
  | cons z s =>
    obtain ⟨x, hx, hor⟩ := foldS s z
    have h2 : s.foldl pickS (some z) = some y := h
    rw [hx] at h2
    simp only [Option.some.injEq] at h2
    subst h2
    rcases hor with rfl | h
    · simp
    · exact List.mem_cons_of_mem _ h
def shortV (t : Ty) (a b : Int) : List Int := if typesB t a b = true then (shortO (waysOf t a b)).getD [] else []
theorem shortV_yes {t : Ty} {a b : Int} (h : typesB t a b = true) : shortV t a b = (shortO (waysOf t a b)).getD [] := by unfold shortV; rw [if_pos h]
theorem shortV_no {t : Ty} {a b : Int} (h : typesB t a b = false) : shortV t a b = [] := by unfold shortV; rw [if_neg (by simp [h])]
theorem short_wf {t : Ty} (h : tyOk t = true) (a b : Int) (y : List Int) (hy : y ∈ waysOf t a b) : (∀ z ∈ y, I64 z) ∧ y.length ≤ 5 :=
  ⟨waysF_wf (tyOk_few h) 5 a b y hy, by have := waysF_short 5 a b y hy; omega⟩
theorem shortV_wf (t : Ty) (a b : Int) : (∀ z ∈ shortV t a b, I64 z) ∧ (shortV t a b).length ≤ 5 := by
  by_cases h : typesB t a b = true
  · rw [shortV_yes h]
    cases hs : shortO (waysOf t a b) with
    | none => exact ⟨fun z hz => absurd hz (by simp), by simp⟩
    | some y => exact short_wf (typesB_of h).1 a b y (shortO_mem _ y hs)
  · rw [shortV_no (by simpa using h)]
    exact ⟨fun z hz => absurd hz (by simp), by simp⟩

end Go.Proofs.Ytplpnammboofiaa

namespace Go.Proofs.Ytplpnammboofiaa
open Go.RowKit

theorem waysJ_mem {cs : List Co} {n : Nat} {k goal : Int} {j : Nat} {z : List Int} : z ∈ waysJ cs n k goal j ↔ ∃ i, i < j ∧ (cs.getD i default).src = k ∧ ∃ y, y ∈ waysF cs n (cs.getD i default).dst goal ∧ (i : Int) :: y = z := by
  unfold waysJ
  simp only [List.mem_flatMap, List.mem_range]
  constructor
  · rintro ⟨i, hi, hz⟩
    split at hz
    case isTrue hs =>
      obtain ⟨y, hy, e⟩ := List.mem_map.1 hz
      exact ⟨i, hi, hs, y, hy, e⟩
    case isFalse => simp at hz
  · rintro ⟨i, hi, hs, y, hy, e⟩
    exact ⟨i, hi, by rw [if_pos hs]; exact List.mem_map.2 ⟨y, hy, e⟩⟩

/-- All ways lead to the goal. -/
theorem waysF_end {cs : List Co} : ∀ (n : Nat) (k goal : Int), ∀ z ∈ waysF cs n k goal, wayEnd cs k z = some goal := by
  intro n
  induction n with
  | zero => intro k goal z hz; simp [waysF] at hz
  | succ n ih =>
    intro k goal z hz
    by_cases h : k = goal
    · subst h; rw [waysF_eq] at hz; simp at hz; subst hz; rfl
    · rw [waysF_ne h] at hz
      obtain ⟨i, hi, hs, y, hy, rfl⟩ := waysJ_mem.1 hz
      rw [wayEnd, show ((i : Int)).toNat = i from Int.toNat_natCast i, if_pos ⟨ixB_yes (by omega) (by omega), hs⟩]
      exact ih _ _ y hy
theorem waysOf_end {t : Ty} {a b : Int} {z : List Int} (h : z ∈ waysOf t a b) : wayEnd t.cos a z = some b := waysF_end 5 a b z h

/-- No way is there twice. -/
theorem waysF_nodup {cs : List Co} : ∀ (n : Nat) (k goal : Int), (waysF cs n k goal).Pairwise (· ≠ ·) := by
  intro n
  induction n with
  | zero => intro k goal; simp [waysF]
  | succ n ih =>
    intro k goal
    by_cases h : k = goal
    · subst h; rw [waysF_eq]; simp
    · rw [waysF_ne h]
      have key : ∀ j, j ≤ cs.length → (waysJ cs n k goal j).Pairwise (· ≠ ·) := by
        intro j
        induction j with
        | zero => intro _; simp [waysJ_zero]
        | succ j ihj =>
          intro hj
          by_cases hs : cs[j].src = k
          · rw [waysJ_hit (by omega) hs, List.pairwise_append]
            refine ⟨ihj (by omega), ?_, fun a ha b hb e => ?_⟩
            · rw [List.pairwise_map]
              exact (ih _ _).imp fun hab e => hab (List.cons.inj e).2
            · obtain ⟨i, hi, _, y, _, rfl⟩ := waysJ_mem.1 ha
              obtain ⟨y2, _, rfl⟩ := List.mem_map.1 hb
              have := (List.cons.inj e).1
              omega
          · rw [waysJ_miss (by omega) hs]
            exact ihj (by omega)
      exact key _ (Nat.le_refl _)

/-- A coercion by itself is a way. -/
theorem waysOf_one {t : Ty} (h : tyOk t = true) {i : Nat} (hi : i < t.cos.length) : [(i : Int)] ∈ waysOf t t.cos[i].src t.cos[i].dst := by
  obtain ⟨h1, h2, h3, _⟩ := coOk_of (tyOk_co h hi)
  show _ ∈ waysF t.cos (4 + 1) _ _
  rw [waysF_ne (by omega)]
  exact waysJ_mem.2 ⟨i, hi, by rw [getD_at hi], [], by rw [getD_at hi]; show _ ∈ waysF t.cos (3 + 1) _ _; rw [waysF_eq]; simp, rfl⟩

/-- What a way makes of each of the four numbers, -1 of those that are no value. -/
def imgAt (t : Ty) (k : Int) (z : List Int) (v : Nat) : Int := if (v : Int) < t.sizes.getD k.toNat 0 then goV t.cos (v : Int) z else -1
def imgV (t : Ty) (k : Int) (z : List Int) : List Int := [imgAt t k z 0, imgAt t k z 1, imgAt t k z 2, imgAt t k z 3]
theorem imgAt_in {t : Ty} {k : Int} {z : List Int} {v : Nat} (h : (v : Int) < t.sizes.getD k.toNat 0) : imgAt t k z v = goV t.cos (v : Int) z := if_pos h
theorem imgAt_out {t : Ty} {k : Int} {z : List Int} {v : Nat} (h : ¬ (v : Int) < t.sizes.getD k.toNat 0) : imgAt t k z v = -1 := if_neg h
theorem imgAt_wf {t : Ty} (h : tyOk t = true) {k : Int} {z : List Int} {v : Nat} (hk : 0 ≤ k) (hk2 : k < t.sizes.length) (hz : (wayEnd t.cos k z).isSome = true) : I64 (imgAt t k z v) := by
  by_cases hv : (v : Int) < t.sizes.getD k.toNat 0
  · rw [imgAt_in hv]
    obtain ⟨q, hq⟩ := goV_val h z k (v : Int) ⟨hk, hk2, by omega, hv⟩ hz
    exact valOf_I64 h hq
  · rw [imgAt_out hv]; unfold I64; omega
theorem sizes_four {t : Ty} (h : tyOk t = true) {k : Int} (hk : 0 ≤ k) (hk2 : k < t.sizes.length) : t.sizes.getD k.toNat 0 ≤ 4 := by
  have hs : k.toNat < t.sizes.length := by omega
  have := (sizesOk_of (tyOk_sizes h)).2.2 _ hs
  rw [List.getD_eq_getElem?_getD, List.getElem?_eq_getElem hs]
  simp only [Option.getD_some]
  omega
/-- Two ways make the same of all values just if their images are one. -/
theorem imgV_eq {t : Ty} (h : tyOk t = true) {k : Int} (hk : 0 ≤ k) (hk2 : k < t.sizes.length) {y z : List Int} : imgV t k y = imgV t k z ↔ ∀ v : Nat, (v : Int) < t.sizes.getD k.toNat 0 → goV t.cos (v : Int) y = goV t.cos (v : Int) z := by
  have h4 := sizes_four h hk hk2
  constructor
  · intro e v hv
    simp only [imgV, List.cons.injEq, and_true] at e
    obtain ⟨e0, e1, e2, e3⟩ := e
    have hlt : v < 4 := by omega
    rw [← imgAt_in (z := y) hv, ← imgAt_in (z := z) hv]
    rcases (by omega : v = 0 ∨ v = 1 ∨ v = 2 ∨ v = 3) with rfl | rfl | rfl | rfl <;> assumption
  · intro e
    have key : ∀ v : Nat, imgAt t k y v = imgAt t k z v := fun v => by
      by_cases hv : (v : Int) < t.sizes.getD k.toNat 0
      · rw [imgAt_in hv, imgAt_in hv, e v hv]
      · rw [imgAt_out hv, imgAt_out hv]
    simp only [imgV, key]

/-- Do all ways make the same of a value? -/
def sameB (t : Ty) (a b v : Int) : Bool := (waysOf t a b).all fun z => goV t.cos v z == goV t.cos v ((waysOf t a b).headD [])
def agreeV (t : Ty) (a b v : Int) : Bool := typesB t a b && (hasV0 t.sizes a v && sameB t a b v)
/-- Does another way make the same as a coercion? -/
def redB (t : Ty) (i : Nat) (c : Co) : Bool := (waysOf t c.src c.dst).any fun z => !(decide (z = [(i : Int)])) && decide (mapL t.cos z (t.sizes.getD c.src.toNat 0).toNat = c.map)
end Go.Proofs.Ytplpnammboofiaa

