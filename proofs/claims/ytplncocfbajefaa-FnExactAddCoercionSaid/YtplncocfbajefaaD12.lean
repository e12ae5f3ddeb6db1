/-
  The contract of the model's WithFunction, whose parts may share memory.
  The contract of the model's WithFunction.
  Lists of functions that are cut and put together: readings, and an append to a row of the call's own.
  The contracts of l4Has and hasFunctions.
  What holds in the region of the model's DropFunction that puts two parts of a list together: by what has been done.
  The contract of strings.Clone.
  A region that draws its order, each of whose operations sets one slot to one value: what holds by what has been done.
  A region that draws its order, some of whose operations, a chain, turn the world one after the other: what holds by what has been done.
-/
import Derived.Test.YtplncocfbajefaaD7
import Derived.Test.YtplncocfbajefaaD11
import Derived.Test.YtplncocfbajefaaD6
import Derived.Shelf.Pu.Clone
import Derived.Test.YtplncocfbajefaaD1
namespace Go.Proofs.Ytplncocfbajefaa
open Go.RowKit

theorem if_stepF {c : Bool} {A B : Prop} (h : c = true) (ha : A) : if c = true then A else B := by rw [if_pos h]; exact ha

theorem fusAt_more {u : World} {N lo hi L : Nat} {v z y : Value} {fs : List Fu} {f : Fu} {news : List Value} (hown : u.ownsRow N 79 4 v (fs.length + 1) (news ++ [.string f.name, z, .int .i64 f.res, y])) (hn : FusNews u lo hi news fs)
    (hf : FuAt u L u.heap.size (.string f.name) z (.int .i64 f.res) y f) (hL1 : L ≤ lo) (hLN : L ≤ N) (hh : hi ≤ u.heap.size) : FusAt u L u.heap.size v (fs ++ [f]) := by
  have hlt := owns_lt hown
  obtain ⟨hlen, ⟨_, h0⟩ | ⟨g, cap, cur, rfl, hg, hh2, hc1, hc2, hcs, htake⟩⟩ := hown
  · omega
  obtain ⟨av, tv, hl, hnw⟩ := hn
  have hrow : Row u g 79 cur.toList := by unfold Row; simpa using hh2
  have cell : ∀ j, j < (fs.length + 1) * 4 → u.cell? ⟨g, j, none⟩ = (news ++ [.string f.name, z, .int .i64 f.res, y])[j]? := by
    intro j hj
    rw [← htake, List.getElem?_take_of_lt hj]
    exact hrow.cell j
  refine ⟨some ⟨g, 0, none⟩, cap, by simp, by simpa using hc1, hc2, fun _ => ⟨g, 0, rfl, by omega, (hlt g rfl).2, fun k hk => ?_⟩⟩
  rw [Nat.zero_add]
  by_cases hkl : k < fs.length
  · obtain ⟨n0, n1, n2, n3, n4⟩ := hnw k hkl
    have e : (fs ++ [f]).getD k default = fs[k] := by rw [List.getD_eq_getElem?_getD, List.getElem?_append_left hkl, List.getElem?_eq_getElem hkl]; rfl
    rw [e]
    refine ⟨.string fs[k].name, av k, .int .i64 fs[k].res, tv k, ?_, ?_, ?_, ?_, n4.more (by omega) hh⟩
    · rw [cell _ (by omega), List.getElem?_append_left (by omega), n0]
    · rw [cell _ (by omega), List.getElem?_append_left (by omega), n1]
    · rw [cell _ (by omega), List.getElem?_append_left (by omega), n2]
    · rw [cell _ (by omega), List.getElem?_append_left (by omega), n3]
  · obtain rfl : k = fs.length := by simp at hk; omega
    have e : (fs ++ [f]).getD fs.length default = f := by rw [List.getD_eq_getElem?_getD]; simp
    rw [e]
    refine ⟨.string f.name, z, .int .i64 f.res, y, ?_, ?_, ?_, ?_, hf⟩
    · rw [cell _ (by omega), List.getElem?_append_right (by omega), hl]; simp
    · rw [cell _ (by omega), List.getElem?_append_right (by omega), hl]; simp
    · rw [cell _ (by omega), List.getElem?_append_right (by omega), hl]; simp
    · rw [cell _ (by omega), List.getElem?_append_right (by omega), hl]; simp

end Go.Proofs.Ytplncocfbajefaa

namespace Go.Proofs.Ytplncocfbajefaa
open Go.RowKit

theorem tyOk_bulk2 {t : Ty} (h : tyOk t = true) : t.bulk ≤ 45 := by
  have h1 : sizesOk t.sizes = true := by
    simp only [tyOk, Bool.and_eq_true] at h
    exact h.1.1
  have h2 : t.cos.length ≤ 8 := by
    simp only [tyOk, Bool.and_eq_true, decide_eq_true_eq] at h
    exact h.1.2
  have h3 : ∀ i, ∀ (hi : i < t.cos.length), coOk t.sizes t.cos[i] = true := fun i hi => by
    simp only [tyOk, Bool.and_eq_true, List.all_eq_true] at h
    exact h.2 _ (List.getElem_mem hi)
  obtain ⟨_, h5, h6⟩ := sizesOk_of h1
  have key : ∀ k, k ≤ t.cos.length → mapsLen t.cos k ≤ 4 * k := by
    intro k
    induction k with
    | zero => intro _; rw [mapsLen_zero]; omega
    | succ k ih =>
      intro hk
      have hi := ih (by omega)
      rw [mapsLen_succ _ _ (by omega)]
      obtain ⟨c1, c2, c3, c4, _⟩ := coOk_of (h3 k (by omega))
      have e : t.cos.getD k default = t.cos[k] := by rw [List.getD_eq_getElem?_getD, List.getElem?_eq_getElem (by omega : k < t.cos.length)]; rfl
      rw [e]
      have hs : t.cos[k].src.toNat < t.sizes.length := by omega
      have hd := h6 _ hs
      rw [List.getD_eq_getElem?_getD, List.getElem?_eq_getElem hs, Option.getD_some] at c4
      omega
  have := key _ (Nat.le_refl _)
  unfold Ty.bulk
  omega
theorem fuOk_weight {ss : List Int} {f : Fu} (hs : sizesOk ss = true) (h : FuOk ss f) : f.weight ≤ 19 := by
  obtain ⟨b, hb, _, _⟩ := h.name
  have h1 : f.name.size = 1 := by rw [hb]; rfl
  have h2 := h.few
  have h3 := (cellsTo_small hs h.args h.few f.args.length (Nat.le_refl _)).2
  have h4 := h.len
  unfold cellsI at h4
  unfold Fu.weight
  omega
theorem syB_bulk {y : Sy} (h : syB y = true) : y.bulk ≤ 205 := by
  have h := syB_iff.1 h
  have h1 := tyOk_bulk2 h.ty
  have hs : sizesOk y.ty.sizes = true := by
    have := h.ty
    simp only [tyOk, Bool.and_eq_true] at this
    exact this.1.1
  have key : ∀ k, k ≤ y.fs.length → fusLen y.fs k ≤ 19 * k := by
    intro k
    induction k with
    | zero => intro _; rw [fusLen_zero]; omega
    | succ k ih =>
      intro hk
      have hi := ih (by omega)
      rw [fusLen_succ _ _ (by omega)]
      have e : y.fs.getD k default = y.fs[k] := by rw [List.getD_eq_getElem?_getD, List.getElem?_eq_getElem (by omega : k < y.fs.length)]; rfl
      rw [e]
      have := fuOk_weight hs (h.each k (by omega))
      omega
  have h2 := key _ (Nat.le_refl _)
  have h3 := h.few
  unfold Sy.bulk
  omega
theorem withFu_bulk (y : Sy) (f : Fu) : (withFu y f).bulk ≤ 205 := by
  unfold withFu
  by_cases h : withOkF y f = true
  · rw [if_pos h]
    unfold withOkF at h
    simp only [Bool.and_eq_true] at h
    exact syB_bulk h.2
  · rw [if_neg h]
    simp [Sy.bulk, Ty.bulk, mapsLen, fusLen]

end Go.Proofs.Ytplncocfbajefaa

namespace Go.Proofs.Ytplncocfbajefaa
open Go.RowKit

theorem FusAt.take_ {w : World} {lo hi n c k : Nat} {ad : Addr} {cs : List Fu} (h : FusAt w lo hi (.slice (some ad) n c) cs) (hk : k ≤ cs.length) : FusAt w lo hi (.slice (some ad) k c) (cs.take k) := by
  obtain ⟨A, cap, e, h1, h2, h4⟩ := h
  injection e with e1 e2 e3
  subst e1 e3
  refine ⟨some ad, c, by rw [List.length_take, Nat.min_eq_left hk], by rw [List.length_take, Nat.min_eq_left hk]; omega, h2, fun h0 => ?_⟩
  rw [List.length_take, Nat.min_eq_left hk] at h0
  obtain ⟨b, off, hA, hl, hh, hc⟩ := h4 (by omega)
  refine ⟨b, off, hA, hl, hh, fun j hj => ?_⟩
  rw [List.length_take, Nat.min_eq_left hk] at hj
  have e : (cs.take k).getD j default = cs.getD j default := by rw [List.getD_eq_getElem?_getD, List.getD_eq_getElem?_getD, List.getElem?_take_of_lt hj]
  rw [e]
  exact hc j (by omega)
theorem FusAt.drop_ {w : World} {lo hi n c k b off : Nat} {E : Addr} {cs : List Fu} (h : FusAt w lo hi (.slice (some ⟨b, off, none⟩) n c) cs) (hk : k ≤ cs.length) (hE : (if c = k then some (⟨b, off, none⟩ : Addr) else some ⟨b, off + k * 4, none⟩) = some E) : FusAt w lo hi (.slice (some E) (cs.length - k) (c - k)) (cs.drop k) := by
  obtain ⟨A, cap, e, h1, h2, h4⟩ := h
  injection e with e1 e2 e3
  subst e1 e3
  refine ⟨some E, c - k, by rw [List.length_drop], by rw [List.length_drop]; omega, by omega, fun h0 => ?_⟩
  rw [List.length_drop] at h0
  obtain ⟨b', off', hA, hl, hh, hc⟩ := h4 (by omega)
  injection hA with hA
  injection hA with hb ho
  subst hb ho
  rw [if_neg (by omega)] at hE
  injection hE with hE
  subst hE
  refine ⟨b, off + k * 4, rfl, hl, hh, fun j hj => ?_⟩
  rw [List.length_drop] at hj
  obtain ⟨x, y, z, t, a1, a2, a3, a4, a5⟩ := hc (k + j) (by omega)
  have e : (cs.drop k).getD j default = cs.getD (k + j) default := by rw [List.getD_eq_getElem?_getD, List.getD_eq_getElem?_getD, List.getElem?_drop]
  rw [e]
  rw [show off + (k + j) * 4 = off + k * 4 + j * 4 by omega] at a1 a2 a3 a4
  exact ⟨x, y, z, t, a1, a2, a3, a4, a5⟩

theorem FusNews.app {w : World} {lo hi : Nat} {n1 n2 : List Value} {c1 c2 : List Fu} (h1 : FusNews w lo hi n1 c1) (h2 : FusNews w lo hi n2 c2) : FusNews w lo hi (n1 ++ n2) (c1 ++ c2) := by
  obtain ⟨m1, t1, l1, g1⟩ := h1
  obtain ⟨m2, t2, l2, g2⟩ := h2
  refine ⟨fun i => if i < c1.length then m1 i else m2 (i - c1.length), fun i => if i < c1.length then t1 i else t2 (i - c1.length), by rw [List.length_append, List.length_append, l1, l2]; omega, fun i hi => ?_⟩
  by_cases h : i < c1.length
  · obtain ⟨a, b, c, d, f⟩ := g1 i h
    have e : (c1 ++ c2)[i] = c1[i] := List.getElem_append_left h
    rw [List.getElem?_append_left (by omega), List.getElem?_append_left (by omega), List.getElem?_append_left (by omega), List.getElem?_append_left (by omega), e]
    dsimp only
    rw [if_pos h, if_pos h]
    exact ⟨a, b, c, d, f⟩
  · rw [List.length_append] at hi
    obtain ⟨a, b, c, d, f⟩ := g2 (i - c1.length) (by omega)
    have e : (c1 ++ c2)[i]'(by rw [List.length_append]; exact hi) = c2[i - c1.length] := List.getElem_append_right (by omega)
    rw [List.getElem?_append_right (by omega), List.getElem?_append_right (by omega), List.getElem?_append_right (by omega), List.getElem?_append_right (by omega), e]
    dsimp only
    rw [if_neg h, if_neg h, l1, show i * 4 - c1.length * 4 = (i - c1.length) * 4 by omega, show i * 4 + 1 - c1.length * 4 = (i - c1.length) * 4 + 1 by omega, show i * 4 + 2 - c1.length * 4 = (i - c1.length) * 4 + 2 by omega, show i * 4 + 3 - c1.length * 4 = (i - c1.length) * 4 + 3 by omega]
    exact ⟨a, b, c, d, f⟩

theorem fusAt_news {u : World} {N lo hi L : Nat} {v : Value} {cs : List Fu} {news : List Value} (hown : u.ownsRow N 79 4 v cs.length news) (hn : FusNews u lo hi news cs)
    (hL1 : L ≤ lo) (hLN : L ≤ N) (hh : hi ≤ u.heap.size) : FusAt u L u.heap.size v cs := by
  have hlt := owns_lt hown
  obtain ⟨hlen, ⟨rfl, h0⟩ | ⟨g, cap, cur, rfl, hg, hh2, hc1, hc2, hcs, htake⟩⟩ := hown
  · exact ⟨none, 0, by rw [h0], by omega, Nat.zero_le _, fun h => absurd h (by omega)⟩
  obtain ⟨av, tv, hl, hnw⟩ := hn
  have hrow : Row u g 79 cur.toList := by unfold Row; simpa using hh2
  have cell : ∀ j, j < cs.length * 4 → u.cell? ⟨g, j, none⟩ = news[j]? := by
    intro j hj
    rw [← htake, List.getElem?_take_of_lt hj]
    exact hrow.cell j
  refine ⟨some ⟨g, 0, none⟩, cap, rfl, hc1, hc2, fun _ => ⟨g, 0, rfl, by omega, (hlt g rfl).2, fun k hk => ?_⟩⟩
  rw [Nat.zero_add]
  obtain ⟨n0, n1, n2, n3, n4⟩ := hnw k hk
  have e2 : cs.getD k default = cs[k] := by rw [List.getD_eq_getElem?_getD, List.getElem?_eq_getElem hk]; rfl
  rw [e2]
  refine ⟨.string cs[k].name, av k, .int .i64 cs[k].res, tv k, ?_, ?_, ?_, ?_, n4.more (by omega) hh⟩
  · rw [cell _ (by omega), n0]
  · rw [cell _ (by omega), n1]
  · rw [cell _ (by omega), n2]
  · rw [cell _ (by omega), n3]

theorem step_append_fus2 {w : World} {ops : Array Oper} {o : Oper} {a : Act} {K : Act → World → Prop} {Q : Exit → Act → World → Prop} {E : Prop} (hgd : o.guard = none) (s x : Operand)
    (ho : o.op = .call { callee := .builtin .append, args := #[s, x], argTypes := #[36, 36] }) (base : Nat) (v : Value) (n1 : Nat) (xs : List Value) (hs : a.eval s = v)
    (hown : w.ownsRow base 79 4 v n1 xs) (lo hi : Nat) (A : Option Addr) (m c : Nat) (cs : List Fu) (hx : a.eval x = .slice A m c) (hm : m = cs.length) (hz : FusAt w lo hi (.slice A cs.length c) cs) (hn : n1 + m ≤ 1048576) (hbase : base ≤ w.heap.size)
    (h : ∀ VA VC w' news, w'.ownsRow base 79 4 (.slice VA (n1 + m) VC) (n1 + m) (xs ++ news) → FusNews w lo hi news cs → w.grownBy w' v.ownBlock → K (a.put o.dst (.slice VA (n1 + m) VC)) w') :
    if Region.wanted o (yielded ops a.tmps) = true then Oper.wp Try.prog o a w K Q else E := by
  have hw : Region.wanted o (yielded ops a.tmps) = true := by simp [Region.wanted, hgd]
  rw [if_pos hw]
  subst hm
  obtain ⟨i0, hi0, hz0, hz1, hz2⟩ := info_parts infoFunction
  rcases A with _ | ad
  · have hcs : cs = [] := by
      rcases cs with _ | ⟨z, zs⟩
      · rfl
      · obtain ⟨b, off, A1, cap1, A2, cap2, e, _⟩ := hz.at_ (k := 0) (by simp)
        cases e
    subst hcs
    obtain ⟨VA, VC, rfl⟩ := owns_form hown
    have hrun := run_append_owned_none' (P := Try.prog) (w := w) base 36 o.type 79 i0 4 Try.underlying36 hi0 _ _ _ c hown
    have this := h VA VC w [] (by simpa using hown) ⟨fun _ => undef, fun _ => undef, rfl, fun i hi => absurd hi (by simp)⟩ ⟨rfl, rfl, rfl, Nat.le_refl _, fun _ _ _ => rfl⟩
    have this2 : K (a.put o.dst (.slice VA n1 VC)) w := by simpa using this
    unfold Oper.wp
    rw [List.length_nil] at hx
    simp [execOp, ho, resolve, invoke, builtin, hs, hx, hrun, Result.andThen]
    exact this2
  · obtain ⟨news, hnews, hcells, hone⟩ := fus_news hz
    obtain ⟨av, tv, hl, hrest⟩ := hnews
    refine wp_append_own w s x 36 ho base 79 i0 _ 4 72 Try.underlying36 hi0 hz0 hz1 hz2 rfl (by omega) _ n1 xs hs hown ad cs.length c news hx hl hcells hone (by unfold maxLen; omega) (by omega) hbase ?_
    intro v' w' h1 h2 _
    obtain ⟨VA, VC, rfl⟩ := owns_form h1
    exact h VA VC w' news h1 ⟨av, tv, hl, hrest⟩ h2
end Go.Proofs.Ytplncocfbajefaa

namespace Go.Proofs.Ytplncocfbajefaa
open Go.RowKit
attribute [local go_sem] Oper.semAt_some

/-- A valid system has a function. -/
noncomputable def hasFB (y : Sy) (i : Int) : Bool := syB y && ixB i y.fs.length
theorem hasFB_of {y : Sy} {i : Int} (h : hasFB y i = true) : SyOk y ∧ 0 ≤ i ∧ i < y.fs.length ∧ i.toNat < y.fs.length := by
  simp only [hasFB, Bool.and_eq_true, ixB, decide_eq_true_eq] at h
  exact ⟨syB_iff.1 h.1, h.2.1, h.2.2, by omega⟩

set_option maxRecDepth 100000 in
set_option maxHeartbeats 2000000 in
theorem l4Has_any (lo hi : Nat) (sv cv fv : Value) (y : Sy) (i : Int) (w : World) (hv : SyAt w lo hi sv cv fv y) (hB : hi ≤ w.heap.size) :
    Calls Try.prog 55 #[.agg #[sv, cv, fv], .int .i64 i] w fun e w' => e = .returned (.bool (hasFB y i)) ∧ Below w.heap.size w w' := by
  obtain ⟨A, cap, rfl, hl1, hm1, hi1⟩ := hv.1.1.form
  obtain ⟨B, bap, rfl, hl2, hm2, hc1⟩ := hv.1.2.form
  obtain ⟨F, fap, rfl, hl3, hm3, hf1⟩ := hv.2.form
  unfold maxLen at hm3
  have h3 : Below w.heap.size w (w.alloc (.cells #[.slice A y.ty.sizes.length cap, .slice B y.ty.cos.length bap, .slice F y.fs.length fap] 38)) := by go_grown
  have hwr := wrapIn ((y.fs.length : Int) - 1) (by omega) (by omega)
  have H1 := Lib.hid (Below.refl (w.heap.size + 1) (w.alloc (.cells #[.slice A y.ty.sizes.length cap, .slice B y.ty.cos.length bap, .slice F y.fs.length fap] 38)))
  clear hi1 hc1 hf1
  go_enter Try.func55, Try.ntmps55
  go_wp2_with fail
  refine (specSysValid_any lo hi _ _ _ y _ (hv.below h3 hB) (by simp; omega)).mono ?_
  rintro e w1 ⟨rfl, hb1⟩
  have H2 := Lib.hid (H1.out.trans (hb1.mono (by simp)))
  obtain ⟨q0, q1, q2, hl, hB1⟩ := box3 H2.out
  have HB1 := Lib.hid hB1
  clear hb1 h3 hB1 H1
  by_cases hs : syB y = true
  · have H : Hid (hasFB y i = ixB i y.fs.length) := by show _ = _; unfold hasFB; rw [hs, Bool.true_and]
    rw [hs]
    clear hs
    go_wp2_with (go_at_call 71; refine (l1In_any _ _ _ _).mono ?_; rintro e w' ⟨rfl, rfl⟩)
    go_ret
    exact ⟨ret_bool (by rw [H.out, inB_ix]), HB1.out⟩
  · have hsf : syB y = false := by simpa using hs
    have H : Hid (hasFB y i = false) := by show _ = _; unfold hasFB; rw [hsf, Bool.false_and]
    rw [hsf]
    clear hs
    go_wp2
    go_ret
    exact ⟨ret_bool H.out.symm, HB1.out⟩

set_option maxRecDepth 100000 in
set_option maxHeartbeats 2000000 in
theorem hasFunctions_any (lo hi lo' hi' : Nat) (sv cv fv v : Value) (y : Sy) (zs : List Int) (w : World) (hv : SyAt w lo hi sv cv fv y) (hz : IntsAt w lo' hi' v zs) (hB : hi ≤ w.heap.size) (hB' : hi' ≤ w.heap.size) :
    Calls Try.prog 56 #[.agg #[sv, cv, fv], v] w fun e w' => e = .returned (.bool (syB y && allIx zs y.fs.length)) ∧ Below w.heap.size w w' := by
  obtain ⟨A, cap, rfl, hl1, hm1, hi1⟩ := hv.1.1.form
  obtain ⟨B, bap, rfl, hl2, hm2, hc1⟩ := hv.1.2.form
  obtain ⟨F, fap, rfl, hl3, hm3, hf1⟩ := hv.2.form
  obtain ⟨Z, zap, rfl, hl4, hm4, hz1⟩ := hz.form
  unfold maxLen at hm3
  have h3 : Below w.heap.size w (w.alloc (.cells #[.slice A y.ty.sizes.length cap, .slice B y.ty.cos.length bap, .slice F y.fs.length fap] 38)) := by go_grown
  have H1 := Lib.hid (Below.refl (w.heap.size + 1) (w.alloc (.cells #[.slice A y.ty.sizes.length cap, .slice B y.ty.cos.length bap, .slice F y.fs.length fap] 38)))
  have Hz := Lib.hid hz1
  clear hi1 hc1 hf1 hz hz1
  go_enter Try.func56, Try.ntmps56
  go_wp2_with fail
  refine (implSysValid_any lo hi _ _ _ y _ (hv.below h3 hB) (by simp; omega)).mono ?_
  rintro e w1 ⟨rfl, hb1⟩
  have H2 := Lib.hid (H1.out.trans (hb1.mono (by simp)))
  obtain ⟨q0, q1, q2, hl, hB1⟩ := box3 H2.out
  have HB1 := Lib.hid hB1
  clear hb1 h3 hB1 H1
  by_cases hs : syB y = true
  · have H : Hid ((syB y && allIx zs y.fs.length) = allIx zs y.fs.length) := by show _ = _; rw [hs, Bool.true_and]
    rw [hs]
    clear hs
    go_wp2_with (go_at_call 72; refine (areIndices_any lo' hi' _ zs _ _ (Hz.out.below HB1.out hB')).mono ?_; rintro e w' ⟨rfl, rfl⟩)
    go_ret
    exact ⟨ret_bool H.out.symm, HB1.out⟩
  · have hsf : syB y = false := by simpa using hs
    rw [hsf]
    clear hs
    go_wp2
    go_ret
    exact ⟨ret_bool (by rw [hsf, Bool.false_and]), HB1.out⟩

end Go.Proofs.Ytplncocfbajefaa

namespace Go.Proofs.Ytplncocfbajefaa
open Go.RowKit

/-- A system without a function. -/
def cutFu (y : Sy) (i : Nat) : Sy := ⟨y.ty, y.fs.take i ++ y.fs.drop (i + 1)⟩
noncomputable def dropFu (y : Sy) (i : Int) : Sy := if hasFB y i = true then cutFu y i.toNat else ⟨⟨[], []⟩, []⟩

theorem fl_of {a b : Bool} (h : a = true → b = true) (hb : b = false) : a = false := by
  cases a with
  | false => rfl
  | true => rw [h rfl] at hb; cases hb

structure WoG (lo hi N : Nat) (w4 : World) (ca cb : List Fu) (f : Nat → Bool) (x14 x15 x16 x17 x18 x19 x20 x21 x22 x23 x24 x25 x6 v15 v16 v17 v18 v20 v21 v22 v23 v24 : Value) (u : World) : Prop where
  bel : Below N w4 u
  b0 : f 0 = true → f 5 = false → ∃ b, N ≤ b ∧ x14 = .slice (some ⟨b, 0, none⟩) 0 0 ∧ Row u b 79 []
  b1 : f 1 = true → x15 = v15
  b2 : f 2 = true → x16 = v16
  b3 : f 3 = true → x17 = v17
  b4 : f 4 = true → x18 = v18
  b5 : f 5 = true → f 11 = false → ∃ A c news, x19 = .slice A ca.length c ∧ u.ownsRow N 79 4 x19 ca.length news ∧ FusNews u lo hi news ca
  b6 : f 6 = true → x20 = v20
  b7 : f 7 = true → x21 = v21
  b8 : f 8 = true → x22 = v22
  b9 : f 9 = true → x23 = v23
  b10 : f 10 = true → x24 = v24
  b11 : f 11 = true → ∃ A c news, x25 = .slice A (ca.length + cb.length) c ∧ u.ownsRow N 79 4 x25 (ca.length + cb.length) news ∧ FusNews u lo hi news (ca ++ cb)
  b12 : f 12 = true → x6 = x25
  c5_0 : f 5 = true → f 0 = true
  c11_5 : f 11 = true → f 5 = true
  c12_11 : f 12 = true → f 11 = true
section
variable {lo hi N : Nat} {w4 u : World} {ca cb : List Fu} {f : Nat → Bool} {x14 x15 x16 x17 x18 x19 x20 x21 x22 x23 x24 x25 x6 v15 v16 v17 v18 v20 v21 v22 v23 v24 : Value}
theorem WoG.n5 (h : WoG lo hi N w4 ca cb f x14 x15 x16 x17 x18 x19 x20 x21 x22 x23 x24 x25 x6 v15 v16 v17 v18 v20 v21 v22 v23 v24 u) (h0 : f 0 = false) : f 5 = false := fl_of h.c5_0 h0
theorem WoG.n11 (h : WoG lo hi N w4 ca cb f x14 x15 x16 x17 x18 x19 x20 x21 x22 x23 x24 x25 x6 v15 v16 v17 v18 v20 v21 v22 v23 v24 u) (h0 : f 5 = false) : f 11 = false := fl_of h.c11_5 h0
theorem WoG.n12 (h : WoG lo hi N w4 ca cb f x14 x15 x16 x17 x18 x19 x20 x21 x22 x23 x24 x25 x6 v15 v16 v17 v18 v20 v21 v22 v23 v24 u) (h0 : f 11 = false) : f 12 = false := fl_of h.c12_11 h0
theorem WoG.s0 (h : WoG lo hi N w4 ca cb f x14 x15 x16 x17 x18 x19 x20 x21 x22 x23 x24 x25 x6 v15 v16 v17 v18 v20 v21 v22 v23 v24 u) {b : Nat} {u2 : World} (h0 : f 0 = false) (hN : N ≤ u.heap.size) (hb : Below u.heap.size u u2) (hbN : N ≤ b) (hr : Row u2 b 79 []) : WoG lo hi N w4 ca cb (fun k => decide (k = 0) || f k) (.slice (some ⟨b, 0, none⟩) 0 0) x15 x16 x17 x18 x19 x20 x21 x22 x23 x24 x25 x6 v15 v16 v17 v18 v20 v21 v22 v23 v24 u2 where
  bel := ⟨hb.os.trans h.bel.os, hb.tape.trans h.bel.tape, hb.output.trans h.bel.output, Nat.le_trans h.bel.size hb.size, fun k hk => (hb.block k (Nat.lt_of_lt_of_le hk hN)).trans (h.bel.block k hk)⟩
  b0 := fun _ _ => ⟨b, hbN, rfl, hr⟩
  b1 := by simpa using h.b1
  b2 := by simpa using h.b2
  b3 := by simpa using h.b3
  b4 := by simpa using h.b4
  b5 := fun e => by simp [h.n5 h0] at e
  b6 := by simpa using h.b6
  b7 := by simpa using h.b7
  b8 := by simpa using h.b8
  b9 := by simpa using h.b9
  b10 := by simpa using h.b10
  b11 := fun e => by simp [h.n11 (h.n5 h0)] at e
  b12 := by simpa using h.b12
  c5_0 := fun e => by simp [h.c5_0 (by simpa using e)]
  c11_5 := fun e => by simp [h.c11_5 (by simpa using e)]
  c12_11 := fun e => by simp [h.c12_11 (by simpa using e)]
theorem WoG.s1 (h : WoG lo hi N w4 ca cb f x14 x15 x16 x17 x18 x19 x20 x21 x22 x23 x24 x25 x6 v15 v16 v17 v18 v20 v21 v22 v23 v24 u) : WoG lo hi N w4 ca cb (fun k => decide (k = 1) || f k) x14 v15 x16 x17 x18 x19 x20 x21 x22 x23 x24 x25 x6 v15 v16 v17 v18 v20 v21 v22 v23 v24 u where
  bel := h.bel
  b0 := by simpa using h.b0
  b1 := fun _ => rfl
  b2 := by simpa using h.b2
  b3 := by simpa using h.b3
  b4 := by simpa using h.b4
  b5 := by simpa using h.b5
  b6 := by simpa using h.b6
  b7 := by simpa using h.b7
  b8 := by simpa using h.b8
  b9 := by simpa using h.b9
  b10 := by simpa using h.b10
  b11 := by simpa using h.b11
  b12 := by simpa using h.b12
  c5_0 := fun e => by simp [h.c5_0 (by simpa using e)]
  c11_5 := fun e => by simp [h.c11_5 (by simpa using e)]
  c12_11 := fun e => by simp [h.c12_11 (by simpa using e)]
theorem WoG.s2 (h : WoG lo hi N w4 ca cb f x14 x15 x16 x17 x18 x19 x20 x21 x22 x23 x24 x25 x6 v15 v16 v17 v18 v20 v21 v22 v23 v24 u) : WoG lo hi N w4 ca cb (fun k => decide (k = 2) || f k) x14 x15 v16 x17 x18 x19 x20 x21 x22 x23 x24 x25 x6 v15 v16 v17 v18 v20 v21 v22 v23 v24 u where
  bel := h.bel
  b0 := by simpa using h.b0
  b1 := by simpa using h.b1
  b2 := fun _ => rfl
  b3 := by simpa using h.b3
  b4 := by simpa using h.b4
  b5 := by simpa using h.b5
  b6 := by simpa using h.b6
  b7 := by simpa using h.b7
  b8 := by simpa using h.b8
  b9 := by simpa using h.b9
  b10 := by simpa using h.b10
  b11 := by simpa using h.b11
  b12 := by simpa using h.b12
  c5_0 := fun e => by simp [h.c5_0 (by simpa using e)]
  c11_5 := fun e => by simp [h.c11_5 (by simpa using e)]
  c12_11 := fun e => by simp [h.c12_11 (by simpa using e)]
theorem WoG.s3 (h : WoG lo hi N w4 ca cb f x14 x15 x16 x17 x18 x19 x20 x21 x22 x23 x24 x25 x6 v15 v16 v17 v18 v20 v21 v22 v23 v24 u) : WoG lo hi N w4 ca cb (fun k => decide (k = 3) || f k) x14 x15 x16 v17 x18 x19 x20 x21 x22 x23 x24 x25 x6 v15 v16 v17 v18 v20 v21 v22 v23 v24 u where
  bel := h.bel
  b0 := by simpa using h.b0
  b1 := by simpa using h.b1
  b2 := by simpa using h.b2
  b3 := fun _ => rfl
  b4 := by simpa using h.b4
  b5 := by simpa using h.b5
  b6 := by simpa using h.b6
  b7 := by simpa using h.b7
  b8 := by simpa using h.b8
  b9 := by simpa using h.b9
  b10 := by simpa using h.b10
  b11 := by simpa using h.b11
  b12 := by simpa using h.b12
  c5_0 := fun e => by simp [h.c5_0 (by simpa using e)]
  c11_5 := fun e => by simp [h.c11_5 (by simpa using e)]
  c12_11 := fun e => by simp [h.c12_11 (by simpa using e)]
theorem WoG.s4 (h : WoG lo hi N w4 ca cb f x14 x15 x16 x17 x18 x19 x20 x21 x22 x23 x24 x25 x6 v15 v16 v17 v18 v20 v21 v22 v23 v24 u) : WoG lo hi N w4 ca cb (fun k => decide (k = 4) || f k) x14 x15 x16 x17 v18 x19 x20 x21 x22 x23 x24 x25 x6 v15 v16 v17 v18 v20 v21 v22 v23 v24 u where
  bel := h.bel
  b0 := by simpa using h.b0
  b1 := by simpa using h.b1
  b2 := by simpa using h.b2
  b3 := by simpa using h.b3
  b4 := fun _ => rfl
  b5 := by simpa using h.b5
  b6 := by simpa using h.b6
  b7 := by simpa using h.b7
  b8 := by simpa using h.b8
  b9 := by simpa using h.b9
  b10 := by simpa using h.b10
  b11 := by simpa using h.b11
  b12 := by simpa using h.b12
  c5_0 := fun e => by simp [h.c5_0 (by simpa using e)]
  c11_5 := fun e => by simp [h.c11_5 (by simpa using e)]
  c12_11 := fun e => by simp [h.c12_11 (by simpa using e)]
theorem WoG.s5 (h : WoG lo hi N w4 ca cb f x14 x15 x16 x17 x18 x19 x20 x21 x22 x23 x24 x25 x6 v15 v16 v17 v18 v20 v21 v22 v23 v24 u) {b c : Nat} {A : Option Addr} {u2 : World} {news : List Value} (h0 : f 0 = true) (h5 : f 5 = false) (hbN : N ≤ b) (hhi : hi ≤ N) (hN : N ≤ u.heap.size) (hg : u.grownBy u2 (some b)) (ho : u2.ownsRow N 79 4 (.slice A ca.length c) ca.length news) (hn : FusNews u lo hi news ca) : WoG lo hi N w4 ca cb (fun k => decide (k = 5) || f k) x14 x15 x16 x17 x18 (.slice A ca.length c) x20 x21 x22 x23 x24 x25 x6 v15 v16 v17 v18 v20 v21 v22 v23 v24 u2 where
  bel := h.bel.trans ⟨hg.os, hg.tape, hg.output, hg.size, fun k hk => hg.block k (by omega) (by intro e; simp only [Option.some.injEq] at e; omega)⟩
  b0 := fun _ e => by simp at e
  b1 := by simpa using h.b1
  b2 := by simpa using h.b2
  b3 := by simpa using h.b3
  b4 := by simpa using h.b4
  b5 := fun _ _ => ⟨A, c, news, rfl, ho, hn.keep fun k _ hk => hg.block k (by omega) (by intro e; simp only [Option.some.injEq] at e; omega)⟩
  b6 := by simpa using h.b6
  b7 := by simpa using h.b7
  b8 := by simpa using h.b8
  b9 := by simpa using h.b9
  b10 := by simpa using h.b10
  b11 := fun e => by simp [h.n11 h5] at e
  b12 := by simpa using h.b12
  c5_0 := fun _ => by simp [h0]
  c11_5 := fun e => by simp [h.c11_5 (by simpa using e)]
  c12_11 := fun e => by simp [h.c12_11 (by simpa using e)]
theorem WoG.s6 (h : WoG lo hi N w4 ca cb f x14 x15 x16 x17 x18 x19 x20 x21 x22 x23 x24 x25 x6 v15 v16 v17 v18 v20 v21 v22 v23 v24 u) : WoG lo hi N w4 ca cb (fun k => decide (k = 6) || f k) x14 x15 x16 x17 x18 x19 v20 x21 x22 x23 x24 x25 x6 v15 v16 v17 v18 v20 v21 v22 v23 v24 u where
  bel := h.bel
  b0 := by simpa using h.b0
  b1 := by simpa using h.b1
  b2 := by simpa using h.b2
  b3 := by simpa using h.b3
  b4 := by simpa using h.b4
  b5 := by simpa using h.b5
  b6 := fun _ => rfl
  b7 := by simpa using h.b7
  b8 := by simpa using h.b8
  b9 := by simpa using h.b9
  b10 := by simpa using h.b10
  b11 := by simpa using h.b11
  b12 := by simpa using h.b12
  c5_0 := fun e => by simp [h.c5_0 (by simpa using e)]
  c11_5 := fun e => by simp [h.c11_5 (by simpa using e)]
  c12_11 := fun e => by simp [h.c12_11 (by simpa using e)]
theorem WoG.s7 (h : WoG lo hi N w4 ca cb f x14 x15 x16 x17 x18 x19 x20 x21 x22 x23 x24 x25 x6 v15 v16 v17 v18 v20 v21 v22 v23 v24 u) : WoG lo hi N w4 ca cb (fun k => decide (k = 7) || f k) x14 x15 x16 x17 x18 x19 x20 v21 x22 x23 x24 x25 x6 v15 v16 v17 v18 v20 v21 v22 v23 v24 u where
  bel := h.bel
  b0 := by simpa using h.b0
  b1 := by simpa using h.b1
  b2 := by simpa using h.b2
  b3 := by simpa using h.b3
  b4 := by simpa using h.b4
  b5 := by simpa using h.b5
  b6 := by simpa using h.b6
  b7 := fun _ => rfl
  b8 := by simpa using h.b8
  b9 := by simpa using h.b9
  b10 := by simpa using h.b10
  b11 := by simpa using h.b11
  b12 := by simpa using h.b12
  c5_0 := fun e => by simp [h.c5_0 (by simpa using e)]
  c11_5 := fun e => by simp [h.c11_5 (by simpa using e)]
  c12_11 := fun e => by simp [h.c12_11 (by simpa using e)]
theorem WoG.s8 (h : WoG lo hi N w4 ca cb f x14 x15 x16 x17 x18 x19 x20 x21 x22 x23 x24 x25 x6 v15 v16 v17 v18 v20 v21 v22 v23 v24 u) : WoG lo hi N w4 ca cb (fun k => decide (k = 8) || f k) x14 x15 x16 x17 x18 x19 x20 x21 v22 x23 x24 x25 x6 v15 v16 v17 v18 v20 v21 v22 v23 v24 u where
  bel := h.bel
  b0 := by simpa using h.b0
  b1 := by simpa using h.b1
  b2 := by simpa using h.b2
  b3 := by simpa using h.b3
  b4 := by simpa using h.b4
  b5 := by simpa using h.b5
  b6 := by simpa using h.b6
  b7 := by simpa using h.b7
  b8 := fun _ => rfl
  b9 := by simpa using h.b9
  b10 := by simpa using h.b10
  b11 := by simpa using h.b11
  b12 := by simpa using h.b12
  c5_0 := fun e => by simp [h.c5_0 (by simpa using e)]
  c11_5 := fun e => by simp [h.c11_5 (by simpa using e)]
  c12_11 := fun e => by simp [h.c12_11 (by simpa using e)]
theorem WoG.s9 (h : WoG lo hi N w4 ca cb f x14 x15 x16 x17 x18 x19 x20 x21 x22 x23 x24 x25 x6 v15 v16 v17 v18 v20 v21 v22 v23 v24 u) : WoG lo hi N w4 ca cb (fun k => decide (k = 9) || f k) x14 x15 x16 x17 x18 x19 x20 x21 x22 v23 x24 x25 x6 v15 v16 v17 v18 v20 v21 v22 v23 v24 u where
  bel := h.bel
  b0 := by simpa using h.b0
  b1 := by simpa using h.b1
  b2 := by simpa using h.b2
  b3 := by simpa using h.b3
  b4 := by simpa using h.b4
  b5 := by simpa using h.b5
  b6 := by simpa using h.b6
  b7 := by simpa using h.b7
  b8 := by simpa using h.b8
  b9 := fun _ => rfl
  b10 := by simpa using h.b10
  b11 := by simpa using h.b11
  b12 := by simpa using h.b12
  c5_0 := fun e => by simp [h.c5_0 (by simpa using e)]
  c11_5 := fun e => by simp [h.c11_5 (by simpa using e)]
  c12_11 := fun e => by simp [h.c12_11 (by simpa using e)]
theorem WoG.s10 (h : WoG lo hi N w4 ca cb f x14 x15 x16 x17 x18 x19 x20 x21 x22 x23 x24 x25 x6 v15 v16 v17 v18 v20 v21 v22 v23 v24 u) : WoG lo hi N w4 ca cb (fun k => decide (k = 10) || f k) x14 x15 x16 x17 x18 x19 x20 x21 x22 x23 v24 x25 x6 v15 v16 v17 v18 v20 v21 v22 v23 v24 u where
  bel := h.bel
  b0 := by simpa using h.b0
  b1 := by simpa using h.b1
  b2 := by simpa using h.b2
  b3 := by simpa using h.b3
  b4 := by simpa using h.b4
  b5 := by simpa using h.b5
  b6 := by simpa using h.b6
  b7 := by simpa using h.b7
  b8 := by simpa using h.b8
  b9 := by simpa using h.b9
  b10 := fun _ => rfl
  b11 := by simpa using h.b11
  b12 := by simpa using h.b12
  c5_0 := fun e => by simp [h.c5_0 (by simpa using e)]
  c11_5 := fun e => by simp [h.c11_5 (by simpa using e)]
  c12_11 := fun e => by simp [h.c12_11 (by simpa using e)]
theorem WoG.s11 (h : WoG lo hi N w4 ca cb f x14 x15 x16 x17 x18 x19 x20 x21 x22 x23 x24 x25 x6 v15 v16 v17 v18 v20 v21 v22 v23 v24 u) {c : Nat} {A B : Option Addr} {c2 : Nat} {u2 : World} {news n2 : List Value} (h11 : f 11 = false) (h5 : f 5 = true) (hhi : hi ≤ N) (hN : N ≤ u.heap.size) (_hx : x19 = .slice B ca.length c2) (hold : u.ownsRow N 79 4 (.slice B ca.length c2) ca.length news) (hg : u.grownBy u2 (Value.slice B ca.length c2).ownBlock) (ho : u2.ownsRow N 79 4 (.slice A (ca.length + cb.length) c) (ca.length + cb.length) (news ++ n2)) (hn : FusNews u lo hi news ca) (hn2 : FusNews u lo hi n2 cb) : WoG lo hi N w4 ca cb (fun k => decide (k = 11) || f k) x14 x15 x16 x17 x18 x19 x20 x21 x22 x23 x24 (.slice A (ca.length + cb.length) c) x6 v15 v16 v17 v18 v20 v21 v22 v23 v24 u2 where
  bel := h.bel.trans ⟨hg.os, hg.tape, hg.output, hg.size, fun k hk => hg.block k (by omega) (by intro e; have := owns_lt hold k e.symm; omega)⟩
  b0 := fun _ e => by simp [h5] at e
  b1 := by simpa using h.b1
  b2 := by simpa using h.b2
  b3 := by simpa using h.b3
  b4 := by simpa using h.b4
  b5 := fun _ e => by simp at e
  b6 := by simpa using h.b6
  b7 := by simpa using h.b7
  b8 := by simpa using h.b8
  b9 := by simpa using h.b9
  b10 := by simpa using h.b10
  b11 := fun _ => ⟨A, c, news ++ n2, rfl, ho, (hn.app hn2).keep fun k _ hk => hg.block k (by omega) (by intro e; have := owns_lt hold k e.symm; omega)⟩
  b12 := fun e => by simp [h.n12 h11] at e
  c5_0 := fun e => by simp [h.c5_0 (by simpa using e)]
  c11_5 := fun _ => by simp [h5]
  c12_11 := fun e => by simp [h.c12_11 (by simpa using e)]
theorem WoG.s12 (h : WoG lo hi N w4 ca cb f x14 x15 x16 x17 x18 x19 x20 x21 x22 x23 x24 x25 x6 v15 v16 v17 v18 v20 v21 v22 v23 v24 u) (h11 : f 11 = true) : WoG lo hi N w4 ca cb (fun k => decide (k = 12) || f k) x14 x15 x16 x17 x18 x19 x20 x21 x22 x23 x24 x25 x25 v15 v16 v17 v18 v20 v21 v22 v23 v24 u where
  bel := h.bel
  b0 := by simpa using h.b0
  b1 := by simpa using h.b1
  b2 := by simpa using h.b2
  b3 := by simpa using h.b3
  b4 := by simpa using h.b4
  b5 := by simpa using h.b5
  b6 := by simpa using h.b6
  b7 := by simpa using h.b7
  b8 := by simpa using h.b8
  b9 := by simpa using h.b9
  b10 := by simpa using h.b10
  b11 := by simpa using h.b11
  b12 := fun _ => rfl
  c5_0 := fun e => by simp [h.c5_0 (by simpa using e)]
  c11_5 := fun e => by simp [h.c11_5 (by simpa using e)]
  c12_11 := fun _ => by simp [h11]
end
end Go.Proofs.Ytplncocfbajefaa

namespace Go.Proofs.Ytplncocfbajefaa
open Go.RowKit

def layC_ren : Go.Shelf.Ren := { f := fun _ => 84, t := fun | 0 => 0 | 3 => 3 | 4 => 4 | 5 => 5 | 9 => 9 | 37 => 96 | 47 => 107 | _ => 0, g := fun _ => 0 }
theorem layC : LaysPu.n25 Try.prog layC_ren := {
  mixed := by kernel_rfl
  f25 := Try.func84.trans (congrArg some (by kernel_rfl))
  t0 := Try.underlying0, a0 := Try.isAgg0, z0 := Try.sizeOf0, v0 := Try.zeroValue0, i0 := by kernel_rfl
  t3 := Try.underlying3, a3 := Try.isAgg3, z3 := Try.sizeOf3, v3 := Try.zeroValue3, i3 := by kernel_rfl
  t4 := Try.underlying4, a4 := Try.isAgg4, z4 := Try.sizeOf4, v4 := Try.zeroValue4, i4 := by kernel_rfl
  t5 := Try.underlying5, a5 := Try.isAgg5, z5 := Try.sizeOf5, v5 := Try.zeroValue5, i5 := by kernel_rfl
  t9 := Try.underlying9, a9 := Try.isAgg9, z9 := Try.sizeOf9, v9 := Try.zeroValue9, i9 := by kernel_rfl
  t37 := Try.underlying96, a37 := Try.isAgg96, z37 := Try.sizeOf96, v37 := Try.zeroValue96, i37 := by kernel_rfl
  t47 := Try.underlying107, a47 := Try.isAgg107, z47 := Try.sizeOf107, v47 := Try.zeroValue107, i47 := by kernel_rfl }

theorem cloneS_any (s : ByteArray) (w : World) (hs : s.size ≤ 1048576) :
    Calls Try.prog 70 #[.string s] w fun e w' => e = .returned (.string s) ∧ Below w.heap.size w w' := by
  have H := Lib.hid (AnyPu.stringslite_Clone layC s w (by omega))
  go_enter Try.func70, Try.ntmps70
  go_wp2_with (go_at_call 84; refine (show Calls Try.prog 84 #[.string s] w _ from H.out).mono ?_; rintro e w1 ⟨rfl, hb⟩)
  go_ret
  exact ⟨rfl, hb⟩

end Go.Proofs.Ytplncocfbajefaa

namespace Go.Proofs.Ytplncocfbajefaa
open Go.RowKit

theorem det_yes {c : Bool} {A B : Prop} (h : c = true) (ha : A) : if c = true then A else B := by rw [if_pos h]; exact ha
/-- Vs: what the slots hold in the end; xs: what they hold now; f: which operations have been done. -/
structure Det (N : Nat) (w0 : World) (Vs : List Value) (f : Nat → Bool) (xs : List Value) (u : World) : Prop where
  bel : Below N w0 u
  len : xs.length = Vs.length
  at_ : ∀ k, f k = true → xs[k]? = Vs[k]?
section
variable {N : Nat} {w0 u : World} {Vs xs : List Value} {f : Nat → Bool}
theorem Det.start (_hN : N ≤ w0.heap.size) (hl : xs.length = Vs.length) : Det N w0 Vs (fun _ => false) xs w0.drew :=
  ⟨(Below.refl _ _).drew, hl, fun k h => by cases h⟩
theorem Det.step (h : Det N w0 Vs f xs u) (i : Nat) {v : Value} (hv : Vs[i]? = some v) {u' : World} (hb : Below N u u') : Det N w0 Vs (fun k => decide (k = i) || f k) (xs.set i v) u' := by
  refine ⟨h.bel.trans hb, by rw [List.length_set]; exact h.len, fun k hk => ?_⟩
  by_cases e : k = i
  · subst e
    have hl : k < xs.length := by
      rw [h.len]
      exact (List.getElem?_eq_some_iff.1 hv).1
    rw [List.getElem?_set_self hl, hv]
  · rw [List.getElem?_set_ne (fun e' => e e'.symm)]
    exact h.at_ k (by simpa [e] using hk)
theorem Det.same (h : Det N w0 Vs f xs u) (i : Nat) {v : Value} (hv : Vs[i]? = some v) : Det N w0 Vs (fun k => decide (k = i) || f k) (xs.set i v) u := h.step i hv (Below.refl _ _)
theorem Det.get (h : Det N w0 Vs f xs u) (k : Nat) (hk : f k = true) {x v : Value} (hx : xs[k]? = some x) (hv : Vs[k]? = some v) : x = v := by
  have := h.at_ k hk
  rw [hx, hv] at this
  exact Option.some.inj this
theorem Det.all (h : Det N w0 Vs f xs u) {n : Nat} (hn : Vs.length = n) (hall : ∀ k, k < n → f k = true) : xs = Vs := by
  apply List.ext_getElem? fun k => ?_
  by_cases hk : k < n
  · exact h.at_ k (hall k hk)
  · rw [List.getElem?_eq_none (by rw [h.len]; omega), List.getElem?_eq_none (by omega)]
end
end Go.Proofs.Ytplncocfbajefaa

namespace Go.Proofs.Ytplncocfbajefaa
open Go.RowKit

/-- Each slot that has been set holds what it is to hold. -/
structure DetQ (Ps : List (Value → Prop)) (f : Nat → Bool) (xs : List Value) : Prop where
  len : xs.length = Ps.length
  at_ : ∀ k x P, f k = true → xs[k]? = some x → Ps[k]? = some P → P x
theorem DetQ.start {Ps : List (Value → Prop)} {xs : List Value} (h : xs.length = Ps.length) : DetQ Ps (fun _ => false) xs := ⟨h, fun _ _ _ h => by cases h⟩
theorem DetQ.step {Ps : List (Value → Prop)} {f : Nat → Bool} {xs : List Value} (h : DetQ Ps f xs) (i : Nat) {v : Value} {P : Value → Prop} (hP : Ps[i]? = some P) (hv : P v) : DetQ Ps (fun k => decide (k = i) || f k) (xs.set i v) := by
  refine ⟨by rw [List.length_set]; exact h.len, fun k x Q hk hx hQ => ?_⟩
  by_cases e : k = i
  · subst e
    have hl : k < xs.length := by rw [h.len]; exact (List.getElem?_eq_some_iff.1 hP).1
    rw [List.getElem?_set_self hl] at hx
    injection hx with hx
    subst hx
    rw [hP] at hQ
    injection hQ with hQ
    subst hQ
    exact hv
  · rw [List.getElem?_set_ne (fun e' => e e'.symm)] at hx
    exact h.at_ k x Q (by simpa [e] using hk) hx hQ
theorem DetQ.get {Ps : List (Value → Prop)} {f : Nat → Bool} {xs : List Value} (h : DetQ Ps f xs) (k : Nat) (hk : f k = true) {x : Value} {P : Value → Prop} (hx : xs[k]? = some x) (hP : Ps[k]? = some P) : P x := h.at_ k x P hk hx hP

/-- The operations cs are done one after the other; W j: what holds of the world behind the first j of them. -/
structure Ch (dn : Nat → Bool) (cs : List Nat) (W : Nat → World → Prop) (u : World) : Prop where
  ex : ∃ j, j ≤ cs.length ∧ (∀ i, ∀ (h : i < cs.length), dn cs[i] = decide (i < j)) ∧ W j u
section
variable {dn : Nat → Bool} {cs : List Nat} {W W' : Nat → World → Prop} {u u' : World}
theorem Ch.start (h : W 0 u) : Ch (fun _ => false) cs W u := ⟨0, Nat.zero_le _, fun i _ => by simp, h⟩
theorem Ch.other (h : Ch dn cs W u) (i : Nat) (hi : i ∉ cs) : Ch (fun k => decide (k = i) || dn k) cs W u := by
  obtain ⟨j, hj, hd, hw⟩ := h.ex
  refine ⟨j, hj, fun k hk => ?_, hw⟩
  have hne : cs[k] ≠ i := fun e => hi (by rw [← e]; exact List.getElem_mem hk)
  simp [hne, hd k hk]
theorem Ch.at_ (h : Ch dn cs W u) (j : Nat) (hj : j < cs.length) (hn : dn cs[j] = false) (hp : ∀ i, i + 1 = j → ∀ (hi : i < cs.length), dn cs[i] = true) : W j u := by
  obtain ⟨j0, hj0, hd, hw⟩ := h.ex
  have h1 := hd j hj
  rw [hn] at h1
  have h2 : ¬ j < j0 := by simpa using h1.symm
  have h3 : j0 = j := by
    cases j with
    | zero => omega
    | succ k =>
      have h4 := hd k (by omega)
      rw [hp k rfl (by omega)] at h4
      have h5 : k < j0 := by simpa using h4.symm
      omega
  rw [← h3]
  exact hw
theorem Ch.next (h : Ch dn cs W u) (j : Nat) (hj : j < cs.length) (hn : dn cs[j] = false) (hp : ∀ i, i + 1 = j → ∀ (hi : i < cs.length), dn cs[i] = true) (hnd : cs.Nodup) (hw' : W' (j + 1) u') : Ch (fun k => decide (k = cs[j]) || dn k) cs W' u' := by
  obtain ⟨j0, hj0, hd, hw⟩ := h.ex
  have h1 := hd j hj
  rw [hn] at h1
  have h2 : ¬ j < j0 := by simpa using h1.symm
  have h3 : j0 = j := by
    cases j with
    | zero => omega
    | succ k =>
      have h4 := hd k (by omega)
      rw [hp k rfl (by omega)] at h4
      have h5 : k < j0 := by simpa using h4.symm
      omega
  subst h3
  refine ⟨j0 + 1, by omega, fun i hi => ?_, hw'⟩
  by_cases e : i = j0
  · subst e; simp
  · have hne : cs[i] ≠ cs[j0] := fun e2 => e ((List.getElem_inj hnd).1 e2)
    simp only [hne, decide_false, Bool.false_or, hd i hi]
    have : (i < j0) ↔ (i < j0 + 1) := by omega
    simp [this]
theorem Ch.early (h : Ch dn cs W u) (m : Nat) (hm : m < cs.length) (hn : dn cs[m] = false) : ∃ j, j ≤ m ∧ W j u := by
  obtain ⟨j0, hj0, hd, hw⟩ := h.ex
  have h1 := hd m hm
  rw [hn] at h1
  have h2 : ¬ m < j0 := by simpa using h1.symm
  exact ⟨j0, by omega, hw⟩
theorem Ch.all (h : Ch dn cs W u) (hall : ∀ i, ∀ (h : i < cs.length), dn cs[i] = true) : W cs.length u := by
  obtain ⟨j0, hj0, hd, hw⟩ := h.ex
  have h3 : j0 = cs.length := by
    rcases Nat.lt_or_ge j0 cs.length with h' | h'
    · have h4 := hd j0 h'
      rw [hall j0 h'] at h4
      simp at h4
    · omega
  rw [← h3]
  exact hw
end
end Go.Proofs.Ytplncocfbajefaa

