/-
  The contracts of ShortestWay: the model's face, the program's.
  The contract of the program's costsOfCall: a map of the call's own from the applicable functions to their costs.
  The contract of the program's indicesIn: the keys of a map of the call's own, in ascending order.
  The contracts of the model's l5Cost and CostOf.
  The contracts of the program's ApplicableOf and CostOf.
-/
import Derived.Test.YtnmbjmocnafekaaGreatDoorG19
import Derived.Test.YtnmbjmocnafekaaGreatDoorG21
import Derived.Test.YtnmbjmocnafekaaGreatDoorG7
import Derived.Maps.Own
import Derived.WalkMore
import Derived.Deep.LoopGhost
import Derived.Deep.RegionHeld3
import Derived.Test.YtnmbjmocnafekaaGreatDoorKeys
import Derived.Lib.SlKeysI
import Derived.Test.YtnmbjmocnafekaaGreatDoorG20
import Derived.BigQuiet
import Derived.Maps.OwnSet
namespace Go.Proofs.YtnmbjmocnafekaaGreatDoor
open Go.RowKit
attribute [local go_sem] Oper.semAt_some

theorem ownsRow_raise {w : World} {base base' n : Nat} {e : TypeId} {v : Value} {xs : List Value} (h : w.ownsRow base e 1 v n xs) (hb : ∀ b, v.ownBlock = some b → base' ≤ b) : w.ownsRow base' e 1 v n xs := by
  obtain ⟨h1, h2 | ⟨g, cap, cur, rfl, _, r⟩⟩ := h
  · exact ⟨h1, .inl h2⟩
  · exact ⟨h1, .inr ⟨g, cap, cur, rfl, hb g rfl, r⟩⟩
/-- The two boxes of the loop: the shortest way so far, and whether there is one. -/
structure ShIn (n0 d : Nat) (w1 : World) (s : List (List Int)) (O : Nat → Prop) (A : World) (v : Value) : Prop where
  r0 : Row A n0 22 [v]
  r1 : Row A (n0 + 1) 4 [.bool (decide (0 < s.length))]
  own : A.ownsRow n0 3 1 v ((shortO s).getD []).length (((shortO s).getD []).map (Value.int .i64))
  no : ∀ b, v.ownBlock = some b → ¬ O b
  no0 : ¬ O n0
  no1 : ¬ O (n0 + 1)
  lo : ∀ k, O k → n0 ≤ k
  nd : ∀ b, v.ownBlock = some b → b ≠ d ∧ b ≠ d + 1
  below : Below n0 w1 A

section
variable {n0 d : Nat} {w1 A : World} {s : List (List Int)} {O : Nat → Prop} {u v : Value} {zs : List Int}
theorem ShIn.later {A0 : World} (hi : ShIn n0 d w1 s O A0 u) (hb : Below A0.heap.size A0 A) : ShIn n0 d w1 s O A u :=
  ⟨hi.r0.below hb hi.r0.lt, hi.r1.below hb hi.r1.lt, ownsRow_keep1 hi.own fun b h => hb.block b (owns_lt hi.own b h).2, hi.no, hi.no0, hi.no1, hi.lo, hi.nd, hi.below.trans (hb.mono (Nat.le_of_lt hi.r0.lt))⟩
theorem ShIn.put (hi : ShIn n0 d w1 s O A u) (hz : A.ownsRow 0 3 1 v zs.length (zs.map (Value.int .i64))) (hno : ∀ b, v.ownBlock = some b → ¬ O b ∧ ¬ b < n0) (hnd : ∀ b, v.ownBlock = some b → b ≠ d ∧ b ≠ d + 1) (hsh : shortO (s ++ [zs]) = some zs) :
    ShIn n0 d w1 (s ++ [zs]) O ((A.setCell ⟨n0, 0, none⟩ v).setCell ⟨n0 + 1, 0, none⟩ (.bool true)) v := by
  have hne0 := owns_ne_row hz hi.r0 (by decide)
  have hne1 := owns_ne_row hz hi.r1 (by decide)
  refine ⟨(hi.r0.set_ 0 v).far (by dsimp only; omega) _, ?_, ?_, fun b hb => (hno b hb).1, hi.no0, hi.no1, hi.lo, hnd, (hi.below.setCell (Nat.le_refl _) _).setCell (by dsimp only; omega) _⟩
  · have h := (hi.r1.far (p := ⟨n0, 0, none⟩) (by dsimp only; omega) v).set_ 0 (.bool true)
    have e : decide (0 < (s ++ [zs]).length) = true := by simp
    rw [e]
    exact h
  · rw [hsh]
    refine ownsRow_raise (base := 0) (ownsRow_keep1 hz fun b hb => ?_) fun b hb => by have := (hno b hb).2; omega
    exact (heap_set_ne _ _ _ _ _ (fun e => hne1 (by rw [hb, e]))).trans (heap_set_ne _ _ _ _ _ (fun e => hne0 (by rw [hb, e])))
theorem ShIn.stay (hi : ShIn n0 d w1 s O A u) (hs : 0 < s.length) (hsh : shortO (s ++ [zs]) = shortO s) : ShIn n0 d w1 (s ++ [zs]) O A u := by
  refine ⟨hi.r0, ?_, by rw [hsh]; exact hi.own, hi.no, hi.no0, hi.no1, hi.lo, hi.nd, hi.below⟩
  have e : decide (0 < (s ++ [zs]).length) = decide (0 < s.length) := by rw [decide_eq_decide]; simp; omega
  rw [e]
  exact hi.r1
theorem ShIn.holds (hi : ShIn n0 d w1 s O A u) (hd : n0 + 5 ≤ d) : HoldsOn (fun k => O k ∨ k < n0 ∨ k = d ∨ k = d + 1) A ((A.setCell ⟨n0, 0, none⟩ v).setCell ⟨n0 + 1, 0, none⟩ (.bool true)) := by
  refine ⟨by simp [World.setCell], fun k hk hS => ?_⟩
  have h0 : k ≠ n0 := fun e => by subst e; rcases hS with h | h | h | h <;> first | exact hi.no0 h | omega
  have h1 : k ≠ n0 + 1 := fun e => by subst e; rcases hS with h | h | h | h <;> first | exact hi.no1 h | omega
  exact (heap_set_ne _ _ _ _ _ h1).trans (heap_set_ne _ _ _ _ _ h0)
end

set_option maxRecDepth 100000 in
set_option maxHeartbeats 4000000 in
theorem implShort_any (lo hi : Nat) (sv cv : Value) (t : Ty) (a b : Int) (w : World) (hv : TyAt w lo hi sv cv t) (hB : hi ≤ w.heap.size) (ha : I64 a) (hb : I64 b) :
    Calls Tryz.prog 173 #[.agg #[sv, cv], .int .i64 a, .int .i64 b] w fun e w' => ∃ v, e = .returned (.tuple #[v, .bool (canC t a b)]) ∧ Below w.heap.size w w' ∧ w'.ownsRow w.heap.size 3 1 v (shortV t a b).length ((shortV t a b).map (Value.int .i64)) := by
  obtain ⟨A, cap, rfl, hl1, hm1, hi1⟩ := hv.1.form
  obtain ⟨B, bap, rfl, hl2, hm2, hc1⟩ := hv.2.form
  have Hv := Lib.hid hv
  clear hv hi1 hc1
  have h4 : Below w.heap.size w ((w.alloc (.cells #[.slice A t.sizes.length cap, .slice B t.cos.length bap] 33)).alloc (.cells #[.int .i64 a, .int .i64 b] 3)) := by go_grown
  have hone := ints_two (w.alloc (.cells #[.slice A t.sizes.length cap, .slice B t.cos.length bap] 33)) a b ha hb 3
  rw [World.size_alloc] at hone
  have hfo := finderOf_any lo hi _ _ _ _ _ t [a, b] _ (Hv.out.below h4 hB) (by simp; omega) hone (by simp only [World.size_alloc]; omega)
  have H4 := Lib.hid h4
  clear hone
  by_cases hok : typesB t a b = true
  · have hfo2 := hfo.mono (R' := fun e w' => ∃ g, e = .returned (.tuple #[.pointer (some ⟨g, 0, none⟩), .bool true]) ∧ Below w.heap.size w w' ∧ Row w' g 159 [.slice A t.sizes.length cap, .slice B t.cos.length bap]) (fun e w' h => by
      obtain ⟨p, rfl, h1, h2⟩ := h
      rw [findOk_two, hok] at h2
      obtain ⟨g, rfl, _, h3⟩ := h2 rfl
      exact ⟨g, by rw [findOk_two, hok], h4.trans (h1.mono (by simp; omega)), h3⟩)
    have Hfo := Lib.hid hfo2
    have Htb := Lib.hid hok
    have hval := Lib.hid (shortV_yes hok)
    have hcan : Hid (canC t a b = decide (0 < (waysOf t a b).length)) := by show _ = _; unfold canC canB; rw [hok, Bool.true_and]
    clear h4 hfo hfo2 hok
    refine (callsIn_wide (n := 5)).1 ?_
    refine callsIn_of_wp_marks Tryz.func173 rfl trivial ?_ rfl
    simp only [Tryz.ntmps173, List.size_toArray, List.length_cons, List.length_nil, Nat.reduceAdd, Nat.reduceSub, Array.replicate_succ, Array.replicate_zero, List.push_toArray, List.append_toArray, List.nil_append, List.cons_append]
    gi_wp2_with (first
      | (refine ⟨trivial, ?_⟩; gi_at_call 101; refine (callsIn_wide.2 Hfo.out).mono ?_; rintro e w1 ⟨g, rfl, hb1, hrow⟩)
      | (refine ⟨trivial, ?_⟩; gi_at_call 135; refine (callsIn_wide.2 (ways_any g a b _)).mono ?_; rintro e w' ⟨rfl, rfl⟩))
    have hgl := hrow.lt
    obtain ⟨W0, hW0⟩ : ∃ u, u = ((((w1.alloc (.cells #[.slice none 0 0] 22)).alloc (.cells #[.bool false] 4)).alloc (.cells #[.pointer (some ⟨g, 0, none⟩)] 96)).alloc (.cells #[.int .i64 a] 3)).alloc (.cells #[.int .i64 b] 3) := ⟨_, rfl⟩
    rw [← hW0]
    have hs0 : W0.heap.size = w1.heap.size + 5 := by rw [hW0]; simp
    have hb0 : Below w1.heap.size w1 W0 := by rw [hW0]; go_grown
    have rs : Row W0 w1.heap.size 22 [.slice none 0 0] := by rw [hW0]; exact ((((Row.new w1 22 [.slice none 0 0]).alloc _).alloc _).alloc _).alloc _
    have rf : Row W0 (w1.heap.size + 1) 4 [.bool false] := by
      rw [hW0]
      have := Row.new (w1.alloc (.cells #[.slice none 0 0] 22)) 4 [.bool false]
      rw [World.size_alloc] at this
      exact ((this.alloc _).alloc _).alloc _
    have r3 : Row W0 (w1.heap.size + 1 + 1) 96 [.pointer (some ⟨g, 0, none⟩)] := by
      rw [hW0]
      have := Row.new ((w1.alloc (.cells #[.slice none 0 0] 22)).alloc (.cells #[.bool false] 4)) 96 [.pointer (some ⟨g, 0, none⟩)]
      rw [World.size_alloc, World.size_alloc] at this
      exact (this.alloc _).alloc _
    have r4 : Row W0 (w1.heap.size + 1 + 1 + 1) 3 [.int .i64 a] := by
      rw [hW0]
      have := Row.new (((w1.alloc (.cells #[.slice none 0 0] 22)).alloc (.cells #[.bool false] 4)).alloc (.cells #[.pointer (some ⟨g, 0, none⟩)] 96)) 3 [.int .i64 a]
      rw [World.size_alloc, World.size_alloc, World.size_alloc] at this
      exact this.alloc _
    have r5 : Row W0 (w1.heap.size + 1 + 1 + 2) 3 [.int .i64 b] := by
      rw [hW0]
      have := Row.new ((((w1.alloc (.cells #[.slice none 0 0] 22)).alloc (.cells #[.bool false] 4)).alloc (.cells #[.pointer (some ⟨g, 0, none⟩)] 96)).alloc (.cells #[.int .i64 a] 3)) 3 [.int .i64 b]
      rw [World.size_alloc, World.size_alloc, World.size_alloc, World.size_alloc] at this
      exact this
    clear hW0
    have Hb1 := Lib.hid hb1
    have Hrow := Lib.hid hrow
    have hs1 := hb1.size
    clear hb1 hrow
    refine range_law (fun v => { tmps := #[.agg #[.slice A t.sizes.length cap, .slice B t.cos.length bap], .int .i64 a, .int .i64 b, .pointer (some ⟨w.heap.size, 0, none⟩), undef, undef, .slice none 0 0, .bool false, .pointer (some ⟨g, 0, none⟩), .bool true, .pointer (some ⟨w1.heap.size, 0, none⟩), .pointer (some ⟨w1.heap.size + 1, 0, none⟩), v, .tuple #[.pointer (some ⟨g, 0, none⟩), .bool true], .agg #[.slice A t.sizes.length cap, .slice B t.cos.length bap], .int .i64 a, .int .i64 b, .slice (some ⟨w.heap.size + 1, 0, none⟩) 2 2, .tuple #[.pointer (some ⟨g, 0, none⟩), .bool true], .pointer (some ⟨g, 0, none⟩), .bool true, .bool true, .bool false, .pointer (some ⟨g, 0, none⟩), .int .i64 a, .int .i64 b, .func (.func 158) #[] #[.pointer (some ⟨w1.heap.size + 1 + 1, 0, none⟩), .pointer (some ⟨w1.heap.size + 1 + 1 + 1, 0, none⟩), .pointer (some ⟨w1.heap.size + 1 + 1 + 2, 0, none⟩)], v, undef, undef, undef, undef, undef, undef, undef, undef, undef, undef, undef, undef], defers := [] }) ?assign (gf := 158) (lb := #[.pointer (some ⟨w1.heap.size + 1 + 1, 0, none⟩), .pointer (some ⟨w1.heap.size + 1 + 1 + 1, 0, none⟩), .pointer (some ⟨w1.heap.size + 1 + 1 + 2, 0, none⟩)]) rfl (enters_of Tryz.func158 (by kernel_rfl) rfl)
      (fun k => k < w1.heap.size) (fun k hk => by omega) (waysOf t a b) (fun s O A => ∃ v, ShIn w1.heap.size W0.heap.size w1 s O A v) (fun _ _ _ => False) ?istep ?igive ?iput ?ixput ?iter ?start ?body ?done ?stop
    case assign =>
      intro l v W m K hK
      gi_wp2
      exact hK
    case istep =>
      rintro s O A C row ⟨v, hi⟩ hgr hrw
      have hsz := hgr.size
      have hl0 := hi.r0.lt
      have hl1 := hi.r1.lt
      refine ⟨v, hi.r0.keep (hgr.block _ hl0 (fun e => hi.no0 (hrw _ e.symm))), hi.r1.keep (hgr.block _ hl1 (fun e => hi.no1 (hrw _ e.symm))), ownsRow_keep1 hi.own fun b hb => hgr.block b (owns_lt hi.own b hb).2 (fun e => hi.no b hb (hrw _ e.symm)),
        fun b hb h => h.elim (hi.no b hb) (fun h => by have := (owns_lt hi.own b hb).2; omega), fun h => h.elim hi.no0 (fun h => by omega), fun h => h.elim hi.no1 (fun h => by omega), fun k h => h.elim (hi.lo k) (fun h => by omega), hi.nd, hi.below.grown hgr hi.below.size (fun k e => hi.lo k (hrw k e))⟩
    case igive =>
      rintro s O O' A ⟨v, hi⟩ hsub
      exact ⟨v, hi.r0, hi.r1, hi.own, fun b hb h => hi.no b hb (hsub b h), fun h => hi.no0 (hsub _ h), fun h => hi.no1 (hsub _ h), fun k h => hi.lo k (hsub k h), hi.nd, hi.below⟩
    case iput =>
      rintro s O A k o' ⟨v, hi⟩ h1 h2
      exact ⟨v, hi.r0.keep (puts_keep (by omega)), hi.r1.keep (puts_keep (by omega)), ownsRow_keep1 hi.own fun b hb => puts_keep (by have := hi.nd b hb; omega), hi.no, hi.no0, hi.no1, hi.lo, hi.nd, hi.below.grown (grownBy_putObj' A k o') hi.below.size (fun q e => by simp only [Option.some.injEq] at e; omega)⟩
    case ixput =>
      rintro c s A k o' h _ _
      exact h.elim
    case iter =>
      intro l J Jx W1 hC hb1 hJ
      have hbb := hb0.trans (hb1.mono (by omega))
      have hbw := Hb1.out.trans (hbb.mono hs1)
      exact waysIter_any l g (w1.heap.size + 1 + 1) (w1.heap.size + 1 + 1 + 1) (w1.heap.size + 1 + 1 + 2) _ J Jx t a b hC lo hi _ _ W1 Htb.out hgl (fun k _ hk => by omega) (fun k hk => by have := hbb.size; omega) (Hrow.out.below hbb hgl) (Hv.out.below hbw hB)
        ((r3.below hb1 (by omega)).cell 0) ((r4.below hb1 (by omega)).cell 0) ((r5.below hb1 (by omega)).cell 0) hJ
    case start =>
      intro W1 hb1
      exact ⟨.slice none 0 0, rs.below hb1 (by omega), rf.below hb1 (by omega), World.ownsRow_nil _ _ _ _, fun b hb => by simp [Value.ownBlock] at hb, fun h => h, fun h => h, fun k h => h.elim, fun b hb => by simp [Value.ownBlock] at hb, hb0.trans (hb1.mono (by omega))⟩
    case body =>
      rintro l s v zs O A0' A' m _ ⟨u, hi0⟩ _ hbel hz hzo0 hzw hlt
      have hi := hi0.later hbel
      have hzo : ∀ b, v.ownBlock = some b → ¬ O b ∧ ¬ b < w1.heap.size := fun b hb => (hzo0 b hb).2
      have hzd : ∀ b, v.ownBlock = some b → b ≠ W0.heap.size ∧ b ≠ W0.heap.size + 1 := fun b hb => by have := (hzo0 b hb).1; omega
      clear hi0
      obtain ⟨VA, VC, rfl⟩ := owns_form hz
      have p0 : A'.cell? ⟨w1.heap.size, 0, none⟩ = some u := hi.r0.cell 0
      have pf0 : A'.frozen? ⟨w1.heap.size, 0, none⟩ = false := hi.r0.frozen 0
      have p1 : A'.cell? ⟨w1.heap.size + 1, 0, none⟩ = some (.bool (decide (0 < s.length))) := hi.r1.cell 0
      have pf1 : A'.frozen? ⟨w1.heap.size + 1, 0, none⟩ = false := hi.r1.frozen 0
      have Hi := Lib.hid hi
      have Hz := Lib.hid hz
      by_cases hs : 0 < s.length
      · obtain ⟨y, hy⟩ := shortO_some s (by intro e; subst e; simp at hs)
        have hown := hi.own
        rw [hy] at hown
        simp only [Option.getD_some] at hown
        obtain ⟨UA, UC, rfl⟩ := owns_form hown
        have hd1 : decide (0 < s.length) = true := by simpa using hs
        rw [hd1] at p1
        by_cases hless : zs.length < y.length
        · have hput := Lib.hid (Hi.out.put Hz.out hzo hzd (by rw [shortO_snoc, hy, pickS, if_pos hless]))
          have hhold := Lib.hid (Hi.out.holds (v := .slice VA zs.length VC) (by omega))
          clear hi hz hown
          gi_wp2
          exact ⟨hhold.out, _, hput.out⟩
        · have hstay := Lib.hid (Hi.out.stay hs (by rw [shortO_snoc, hy, pickS, if_neg hless]))
          clear hi hz hown
          gi_wp2
          exact ⟨⟨Nat.le_refl _, fun _ _ _ => rfl⟩, _, hstay.out⟩
      · obtain rfl : s = [] := List.eq_nil_of_length_eq_zero (by omega)
        have hput := Lib.hid (Hi.out.put Hz.out hzo hzd rfl)
        have hhold := Lib.hid (Hi.out.holds (v := .slice VA zs.length VC) (by omega))
        have hd1 : decide (0 < ([] : List (List Int)).length) = false := rfl
        rw [hd1] at p1
        clear hi hz
        gi_wp2
        exact ⟨hhold.out, _, hput.out⟩
    case done =>
      rintro O' W' ⟨v, hi⟩ hK
      have p0 : W'.cell? ⟨w1.heap.size, 0, none⟩ = some v := hi.r0.cell 0
      have p1 : W'.cell? ⟨w1.heap.size + 1, 0, none⟩ = some (.bool (decide (0 < (waysOf t a b).length))) := hi.r1.cell 0
      rw [← hcan.out] at p1
      have HK := Lib.hid hK
      have hbw := Lib.hid (Hb1.out.trans (hi.below.mono hs1))
      have hown : W'.ownsRow w.heap.size 3 1 v (shortV t a b).length ((shortV t a b).map (Value.int .i64)) := by rw [hval.out]; exact ownsRow_base hi.own hs1
      have Hown := Lib.hid hown
      have Hnd := Lib.hid hi.nd
      clear hi hK hown
      gi_wp2
      refine wpIn_wide.2 ?_
      go_quiet (fail)
      gi_wp2
      refine ⟨by simp, .inl ⟨_, _, rfl, run_takeDeferred (w := World.drewN W' _) HK.out, ?_⟩⟩
      refine ⟨.tuple #[v, .bool (canC t a b)], by simp [results, Tryz.results173, go_sem], v, rfl, ?_, ?_⟩
      · exact (below_drewN hbw.out _).grown (grownBy_putObj' _ _ _) hbw.out.size (fun q e => by simp only [Option.some.injEq] at e; omega)
      · exact ownsRow_keep1 Hown.out fun b hb => puts_keep (A := World.drewN W' _) (by have := Hnd.out b hb; omega)
    case stop =>
      rintro c s' W' _ h _
      exact h.elim
  · have hokf : typesB t a b = false := by simpa using hok
    have hfo2 := hfo.mono (R' := fun e w' => ∃ p, e = .returned (.tuple #[.pointer p, .bool false]) ∧ Below w.heap.size w w') (fun e w' h => by
      obtain ⟨p, rfl, h1, _⟩ := h
      exact ⟨p, by rw [findOk_two, hokf], h4.trans (h1.mono (by simp; omega))⟩)
    have Hfo := Lib.hid hfo2
    have hno := Lib.hid (shortV_no hokf)
    have hc : Hid (canC t a b = false) := by show _ = _; unfold canC; rw [hokf, Bool.false_and]
    clear h4 hfo hfo2 hok hokf
    refine (callsIn_wide (n := 5)).1 ?_
    refine callsIn_of_wp Tryz.func173 rfl trivial ?_ rfl
    simp only [Tryz.ntmps173, List.size_toArray, List.length_cons, List.length_nil, Nat.reduceAdd, Nat.reduceSub, Array.replicate_succ, Array.replicate_zero, List.push_toArray, List.append_toArray, List.nil_append, List.cons_append]
    gi_wp2_with (refine ⟨trivial, ?_⟩; gi_at_call 101; refine (callsIn_wide.2 Hfo.out).mono ?_; rintro e w1 ⟨p, rfl, hb1⟩)
    refine bodyPost_ret (v := .tuple #[.slice none 0 0, .bool false]) (by simp [results, Tryz.results173, go_sem]) rfl ?_
    refine ⟨_, by rw [hc.out], hb1, ?_⟩
    rw [hno.out]
    exact World.ownsRow_nil _ _ _ _
end Go.Proofs.YtnmbjmocnafekaaGreatDoor

namespace Go.Proofs.YtnmbjmocnafekaaGreatDoor
open Go.RowKit Go.Maps

theorem keyInt : Keyed Tryz.prog 3 := int_keyed Tryz.underlying3
theorem wfInt {z : Int} (h : I64 z) : (Lit.int .i64 z).wf = true := by
  unfold I64 at h
  simp [Lit.wf, IntKind.min, IntKind.max, IntKind.signed, IntKind.bits]
  omega
theorem apTo_step {t : Ty} {ks gs : List Int} {k : Nat} (h : ∀ j, j < k → canC t (ks.getD j 0) (gs.getD j 0) = true) (hk : k < ks.length) (hg : k < gs.length) (hc : canC t ks[k] gs[k] = true) : ∀ j, j < k + 1 → canC t (ks.getD j 0) (gs.getD j 0) = true := fun j hj => by
  by_cases e : j = k
  · subst e; rw [getD_of hk, getD_of hg]; exact hc
  · exact h j (by omega)
theorem costTo_step {t : Ty} {ks gs : List Int} {k : Nat} (hk : k < ks.length) (hg : k < gs.length) : costTo t ks gs (k + 1) = costTo t ks gs k + (shortV t ks[k] gs[k]).length := by
  show costTo t ks gs k + (shortV t (ks.getD k 0) (gs.getD k 0)).length = _
  rw [getD_of hk, getD_of hg]

/-- What costsOfCall returns. -/
def CostsAt (w : World) (lo : Nat) (y : Sy) (nm : ByteArray) (ks : List Int) (e : Ending) (w' : World) : Prop :=
  ∃ (b n : Nat) (D : DataW Unit), e = .returned (.map (some b)) ∧ lo ≤ b ∧ n ≤ 1048576 ∧ Below lo w w' ∧ Cst y ks (applicV y nm ks) D ∧ w'.ownsMap Tryz.prog 3 (plainElem Tryz.prog 3) b n D

set_option maxRecDepth 100000 in
set_option maxHeartbeats 4000000 in
theorem costsOfCall_any (lo hi lo' hi' : Nat) (sv cv fv kv : Value) (y : Sy) (nm : ByteArray) (ks : List Int) (w : World) (hv : SyAt w lo hi sv cv fv y) (hk : IntsAt w lo' hi' kv ks) (hB : hi ≤ w.heap.size) (hB' : hi' ≤ w.heap.size) (hbk : y.bulk ≤ 1048576) (hnm : nm.size ≤ maxLen) :
    Calls Tryz.prog 152 #[.agg #[sv, cv, fv], .string nm, kv] w (CostsAt w w.heap.size y nm ks) := by
  obtain ⟨A, cap, rfl, hl1, hm1, hi1⟩ := hv.1.1.form
  obtain ⟨B, bap, rfl, hl2, hm2, hc1⟩ := hv.1.2.form
  obtain ⟨F, fap, rfl, hl3, hm3, hf1⟩ := hv.2.form
  obtain ⟨K, kap, rfl, hlk, hmk, hk1⟩ := hk.form
  unfold maxLen at hm3 hmk
  have hmm := @run_makeMap Tryz.prog
  have hn : y.fs.length ≤ 1048576 := by unfold Sy.bulk at hbk; omega
  have Hv := Lib.hid hv
  have Hf := Lib.hid hf1
  have Hk := Lib.hid hk1
  have HT := Lib.hid (show TyAt w lo hi (.slice A y.ty.sizes.length cap) (.slice B y.ty.cos.length bap) y.ty from ⟨hi1, hc1⟩)
  have Hnm := Lib.hid hnm
  clear hi1 hc1 hf1 hk1 hk hv hnm
  have hzle := namedV_le y nm (ks.length : Int)
  have hzwf := namedV_wf y nm (ks.length : Int) hbk
  have hval : Hid (applicV y nm ks = apsIn y ks (namedV y nm (ks.length : Int))) := rfl
  have hzat : Hid (∀ m, ∀ (hm : m < (namedV y nm (ks.length : Int)).length), SyOk y ∧ ∃ i : Nat, (namedV y nm (ks.length : Int))[m] = (i : Int) ∧ ∃ hi : i < y.fs.length, y.fs[i].args.length = ks.length) := fun m hm => by
    obtain ⟨hs, i, hi, _, ha, e⟩ := namedV_mem.1 (List.getElem_mem hm)
    rw [getD_of hi] at ha
    exact ⟨hs, i, e, hi, by omega⟩
  have h3 : Below w.heap.size w ((w.alloc (.cells #[.slice A y.ty.sizes.length cap, .slice B y.ty.cos.length bap, .slice F y.fs.length fap] 36)).alloc (.map #[] 0)) := by go_grown
  have H3 := Lib.hid h3
  have hmade : ((w.alloc (.cells #[.slice A y.ty.sizes.length cap, .slice B y.ty.cos.length bap, .slice F y.fs.length fap] 36)).alloc (.map #[] 0)).ownsMap Tryz.prog 3 (plainElem Tryz.prog 3) (w.heap.size + 1) 0 (.map [] : DataW Unit) := by
    have h := World.ownsMap_made (H := Unit) (w.alloc (.cells #[.slice A y.ty.sizes.length cap, .slice B y.ty.cos.length bap, .slice F y.fs.length fap] 36)) Tryz.prog 3 (plainElem Tryz.prog 3)
    rwa [World.size_alloc] at h
  have Hmade := Lib.hid hmade
  have H31 := Lib.hid ((Below.refl (w.heap.size + 1) (w.alloc (.cells #[.slice A y.ty.sizes.length cap, .slice B y.ty.cos.length bap, .slice F y.fs.length fap] 36))).alloc (by simp) (.map #[] 0))
  clear h3 hmade
  go_enter Tryz.func152, Tryz.ntmps152
  go_wp2
  go_step3
  go_wp2
  go_step3
  go_wp2_with fail
  refine (implNamed_any lo hi _ _ _ y nm (ks.length : Int) _ (Hv.out.below H3.out hB) (by simp; omega) hbk Hnm.out).mono ?_
  rintro e wL ⟨v, rfl, hbL, hown⟩
  simp only [World.size_alloc] at hbL hown
  generalize namedV y nm (ks.length : Int) = zs at *
  have hbi := Lib.hid (ownsRow.intsAt (lo := w.heap.size + 2) (hi := wL.heap.size) (show wL.ownsRow (w.heap.size + 2) 3 1 _ zs.length (zs.map (Value.int .i64)) from hown) hzwf (Nat.le_refl _) (Nat.le_refl _))
  obtain ⟨OA, OC, rfl⟩ := owns_form hown
  have Hbi := hbi
  have HbL := Lib.hid (H3.out.trans (hbL.mono (by omega)))
  have HbX := Lib.hid (H31.out.trans (hbL.mono (by omega)))
  have Hm0 := Lib.hid (Hmade.out.kept (row := none) ⟨hbL.os, hbL.tape, hbL.output, hbL.size, fun j hj _ => hbL.block j (by simpa using hj)⟩ (by simp))
  have hLs : w.heap.size + 2 ≤ wL.heap.size := by have := hbL.size; simp at this; omega
  clear hzwf hbL hown
  go_wp2
  go_loopg [22] zs.length (fun gk i wx => ∃ j : Nat, j + gk = zs.length ∧ i = .int .i64 j ∧ Hid (Below w.heap.size w wx) ∧ Hid (wL.heap.size ≤ wx.heap.size ∧ ∀ k, k < wL.heap.size → k ≠ w.heap.size + 1 → wx.heap[k]? = wL.heap[k]?) ∧
    Hid (∃ D : DataW Unit, Cst y ks (apsIn y ks (zs.take j)) D ∧ wx.ownsMap Tryz.prog 3 (plainElem Tryz.prog 3) (w.heap.size + 1) j D))
  case atStart => exact ⟨0, by omega, rfl, HbL, ⟨Nat.le_refl _, fun _ _ _ => rfl⟩, ⟨_, by rw [List.take_zero]; exact Cst.nil y ks, Hm0.out⟩⟩
  case round =>
    obtain ⟨j, hjg, rfl, hbx, hhx, hmx⟩ := hrel
    obtain ⟨wx, rfl⟩ : ∃ u, u = wr := ⟨_, rfl⟩
    cases gk with
    | zero =>
      obtain rfl : j = zs.length := by omega
      go_wp2
      try rw [Exit.noGoto_ret]
      go_ret
      obtain ⟨D, hC, hO⟩ := hmx.out
      exact ⟨_, _, D, rfl, by omega, by omega, hbx.out, by rw [hval.out, ← List.take_length (l := zs)]; exact hC, hO⟩
    | succ g2 =>
      have hlt : j < zs.length := by omega
      have Hbix := Lib.hid (Hbi.out.keep (w' := wx) fun k hk1 hk2 => hhx.out.2 k hk2 (by omega))
      obtain ⟨hsy, ij, ej, hij, hal⟩ := hzat.out j hlt
      obtain ⟨b8, off8, rfl, _, _, c8, _⟩ := Hbix.out.at_ hlt
      rw [ej] at c8
      have Ej := Lib.hid ej
      have Hsy := Lib.hid hsy
      have Hal := Lib.hid hal
      have hgz : Hid ((y.fs.getD zs[j].toNat default).args = y.fs[ij].args) := by show _ = _; rw [Ej.out, Int.toNat_natCast, getD_of hij]
      have hsx := hhx.out.1
      have hfew : y.fs[ij].args.length ≤ 2 := (Hsy.out.each ij hij).few
      have hkf : ks.length ≤ 2 := by have := Hal.out; omega
      clear ej hsy hal
      go_wp2
      go_loopg [10, 28] ks.length (fun gi n i wy => ∃ m : Nat, m + gi = ks.length ∧ i = .int .i64 m ∧ n = .int .i64 (costTo y.ty ks y.fs[ij].args m : Nat) ∧ Hid (Below wx.heap.size wx wy) ∧ Hid (∀ q, q < m → canC y.ty (ks.getD q 0) (y.fs[ij].args.getD q 0) = true))
      case atStart => exact ⟨0, by omega, rfl, rfl, Below.refl _ _, fun q h => absurd h (by omega)⟩
      case round =>
        obtain ⟨m, hmg, rfl, rfl, hby, hall⟩ := hrel
        obtain ⟨wy, rfl⟩ : ∃ u, u = wr := ⟨_, rfl⟩
        have hbxy := hbx.out.trans (hby.out.mono (by omega))
        have Hbxy := Lib.hid hbxy
        have hsy := hby.out.size
        clear hbxy
        cases gk with
        | zero =>
          obtain rfl : m = ks.length := by omega
          have hap : ApTo y.ty ks (y.fs.getD zs[j].toNat default).args := by rw [hgz.out]; exact ⟨by have := Hal.out; omega, hall.out⟩
          have hh := Lib.hid (apsIn_hit hlt hap)
          obtain ⟨D, hC, hO⟩ := hmx.out
          have hcost : costOf y ks (ij : Int) = (costTo y.ty ks y.fs[ij].args ks.length : Nat) := by unfold costOf costV; rw [Int.toNat_natCast, getD_of hij]
          have hcle := costTo_le y.ty ks y.fs[ij].args ks.length
          have hOy : wy.ownsMap Tryz.prog 3 (plainElem Tryz.prog 3) (w.heap.size + 1) j D := hO.kept (row := none) ⟨hby.out.os, hby.out.tape, hby.out.output, hby.out.size, fun k hk _ => hby.out.block k hk⟩ (by simp)
          have hC2 := hC.step (ij : Int)
          rw [hcost] at hC2
          have HC2 := Lib.hid hC2
          clear hcost hC hO hC2 hap
          go_wp2_with (at_mapUpdate; refine wpList_mapUpdate_own _ rfl _ _ _ 245 rfl 3 3 keyInt Tryz.underlying245 _ (w.heap.size + 1) j D rfl hOy (by unfold maxLen; omega) (.int .i64 (ij : Nat)) (.int .i64 (costTo y.ty ks y.fs[ij].args ks.length : Nat)) (.int .i64 (ij : Nat)) rfl rfl (keyOf_int_mk Tryz.underlying3 (wfInt (by unfold I64; omega))) (.lit (.int .i64 (costTo y.ty ks y.fs[ij].args ks.length : Nat))) [] (plainElem_int Tryz.underlying3 (wfInt (by unfold I64; omega))) ?_)
          intro w3 hO3 hg3
          have hs3 := hg3.size
          have hb3 := Lib.hid (Hbxy.out.grown hg3 (by omega) (fun k hk => by simp at hk; omega))
          have Hh3 := Lib.hid (show wL.heap.size ≤ w3.heap.size ∧ ∀ k, k < wL.heap.size → k ≠ w.heap.size + 1 → w3.heap[k]? = wL.heap[k]? from ⟨by omega, fun k h1 h2 => (hg3.block k (by omega) (fun e => h2 (by simpa using e))).trans ((hby.out.block k (by omega)).trans (hhx.out.2 k h1 h2))⟩)
          have HO3 : Hid (∃ D : DataW Unit, Cst y ks (apsIn y ks (zs.take (j + 1))) D ∧ w3.ownsMap Tryz.prog 3 (plainElem Tryz.prog 3) (w.heap.size + 1) (j + 1) D) := ⟨_, by rw [hh.out, Ej.out]; exact HC2.out, hO3⟩
          clear hO3 hg3 hs3 hOy
          go_wp2
          go_roundg g2
          case measure => omega
          case rel => exact ⟨j + 1, by omega, by go_num, hb3, Hh3, HO3⟩
        | succ g3 =>
          have hmt : m < ks.length := by omega
          have hma : m < y.fs[ij].args.length := by have := Hal.out; omega
          have hrow : Row wL w.heap.size 36 [.slice A y.ty.sizes.length cap, .slice B y.ty.cos.length bap, .slice F y.fs.length fap] := (Row.new w _ _).below HbX.out (by simp)
          have hrow2 : wy.heap[w.heap.size]? = wL.heap[w.heap.size]? := (hby.out.block _ (by omega)).trans (hhx.out.2 _ (by omega) (by omega))
          have hrowy : Row wy w.heap.size 36 [.slice A y.ty.sizes.length cap, .slice B y.ty.cos.length bap, .slice F y.fs.length fap] := hrow.keep hrow2
          have z0 := hrowy.cell 0
          have z1 := hrowy.cell 1
          have z2 := hrowy.cell 2
          simp only [List.getElem?_cons_zero, List.getElem?_cons_succ] at z0 z1 z2
          clear hrow hrow2 hrowy
          obtain ⟨b1, o1, eK, _, hb1, e0, hki⟩ := (Hk.out.below Hbxy.out hB').at_ hmt
          obtain rfl := eK
          obtain ⟨b, off, A1, cap1, A2, cap2, rfl, hlo, hhi, _, d1, _, _, _, _, _, _, hfm⟩ := (Hf.out.below Hbxy.out hB).at_ hij
          obtain ⟨b2, o2, eA, _, hb2, e1, hai⟩ := hfm.2.2.2.2.1.at_ hma
          obtain rfl := eA
          have hijI : (ij : Int) < (y.fs.length : Int) := by omega
          have hmaI : (m : Int) < (y.fs[ij].args.length : Int) := by omega
          have K1 : Hid (wy.drew.cell? ⟨w.heap.size, 0, none⟩ = some (.slice A y.ty.sizes.length cap) ∧ wy.drew.cell? ⟨w.heap.size, 1, none⟩ = some (.slice B y.ty.cos.length bap) ∧ wy.drew.cell? ⟨w.heap.size, 2, none⟩ = some (.slice (some ⟨b, off, none⟩) y.fs.length fap) ∧ wy.drew.cell? ⟨b, off + ij * 4 + 1, none⟩ = some (.slice (some ⟨b2, o2, none⟩) y.fs[ij].args.length cap1) ∧ wy.drew.cell? ⟨b2, o2 + m, none⟩ = some (.int .i64 y.fs[ij].args[m])) := ⟨z0, z1, z2, d1, e1⟩
          have hsucc := Lib.hid (costTo_step (t := y.ty) hmt hma)
          have hct := costTo_le y.ty ks y.fs[ij].args m
          have hsl := (shortV_wf y.ty ks[m] y.fs[ij].args[m]).2
          have hsum : costTo y.ty ks y.fs[ij].args m + (shortV y.ty ks[m] y.fs[ij].args[m]).length ≤ 4611686018427387904 := by omega
          have hyB : hi ≤ wy.heap.size := by omega
          have hwy : w.heap.size < wy.heap.size := by omega
          have hbwy : b < wy.heap.size := by omega
          have hb2y : b2 < wy.heap.size := by omega
          clear hfm d1 e1 z0 z1 z2
          by_cases hc : canC y.ty ks[m] y.fs[ij].args[m] = true
          · have hall2 := Lib.hid (apTo_step hall.out hmt hma hc)
            have Hc := Lib.hid hc
            clear hc
            go_wp2_with fail
            go_region_held3 (fun w' => w'.cell? ⟨w.heap.size, 0, none⟩ = some (.slice A y.ty.sizes.length cap) ∧ w'.cell? ⟨w.heap.size, 1, none⟩ = some (.slice B y.ty.cos.length bap) ∧ w'.cell? ⟨w.heap.size, 2, none⟩ = some (.slice (some ⟨b, off, none⟩) y.fs.length fap) ∧ w'.cell? ⟨b, off + ij * 4 + 1, none⟩ = some (.slice (some ⟨b2, o2, none⟩) y.fs[ij].args.length cap1) ∧ w'.cell? ⟨b2, o2 + m, none⟩ = some (.int .i64 y.fs[ij].args[m]))
              (first | exact K1.out | exact K2.out)
              (first
                | (go_at_call 173
                   refine (implShort_any lo hi _ _ y.ty ks[m] y.fs[ij].args[m] wy.drew (HT.out.below Hbxy.out.drew hB) hyB hki hai).mono ?_
                   rintro e w8 ⟨v, rfl, hb8, hown8⟩
                   obtain ⟨V, vap, rfl⟩ := owns_form hown8
                   rw [Hc.out]
                   have K2 : Hid (w8.cell? ⟨w.heap.size, 0, none⟩ = some (.slice A y.ty.sizes.length cap) ∧ w8.cell? ⟨w.heap.size, 1, none⟩ = some (.slice B y.ty.cos.length bap) ∧ w8.cell? ⟨w.heap.size, 2, none⟩ = some (.slice (some ⟨b, off, none⟩) y.fs.length fap) ∧ w8.cell? ⟨b, off + ij * 4 + 1, none⟩ = some (.slice (some ⟨b2, o2, none⟩) y.fs[ij].args.length cap1) ∧ w8.cell? ⟨b2, o2 + m, none⟩ = some (.int .i64 y.fs[ij].args[m])) :=
                   ⟨(hb8.cell (p := ⟨w.heap.size, 0, none⟩) hwy).trans K1.out.1, (hb8.cell (p := ⟨w.heap.size, 1, none⟩) hwy).trans K1.out.2.1, (hb8.cell (p := ⟨w.heap.size, 2, none⟩) hwy).trans K1.out.2.2.1, (hb8.cell (p := ⟨b, off + ij * 4 + 1, none⟩) hbwy).trans K1.out.2.2.2.1, (hb8.cell (p := ⟨b2, o2 + m, none⟩) hb2y).trans K1.out.2.2.2.2⟩
                   have Hb8 := Lib.hid (hby.out.drew.trans (hb8.mono (B' := wx.heap.size) hsy))
                   clear hb8 hown8))
            go_wp2
            go_roundg g3
            case measure => omega
            case rel => exact ⟨m + 1, by omega, by go_num, by rw [hsucc.out, Int.natCast_add], Hb8, hall2⟩
          · have Hcf := Lib.hid (show canC y.ty ks[m] y.fs[ij].args[m] = false by simpa using hc)
            have hh := Lib.hid (apsIn_miss hlt (show ¬ ApTo y.ty ks (y.fs.getD zs[j].toNat default).args from fun h => hc (by rw [hgz.out] at h; have := h.2 m hmt; rwa [getD_of hmt, getD_of hma] at this)))
            clear hc
            go_wp2_with fail
            go_region_held3 (fun w' => w'.cell? ⟨w.heap.size, 0, none⟩ = some (.slice A y.ty.sizes.length cap) ∧ w'.cell? ⟨w.heap.size, 1, none⟩ = some (.slice B y.ty.cos.length bap) ∧ w'.cell? ⟨w.heap.size, 2, none⟩ = some (.slice (some ⟨b, off, none⟩) y.fs.length fap) ∧ w'.cell? ⟨b, off + ij * 4 + 1, none⟩ = some (.slice (some ⟨b2, o2, none⟩) y.fs[ij].args.length cap1) ∧ w'.cell? ⟨b2, o2 + m, none⟩ = some (.int .i64 y.fs[ij].args[m]))
              (first | exact K1.out | exact K2.out)
              (first
                | (go_at_call 173
                   refine (implShort_any lo hi _ _ y.ty ks[m] y.fs[ij].args[m] wy.drew (HT.out.below Hbxy.out.drew hB) hyB hki hai).mono ?_
                   rintro e w8 ⟨v, rfl, hb8, hown8⟩
                   rw [Hcf.out]
                   have K2 : Hid (w8.cell? ⟨w.heap.size, 0, none⟩ = some (.slice A y.ty.sizes.length cap) ∧ w8.cell? ⟨w.heap.size, 1, none⟩ = some (.slice B y.ty.cos.length bap) ∧ w8.cell? ⟨w.heap.size, 2, none⟩ = some (.slice (some ⟨b, off, none⟩) y.fs.length fap) ∧ w8.cell? ⟨b, off + ij * 4 + 1, none⟩ = some (.slice (some ⟨b2, o2, none⟩) y.fs[ij].args.length cap1) ∧ w8.cell? ⟨b2, o2 + m, none⟩ = some (.int .i64 y.fs[ij].args[m])) :=
                   ⟨(hb8.cell (p := ⟨w.heap.size, 0, none⟩) hwy).trans K1.out.1, (hb8.cell (p := ⟨w.heap.size, 1, none⟩) hwy).trans K1.out.2.1, (hb8.cell (p := ⟨w.heap.size, 2, none⟩) hwy).trans K1.out.2.2.1, (hb8.cell (p := ⟨b, off + ij * 4 + 1, none⟩) hbwy).trans K1.out.2.2.2.1, (hb8.cell (p := ⟨b2, o2 + m, none⟩) hb2y).trans K1.out.2.2.2.2⟩
                   have Hb8 := Lib.hid (Hbxy.out.drew.trans (hb8.mono (B' := w.heap.size) (Nat.le_of_lt hwy)))
                   have Hx8 := Lib.hid (hby.out.drew.trans (hb8.mono (B' := wx.heap.size) hsy))
                   have hs8 : wy.heap.size ≤ w8.heap.size := hb8.size
                   clear hb8 hown8))
            have Hh3 := Lib.hid (show wL.heap.size ≤ w8.heap.size ∧ ∀ k, k < wL.heap.size → k ≠ w.heap.size + 1 → w8.heap[k]? = wL.heap[k]? from ⟨by omega, fun k h1 h2 => (Hx8.out.block k (by omega)).trans (hhx.out.2 k h1 h2)⟩)
            have HO3 : Hid (∃ D : DataW Unit, Cst y ks (apsIn y ks (zs.take (j + 1))) D ∧ w8.ownsMap Tryz.prog 3 (plainElem Tryz.prog 3) (w.heap.size + 1) (j + 1) D) := by
              obtain ⟨D, hC, hO⟩ := hmx.out
              exact ⟨D, by rw [hh.out]; exact hC, (hO.kept (row := none) ⟨Hx8.out.os, Hx8.out.tape, Hx8.out.output, Hx8.out.size, fun k hk _ => Hx8.out.block k hk⟩ (by simp)).mono (by omega)⟩
            go_wp2
            go_roundg g2
            case measure => omega
            case rel => exact ⟨j + 1, by omega, by go_num, Hb8, Hh3, HO3⟩
end Go.Proofs.YtnmbjmocnafekaaGreatDoor

namespace Go.Proofs.YtnmbjmocnafekaaGreatDoor
open Go.RowKit Go.Maps Go.Sort Go.Shelf

theorem sortsIn (m : Nat) : AnyZI.SortsIn Tryz.prog sortedA_ren Fence.wide m :=
  ⟨fun blk off cap ss W hH hblk hsz => callsIn_wide.2 (AnyM.slices_Sort_int sortA blk off cap ss W hH hblk hsz),
   fun p cap W => callsIn_wide.2 (AnyM.slices_Sort_int_none sortA p cap W)⟩

theorem keys_perm {y : Sy} {ks L : List Int} {D : DataW Unit} {w : World} {b n : Nat} {R : Value → Option (DataW Unit × List MemPlace)} (hC : Cst y ks L D) (hasc : L.Pairwise (· < ·)) (hown : w.ownsMap Tryz.prog 3 R b n D) : L.Perm (intKeys D) := by
  obtain ⟨es, rfl, hp, hk⟩ := hown.entries (int_keyed Tryz.underlying3)
  obtain ⟨es', e', hk'⟩ := hown.keysOf
  injection e' with e'
  subst e'
  refine perm_intKeys hp (fun p hp' => ?_) (hasc.imp fun h => by omega) fun x => (hC.has x).symm
  obtain ⟨v, hv⟩ := hk' p hp'
  obtain ⟨x, _, h2, _⟩ := Maps.keyOf_i64 Tryz.underlying3 hv
  exact ⟨x, h2⟩

set_option maxRecDepth 100000 in
set_option maxHeartbeats 2000000 in
theorem indicesIn_any (b nn : Nat) (y : Sy) (ks L : List Int) (D : DataW Unit) (w : World) (hown : w.ownsMap Tryz.prog 3 (plainElem Tryz.prog 3) b nn D) (hC : Cst y ks L D) (hasc : L.Pairwise (· < ·)) (hnn : nn ≤ 1048576) :
    Calls Tryz.prog 151 #[.map (some b)] w fun e w' => ∃ v, e = .returned v ∧ Below w.heap.size w w' ∧ w'.ownsRow w.heap.size 3 1 v L.length (L.map (Value.int .i64)) := by
  refine (callsIn_wide (n := 6)).1 ?_
  have hbl := hown.lt
  have hsz := hown.size_le
  have hperm := keys_perm hC hasc hown
  have hmax : Maps.size D ≤ maxLen := by unfold maxLen; omega
  have hbytes : Maps.size D * 8 ≤ 140737488355328 := by omega
  have hseq : SeqGives Fence.wide 2 Tryz.prog 193 #[.pointer (some ⟨w.heap.size, 0, none⟩)] encZ (fun ss => ss.Perm (intKeys D)) (Maps.size D) (w.alloc (.cells #[.map (some b)] 245)) :=
    AnyZI.keys_gives (ρ := keysA_ren) { keysA with } Fence.wide _ trivial rfl (by omega) w.heap.size b nn D _ (by simp) (by simp) (by
      obtain ⟨es, clock, hb, Ft, hs, hD⟩ := hown
      exact ⟨es, clock, (Below.heap_alloc _ _ b hbl).trans hb, Ft, hs, hD⟩)
  have cK : ∀ mb W, CallsIn Fence.wide 5 Tryz.prog 172 #[.map mb] W fun e w' => e = .returned (.func (.func 193) #[] #[.pointer (some ⟨W.heap.size, 0, none⟩)]) ∧ w' = W.alloc (.cells #[.map mb] 245) := fun mb W => AnyZI.keys_in keysA Fence.wide 5 trivial rfl mb W
  have cS := AnyZI.sorted_in sortedA Fence.wide 5 trivial trivial trivial trivial rfl (by omega) (sortsIn _) (enters_of Tryz.func192 (by kernel_rfl) rfl) 193 #[.pointer (some ⟨w.heap.size, 0, none⟩)] trivial (enters_of Tryz.func193 (by kernel_rfl) rfl) _ _ hmax hbytes _ hseq
  change CallsIn _ _ Tryz.prog 171 _ _ _ at cS
  have hfK : Fence.wide.fn 172 := trivial
  have hfS : Fence.wide.fn 171 := trivial
  refine callsIn_of_wp Tryz.func151 rfl trivial ?_ rfl
  simp only [Tryz.ntmps151, List.size_toArray, List.length_cons, List.length_nil, Nat.reduceAdd, Nat.reduceSub, Array.replicate_succ, Array.replicate_zero, List.push_toArray, List.append_toArray, List.nil_append, List.cons_append]
  gi_wp2_with (first
    | (gi_at_call 172; refine (cK _ _).mono ?_; rintro e w' ⟨rfl, rfl⟩)
    | (gi_at_call 171; refine cS.mono ?_; rintro e w' ⟨v, ss, rfl, hS, hrow, hnil, hb⟩))
  go_ret
  have e1 : ss.mergeSort (fun x y => decide (x ≤ y)) = L := by
    rw [← sort_asc hasc]
    exact mergeSort_of_perm_i (hS.trans hperm.symm)
  have e2 : ss.length = L.length := (hS.trans hperm.symm).length_eq
  refine ⟨v, rfl, ((Below.refl _ w).alloc (Nat.le_refl _) _).trans (hb.mono (by simp)), ?_⟩
  rw [e1, e2] at hrow
  exact ownsRow_base_a hrow (by simp)
end Go.Proofs.YtnmbjmocnafekaaGreatDoor

namespace Go.Proofs.YtnmbjmocnafekaaGreatDoor
open Go.RowKit
attribute [local go_sem] Oper.semAt_some

theorem kinds_of_ap {y : Sy} {ks gs : List Int} (hs : SyOk y) (ha : ApTo y.ty ks gs) : kindsB y ks = true := by
  have : allIx ks y.ty.sizes.length = true := allIx_iff.2 fun j hj => by
    have hc := ha.2 j hj
    simp only [canC, Bool.and_eq_true] at hc
    have ht := typesB_of hc.1
    rw [getD_of hj] at ht
    exact ⟨ht.2.1, ht.2.2.1⟩
  rw [kindsB, this, syB_yes hs]
  rfl

/-- What CostOf returns. -/
def CostP (y : Sy) (i : Int) (ks : List Int) : Prop := hasFB y i = true ∧ ApTo y.ty ks (y.fs.getD i.toNat default).args
open Classical in
noncomputable def costR (y : Sy) (i : Int) (ks : List Int) : Int := if CostP y i ks then costOf y ks i else -1
theorem costR_yes {y : Sy} {i : Int} {ks : List Int} (h : CostP y i ks) : costR y i ks = costOf y ks i := by unfold costR; rw [if_pos h]
theorem costR_no {y : Sy} {i : Int} {ks : List Int} (h : ¬ CostP y i ks) : costR y i ks = -1 := by unfold costR; rw [if_neg h]

end Go.Proofs.YtnmbjmocnafekaaGreatDoor

namespace Go.Proofs.YtnmbjmocnafekaaGreatDoor
open Go.RowKit Go.Maps

set_option maxRecDepth 100000 in
set_option maxHeartbeats 4000000 in
theorem implApplic_any (lo hi lo' hi' : Nat) (sv cv fv kv : Value) (y : Sy) (nm : ByteArray) (ks : List Int) (w : World) (hv : SyAt w lo hi sv cv fv y) (hk : IntsAt w lo' hi' kv ks) (hB : hi ≤ w.heap.size) (hB' : hi' ≤ w.heap.size) (hbk : y.bulk ≤ 1048576) (hnm : nm.size ≤ maxLen) :
    Calls Tryz.prog 118 #[.agg #[sv, cv, fv], .string nm, kv] w fun e w' => ∃ v, e = .returned v ∧ Below w.heap.size w w' ∧ w'.ownsRow w.heap.size 3 1 v (applicV y nm ks).length ((applicV y nm ks).map (Value.int .i64)) := by
  obtain ⟨A, cap, rfl, hl1, hm1, hi1⟩ := hv.1.1.form
  obtain ⟨B, bap, rfl, hl2, hm2, hc1⟩ := hv.1.2.form
  obtain ⟨F, fap, rfl, hl3, hm3, hf1⟩ := hv.2.form
  obtain ⟨K, kap, rfl, hlk, hmk, hk1⟩ := hk.form
  have h3 : Below w.heap.size w (w.alloc (.cells #[.slice A y.ty.sizes.length cap, .slice B y.ty.cos.length bap, .slice F y.fs.length fap] 36)) := by go_grown
  have Hv := Lib.hid hv
  have Hk := Lib.hid hk1
  have H3 := Lib.hid h3
  have Hnm := Lib.hid hnm
  clear hi1 hc1 hf1 hk1 hk hv h3 hnm
  go_enter Tryz.func118, Tryz.ntmps118
  go_wp2_with fail
  refine (costsOfCall_any lo hi lo' hi' _ _ _ _ y nm ks _ (Hv.out.below H3.out hB) (Hk.out.below H3.out hB') (by simp; omega) (by simp; omega) hbk Hnm.out).mono ?_
  rintro e w1 ⟨b, n, D, rfl, hlb, hn, hb1, hC, hO⟩
  have Hb1 := Lib.hid (H3.out.trans (hb1.mono (by simp)))
  have HC := Lib.hid hC
  have HO := Lib.hid hO
  clear hb1 hC hO
  go_wp2_with fail
  refine (indicesIn_any b n y ks _ D _ HO.out HC.out (applicV_asc y nm ks) hn).mono ?_
  rintro e w2 ⟨v, rfl, hb2, hown⟩
  have hs1 := Hb1.out.size
  have Hb2 := Lib.hid (Hb1.out.trans (hb2.mono hs1))
  have Hown := Lib.hid (ownsRow_base (base' := w.heap.size) hown hs1)
  clear hb2 hown
  go_wp2
  go_ret
  exact ⟨_, rfl, Hb2.out, Hown.out⟩

end Go.Proofs.YtnmbjmocnafekaaGreatDoor

