/-
  The contracts of ShortestWay: the model's face, the program's.
-/
import Derived.Test.YtabipfomcldkiaaW5
namespace Go.Proofs.Ytabipfomcldkiaa
open Go.RowKit
attribute [local go_sem] Oper.semAt_some

theorem ownsRow_raise {w : World} {base base' n : Nat} {e : TypeId} {v : Value} {xs : List Value} (h : w.ownsRow base e 1 v n xs) (hb : ∀ b, v.ownBlock = some b → base' ≤ b) : w.ownsRow base' e 1 v n xs := by
  obtain ⟨h1, h2 | ⟨g, cap, cur, rfl, _, r⟩⟩ := h
  · exact ⟨h1, .inl h2⟩
  · exact ⟨h1, .inr ⟨g, cap, cur, rfl, hb g rfl, r⟩⟩
/-- The two boxes of the loop: the shortest way so far, and whether there is one. -/
structure ShIn (n0 d : Nat) (w1 : World) (s : List (List Int)) (O : Nat → Prop) (A : World) (v : Value) : Prop where
  r0 : Row A n0 23 [v]
  r1 : Row A (n0 + 1) 4 [.bool (decide (0 < s.length))]
  own : A.ownsRow n0 3 1 v ((shortO s).getD []).length (((shortO s).getD []).map (Value.int .i64))
  no : ∀ b, v.ownBlock = some b → ¬ O b
  no0 : ¬ O n0
  no1 : ¬ O (n0 + 1)
  lo : ∀ k, O k → n0 ≤ k
  nd : ∀ b, v.ownBlock = some b → b ≠ d ∧ b ≠ d + 1
  below : Below n0 w1 A

section
variable {n0 d : Nat} {w1 A : World} {s : List (List Int)} {O : Nat → Prop} {u v : Value} {zs : List Int}
theorem ShIn.later {A0 : World} (hi : ShIn n0 d w1 s O A0 u) (hb : Below A0.heap.size A0 A) : ShIn n0 d w1 s O A u :=
  ⟨hi.r0.below hb hi.r0.lt, hi.r1.below hb hi.r1.lt, ownsRow_keep1 hi.own fun b h => hb.block b (owns_lt hi.own b h).2, hi.no, hi.no0, hi.no1, hi.lo, hi.nd, hi.below.trans (hb.mono (Nat.le_of_lt hi.r0.lt))⟩
theorem ShIn.put (hi : ShIn n0 d w1 s O A u) (hz : A.ownsRow 0 3 1 v zs.length (zs.map (Value.int .i64))) (hno : ∀ b, v.ownBlock = some b → ¬ O b ∧ ¬ b < n0) (hnd : ∀ b, v.ownBlock = some b → b ≠ d ∧ b ≠ d + 1) (hsh : shortO (s ++ [zs]) = some zs) :
    ShIn n0 d w1 (s ++ [zs]) O ((A.setCell ⟨n0, 0, none⟩ v).setCell ⟨n0 + 1, 0, none⟩ (.bool true)) v := by
  have hne0 := owns_ne_row hz hi.r0 (by decide)
  have hne1 := owns_ne_row hz hi.r1 (by decide)
  refine ⟨(hi.r0.set_ 0 v).far (by dsimp only; omega) _, ?_, ?_, fun b hb => (hno b hb).1, hi.no0, hi.no1, hi.lo, hnd, (hi.below.setCell (Nat.le_refl _) _).setCell (by dsimp only; omega) _⟩
  · have h := (hi.r1.far (p := ⟨n0, 0, none⟩) (by dsimp only; omega) v).set_ 0 (.bool true)
    have e : decide (0 < (s ++ [zs]).length) = true := by simp
    rw [e]
    exact h
  · rw [hsh]
    refine ownsRow_raise (base := 0) (ownsRow_keep1 hz fun b hb => ?_) fun b hb => by have := (hno b hb).2; omega
    exact (heap_set_ne _ _ _ _ _ (fun e => hne1 (by rw [hb, e]))).trans (heap_set_ne _ _ _ _ _ (fun e => hne0 (by rw [hb, e])))
theorem ShIn.stay (hi : ShIn n0 d w1 s O A u) (hs : 0 < s.length) (hsh : shortO (s ++ [zs]) = shortO s) : ShIn n0 d w1 (s ++ [zs]) O A u := by
  refine ⟨hi.r0, ?_, by rw [hsh]; exact hi.own, hi.no, hi.no0, hi.no1, hi.lo, hi.nd, hi.below⟩
  have e : decide (0 < (s ++ [zs]).length) = decide (0 < s.length) := by rw [decide_eq_decide]; simp; omega
  rw [e]
  exact hi.r1
theorem ShIn.holds (hi : ShIn n0 d w1 s O A u) (hd : n0 + 5 ≤ d) : HoldsOn (fun k => O k ∨ k < n0 ∨ k = d ∨ k = d + 1) A ((A.setCell ⟨n0, 0, none⟩ v).setCell ⟨n0 + 1, 0, none⟩ (.bool true)) := by
  refine ⟨by simp [World.setCell], fun k hk hS => ?_⟩
  have h0 : k ≠ n0 := fun e => by subst e; rcases hS with h | h | h | h <;> first | exact hi.no0 h | omega
  have h1 : k ≠ n0 + 1 := fun e => by subst e; rcases hS with h | h | h | h <;> first | exact hi.no1 h | omega
  exact (heap_set_ne _ _ _ _ _ h1).trans (heap_set_ne _ _ _ _ _ h0)
end

set_option maxRecDepth 100000 in
set_option maxHeartbeats 4000000 in
theorem implShort_any (lo hi : Nat) (sv cv : Value) (t : Ty) (a b : Int) (w : World) (hv : TyAt w lo hi sv cv t) (hB : hi ≤ w.heap.size) (ha : I64 a) (hb : I64 b) :
    Calls Try.prog 34 #[.agg #[sv, cv], .int .i64 a, .int .i64 b] w fun e w' => ∃ v, e = .returned (.tuple #[v, .bool (canC t a b)]) ∧ Below w.heap.size w w' ∧ w'.ownsRow w.heap.size 3 1 v (shortV t a b).length ((shortV t a b).map (Value.int .i64)) := by
  obtain ⟨A, cap, rfl, hl1, hm1, hi1⟩ := hv.1.form
  obtain ⟨B, bap, rfl, hl2, hm2, hc1⟩ := hv.2.form
  have Hv := Lib.hid hv
  clear hv hi1 hc1
  have h4 : Below w.heap.size w ((w.alloc (.cells #[.slice A t.sizes.length cap, .slice B t.cos.length bap] 26)).alloc (.cells #[.int .i64 a, .int .i64 b] 3)) := by go_grown
  have hone := ints_two (w.alloc (.cells #[.slice A t.sizes.length cap, .slice B t.cos.length bap] 26)) a b ha hb 3
  rw [World.size_alloc] at hone
  have hfo := finderOf_any lo hi _ _ _ _ _ t [a, b] _ (Hv.out.below h4 hB) (by simp; omega) hone (by simp only [World.size_alloc]; omega)
  have H4 := Lib.hid h4
  clear hone
  by_cases hok : typesB t a b = true
  · have hfo2 := hfo.mono (R' := fun e w' => ∃ g, e = .returned (.tuple #[.pointer (some ⟨g, 0, none⟩), .bool true]) ∧ Below w.heap.size w w' ∧ Row w' g 84 [.slice A t.sizes.length cap, .slice B t.cos.length bap]) (fun e w' h => by
      obtain ⟨p, rfl, h1, h2⟩ := h
      rw [findOk_two, hok] at h2
      obtain ⟨g, rfl, _, h3⟩ := h2 rfl
      exact ⟨g, by rw [findOk_two, hok], h4.trans (h1.mono (by simp; omega)), h3⟩)
    have Hfo := Lib.hid hfo2
    have Htb := Lib.hid hok
    have hval := Lib.hid (shortV_yes hok)
    have hcan : Hid (canC t a b = decide (0 < (waysOf t a b).length)) := by show _ = _; unfold canC canB; rw [hok, Bool.true_and]
    clear h4 hfo hfo2 hok
    refine (callsIn_wide (n := 5)).1 ?_
    refine callsIn_of_wp_marks Try.func34 rfl trivial ?_ rfl
    simp only [Try.ntmps34, List.size_toArray, List.length_cons, List.length_nil, Nat.reduceAdd, Nat.reduceSub, Array.replicate_succ, Array.replicate_zero, List.push_toArray, List.append_toArray, List.nil_append, List.cons_append]
    gi_wp2_with (first
      | (refine ⟨trivial, ?_⟩; gi_at_call 65; refine (callsIn_wide.2 Hfo.out).mono ?_; rintro e w1 ⟨g, rfl, hb1, hrow⟩)
      | (refine ⟨trivial, ?_⟩; gi_at_call 67; refine (callsIn_wide.2 (ways_any g a b _)).mono ?_; rintro e w' ⟨rfl, rfl⟩))
    have hgl := hrow.lt
    obtain ⟨W0, hW0⟩ : ∃ u, u = ((((w1.alloc (.cells #[.slice none 0 0] 23)).alloc (.cells #[.bool false] 4)).alloc (.cells #[.pointer (some ⟨g, 0, none⟩)] 72)).alloc (.cells #[.int .i64 a] 3)).alloc (.cells #[.int .i64 b] 3) := ⟨_, rfl⟩
    rw [← hW0]
    have hs0 : W0.heap.size = w1.heap.size + 5 := by rw [hW0]; simp
    have hb0 : Below w1.heap.size w1 W0 := by rw [hW0]; go_grown
    have rs : Row W0 w1.heap.size 23 [.slice none 0 0] := by rw [hW0]; exact ((((Row.new w1 23 [.slice none 0 0]).alloc _).alloc _).alloc _).alloc _
    have rf : Row W0 (w1.heap.size + 1) 4 [.bool false] := by
      rw [hW0]
      have := Row.new (w1.alloc (.cells #[.slice none 0 0] 23)) 4 [.bool false]
      rw [World.size_alloc] at this
      exact ((this.alloc _).alloc _).alloc _
    have r3 : Row W0 (w1.heap.size + 1 + 1) 72 [.pointer (some ⟨g, 0, none⟩)] := by
      rw [hW0]
      have := Row.new ((w1.alloc (.cells #[.slice none 0 0] 23)).alloc (.cells #[.bool false] 4)) 72 [.pointer (some ⟨g, 0, none⟩)]
      rw [World.size_alloc, World.size_alloc] at this
      exact (this.alloc _).alloc _
    have r4 : Row W0 (w1.heap.size + 1 + 1 + 1) 3 [.int .i64 a] := by
      rw [hW0]
      have := Row.new (((w1.alloc (.cells #[.slice none 0 0] 23)).alloc (.cells #[.bool false] 4)).alloc (.cells #[.pointer (some ⟨g, 0, none⟩)] 72)) 3 [.int .i64 a]
      rw [World.size_alloc, World.size_alloc, World.size_alloc] at this
      exact this.alloc _
    have r5 : Row W0 (w1.heap.size + 1 + 1 + 2) 3 [.int .i64 b] := by
      rw [hW0]
      have := Row.new ((((w1.alloc (.cells #[.slice none 0 0] 23)).alloc (.cells #[.bool false] 4)).alloc (.cells #[.pointer (some ⟨g, 0, none⟩)] 72)).alloc (.cells #[.int .i64 a] 3)) 3 [.int .i64 b]
      rw [World.size_alloc, World.size_alloc, World.size_alloc, World.size_alloc] at this
      exact this
    clear hW0
    have Hb1 := Lib.hid hb1
    have Hrow := Lib.hid hrow
    have hs1 := hb1.size
    clear hb1 hrow
    refine range_law (fun v => { tmps := #[.agg #[.slice A t.sizes.length cap, .slice B t.cos.length bap], .int .i64 a, .int .i64 b, .pointer (some ⟨w.heap.size, 0, none⟩), undef, undef, .slice none 0 0, .bool false, .pointer (some ⟨g, 0, none⟩), .bool true, .pointer (some ⟨w1.heap.size, 0, none⟩), .pointer (some ⟨w1.heap.size + 1, 0, none⟩), v, .tuple #[.pointer (some ⟨g, 0, none⟩), .bool true], .agg #[.slice A t.sizes.length cap, .slice B t.cos.length bap], .int .i64 a, .int .i64 b, .slice (some ⟨w.heap.size + 1, 0, none⟩) 2 2, .tuple #[.pointer (some ⟨g, 0, none⟩), .bool true], .pointer (some ⟨g, 0, none⟩), .bool true, .bool true, .bool false, .pointer (some ⟨g, 0, none⟩), .int .i64 a, .int .i64 b, .func (.func 90) #[] #[.pointer (some ⟨w1.heap.size + 1 + 1, 0, none⟩), .pointer (some ⟨w1.heap.size + 1 + 1 + 1, 0, none⟩), .pointer (some ⟨w1.heap.size + 1 + 1 + 2, 0, none⟩)], v, undef, undef, undef, undef, undef, undef, undef, undef, undef, undef, undef, undef], defers := [] }) ?assign (gf := 90) (lb := #[.pointer (some ⟨w1.heap.size + 1 + 1, 0, none⟩), .pointer (some ⟨w1.heap.size + 1 + 1 + 1, 0, none⟩), .pointer (some ⟨w1.heap.size + 1 + 1 + 2, 0, none⟩)]) rfl (enters_of Try.func90 (by kernel_rfl) rfl)
      (fun k => k < w1.heap.size) (fun k hk => by omega) (waysOf t a b) (fun s O A => ∃ v, ShIn w1.heap.size W0.heap.size w1 s O A v) (fun _ _ _ => False) ?istep ?igive ?iput ?ixput ?iter ?start ?body ?done ?stop
    case assign =>
      intro l v W m K hK
      gi_wp2
      exact hK
    case istep =>
      rintro s O A C row ⟨v, hi⟩ hgr hrw
      have hsz := hgr.size
      have hl0 := hi.r0.lt
      have hl1 := hi.r1.lt
      refine ⟨v, hi.r0.keep (hgr.block _ hl0 (fun e => hi.no0 (hrw _ e.symm))), hi.r1.keep (hgr.block _ hl1 (fun e => hi.no1 (hrw _ e.symm))), ownsRow_keep1 hi.own fun b hb => hgr.block b (owns_lt hi.own b hb).2 (fun e => hi.no b hb (hrw _ e.symm)),
        fun b hb h => h.elim (hi.no b hb) (fun h => by have := (owns_lt hi.own b hb).2; omega), fun h => h.elim hi.no0 (fun h => by omega), fun h => h.elim hi.no1 (fun h => by omega), fun k h => h.elim (hi.lo k) (fun h => by omega), hi.nd, hi.below.grown hgr hi.below.size (fun k e => hi.lo k (hrw k e))⟩
    case igive =>
      rintro s O O' A ⟨v, hi⟩ hsub
      exact ⟨v, hi.r0, hi.r1, hi.own, fun b hb h => hi.no b hb (hsub b h), fun h => hi.no0 (hsub _ h), fun h => hi.no1 (hsub _ h), fun k h => hi.lo k (hsub k h), hi.nd, hi.below⟩
    case iput =>
      rintro s O A k o' ⟨v, hi⟩ h1 h2
      exact ⟨v, hi.r0.keep (puts_keep (by omega)), hi.r1.keep (puts_keep (by omega)), ownsRow_keep1 hi.own fun b hb => puts_keep (by have := hi.nd b hb; omega), hi.no, hi.no0, hi.no1, hi.lo, hi.nd, hi.below.grown (grownBy_putObj' A k o') hi.below.size (fun q e => by simp only [Option.some.injEq] at e; omega)⟩
    case ixput =>
      rintro c s A k o' h _ _
      exact h.elim
    case iter =>
      intro l J Jx W1 hC hb1 hJ
      have hbb := hb0.trans (hb1.mono (by omega))
      have hbw := Hb1.out.trans (hbb.mono hs1)
      exact waysIter_any l g (w1.heap.size + 1 + 1) (w1.heap.size + 1 + 1 + 1) (w1.heap.size + 1 + 1 + 2) _ J Jx t a b hC lo hi _ _ W1 Htb.out hgl (fun k _ hk => by omega) (fun k hk => by have := hbb.size; omega) (Hrow.out.below hbb hgl) (Hv.out.below hbw hB)
        ((r3.below hb1 (by omega)).cell 0) ((r4.below hb1 (by omega)).cell 0) ((r5.below hb1 (by omega)).cell 0) hJ
    case start =>
      intro W1 hb1
      exact ⟨.slice none 0 0, rs.below hb1 (by omega), rf.below hb1 (by omega), World.ownsRow_nil _ _ _ _, fun b hb => by simp [Value.ownBlock] at hb, fun h => h, fun h => h, fun k h => h.elim, fun b hb => by simp [Value.ownBlock] at hb, hb0.trans (hb1.mono (by omega))⟩
    case body =>
      rintro l s v zs O A0' A' m _ ⟨u, hi0⟩ _ hbel hz hzo0 hzw hlt
      have hi := hi0.later hbel
      have hzo : ∀ b, v.ownBlock = some b → ¬ O b ∧ ¬ b < w1.heap.size := fun b hb => (hzo0 b hb).2
      have hzd : ∀ b, v.ownBlock = some b → b ≠ W0.heap.size ∧ b ≠ W0.heap.size + 1 := fun b hb => by have := (hzo0 b hb).1; omega
      clear hi0
      obtain ⟨VA, VC, rfl⟩ := owns_form hz
      have p0 : A'.cell? ⟨w1.heap.size, 0, none⟩ = some u := hi.r0.cell 0
      have pf0 : A'.frozen? ⟨w1.heap.size, 0, none⟩ = false := hi.r0.frozen 0
      have p1 : A'.cell? ⟨w1.heap.size + 1, 0, none⟩ = some (.bool (decide (0 < s.length))) := hi.r1.cell 0
      have pf1 : A'.frozen? ⟨w1.heap.size + 1, 0, none⟩ = false := hi.r1.frozen 0
      have Hi := Lib.hid hi
      have Hz := Lib.hid hz
      by_cases hs : 0 < s.length
      · obtain ⟨y, hy⟩ := shortO_some s (by intro e; subst e; simp at hs)
        have hown := hi.own
        rw [hy] at hown
        simp only [Option.getD_some] at hown
        obtain ⟨UA, UC, rfl⟩ := owns_form hown
        have hd1 : decide (0 < s.length) = true := by simpa using hs
        rw [hd1] at p1
        by_cases hless : zs.length < y.length
        · have hput := Lib.hid (Hi.out.put Hz.out hzo hzd (by rw [shortO_snoc, hy, pickS, if_pos hless]))
          have hhold := Lib.hid (Hi.out.holds (v := .slice VA zs.length VC) (by omega))
          clear hi hz hown
          gi_wp2
          exact ⟨hhold.out, _, hput.out⟩
        · have hstay := Lib.hid (Hi.out.stay hs (by rw [shortO_snoc, hy, pickS, if_neg hless]))
          clear hi hz hown
          gi_wp2
          exact ⟨⟨Nat.le_refl _, fun _ _ _ => rfl⟩, _, hstay.out⟩
      · obtain rfl : s = [] := List.eq_nil_of_length_eq_zero (by omega)
        have hput := Lib.hid (Hi.out.put Hz.out hzo hzd rfl)
        have hhold := Lib.hid (Hi.out.holds (v := .slice VA zs.length VC) (by omega))
        have hd1 : decide (0 < ([] : List (List Int)).length) = false := rfl
        rw [hd1] at p1
        clear hi hz
        gi_wp2
        exact ⟨hhold.out, _, hput.out⟩
    case done =>
      rintro O' W' ⟨v, hi⟩ hK
      have p0 : W'.cell? ⟨w1.heap.size, 0, none⟩ = some v := hi.r0.cell 0
      have p1 : W'.cell? ⟨w1.heap.size + 1, 0, none⟩ = some (.bool (decide (0 < (waysOf t a b).length))) := hi.r1.cell 0
      rw [← hcan.out] at p1
      have HK := Lib.hid hK
      have hbw := Lib.hid (Hb1.out.trans (hi.below.mono hs1))
      have hown : W'.ownsRow w.heap.size 3 1 v (shortV t a b).length ((shortV t a b).map (Value.int .i64)) := by rw [hval.out]; exact ownsRow_base hi.own hs1
      have Hown := Lib.hid hown
      have Hnd := Lib.hid hi.nd
      clear hi hK hown
      gi_wp2
      refine wpIn_wide.2 ?_
      go_quiet (fail)
      gi_wp2
      refine ⟨by simp, .inl ⟨_, _, rfl, run_takeDeferred (w := World.drewN W' _) HK.out, ?_⟩⟩
      refine ⟨.tuple #[v, .bool (canC t a b)], by simp [results, Try.results34, go_sem], v, rfl, ?_, ?_⟩
      · exact (below_drewN hbw.out _).grown (grownBy_putObj' _ _ _) hbw.out.size (fun q e => by simp only [Option.some.injEq] at e; omega)
      · exact ownsRow_keep1 Hown.out fun b hb => puts_keep (A := World.drewN W' _) (by have := Hnd.out b hb; omega)
    case stop =>
      rintro c s' W' _ h _
      exact h.elim
  · have hokf : typesB t a b = false := by simpa using hok
    have hfo2 := hfo.mono (R' := fun e w' => ∃ p, e = .returned (.tuple #[.pointer p, .bool false]) ∧ Below w.heap.size w w') (fun e w' h => by
      obtain ⟨p, rfl, h1, _⟩ := h
      exact ⟨p, by rw [findOk_two, hokf], h4.trans (h1.mono (by simp; omega))⟩)
    have Hfo := Lib.hid hfo2
    have hno := Lib.hid (shortV_no hokf)
    have hc : Hid (canC t a b = false) := by show _ = _; unfold canC; rw [hokf, Bool.false_and]
    clear h4 hfo hfo2 hok hokf
    refine (callsIn_wide (n := 5)).1 ?_
    refine callsIn_of_wp Try.func34 rfl trivial ?_ rfl
    simp only [Try.ntmps34, List.size_toArray, List.length_cons, List.length_nil, Nat.reduceAdd, Nat.reduceSub, Array.replicate_succ, Array.replicate_zero, List.push_toArray, List.append_toArray, List.nil_append, List.cons_append]
    gi_wp2_with (refine ⟨trivial, ?_⟩; gi_at_call 65; refine (callsIn_wide.2 Hfo.out).mono ?_; rintro e w1 ⟨p, rfl, hb1⟩)
    refine bodyPost_ret (v := .tuple #[.slice none 0 0, .bool false]) (by simp [results, Try.results34, go_sem]) rfl ?_
    refine ⟨_, by rw [hc.out], hb1, ?_⟩
    rw [hno.out]
    exact World.ownsRow_nil _ _ _ _
end Go.Proofs.Ytabipfomcldkiaa

