/-
  The contracts of AppendSeq and Collect over the iterator of ways, and of the program's WaysOf.
-/
import Derived.Test.YtplpnammboofiaaJ11
namespace Go.Proofs.Ytplpnammboofiaa
open Go.RowKit
attribute [local go_sem] Oper.semAt_some

theorem wpListIn_push {F : Fence} {m : Nat} {P : Program} {w : World} {base : Nat} {e : TypeId} {v : Value} {n : Nat} {xs : List Value} {ops : Array Oper} {rest : List Oper} {o : Oper} {a : Act} {Q : Exit → Act → World → Prop} (hgd : o.guard = none) (s y : Operand) (t : TypeId)
    (hop : o.op = .call { callee := .builtin .append, args := #[s, y], argTypes := #[t, t] }) (i : TypeInfo) (z : Value) (bytes : Nat) (ht : P.underlying t = some (.slice e)) (hi : P.info? e = some i) (hz : i.zero = some z) (hsize : i.size = 1) (hby : i.bytes = bytes) (hzs : z.cells.size = 1)
    (hs : a.eval s = v) (hown : w.ownsRow base e 1 v n xs) (ad : Addr) (c : Nat) (x : Value) (hy : a.eval y = .slice (some ad) 1 c) (hx : w.cell? ad = some x) (h1 : x.oneCell' = true) (h63 : n + 1 ≤ maxLen) (hbytes : (n + 1) * bytes ≤ 140737488355328) (hbase : base ≤ w.heap.size)
    (h : ∀ v' w', Pushed w w' base e v v' n xs x → wpListIn F m P ops Q rest (a.put o.dst v') w') : wpListIn F m P ops Q (o :: rest) a w := by
  refine wpListIn_plain hgd fun K hK => ?_
  obtain ⟨v', w', hr, hp⟩ := run_push (P := P) t o.type i z bytes ht hi hz hsize hby hzs hown ad c x hx h1 h63 hbytes hbase
  unfold Oper.wpIn
  refine ⟨?_, ?_⟩
  · simp [Oper.about, hop, resolve, Target.leads, Sem.run_pure]
  · rw [Oper.semAt_plain F _ _ (by rw [hop]; intro c hc'; cases hc')]
    simp [execOp, hop, resolve, invoke, builtin, hs, hy, hr, Result.andThen]
    exact hK _ _ (h v' w' hp)

theorem SSOut.keep {w w' : World} {base base' : Nat} {v : Value} {zss : List (List Int)} (h : SSOut w base v zss) (hk : ∀ k, base ≤ k → k < w.heap.size → w'.heap[k]? = w.heap[k]?) (hs : w.heap.size ≤ w'.heap.size) (hb : base' ≤ base) : SSOut w' base' v zss := by
  obtain ⟨g, gs, xs, h1, h2, h3⟩ := h
  refine ⟨g, gs, xs, h1.keep fun k hk2 => ?_, fun h0 => by have := h2 h0; omega, fun i hi h0 => by have := h3 i hi h0; omega⟩
  rcases hk2 with ⟨rfl, h0⟩ | ⟨i, hi, h0, rfl⟩
  · exact hk _ (h2 h0).1 (h2 h0).2
  · exact hk _ (h3 i hi h0).1 (h3 i hi h0).2

set_option maxRecDepth 100000 in
set_option maxHeartbeats 4000000 in
theorem appendSeq_any (lo hi g p3 p4 p5 : Nat) (sv cv : Value) (t : Ty) (a b : Int) (w : World) (hv : TyAt w lo hi sv cv t) (hB : hi ≤ w.heap.size) (hrow : Row w g 81 [sv, cv]) (htb : typesB t a b = true)
    (r3 : Row w p3 67 [.pointer (some ⟨g, 0, none⟩)]) (r4 : Row w p4 3 [.int .i64 a]) (r5 : Row w p5 3 [.int .i64 b]) :
    Calls Try.prog 81 #[.slice none 0 0, .func (.func 82) #[] #[.pointer (some ⟨p3, 0, none⟩), .pointer (some ⟨p4, 0, none⟩), .pointer (some ⟨p5, 0, none⟩)]] w fun e w' => ∃ v, e = .returned v ∧ Below w.heap.size w w' ∧ SSOut w' w.heap.size v (waysOf t a b) := by
  obtain ⟨i1, hi1, hy0, hy1, hy2⟩ := info_parts Try.infoIntS
  have hl3 := r3.lt
  have hl4 := r4.lt
  have hl5 := r5.lt
  have hgl := hrow.lt
  have hwl := waysOf_len (typesB_of htb).1 a b
  refine (callsIn_wide (n := 5)).1 ?_
  refine callsIn_of_wp_marks Try.func81 rfl trivial ?_ rfl
  simp only [Try.ntmps81, List.size_toArray, List.length_cons, List.length_nil, Nat.reduceAdd, Nat.reduceSub, Array.replicate_succ, Array.replicate_zero, List.push_toArray, List.append_toArray, List.nil_append, List.cons_append]
  gi_wp2
  obtain ⟨W0, hW0⟩ : ∃ u, u = w.alloc (.cells #[.slice none 0 0] 41) := ⟨_, rfl⟩
  rw [← hW0]
  have hs0 : W0.heap.size = w.heap.size + 1 := by rw [hW0]; simp
  have hb0 : Below w.heap.size w W0 := by rw [hW0]; go_grown
  have rs : Row W0 w.heap.size 41 [.slice none 0 0] := by rw [hW0]; exact Row.new w _ _
  clear hW0
  refine range_law (fun v => { tmps := #[.slice none 0 0, .func (.func 82) #[] #[.pointer (some ⟨p3, 0, none⟩), .pointer (some ⟨p4, 0, none⟩), .pointer (some ⟨p5, 0, none⟩)], .pointer (some ⟨w.heap.size, 0, none⟩), undef, .slice none 0 0, v, .func (.func 82) #[] #[.pointer (some ⟨p3, 0, none⟩), .pointer (some ⟨p4, 0, none⟩), .pointer (some ⟨p5, 0, none⟩)], v, undef, undef, undef, undef, undef], defers := [] }) ?assign (gf := 82) (lb := #[.pointer (some ⟨p3, 0, none⟩), .pointer (some ⟨p4, 0, none⟩), .pointer (some ⟨p5, 0, none⟩)]) rfl (enters_of Try.func82 (by kernel_rfl) rfl)
    (fun k => k < w.heap.size) (fun k hk => by omega) (waysOf t a b) (fun s O A => ∃ v xs, CIn w.heap.size W0.heap.size w s O A v xs) (fun _ _ _ => False) ?istep ?igive ?iput ?ixput ?iter ?start ?body ?done ?stop
  case assign =>
    intro l v W m K hK
    gi_wp2
    exact hK
  case istep =>
    rintro s O A C row ⟨v, xs, hc⟩ hgr hrw
    have hsz := hgr.size
    exact ⟨v, xs, hc.move (fun k hk => hk.elim (fun h => ⟨.inl h, by have := hc.hi k h; omega⟩) (fun h => ⟨.inr h.1, h.2⟩)) (fun k hk hn _ _ => hgr.block k hk (fun e => hn (hrw k e.symm))) (by omega) (hc.below.grown hgr hc.below.size (fun k e => hc.lo k (hrw k e)))⟩
  case igive =>
    rintro s O O' A ⟨v, xs, hc⟩ hsub
    exact ⟨v, xs, hc.move (fun k hk => ⟨.inl (hsub k hk), hc.hi k (hsub k hk)⟩) (fun k _ _ _ _ => rfl) (by omega) hc.below⟩
  case iput =>
    rintro s O A k o' ⟨v, xs, hc⟩ h1 h2
    exact ⟨v, xs, hc.move (fun q hq => ⟨.inl hq, by have := hc.hi q hq; simpa using this⟩) (fun q _ _ h3 h4 => puts_keep (by omega)) (by omega) (hc.below.grown (grownBy_putObj' A k o') hc.below.size (fun q e => by simp only [Option.some.injEq] at e; omega))⟩
  case ixput =>
    rintro c s A k o' h _ _
    exact h.elim
  case iter =>
    intro l J Jx W1 hC hb1 hJ
    have hbb := hb0.trans (hb1.mono (by omega))
    exact waysIter_any l g p3 p4 p5 _ J Jx t a b hC lo hi _ _ W1 htb hgl (fun k _ hk => by omega) (fun k hk => by have := hbb.size; omega) (hrow.below hbb hgl) (hv.below hbb hB)
      ((r3.below hbb hl3).cell 0) ((r4.below hbb hl4).cell 0) ((r5.below hbb hl5).cell 0) hJ
  case start =>
    intro W1 hb1
    exact ⟨.slice none 0 0, [], rs.below hb1 (by omega), World.ownsRow_nil _ _ _ _, fun i h => absurd h (by simp), fun i j x y hx => by simp at hx, fun b hb => by simp [Value.ownBlock] at hb, fun h => h, fun k h => h.elim, fun k h => h.elim, hb0.trans (hb1.mono (by omega))⟩
  case body =>
    rintro l s v zs O A0 A m _ ⟨u, xs, hc0⟩ hlen hbel hz hzo hzw hlt
    have hs1 := hbel.size
    have hl0 := hc0.r0.lt
    obtain ⟨VA, VC, rfl⟩ := owns_form hz
    obtain ⟨UA, UC, rfl⟩ := owns_form hc0.out
    have rA := hc0.r0.below hbel hl0
    have p0 : A.cell? ⟨w.heap.size, 0, none⟩ = some (.slice UA s.length UC) := rA.cell 0
    have hoA : (A.alloc (.cells #[.slice VA zs.length VC] 23)).ownsRow w.heap.size 23 1 (.slice UA s.length UC) s.length xs := ownsRow_keep1 hc0.out fun b hb => (Below.heap_alloc A _ b (by have := (owns_lt hc0.out b hb).2; omega)).trans (hbel.block b (owns_lt hc0.out b hb).2)
    have HoA := Lib.hid hoA
    have hvl := Lib.hid (owns_lt hc0.out)
    have hvne := owns_ne_row hc0.out hc0.r0 (by decide)
    have hsl := hc0.out.1
    clear hoA
    gi_wp2_with (gi_at_builtin; refine wpListIn_push rfl (.tmp 8) (.tmp 10) 41 rfl i1 (.slice none 0 0) 24 Try.underlying41 hi1 hy0 hy1 hy2 rfl rfl HoA.out ⟨A.heap.size, 0, none⟩ 1 (.slice VA zs.length VC) rfl (by simp [go_sem]) rfl (by unfold maxLen; omega) (by omega) (by simp; omega) ?_)
    intro v' A3 hp
    obtain ⟨g3, cap3, rfl⟩ := hp.form
    have hpush := hc0.push (by omega) (by omega) hbel hz hzo ((Below.refl _ A).alloc (Nat.le_refl _) (.cells #[.slice VA zs.length VC] 23)) hp
    have hr3 := (rA.alloc (.cells #[.slice VA zs.length VC] 23)).keep (hp.grown.block w.heap.size (by simp; omega) (fun e => hvne e.symm))
    have p3 : A3.cell? ⟨w.heap.size, 0, none⟩ = some (.slice UA s.length UC) := hr3.cell 0
    have pf3 : A3.frozen? ⟨w.heap.size, 0, none⟩ = false := hr3.frozen 0
    have Hpush := Lib.hid hpush
    clear hpush hr3 hp hc0 hz rA
    gi_wp2
    exact ⟨Hpush.out.2, _, _, Hpush.out.1⟩
  case done =>
    rintro O' W' ⟨v, xs, hc⟩ hK
    have p0 : W'.cell? ⟨w.heap.size, 0, none⟩ = some v := hc.r0.cell 0
    have hout := Lib.hid (hc.move (C := W'.putObj W0.heap.size (.deferred none)) (O' := O') (fun q hq => ⟨.inl hq, by have := hc.hi q hq; simpa using this⟩) (fun q _ _ h3 h4 => puts_keep (by omega)) (by omega) (hc.below.grown (grownBy_putObj' W' _ _) hc.below.size (fun q e => by simp only [Option.some.injEq] at e; omega))).owned
    have HK := Lib.hid hK
    have Hb := Lib.hid hc.below
    clear hc hK
    gi_wp2
    refine ⟨by simp, .inl ⟨_, _, rfl, run_takeDeferred HK.out, ?_⟩⟩
    exact ⟨_, results_tmp rfl _ _ _, v, rfl, Hb.out.grown (grownBy_putObj' W' _ _) Hb.out.size (fun q e => by simp only [Option.some.injEq] at e; omega), hout.out⟩
  case stop =>
    rintro c s' W' _ h _
    exact h.elim

set_option maxRecDepth 100000 in
set_option maxHeartbeats 1000000 in
theorem collect_any (lo hi g p3 p4 p5 : Nat) (sv cv : Value) (t : Ty) (a b : Int) (w : World) (hv : TyAt w lo hi sv cv t) (hB : hi ≤ w.heap.size) (hrow : Row w g 81 [sv, cv]) (htb : typesB t a b = true)
    (r3 : Row w p3 67 [.pointer (some ⟨g, 0, none⟩)]) (r4 : Row w p4 3 [.int .i64 a]) (r5 : Row w p5 3 [.int .i64 b]) :
    Calls Try.prog 51 #[.func (.func 82) #[] #[.pointer (some ⟨p3, 0, none⟩), .pointer (some ⟨p4, 0, none⟩), .pointer (some ⟨p5, 0, none⟩)]] w fun e w' => ∃ v, e = .returned v ∧ Below w.heap.size w w' ∧ SSOut w' w.heap.size v (waysOf t a b) := by
  have Hc := Lib.hid (appendSeq_any lo hi g p3 p4 p5 sv cv t a b w hv hB hrow htb r3 r4 r5)
  clear hv hrow htb r3 r4 r5
  go_enter Try.func51, Try.ntmps51
  go_wp2_with fail
  refine Hc.out.mono ?_
  rintro e w1 ⟨v, rfl, hb1, ho1⟩
  have Hb1 := Lib.hid hb1
  have Ho1 := Lib.hid ho1
  clear hb1 ho1 Hc
  go_wp2
  go_ret
  exact ⟨_, rfl, Hb1.out, Ho1.out⟩

/-- What WaysOf answers. -/
def waysV (t : Ty) (a b : Int) : List (List Int) := if typesB t a b = true then waysOf t a b else []
theorem waysV_yes {t : Ty} {a b : Int} (h : typesB t a b = true) : waysV t a b = waysOf t a b := by unfold waysV; rw [if_pos h]
theorem waysV_no {t : Ty} {a b : Int} (h : typesB t a b = false) : waysV t a b = [] := by unfold waysV; rw [if_neg (by simp [h])]
theorem SSOut.nil (w : World) (base : Nat) : SSOut w base (.slice none 0 0) [] :=
  ⟨0, fun _ => 0, [], ⟨⟨none, 0, rfl, Nat.le_refl _, Nat.zero_le _, fun _ => rfl, fun h => absurd h (by simp)⟩, fun i h => absurd h (by simp), fun i j h => absurd h (by simp)⟩, fun h => absurd h (by simp), fun i h => absurd h (by simp)⟩

set_option maxRecDepth 100000 in
set_option maxHeartbeats 2000000 in
theorem implWays_any (lo hi : Nat) (sv cv : Value) (t : Ty) (a b : Int) (w : World) (hv : TyAt w lo hi sv cv t) (hB : hi ≤ w.heap.size) (ha : I64 a) (hb : I64 b) :
    Calls Try.prog 16 #[.agg #[sv, cv], .int .i64 a, .int .i64 b] w fun e w' => ∃ v, e = .returned (.tuple #[v, .bool (typesB t a b)]) ∧ Below w.heap.size w w' ∧ SSOut w' w.heap.size v (waysV t a b) := by
  obtain ⟨A, cap, rfl, hl1, hm1, hi1⟩ := hv.1.form
  obtain ⟨B, bap, rfl, hl2, hm2, hc1⟩ := hv.2.form
  have Hv := Lib.hid hv
  clear hv hi1 hc1
  have h4 : Below w.heap.size w ((w.alloc (.cells #[.slice A t.sizes.length cap, .slice B t.cos.length bap] 26)).alloc (.cells #[.int .i64 a, .int .i64 b] 3)) := by go_grown
  have hone := ints_two (w.alloc (.cells #[.slice A t.sizes.length cap, .slice B t.cos.length bap] 26)) a b ha hb 3
  rw [World.size_alloc] at hone
  have H4 := Lib.hid h4
  have Hone := Lib.hid hone
  clear h4 hone
  go_enter Try.func16, Try.ntmps16
  go_wp2_with fail
  refine (finderOf_any lo hi _ _ _ _ _ t [a, b] _ (Hv.out.below H4.out hB) (by simp; omega) Hone.out (by simp only [World.size_alloc]; omega)).mono ?_
  rintro e w1 ⟨p, rfl, hb1, hf1⟩
  rw [findOk_two] at hf1 ⊢
  have H1 := Lib.hid (H4.out.trans (hb1.mono (by simp; omega)))
  have hs1 : w.heap.size ≤ w1.heap.size := H1.out.size
  clear hb1
  by_cases hok : typesB t a b = true
  · obtain ⟨g, rfl, hg, hrow⟩ := hf1 hok
    have hgl := hrow.lt
    have Hrow := Lib.hid hrow
    have Hok := Lib.hid hok
    have hfin := Lib.hid (waysV_yes hok)
    rw [hok]
    clear hrow hok
    go_wp2_with fail
    refine (ways_any g a b _).mono ?_
    rintro e w' ⟨rfl, rfl⟩
    obtain ⟨w2, hw2⟩ : ∃ u, u = ((w1.alloc (.cells #[.pointer (some ⟨g, 0, none⟩)] 67)).alloc (.cells #[.int .i64 a] 3)).alloc (.cells #[.int .i64 b] 3) := ⟨_, rfl⟩
    rw [← hw2]
    have hb2 : Below w1.heap.size w1 w2 := by rw [hw2]; go_grown
    have r3 : Row w2 w1.heap.size 67 [.pointer (some ⟨g, 0, none⟩)] := by rw [hw2]; exact ((Row.new w1 67 [.pointer (some ⟨g, 0, none⟩)]).alloc _).alloc _
    have r4 : Row w2 (w1.heap.size + 1) 3 [.int .i64 a] := by
      rw [hw2]
      have := Row.new (w1.alloc (.cells #[.pointer (some ⟨g, 0, none⟩)] 67)) 3 [.int .i64 a]
      rw [World.size_alloc] at this
      exact this.alloc _
    have r5 : Row w2 (w1.heap.size + 2) 3 [.int .i64 b] := by
      rw [hw2]
      have := Row.new ((w1.alloc (.cells #[.pointer (some ⟨g, 0, none⟩)] 67)).alloc (.cells #[.int .i64 a] 3)) 3 [.int .i64 b]
      rw [World.size_alloc, World.size_alloc] at this
      exact this
    have hs2 := hb2.size
    have Hcol := Lib.hid (collect_any lo hi g w1.heap.size (w1.heap.size + 1) (w1.heap.size + 2) _ _ t a b w2 (Hv.out.below (H1.out.trans (hb2.mono hs1)) hB) (by omega) (Hrow.out.below hb2 hgl) Hok.out r3 r4 r5)
    have Hb2 := Lib.hid (H1.out.trans (hb2.mono hs1))
    clear hw2 hb2 r3 r4 r5
    go_wp2_with fail
    refine Hcol.out.mono ?_
    rintro e w3 ⟨v, rfl, hb3, ho3⟩
    have Hb3 := Lib.hid (Hb2.out.trans (hb3.mono (by omega)))
    have Ho3 := Lib.hid (ho3.keep (w' := w3) (base' := w.heap.size) (fun _ _ _ => rfl) (Nat.le_refl _) (by omega))
    clear hb3 ho3 Hcol
    go_wp2
    refine bodyPost_ret (v := .tuple #[v, .bool true]) (by simp [results, Try.results16, go_sem]) rfl ?_
    exact ⟨v, by rw [Hok.out], Hb3.out, by rw [hfin.out]; exact Ho3.out⟩
  · have hokf : typesB t a b = false := by simpa using hok
    have hno := Lib.hid (waysV_no hokf)
    have Hokf := Lib.hid hokf
    rw [hokf]
    clear hok hokf hf1
    go_wp2
    refine bodyPost_ret (v := .tuple #[.slice none 0 0, .bool false]) (by simp [results, Try.results16, go_sem]) rfl ?_
    exact ⟨_, by rw [Hokf.out], H1.out, by rw [hno.out]; exact SSOut.nil _ _⟩
end Go.Proofs.Ytplpnammboofiaa

