/-
  The contracts of the model's functions that copy a coercion, and a list of them, and types.
  The contract of the model's function that copies types.
  The contract of the model's function that copies types.
  append to an empty list of all coercions of another one, as a step of a region that draws its order.
-/
import Derived.Test.YtplpnammboofiaaJ2
namespace Go.Proofs.Ytplpnammboofiaa
open Go.RowKit

theorem grown_cell {w w' : World} {g : Nat} (h : w.grownBy w' (some g)) (b o : Nat) (hb : b < w.heap.size) (hne : b ≠ g) : w'.cell? ⟨b, o, none⟩ = w.cell? ⟨b, o, none⟩ :=
  World.cell?_of_block (a := ⟨b, o, none⟩) (h.block b hb (fun e => hne (by injection e)))
theorem grown_frozen {w w' : World} {g : Nat} (h : w.grownBy w' (some g)) (b o : Nat) (hb : b < w.heap.size) (hne : b ≠ g) : w'.frozen? ⟨b, o, none⟩ = w.frozen? ⟨b, o, none⟩ :=
  World.frozen?_of_block (a := ⟨b, o, none⟩) (h.block b hb (fun e => hne (by injection e)))
theorem run_append_owned_none' {P : Program} {w : World} (base : Nat) (t ty e : TypeId) (i : TypeInfo) (size : Nat) (ht : P.underlying t = some (.slice e)) (hi : P.info? e = some i)
    (v : Value) (n : Nat) (xs : List Value) (c : Nat) (hown : w.ownsRow base e size v n xs) :
    (Builtin.append_ #[t, t] ty #[v, .slice none 0 c]).run P w = .ok v w := by
  rcases hown.2 with ⟨rfl, rfl⟩ | ⟨g, cap, cur, rfl, _, _, hnc, _⟩
  · simp [Builtin.append_, run_underlying ht, sizeOf, typeInfo, hi, Builtin.lenOf, Builtin.firstCells]
  · simp [Builtin.append_, run_underlying ht, sizeOf, typeInfo, hi, Builtin.lenOf, Builtin.firstCells, hnc, storeCells]
theorem wpList_append_own_none' {P : Program} {w : World} {ops : Array Oper} {rest : List Oper} {o : Oper} {a : Act} {Q : Exit → Act → World → Prop} (hgd : o.guard = none) (s x : Operand) (t : TypeId)
    (ho : o.op = .call { callee := .builtin .append, args := #[s, x], argTypes := #[t, t] })
    (base : Nat) (e : TypeId) (i : TypeInfo) (size : Nat) (ht : P.underlying t = some (.slice e)) (hi : P.info? e = some i)
    (v : Value) (n : Nat) (xs : List Value) (c : Nat) (hs : a.eval s = v) (hown : w.ownsRow base e size v n xs) (hx : a.eval x = .slice none 0 c)
    (h : wpList P ops Q rest (a.put o.dst v) w) : wpList P ops Q (o :: rest) a w := by
  refine wpList_plain hgd fun K hK => ?_
  have hrun := run_append_owned_none' (P := P) (w := w) base t o.type e i size ht hi v n xs c hown
  unfold Oper.wp
  simp [execOp, ho, resolve, invoke, builtin, hs, hx, hrun, Result.andThen]
  exact hK _ _ h

set_option maxRecDepth 100000 in
set_option maxHeartbeats 1000000 in
theorem ownCo_any (lo hi : Nat) (x y z : Value) (c : Co) (w : World) (hv : CoAt w lo hi x y z c) (hB : hi ≤ w.heap.size) (hlen : c.map.length ≤ 1048576) :
    Calls Try.prog 77 #[.agg #[x, y, z]] w (Copied w.heap.size c w) := by
  obtain ⟨rfl, rfl, hs, hd, hz⟩ := hv
  obtain ⟨A, cap, rfl, hl, hm, hz⟩ := hz.form
  obtain ⟨i0, hi0, hz0, hz1, hz2⟩ := info_parts Try.infoInt
  have h3 : Below w.heap.size w (((w.alloc (.cells #[.int .i64 c.src, .int .i64 c.dst, .slice A c.map.length cap] 28)).alloc (.cells #[.int .i64 0, .int .i64 0, .slice none 0 0] 28)).alloc (.cells #[] 3)) := by go_grown
  have hw2 : (((w.alloc (.cells #[.int .i64 c.src, .int .i64 c.dst, .slice A c.map.length cap] 28)).alloc (.cells #[.int .i64 0, .int .i64 0, .slice none 0 0] 28)).heap.size) = w.heap.size + 1 + 1 := by simp
  have h0 := World.ownsRow_lit (base := w.heap.size + 1 + 1) (e := 3) (size := 1) ((w.alloc (.cells #[.int .i64 c.src, .int .i64 c.dst, .slice A c.map.length cap] 28)).alloc (.cells #[.int .i64 0, .int .i64 0, .slice none 0 0] 28)) #[] 0 (by rw [hw2]; exact Nat.le_refl _) (by unfold maxLen; omega) rfl
  rw [hw2] at h0
  have H0 := Lib.hid h0
  have Hz := Lib.hid (hz.below h3 hB)
  have H3 := Lib.hid h3
  clear h0 hz h3 hw2
  rcases A with _ | ad
  · have hn : c.map = [] := by
      rcases hc : c.map with _ | ⟨z, zs⟩
      · rfl
      · obtain ⟨b, off, e, _⟩ := Hz.out.at_ (k := 0) (by rw [hc]; simp)
        cases e
    have hn' : c.map.length = 0 := by rw [hn]; rfl
    rw [hn'] at Hz ⊢
    go_enter Try.func77, Try.ntmps77
    go_wp2
    refine bodyPost_ret (v := .agg #[.int .i64 c.src, .int .i64 c.dst, .slice (some ⟨w.heap.size + 1 + 1, 0, none⟩) 0 0]) (by simp [results, Try.results77, go_sem]) rfl ?_
    refine ⟨_, rfl, by go_grown, ?_⟩
    have h1 := World.ownsRow_lit (base := w.heap.size) (e := 3) (size := 1) ((w.alloc (.cells #[.int .i64 c.src, .int .i64 c.dst, .slice (some ⟨w.heap.size + 1 + 1, 0, none⟩) 0 0] 28)).alloc (.cells #[.int .i64 c.src, .int .i64 c.dst, .slice (some ⟨w.heap.size + 1 + 1, 0, none⟩) 0 0] 28)) #[] 0 (by simp; omega) (by unfold maxLen; omega) rfl
    rw [hn]
    simpa using h1
  · have Hc := Lib.hid Hz.out.cells
    go_enter Try.func77, Try.ntmps77
    go_wp2_with (at_builtin; refine wpList_append_own _ rfl (.tmp 3) (.tmp 5) 23 rfl (w.heap.size + 1 + 1) 3 i0 (.int .i64 0) 1 8 Try.underlying23 hi0 hz0 hz1 hz2 rfl (by decide) _ _ _ rfl H0.out ad c.map.length cap (c.map.map (Value.int .i64)) rfl (by simp) Hc.out (ints_oneCell' c.map) (by unfold maxLen; omega) (by omega) (by simp) ?_; intro v' w2 hown2 hgrow _; obtain ⟨VA, VC, rfl⟩ := owns_form hown2; have hb := H3.out.grown hgrow (by simp; omega) (fun k hk => (by have h : (some (w.heap.size + 1 + 1) : Option Nat) = some k := hk; injection h with h; omega)); have hs2 := hgrow.size; simp only [World.size_alloc] at hs2; have hgrow' : World.grownBy _ w2 (some (w.heap.size + 1 + 1)) := hgrow; have e0 := grown_cell hgrow' w.heap.size 0 (by simp; omega) (by omega); have e1 := grown_cell hgrow' w.heap.size 1 (by simp; omega) (by omega); have e2 := grown_cell hgrow' w.heap.size 2 (by simp; omega) (by omega); have d0 := grown_cell hgrow' (w.heap.size + 1) 0 (by simp) (by omega); have d1 := grown_cell hgrow' (w.heap.size + 1) 1 (by simp) (by omega); have d2 := grown_cell hgrow' (w.heap.size + 1) 2 (by simp) (by omega); have f2 := grown_frozen hgrow' w.heap.size 2 (by simp; omega) (by omega); have k0 := grown_frozen hgrow' (w.heap.size + 1) 0 (by simp) (by omega); have k1 := grown_frozen hgrow' (w.heap.size + 1) 1 (by simp) (by omega); have k2 := grown_frozen hgrow' (w.heap.size + 1) 2 (by simp) (by omega); simp [go_sem] at e0 e1 e2 d0 d1 d2 f2 k0 k1 k2; have e2' : ∀ u, (w2.setCell ⟨w.heap.size, 2, none⟩ u).cell? ⟨w.heap.size, 2, none⟩ = some u := (fun u => World.cell?_setCell_same _ _ _ e2); have Hown2 := Lib.hid hown2; have Hb := Lib.hid hb; clear hown2 hgrow hgrow' hb)
    refine bodyPost_ret (v := .agg #[.int .i64 c.src, .int .i64 c.dst, .slice VA c.map.length VC]) (by simp [results, Try.results77, go_sem, d0, d1, d2]) rfl ?_
    refine ⟨_, rfl, ?_, ?_⟩
    · exact (((Hb.out.setCell (by dsimp only; omega) _).setCell (by dsimp only; omega) _).setCell (by dsimp only; omega) _).setCell (by dsimp only; omega) _
    · have ho : w2.ownsRow (w.heap.size + 1 + 1) 3 1 (.slice VA c.map.length VC) c.map.length (c.map.map (Value.int .i64)) := by simpa using Hown2.out
      exact ownsRow_lower (ownsRow_keep ho fun g hg hgl => (Below.heap_setCell _ _ _ _ (by dsimp only; omega)).trans ((Below.heap_setCell _ _ _ _ (by dsimp only; omega)).trans ((Below.heap_setCell _ _ _ _ (by dsimp only; omega)).trans (Below.heap_setCell _ _ _ _ (by dsimp only; omega))))) (by omega)

theorem CosOwned.lit (w : World) (base : Nat) (f : Nat → Co) (hb : base ≤ w.heap.size) : CosOwned (w.alloc (.cells #[] 28)) base (.slice (some ⟨w.heap.size, 0, none⟩) 0 0) f 0 :=
  ⟨[], fun _ => 0, fun _ => .slice none 0 0, World.ownsRow_lit w #[] 0 hb (by unfold maxLen; omega) rfl, fun i hi => absurd hi (by omega), fun i hi => absurd hi (by omega), fun i hi => absurd hi (by omega)⟩

set_option maxRecDepth 100000 in
set_option maxHeartbeats 2000000 in
theorem ownList_any (lo hi : Nat) (v : Value) (cs : List Co) (w : World) (hv : CosAt w lo hi v cs) (hB : hi ≤ w.heap.size) (hn : cs.length ≤ 1048576) (hmaps : ∀ j, ∀ (hj : j < cs.length), cs[j].map.length ≤ 1048576) :
    Calls Try.prog 78 #[v] w fun e w' => ∃ l, e = .returned l ∧ Below w.heap.size w w' ∧ CosOwned w' w.heap.size l (fun i => cs.getD i default) cs.length := by
  obtain ⟨B, bap, rfl, hl2, hm2, hc1⟩ := hv.form
  unfold maxLen at hm2
  obtain ⟨i0, hi0, hz0, hz1, hz2⟩ := info_parts infoCoercionW
  have hl3 := Lib.hid hmaps
  have Hc1 := Lib.hid hc1
  clear hv hc1 hmaps
  go_enter Try.func78, Try.ntmps78
  go_wp2
  go_loopw [3, 9] (fun l i wr => ∃ (j : Nat), j ≤ cs.length ∧ i = .int .i64 j ∧ Hid (Below w.heap.size w wr) ∧ Hid (CosOwned wr w.heap.size l (fun i => cs.getD i default) j)) (fun _ i _ => cs.length - (intOf i).toNat)
  case atStart => exact ⟨0, Nat.zero_le _, rfl, Lib.hid ((Below.refl _ _).alloc (Nat.le_refl _) _), CosOwned.lit _ _ _ (Nat.le_refl _)⟩
  case round =>
    obtain ⟨j, hj, rfl, hb, hown⟩ := hrel
    by_cases hlt : j < cs.length
    · obtain ⟨b, off, A2, cap2, rfl, hlo, hhi, c0, c1, c2, h5, h6, hs, hd, hz2'⟩ := (Hc1.out.below hb.out hB).at_ hlt
      have hmap := hl3.out j hlt
      obtain ⟨xs, m, mv, how, hmo⟩ := hown.out
      obtain ⟨LA, LC, rfl⟩ := owns_form how
      have How := Lib.hid how
      have Hmo := Lib.hid hmo
      have hbs := hb.out.size
      have hdraw : Below hi wr (wr.alloc (.cells #[.int .i64 cs[j].src, .int .i64 cs[j].dst, .slice A2 cs[j].map.length cap2] 28)) := (Below.refl _ _).alloc (by omega) _
      have Hz3 := Lib.hid (hz2'.below hdraw (Nat.le_refl _))
      clear how hmo hz2' hdraw
      go_wp2_with fail
      refine (ownCo_any lo hi _ _ _ cs[j] _ ⟨rfl, rfl, hs, hd, Hz3.out⟩ (by simp; omega) hmap).mono ?_
      rintro e w2 ⟨v2, rfl, hb2, hown2⟩
      obtain ⟨VA2, VC2, rfl⟩ := owns_form hown2
      have hsz2 : wr.heap.size + 1 ≤ w2.heap.size := by simpa using hb2.size
      have H2 := Lib.hid (ownsRow_keep How.out fun g hg hgl => (hb2.block g (by (try simp); (try omega))).trans (Below.heap_alloc wr _ g hgl))
      have hq : Below wr.heap.size _ w2 := hb2.mono (by (try simp); (try omega))
      have hb12 : Below wr.heap.size wr w2 := ((Below.refl _ wr).alloc (Nat.le_refl _) (.cells #[.int .i64 cs[j].src, .int .i64 cs[j].dst, .slice A2 cs[j].map.length cap2] 28)).trans hq
      have ho2 := Lib.hid (ownsRow_lower (base' := wr.heap.size) hown2 (by (try simp); (try omega)))
      have Hb12 := Lib.hid hb12
      clear hb2 hown2 hq hb12
      go_wp2_with (at_builtin; refine wpList_append_lies _ rfl (.tmp 13) (.tmp 16) 24 rfl w.heap.size 28 i0 _ 3 40 Try.underlying24 hi0 hz0 hz1 hz2 rfl (by omega) (.slice LA j LC) j xs rfl (H2.out.alloc _) ⟨w2.heap.size, 0, none⟩ 1 1 [.int .i64 cs[j].src, .int .i64 cs[j].dst, .slice VA2 cs[j].map.length VC2] rfl rfl (World.news_of_block (cs := #[.int .i64 cs[j].src, .int .i64 cs[j].dst, .slice VA2 cs[j].map.length VC2]) (t := 28) (fr := (0, 0)) (heap_alloc_new w2 _)) (by simp [Value.oneCell']) (by omega) (by unfold maxLen; omega) (by omega) (by (try simp); (try omega)) (w2.heap.size + 1) (by simp) ?_; intro g' cap3 w3 hown3 hgrow hat hlt3; have Hown3 := Lib.hid hown3; have Hgrow := Lib.hid hgrow; have Hat := Lib.hid hat; clear hown3 hgrow hat)
      have hpush := CosOwned.push (w2 := w2) Hmo.out How.out (by omega) (show cs.getD j default = cs[j] by rw [List.getD_eq_getElem?_getD, List.getElem?_eq_getElem hlt]; rfl) Hb12.out ho2.out Hgrow.out Hat.out Hown3.out
      have hb13 : Below w.heap.size w w3 := ((hb.out.trans (Hb12.out.mono (by omega))).alloc (by omega) _).grown Hgrow.out (by (try simp); (try omega)) (fun k hk => by have := (owns_lt How.out k hk).1; omega)
      have Hpush := Lib.hid hpush
      have Hb13 := Lib.hid hb13
      clear hpush hb13
      go_roundw
      case rel => exact ⟨j + 1, by omega, by go_num, Hb13, Hpush⟩
      case measure => simp [intOf]; omega
    · obtain rfl : j = cs.length := by omega
      go_wp2
      go_ret
      exact ⟨_, rfl, hb.out, hown.out⟩
end Go.Proofs.Ytplpnammboofiaa

namespace Go.Proofs.Ytplpnammboofiaa
open Go.RowKit

theorem wpList_append_ints {w : World} {ops : Array Oper} {rest : List Oper} {o : Oper} {a : Act} {Q : Exit → Act → World → Prop} (hgd : o.guard = none) (s x : Operand)
    (ho : o.op = .call { callee := .builtin .append, args := #[s, x], argTypes := #[23, 23] })
    (base : Nat) (v : Value) (n : Nat) (xs : List Value) (hs : a.eval s = v) (hown : w.ownsRow base 3 1 v n xs) (lo hi : Nat) (A : Option Addr) (m c : Nat) (zs : List Int) (hx : a.eval x = .slice A m c)
    (hz : IntsAt w lo hi (.slice A m c) zs) (hm : zs.length = m) (h63 : n + m ≤ 2097152) (hbase : base ≤ w.heap.size)
    (h : ∀ VA VC w', w'.ownsRow base 3 1 (.slice VA (n + m) VC) (n + m) (xs ++ zs.map (Value.int .i64)) → w.grownBy w' v.ownBlock → wpList Try.prog ops Q rest (a.put o.dst (.slice VA (n + m) VC)) w') : wpList Try.prog ops Q (o :: rest) a w := by
  obtain ⟨i0, hi0, hz0, hz1, hz2⟩ := info_parts Try.infoInt
  subst hm
  rcases A with _ | ad
  · have hn : zs = [] := by
      rcases zs with _ | ⟨z, zs⟩
      · rfl
      · obtain ⟨b, off, e, _⟩ := hz.at_ (k := 0) (by simp)
        cases e
    subst hn
    obtain ⟨VA, VC, rfl⟩ := owns_form hown
    refine wpList_append_own_none' hgd s x 23 ho base 3 i0 1 Try.underlying23 hi0 _ _ _ c hs hown hx ?_
    have := h VA VC w (by simpa using hown) ⟨rfl, rfl, rfl, Nat.le_refl _, fun _ _ _ => rfl⟩
    simpa using this
  · refine wpList_append_own _ hgd s x 23 ho base 3 i0 (.int .i64 0) 1 8 Try.underlying23 hi0 hz0 hz1 hz2 rfl (by decide) _ _ _ hs hown ad zs.length c (zs.map (Value.int .i64)) hx (by simp) hz.cells (ints_oneCell' zs) (by unfold maxLen; omega) (by omega) hbase ?_
    intro v' w2 hown2 hgrow _
    obtain ⟨VA, VC, rfl⟩ := owns_form hown2
    exact h VA VC w2 hown2 hgrow

theorem ownsRow.intsAt {w : World} {base : Nat} {v : Value} {zs : List Int} (h : w.ownsRow base 3 1 v zs.length (zs.map (Value.int .i64))) (hw : ∀ z ∈ zs, I64 z) {lo hi : Nat} (hlo : lo ≤ base) (hhi : w.heap.size ≤ hi) : IntsAt w lo hi v zs := by
  obtain ⟨g, ho, hg⟩ := OwnI.of_owns h
  exact ho.ints hw fun h0 => by have := hg h0; omega

/-- Coercions in a row, whose maps read as they should, read as coercions. -/
theorem row_cosAt {w : World} {base lo hi n : Nat} {l : Value} {xs : List Value} {f : Nat → Co} {mv : Nat → Value} (h : w.ownsRow base 28 3 l n xs)
    (hcells : ∀ i, i < n → xs[i * 3]? = some (.int .i64 (f i).src) ∧ xs[i * 3 + 1]? = some (.int .i64 (f i).dst) ∧ xs[i * 3 + 2]? = some (mv i))
    (hmaps : ∀ i, i < n → IntsAt w lo hi (mv i) (f i).map) (hw : ∀ i, i < n → I64 (f i).src ∧ I64 (f i).dst) (hlo : lo ≤ base) (hhi : w.heap.size ≤ hi) : CosAt w lo hi l ((List.range n).map f) := by
  have e : ((List.range n).map f).length = n := by simp
  obtain ⟨hx, ⟨rfl, rfl⟩ | ⟨g, cap, cur, rfl, hb, hh, hc, hm, hs, ht⟩⟩ := h
  · exact ⟨none, 0, rfl, Nat.le_refl _, by unfold maxLen; omega, fun h0 => absurd h0 (by simp)⟩
  · have hlt := owns_lt (⟨hx, .inr ⟨g, cap, cur, rfl, hb, hh, hc, hm, hs, ht⟩⟩ : w.ownsRow base 28 3 (.slice (some ⟨g, 0, none⟩) n cap) n xs) g rfl
    have hcell : ∀ j u, xs[j]? = some u → w.cell? ⟨g, j, none⟩ = some u := fun j u hj => by
      have := World.ownsRow.cells (⟨hx, .inr ⟨g, cap, cur, rfl, hb, hh, hc, hm, hs, ht⟩⟩ : w.ownsRow base 28 3 (.slice (some ⟨g, 0, none⟩) n cap) n xs) (g := g) rfl j u hj
      rw [Go.WideShapes.add_plain] at this
      simpa using this
    refine ⟨_, cap, by rw [e], by rw [e]; exact hc, hm, fun h0 => ⟨g, 0, rfl, by omega, by omega, fun k hk => ?_⟩⟩
    rw [e] at hk
    obtain ⟨a, b, c⟩ := hcells k hk
    obtain ⟨w1, w2⟩ := hw k hk
    rw [List.getD_eq_getElem?_getD, List.getElem?_eq_getElem (by rw [e]; exact hk)]
    simp only [List.getElem_map, List.getElem_range, Option.getD_some]
    refine ⟨_, _, _, ?_, ?_, ?_, rfl, rfl, w1, w2, hmaps k hk⟩
    · rw [Nat.zero_add]; exact hcell _ _ a
    · rw [Nat.zero_add]; exact hcell _ _ b
    · rw [Nat.zero_add]; exact hcell _ _ c

theorem CosOwned.cosAt {w : World} {base : Nat} {l : Value} {f : Nat → Co} {n lo hi : Nat} (h : CosOwned w base l f n) (hw : ∀ i, i < n → I64 (f i).src ∧ I64 (f i).dst ∧ ∀ z ∈ (f i).map, I64 z) (hlo : lo ≤ base) (hhi : w.heap.size ≤ hi) :
    CosAt w lo hi l ((List.range n).map f) := by
  obtain ⟨xs, m, mv, h1, h2⟩ := h
  refine row_cosAt h1 h2.cells (fun i hi => (h2.own i hi).ints (hw i hi).2.2 fun h0 => ?_) (fun i hi => ⟨(hw i hi).1, (hw i hi).2.1⟩) hlo hhi
  have := h2.away i hi h0
  omega
end Go.Proofs.Ytplpnammboofiaa

namespace Go.Proofs.Ytplpnammboofiaa
open Go.RowKit

theorem range_getD (cs : List Co) : (List.range cs.length).map (fun i => cs.getD i default) = cs := by
  apply List.ext_getElem
  · simp
  · intro i h1 h2
    simp [List.getElem?_eq_getElem h2]
theorem CosAt.wf {w : World} {lo hi : Nat} {v : Value} {cs : List Co} (h : CosAt w lo hi v cs) : ∀ i, i < cs.length → I64 (cs.getD i default).src ∧ I64 (cs.getD i default).dst ∧ ∀ z ∈ (cs.getD i default).map, I64 z := by
  intro i hi'
  obtain ⟨A, cap, rfl, _, _, hc⟩ := h.form
  obtain ⟨b, off, A2, cap2, _, _, _, _, _, _, _, _, hs, hd, hz⟩ := hc.at_ hi'
  have e : cs.getD i default = cs[i] := by rw [List.getD_eq_getElem?_getD, List.getElem?_eq_getElem hi']; rfl
  obtain ⟨_, _, _, _, _, hw, _⟩ := hz
  rw [e]
  exact ⟨hs, hd, hw⟩
theorem IntsAt.wf {w : World} {lo hi : Nat} {v : Value} {zs : List Int} (h : IntsAt w lo hi v zs) : ∀ z ∈ zs, I64 z := by
  obtain ⟨_, _, _, _, _, hw, _⟩ := h
  exact hw

set_option maxRecDepth 100000 in
set_option maxHeartbeats 2000000 in
theorem ownTypes_any (lo hi : Nat) (sv cv : Value) (t : Ty) (w : World) (hv : TyAt w lo hi sv cv t) (hB : hi ≤ w.heap.size) (hbk : t.bulk ≤ 1048576) :
    Calls Try.prog 42 #[.agg #[sv, cv]] w fun e w' => ∃ v l, e = .returned (.agg #[v, l]) ∧ Below w.heap.size w w' ∧ TyAt w' w.heap.size w'.heap.size v l t := by
  have hwf1 := Lib.hid (IntsAt.wf hv.1)
  have hwf2 := Lib.hid (CosAt.wf hv.2)
  obtain ⟨A, cap, rfl, hl1, hm1, hz⟩ := hv.1.form
  obtain ⟨B, bap, rfl, hl2, hm2, hc1⟩ := hv.2.form
  have hn : t.cos.length ≤ 1048576 := by unfold Ty.bulk at hbk; omega
  have hn1 : t.sizes.length ≤ 1048576 := by unfold Ty.bulk at hbk; omega
  have hl3 := Lib.hid (show ∀ j, ∀ (hj : j < t.cos.length), t.cos[j].map.length ≤ 1048576 from fun j hj => Nat.le_trans (t.map_le j hj) hbk)
  have h3 : Below w.heap.size w (((w.alloc (.cells #[.slice A t.sizes.length cap, .slice B t.cos.length bap] 26)).alloc (.cells #[.slice none 0 0, .slice none 0 0] 26)).alloc (.cells #[] 3)) := by go_grown
  have hw2 : (((w.alloc (.cells #[.slice A t.sizes.length cap, .slice B t.cos.length bap] 26)).alloc (.cells #[.slice none 0 0, .slice none 0 0] 26)).heap.size) = w.heap.size + 1 + 1 := by simp
  have h0 := World.ownsRow_lit (base := w.heap.size + 1 + 1) (e := 3) (size := 1) ((w.alloc (.cells #[.slice A t.sizes.length cap, .slice B t.cos.length bap] 26)).alloc (.cells #[.slice none 0 0, .slice none 0 0] 26)) #[] 0 (by rw [hw2]; exact Nat.le_refl _) (by unfold maxLen; omega) rfl
  rw [hw2] at h0
  have H0 := Lib.hid h0
  have Hz := Lib.hid (hz.below h3 hB)
  have Hc1 := Lib.hid hc1
  have H3 := Lib.hid h3
  clear h0 hz h3 hw2 hc1 hv
  go_enter Try.func42, Try.ntmps42
  go_wp2_with (at_builtin; refine wpList_append_ints rfl (.tmp 3) (.tmp 5) rfl (w.heap.size + 1 + 1) _ 0 [] rfl H0.out lo hi A t.sizes.length cap t.sizes rfl Hz.out rfl (by omega) (by simp) ?_; intro VA VC w2 hown2 hgrow; have hb := H3.out.grown hgrow (by simp; omega) (fun k hk => (by have h : (some (w.heap.size + 1 + 1) : Option Nat) = some k := hk; injection h with h; omega)); have hs2 := hgrow.size; simp only [World.size_alloc] at hs2; have hgrow' : World.grownBy _ w2 (some (w.heap.size + 1 + 1)) := hgrow; have e0 := grown_cell hgrow' w.heap.size 0 (by simp; omega) (by omega); have e1 := grown_cell hgrow' w.heap.size 1 (by simp; omega) (by omega); have d0 := grown_cell hgrow' (w.heap.size + 1) 0 (by simp) (by omega); have d1 := grown_cell hgrow' (w.heap.size + 1) 1 (by simp) (by omega); have f0 := grown_frozen hgrow' w.heap.size 0 (by simp; omega) (by omega); have f1 := grown_frozen hgrow' w.heap.size 1 (by simp; omega) (by omega); have k0 := grown_frozen hgrow' (w.heap.size + 1) 0 (by simp) (by omega); have k1 := grown_frozen hgrow' (w.heap.size + 1) 1 (by simp) (by omega); simp [go_sem] at e0 e1 d0 d1 f0 f1 k0 k1; have e0' : ∀ u, (w2.setCell ⟨w.heap.size, 0, none⟩ u).cell? ⟨w.heap.size, 0, none⟩ = some u := (fun u => World.cell?_setCell_same _ _ _ e0); have ho2 : w2.ownsRow (w.heap.size + 1 + 1) 3 1 (.slice VA t.sizes.length VC) t.sizes.length (t.sizes.map (Value.int .i64)) := (by simpa using hown2); have Hown2 := Lib.hid ho2; have Hb := Lib.hid hb; clear hown2 hgrow hgrow' hb ho2)
  refine (ownList_any lo hi _ t.cos _ (Hc1.out.below (Hb.out.setCell (by dsimp only; omega) _) hB) (by simp [World.setCell]; omega) hn hl3.out).mono ?_
  rintro e w3 ⟨l, rfl, hb3, hco⟩
  have hss : (w2.setCell ⟨w.heap.size, 0, none⟩ (.slice VA t.sizes.length VC)).heap.size = w2.heap.size := by simp [World.setCell]
  rw [hss] at hb3 hco
  have p0 : w3.cell? ⟨w.heap.size, 0, none⟩ = some (.slice VA t.sizes.length VC) := ((bcell hb3).1 _ _ (by omega)).trans (e0' _)
  have p1 : w3.cell? ⟨w.heap.size, 1, none⟩ = some (.slice B t.cos.length bap) := ((bcell hb3).1 _ _ (by omega)).trans (by simp [go_sem, e1])
  have q0 : w3.cell? ⟨w.heap.size + 1, 0, none⟩ = some (.slice none 0 0) := ((bcell hb3).1 _ _ (by omega)).trans (by simp [go_sem, d0])
  have q1 : w3.cell? ⟨w.heap.size + 1, 1, none⟩ = some (.slice none 0 0) := ((bcell hb3).1 _ _ (by omega)).trans (by simp [go_sem, d1])
  have pf0 : w3.frozen? ⟨w.heap.size, 0, none⟩ = false := ((bcell hb3).2 _ _ (by omega)).trans (by simp [go_sem, f0])
  have pf1 : w3.frozen? ⟨w.heap.size, 1, none⟩ = false := ((bcell hb3).2 _ _ (by omega)).trans (by simp [go_sem, f1])
  have qf0 : w3.frozen? ⟨w.heap.size + 1, 0, none⟩ = false := ((bcell hb3).2 _ _ (by omega)).trans (by simp [go_sem, k0])
  have qf1 : w3.frozen? ⟨w.heap.size + 1, 1, none⟩ = false := ((bcell hb3).2 _ _ (by omega)).trans (by simp [go_sem, k1])
  have p1' : ∀ u, (w3.setCell ⟨w.heap.size, 1, none⟩ u).cell? ⟨w.heap.size, 1, none⟩ = some u := fun u => World.cell?_setCell_same _ _ _ p1
  obtain ⟨xs, m, mv, how, hmo⟩ := hco
  obtain ⟨LA, LC, rfl⟩ := owns_form how
  have Hco := Lib.hid (show CosOwned w3 w2.heap.size (.slice LA t.cos.length LC) (fun i => t.cos.getD i default) t.cos.length from ⟨xs, m, mv, how, hmo⟩)
  have hsz3 := hb3.size
  rw [hss] at hsz3
  have hb03 := Lib.hid ((Hb.out.setCell (by dsimp only; omega) _).trans (hb3.mono (by omega)))
  have ho3 := Lib.hid (ownsRow_keep Hown2.out fun g hg hgl => (hb3.block g hgl).trans (Below.heap_setCell _ _ _ _ (by dsimp only; omega)))
  have hblk : Hid (∀ g, w.heap.size + 1 + 1 ≤ g → (((w3.setCell ⟨w.heap.size, 1, none⟩ (.slice LA t.cos.length LC)).setCell ⟨w.heap.size + 1, 0, none⟩ (.slice VA t.sizes.length VC)).setCell ⟨w.heap.size + 1, 1, none⟩ (.slice LA t.cos.length LC)).heap[g]? = w3.heap[g]?) := fun g hg => (Below.heap_setCell _ _ _ _ (by dsimp only; omega)).trans ((Below.heap_setCell _ _ _ _ (by dsimp only; omega)).trans (Below.heap_setCell _ _ _ _ (by dsimp only; omega)))
  clear how hmo hb3 hss e0' e0 e1 d0 d1 f0 f1 k0 k1
  go_wp2
  refine bodyPost_ret (v := .agg #[.slice VA t.sizes.length VC, .slice LA t.cos.length LC]) (by simp [results, Try.results42, go_sem, q0, q1]) rfl ?_
  refine ⟨_, _, rfl, ((hb03.out.setCell (by dsimp only; omega) _).setCell (by dsimp only; omega) _).setCell (by dsimp only; omega) _, ?_, ?_⟩
  · exact ownsRow.intsAt (base := w.heap.size + 1 + 1) (lo := w.heap.size) (ownsRow_keep ho3.out fun g hg _ => hblk.out g hg) hwf1.out (by omega) (Nat.le_refl _)
  · have := CosOwned.cosAt (lo := w.heap.size) (base := w2.heap.size) (Hco.out.keep (by simp [World.setCell]) fun g hg hgl => hblk.out g (by omega)) hwf2.out (by omega) (Nat.le_refl _)
    rw [range_getD] at this
    exact this
end Go.Proofs.Ytplpnammboofiaa

namespace Go.Proofs.Ytplpnammboofiaa
open Go.RowKit

/-- Cells that read as coercions. -/
def CosNews (w : World) (lo hi : Nat) (news : List Value) (cs : List Co) : Prop :=
  ∃ mv : Nat → Value, news.length = cs.length * 3 ∧ ∀ i, ∀ (h : i < cs.length), news[i * 3]? = some (.int .i64 cs[i].src) ∧ news[i * 3 + 1]? = some (.int .i64 cs[i].dst) ∧ news[i * 3 + 2]? = some (mv i) ∧ IntsAt w lo hi (mv i) cs[i].map

theorem cos_news {w : World} {lo hi c : Nat} {ad : Addr} {cs : List Co} (h : CosAt w lo hi (.slice (some ad) cs.length c) cs) :
    ∃ news, CosNews w lo hi news cs ∧ (∀ j u, news[j]? = some u → w.cell? (ad.add j) = some u) ∧ ∀ u ∈ news, u.oneCell' = true := by
  have hat : ∀ i, ∀ (hi' : i < cs.length), ∃ z, w.cell? (ad.add (i * 3)) = some (.int .i64 cs[i].src) ∧ w.cell? (ad.add (i * 3 + 1)) = some (.int .i64 cs[i].dst) ∧ w.cell? (ad.add (i * 3 + 2)) = some z ∧ IntsAt w lo hi z cs[i].map ∧ z.oneCell' = true := by
    intro i hi'
    obtain ⟨b, off, A2, cap2, e, _, _, c0, c1, c2, _, _, _, _, hz⟩ := h.at_ hi'
    injection e with e
    subst e
    refine ⟨_, ?_, ?_, ?_, hz, rfl⟩
    · rw [Go.WideShapes.add_plain, c0]
    · rw [Go.WideShapes.add_plain, ← Nat.add_assoc, c1]
    · rw [Go.WideShapes.add_plain, ← Nat.add_assoc, c2]
  have hsome : ∀ j, j < cs.length * 3 → ∃ u, w.cell? (ad.add j) = some u ∧ u.oneCell' = true := by
    intro j hj
    obtain ⟨z, h0, h1, h2, _, h4⟩ := hat (j / 3) (by omega)
    have hm := Nat.div_add_mod j 3
    have hlt := Nat.mod_lt j (by omega : 3 > 0)
    rcases (by omega : j = j / 3 * 3 ∨ j = j / 3 * 3 + 1 ∨ j = j / 3 * 3 + 2) with e | e | e
    · rw [← e] at h0; exact ⟨_, h0, rfl⟩
    · rw [← e] at h1; exact ⟨_, h1, rfl⟩
    · rw [← e] at h2; exact ⟨_, h2, h4⟩
  have hget : ∀ j, j < cs.length * 3 → ((List.range (cs.length * 3)).map fun j => (w.cell? (ad.add j)).getD undef)[j]? = w.cell? (ad.add j) := by
    intro j hj
    obtain ⟨u, hu, _⟩ := hsome j hj
    rw [List.getElem?_map, List.getElem?_range hj]
    simp [hu]
  refine ⟨(List.range (cs.length * 3)).map fun j => (w.cell? (ad.add j)).getD undef, ⟨fun i => (w.cell? (ad.add (i * 3 + 2))).getD undef, by simp, fun i hi' => ?_⟩, fun j u hj => ?_, fun u hu => ?_⟩
  · obtain ⟨z, h0, h1, h2, h3, _⟩ := hat i hi'
    rw [hget _ (by omega), hget _ (by omega), hget _ (by omega)]
    refine ⟨h0, h1, ?_, ?_⟩
    · simp only [h2, Option.getD_some]
    · simp only [h2, Option.getD_some]; exact h3
  · have hjl : j < cs.length * 3 := by
      have := (List.getElem?_eq_some_iff.1 hj).1
      simpa using this
    rw [hget j hjl] at hj
    exact hj
  · obtain ⟨j, hj, rfl⟩ := List.mem_map.1 hu
    obtain ⟨u, hu', h1⟩ := hsome j (List.mem_range.1 hj)
    simp only [hu', Option.getD_some]
    exact h1

theorem ownsRow_zero {w : World} {base b : Nat} (hb : base ≤ b) (h : w.heap[b]? = some (.cells #[] 28 (0, 0))) : w.ownsRow base 28 3 (.slice (some ⟨b, 0, none⟩) 0 0) 0 [] :=
  ⟨rfl, .inr ⟨b, 0, #[], rfl, hb, h, Nat.le_refl _, by unfold maxLen; omega, rfl, rfl⟩⟩

theorem step_append_cos {w : World} {ops : Array Oper} {o : Oper} {a : Act} {K : Act → World → Prop} {Q : Exit → Act → World → Prop} {E : Prop} (hgd : o.guard = none) (s x : Operand)
    (ho : o.op = .call { callee := .builtin .append, args := #[s, x], argTypes := #[24, 24] }) (base b : Nat) (hs : a.eval s = .slice (some ⟨b, 0, none⟩) 0 0)
    (hb : base ≤ b) (hblk : w.heap[b]? = some (.cells #[] 28 (0, 0))) (lo hi : Nat) (A : Option Addr) (m c : Nat) (cs : List Co) (hx : a.eval x = .slice A m c) (hm : m = cs.length) (hz : CosAt w lo hi (.slice A cs.length c) cs) (hn : m ≤ 1048576) (hbase : base ≤ w.heap.size)
    (h : ∀ VA VC w' news, w'.ownsRow base 28 3 (.slice VA m VC) m news → CosNews w lo hi news cs → w.grownBy w' (some b) → K (a.put o.dst (.slice VA m VC)) w') :
    if Region.wanted o (yielded ops a.tmps) = true then Oper.wp Try.prog o a w K Q else E := by
  have hw : Region.wanted o (yielded ops a.tmps) = true := by simp [Region.wanted, hgd]
  rw [if_pos hw]
  subst hm
  obtain ⟨i0, hi0, hz0, hz1, hz2⟩ := info_parts infoCoercionW
  have hown := ownsRow_zero hb hblk
  rcases A with _ | ad
  · have hcs : cs = [] := by
      rcases cs with _ | ⟨z, zs⟩
      · rfl
      · obtain ⟨b, off, A2, cap2, e, _⟩ := hz.at_ (k := 0) (by simp)
        cases e
    subst hcs
    have hrun := run_append_owned_none' (P := Try.prog) (w := w) base 24 o.type 28 i0 3 Try.underlying24 hi0 _ _ _ c hown
    unfold Oper.wp
    rw [List.length_nil] at hx
    simp [execOp, ho, resolve, invoke, builtin, hs, hx, hrun, Result.andThen]
    exact h _ _ _ [] hown ⟨fun _ => undef, rfl, fun i hi => absurd hi (by simp)⟩ ⟨rfl, rfl, rfl, Nat.le_refl _, fun _ _ _ => rfl⟩
  · obtain ⟨news, hnews, hcells, hone⟩ := cos_news hz
    obtain ⟨mv, hl, hrest⟩ := hnews
    refine wp_append_own w s x 24 ho base 28 i0 _ 3 40 Try.underlying24 hi0 hz0 hz1 hz2 rfl (by omega) _ 0 [] hs hown ad cs.length c news hx hl hcells hone (by unfold maxLen; omega) (by omega) hbase ?_
    intro v' w' h1 h2 _
    obtain ⟨VA, VC, rfl⟩ := owns_form h1
    rw [Nat.zero_add, List.nil_append] at h1
    rw [Nat.zero_add]
    exact h VA VC w' news h1 ⟨mv, hl, hrest⟩ h2
end Go.Proofs.Ytplpnammboofiaa

