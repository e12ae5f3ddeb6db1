/-
  The contracts of the model's functions that copy a coercion, and a list of them, and types.
  The contract of the model's function that copies types.
  The contract of the law's markText.
  The contracts of the functions that mark a result's memory and look whether the marks hold: numbers in one slice.
  The contracts of the functions that mark coercions and types, and look whether the marks hold.
-/
import Derived.Test.YtplncocfbajefaaD2
import Derived.Test.YtplncocfbajefaaRows
import Derived.Test.YtplncocfbajefaaD1
import Derived.Outline
import Derived.Handy
import Derived.Laws.BytesArg
namespace Go.Proofs.Ytplncocfbajefaa
open Go.RowKit

theorem grown_cell {w w' : World} {g : Nat} (h : w.grownBy w' (some g)) (b o : Nat) (hb : b < w.heap.size) (hne : b ≠ g) : w'.cell? ⟨b, o, none⟩ = w.cell? ⟨b, o, none⟩ :=
  World.cell?_of_block (a := ⟨b, o, none⟩) (h.block b hb (fun e => hne (by injection e)))
theorem grown_frozen {w w' : World} {g : Nat} (h : w.grownBy w' (some g)) (b o : Nat) (hb : b < w.heap.size) (hne : b ≠ g) : w'.frozen? ⟨b, o, none⟩ = w.frozen? ⟨b, o, none⟩ :=
  World.frozen?_of_block (a := ⟨b, o, none⟩) (h.block b hb (fun e => hne (by injection e)))
theorem run_append_owned_none' {P : Program} {w : World} (base : Nat) (t ty e : TypeId) (i : TypeInfo) (size : Nat) (ht : P.underlying t = some (.slice e)) (hi : P.info? e = some i)
    (v : Value) (n : Nat) (xs : List Value) (c : Nat) (hown : w.ownsRow base e size v n xs) :
    (Builtin.append_ #[t, t] ty #[v, .slice none 0 c]).run P w = .ok v w := by
  rcases hown.2 with ⟨rfl, rfl⟩ | ⟨g, cap, cur, rfl, _, _, hnc, _⟩
  · simp [Builtin.append_, run_underlying ht, sizeOf, typeInfo, hi, Builtin.lenOf, Builtin.firstCells]
  · simp [Builtin.append_, run_underlying ht, sizeOf, typeInfo, hi, Builtin.lenOf, Builtin.firstCells, hnc, storeCells]
theorem wpList_append_own_none' {P : Program} {w : World} {ops : Array Oper} {rest : List Oper} {o : Oper} {a : Act} {Q : Exit → Act → World → Prop} (hgd : o.guard = none) (s x : Operand) (t : TypeId)
    (ho : o.op = .call { callee := .builtin .append, args := #[s, x], argTypes := #[t, t] })
    (base : Nat) (e : TypeId) (i : TypeInfo) (size : Nat) (ht : P.underlying t = some (.slice e)) (hi : P.info? e = some i)
    (v : Value) (n : Nat) (xs : List Value) (c : Nat) (hs : a.eval s = v) (hown : w.ownsRow base e size v n xs) (hx : a.eval x = .slice none 0 c)
    (h : wpList P ops Q rest (a.put o.dst v) w) : wpList P ops Q (o :: rest) a w := by
  refine wpList_plain hgd fun K hK => ?_
  have hrun := run_append_owned_none' (P := P) (w := w) base t o.type e i size ht hi v n xs c hown
  unfold Oper.wp
  simp [execOp, ho, resolve, invoke, builtin, hs, hx, hrun, Result.andThen]
  exact hK _ _ h

set_option maxRecDepth 100000 in
set_option maxHeartbeats 1000000 in
theorem ownCo_any (lo hi : Nat) (x y z : Value) (c : Co) (w : World) (hv : CoAt w lo hi x y z c) (hB : hi ≤ w.heap.size) (hlen : c.map.length ≤ 1048576) :
    Calls Try.prog 39 #[.agg #[x, y, z]] w (Copied w.heap.size c w) := by
  obtain ⟨rfl, rfl, hs, hd, hz⟩ := hv
  obtain ⟨A, cap, rfl, hl, hm, hz⟩ := hz.form
  obtain ⟨i0, hi0, hz0, hz1, hz2⟩ := info_parts Try.infoInt
  have h3 : Below w.heap.size w (((w.alloc (.cells #[.int .i64 c.src, .int .i64 c.dst, .slice A c.map.length cap] 42)).alloc (.cells #[.int .i64 0, .int .i64 0, .slice none 0 0] 42)).alloc (.cells #[] 3)) := by go_grown
  have hw2 : (((w.alloc (.cells #[.int .i64 c.src, .int .i64 c.dst, .slice A c.map.length cap] 42)).alloc (.cells #[.int .i64 0, .int .i64 0, .slice none 0 0] 42)).heap.size) = w.heap.size + 1 + 1 := by simp
  have h0 := World.ownsRow_lit (base := w.heap.size + 1 + 1) (e := 3) (size := 1) ((w.alloc (.cells #[.int .i64 c.src, .int .i64 c.dst, .slice A c.map.length cap] 42)).alloc (.cells #[.int .i64 0, .int .i64 0, .slice none 0 0] 42)) #[] 0 (by rw [hw2]; exact Nat.le_refl _) (by unfold maxLen; omega) rfl
  rw [hw2] at h0
  have H0 := Lib.hid h0
  have Hz := Lib.hid (hz.below h3 hB)
  have H3 := Lib.hid h3
  clear h0 hz h3 hw2
  rcases A with _ | ad
  · have hn : c.map = [] := by
      rcases hc : c.map with _ | ⟨z, zs⟩
      · rfl
      · obtain ⟨b, off, e, _⟩ := Hz.out.at_ (k := 0) (by rw [hc]; simp)
        cases e
    have hn' : c.map.length = 0 := by rw [hn]; rfl
    rw [hn'] at Hz ⊢
    go_enter Try.func39, Try.ntmps39
    go_wp2
    refine bodyPost_ret (v := .agg #[.int .i64 c.src, .int .i64 c.dst, .slice (some ⟨w.heap.size + 1 + 1, 0, none⟩) 0 0]) (by simp [results, Try.results39, go_sem]) rfl ?_
    refine ⟨_, rfl, by go_grown, ?_⟩
    have h1 := World.ownsRow_lit (base := w.heap.size) (e := 3) (size := 1) ((w.alloc (.cells #[.int .i64 c.src, .int .i64 c.dst, .slice (some ⟨w.heap.size + 1 + 1, 0, none⟩) 0 0] 42)).alloc (.cells #[.int .i64 c.src, .int .i64 c.dst, .slice (some ⟨w.heap.size + 1 + 1, 0, none⟩) 0 0] 42)) #[] 0 (by simp; omega) (by unfold maxLen; omega) rfl
    rw [hn]
    simpa using h1
  · have Hc := Lib.hid Hz.out.cells
    go_enter Try.func39, Try.ntmps39
    go_wp2_with (at_builtin; refine wpList_append_own _ rfl (.tmp 3) (.tmp 5) 22 rfl (w.heap.size + 1 + 1) 3 i0 (.int .i64 0) 1 8 Try.underlying22 hi0 hz0 hz1 hz2 rfl (by decide) _ _ _ rfl H0.out ad c.map.length cap (c.map.map (Value.int .i64)) rfl (by simp) Hc.out (ints_oneCell' c.map) (by unfold maxLen; omega) (by omega) (by simp) ?_; intro v' w2 hown2 hgrow _; obtain ⟨VA, VC, rfl⟩ := owns_form hown2; have hb := H3.out.grown hgrow (by simp; omega) (fun k hk => (by have h : (some (w.heap.size + 1 + 1) : Option Nat) = some k := hk; injection h with h; omega)); have hs2 := hgrow.size; simp only [World.size_alloc] at hs2; have hgrow' : World.grownBy _ w2 (some (w.heap.size + 1 + 1)) := hgrow; have e0 := grown_cell hgrow' w.heap.size 0 (by simp; omega) (by omega); have e1 := grown_cell hgrow' w.heap.size 1 (by simp; omega) (by omega); have e2 := grown_cell hgrow' w.heap.size 2 (by simp; omega) (by omega); have d0 := grown_cell hgrow' (w.heap.size + 1) 0 (by simp) (by omega); have d1 := grown_cell hgrow' (w.heap.size + 1) 1 (by simp) (by omega); have d2 := grown_cell hgrow' (w.heap.size + 1) 2 (by simp) (by omega); have f2 := grown_frozen hgrow' w.heap.size 2 (by simp; omega) (by omega); have k0 := grown_frozen hgrow' (w.heap.size + 1) 0 (by simp) (by omega); have k1 := grown_frozen hgrow' (w.heap.size + 1) 1 (by simp) (by omega); have k2 := grown_frozen hgrow' (w.heap.size + 1) 2 (by simp) (by omega); simp [go_sem] at e0 e1 e2 d0 d1 d2 f2 k0 k1 k2; have e2' : ∀ u, (w2.setCell ⟨w.heap.size, 2, none⟩ u).cell? ⟨w.heap.size, 2, none⟩ = some u := (fun u => World.cell?_setCell_same _ _ _ e2); have Hown2 := Lib.hid hown2; have Hb := Lib.hid hb; clear hown2 hgrow hgrow' hb)
    refine bodyPost_ret (v := .agg #[.int .i64 c.src, .int .i64 c.dst, .slice VA c.map.length VC]) (by simp [results, Try.results39, go_sem, d0, d1, d2]) rfl ?_
    refine ⟨_, rfl, ?_, ?_⟩
    · exact (((Hb.out.setCell (by dsimp only; omega) _).setCell (by dsimp only; omega) _).setCell (by dsimp only; omega) _).setCell (by dsimp only; omega) _
    · have ho : w2.ownsRow (w.heap.size + 1 + 1) 3 1 (.slice VA c.map.length VC) c.map.length (c.map.map (Value.int .i64)) := by simpa using Hown2.out
      exact ownsRow_lower (ownsRow_keep ho fun g hg hgl => (Below.heap_setCell _ _ _ _ (by dsimp only; omega)).trans ((Below.heap_setCell _ _ _ _ (by dsimp only; omega)).trans ((Below.heap_setCell _ _ _ _ (by dsimp only; omega)).trans (Below.heap_setCell _ _ _ _ (by dsimp only; omega))))) (by omega)

theorem CosOwned.lit (w : World) (base : Nat) (f : Nat → Co) (hb : base ≤ w.heap.size) : CosOwned (w.alloc (.cells #[] 42)) base (.slice (some ⟨w.heap.size, 0, none⟩) 0 0) f 0 :=
  ⟨[], fun _ => 0, fun _ => .slice none 0 0, World.ownsRow_lit w #[] 0 hb (by unfold maxLen; omega) rfl, fun i hi => absurd hi (by omega), fun i hi => absurd hi (by omega), fun i hi => absurd hi (by omega)⟩

set_option maxRecDepth 100000 in
set_option maxHeartbeats 2000000 in
theorem ownList_any (lo hi : Nat) (v : Value) (cs : List Co) (w : World) (hv : CosAt w lo hi v cs) (hB : hi ≤ w.heap.size) (hn : cs.length ≤ 1048576) (hmaps : ∀ j, ∀ (hj : j < cs.length), cs[j].map.length ≤ 1048576) :
    Calls Try.prog 62 #[v] w fun e w' => ∃ l, e = .returned l ∧ Below w.heap.size w w' ∧ CosOwned w' w.heap.size l (fun i => cs.getD i default) cs.length := by
  obtain ⟨B, bap, rfl, hl2, hm2, hc1⟩ := hv.form
  unfold maxLen at hm2
  obtain ⟨i0, hi0, hz0, hz1, hz2⟩ := info_parts infoCoercionW
  have hl3 := Lib.hid hmaps
  have Hc1 := Lib.hid hc1
  clear hv hc1 hmaps
  go_enter Try.func62, Try.ntmps62
  go_wp2
  go_loopw [3, 9] (fun l i wr => ∃ (j : Nat), j ≤ cs.length ∧ i = .int .i64 j ∧ Hid (Below w.heap.size w wr) ∧ Hid (CosOwned wr w.heap.size l (fun i => cs.getD i default) j)) (fun _ i _ => cs.length - (intOf i).toNat)
  case atStart => exact ⟨0, Nat.zero_le _, rfl, Lib.hid ((Below.refl _ _).alloc (Nat.le_refl _) _), CosOwned.lit _ _ _ (Nat.le_refl _)⟩
  case round =>
    obtain ⟨j, hj, rfl, hb, hown⟩ := hrel
    by_cases hlt : j < cs.length
    · obtain ⟨b, off, A2, cap2, rfl, hlo, hhi, c0, c1, c2, h5, h6, hs, hd, hz2'⟩ := (Hc1.out.below hb.out hB).at_ hlt
      have hmap := hl3.out j hlt
      obtain ⟨xs, m, mv, how, hmo⟩ := hown.out
      obtain ⟨LA, LC, rfl⟩ := owns_form how
      have How := Lib.hid how
      have Hmo := Lib.hid hmo
      have hbs := hb.out.size
      have hdraw : Below hi wr (wr.alloc (.cells #[.int .i64 cs[j].src, .int .i64 cs[j].dst, .slice A2 cs[j].map.length cap2] 42)) := (Below.refl _ _).alloc (by omega) _
      have Hz3 := Lib.hid (hz2'.below hdraw (Nat.le_refl _))
      clear how hmo hz2' hdraw
      go_wp2_with fail
      refine (ownCo_any lo hi _ _ _ cs[j] _ ⟨rfl, rfl, hs, hd, Hz3.out⟩ (by simp; omega) hmap).mono ?_
      rintro e w2 ⟨v2, rfl, hb2, hown2⟩
      obtain ⟨VA2, VC2, rfl⟩ := owns_form hown2
      have hsz2 : wr.heap.size + 1 ≤ w2.heap.size := by simpa using hb2.size
      have H2 := Lib.hid (ownsRow_keep How.out fun g hg hgl => (hb2.block g (by (try simp); (try omega))).trans (Below.heap_alloc wr _ g hgl))
      have hq : Below wr.heap.size _ w2 := hb2.mono (by (try simp); (try omega))
      have hb12 : Below wr.heap.size wr w2 := ((Below.refl _ wr).alloc (Nat.le_refl _) (.cells #[.int .i64 cs[j].src, .int .i64 cs[j].dst, .slice A2 cs[j].map.length cap2] 42)).trans hq
      have ho2 := Lib.hid (ownsRow_lower (base' := wr.heap.size) hown2 (by (try simp); (try omega)))
      have Hb12 := Lib.hid hb12
      clear hb2 hown2 hq hb12
      go_wp2_with (at_builtin; refine wpList_append_lies _ rfl (.tmp 13) (.tmp 16) 33 rfl w.heap.size 42 i0 _ 3 40 Try.underlying33 hi0 hz0 hz1 hz2 rfl (by omega) (.slice LA j LC) j xs rfl (H2.out.alloc _) ⟨w2.heap.size, 0, none⟩ 1 1 [.int .i64 cs[j].src, .int .i64 cs[j].dst, .slice VA2 cs[j].map.length VC2] rfl rfl (World.news_of_block (cs := #[.int .i64 cs[j].src, .int .i64 cs[j].dst, .slice VA2 cs[j].map.length VC2]) (t := 42) (fr := (0, 0)) (heap_alloc_new w2 _)) (by simp [Value.oneCell']) (by omega) (by unfold maxLen; omega) (by omega) (by (try simp); (try omega)) (w2.heap.size + 1) (by simp) ?_; intro g' cap3 w3 hown3 hgrow hat hlt3; have Hown3 := Lib.hid hown3; have Hgrow := Lib.hid hgrow; have Hat := Lib.hid hat; clear hown3 hgrow hat)
      have hpush := CosOwned.push (w2 := w2) Hmo.out How.out (by omega) (show cs.getD j default = cs[j] by rw [List.getD_eq_getElem?_getD, List.getElem?_eq_getElem hlt]; rfl) Hb12.out ho2.out Hgrow.out Hat.out Hown3.out
      have hb13 : Below w.heap.size w w3 := ((hb.out.trans (Hb12.out.mono (by omega))).alloc (by omega) _).grown Hgrow.out (by (try simp); (try omega)) (fun k hk => by have := (owns_lt How.out k hk).1; omega)
      have Hpush := Lib.hid hpush
      have Hb13 := Lib.hid hb13
      clear hpush hb13
      go_roundw
      case rel => exact ⟨j + 1, by omega, by go_num, Hb13, Hpush⟩
      case measure => simp [intOf]; omega
    · obtain rfl : j = cs.length := by omega
      go_wp2
      go_ret
      exact ⟨_, rfl, hb.out, hown.out⟩
end Go.Proofs.Ytplncocfbajefaa

namespace Go.Proofs.Ytplncocfbajefaa
open Go.RowKit

theorem wpList_append_ints {w : World} {ops : Array Oper} {rest : List Oper} {o : Oper} {a : Act} {Q : Exit → Act → World → Prop} (hgd : o.guard = none) (s x : Operand)
    (ho : o.op = .call { callee := .builtin .append, args := #[s, x], argTypes := #[22, 22] })
    (base : Nat) (v : Value) (n : Nat) (xs : List Value) (hs : a.eval s = v) (hown : w.ownsRow base 3 1 v n xs) (lo hi : Nat) (A : Option Addr) (m c : Nat) (zs : List Int) (hx : a.eval x = .slice A m c)
    (hz : IntsAt w lo hi (.slice A m c) zs) (hm : zs.length = m) (h63 : n + m ≤ 2097152) (hbase : base ≤ w.heap.size)
    (h : ∀ VA VC w', w'.ownsRow base 3 1 (.slice VA (n + m) VC) (n + m) (xs ++ zs.map (Value.int .i64)) → w.grownBy w' v.ownBlock → wpList Try.prog ops Q rest (a.put o.dst (.slice VA (n + m) VC)) w') : wpList Try.prog ops Q (o :: rest) a w := by
  obtain ⟨i0, hi0, hz0, hz1, hz2⟩ := info_parts Try.infoInt
  subst hm
  rcases A with _ | ad
  · have hn : zs = [] := by
      rcases zs with _ | ⟨z, zs⟩
      · rfl
      · obtain ⟨b, off, e, _⟩ := hz.at_ (k := 0) (by simp)
        cases e
    subst hn
    obtain ⟨VA, VC, rfl⟩ := owns_form hown
    refine wpList_append_own_none' hgd s x 22 ho base 3 i0 1 Try.underlying22 hi0 _ _ _ c hs hown hx ?_
    have := h VA VC w (by simpa using hown) ⟨rfl, rfl, rfl, Nat.le_refl _, fun _ _ _ => rfl⟩
    simpa using this
  · refine wpList_append_own _ hgd s x 22 ho base 3 i0 (.int .i64 0) 1 8 Try.underlying22 hi0 hz0 hz1 hz2 rfl (by decide) _ _ _ hs hown ad zs.length c (zs.map (Value.int .i64)) hx (by simp) hz.cells (ints_oneCell' zs) (by unfold maxLen; omega) (by omega) hbase ?_
    intro v' w2 hown2 hgrow _
    obtain ⟨VA, VC, rfl⟩ := owns_form hown2
    exact h VA VC w2 hown2 hgrow

theorem ownsRow.intsAt {w : World} {base : Nat} {v : Value} {zs : List Int} (h : w.ownsRow base 3 1 v zs.length (zs.map (Value.int .i64))) (hw : ∀ z ∈ zs, I64 z) {lo hi : Nat} (hlo : lo ≤ base) (hhi : w.heap.size ≤ hi) : IntsAt w lo hi v zs := by
  obtain ⟨g, ho, hg⟩ := OwnI.of_owns h
  exact ho.ints hw fun h0 => by have := hg h0; omega

/-- Coercions in a row, whose maps read as they should, read as coercions. -/
theorem row_cosAt {w : World} {base lo hi n : Nat} {l : Value} {xs : List Value} {f : Nat → Co} {mv : Nat → Value} (h : w.ownsRow base 42 3 l n xs)
    (hcells : ∀ i, i < n → xs[i * 3]? = some (.int .i64 (f i).src) ∧ xs[i * 3 + 1]? = some (.int .i64 (f i).dst) ∧ xs[i * 3 + 2]? = some (mv i))
    (hmaps : ∀ i, i < n → IntsAt w lo hi (mv i) (f i).map) (hw : ∀ i, i < n → I64 (f i).src ∧ I64 (f i).dst) (hlo : lo ≤ base) (hhi : w.heap.size ≤ hi) : CosAt w lo hi l ((List.range n).map f) := by
  have e : ((List.range n).map f).length = n := by simp
  obtain ⟨hx, ⟨rfl, rfl⟩ | ⟨g, cap, cur, rfl, hb, hh, hc, hm, hs, ht⟩⟩ := h
  · exact ⟨none, 0, rfl, Nat.le_refl _, by unfold maxLen; omega, fun h0 => absurd h0 (by simp)⟩
  · have hlt := owns_lt (⟨hx, .inr ⟨g, cap, cur, rfl, hb, hh, hc, hm, hs, ht⟩⟩ : w.ownsRow base 42 3 (.slice (some ⟨g, 0, none⟩) n cap) n xs) g rfl
    have hcell : ∀ j u, xs[j]? = some u → w.cell? ⟨g, j, none⟩ = some u := fun j u hj => by
      have := World.ownsRow.cells (⟨hx, .inr ⟨g, cap, cur, rfl, hb, hh, hc, hm, hs, ht⟩⟩ : w.ownsRow base 42 3 (.slice (some ⟨g, 0, none⟩) n cap) n xs) (g := g) rfl j u hj
      rw [Go.WideShapes.add_plain] at this
      simpa using this
    refine ⟨_, cap, by rw [e], by rw [e]; exact hc, hm, fun h0 => ⟨g, 0, rfl, by omega, by omega, fun k hk => ?_⟩⟩
    rw [e] at hk
    obtain ⟨a, b, c⟩ := hcells k hk
    obtain ⟨w1, w2⟩ := hw k hk
    rw [List.getD_eq_getElem?_getD, List.getElem?_eq_getElem (by rw [e]; exact hk)]
    simp only [List.getElem_map, List.getElem_range, Option.getD_some]
    refine ⟨_, _, _, ?_, ?_, ?_, rfl, rfl, w1, w2, hmaps k hk⟩
    · rw [Nat.zero_add]; exact hcell _ _ a
    · rw [Nat.zero_add]; exact hcell _ _ b
    · rw [Nat.zero_add]; exact hcell _ _ c

theorem CosOwned.cosAt {w : World} {base : Nat} {l : Value} {f : Nat → Co} {n lo hi : Nat} (h : CosOwned w base l f n) (hw : ∀ i, i < n → I64 (f i).src ∧ I64 (f i).dst ∧ ∀ z ∈ (f i).map, I64 z) (hlo : lo ≤ base) (hhi : w.heap.size ≤ hi) :
    CosAt w lo hi l ((List.range n).map f) := by
  obtain ⟨xs, m, mv, h1, h2⟩ := h
  refine row_cosAt h1 h2.cells (fun i hi => (h2.own i hi).ints (hw i hi).2.2 fun h0 => ?_) (fun i hi => ⟨(hw i hi).1, (hw i hi).2.1⟩) hlo hhi
  have := h2.away i hi h0
  omega
end Go.Proofs.Ytplncocfbajefaa

namespace Go.Proofs.Ytplncocfbajefaa
open Go.RowKit

/-- The digits of a number ahead of a text. -/
def digs : Nat → Int → ByteArray → ByteArray
  | 0, _, b => b
  | f + 1, n, b => if 0 < n then digs f (n / 10) (strOfNums [48 + n % 10] ++ b) else b
/-- The text that marks by a number. -/
def mText (k : Int) : ByteArray := if k ≤ 0 then ⟨#[109, 48]⟩ else ⟨#[109]⟩ ++ digs 11 k ⟨#[]⟩
theorem digs_zero : ∀ (f : Nat) (b : ByteArray), digs f 0 b = b
  | 0, _ => rfl
  | f + 1, b => by show (if (0 : Int) < 0 then _ else b) = b; rw [if_neg (by omega)]
theorem digs_step (f : Nat) (n : Int) (b : ByteArray) (h : 0 < n) : digs (f + 1) n b = digs f (n / 10) (strOfNums [48 + n % 10] ++ b) := if_pos h

theorem digs_size : ∀ (f : Nat) (n : Int) (b : ByteArray), (digs f n b).size ≤ f + b.size
  | 0, _, b => by show b.size ≤ 0 + b.size; omega
  | f + 1, n, b => by
    by_cases h : 0 < n
    · rw [digs_step f n b h]
      have h1 := digs_size f (n / 10) (strOfNums [48 + n % 10] ++ b)
      have h2 : (strOfNums [48 + n % 10]).size = 1 := strOfNums_size _
      rw [ByteArray.size_append] at h1
      omega
    · have e : digs (f + 1) n b = b := if_neg h
      rw [e]; omega
theorem mText_size (k : Int) : (mText k).size ≤ 12 := by
  unfold mText
  split
  · show 2 ≤ 12; omega
  · have h := digs_size 11 k ⟨#[]⟩
    have e : (⟨#[]⟩ : ByteArray).size = 0 := rfl
    have e2 : (⟨#[109]⟩ : ByteArray).size = 1 := rfl
    rw [ByteArray.size_append]
    omega

set_option maxRecDepth 100000 in
set_option maxHeartbeats 1000000 in
theorem markText_any (k : Int) (w : World) (h0 : 0 ≤ k) (h1 : k ≤ 1000000000) :
    Calls Try.prog 52 #[.int .i64 k] w fun e w' => e = .returned (.string (mText k)) ∧ Below w.heap.size w w' := by
  by_cases hk : k ≤ 0
  · have H : Hid (mText k = ⟨#[109, 48]⟩) := if_pos hk
    go_enter Try.func52, Try.ntmps52
    go_wp2
    go_ret
    exact ⟨by rw [H.out]; rfl, Below.refl _ _⟩
  have H : Hid (mText k = ⟨#[109]⟩ ++ digs 11 k ⟨#[]⟩) := if_neg hk
  have hk' : ¬ k ≤ 0 := hk
  go_enter Try.func52, Try.ntmps52
  go_wp2
  go_loopw [0, 3] (fun q s wr => ∃ (n f : Nat) (b : ByteArray), n ≤ 1000000000 ∧ q = .int .i64 n ∧ s = .string b ∧ Hid (digs f n b = digs 11 k ⟨#[]⟩) ∧ n < 10 ^ f ∧ b.size + f ≤ 11 ∧ Below w.heap.size w wr) (fun q _ _ => (intOf q).toNat)
  case atStart => exact ⟨k.toNat, 11, ⟨#[]⟩, by omega, by rw [Int.toNat_of_nonneg h0], rfl, by show _ = _; rw [Int.toNat_of_nonneg h0], by omega, by show 0 + 11 ≤ 11; omega, Below.refl _ _⟩
  case round =>
    obtain ⟨n, f, b, hn, rfl, rfl, hd, hf, hbs, hbw⟩ := hrel
    by_cases hp : 0 < n
    · have hp' : (0 : Int) < (n : Int) := by omega
      have hws := hbw.size
      have hcv := run_convert_bytes_arg (P := Try.prog) (wr.alloc (.cells #[.int .u8 (48 + (n : Int) % 10)] 5)) 96 5 Try.underlying96 Try.underlying5 wr.heap.size 0 1 1 [48 + (n : Int) % 10] rfl (by
        intro i hi
        obtain rfl : i = 0 := by omega
        simp [go_sem]) 9 Try.underlying9
      obtain ⟨f', rfl⟩ : ∃ f', f = f' + 1 := ⟨f - 1, by rcases f with _ | f <;> omega⟩
      have hd2 : Hid (digs f' ((n / 10 : Nat) : Int) (strOfNums [48 + (n : Int) % 10] ++ b) = digs 11 k ⟨#[]⟩) := by
        show _ = _
        rw [← hd.out, digs_step f' _ b hp']
        rfl
      have hf2 : n / 10 < 10 ^ f' := by
        have : 10 ^ (f' + 1) = 10 ^ f' * 10 := rfl
        rw [this] at hf
        omega
      have hsn : (strOfNums [48 + (n : Int) % 10]).size = 1 := strOfNums_size _
      have hnot : ¬ 9223372036854775807 < (strOfNums [48 + (n : Int) % 10]).size + b.size := by omega
      have hbs2 : (strOfNums [48 + (n : Int) % 10] ++ b).size + f' ≤ 11 := by rw [ByteArray.size_append]; omega
      clear hsn
      go_wp2
      go_roundw
      case rel => exact ⟨n / 10, f', _, by omega, by go_num, rfl, hd2, hf2, hbs2, hbw.alloc (by omega) _⟩
      case measure => simp [intOf]; omega
    · obtain rfl : n = 0 := by omega
      have hnot : ¬ 9223372036854775807 < (⟨#[109]⟩ : ByteArray).size + b.size := by show ¬ _ < 1 + b.size; omega
      have hfin : Hid (mText k = ⟨#[109]⟩ ++ b) := by show _ = _; rw [H.out, ← hd.out]; exact congrArg _ (digs_zero f b)
      go_wp2
      go_ret
      exact ⟨by rw [hfin.out]; rfl, hbw⟩
end Go.Proofs.Ytplncocfbajefaa

namespace Go.Proofs.Ytplncocfbajefaa
open Go.RowKit

set_option maxHeartbeats 800000 in
theorem markIntS_any (g : Nat) (v : Value) (zs : List Int) (k0 : Int) (w : World) (hv : OwnI w 3 g v zs) (h0 : 0 ≤ k0) (h1 : k0 + zs.length ≤ 1000000000) :
    Calls Try.prog 32 #[v, .int .i64 k0] w fun e w' => e = .returned (.int .i64 (k0 + zs.length)) ∧ Kept (fun k => 0 < zs.length → k ≠ g) w w' ∧ OwnI w' 3 g v (markL k0 zs.length) ∧ w'.heap.size = w.heap.size := by
  obtain ⟨A, cap, rfl, hc, hm, hnil, hrow⟩ := hv
  generalize hn : zs.length = n at *
  unfold maxLen at hm
  by_cases hz : n = 0
  · subst hz
    go_enter Try.func32, Try.ntmps32
    go_wp2
    refine wp_loop_rounds 1 ?_
    rw [rounds_succ]
    go_wp2
    go_ret
    exact ⟨ret_int (by simp), Kept.refl _ _, ⟨A, cap, by rw [markL_len], by rw [markL_len]; omega, by unfold maxLen; omega, fun _ => by simp [markL], fun h => absurd h (by rw [markL_len]; omega)⟩, rfl⟩
  · obtain ⟨rfl, rest, hr⟩ := hrow (by omega)
    have Hr : Hid (Row w g 3 ((List.range 0).map (fun i : Nat => Value.int .i64 (k0 + (i : Int))) ++ (zs.map (Value.int .i64) ++ rest).drop 0)) := by
      show Row _ _ _ _
      simpa using hr
    have hlen : n ≤ (zs.map (Value.int .i64) ++ rest).length := by simp; omega
    generalize zs.map (Value.int .i64) ++ rest = ys at Hr hlen hr
    clear hr hrow hnil hn
    go_enter Try.func32, Try.ntmps32
    go_wp2
    go_loopw [1, 5] (fun q i wr => ∃ j : Nat, j ≤ n ∧ i = .int .i64 j ∧ q = .int .i64 (k0 + j) ∧ Hid (Kept (fun k => 0 < n → k ≠ g) w wr) ∧ Hid (wr.heap.size = w.heap.size) ∧ Hid (Row wr g 3 ((List.range j).map (fun i : Nat => Value.int .i64 (k0 + (i : Int))) ++ ys.drop j))) (fun _ i _ => n - (intOf i).toNat)
    case atStart => exact ⟨0, Nat.zero_le _, rfl, by go_num, Kept.refl _ _, rfl, Hr.out⟩
    case round =>
      obtain ⟨j, hj, rfl, rfl, hk, hs, hrw⟩ := hrel
      by_cases hlt : j < n
      · have hl2 : ((List.range j).map (fun i : Nat => Value.int .i64 (k0 + (i : Int))) ++ ys.drop j).length = ys.length := by simp; omega
        have c1 := hrw.out.cell_some (i := j) (by rw [hl2]; omega)
        have f1 := hrw.out.frozen j
        have hset := hrw.out.set_ j (.int .i64 (k0 + (j : Int)))
        rw [remark_step (fun i : Nat => Value.int .i64 (k0 + (i : Int))) ys j (by omega)] at hset
        generalize ((List.range j).map (fun i : Nat => Value.int .i64 (k0 + (i : Int))) ++ ys.drop j)[j]'(by rw [hl2]; omega) = u at c1
        have Hset := Lib.hid hset
        clear hset hl2
        go_wp2
        go_roundw
        case rel => exact ⟨j + 1, by omega, by go_num, by go_num, hk.out.setCell (fun h => h (by omega) rfl) _, by show _ = _; simpa [World.setCell] using hs.out, Hset.out⟩
        case measure => simp [intOf]; omega
      · obtain rfl : j = n := by omega
        go_wp2
        go_ret
        refine ⟨rfl, hk.out, ⟨_, _, by rw [markL_len], by rw [markL_len]; exact hc, by unfold maxLen; omega, fun h => by rw [markL_len] at h; omega, fun _ => ⟨rfl, ys.drop j, ?_⟩⟩, hs.out⟩
        have := hrw.out
        unfold markL
        rw [List.map_map]
        exact this

set_option maxHeartbeats 800000 in
/-- The marks hold. -/
theorem heldIntS_any (lo hi : Nat) (v : Value) (n : Nat) (k0 : Int) (w : World) (hv : IntsAt w lo hi v (markL k0 n)) (_hB : hi ≤ w.heap.size) (h0 : 0 ≤ k0) (h1 : k0 + n ≤ 1000000000) :
    Calls Try.prog 53 #[v, .int .i64 k0] w fun e w' => e = .returned (.int .i64 (k0 + n)) ∧ w = w' := by
  obtain ⟨A, cap, rfl, hl, hm, hz⟩ := hv.form
  have hn := markL_len k0 n
  rw [hn] at hl hz
  unfold maxLen at hm
  have Hz := Lib.hid hz
  have Hn := Lib.hid hn
  clear hz hv
  rw [hn]
  clear hn
  go_enter Try.func53, Try.ntmps53
  go_wp2
  go_loop [1, 5] (fun q i => ∃ j : Nat, j ≤ n ∧ i = .int .i64 j ∧ q = .int .i64 (k0 + j)) (fun _ i => n - (intOf i).toNat)
  case atStart => exact ⟨0, Nat.zero_le _, rfl, by go_num⟩
  case round =>
    obtain ⟨j, hj, rfl, rfl⟩ := hrel
    by_cases hlt : j < n
    · obtain ⟨b, off, rfl, _, _, c0, _⟩ := Hz.out.at_ (k := j) (by rw [Hn.out]; exact hlt)
      rw [markL_get] at c0
      have hbne : (k0 + (j : Int) != k0 + (j : Int)) = false := by simp
      go_wp2
      go_round
      case rel => exact ⟨j + 1, by omega, by go_num, by go_num⟩
      case measure => simp [intOf]; omega
    · obtain rfl : j = n := by omega
      go_wp2
      go_ret
      exact ⟨rfl, rfl⟩
end Go.Proofs.Ytplncocfbajefaa

namespace Go.Proofs.Ytplncocfbajefaa
open Go.RowKit

set_option maxRecDepth 100000 in
set_option maxHeartbeats 2000000 in
theorem markCoercionS_any (gc n : Nat) (m : Nat → Nat) (mv : Nat → Value) (cv : Value) (f : Nat → Co) (k0 : Int) (w : World) (hv : OwnCos w 3 42 gc m mv cv n f) (ha : Apart gc m n f) (h0 : 0 ≤ k0) (h1 : k0 + 2 * (n : Int) + (lenSum f n : Int) ≤ 900000000) :
    Calls Try.prog 51 #[cv, .int .i64 k0] w fun e w' => e = .returned (.int .i64 (markAt f k0 n)) ∧ Kept (fun k => (0 < n → k ≠ gc) ∧ ∀ i, i < n → 0 < (f i).map.length → k ≠ m i) w w' ∧ w'.heap.size = w.heap.size ∧
      OwnCos w' 3 42 gc m mv cv n (mixCo f k0 n) := by
  have hv0 : OwnCos w 3 42 gc m mv cv n (mixCo f k0 0) := by
    have e : mixCo f k0 0 = f := by funext i; unfold mixCo; rw [if_neg (by omega)]
    rw [e]; exact hv
  obtain ⟨xs0, ⟨A, cap, rfl, hc, hm, hnil, _⟩, _, _, _⟩ := hv
  have hm' := hm
  unfold maxLen at hm'
  have Hv := Lib.hid hv0
  have Ha := Lib.hid ha
  clear hv0 ha hnil
  go_enter Try.func51, Try.ntmps51
  go_wp2
  go_loopw [1, 5] (fun q i wr => ∃ j : Nat, j ≤ n ∧ i = .int .i64 j ∧ q = .int .i64 (markAt f k0 j) ∧ Hid (Kept (fun k => (0 < n → k ≠ gc) ∧ ∀ i, i < n → 0 < (f i).map.length → k ≠ m i) w wr) ∧ Hid (wr.heap.size = w.heap.size) ∧
      Hid (OwnCos wr 3 42 gc m mv (.slice A n cap) n (mixCo f k0 j))) (fun _ i _ => n - (intOf i).toNat)
  case atStart => exact ⟨0, Nat.zero_le _, rfl, by simp [markAt, lenSum], Kept.refl _ _, rfl, Hv.out⟩
  case round =>
    obtain ⟨j, hj, rfl, rfl, hk, hs, ho⟩ := hrel
    by_cases hlt : j < n
    · have hms := lenSum_mono f (show j + 1 ≤ n by omega)
      have hms1 : lenSum f (j + 1) = lenSum f j + (f j).map.length := rfl
      have hat : markAt f k0 j = k0 + 2 * (j : Int) + (lenSum f j : Int) := rfl
      have hb0 : 0 ≤ markAt f k0 j := by rw [hat]; omega
      have hb1 : markAt f k0 j + 2 + ((f j).map.length : Int) ≤ 900000000 := by rw [hat]; omega
      have hnext := Lib.hid (markAt_succ f k0 j)
      clear hms hms1 hat
      obtain ⟨xs, ⟨A2, cap2, e2, _, _, _, hrow⟩, hx, hcells, hmaps⟩ := ho.out
      injection e2 with e2 e3 e4
      subst e2 e4
      obtain ⟨rfl, rest, hr⟩ := hrow (by omega)
      obtain ⟨_, _, cz⟩ := hcells j hlt
      have hmj := hmaps j hlt
      have emj : mixCo f k0 j j = f j := by unfold mixCo; rw [if_neg (by omega)]
      rw [emj] at hmj
      have hmj2 := hmj
      obtain ⟨A3, cap3, e5, _, _, _, _⟩ := hmj2
      have d0 := hr.cell_some (i := j * 3) (by simp; omega)
      have d1 := hr.cell_some (i := j * 3 + 1) (by simp; omega)
      have d2 : wr.cell? ⟨gc, j * 3 + 2, none⟩ = some (.slice A3 (f j).map.length cap3) := by
        rw [hr.cell, List.getElem?_append_left (by omega), cz, e5]
      have f0 := hr.frozen (j * 3)
      have f1 := hr.frozen (j * 3 + 1)
      generalize (xs ++ rest)[j * 3]'(by simp; omega) = y0 at d0
      generalize (xs ++ rest)[j * 3 + 1]'(by simp; omega) = y1 at d1
      have Hr := Lib.hid hr
      have Hmj := Lib.hid hmj
      have He5 := Lib.hid e5
      have Hcells := Lib.hid hcells
      have Hmaps := Lib.hid hmaps
      have Hx := Lib.hid hx
      clear hr hmj e5 hcells hmaps hx hrow cz emj
      go_wp2_with fail
      rw [show (markAt f k0 j + 1 + 1 : Int) = markAt f k0 j + 2 from by omega]
      have hne : 0 < (f j).map.length → m j ≠ gc := fun h => (Ha.out j hlt h).1
      have hmjS : OwnI wr 3 (m j) (.slice A3 (f j).map.length cap3) (f j).map := by rw [← He5.out]; exact Hmj.out
      have hmjW : OwnI ((wr.setCell ⟨gc, j * 3, none⟩ (.int .i64 (markAt f k0 j))).setCell ⟨gc, j * 3 + 1, none⟩ (.int .i64 (markAt f k0 j + 1))) 3 (m j) (.slice A3 (f j).map.length cap3) (f j).map :=
        hmjS.keep fun h => (Below.heap_setCell _ _ _ _ (hne h)).trans (Below.heap_setCell _ _ _ _ (hne h))
      refine (markIntS_any (m j) _ (f j).map (markAt f k0 j + 2) _ hmjW (by omega) (by omega)).mono ?_
      rintro e w1 ⟨rfl, hk1, ho1, hs1⟩
      have Hk1 := Lib.hid hk1
      have Ho1 := Lib.hid ho1
      have Hs1 := Lib.hid hs1
      clear hk1 ho1 hs1 hmjS hmjW
      go_wp2
      go_roundw
      case rel =>
        refine ⟨j + 1, by omega, by go_num, by rw [hnext.out], ?_, ?_, ?_⟩
        · refine ((hk.out.setCell (fun h => h.1 (by omega) rfl) _).setCell (fun h => h.1 (by omega) rfl) _).trans (Hk1.out.weak fun k hS h => hS.2 j hlt h)
        · show w1.heap.size = w.heap.size
          rw [Hs1.out]
          simpa [World.setCell] using hs.out
        · have hgc : w1.heap[gc]? = ((wr.setCell ⟨gc, j * 3, none⟩ (.int .i64 (markAt f k0 j))).setCell ⟨gc, j * 3 + 1, none⟩ (.int .i64 (markAt f k0 j + 1))).heap[gc]? :=
            Hk1.out.block gc (by have := Hr.out.lt; simpa [World.setCell] using this) (fun h => (hne h).symm)
          have hrow2 := ((Hr.out.set_ (j * 3) (.int .i64 (markAt f k0 j))).set_ (j * 3 + 1) (.int .i64 (markAt f k0 j + 1))).keep hgc
          have hxl : xs.length = n * 3 := Hx.out
          rw [List.set_append_left _ _ (by omega), List.set_append_left _ _ (by simp; omega)] at hrow2
          refine OwnCos.step rfl hc hm rfl hlt hxl Hcells.out hrow2 (fun i hi hij => ?_) (by rw [He5.out]; exact Ho1.out)
          have hmi : OwnI wr 3 (m i) (mv i) (mixCo f k0 j i).map := Hmaps.out i hi
          refine hmi.keep fun h => ?_
          rw [mixCo_len] at h
          have h2 := (Ha.out i hi h).1
          have hlt1 : m i < wr.heap.size := hmi.lt (by rw [mixCo_len]; exact h)
          have e1 : ((wr.setCell ⟨gc, j * 3, none⟩ (.int .i64 (markAt f k0 j))).setCell ⟨gc, j * 3 + 1, none⟩ (.int .i64 (markAt f k0 j + 1))).heap[m i]? = wr.heap[m i]? := (Below.heap_setCell _ _ _ _ h2).trans (Below.heap_setCell _ _ _ _ h2)
          exact (Hk1.out.block (m i) (by simpa [World.setCell] using hlt1) (fun h3 => (Ha.out j hlt h3).2 i hi hij h)).trans e1
      case measure => simp [intOf]; omega
    · obtain rfl : j = n := by omega
      go_wp2
      go_ret
      exact ⟨rfl, hk.out, hs.out, ho.out⟩
end Go.Proofs.Ytplncocfbajefaa

