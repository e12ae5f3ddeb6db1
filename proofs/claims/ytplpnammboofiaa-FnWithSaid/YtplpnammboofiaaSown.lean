/-
  The contracts of the model's functions that copy a coercion, and a list of them, and types.
-/
import Derived.Test.YtplpnammboofiaaCopyw
namespace Go.Proofs.Ytplpnammboofiaa
open Go.RowKit

theorem grown_cell {w w' : World} {g : Nat} (h : w.grownBy w' (some g)) (b o : Nat) (hb : b < w.heap.size) (hne : b ≠ g) : w'.cell? ⟨b, o, none⟩ = w.cell? ⟨b, o, none⟩ :=
  World.cell?_of_block (a := ⟨b, o, none⟩) (h.block b hb (fun e => hne (by injection e)))
theorem grown_frozen {w w' : World} {g : Nat} (h : w.grownBy w' (some g)) (b o : Nat) (hb : b < w.heap.size) (hne : b ≠ g) : w'.frozen? ⟨b, o, none⟩ = w.frozen? ⟨b, o, none⟩ :=
  World.frozen?_of_block (a := ⟨b, o, none⟩) (h.block b hb (fun e => hne (by injection e)))
theorem run_append_owned_none' {P : Program} {w : World} (base : Nat) (t ty e : TypeId) (i : TypeInfo) (size : Nat) (ht : P.underlying t = some (.slice e)) (hi : P.info? e = some i)
    (v : Value) (n : Nat) (xs : List Value) (c : Nat) (hown : w.ownsRow base e size v n xs) :
    (Builtin.append_ #[t, t] ty #[v, .slice none 0 c]).run P w = .ok v w := by
  rcases hown.2 with ⟨rfl, rfl⟩ | ⟨g, cap, cur, rfl, _, _, hnc, _⟩
  · simp [Builtin.append_, run_underlying ht, sizeOf, typeInfo, hi, Builtin.lenOf, Builtin.firstCells]
  · simp [Builtin.append_, run_underlying ht, sizeOf, typeInfo, hi, Builtin.lenOf, Builtin.firstCells, hnc, storeCells]
theorem wpList_append_own_none' {P : Program} {w : World} {ops : Array Oper} {rest : List Oper} {o : Oper} {a : Act} {Q : Exit → Act → World → Prop} (hgd : o.guard = none) (s x : Operand) (t : TypeId)
    (ho : o.op = .call { callee := .builtin .append, args := #[s, x], argTypes := #[t, t] })
    (base : Nat) (e : TypeId) (i : TypeInfo) (size : Nat) (ht : P.underlying t = some (.slice e)) (hi : P.info? e = some i)
    (v : Value) (n : Nat) (xs : List Value) (c : Nat) (hs : a.eval s = v) (hown : w.ownsRow base e size v n xs) (hx : a.eval x = .slice none 0 c)
    (h : wpList P ops Q rest (a.put o.dst v) w) : wpList P ops Q (o :: rest) a w := by
  refine wpList_plain hgd fun K hK => ?_
  have hrun := run_append_owned_none' (P := P) (w := w) base t o.type e i size ht hi v n xs c hown
  unfold Oper.wp
  simp [execOp, ho, resolve, invoke, builtin, hs, hx, hrun, Result.andThen]
  exact hK _ _ h

set_option maxRecDepth 100000 in
set_option maxHeartbeats 1000000 in
theorem ownCo_any (lo hi : Nat) (x y z : Value) (c : Co) (w : World) (hv : CoAt w lo hi x y z c) (hB : hi ≤ w.heap.size) (hlen : c.map.length ≤ 1048576) :
    Calls Try.prog 77 #[.agg #[x, y, z]] w (Copied w.heap.size c w) := by
  obtain ⟨rfl, rfl, hs, hd, hz⟩ := hv
  obtain ⟨A, cap, rfl, hl, hm, hz⟩ := hz.form
  obtain ⟨i0, hi0, hz0, hz1, hz2⟩ := info_parts Try.infoInt
  have h3 : Below w.heap.size w (((w.alloc (.cells #[.int .i64 c.src, .int .i64 c.dst, .slice A c.map.length cap] 28)).alloc (.cells #[.int .i64 0, .int .i64 0, .slice none 0 0] 28)).alloc (.cells #[] 3)) := by go_grown
  have hw2 : (((w.alloc (.cells #[.int .i64 c.src, .int .i64 c.dst, .slice A c.map.length cap] 28)).alloc (.cells #[.int .i64 0, .int .i64 0, .slice none 0 0] 28)).heap.size) = w.heap.size + 1 + 1 := by simp
  have h0 := World.ownsRow_lit (base := w.heap.size + 1 + 1) (e := 3) (size := 1) ((w.alloc (.cells #[.int .i64 c.src, .int .i64 c.dst, .slice A c.map.length cap] 28)).alloc (.cells #[.int .i64 0, .int .i64 0, .slice none 0 0] 28)) #[] 0 (by rw [hw2]; exact Nat.le_refl _) (by unfold maxLen; omega) rfl
  rw [hw2] at h0
  have H0 := Lib.hid h0
  have Hz := Lib.hid (hz.below h3 hB)
  have H3 := Lib.hid h3
  clear h0 hz h3 hw2
  rcases A with _ | ad
  · have hn : c.map = [] := by
      rcases hc : c.map with _ | ⟨z, zs⟩
      · rfl
      · obtain ⟨b, off, e, _⟩ := Hz.out.at_ (k := 0) (by rw [hc]; simp)
        cases e
    have hn' : c.map.length = 0 := by rw [hn]; rfl
    rw [hn'] at Hz ⊢
    go_enter Try.func77, Try.ntmps77
    go_wp2
    refine bodyPost_ret (v := .agg #[.int .i64 c.src, .int .i64 c.dst, .slice (some ⟨w.heap.size + 1 + 1, 0, none⟩) 0 0]) (by simp [results, Try.results77, go_sem]) rfl ?_
    refine ⟨_, rfl, by go_grown, ?_⟩
    have h1 := World.ownsRow_lit (base := w.heap.size) (e := 3) (size := 1) ((w.alloc (.cells #[.int .i64 c.src, .int .i64 c.dst, .slice (some ⟨w.heap.size + 1 + 1, 0, none⟩) 0 0] 28)).alloc (.cells #[.int .i64 c.src, .int .i64 c.dst, .slice (some ⟨w.heap.size + 1 + 1, 0, none⟩) 0 0] 28)) #[] 0 (by simp; omega) (by unfold maxLen; omega) rfl
    rw [hn]
    simpa using h1
  · have Hc := Lib.hid Hz.out.cells
    go_enter Try.func77, Try.ntmps77
    go_wp2_with (at_builtin; refine wpList_append_own _ rfl (.tmp 3) (.tmp 5) 23 rfl (w.heap.size + 1 + 1) 3 i0 (.int .i64 0) 1 8 Try.underlying23 hi0 hz0 hz1 hz2 rfl (by decide) _ _ _ rfl H0.out ad c.map.length cap (c.map.map (Value.int .i64)) rfl (by simp) Hc.out (ints_oneCell' c.map) (by unfold maxLen; omega) (by omega) (by simp) ?_; intro v' w2 hown2 hgrow _; obtain ⟨VA, VC, rfl⟩ := owns_form hown2; have hb := H3.out.grown hgrow (by simp; omega) (fun k hk => (by have h : (some (w.heap.size + 1 + 1) : Option Nat) = some k := hk; injection h with h; omega)); have hs2 := hgrow.size; simp only [World.size_alloc] at hs2; have hgrow' : World.grownBy _ w2 (some (w.heap.size + 1 + 1)) := hgrow; have e0 := grown_cell hgrow' w.heap.size 0 (by simp; omega) (by omega); have e1 := grown_cell hgrow' w.heap.size 1 (by simp; omega) (by omega); have e2 := grown_cell hgrow' w.heap.size 2 (by simp; omega) (by omega); have d0 := grown_cell hgrow' (w.heap.size + 1) 0 (by simp) (by omega); have d1 := grown_cell hgrow' (w.heap.size + 1) 1 (by simp) (by omega); have d2 := grown_cell hgrow' (w.heap.size + 1) 2 (by simp) (by omega); have f2 := grown_frozen hgrow' w.heap.size 2 (by simp; omega) (by omega); have k0 := grown_frozen hgrow' (w.heap.size + 1) 0 (by simp) (by omega); have k1 := grown_frozen hgrow' (w.heap.size + 1) 1 (by simp) (by omega); have k2 := grown_frozen hgrow' (w.heap.size + 1) 2 (by simp) (by omega); simp [go_sem] at e0 e1 e2 d0 d1 d2 f2 k0 k1 k2; have e2' : ∀ u, (w2.setCell ⟨w.heap.size, 2, none⟩ u).cell? ⟨w.heap.size, 2, none⟩ = some u := (fun u => World.cell?_setCell_same _ _ _ e2); have Hown2 := Lib.hid hown2; have Hb := Lib.hid hb; clear hown2 hgrow hgrow' hb)
    refine bodyPost_ret (v := .agg #[.int .i64 c.src, .int .i64 c.dst, .slice VA c.map.length VC]) (by simp [results, Try.results77, go_sem, d0, d1, d2]) rfl ?_
    refine ⟨_, rfl, ?_, ?_⟩
    · exact (((Hb.out.setCell (by dsimp only; omega) _).setCell (by dsimp only; omega) _).setCell (by dsimp only; omega) _).setCell (by dsimp only; omega) _
    · have ho : w2.ownsRow (w.heap.size + 1 + 1) 3 1 (.slice VA c.map.length VC) c.map.length (c.map.map (Value.int .i64)) := by simpa using Hown2.out
      exact ownsRow_lower (ownsRow_keep ho fun g hg hgl => (Below.heap_setCell _ _ _ _ (by dsimp only; omega)).trans ((Below.heap_setCell _ _ _ _ (by dsimp only; omega)).trans ((Below.heap_setCell _ _ _ _ (by dsimp only; omega)).trans (Below.heap_setCell _ _ _ _ (by dsimp only; omega))))) (by omega)

theorem CosOwned.lit (w : World) (base : Nat) (f : Nat → Co) (hb : base ≤ w.heap.size) : CosOwned (w.alloc (.cells #[] 28)) base (.slice (some ⟨w.heap.size, 0, none⟩) 0 0) f 0 :=
  ⟨[], fun _ => 0, fun _ => .slice none 0 0, World.ownsRow_lit w #[] 0 hb (by unfold maxLen; omega) rfl, fun i hi => absurd hi (by omega), fun i hi => absurd hi (by omega), fun i hi => absurd hi (by omega)⟩

set_option maxRecDepth 100000 in
set_option maxHeartbeats 2000000 in
theorem ownList_any (lo hi : Nat) (v : Value) (cs : List Co) (w : World) (hv : CosAt w lo hi v cs) (hB : hi ≤ w.heap.size) (hn : cs.length ≤ 1048576) (hmaps : ∀ j, ∀ (hj : j < cs.length), cs[j].map.length ≤ 1048576) :
    Calls Try.prog 78 #[v] w fun e w' => ∃ l, e = .returned l ∧ Below w.heap.size w w' ∧ CosOwned w' w.heap.size l (fun i => cs.getD i default) cs.length := by
  obtain ⟨B, bap, rfl, hl2, hm2, hc1⟩ := hv.form
  unfold maxLen at hm2
  obtain ⟨i0, hi0, hz0, hz1, hz2⟩ := info_parts infoCoercionW
  have hl3 := Lib.hid hmaps
  have Hc1 := Lib.hid hc1
  clear hv hc1 hmaps
  go_enter Try.func78, Try.ntmps78
  go_wp2
  go_loopw [3, 9] (fun l i wr => ∃ (j : Nat), j ≤ cs.length ∧ i = .int .i64 j ∧ Hid (Below w.heap.size w wr) ∧ Hid (CosOwned wr w.heap.size l (fun i => cs.getD i default) j)) (fun _ i _ => cs.length - (intOf i).toNat)
  case atStart => exact ⟨0, Nat.zero_le _, rfl, Lib.hid ((Below.refl _ _).alloc (Nat.le_refl _) _), CosOwned.lit _ _ _ (Nat.le_refl _)⟩
  case round =>
    obtain ⟨j, hj, rfl, hb, hown⟩ := hrel
    by_cases hlt : j < cs.length
    · obtain ⟨b, off, A2, cap2, rfl, hlo, hhi, c0, c1, c2, h5, h6, hs, hd, hz2'⟩ := (Hc1.out.below hb.out hB).at_ hlt
      have hmap := hl3.out j hlt
      obtain ⟨xs, m, mv, how, hmo⟩ := hown.out
      obtain ⟨LA, LC, rfl⟩ := owns_form how
      have How := Lib.hid how
      have Hmo := Lib.hid hmo
      have hbs := hb.out.size
      have hdraw : Below hi wr (wr.alloc (.cells #[.int .i64 cs[j].src, .int .i64 cs[j].dst, .slice A2 cs[j].map.length cap2] 28)) := (Below.refl _ _).alloc (by omega) _
      have Hz3 := Lib.hid (hz2'.below hdraw (Nat.le_refl _))
      clear how hmo hz2' hdraw
      go_wp2_with fail
      refine (ownCo_any lo hi _ _ _ cs[j] _ ⟨rfl, rfl, hs, hd, Hz3.out⟩ (by simp; omega) hmap).mono ?_
      rintro e w2 ⟨v2, rfl, hb2, hown2⟩
      obtain ⟨VA2, VC2, rfl⟩ := owns_form hown2
      have hsz2 : wr.heap.size + 1 ≤ w2.heap.size := by simpa using hb2.size
      have H2 := Lib.hid (ownsRow_keep How.out fun g hg hgl => (hb2.block g (by (try simp); (try omega))).trans (Below.heap_alloc wr _ g hgl))
      have hq : Below wr.heap.size _ w2 := hb2.mono (by (try simp); (try omega))
      have hb12 : Below wr.heap.size wr w2 := ((Below.refl _ wr).alloc (Nat.le_refl _) (.cells #[.int .i64 cs[j].src, .int .i64 cs[j].dst, .slice A2 cs[j].map.length cap2] 28)).trans hq
      have ho2 := Lib.hid (ownsRow_lower (base' := wr.heap.size) hown2 (by (try simp); (try omega)))
      have Hb12 := Lib.hid hb12
      clear hb2 hown2 hq hb12
      go_wp2_with (at_builtin; refine wpList_append_lies _ rfl (.tmp 13) (.tmp 16) 24 rfl w.heap.size 28 i0 _ 3 40 Try.underlying24 hi0 hz0 hz1 hz2 rfl (by omega) (.slice LA j LC) j xs rfl (H2.out.alloc _) ⟨w2.heap.size, 0, none⟩ 1 1 [.int .i64 cs[j].src, .int .i64 cs[j].dst, .slice VA2 cs[j].map.length VC2] rfl rfl (World.news_of_block (cs := #[.int .i64 cs[j].src, .int .i64 cs[j].dst, .slice VA2 cs[j].map.length VC2]) (t := 28) (fr := (0, 0)) (heap_alloc_new w2 _)) (by simp [Value.oneCell']) (by omega) (by unfold maxLen; omega) (by omega) (by (try simp); (try omega)) (w2.heap.size + 1) (by simp) ?_; intro g' cap3 w3 hown3 hgrow hat hlt3; have Hown3 := Lib.hid hown3; have Hgrow := Lib.hid hgrow; have Hat := Lib.hid hat; clear hown3 hgrow hat)
      have hpush := CosOwned.push (w2 := w2) Hmo.out How.out (by omega) (show cs.getD j default = cs[j] by rw [List.getD_eq_getElem?_getD, List.getElem?_eq_getElem hlt]; rfl) Hb12.out ho2.out Hgrow.out Hat.out Hown3.out
      have hb13 : Below w.heap.size w w3 := ((hb.out.trans (Hb12.out.mono (by omega))).alloc (by omega) _).grown Hgrow.out (by (try simp); (try omega)) (fun k hk => by have := (owns_lt How.out k hk).1; omega)
      have Hpush := Lib.hid hpush
      have Hb13 := Lib.hid hb13
      clear hpush hb13
      go_roundw
      case rel => exact ⟨j + 1, by omega, by go_num, Hb13, Hpush⟩
      case measure => simp [intOf]; omega
    · obtain rfl : j = cs.length := by omega
      go_wp2
      go_ret
      exact ⟨_, rfl, hb.out, hown.out⟩
end Go.Proofs.Ytplpnammboofiaa
