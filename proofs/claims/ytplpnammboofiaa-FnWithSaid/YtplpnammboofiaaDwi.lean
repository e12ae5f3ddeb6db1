/-
  The contract of the model's DrawWithCoercion.
-/
import Derived.Test.YtplpnammboofiaaBad
import Derived.Test.YtplpnammboofiaaSv
namespace Go.Proofs.Ytplpnammboofiaa
open Go.RowKit

/-- What holds between two calls of DrawWithCoercion: the reader's block is w.heap.size + 2, the types' box T. -/
structure DwS (w : World) (T : Nat) (sv cv : Value) (t : Ty) (B : Nat) (u : World) : Prop where
  bel : Below w.heap.size w u
  rd : RdAt u (w.heap.size + 2) B
  ty : TyAt u (w.heap.size + 3) T sv cv t
  r0 : Row u w.heap.size 26 [.slice none 0 0, .slice none 0 0]
  r1 : Row u (w.heap.size + 1) 28 [.int .i64 0, .int .i64 0, .slice none 0 0]
  rt : Row u T 26 [sv, cv]
  lt : w.heap.size + 3 ≤ T
theorem DwS.sz {w u : World} {T : Nat} {sv cv : Value} {t : Ty} {B : Nat} (h : DwS w T sv cv t B u) : T < u.heap.size := h.rt.lt
theorem DwS.drew {w u : World} {T : Nat} {sv cv : Value} {t : Ty} {B : Nat} (h : DwS w T sv cv t B u) : DwS w T sv cv t B u.drew :=
  ⟨h.bel.drew, h.rd.keep fun _ _ => rfl, h.ty, h.r0, h.r1, h.rt, h.lt⟩
theorem DwS.grown {w u u' : World} {T : Nat} {sv cv : Value} {t : Ty} {B B' : Nat} (h : DwS w T sv cv t B u) (hg : u.grownBy u' (some (w.heap.size + 2))) (hr : RdAt u' (w.heap.size + 2) B') : DwS w T sv cv t B' u' := by
  have hT := h.sz
  have hl := h.lt
  have hk : ∀ g, g < u.heap.size → g ≠ w.heap.size + 2 → u'.heap[g]? = u.heap[g]? := fun g h1 h2 => hg.block g h1 (fun e => h2 (by simpa using e))
  exact ⟨⟨hg.os.trans h.bel.os, hg.tape.trans h.bel.tape, hg.output.trans h.bel.output, Nat.le_trans h.bel.size hg.size, fun g h1 => (hk g (by omega) (by omega)).trans (h.bel.block g h1)⟩,
    hr, h.ty.keep fun g h1 h2 => hk g (by omega) (by omega), h.r0.keep (hk _ (by omega) (by omega)), h.r1.keep (hk _ (by omega) (by omega)), h.rt.keep (hk _ hT (by omega)), h.lt⟩
theorem DwS.below {w u u' : World} {T : Nat} {sv cv : Value} {t : Ty} {B : Nat} (h : DwS w T sv cv t B u) (hb : Below u.heap.size u u') : DwS w T sv cv t B u' := by
  have hT := h.sz
  have hl := h.lt
  exact ⟨h.bel.trans (hb.mono (by omega)), h.rd.keep fun g hg => hb.block g (by omega), h.ty.below hb (by omega), h.r0.below hb (by omega), h.r1.below hb (by omega), h.rt.below hb hT, h.lt⟩
theorem DwS.cells {w u : World} {T : Nat} {sv cv : Value} {t : Ty} {B : Nat} (h : DwS w T sv cv t B u) : u.cell? ⟨T, 0, none⟩ = some sv ∧ u.cell? ⟨T, 1, none⟩ = some cv := ⟨h.rt.cell 0, h.rt.cell 1⟩

theorem ints_lit2 (w : World) (a b : Int) (h : ∀ z ∈ [a, b], I64 z) : IntsAt (w.alloc (.cells #[.int .i64 a, .int .i64 b] 3)) w.heap.size (w.heap.size + 1) (.slice (some ⟨w.heap.size, 0, none⟩) 2 2) [a, b] :=
  (Row.new w 3 [.int .i64 a, .int .i64 b]).ints (zs := [a, b]) h (Nat.le_refl _) (Nat.lt_succ_self _) (Nat.le_refl _) (by unfold maxLen; decide)

/-- The two results are written. -/
def set5 (u : World) (b : Nat) (sv cv x y z : Value) : World := ((((u.setCell ⟨b, 0, none⟩ sv).setCell ⟨b, 1, none⟩ cv).setCell ⟨b + 1, 0, none⟩ x).setCell ⟨b + 1, 1, none⟩ y).setCell ⟨b + 1, 2, none⟩ z
theorem set5_size (u : World) (b : Nat) (sv cv x y z : Value) : (set5 u b sv cv x y z).heap.size = u.heap.size := by simp [set5, World.setCell]
theorem set5_heap (u : World) (b : Nat) (sv cv x y z : Value) (g : Nat) (h1 : g ≠ b) (h2 : g ≠ b + 1) : (set5 u b sv cv x y z).heap[g]? = u.heap[g]? :=
  (Below.heap_setCell _ _ _ _ (by dsimp only; omega)).trans ((Below.heap_setCell _ _ _ _ (by dsimp only; omega)).trans ((Below.heap_setCell _ _ _ _ (by dsimp only; omega)).trans ((Below.heap_setCell _ _ _ _ (by dsimp only; omega)).trans (Below.heap_setCell _ _ _ _ (by dsimp only; omega)))))
theorem set5_alloc (u : World) (b : Nat) (sv cv x y z : Value) (o : Obj) : Below u.heap.size (set5 u b sv cv x y z) ((set5 u b sv cv x y z).alloc o) := by
  have h : u.heap.size ≤ (set5 u b sv cv x y z).heap.size := Nat.le_of_eq (set5_size u b sv cv x y z).symm
  exact (Below.refl _ _).alloc h _
theorem set5_alloc_size (u : World) (b : Nat) (sv cv x y z : Value) (o : Obj) : u.heap.size + 1 ≤ ((set5 u b sv cv x y z).alloc o).heap.size := by
  rw [World.size_alloc, set5_size]
  exact Nat.le_refl _
theorem ints_lit2s (u : World) (b : Nat) (sv cv x y z : Value) (p q : Int) (h : ∀ z ∈ [p, q], I64 z) : IntsAt ((set5 u b sv cv x y z).alloc (.cells #[.int .i64 p, .int .i64 q] 3)) u.heap.size (u.heap.size + 1) (.slice (some ⟨u.heap.size, 0, none⟩) 2 2) [p, q] := by
  have h := ints_lit2 (set5 u b sv cv x y z) p q h
  rwa [set5_size] at h
theorem DwS.fin {w u : World} {T : Nat} {sv cv : Value} {t : Ty} {B : Nat} (hS : DwS w T sv cv t B u) (hbd : BdOk t) (f g : Int) (z : Value) (zs : List Int) (hf : I64 f) (hg : I64 g) (hzl : zs.length ≤ 20) (w' : World)
    (hb : Below u.heap.size (set5 u w.heap.size sv cv (.int .i64 f) (.int .i64 g) z) w') (hz : IntsAt w' (w.heap.size + 3) w'.heap.size z zs) :
    ∃ sv' cv' t' x y z' c, (Ending.returned (.tuple #[.agg #[sv, cv], .agg #[.int .i64 f, .int .i64 g, z]]) : Ending) = .returned (.tuple #[.agg #[sv', cv'], .agg #[x, y, z']]) ∧
      Below w.heap.size w w' ∧ TyAt w' w.heap.size w'.heap.size sv' cv' t' ∧ BdOk t' ∧ CoAt w' w.heap.size w'.heap.size x y z' c ∧ c.map.length ≤ 20 := by
  have hT := hS.sz
  have hl := hS.lt
  have hk : ∀ g, g < u.heap.size → g ≠ w.heap.size → g ≠ w.heap.size + 1 → w'.heap[g]? = u.heap[g]? := fun g h0 h1 h2 => (hb.block g h0).trans (set5_heap _ _ _ _ _ _ _ g h1 h2)
  have hs := hb.size
  rw [set5_size] at hs
  have hb5 : Below w.heap.size w (set5 u w.heap.size sv cv (.int .i64 f) (.int .i64 g) z) := ((((hS.bel.setCell (by dsimp only; omega) _).setCell (by dsimp only; omega) _).setCell (by dsimp only; omega) _).setCell (by dsimp only; omega) _).setCell (by dsimp only; omega) _
  exact ⟨sv, cv, t, _, _, z, ⟨f, g, zs⟩, rfl, hb5.trans (hb.mono (by omega)), (hS.ty.keep fun g h1 h2 => hk g (by omega) (by omega) (by omega)).more (by omega) (by omega), hbd, ⟨rfl, rfl, hf, hg, hz.more (by omega) (Nat.le_refl _)⟩, hzl⟩

set_option maxRecDepth 100000 in
set_option maxHeartbeats 40000000 in
theorem drawWith_any (v : Value) (w : World) (h : CodeAt w w.heap.size v) :
    Calls Try.prog 7 #[v] w fun e w' => ∃ sv cv t x y z c, e = .returned (.tuple #[.agg #[sv, cv], .agg #[x, y, z]]) ∧ Below w.heap.size w w' ∧ TyAt w' w.heap.size w'.heap.size sv cv t ∧ BdOk t ∧ CoAt w' w.heap.size w'.heap.size x y z c ∧ c.map.length ≤ 20 := by
  obtain ⟨w0, hw0⟩ : ∃ u, u = (w.alloc (.cells #[.slice none 0 0, .slice none 0 0] 26)).alloc (.cells #[.int .i64 0, .int .i64 0, .slice none 0 0] 28) := ⟨_, rfl⟩
  have hb0 : Below w.heap.size w w0 := by rw [hw0]; go_grown
  have hz0 : w0.heap.size = w.heap.size + 2 := by rw [hw0]; simp
  have hr0 : Row w0 w.heap.size 26 [.slice none 0 0, .slice none 0 0] := by rw [hw0]; exact (Row.new w 26 _).alloc _
  have hr1 : Row w0 (w.heap.size + 1) 28 [.int .i64 0, .int .i64 0, .slice none 0 0] := by rw [hw0]; have := Row.new (w.alloc (.cells #[.slice none 0 0, .slice none 0 0] 26)) 28 [.int .i64 0, .int .i64 0, .slice none 0 0]; simpa using this
  have hc0 : CodeAt w0 (w.heap.size + 2) v := by
    obtain ⟨A, n, c, e, h1, h2, h3⟩ := h
    refine ⟨A, n, c, e, h1, h2, fun h0 => ?_⟩
    obtain ⟨a, off, e2, h4, h5⟩ := h3 h0
    refine ⟨a, off, e2, by omega, fun k hk => ?_⟩
    obtain ⟨x, hx, hc⟩ := h5 k hk
    exact ⟨x, hx, (World.cell?_of_block (a := ⟨a, off + k, none⟩) (hb0.block a h4)).trans hc⟩
  have HO := Lib.hid (l13Open_any (w.heap.size + 2) v _ hc0 (by omega))
  have HB0 := Lib.hid hb0
  have HR0 := Lib.hid hr0
  have HR1 := Lib.hid hr1
  clear h hb0 hc0 hr0 hr1
  go_enter Try.func7, Try.ntmps7
  go_wp2_with fail
  rewrite [← hw0]
  refine HO.out.mono ?_
  rintro e w1 ⟨rfl, hb1, hs1, hrd1⟩
  rewrite [hz0] at hs1 hrd1 ⊢
  have HB1 := Lib.hid (HB0.out.trans (hb1.mono (by omega)))
  have HR01 := Lib.hid (HR0.out.below hb1 (by omega))
  have HR11 := Lib.hid (HR1.out.below hb1 (by omega))
  have HRd1 := Lib.hid hrd1
  clear hb1 hrd1 HB0 HR0 HR1 HO hw0 hz0
  go_wp2_with fail
  refine (someT_any (w.heap.size + 2) 0 w1 HRd1.out (by omega)).mono ?_
  rintro e w2 ⟨sv, cv, t, rfl, hrd2, hg2, hv2, hd2⟩
  obtain ⟨A, cap, rfl, _, hmA, _⟩ := hv2.1.form
  obtain ⟨C, cbp, rfl, _, _, _⟩ := hv2.2.form
  have hs2 := hg2.size
  have hk2 : ∀ g, g < w1.heap.size → g ≠ w.heap.size + 2 → w2.heap[g]? = w1.heap[g]? := fun g h1 h2 => hg2.block g h1 (fun e => h2 (by simpa using e))
  have HB2 : Hid (Below w.heap.size w w2) := ⟨hg2.os.trans HB1.out.os, hg2.tape.trans HB1.out.tape, hg2.output.trans HB1.out.output, Nat.le_trans HB1.out.size hs2, fun g hg => (hk2 g (by omega) (by omega)).trans (HB1.out.block g hg)⟩
  obtain ⟨w3, hw3⟩ : ∃ u, u = w2.alloc (.cells #[.slice A t.sizes.length cap, .slice C t.cos.length cbp] 26) := ⟨_, rfl⟩
  have hb23 : Below w2.heap.size w2 w3 := by rw [hw3]; exact (Below.refl _ _).alloc (Nat.le_refl _) _
  have HS3 : Hid (DwS w w2.heap.size (.slice A t.sizes.length cap) (.slice C t.cos.length cbp) t 300 w3) :=
    ⟨HB2.out.trans (hb23.mono (by omega)), hrd2.keep fun g hg => hb23.block g (by omega), (hv2.below hb23 (Nat.le_refl _)).more (by omega) (Nat.le_refl _), (HR01.out.keep (hk2 _ (by omega) (by omega))).below hb23 (by omega), (HR11.out.keep (hk2 _ (by omega) (by omega))).below hb23 (by omega), by rw [hw3]; exact Row.new w2 26 _, by omega⟩
  have HD := Lib.hid hd2
  have hmA' : t.sizes.length ≤ maxLen := by omega
  unfold maxLen at hmA'
  clear hb23 hrd2 hv2 hg2 hk2 HR01 HR11 HRd1 HB1 HB2 hd2
  by_cases hlen : 1 < t.sizes.length
  · have c1 : (1 : Int) < (t.sizes.length : Int) := by omega
    go_wp2_with fail
    rewrite [← hw3]
    clear hw3
    refine (specValid_any (w.heap.size + 3) w2.heap.size _ _ t w3 HS3.out.ty (Nat.le_of_lt HS3.out.sz)).mono ?_
    rintro e w4 ⟨rfl, hb4⟩
    have HS4 := Lib.hid (HS3.out.below hb4)
    clear hb4
    cases ht : tyOk t with
    | false =>
      go_wp2_with fail
      obtain ⟨p0, p1⟩ := HS4.out.cells
      have hTl := HS4.out.sz
      have hTw := HS4.out.lt
      go_region_law (first
        | (go_simp; go_at_call 38; (with_reducible show Calls _ _ _ (World.drew w4) _); refine (l1Kind_any (w.heap.size + 2) 300 w4.drew HS4.out.drew.rd (by omega)).mono ?_; rintro e w7 ⟨f, hf, rfl, hrd7, hg7⟩; have HS7 := Lib.hid (HS4.out.drew.grown hg7 hrd7); have HF := Lib.hid hf; obtain ⟨p07, p17⟩ := HS7.out.cells; have hTl7 := HS7.out.sz; clear hrd7 hg7 hf)
        | (go_simp; go_at_call 38; (with_reducible show Calls _ _ _ w7 _); refine (l1Kind_any (w.heap.size + 2) (300 + 1) w7 HS7.out.rd (by omega)).mono ?_; rintro e w8 ⟨g, hg, rfl, hrd8, hg8⟩; have HS8 := Lib.hid (HS7.out.grown hg8 hrd8); have HG := Lib.hid hg; obtain ⟨p08, p18⟩ := HS8.out.cells; have hTl8 := HS8.out.sz; clear hrd8 hg8 hg)
        | (go_simp; go_at_call 36; refine (pick_any (w.heap.size + 2) (300 + 1 + 1) 3 w8 HS8.out.rd (by omega) (by omega)).mono ?_; rintro e w9 ⟨x, rfl, hx, hxz, hrd9, hg9, hs9⟩; clear hs9 hxz; have HS9 := Lib.hid (HS8.out.grown hg9 hrd9); have hx3 : (x : Int) < 3 := hx (by omega); obtain ⟨p09, p19⟩ := HS9.out.cells; have hTl9 := HS9.out.sz; have q0 := HS9.out.r0.cell 0; have q1 := HS9.out.r0.cell 1; have q2 := HS9.out.r1.cell 0; have q3 := HS9.out.r1.cell 1; have q4 := HS9.out.r1.cell 2; have qf0 := HS9.out.r0.frozen 0; have qf1 := HS9.out.r0.frozen 1; have qf2 := HS9.out.r1.frozen 0; have qf3 := HS9.out.r1.frozen 1; have qf4 := HS9.out.r1.frozen 2; simp only [List.getElem?_cons_zero, List.getElem?_cons_succ] at q0 q1 q2 q3 q4; have hl0 : w.heap.size < w9.heap.size := (by omega); have hl1 : w.heap.size + 1 < w9.heap.size := (by omega); clear hrd9 hg9 hx))
      all_goals
        have hz := ints_lit2s w9 w.heap.size (.slice A t.sizes.length cap) (.slice C t.cos.length cbp) (.int .i64 f) (.int .i64 g) (.slice (some ⟨w9.heap.size, 0, none⟩) 2 2) 0 x (by intro q hq; simp only [List.mem_cons, List.not_mem_nil, or_false] at hq; unfold I64; rcases hq with rfl | rfl <;> omega)
        have hfin := Lib.hid (HS9.out.fin HD.out f g _ [0, (x : Int)] HF.out HG.out (by simp) _ (set5_alloc _ _ _ _ _ _ _ _) (hz.more (by omega) (set5_alloc_size _ _ _ _ _ _ _ _)))
        have rA := (((((HS9.out.r0.set_ 0 (.slice A t.sizes.length cap)).set_ 1 (.slice C t.cos.length cbp)).far (p := ⟨w.heap.size + 1, 0, none⟩) (by dsimp only; omega) (.int .i64 f)).far (p := ⟨w.heap.size + 1, 1, none⟩) (by dsimp only; omega) (.int .i64 g)).far (p := ⟨w.heap.size + 1, 2, none⟩) (by dsimp only; omega) (.slice (some ⟨w9.heap.size, 0, none⟩) 2 2)).alloc (.cells #[.int .i64 0, .int .i64 x] 3)
        have rB := (((((HS9.out.r1.far (p := ⟨w.heap.size, 0, none⟩) (by dsimp only; omega) (.slice A t.sizes.length cap)).far (p := ⟨w.heap.size, 1, none⟩) (by dsimp only; omega) (.slice C t.cos.length cbp)).set_ 0 (.int .i64 f)).set_ 1 (.int .i64 g)).set_ 2 (.slice (some ⟨w9.heap.size, 0, none⟩) 2 2)).alloc (.cells #[.int .i64 0, .int .i64 x] 3)
        have k0 := rA.cell 0
        have k1 := rA.cell 1
        have k2 := rB.cell 0
        have k3 := rB.cell 1
        have k4 := rB.cell 2
        simp only [List.set_cons_zero, List.set_cons_succ, List.getElem?_cons_zero, List.getElem?_cons_succ] at k0 k1 k2 k3 k4
        clear rA rB hz
        repeat (first | go_values | go_skip | go_step)
        refine bodyPost_ret (v := .tuple #[.agg #[.slice A t.sizes.length cap, .slice C t.cos.length cbp], .agg #[.int .i64 f, .int .i64 g, .slice (some ⟨w9.heap.size, 0, none⟩) 2 2]]) (by simp [results, Try.results7, go_sem, k0, k1, k2, k3, k4]) rfl ?_
        exact hfin.out
    | true =>
      go_wp2_with fail
      refine (pick_any (w.heap.size + 2) 300 6 w4 HS4.out.rd (by omega) (by omega)).mono ?_
      rintro e w5 ⟨x6, rfl, hx6, hxz, hrd5, hg5, hs5⟩
      have HS5 := Lib.hid (HS4.out.grown hg5 hrd5)
      clear hrd5 hg5 hs5 hxz hx6
      by_cases hx0 : x6 = 0
      · subst hx0
        go_wp2_with fail
        obtain ⟨p0, p1⟩ := HS5.out.cells
        have hTl := HS5.out.sz
        have hTw := HS5.out.lt
        go_region_law (first
          | (go_simp; go_at_call 38; (with_reducible show Calls _ _ _ (World.drew w5) _); refine (l1Kind_any (w.heap.size + 2) (300 + 1) w5.drew HS5.out.drew.rd (by omega)).mono ?_; rintro e w7 ⟨f, hf, rfl, hrd7, hg7⟩; have HS7 := Lib.hid (HS5.out.drew.grown hg7 hrd7); have HF := Lib.hid hf; obtain ⟨p07, p17⟩ := HS7.out.cells; have hTl7 := HS7.out.sz; clear hrd7 hg7 hf)
          | (go_simp; go_at_call 38; (with_reducible show Calls _ _ _ w7 _); refine (l1Kind_any (w.heap.size + 2) ((300 + 1) + 1) w7 HS7.out.rd (by omega)).mono ?_; rintro e w8 ⟨g, hg, rfl, hrd8, hg8⟩; have HS8 := Lib.hid (HS7.out.grown hg8 hrd8); have HG := Lib.hid hg; obtain ⟨p08, p18⟩ := HS8.out.cells; have hTl8 := HS8.out.sz; clear hrd8 hg8 hg)
          | (go_simp; go_at_call 36; refine (pick_any (w.heap.size + 2) ((300 + 1) + 1 + 1) 3 w8 HS8.out.rd (by omega) (by omega)).mono ?_; rintro e w9 ⟨x, rfl, hx, hxz, hrd9, hg9, hs9⟩; clear hs9 hxz; have HS9 := Lib.hid (HS8.out.grown hg9 hrd9); have hx3 : (x : Int) < 3 := hx (by omega); obtain ⟨p09, p19⟩ := HS9.out.cells; have hTl9 := HS9.out.sz; have q0 := HS9.out.r0.cell 0; have q1 := HS9.out.r0.cell 1; have q2 := HS9.out.r1.cell 0; have q3 := HS9.out.r1.cell 1; have q4 := HS9.out.r1.cell 2; have qf0 := HS9.out.r0.frozen 0; have qf1 := HS9.out.r0.frozen 1; have qf2 := HS9.out.r1.frozen 0; have qf3 := HS9.out.r1.frozen 1; have qf4 := HS9.out.r1.frozen 2; simp only [List.getElem?_cons_zero, List.getElem?_cons_succ] at q0 q1 q2 q3 q4; have hl0 : w.heap.size < w9.heap.size := (by omega); have hl1 : w.heap.size + 1 < w9.heap.size := (by omega); clear hrd9 hg9 hx))
        all_goals
          have hz := ints_lit2s w9 w.heap.size (.slice A t.sizes.length cap) (.slice C t.cos.length cbp) (.int .i64 f) (.int .i64 g) (.slice (some ⟨w9.heap.size, 0, none⟩) 2 2) 0 x (by intro q hq; simp only [List.mem_cons, List.not_mem_nil, or_false] at hq; unfold I64; rcases hq with rfl | rfl <;> omega)
          have hfin := Lib.hid (HS9.out.fin HD.out f g _ [0, (x : Int)] HF.out HG.out (by simp) _ (set5_alloc _ _ _ _ _ _ _ _) (hz.more (by omega) (set5_alloc_size _ _ _ _ _ _ _ _)))
          have rA := (((((HS9.out.r0.set_ 0 (.slice A t.sizes.length cap)).set_ 1 (.slice C t.cos.length cbp)).far (p := ⟨w.heap.size + 1, 0, none⟩) (by dsimp only; omega) (.int .i64 f)).far (p := ⟨w.heap.size + 1, 1, none⟩) (by dsimp only; omega) (.int .i64 g)).far (p := ⟨w.heap.size + 1, 2, none⟩) (by dsimp only; omega) (.slice (some ⟨w9.heap.size, 0, none⟩) 2 2)).alloc (.cells #[.int .i64 0, .int .i64 x] 3)
          have rB := (((((HS9.out.r1.far (p := ⟨w.heap.size, 0, none⟩) (by dsimp only; omega) (.slice A t.sizes.length cap)).far (p := ⟨w.heap.size, 1, none⟩) (by dsimp only; omega) (.slice C t.cos.length cbp)).set_ 0 (.int .i64 f)).set_ 1 (.int .i64 g)).set_ 2 (.slice (some ⟨w9.heap.size, 0, none⟩) 2 2)).alloc (.cells #[.int .i64 0, .int .i64 x] 3)
          have k0 := rA.cell 0
          have k1 := rA.cell 1
          have k2 := rB.cell 0
          have k3 := rB.cell 1
          have k4 := rB.cell 2
          simp only [List.set_cons_zero, List.set_cons_succ, List.getElem?_cons_zero, List.getElem?_cons_succ] at k0 k1 k2 k3 k4
          clear rA rB hz
          repeat (first | go_values | go_skip | go_step)
          refine bodyPost_ret (v := .tuple #[.agg #[.slice A t.sizes.length cap, .slice C t.cos.length cbp], .agg #[.int .i64 f, .int .i64 g, .slice (some ⟨w9.heap.size, 0, none⟩) 2 2]]) (by simp [results, Try.results7, go_sem, k0, k1, k2, k3, k4]) rfl ?_
          exact hfin.out
      · have hx1 : (0 : Int) < (x6 : Int) := by omega
        obtain ⟨p0, p1⟩ := HS5.out.cells
        go_wp2_with fail
        obtain ⟨hss1, hss2, hss3⟩ := sizesOk_of (show sizesOk t.sizes = true by simp only [tyOk, Bool.and_eq_true] at ht; exact ht.1.1)
        refine (pick_any (w.heap.size + 2) (300 + 1) ((t.sizes.length : Int) - 1) w5 HS5.out.rd (by omega) (by omega)).mono ?_
        rintro e w6 ⟨y, rfl, hy, hyz, hrd6, hg6, hs6⟩
        have hy1 : (y : Int) < (t.sizes.length : Int) - 1 := hy (by omega)
        have HS6 := Lib.hid (HS5.out.grown hg6 hrd6)
        clear hrd6 hg6 hs6 hyz hy p0 p1
        obtain ⟨p0, p1⟩ := HS6.out.cells
        have hTl := HS6.out.sz
        have hTw := HS6.out.lt
        have hwy : IntKind.i64.wrap (1 + (y : Int)) = 1 + (y : Int) := by rw [IntKind.wrap_i64]; omega
        have h5 : ∀ z ∈ t.sizes, 1 ≤ z ∧ z ≤ 9 := fun z hz => by
          obtain ⟨k, hk, rfl⟩ := List.getElem_of_mem hz
          have := hss3 k hk
          omega
        have H5 := Lib.hid h5
        clear h5 hss3
        go_upto_region 5 with fail
        obtain ⟨q, hq⟩ : ∃ q : Nat, (q : Int) = 1 + (y : Int) := ⟨1 + y, by omega⟩
        rewrite [← hq]
        have hqn : q < t.sizes.length := by omega
        have hq1 : 1 ≤ q := by omega
        clear hq hwy
        go_region_law (first
          | (go_simp; go_at_call 36; refine (pick_any (w.heap.size + 2) (300 + 1 + 1) (q : Int) w6.drew HS6.out.drew.rd (by omega) (by omega)).mono ?_; rintro e w7 ⟨y3, rfl, hy3', hyz, hrd7, hg7, hs7⟩; clear hs7 hyz; have HS7 := Lib.hid (HS6.out.drew.grown hg7 hrd7); have hy3 : (y3 : Int) < (q : Int) := hy3' (by omega); obtain ⟨p07, p17⟩ := HS7.out.cells; have hTl7 := HS7.out.sz; clear hrd7 hg7 hy3')
          | (go_simp; go_at_call 37; refine (drawMap_any (w.heap.size + 2) (300 + 1 + 1 + 1) (w.heap.size + 3) w2.heap.size y3 q _ t.sizes w7 HS7.out.rd (by omega) HS7.out.ty.1 (by omega) (by omega) (by omega) (by omega) H5.out (by omega)).mono ?_; rintro e w9 ⟨z, zs2, rfl, hrd9, hg9, ⟨hz9, hzw⟩, hzl9⟩; obtain ⟨ZA, ZC, rfl⟩ := owns_form hz9; have HS9 := Lib.hid (HS7.out.grown hg9 hrd9); have Hz9 := Lib.hid (ownsRow.intsAt (lo := w.heap.size + 3) (hi := w9.heap.size) hz9 hzw (by omega) (Nat.le_refl _)); obtain ⟨p09, p19⟩ := HS9.out.cells; have q0 := HS9.out.r0.cell 0; have q1 := HS9.out.r0.cell 1; have q2 := HS9.out.r1.cell 0; have q3 := HS9.out.r1.cell 1; have q4 := HS9.out.r1.cell 2; have qf0 := HS9.out.r0.frozen 0; have qf1 := HS9.out.r0.frozen 1; have qf2 := HS9.out.r1.frozen 0; have qf3 := HS9.out.r1.frozen 1; have qf4 := HS9.out.r1.frozen 2; simp only [List.getElem?_cons_zero, List.getElem?_cons_succ] at q0 q1 q2 q3 q4; clear hrd9 hg9 hz9 hzw))
        all_goals
          have hz := Hz9.out.keep (w' := set5 w9 w.heap.size (.slice A t.sizes.length cap) (.slice C t.cos.length cbp) (.int .i64 (y3 : Nat)) (.int .i64 (q : Nat)) (.slice ZA zs2.length ZC)) (fun g h1 _ => set5_heap _ _ _ _ _ _ _ g (by omega) (by omega))
          have hfin := Lib.hid (HS9.out.fin HD.out (y3 : Nat) (q : Nat) _ zs2 (by unfold I64; omega) (by unfold I64; omega) (by omega) _ (Below.refl _ _) (hz.more (Nat.le_refl _) (Nat.le_of_eq (set5_size _ _ _ _ _ _ _).symm)))
          have rA := ((((HS9.out.r0.set_ 0 (.slice A t.sizes.length cap)).set_ 1 (.slice C t.cos.length cbp)).far (p := ⟨w.heap.size + 1, 0, none⟩) (by dsimp only; omega) (.int .i64 (y3 : Nat))).far (p := ⟨w.heap.size + 1, 1, none⟩) (by dsimp only; omega) (.int .i64 (q : Nat))).far (p := ⟨w.heap.size + 1, 2, none⟩) (by dsimp only; omega) (.slice ZA zs2.length ZC)
          have rB := ((((HS9.out.r1.far (p := ⟨w.heap.size, 0, none⟩) (by dsimp only; omega) (.slice A t.sizes.length cap)).far (p := ⟨w.heap.size, 1, none⟩) (by dsimp only; omega) (.slice C t.cos.length cbp)).set_ 0 (.int .i64 (y3 : Nat))).set_ 1 (.int .i64 (q : Nat))).set_ 2 (.slice ZA zs2.length ZC)
          have k0 := rA.cell 0
          have k1 := rA.cell 1
          have k2 := rB.cell 0
          have k3 := rB.cell 1
          have k4 := rB.cell 2
          simp only [List.set_cons_zero, List.set_cons_succ, List.getElem?_cons_zero, List.getElem?_cons_succ] at k0 k1 k2 k3 k4
          clear rA rB hz
          repeat (first | go_values | go_skip | go_step)
          refine bodyPost_ret (v := .tuple #[.agg #[.slice A t.sizes.length cap, .slice C t.cos.length cbp], .agg #[.int .i64 (y3 : Nat), .int .i64 (q : Nat), .slice ZA zs2.length ZC]]) (by simp [results, Try.results7, go_sem, k0, k1, k2, k3, k4]) rfl ?_
          exact hfin.out
  · have c1 : ¬ (1 : Int) < (t.sizes.length : Int) := by omega
    go_wp2_with fail
    rewrite [← hw3]
    clear hw3
    obtain ⟨p0, p1⟩ := HS3.out.cells
    have hTl := HS3.out.sz
    have hTw := HS3.out.lt
    go_region_law (first
      | (go_simp; go_at_call 38; (with_reducible show Calls _ _ _ (World.drew w3) _); refine (l1Kind_any (w.heap.size + 2) 300 w3.drew HS3.out.drew.rd (by omega)).mono ?_; rintro e w7 ⟨f, hf, rfl, hrd7, hg7⟩; have HS7 := Lib.hid (HS3.out.drew.grown hg7 hrd7); have HF := Lib.hid hf; obtain ⟨p07, p17⟩ := HS7.out.cells; have hTl7 := HS7.out.sz; clear hrd7 hg7 hf)
      | (go_simp; go_at_call 38; (with_reducible show Calls _ _ _ w7 _); refine (l1Kind_any (w.heap.size + 2) (300 + 1) w7 HS7.out.rd (by omega)).mono ?_; rintro e w8 ⟨g, hg, rfl, hrd8, hg8⟩; have HS8 := Lib.hid (HS7.out.grown hg8 hrd8); have HG := Lib.hid hg; obtain ⟨p08, p18⟩ := HS8.out.cells; have hTl8 := HS8.out.sz; clear hrd8 hg8 hg)
      | (go_simp; go_at_call 36; refine (pick_any (w.heap.size + 2) (300 + 1 + 1) 3 w8 HS8.out.rd (by omega) (by omega)).mono ?_; rintro e w9 ⟨x, rfl, hx, hxz, hrd9, hg9, hs9⟩; clear hs9 hxz; have HS9 := Lib.hid (HS8.out.grown hg9 hrd9); have hx3 : (x : Int) < 3 := hx (by omega); obtain ⟨p09, p19⟩ := HS9.out.cells; have hTl9 := HS9.out.sz; have q0 := HS9.out.r0.cell 0; have q1 := HS9.out.r0.cell 1; have q2 := HS9.out.r1.cell 0; have q3 := HS9.out.r1.cell 1; have q4 := HS9.out.r1.cell 2; have qf0 := HS9.out.r0.frozen 0; have qf1 := HS9.out.r0.frozen 1; have qf2 := HS9.out.r1.frozen 0; have qf3 := HS9.out.r1.frozen 1; have qf4 := HS9.out.r1.frozen 2; simp only [List.getElem?_cons_zero, List.getElem?_cons_succ] at q0 q1 q2 q3 q4; have hl0 : w.heap.size < w9.heap.size := (by omega); have hl1 : w.heap.size + 1 < w9.heap.size := (by omega); clear hrd9 hg9 hx))
    all_goals
      have hz := ints_lit2s w9 w.heap.size (.slice A t.sizes.length cap) (.slice C t.cos.length cbp) (.int .i64 f) (.int .i64 g) (.slice (some ⟨w9.heap.size, 0, none⟩) 2 2) 0 x (by intro q hq; simp only [List.mem_cons, List.not_mem_nil, or_false] at hq; unfold I64; rcases hq with rfl | rfl <;> omega)
      have hfin := Lib.hid (HS9.out.fin HD.out f g _ [0, (x : Int)] HF.out HG.out (by simp) _ (set5_alloc _ _ _ _ _ _ _ _) (hz.more (by omega) (set5_alloc_size _ _ _ _ _ _ _ _)))
      have rA := (((((HS9.out.r0.set_ 0 (.slice A t.sizes.length cap)).set_ 1 (.slice C t.cos.length cbp)).far (p := ⟨w.heap.size + 1, 0, none⟩) (by dsimp only; omega) (.int .i64 f)).far (p := ⟨w.heap.size + 1, 1, none⟩) (by dsimp only; omega) (.int .i64 g)).far (p := ⟨w.heap.size + 1, 2, none⟩) (by dsimp only; omega) (.slice (some ⟨w9.heap.size, 0, none⟩) 2 2)).alloc (.cells #[.int .i64 0, .int .i64 x] 3)
      have rB := (((((HS9.out.r1.far (p := ⟨w.heap.size, 0, none⟩) (by dsimp only; omega) (.slice A t.sizes.length cap)).far (p := ⟨w.heap.size, 1, none⟩) (by dsimp only; omega) (.slice C t.cos.length cbp)).set_ 0 (.int .i64 f)).set_ 1 (.int .i64 g)).set_ 2 (.slice (some ⟨w9.heap.size, 0, none⟩) 2 2)).alloc (.cells #[.int .i64 0, .int .i64 x] 3)
      have k0 := rA.cell 0
      have k1 := rA.cell 1
      have k2 := rB.cell 0
      have k3 := rB.cell 1
      have k4 := rB.cell 2
      simp only [List.set_cons_zero, List.set_cons_succ, List.getElem?_cons_zero, List.getElem?_cons_succ] at k0 k1 k2 k3 k4
      clear rA rB hz
      repeat (first | go_values | go_skip | go_step)
      refine bodyPost_ret (v := .tuple #[.agg #[.slice A t.sizes.length cap, .slice C t.cos.length cbp], .agg #[.int .i64 f, .int .i64 g, .slice (some ⟨w9.heap.size, 0, none⟩) 2 2]]) (by simp [results, Try.results7, go_sem, k0, k1, k2, k3, k4]) rfl ?_
      exact hfin.out
end Go.Proofs.Ytplpnammboofiaa
