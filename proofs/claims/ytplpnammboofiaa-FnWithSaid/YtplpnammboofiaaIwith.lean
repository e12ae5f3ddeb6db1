/-
  The contract of WithCoercion, the program's.
-/
import Derived.Test.YtplpnammboofiaaSownty
import Derived.Test.YtplpnammboofiaaIt
namespace Go.Proofs.Ytplpnammboofiaa
open Go.RowKit

def addCo (t : Ty) (c : Co) : Ty := ⟨t.sizes, t.cos ++ [c]⟩
def withOk (t : Ty) (c : Co) : Bool := tyOk t && tyOk (addCo t c)
def withCo (t : Ty) (c : Co) : Ty := if withOk t c = true then addCo t c else ⟨[], []⟩

/-- Types in memory of the call's own, from a block on. -/
def TyOwned (w : World) (base : Nat) (v l : Value) (t : Ty) : Prop :=
  ∃ C, base ≤ C ∧ w.ownsRow base 3 1 v t.sizes.length (t.sizes.map (Value.int .i64)) ∧ (∀ g, v.ownBlock = some g → g < C) ∧ CosOwned w (C + 1) l (fun i => t.cos.getD i default) t.cos.length

theorem CosOwned.congr {w : World} {base : Nat} {l : Value} {f f' : Nat → Co} {k : Nat} (h : CosOwned w base l f k) (he : ∀ i, i < k → f i = f' i) : CosOwned w base l f' k := by
  obtain ⟨xs, m, mv, h1, h2⟩ := h
  refine ⟨xs, m, mv, h1, ⟨fun i hi => by rw [← he i hi]; exact h2.cells i hi, fun i hi => by rw [← he i hi]; exact h2.own i hi, fun i hi h0 => ?_⟩⟩
  rw [← he i hi] at h0
  obtain ⟨a, b, c, d⟩ := h2.away i hi h0
  exact ⟨a, b, c, fun j hj hne h1 => d j hj hne (by rw [he j hj]; exact h1)⟩

set_option maxRecDepth 100000 in
set_option maxHeartbeats 4000000 in
theorem implWith_any (lo hi : Nat) (sv cv x y z : Value) (t : Ty) (c : Co) (w : World) (hv : TyAt w lo hi sv cv t) (hc : CoAt w lo hi x y z c) (hB : hi ≤ w.heap.size) (hbk : t.bulk ≤ 1048576) (hlen : c.map.length ≤ 1048576) :
    Calls Try.prog 8 #[.agg #[sv, cv], .agg #[x, y, z]] w fun e w' => ∃ v l, e = .returned (.tuple #[.agg #[v, l], .bool (withOk t c)]) ∧ Below w.heap.size w w' ∧ TyOwned w' w.heap.size v l (withCo t c) := by
  have hwf1 := Lib.hid (IntsAt.wf hv.1)
  have hwf2 := Lib.hid (CosAt.wf hv.2)
  obtain ⟨A, cap, rfl, hl1, hm1, _⟩ := hv.1.form
  obtain ⟨B, bap, rfl, hl2, hm2, _⟩ := hv.2.form
  obtain ⟨rfl, rfl, hs, hd, hcz⟩ := hc
  obtain ⟨A2, cap2, rfl, _, _, hcz⟩ := hcz.form
  obtain ⟨i0, hi0, hz0, hz1, hz2⟩ := info_parts infoCoercionW
  have hn : t.cos.length ≤ 1048576 := by unfold Ty.bulk at hbk; omega
  have h3 : Below w.heap.size w (((w.alloc (.cells #[.slice A t.sizes.length cap, .slice B t.cos.length bap] 26)).alloc (.cells #[.int .i64 c.src, .int .i64 c.dst, .slice A2 c.map.length cap2] 28)).alloc (.cells #[.slice none 0 0, .slice none 0 0] 26)) := by go_grown
  have Hv := Lib.hid hv
  have Hcz := Lib.hid hcz
  have H3 := Lib.hid h3
  clear hv hcz h3
  go_enter Try.func8, Try.ntmps8
  go_wp2_with fail
  refine (implValid_any lo hi _ _ t _ (Hv.out.below H3.out hB) (by simp; omega)).mono ?_
  rintro e w1 ⟨rfl, hb1⟩
  obtain ⟨hcl, hfr⟩ := bcell hb1
  simp only [World.size_alloc] at hcl hfr
  have a0 : w1.cell? ⟨w.heap.size, 0, none⟩ = some (.slice A t.sizes.length cap) := by rw [hcl _ _ (by omega)]; simp [go_sem]
  have a1 : w1.cell? ⟨w.heap.size, 1, none⟩ = some (.slice B t.cos.length bap) := by rw [hcl _ _ (by omega)]; simp [go_sem]
  have b0 : w1.cell? ⟨w.heap.size + 1, 0, none⟩ = some (.int .i64 c.src) := by rw [hcl _ _ (by omega)]; simp [go_sem]
  have b1 : w1.cell? ⟨w.heap.size + 1, 1, none⟩ = some (.int .i64 c.dst) := by rw [hcl _ _ (by omega)]; simp [go_sem]
  have b2 : w1.cell? ⟨w.heap.size + 1, 2, none⟩ = some (.slice A2 c.map.length cap2) := by rw [hcl _ _ (by omega)]; simp [go_sem]
  have r0 : w1.cell? ⟨w.heap.size + 1 + 1, 0, none⟩ = some (.slice none 0 0) := by rw [hcl _ _ (by omega)]; simp [go_sem]
  have r1 : w1.cell? ⟨w.heap.size + 1 + 1, 1, none⟩ = some (.slice none 0 0) := by rw [hcl _ _ (by omega)]; simp [go_sem]
  have rf0 : w1.frozen? ⟨w.heap.size + 1 + 1, 0, none⟩ = false := by rw [hfr _ _ (by omega)]; simp [go_sem]
  have rf1 : w1.frozen? ⟨w.heap.size + 1 + 1, 1, none⟩ = false := by rw [hfr _ _ (by omega)]; simp [go_sem]
  have hs1 := hb1.size
  simp only [World.size_alloc] at hs1
  have Hb1 := Lib.hid (H3.out.trans (hb1.mono (by simp; omega)))
  clear hb1 hcl hfr
  by_cases hok : tyOk t = true
  · rw [hok]
    have Hok := Lib.hid hok
    clear hok
    go_wp2_with fail
    refine (copyTypes_any lo hi _ _ t _ (Hv.out.below Hb1.out hB) (by omega) hbk).mono ?_
    rintro e w2 ⟨v, l, C, rfl, hb2, hC, hC2, hov, hvC, hco⟩
    obtain ⟨VA, VC, rfl⟩ := owns_form hov
    obtain ⟨xs, m, mv, how, hmo⟩ := hco.congr (f' := fun i => (addCo t c).cos.getD i default) (fun i hi => by
      show t.cos.getD i default = (t.cos ++ [c]).getD i default
      rw [List.getD_eq_getElem?_getD, List.getD_eq_getElem?_getD, List.getElem?_append_left hi])
    obtain ⟨LA, LC, rfl⟩ := owns_form how
    obtain ⟨hcl, hfr⟩ := bcell hb2
    have hs2 := hb2.size
    have p0 := (hcl (w.heap.size + 1) 0 (by omega)).trans b0
    have p1 := (hcl (w.heap.size + 1) 1 (by omega)).trans b1
    have p2 := (hcl (w.heap.size + 1) 2 (by omega)).trans b2
    have s0 := (hcl (w.heap.size + 1 + 1) 0 (by omega)).trans r0
    have s1 := (hcl (w.heap.size + 1 + 1) 1 (by omega)).trans r1
    have sf0 := (hfr (w.heap.size + 1 + 1) 0 (by omega)).trans rf0
    have sf1 := (hfr (w.heap.size + 1 + 1) 1 (by omega)).trans rf1
    have hlt0 : w.heap.size + 1 < w2.heap.size := by omega
    have hlt1 : w.heap.size + 1 + 1 < w2.heap.size := by omega
    have How := Lib.hid how
    have Hmo := Lib.hid hmo
    have Hov := Lib.hid hov
    have HvC := Lib.hid hvC
    have Hb2 := Lib.hid hb2
    have hBw : Below hi w w2 := (Hb1.out.trans (hb2.mono (by omega))).mono hB
    have hdraw : Below hi w (w2.alloc (.cells #[.slice VA t.sizes.length VC, .slice LA t.cos.length LC] 26)) := hBw.alloc (by omega) _
    have Hcz3 := Lib.hid (Hcz.out.below hdraw (Nat.le_refl _))
    clear how hmo hov hvC hb2 hcl hfr hBw hdraw a0 a1 b0 b1 b2 r0 r1 rf0 rf1
    go_upto_region 4 with fail
    go_region_law (first
      | (refine step_append_lies _ (by rfl) (.tmp 14) (.tmp 17) 24 (by rfl) (C + 1) 28 i0 _ 3 40 Try.underlying24 hi0 hz0 hz1 hz2 rfl (by omega) (.slice LA t.cos.length LC) t.cos.length xs (by rfl) ((H2.out.alloc _).drew)
          ⟨w3.heap.size, 0, none⟩ 1 1 [.int .i64 c.src, .int .i64 c.dst, .slice VA2 c.map.length VC2] (by rfl) (by rfl) (World.news_of_block (cs := #[.int .i64 c.src, .int .i64 c.dst, .slice VA2 c.map.length VC2]) (t := 28) (fr := (0, 0)) (heap_alloc_new w3 _)) (by simp [Value.oneCell'])
          (by omega) (by unfold maxLen; omega) (by omega) (by (try simp); (try omega)) (w3.heap.size + 1) (by simp) ?_; intro g' cap3 w4 hown4 hgrow hat hlt4; have hC4 : w4.heap[w2.heap.size]? = (w2.alloc (.cells #[.slice VA t.sizes.length VC, .slice LA t.cos.length LC] 26)).heap[w2.heap.size]? := (hgrow.block _ (by (try simp); (try omega)) (fun hc => by have := (owns_lt How.out _ hc.symm).2; omega)).trans ((Below.heap_alloc w3 _ _ (by omega)).trans (hblk.out _ (by omega))); have hr4 : Row w4 w2.heap.size 26 [.slice VA t.sizes.length VC, .slice LA t.cos.length LC] := (Row.new w2 _ [.slice VA t.sizes.length VC, .slice LA t.cos.length LC]).keep hC4; have q1 := hr4.cell 1; have q1f := hr4.frozen 1; simp only [List.getElem?_cons_zero, List.getElem?_cons_succ] at q1; have Hown4 := Lib.hid hown4; have Hgrow := Lib.hid hgrow; have Hat := Lib.hid hat; have Hr4 := Lib.hid hr4; clear hown4 hgrow hat hC4 hr4)
      | (go_simp; go_at_call 40; refine (copied_any lo hi _ _ _ c _ ⟨rfl, rfl, hs, hd, by exact Hcz3.out⟩ (by (try simp); (try omega)) hlen).mono ?_; rintro e w3 ⟨v2, rfl, hb3, hown3⟩; obtain ⟨VA2, VC2, rfl⟩ := owns_form hown3; have hsz3 : w2.heap.size + 1 ≤ w3.heap.size := (by simpa using hb3.size); have hblk : Hid (∀ g, g < w2.heap.size + 1 → w3.heap[g]? = (w2.alloc (.cells #[.slice VA t.sizes.length VC, .slice LA t.cos.length LC] 26)).heap[g]?) := (fun g hgl => hb3.block g (by (try simp); (try omega))); have H2 := Lib.hid (ownsRow_keep How.out fun g hg hgl => (hblk.out g (by omega)).trans (Below.heap_alloc w2 _ g hgl)); have p1' : w3.cell? ⟨w2.heap.size, 1, none⟩ = some (.slice LA t.cos.length LC) := ((Row.new w2 26 [.slice VA t.sizes.length VC, .slice LA t.cos.length LC]).keep (hblk.out _ (by omega))).cell 1; have hsz3' : w2.heap.size < w3.heap.size := (by omega); have Hb3 := Lib.hid hb3; have Hown3 := Lib.hid hown3; clear hb3 hown3))
    all_goals
      have hq : Below w2.heap.size _ w3 := Hb3.out.mono (by (try simp); (try omega))
      have hb23 : Below w2.heap.size w2 w3 := (((Below.refl _ w2).alloc (Nat.le_refl _) (.cells #[.slice VA t.sizes.length VC, .slice LA t.cos.length LC] 26)).drew).trans hq
      have hbx : Below (C + 1) w2 w4 := ((hb23.mono (by omega)).alloc (by omega) _).grown Hgrow.out (by (try simp); (try omega)) (fun k hk => (owns_lt How.out k hk).1)
      have hw4 : w2.heap.size < w4.heap.size := Hr4.out.lt
      have s0' := ((bcell hbx).1 (w.heap.size + 1 + 1) 0 (by omega)).trans s0
      have s1' := ((bcell hbx).1 (w.heap.size + 1 + 1) 1 (by omega)).trans s1
      have sf0' := ((bcell hbx).2 (w.heap.size + 1 + 1) 0 (by omega)).trans sf0
      have sf1' := ((bcell hbx).2 (w.heap.size + 1 + 1) 1 (by omega)).trans sf1
      obtain ⟨w5, hw5⟩ : ∃ u, u = w4.setCell ⟨w2.heap.size, 1, none⟩ (.slice (some ⟨g', 0, none⟩) (t.cos.length + 1) cap3) := ⟨_, rfl⟩
      have hblk5 : ∀ g, g ≠ w2.heap.size → w5.heap[g]? = w4.heap[g]? := fun g hg => by rw [hw5]; exact Below.heap_setCell _ _ _ _ (by dsimp only; omega)
      have hsz5 : w5.heap.size = w4.heap.size := by rw [hw5]; simp [World.setCell]
      have hco5 : CosOwned w5 (C + 1) (.slice (some ⟨g', 0, none⟩) (t.cos.length + 1) cap3) (fun i => (addCo t c).cos.getD i default) (t.cos.length + 1) :=
        CosOwned.push_store (w := w2) (w2 := w3) (w3 := w4) (bv := w2.heap.size + 1) Hmo.out How.out (by omega) (show (t.cos ++ [c]).getD t.cos.length default = c by simp) hb23 (by omega) (by omega) (by simpa using Hown3.out) Hgrow.out Hat.out Hown4.out (by omega) (fun g hg => hblk5 g (by omega))
      have hov5 : w5.ownsRow w.heap.size 3 1 (.slice VA t.sizes.length VC) t.sizes.length (t.sizes.map (Value.int .i64)) :=
        ownsRow_lower (ownsRow_keep1 Hov.out fun g hg => (hblk5 g (by have := HvC.out g hg; omega)).trans (hbx.block g (by have := HvC.out g hg; omega))) (by omega)
      have hb5 : Below w.heap.size w w5 := by
        rw [hw5]
        exact ((Hb1.out.trans (Hb2.out.mono (by omega))).trans (hbx.mono (by omega))).setCell (by dsimp only; omega) _
      have hrow5 : Row w5 w2.heap.size 26 [.slice VA t.sizes.length VC, .slice (some ⟨g', 0, none⟩) (t.cos.length + 1) cap3] := by rw [hw5]; exact Hr4.out.set_ 1 _
      have t0 : w5.cell? ⟨w.heap.size + 1 + 1, 0, none⟩ = some (.slice none 0 0) := (World.cell?_of_block (a := ⟨w.heap.size + 1 + 1, 0, none⟩) (hblk5 _ (by dsimp only; omega))).trans s0'
      have t1 : w5.cell? ⟨w.heap.size + 1 + 1, 1, none⟩ = some (.slice none 0 0) := (World.cell?_of_block (a := ⟨w.heap.size + 1 + 1, 1, none⟩) (hblk5 _ (by dsimp only; omega))).trans s1'
      have tf0 : w5.frozen? ⟨w.heap.size + 1 + 1, 0, none⟩ = false := (World.frozen?_of_block (a := ⟨w.heap.size + 1 + 1, 0, none⟩) (hblk5 _ (by dsimp only; omega))).trans sf0'
      have tf1 : w5.frozen? ⟨w.heap.size + 1 + 1, 1, none⟩ = false := (World.frozen?_of_block (a := ⟨w.heap.size + 1 + 1, 1, none⟩) (hblk5 _ (by dsimp only; omega))).trans sf1'
      rw [← hw5]
      have u0 := hrow5.cell 0
      have u1 := hrow5.cell 1
      simp only [List.getElem?_cons_zero, List.getElem?_cons_succ] at u0 u1
      have hwf5 : ∀ i, i < t.cos.length + 1 → I64 ((addCo t c).cos.getD i default).src ∧ I64 ((addCo t c).cos.getD i default).dst ∧ ∀ z ∈ ((addCo t c).cos.getD i default).map, I64 z := by
        intro i hi
        show I64 ((t.cos ++ [c]).getD i default).src ∧ I64 ((t.cos ++ [c]).getD i default).dst ∧ ∀ z ∈ ((t.cos ++ [c]).getD i default).map, I64 z
        by_cases e : i < t.cos.length
        · rw [List.getD_eq_getElem?_getD, List.getElem?_append_left e, ← List.getD_eq_getElem?_getD]
          exact hwf2.out i e
        · obtain rfl : i = t.cos.length := by omega
          have e2 : (t.cos ++ [c]).getD t.cos.length default = c := by simp
          rw [e2]
          exact ⟨hs, hd, IntsAt.wf Hcz.out⟩
      have hty5 : TyAt w5 w.heap.size w5.heap.size (.slice VA t.sizes.length VC) (.slice (some ⟨g', 0, none⟩) (t.cos.length + 1) cap3) (addCo t c) := by
        refine ⟨ownsRow.intsAt (base := w.heap.size) (lo := w.heap.size) hov5 hwf1.out (Nat.le_refl _) (Nat.le_refl _), ?_⟩
        have := hco5.cosAt (lo := w.heap.size) hwf5 (by omega) (Nat.le_refl _)
        have e : t.cos.length + 1 = (addCo t c).cos.length := by simp [addCo]
        rw [e, range_getD, ← e] at this
        exact this
      have Hco5 := Lib.hid hco5
      have Hov5 := Lib.hid hov5
      have Hb5 := Lib.hid hb5
      have Hty5 := Lib.hid hty5
      have HvC5 := HvC
      clear hq hb23 hbx s0' s1' sf0' sf1' hco5 hov5 hb5 hwf5 hty5 hw5 Hgrow Hat Hown4 Hr4 Hb3 H2 Hown3 q1 q1f
      go_wp2_with fail
      refine (implValid_any w.heap.size w5.heap.size _ _ (addCo t c) _ Hty5.out (Nat.le_refl _)).mono ?_
      rintro e w6 ⟨rfl, hb6⟩
      have hs6 := hb6.size
      have v0 := ((bcell hb6).1 _ _ (by omega)).trans t0
      have v1 := ((bcell hb6).1 _ _ (by omega)).trans t1
      have vf0 := ((bcell hb6).2 _ _ (by omega)).trans tf0
      have vf1 := ((bcell hb6).2 _ _ (by omega)).trans tf1
      have x0 := ((bcell hb6).1 _ _ (by omega)).trans u0
      have x1 := ((bcell hb6).1 _ _ (by omega)).trans u1
      have Hb6 := Lib.hid hb6
      clear hb6 t0 t1 tf0 tf1 u0 u1
      by_cases hok2 : tyOk (addCo t c) = true
      · have hfin : withOk t c = true := by unfold withOk; rw [Hok.out, hok2]; rfl
        have Hfin := Lib.hid hfin
        rw [hok2]
        clear hok2 hfin
        go_wp2
        refine bodyPost_ret (v := .tuple #[.agg #[.slice VA t.sizes.length VC, .slice (some ⟨g', 0, none⟩) (t.cos.length + 1) cap3], .bool true]) (by simp [results, Try.results8, go_sem, v0, v1]) rfl ?_
        refine ⟨_, _, by rw [Hfin.out], ((Hb5.out.trans (Hb6.out.mono (by omega))).setCell (by dsimp only; omega) _).setCell (by dsimp only; omega) _, ?_⟩
        have e1 : withCo t c = addCo t c := by unfold withCo; rw [Hfin.out]; rfl
        have e2 : (addCo t c).cos.length = t.cos.length + 1 := by simp [addCo]
        rw [e1]
        unfold TyOwned
        rw [e2]
        refine ⟨C, by omega, ?_, HvC.out, ?_⟩
        · exact ownsRow_keep1 Hov5.out fun g hg => (Below.heap_setCell _ _ _ _ (by have := (owns_lt Hov.out g hg).1; dsimp only; omega)).trans ((Below.heap_setCell _ _ _ _ (by have := (owns_lt Hov.out g hg).1; dsimp only; omega)).trans (Hb6.out.block g (by have := HvC.out g hg; omega)))
        · exact Hco5.out.keep (by simp [World.setCell]; omega) fun g hg hgl => (Below.heap_setCell _ _ _ _ (by dsimp only; omega)).trans ((Below.heap_setCell _ _ _ _ (by dsimp only; omega)).trans (Hb6.out.block g (by omega)))
      · have hokf2 : tyOk (addCo t c) = false := by simpa using hok2
        have hfin : withOk t c = false := by unfold withOk; rw [hokf2]; simp
        have Hfin := Lib.hid hfin
        rw [hokf2]
        clear hok2 hokf2 hfin
        go_wp2
        refine bodyPost_ret (v := .tuple #[.agg #[.slice none 0 0, .slice none 0 0], .bool false]) (by simp [results, Try.results8, go_sem, v0, v1]) rfl ?_
        refine ⟨_, _, by rw [Hfin.out], ((Hb5.out.trans (Hb6.out.mono (by omega))).setCell (by dsimp only; omega) _).setCell (by dsimp only; omega) _, w.heap.size, Nat.le_refl _, ?_⟩
        have e1 : withCo t c = ⟨[], []⟩ := by unfold withCo; rw [Hfin.out]; rfl
        rw [e1]
        exact ⟨World.ownsRow_nil _ _ _ _, fun g hg => (by simp [Value.ownBlock] at hg), CosOwned.nil _ _ _⟩
  · have hokf : tyOk t = false := by simpa using hok
    have hfin : withOk t c = false := by unfold withOk; rw [hokf]; rfl
    have Hfin := Lib.hid hfin
    rw [hokf]
    clear hok hokf hfin
    go_wp2
    refine bodyPost_ret (v := .tuple #[.agg #[.slice none 0 0, .slice none 0 0], .bool false]) (by simp [results, Try.results8, go_sem, r0, r1]) rfl ?_
    refine ⟨_, _, by rw [Hfin.out], (Hb1.out.setCell (by dsimp only; omega) _).setCell (by dsimp only; omega) _, w.heap.size, Nat.le_refl _, ?_⟩
    have e1 : withCo t c = ⟨[], []⟩ := by unfold withCo; rw [Hfin.out]; rfl
    rw [e1]
    exact ⟨World.ownsRow_nil _ _ _ _, fun g hg => (by simp [Value.ownBlock] at hg), CosOwned.nil _ _ _⟩
end Go.Proofs.Ytplpnammboofiaa
