/-
  What holds in the law's regions that call a function of a system and a function, copied from the law's arguments: by what has been done.
-/
import Derived.Test.YtilcahidmoaakaaMwb
import Derived.Test.YtilcahidmoaakaaIsv
import Derived.Test.YtilcahidmoaakaaSsv
import Derived.Test.YtilcahidmoaakaaFto
namespace Go.Proofs.Ytilcahidmoaakaa
open Go.RowKit

def addFu (y : Sy) (f : Fu) : Sy := ⟨y.ty, y.fs ++ [f]⟩
noncomputable def withOkF (y : Sy) (f : Fu) : Bool := syB y && syB (addFu y f)
noncomputable def withFu (y : Sy) (f : Fu) : Sy := if withOkF y f = true then addFu y f else ⟨⟨[], []⟩, []⟩

theorem SyOwned.none_ (w : World) (base : Nat) (hb : base ≤ w.heap.size) : SyOwned w base (.slice none 0 0) (.slice none 0 0) (.slice none 0 0) ⟨⟨[], []⟩, []⟩ :=
  ⟨w.heap.size, w, w.heap.size, hb, Nat.le_refl _, ⟨w.heap.size, Nat.le_refl _, World.ownsRow_nil _ _ _ _, fun g hg => (by simp [Value.ownBlock] at hg), CosOwned.nil _ _ _⟩, fun _ _ _ => rfl, Nat.le_refl _, Nat.le_refl _, FusOwned.nil _ _ _⟩

set_option maxRecDepth 100000 in
set_option maxHeartbeats 4000000 in
theorem implWithF_any (lo hi : Nat) (sv cv fv x a r tv : Value) (y : Sy) (f : Fu) (w : World) (hv : SyAt w lo hi sv cv fv y) (hc : FuAt w lo hi x a r tv f) (hB : hi ≤ w.heap.size) (hbk : y.bulk ≤ 1048576) (hla : f.args.length ≤ 1048576) (hlt : f.table.length ≤ 1048576) :
    Calls Try.prog 34 #[.agg #[sv, cv, fv], .agg #[x, a, r, tv]] w fun e w' => ∃ v l q, e = .returned (.tuple #[.agg #[v, l, q], .bool (withOkF y f)]) ∧ Below w.heap.size w w' ∧ SyOwned w' w.heap.size v l q (withFu y f) := by
  have hfitS := Lib.hid (SyAt.fits hv)
  have hfitF := Lib.hid (FuAt.fits hc)
  obtain ⟨A, cap, rfl, hl1, hm1, _⟩ := hv.1.1.form
  obtain ⟨B, bap, rfl, hl2, hm2, _⟩ := hv.1.2.form
  obtain ⟨Q, qap, rfl, hl3, hm3, _⟩ := hv.2.form
  obtain ⟨rfl, rfl, hn0, hs, ha, ht⟩ := hc
  obtain ⟨A2, cap2, rfl, _, _, ha⟩ := ha.form
  obtain ⟨T2, tap2, rfl, _, _, ht⟩ := ht.form
  obtain ⟨i0, hi0, hz0, hz1, hz2⟩ := info_parts infoFunction
  have hb' := hbk
  unfold Sy.bulk at hb'
  have hn : y.fs.length ≤ 1048576 := by omega
  clear hb'
  have h3 : Below w.heap.size w (((w.alloc (.cells #[.slice A y.ty.sizes.length cap, .slice B y.ty.cos.length bap, .slice Q y.fs.length qap] 36)).alloc (.cells #[.string f.name, .slice A2 f.args.length cap2, .int .i64 f.res, .slice T2 f.table.length tap2] 55)).alloc (.cells #[.slice none 0 0, .slice none 0 0, .slice none 0 0] 36)) := by go_grown
  have Hv := Lib.hid hv
  have Hf := Lib.hid (show FuAt w lo hi (.string f.name) (.slice A2 f.args.length cap2) (.int .i64 f.res) (.slice T2 f.table.length tap2) f from ⟨rfl, rfl, hn0, hs, ha, ht⟩)
  have H3 := Lib.hid h3
  clear hv ha ht h3
  go_enter Try.func34, Try.ntmps34
  go_wp2_with fail
  refine (implSysValid_any lo hi _ _ _ y _ (Hv.out.below H3.out hB) (by simp; omega)).mono ?_
  rintro e w1 ⟨rfl, hb1⟩
  have ra : Row w1 w.heap.size 36 [.slice A y.ty.sizes.length cap, .slice B y.ty.cos.length bap, .slice Q y.fs.length qap] :=
    (((Row.new w 36 [.slice A y.ty.sizes.length cap, .slice B y.ty.cos.length bap, .slice Q y.fs.length qap]).keep (Below.heap_alloc _ _ _ (by simp))).keep (Below.heap_alloc _ _ _ (by simp; omega))).below hb1 (by simp; omega)
  have rb : Row w1 (w.heap.size + 1) 55 [.string f.name, .slice A2 f.args.length cap2, .int .i64 f.res, .slice T2 f.table.length tap2] := by
    have h := Row.new (w.alloc (.cells #[.slice A y.ty.sizes.length cap, .slice B y.ty.cos.length bap, .slice Q y.fs.length qap] 36)) 55 [.string f.name, .slice A2 f.args.length cap2, .int .i64 f.res, .slice T2 f.table.length tap2]
    rw [World.size_alloc] at h
    exact (h.keep (Below.heap_alloc _ _ _ (by simp))).below hb1 (by simp)
  have rc : Row w1 (w.heap.size + 1 + 1) 36 [.slice none 0 0, .slice none 0 0, .slice none 0 0] := by
    have h := Row.new ((w.alloc (.cells #[.slice A y.ty.sizes.length cap, .slice B y.ty.cos.length bap, .slice Q y.fs.length qap] 36)).alloc (.cells #[.string f.name, .slice A2 f.args.length cap2, .int .i64 f.res, .slice T2 f.table.length tap2] 55)) 36 [.slice none 0 0, .slice none 0 0, .slice none 0 0]
    rw [World.size_alloc, World.size_alloc] at h
    exact h.below hb1 (by simp)
  have hs1 : w.heap.size + 1 + 1 + 1 ≤ w1.heap.size := by have := hb1.size; simpa using this
  have Hb1 := Lib.hid (H3.out.trans (hb1.mono (by simp; omega)))
  have a0 := ra.cell 0
  have a1 := ra.cell 1
  have a2 := ra.cell 2
  have b0 := rb.cell 0
  have b1 := rb.cell 1
  have b2 := rb.cell 2
  have b3 := rb.cell 3
  have c0 := rc.cell 0
  have c1 := rc.cell 1
  have c2 := rc.cell 2
  have cf0 := rc.frozen 0
  have cf1 := rc.frozen 1
  have cf2 := rc.frozen 2
  simp only [List.getElem?_cons_zero, List.getElem?_cons_succ] at a0 a1 a2 b0 b1 b2 b3 c0 c1 c2
  have Ra := Lib.hid ra
  have Rb := Lib.hid rb
  have Rc := Lib.hid rc
  clear hb1 ra rb rc
  by_cases hok : syB y = true
  · rw [hok]
    have Hok := Lib.hid hok
    clear hok
    go_wp2_with fail
    refine (copySystem_any lo hi _ _ _ y _ (Hv.out.below Hb1.out hB) (by omega) hbk).mono ?_
    rintro e w2 ⟨v, l, q, rfl, hb2, bb, u, bq, hbb, hbu, htys, hkeep, hubq, hbqw, hfus⟩
    have hvf : ∃ A B, v = .slice A y.ty.sizes.length B := by
      obtain ⟨C, _, h, _⟩ := htys
      exact owns_form h
    have hlf : ∃ A B, l = .slice A y.ty.cos.length B := by
      obtain ⟨C, _, _, _, _, _, _, h, _⟩ := htys
      exact owns_form h
    obtain ⟨VA, VC, rfl⟩ := hvf
    obtain ⟨WA, WC, rfl⟩ := hlf
    obtain ⟨xs, m, mv, how, hmo⟩ := hfus.congr (f' := fun i => (addFu y f).fs.getD i default) (fun i hi => by
      show y.fs.getD i default = (y.fs ++ [f]).getD i default
      rw [List.getD_eq_getElem?_getD, List.getD_eq_getElem?_getD, List.getElem?_append_left hi])
    obtain ⟨LA, LC, rfl⟩ := owns_form how
    have hs2 := hb2.size
    have rb2 := Rb.out.below hb2 (by omega)
    have rc2 := Rc.out.below hb2 (by omega)
    have p0 := rb2.cell 0
    have p1 := rb2.cell 1
    have p2 := rb2.cell 2
    have p3 := rb2.cell 3
    simp only [List.getElem?_cons_zero, List.getElem?_cons_succ] at p0 p1 p2 p3
    have hlt0 : w.heap.size + 1 < w2.heap.size := by omega
    have hlt1 : w.heap.size + 1 + 1 < w2.heap.size := by omega
    have How := Lib.hid how
    have Hmo := Lib.hid hmo
    have Htys := Lib.hid htys
    have Hkeep := Lib.hid hkeep
    have Rc2 := Lib.hid rc2
    have Hb2 := Lib.hid hb2
    have hBw : Below hi w w2 := (Hb1.out.trans (hb2.mono (by omega))).mono hB
    have hdraw : Below hi w (w2.alloc (.cells #[.slice VA y.ty.sizes.length VC, .slice WA y.ty.cos.length WC, .slice LA y.fs.length LC] 36)) := hBw.alloc (by omega) _
    have Hf3 := Lib.hid (Hf.out.below hdraw (Nat.le_refl _))
    clear how hmo hfus htys hkeep rb2 rc2 hb2 hBw hdraw a0 a1 a2 b0 b1 b2 b3 c0 c1 c2 cf0 cf1 cf2
    go_upto_region 4 with fail
    go_region_law (first
      | (refine step_append_lies _ (by rfl) (.tmp 14) (.tmp 17) 34 (by rfl) bq 55 i0 _ 4 72 Try.underlying34 hi0 hz0 hz1 hz2 rfl (by omega) (.slice LA y.fs.length LC) y.fs.length xs (by rfl) ((H2.out.alloc _).drew)
          ⟨w3.heap.size, 0, none⟩ 1 1 [.string f.name, .slice VA2 f.args.length VC2, .int .i64 f.res, .slice TA2 f.table.length TC2] (by rfl) (by rfl) (World.news_of_block (cs := #[.string f.name, .slice VA2 f.args.length VC2, .int .i64 f.res, .slice TA2 f.table.length TC2]) (t := 55) (fr := (0, 0)) (heap_alloc_new w3 _)) (by simp [Value.oneCell'])
          (by omega) (by unfold maxLen; omega) (by omega) (by (try simp); (try omega)) (w3.heap.size + 1) (by simp) ?_; intro g' cap3 w4 hown4 hgrow hat hlt4; have hC4 : w4.heap[w2.heap.size]? = (w2.alloc (.cells #[.slice VA y.ty.sizes.length VC, .slice WA y.ty.cos.length WC, .slice LA y.fs.length LC] 36)).heap[w2.heap.size]? := (hgrow.block _ (by (try simp); (try omega)) (fun hc => by have := (owns_lt How.out _ hc.symm).2; omega)).trans ((Below.heap_alloc w3 _ _ (by omega)).trans (hblk.out _ (by omega))); have hr4 : Row w4 w2.heap.size 36 [.slice VA y.ty.sizes.length VC, .slice WA y.ty.cos.length WC, .slice LA y.fs.length LC] := (Row.new w2 _ [.slice VA y.ty.sizes.length VC, .slice WA y.ty.cos.length WC, .slice LA y.fs.length LC]).keep hC4; have q2 := hr4.cell 2; have q2f := hr4.frozen 2; simp only [List.getElem?_cons_zero, List.getElem?_cons_succ] at q2; have Hown4 := Lib.hid hown4; have Hgrow := Lib.hid hgrow; have Hat := Lib.hid hat; have Hr4 := Lib.hid hr4; clear hown4 hgrow hat hC4 hr4)
      | (go_simp; go_at_call 100; refine (copiedF_any lo hi _ _ _ _ f _ (by exact Hf3.out) (by (try simp); (try omega)) hla hlt).mono ?_; rintro e w3 ⟨v2, t2, rfl, hb3, hown3⟩; obtain ⟨C2, hCC, hownA, hvC2, hownT⟩ := id hown3; obtain ⟨VA2, VC2, rfl⟩ := owns_form hownA; obtain ⟨TA2, TC2, rfl⟩ := owns_form hownT; clear hCC hownA hvC2 hownT; have hsz3 : w2.heap.size + 1 ≤ w3.heap.size := (by simpa using hb3.size); have hblk : Hid (∀ g, g < w2.heap.size + 1 → w3.heap[g]? = (w2.alloc (.cells #[.slice VA y.ty.sizes.length VC, .slice WA y.ty.cos.length WC, .slice LA y.fs.length LC] 36)).heap[g]?) := (fun g hgl => hb3.block g (by (try simp); (try omega))); have H2 := Lib.hid (ownsRow_keep How.out fun g hg hgl => (hblk.out g (by omega)).trans (Below.heap_alloc w2 _ g hgl)); have p2' : w3.cell? ⟨w2.heap.size, 2, none⟩ = some (.slice LA y.fs.length LC) := ((Row.new w2 36 [.slice VA y.ty.sizes.length VC, .slice WA y.ty.cos.length WC, .slice LA y.fs.length LC]).keep (hblk.out _ (by omega))).cell 2; have hsz3' : w2.heap.size < w3.heap.size := (by omega); have Hb3 := Lib.hid hb3; have Hown3 := Lib.hid hown3; clear hb3 hown3))
    all_goals
      have hq : Below w2.heap.size _ w3 := Hb3.out.mono (by (try simp); (try omega))
      have hb23 : Below w2.heap.size w2 w3 := (((Below.refl _ w2).alloc (Nat.le_refl _) (.cells #[.slice VA y.ty.sizes.length VC, .slice WA y.ty.cos.length WC, .slice LA y.fs.length LC] 36)).drew).trans hq
      have hbx : Below bq w2 w4 := ((hb23.mono (by omega)).alloc (by omega) _).grown Hgrow.out (by (try simp); (try omega)) (fun k hk => (owns_lt How.out k hk).1)
      have hw4 : w2.heap.size < w4.heap.size := Hr4.out.lt
      have rc4 := Rc2.out.below hbx (by omega)
      obtain ⟨w5, hw5⟩ : ∃ u, u = w4.setCell ⟨w2.heap.size, 2, none⟩ (.slice (some ⟨g', 0, none⟩) (y.fs.length + 1) cap3) := ⟨_, rfl⟩
      have hblk5 : ∀ g, g ≠ w2.heap.size → w5.heap[g]? = w4.heap[g]? := fun g hg => by rw [hw5]; exact Below.heap_setCell _ _ _ _ (by dsimp only; omega)
      have hsz5 : w5.heap.size = w4.heap.size := by rw [hw5]; simp [World.setCell]
      have hco5 : FusOwned w5 bq (.slice (some ⟨g', 0, none⟩) (y.fs.length + 1) cap3) (fun i => (addFu y f).fs.getD i default) (y.fs.length + 1) :=
        FusOwned.push_store (w := w2) (w2 := w3) (w3 := w4) (bv := w2.heap.size + 1) Hmo.out How.out (by omega) (show (y.fs ++ [f]).getD y.fs.length default = f by simp) hb23 (by omega) (by omega) (by simpa using Hown3.out) Hgrow.out Hat.out Hown4.out (by omega) (fun g hg => hblk5 g (by omega))
      have hb5 : Below w.heap.size w w5 := by
        rw [hw5]
        exact ((Hb1.out.trans (Hb2.out.mono (by omega))).trans (hbx.mono (by omega))).setCell (by dsimp only; omega) _
      have hrow5 : Row w5 w2.heap.size 36 [.slice VA y.ty.sizes.length VC, .slice WA y.ty.cos.length WC, .slice (some ⟨g', 0, none⟩) (y.fs.length + 1) cap3] := by rw [hw5]; exact Hr4.out.set_ 2 _
      have rc5 := rc4.keep (hblk5 _ (by omega))
      have hsy5 : SyOwned w5 (w.heap.size + 1 + 1 + 1) (.slice VA y.ty.sizes.length VC) (.slice WA y.ty.cos.length WC) (.slice (some ⟨g', 0, none⟩) (y.fs.length + 1) cap3) (addFu y f) := by
        refine ⟨bb, u, bq, by omega, hbu, Htys.out, fun g hg hgl => ?_, hubq, by omega, ?_⟩
        · exact (hblk5 g (by omega)).trans ((hbx.block g (by omega)).trans (Hkeep.out g hg hgl))
        · have e : (addFu y f).fs.length = y.fs.length + 1 := by simp [addFu]
          rw [e]
          exact hco5
      have hfits : (addFu y f).fits := by
        refine ⟨hfitS.out.1, fun j hj => ?_⟩
        by_cases e : j < y.fs.length
        · have e2 : (addFu y f).fs[j] = y.fs[j] := List.getElem_append_left e
          rw [e2]
          exact hfitS.out.2 j e
        · have e1 : j = y.fs.length := by
            have : (addFu y f).fs.length = y.fs.length + 1 := by simp [addFu]
            omega
          subst e1
          have e2 : (addFu y f).fs[y.fs.length] = f := by simp [addFu]
          rw [e2]
          exact hfitF.out
      have hat5 : SyAt w5 w.heap.size w5.heap.size (.slice VA y.ty.sizes.length VC) (.slice WA y.ty.cos.length WC) (.slice (some ⟨g', 0, none⟩) (y.fs.length + 1) cap3) (addFu y f) := hsy5.syAt hfits (by omega) (Nat.le_refl _)
      rw [← hw5]
      have u0 := hrow5.cell 0
      have u1 := hrow5.cell 1
      have u2 := hrow5.cell 2
      simp only [List.getElem?_cons_zero, List.getElem?_cons_succ] at u0 u1 u2
      have Hsy5 := Lib.hid hsy5
      have Hat5 := Lib.hid hat5
      have Hb5 := Lib.hid hb5
      have Rc5 := Lib.hid rc5
      have Rm5 := Lib.hid hrow5
      have hlt5 : w2.heap.size < w5.heap.size := by omega
      clear hq hb23 hbx rc4 rc5 hrow5 hblk5 hco5 hb5 hsy5 hat5 hfits hw5 Hgrow Hat Hown4 Hr4 Hb3 H2 Hown3 q2 q2f
      go_wp2_with fail
      refine (implSysValid_any w.heap.size w5.heap.size _ _ _ (addFu y f) _ Hat5.out (Nat.le_refl _)).mono ?_
      rintro e w6 ⟨rfl, hb6⟩
      have hs6 := hb6.size
      have rc6 := Rc5.out.below hb6 (by omega)
      have rm6 := Rm5.out.below hb6 (by omega)
      have v0 := rc6.cell 0
      have v1 := rc6.cell 1
      have v2 := rc6.cell 2
      have vf0 := rc6.frozen 0
      have vf1 := rc6.frozen 1
      have vf2 := rc6.frozen 2
      have x0 := rm6.cell 0
      have x1 := rm6.cell 1
      have x2 := rm6.cell 2
      simp only [List.getElem?_cons_zero, List.getElem?_cons_succ] at v0 v1 v2 x0 x1 x2
      have Hb6 := Lib.hid hb6
      clear hb6 rc6 rm6 u0 u1 u2
      by_cases hok2 : syB (addFu y f) = true
      · have hfin : withOkF y f = true := by unfold withOkF; rw [Hok.out, hok2]; rfl
        have Hfin := Lib.hid hfin
        rw [hok2]
        clear hok2 hfin
        go_wp2
        refine bodyPost_ret (v := .tuple #[.agg #[.slice VA y.ty.sizes.length VC, .slice WA y.ty.cos.length WC, .slice (some ⟨g', 0, none⟩) (y.fs.length + 1) cap3], .bool true]) (by simp [results, Try.results34, go_sem, v0, v1, v2]) rfl ?_
        refine ⟨_, _, _, by rw [Hfin.out], (((Hb5.out.trans (Hb6.out.mono (by omega))).setCell (by dsimp only; omega) _).setCell (by dsimp only; omega) _).setCell (by dsimp only; omega) _, ?_⟩
        have e1 : withFu y f = addFu y f := by unfold withFu; rw [Hfin.out]; rfl
        rw [e1]
        refine SyOwned.lower (base := w.heap.size + 1 + 1 + 1) (Hsy5.out.keep (by simp [World.setCell]; omega) fun g hg hgl => ?_) (by omega)
        exact (Below.heap_setCell _ _ _ _ (by dsimp only; omega)).trans ((Below.heap_setCell _ _ _ _ (by dsimp only; omega)).trans ((Below.heap_setCell _ _ _ _ (by dsimp only; omega)).trans (Hb6.out.block g hgl)))
      · have hokf2 : syB (addFu y f) = false := by simpa using hok2
        have hfin : withOkF y f = false := by unfold withOkF; rw [hokf2]; simp
        have Hfin := Lib.hid hfin
        rw [hokf2]
        clear hok2 hokf2 hfin
        go_wp2
        refine bodyPost_ret (v := .tuple #[.agg #[.slice none 0 0, .slice none 0 0, .slice none 0 0], .bool false]) (by simp [results, Try.results34, go_sem, v0, v1, v2]) rfl ?_
        refine ⟨_, _, _, by rw [Hfin.out], (((Hb5.out.trans (Hb6.out.mono (by omega))).setCell (by dsimp only; omega) _).setCell (by dsimp only; omega) _).setCell (by dsimp only; omega) _, ?_⟩
        have e1 : withFu y f = ⟨⟨[], []⟩, []⟩ := by unfold withFu; rw [Hfin.out]; rfl
        rw [e1]
        exact SyOwned.none_ _ _ (by simp [World.setCell]; omega)
  · have hokf : syB y = false := by simpa using hok
    have hfin : withOkF y f = false := by unfold withOkF; rw [hokf]; rfl
    have Hfin := Lib.hid hfin
    rw [hokf]
    clear hok hokf hfin
    go_wp2
    refine bodyPost_ret (v := .tuple #[.agg #[.slice none 0 0, .slice none 0 0, .slice none 0 0], .bool false]) (by simp [results, Try.results34, go_sem, c0, c1, c2]) rfl ?_
    refine ⟨_, _, _, by rw [Hfin.out], ((Hb1.out.setCell (by dsimp only; omega) _).setCell (by dsimp only; omega) _).setCell (by dsimp only; omega) _, ?_⟩
    have e1 : withFu y f = ⟨⟨[], []⟩, []⟩ := by unfold withFu; rw [Hfin.out]; rfl
    rw [e1]
    exact SyOwned.none_ _ _ (by simp [World.setCell]; omega)
end Go.Proofs.Ytilcahidmoaakaa

namespace Go.Proofs.Ytilcahidmoaakaa
open Go.RowKit

theorem if_stepF {c : Bool} {A B : Prop} (h : c = true) (ha : A) : if c = true then A else B := by rw [if_pos h]; exact ha

theorem fusAt_more {u : World} {N lo hi L : Nat} {v z y : Value} {fs : List Fu} {f : Fu} {news : List Value} (hown : u.ownsRow N 55 4 v (fs.length + 1) (news ++ [.string f.name, z, .int .i64 f.res, y])) (hn : FusNews u lo hi news fs)
    (hf : FuAt u L u.heap.size (.string f.name) z (.int .i64 f.res) y f) (hL1 : L ≤ lo) (hLN : L ≤ N) (hh : hi ≤ u.heap.size) : FusAt u L u.heap.size v (fs ++ [f]) := by
  have hlt := owns_lt hown
  obtain ⟨hlen, ⟨_, h0⟩ | ⟨g, cap, cur, rfl, hg, hh2, hc1, hc2, hcs, htake⟩⟩ := hown
  · omega
  obtain ⟨av, tv, hl, hnw⟩ := hn
  have hrow : Row u g 55 cur.toList := by unfold Row; simpa using hh2
  have cell : ∀ j, j < (fs.length + 1) * 4 → u.cell? ⟨g, j, none⟩ = (news ++ [.string f.name, z, .int .i64 f.res, y])[j]? := by
    intro j hj
    rw [← htake, List.getElem?_take_of_lt hj]
    exact hrow.cell j
  refine ⟨some ⟨g, 0, none⟩, cap, by simp, by simpa using hc1, hc2, fun _ => ⟨g, 0, rfl, by omega, (hlt g rfl).2, fun k hk => ?_⟩⟩
  rw [Nat.zero_add]
  by_cases hkl : k < fs.length
  · obtain ⟨n0, n1, n2, n3, n4⟩ := hnw k hkl
    have e : (fs ++ [f]).getD k default = fs[k] := by rw [List.getD_eq_getElem?_getD, List.getElem?_append_left hkl, List.getElem?_eq_getElem hkl]; rfl
    rw [e]
    refine ⟨.string fs[k].name, av k, .int .i64 fs[k].res, tv k, ?_, ?_, ?_, ?_, n4.more (by omega) hh⟩
    · rw [cell _ (by omega), List.getElem?_append_left (by omega), n0]
    · rw [cell _ (by omega), List.getElem?_append_left (by omega), n1]
    · rw [cell _ (by omega), List.getElem?_append_left (by omega), n2]
    · rw [cell _ (by omega), List.getElem?_append_left (by omega), n3]
  · obtain rfl : k = fs.length := by simp at hk; omega
    have e : (fs ++ [f]).getD fs.length default = f := by rw [List.getD_eq_getElem?_getD]; simp
    rw [e]
    refine ⟨.string f.name, z, .int .i64 f.res, y, ?_, ?_, ?_, ?_, hf⟩
    · rw [cell _ (by omega), List.getElem?_append_right (by omega), hl]; simp
    · rw [cell _ (by omega), List.getElem?_append_right (by omega), hl]; simp
    · rw [cell _ (by omega), List.getElem?_append_right (by omega), hl]; simp
    · rw [cell _ (by omega), List.getElem?_append_right (by omega), hl]; simp

set_option maxRecDepth 100000 in
set_option maxHeartbeats 4000000 in
theorem specRawF_any (lo hi : Nat) (sv cv fv x a r tv : Value) (y : Sy) (f : Fu) (w : World) (hv : SyAt w lo hi sv cv fv y) (hc : FuAt w lo hi x a r tv f) (hB : hi ≤ w.heap.size) (hbk : y.bulk ≤ 1048576) (hla : f.args.length ≤ 1048576) (hlt : f.table.length ≤ 1048576) :
    Calls Try.prog 97 #[.agg #[sv, cv, fv], .agg #[x, a, r, tv]] w fun e w' => ∃ v l q, e = .returned (.tuple #[.agg #[v, l, q], .bool (withOkF y f)]) ∧ Below w.heap.size w w' ∧ SyAt w' w.heap.size w'.heap.size v l q (withFu y f) := by
  obtain ⟨A, cap, rfl, hl1, hm1, _⟩ := hv.1.1.form
  obtain ⟨B, bap, rfl, hl2, hm2, _⟩ := hv.1.2.form
  obtain ⟨Q, qap, rfl, hl3, hm3, _⟩ := hv.2.form
  have hfitF := Lib.hid (FuAt.fits hc)
  obtain ⟨rfl, rfl, hn0, hs, ha, ht⟩ := hc
  obtain ⟨A2, cap2, rfl, _, _, ha⟩ := ha.form
  obtain ⟨T2, tap2, rfl, _, _, ht⟩ := ht.form
  have hb' := hbk
  unfold Sy.bulk at hb'
  have hn : y.fs.length ≤ 1048576 := by omega
  clear hb'
  have h3 : Below w.heap.size w (((w.alloc (.cells #[.slice A y.ty.sizes.length cap, .slice B y.ty.cos.length bap, .slice Q y.fs.length qap] 36)).alloc (.cells #[.string f.name, .slice A2 f.args.length cap2, .int .i64 f.res, .slice T2 f.table.length tap2] 55)).alloc (.cells #[.slice none 0 0, .slice none 0 0, .slice none 0 0] 36)) := by go_grown
  have Hv := Lib.hid hv
  have Hf := Lib.hid (show FuAt w lo hi (.string f.name) (.slice A2 f.args.length cap2) (.int .i64 f.res) (.slice T2 f.table.length tap2) f from ⟨rfl, rfl, hn0, hs, ha, ht⟩)
  have H3 := Lib.hid h3
  clear hv ha ht h3
  go_enter Try.func97, Try.ntmps97
  go_wp2_with fail
  refine (ownSys_any lo hi _ _ _ y _ (Hv.out.below H3.out hB) (by simp; omega) hbk).mono ?_
  rintro e w1 ⟨v, l, q, rfl, hb1, hty1⟩
  obtain ⟨VA, VC, rfl, _, _, _⟩ := hty1.1.1.form
  obtain ⟨WA, WC, rfl, _, _, _⟩ := hty1.1.2.form
  obtain ⟨LA, LC, rfl, _, _, _⟩ := hty1.2.form
  have RT : Row w1 w.heap.size 36 [.slice A y.ty.sizes.length cap, .slice B y.ty.cos.length bap, .slice Q y.fs.length qap] :=
    (((Row.new w 36 [.slice A y.ty.sizes.length cap, .slice B y.ty.cos.length bap, .slice Q y.fs.length qap]).keep (Below.heap_alloc _ _ _ (by simp))).keep (Below.heap_alloc _ _ _ (by simp; omega))).below hb1 (by simp; omega)
  have RC : Row w1 (w.heap.size + 1) 55 [.string f.name, .slice A2 f.args.length cap2, .int .i64 f.res, .slice T2 f.table.length tap2] := by
    have h := Row.new (w.alloc (.cells #[.slice A y.ty.sizes.length cap, .slice B y.ty.cos.length bap, .slice Q y.fs.length qap] 36)) 55 [.string f.name, .slice A2 f.args.length cap2, .int .i64 f.res, .slice T2 f.table.length tap2]
    rw [World.size_alloc] at h
    exact (h.keep (Below.heap_alloc _ _ _ (by simp))).below hb1 (by simp)
  have RR : Row w1 (w.heap.size + 1 + 1) 36 [.slice none 0 0, .slice none 0 0, .slice none 0 0] := by
    have h := Row.new ((w.alloc (.cells #[.slice A y.ty.sizes.length cap, .slice B y.ty.cos.length bap, .slice Q y.fs.length qap] 36)).alloc (.cells #[.string f.name, .slice A2 f.args.length cap2, .int .i64 f.res, .slice T2 f.table.length tap2] 55)) 36 [.slice none 0 0, .slice none 0 0, .slice none 0 0]
    rw [World.size_alloc, World.size_alloc] at h
    exact h.below hb1 (by simp)
  have hs1 : w.heap.size + 1 + 1 + 1 ≤ w1.heap.size := by have := hb1.size; simpa using this
  have hb1w : Below w.heap.size w w1 := H3.out.trans (hb1.mono (by simp; omega))
  simp only [World.size_alloc] at hty1
  have a0 := RT.cell 0
  have a1 := RT.cell 1
  have a2 := RT.cell 2
  have af0 := RT.frozen 0
  have af1 := RT.frozen 1
  have af2 := RT.frozen 2
  have b0 := RC.cell 0
  have b1 := RC.cell 1
  have b2 := RC.cell 2
  have b3 := RC.cell 3
  simp only [List.getElem?_cons_zero, List.getElem?_cons_succ] at a0 a1 a2 b0 b1 b2 b3
  have Hb1 := Lib.hid hb1w
  have Hty1 := Lib.hid hty1
  have HRT := Lib.hid RT
  have HRC := Lib.hid RC
  have HRR := Lib.hid RR
  clear hb1 hty1 hb1w RT RC RR
  go_wp2_with fail
  obtain ⟨w2, hw2⟩ : ∃ u, u = ((w1.setCell ⟨w.heap.size, 0, none⟩ (.slice VA y.ty.sizes.length VC)).setCell ⟨w.heap.size, 1, none⟩ (.slice WA y.ty.cos.length WC)).setCell ⟨w.heap.size, 2, none⟩ (.slice LA y.fs.length LC) := ⟨_, rfl⟩
  rw [← hw2]
  have RT2 : Hid (Row w2 w.heap.size 36 [.slice VA y.ty.sizes.length VC, .slice WA y.ty.cos.length WC, .slice LA y.fs.length LC]) := by rw [hw2]; exact ((HRT.out.set_ 0 _).set_ 1 _).set_ 2 _
  have hk2 : ∀ k, k ≠ w.heap.size → w2.heap[k]? = w1.heap[k]? := fun k hk => by rw [hw2]; exact (Below.heap_setCell _ _ _ _ (by dsimp only; omega)).trans ((Below.heap_setCell _ _ _ _ (by dsimp only; omega)).trans (Below.heap_setCell _ _ _ _ (by dsimp only; omega)))
  have RC2 : Hid (Row w2 (w.heap.size + 1) 55 [.string f.name, .slice A2 f.args.length cap2, .int .i64 f.res, .slice T2 f.table.length tap2]) := HRC.out.keep (hk2 _ (by omega))
  have RR2 : Hid (Row w2 (w.heap.size + 1 + 1) 36 [.slice none 0 0, .slice none 0 0, .slice none 0 0]) := HRR.out.keep (hk2 _ (by omega))
  have Hb2 : Hid (Below w.heap.size w w2) := by rw [hw2]; exact ((Hb1.out.setCell (by dsimp only; omega) _).setCell (by dsimp only; omega) _).setCell (by dsimp only; omega) _
  have e2s : w2.heap.size = w1.heap.size := by rw [hw2]; simp [World.setCell]
  have Hty2 : Hid (SyAt w2 (w.heap.size + 1 + 1 + 1) w2.heap.size (.slice VA y.ty.sizes.length VC) (.slice WA y.ty.cos.length WC) (.slice LA y.fs.length LC) y) := by
    rw [e2s]
    exact Hty1.out.keep fun k hk1 _ => hk2 k (by omega)
  have hs2 : w.heap.size + 1 + 1 + 1 ≤ w2.heap.size := by omega
  clear hw2 hk2 e2s a0 a1 a2 af0 af1 af2 b0 b1 b2 b3 Hty1 Hb1 HRT HRC HRR
  refine (ownFu_any lo hi _ _ _ _ f _ (Hf.out.below Hb2.out hB) (by omega) hla hlt).mono ?_
  rintro e w3 ⟨v3, t3, rfl, hb3, hown3⟩
  have hfu3 : FuAt w3 w2.heap.size w3.heap.size (.string f.name) v3 (.int .i64 f.res) t3 f := by
    obtain ⟨C, k1, k2, _, k4⟩ := id hown3
    exact ⟨rfl, rfl, hfitF.out.1, hfitF.out.2.1, ownsRow.intsAt k2 hfitF.out.2.2.1 (Nat.le_refl _) (Nat.le_refl _), ownsRow.intsAt k4 hfitF.out.2.2.2 (by omega) (Nat.le_refl _)⟩
  obtain ⟨C2, hCC, hownA, hvC2, hownT⟩ := id hown3
  obtain ⟨VA3, VC3, rfl⟩ := owns_form hownA
  obtain ⟨TA3, TC3, rfl⟩ := owns_form hownT
  clear hCC hownA hvC2 hownT
  have hs3 := hb3.size
  have RT3 := Lib.hid (RT2.out.below hb3 (by omega))
  have RC3 := Lib.hid (RC2.out.below hb3 (by omega))
  have RR3 := Lib.hid (RR2.out.below hb3 (by omega))
  have Hty3 := Lib.hid (Hty2.out.below hb3 (Nat.le_refl _))
  have Hb3 := Lib.hid (Hb2.out.trans (hb3.mono (by omega)))
  have Hi3 := Lib.hid hfu3
  have m0 := RC3.out.cell 0
  have m1 := RC3.out.cell 1
  have m2 := RC3.out.cell 2
  have m3 := RC3.out.cell 3
  have mf0 := RC3.out.frozen 0
  have mf1 := RC3.out.frozen 1
  have mf2 := RC3.out.frozen 2
  have mf3 := RC3.out.frozen 3
  simp only [List.getElem?_cons_zero, List.getElem?_cons_succ] at m0 m1 m2 m3
  clear hb3 hown3 hfu3 RT2 RC2 RR2 Hty2 Hb2
  go_wp2_with fail
  obtain ⟨w4, hw4⟩ : ∃ u, u = (((w3.setCell ⟨w.heap.size + 1, 0, none⟩ (.string f.name)).setCell ⟨w.heap.size + 1, 1, none⟩ (.slice VA3 f.args.length VC3)).setCell ⟨w.heap.size + 1, 2, none⟩ (.int .i64 f.res)).setCell ⟨w.heap.size + 1, 3, none⟩ (.slice TA3 f.table.length TC3) := ⟨_, rfl⟩
  rw [← hw4]
  have RC4 : Hid (Row w4 (w.heap.size + 1) 55 [.string f.name, .slice VA3 f.args.length VC3, .int .i64 f.res, .slice TA3 f.table.length TC3]) := by rw [hw4]; exact (((RC3.out.set_ 0 _).set_ 1 _).set_ 2 _).set_ 3 _
  have hk4 : ∀ k, k ≠ w.heap.size + 1 → w4.heap[k]? = w3.heap[k]? := fun k hk => by rw [hw4]; exact (((Below.heap_setCell _ _ _ _ (by dsimp only; omega)).trans (Below.heap_setCell _ _ _ _ (by dsimp only; omega))).trans (Below.heap_setCell _ _ _ _ (by dsimp only; omega))).trans (Below.heap_setCell _ _ _ _ (by dsimp only; omega))
  have RT4 : Hid (Row w4 w.heap.size 36 [.slice VA y.ty.sizes.length VC, .slice WA y.ty.cos.length WC, .slice LA y.fs.length LC]) := RT3.out.keep (hk4 _ (by omega))
  have RR4 : Hid (Row w4 (w.heap.size + 1 + 1) 36 [.slice none 0 0, .slice none 0 0, .slice none 0 0]) := RR3.out.keep (hk4 _ (by omega))
  have Hb4 : Hid (Below w.heap.size w w4) := by rw [hw4]; exact (((Hb3.out.setCell (by dsimp only; omega) _).setCell (by dsimp only; omega) _).setCell (by dsimp only; omega) _).setCell (by dsimp only; omega) _
  have hs4 : Hid (w4.heap.size = w3.heap.size) := by show _ = _; rw [hw4]; simp [World.setCell]
  have hlt4 : w.heap.size + 1 + 1 + 1 ≤ w4.heap.size := by have := hs4.out; omega
  have Hty4 := Lib.hid (Hty3.out.keep fun k hk1 _ => hk4 k (by omega))
  have Hi4 := Lib.hid (Hi3.out.keep fun k hk1 _ => hk4 k (by omega))
  clear hw4 m0 m1 m2 m3 mf0 mf1 mf2 mf3 RC3 RT3 RR3 Hb3 Hty3 Hi3 hk4
  obtain ⟨i0, hi0, hz0, hz1, hz2⟩ := info_parts infoFunction
  have Hcf : Hid (∀ {u : World}, (∀ k, k < w4.heap.size → u.heap[k]? = w4.heap[k]?) → (u.cell? ⟨w.heap.size, 0, none⟩ = some (.slice VA y.ty.sizes.length VC) ∧ u.cell? ⟨w.heap.size, 1, none⟩ = some (.slice WA y.ty.cos.length WC) ∧ u.cell? ⟨w.heap.size, 2, none⟩ = some (.slice LA y.fs.length LC) ∧ u.cell? ⟨w.heap.size + 1, 0, none⟩ = some (.string f.name) ∧ u.cell? ⟨w.heap.size + 1, 1, none⟩ = some (.slice VA3 f.args.length VC3) ∧ u.cell? ⟨w.heap.size + 1, 2, none⟩ = some (.int .i64 f.res) ∧ u.cell? ⟨w.heap.size + 1, 3, none⟩ = some (.slice TA3 f.table.length TC3))) := fun {u} hk =>
    ⟨(World.cell?_of_block (w := w4) (hk w.heap.size (by omega))).trans (RT4.out.cell 0), (World.cell?_of_block (w := w4) (hk w.heap.size (by omega))).trans (RT4.out.cell 1), (World.cell?_of_block (w := w4) (hk w.heap.size (by omega))).trans (RT4.out.cell 2), (World.cell?_of_block (w := w4) (hk (w.heap.size + 1) (by omega))).trans (RC4.out.cell 0), (World.cell?_of_block (w := w4) (hk (w.heap.size + 1) (by omega))).trans (RC4.out.cell 1), (World.cell?_of_block (w := w4) (hk (w.heap.size + 1) (by omega))).trans (RC4.out.cell 2), (World.cell?_of_block (w := w4) (hk (w.heap.size + 1) (by omega))).trans (RC4.out.cell 3)⟩
  have hcos := Lib.hid Hty4.out.2
  have hinv : RFfacts (w.heap.size + 1 + 1 + 1) w2.heap.size w4.heap.size w.heap.size w4 y.fs (.slice VA y.ty.sizes.length VC) (.slice WA y.ty.cos.length WC) (.slice LA y.fs.length LC) (.string f.name) (.slice VA3 f.args.length VC3) (.int .i64 f.res) (.slice TA3 f.table.length TC3) (fun _ => false) undef undef undef undef undef undef undef undef undef undef undef w4.drew :=
    ⟨(Below.refl _ _).drew, nofun, nofun, nofun, nofun, nofun, nofun, nofun, nofun, nofun, nofun, nofun, nofun⟩
  refine wp_region_inv (by kernel_rfl) (fun fl a u => ∃ x6 x11 x12 x13 x14 x15 x16 x17 x18 x19 x20, a = ⟨#[.agg #[.slice A y.ty.sizes.length cap, .slice B y.ty.cos.length bap, .slice Q y.fs.length qap], .agg #[.string f.name, .slice A2 f.args.length cap2, .int .i64 f.res, .slice T2 f.table.length tap2], .pointer (some ⟨w.heap.size, 0, none⟩), .pointer (some ⟨w.heap.size + 1, 0, none⟩), .pointer (some ⟨w.heap.size + 1 + 1, 0, none⟩), .bool false, x6, .agg #[.slice A y.ty.sizes.length cap, .slice B y.ty.cos.length bap, .slice Q y.fs.length qap], .agg #[.slice VA y.ty.sizes.length VC, .slice WA y.ty.cos.length WC, .slice LA y.fs.length LC], .agg #[.string f.name, .slice A2 f.args.length cap2, .int .i64 f.res, .slice T2 f.table.length tap2], .agg #[.string f.name, .slice VA3 f.args.length VC3, .int .i64 f.res, .slice TA3 f.table.length TC3], x11, x12, x13, x14, x15, x16, x17, x18, x19, x20, undef, undef, undef, undef, undef, undef, undef, undef, undef, undef], []⟩ ∧ RFfacts (w.heap.size + 1 + 1 + 1) w2.heap.size w4.heap.size w.heap.size w4 y.fs (.slice VA y.ty.sizes.length VC) (.slice WA y.ty.cos.length WC) (.slice LA y.fs.length LC) (.string f.name) (.slice VA3 f.args.length VC3) (.int .i64 f.res) (.slice TA3 f.table.length TC3) fl x6 x11 x12 x13 x14 x15 x16 x17 x18 x19 x20 u ∧ RClF fl) (of_decide_eq_true (by kernel_rfl)) ⟨_, _, _, _, _, _, _, _, _, _, _, rfl, hinv, ⟨nofun, nofun, nofun, nofun⟩⟩ ?_ ?_
  · rintro fl a u i o ho hfi hdep ⟨x6, x11, x12, x13, x14, x15, x16, x17, x18, x19, x20, rfl, hF, hC⟩
    have hil : i < 12 := by have := (Array.getElem?_eq_some_iff.1 ho).1; simpa using this
    have hsz := hF.bel.size
    obtain ⟨p0, p1, p2, p3, p4, p5, p6⟩ := Hcf.out (u := u) (fun k hk => hF.bel.block k hk)
    have HF := Lib.hid hF
    obtain rfl | rfl | rfl | rfl | rfl | rfl | rfl | rfl | rfl | rfl | rfl | rfl : i = 0 ∨ i = 1 ∨ i = 2 ∨ i = 3 ∨ i = 4 ∨ i = 5 ∨ i = 6 ∨ i = 7 ∨ i = 8 ∨ i = 9 ∨ i = 10 ∨ i = 11 := by omega
    all_goals
      obtain rfl := Option.some.inj ho
      refine wpOp_step ho fun K hK => ?_
      simp [Region.binds] at hdep
      clear ho
    · refine if_stepF rfl ?_
      clear hF
      unfold Oper.wp
      go_simp
      exact hK _ _ ⟨_, _, _, _, _, _, _, _, _, _, _, rfl, HF.out.s0, hC.u0⟩
    · obtain rfl := hF.a0 hdep
      refine if_stepF rfl ?_
      clear hF
      unfold Oper.wp
      go_simp
      exact hK _ _ ⟨_, _, _, _, _, _, _, _, _, _, _, rfl, HF.out.s1, hC.u1⟩
    · refine if_stepF rfl ?_
      clear hF
      unfold Oper.wp
      go_simp
      exact hK _ _ ⟨_, _, _, _, _, _, _, _, _, _, _, rfl, (HF.out.grow hsz (by have := hs4.out; omega) ((Below.refl _ _).alloc (Nat.le_refl _) _)).s2 hsz (Row.new u 55 []), hC.u2⟩
    · refine if_stepF rfl ?_
      clear hF
      unfold Oper.wp
      go_simp
      exact hK _ _ ⟨_, _, _, _, _, _, _, _, _, _, _, rfl, HF.out.s3, hC.u3⟩
    · obtain rfl := hF.a3 hdep
      refine if_stepF rfl ?_
      clear hF
      unfold Oper.wp
      go_simp
      exact hK _ _ ⟨_, _, _, _, _, _, _, _, _, _, _, rfl, HF.out.s4, hC.u4⟩
    · obtain ⟨b, hbN, rfl, hrow⟩ := hF.a2 hdep.1 hfi
      obtain rfl := hF.a4 hdep.2
      have hf8 := hC.n8 hfi
      refine step_append_fus rfl (.tmp 13) (.tmp 15) rfl w4.heap.size b rfl hbN hrow (w.heap.size + 1 + 1 + 1) w2.heap.size LA y.fs.length LC y.fs rfl rfl (hcos.out.keep fun k _ hk => hF.bel.block k (by have := hs4.out; omega)) hn hsz ?_
      intro VA5 VC5 u5 news hown5 hnews hgrow5
      exact hK _ _ ⟨_, _, _, _, _, _, _, _, _, _, _, rfl, hF.append1 hsz (by have := hs4.out; omega) hf8 (hC.nb hf8) (hC.n9 hf8) hbN hrow hgrow5 hown5 hnews, hC.u5⟩
    · refine if_stepF rfl ?_
      clear hF
      unfold Oper.wp
      go_simp
      exact hK _ _ ⟨_, _, _, _, _, _, _, _, _, _, _, rfl, HF.out.s6, hC.u6⟩
    · obtain rfl := hF.a6 hdep
      refine if_stepF rfl ?_
      clear hF
      unfold Oper.wp
      go_simp
      exact hK _ _ ⟨_, _, _, _, _, _, _, _, _, _, _, rfl, (HF.out.grow hsz (by have := hs4.out; omega) ((Below.refl _ _).alloc (Nat.le_refl _) _)).s7 hsz (Row.new u 55 [.string f.name, .slice VA3 f.args.length VC3, .int .i64 f.res, .slice TA3 f.table.length TC3]), hC.u7⟩
    · obtain ⟨A5, C5, news, rfl, hown, hnews⟩ := hF.a5 hdep.1 hfi
      obtain ⟨p, hp, rfl, hrow⟩ := hF.a7 (by simp_all) hfi
      have hf5 : fl 5 = true := hdep.1
      refine step_append_lies _ rfl (.tmp 16) (.tmp 18) 34 rfl w4.heap.size 55 i0 _ 4 72 Try.underlying34 hi0 hz0 hz1 hz2 rfl (by omega) _ y.fs.length news rfl hown ⟨p, 0, none⟩ 1 1 [.string f.name, .slice VA3 f.args.length VC3, .int .i64 f.res, .slice TA3 f.table.length TC3] rfl rfl (fun j v hv => by rw [Go.WideShapes.add_plain, Nat.zero_add, hrow.cell]; exact hv) (by intro v hv; simp at hv; rcases hv with rfl | rfl | rfl | rfl <;> rfl) (by omega) (by unfold maxLen; omega) (by omega) hsz _ rfl ?_
      intro g cap8 u8 hown8 hgrow8 hat8 hlt8
      exact hK _ _ ⟨_, _, _, _, _, _, _, _, _, _, _, rfl, hF.append2 hsz (by have := hs4.out; omega) (hC.nb hfi) (hC.n9 hfi) hf5 hown hgrow8 hown8 hnews, hC.u8 hf5⟩
    · obtain rfl := hF.a1 hdep.1
      have hf8 : fl 8 = true := by simp_all
      obtain ⟨A8, C8, news8, rfl, _, _⟩ := hF.a8 hf8
      refine if_stepF rfl ?_
      clear hF
      unfold Oper.wp
      go_simp
      exact hK _ _ ⟨_, _, _, _, _, _, _, _, _, _, _, rfl, HF.out.s9, hC.u9 hf8⟩
    · refine if_stepF rfl ?_
      clear hF
      unfold Oper.wp
      go_simp
      exact hK _ _ ⟨_, _, _, _, _, _, _, _, _, _, _, rfl, (HF.out.grow hsz (by have := hs4.out; omega) ((Below.refl _ _).alloc (Nat.le_refl _) _)).s10 hsz (Row.new u 36 [.slice none 0 0, .slice none 0 0, .slice none 0 0]) (hC.nb' hfi), hC.u10⟩
    · obtain ⟨h10, h9, h8, _, _, _, _, _, h5, _⟩ := hdep
      obtain ⟨q, hq, rfl, hrow⟩ := hF.a10 h10 hfi
      obtain rfl := hF.a9 h9
      obtain ⟨A8, C8, news8, rfl, _, _⟩ := hF.a8 h8
      have r0 := hrow.cell 0
      have r1 := hrow.cell 1
      have r2 := hrow.cell 2
      have rf0 := hrow.frozen 0
      have rf1 := hrow.frozen 1
      have rf2 := hrow.frozen 2
      simp only [List.getElem?_cons_zero, List.getElem?_cons_succ] at r0 r1 r2
      refine if_stepF rfl ?_
      have Hrow := Lib.hid hrow
      clear hF hrow
      unfold Oper.wp
      go_simp
      exact hK _ _ ⟨_, _, _, _, _, _, _, _, _, _, _, rfl, HF.out.s11 hsz (by have := hs4.out; omega) h5 h8 hq Hrow.out, hC.u11 h8 h10⟩
  · rintro fl a u hall ⟨x6, x11, x12, x13, x14, x15, x16, x17, x18, x19, x20, rfl, hF, hC⟩
    obtain rfl := hF.a0 (hall 0 (by decide))
    obtain ⟨A8, C8, news8, rfl, hown8, hnews8⟩ := hF.a8 (hall 8 (by decide))
    obtain ⟨q, hq, rfl, hrow⟩ := hF.a11 (hall 11 (by decide))
    have hsz := hF.bel.size
    obtain ⟨p0, p1, p2, p3, p4, p5, p6⟩ := Hcf.out (u := u) (fun k hk => hF.bel.block k hk)
    have RRu := Lib.hid (RR4.out.below hF.bel (by omega))
    have Hrow := Lib.hid hrow
    have Hbu := Lib.hid (Hb4.out.trans (hF.bel.mono (by omega)))
    have Htu := Lib.hid (Hty4.out.below hF.bel (by have := hs4.out; omega))
    have Hiu := Lib.hid ((Hi4.out.below hF.bel (by have := hs4.out; omega)).more (lo' := w.heap.size + 1 + 1 + 1) (hi' := u.heap.size) (by omega) (by have := hs4.out; omega))
    have Hout := Lib.hid (fusAt_more (L := w.heap.size + 1 + 1 + 1) hown8 hnews8 Hiu.out (by omega) (by omega) (by have := hs4.out; omega))
    have Htu2 := Lib.hid (show SyAt u (w.heap.size + 1 + 1 + 1) u.heap.size (.slice VA y.ty.sizes.length VC) (.slice WA y.ty.cos.length WC) (.slice A8 (y.fs.length + 1) C8) (addFu y f) from ⟨Htu.out.1.more (by omega) (by have := hs4.out; omega), Hout.out⟩)
    clear hF hrow hC hall hown8 hnews8
    go_wp2_with fail
    refine (specSysValid_any _ _ _ _ _ y _ Htu.out (by have := hs4.out; omega)).mono ?_
    rintro e v1 ⟨rfl, hbv1⟩
    have hsv1 := hbv1.size
    have RRv1 := Lib.hid (RRu.out.below hbv1 (by omega))
    have Rqv1 := Lib.hid (Hrow.out.below hbv1 Hrow.out.lt)
    have Hbv1 := Lib.hid (Hbu.out.trans (hbv1.mono (by omega)))
    have Htv1 := Lib.hid (Htu2.out.below hbv1 (Nat.le_refl _))
    have r0 := RRv1.out.cell 0
    have r1 := RRv1.out.cell 1
    have r2 := RRv1.out.cell 2
    have rf0 := RRv1.out.frozen 0
    have rf1 := RRv1.out.frozen 1
    have rf2 := RRv1.out.frozen 2
    have o0 := Rqv1.out.cell 0
    have o1 := Rqv1.out.cell 1
    have o2 := Rqv1.out.cell 2
    simp only [List.getElem?_cons_zero, List.getElem?_cons_succ] at r0 r1 r2 o0 o1 o2
    clear hbv1 p0 p1 p2 p3 p4 p5 p6
    have Hnil : Hid (∀ (u : World) (l h : Nat), SyAt u l h (.slice none 0 0) (.slice none 0 0) (.slice none 0 0) ⟨⟨[], []⟩, []⟩) := fun u l h => ⟨⟨⟨none, 0, rfl, Nat.le_refl _, Nat.zero_le _, by simp, fun h => absurd h (by simp)⟩, none, 0, rfl, Nat.le_refl _, Nat.zero_le _, fun h => absurd h (by simp)⟩, none, 0, rfl, Nat.le_refl _, Nat.zero_le _, fun h => absurd h (by simp)⟩
    by_cases hok : syB y = true
    · have Hok := Lib.hid hok
      rw [hok]
      clear hok
      go_wp2_with fail
      refine (specSysValid_any _ _ _ _ _ (addFu y f) _ Htv1.out (by omega)).mono ?_
      rintro e v2 ⟨rfl, hbv2⟩
      have RRv2 := Lib.hid (RRv1.out.below hbv2 (by omega))
      have Rqv2 := Lib.hid (Rqv1.out.below hbv2 Rqv1.out.lt)
      have Hbv2 := Lib.hid (Hbv1.out.trans (hbv2.mono (by omega)))
      have Htv2 := Lib.hid (Htv1.out.below hbv2 (by omega))
      have hsv2 := hbv2.size
      have m0 := RRv2.out.cell 0
      have m1 := RRv2.out.cell 1
      have m2 := RRv2.out.cell 2
      have mf0 := RRv2.out.frozen 0
      have mf1 := RRv2.out.frozen 1
      have mf2 := RRv2.out.frozen 2
      have n0 := Rqv2.out.cell 0
      have n1 := Rqv2.out.cell 1
      have n2 := Rqv2.out.cell 2
      simp only [List.getElem?_cons_zero, List.getElem?_cons_succ] at m0 m1 m2 n0 n1 n2
      clear hbv2 r0 r1 r2 rf0 rf1 rf2 o0 o1 o2
      by_cases hok2 : syB (addFu y f) = true
      · have hfin : withOkF y f = true := by unfold withOkF; rw [Hok.out, hok2]; rfl
        have Hfin := Lib.hid hfin
        rw [hok2]
        clear hok2 hfin
        go_wp2
        refine bodyPost_ret (v := .tuple #[.agg #[.slice VA y.ty.sizes.length VC, .slice WA y.ty.cos.length WC, .slice A8 (y.fs.length + 1) C8], .bool true]) (by simp [results, Try.results97, go_sem, m0, m1, m2]) rfl ?_
        refine ⟨_, _, _, by rw [Hfin.out], ((Hbv2.out.setCell (by dsimp only; omega) _).setCell (by dsimp only; omega) _).setCell (by dsimp only; omega) _, ?_⟩
        have e1 : withFu y f = addFu y f := by unfold withFu; rw [Hfin.out]; rfl
        rw [e1]
        refine SyAt.more (lo := w.heap.size + 1 + 1 + 1) (hi := u.heap.size) (Htv2.out.keep fun k hk1 _ => ?_) (by omega) (by simp [World.setCell]; omega)
        exact (Below.heap_setCell _ _ _ _ (by dsimp only; omega)).trans ((Below.heap_setCell _ _ _ _ (by dsimp only; omega)).trans (Below.heap_setCell _ _ _ _ (by dsimp only; omega)))
      · have hokf2 : syB (addFu y f) = false := by simpa using hok2
        have hfin : withOkF y f = false := by unfold withOkF; rw [hokf2]; simp
        have Hfin := Lib.hid hfin
        rw [hokf2]
        clear hok2 hokf2 hfin
        go_wp2
        refine bodyPost_ret (v := .tuple #[.agg #[.slice none 0 0, .slice none 0 0, .slice none 0 0], .bool false]) (by simp [results, Try.results97, go_sem, m0, m1, m2]) rfl ?_
        refine ⟨_, _, _, by rw [Hfin.out], ((Hbv2.out.setCell (by dsimp only; omega) _).setCell (by dsimp only; omega) _).setCell (by dsimp only; omega) _, ?_⟩
        have e1 : withFu y f = ⟨⟨[], []⟩, []⟩ := by unfold withFu; rw [Hfin.out]; rfl
        rw [e1]
        exact Hnil.out _ _ _
    · have hokf : syB y = false := by simpa using hok
      have hfin : withOkF y f = false := by unfold withOkF; rw [hokf]; rfl
      have Hfin := Lib.hid hfin
      rw [hokf]
      clear hok hokf hfin
      go_wp2
      refine bodyPost_ret (v := .tuple #[.agg #[.slice none 0 0, .slice none 0 0, .slice none 0 0], .bool false]) (by simp [results, Try.results97, go_sem, r0, r1, r2]) rfl ?_
      refine ⟨_, _, _, by rw [Hfin.out], ((Hbv1.out.setCell (by dsimp only; omega) _).setCell (by dsimp only; omega) _).setCell (by dsimp only; omega) _, ?_⟩
      have e1 : withFu y f = ⟨⟨[], []⟩, []⟩ := by unfold withFu; rw [Hfin.out]; rfl
      rw [e1]
      exact Hnil.out _ _ _
end Go.Proofs.Ytilcahidmoaakaa

namespace Go.Proofs.Ytilcahidmoaakaa
open Go.RowKit

theorem tyOk_bulk2 {t : Ty} (h : tyOk t = true) : t.bulk ≤ 45 := by
  have h1 : sizesOk t.sizes = true := by
    simp only [tyOk, Bool.and_eq_true] at h
    exact h.1.1
  have h2 : t.cos.length ≤ 8 := by
    simp only [tyOk, Bool.and_eq_true, decide_eq_true_eq] at h
    exact h.1.2
  have h3 : ∀ i, ∀ (hi : i < t.cos.length), coOk t.sizes t.cos[i] = true := fun i hi => by
    simp only [tyOk, Bool.and_eq_true, List.all_eq_true] at h
    exact h.2 _ (List.getElem_mem hi)
  obtain ⟨_, h5, h6⟩ := sizesOk_of h1
  have key : ∀ k, k ≤ t.cos.length → mapsLen t.cos k ≤ 4 * k := by
    intro k
    induction k with
    | zero => intro _; rw [mapsLen_zero]; omega
    | succ k ih =>
      intro hk
      have hi := ih (by omega)
      rw [mapsLen_succ _ _ (by omega)]
      obtain ⟨c1, c2, c3, c4, _⟩ := coOk_of (h3 k (by omega))
      have e : t.cos.getD k default = t.cos[k] := by rw [List.getD_eq_getElem?_getD, List.getElem?_eq_getElem (by omega : k < t.cos.length)]; rfl
      rw [e]
      have hs : t.cos[k].src.toNat < t.sizes.length := by omega
      have hd := h6 _ hs
      rw [List.getD_eq_getElem?_getD, List.getElem?_eq_getElem hs, Option.getD_some] at c4
      omega
  have := key _ (Nat.le_refl _)
  unfold Ty.bulk
  omega
theorem fuOk_weight {ss : List Int} {f : Fu} (hs : sizesOk ss = true) (h : FuOk ss f) : f.weight ≤ 19 := by
  obtain ⟨b, hb, _, _⟩ := h.name
  have h1 : f.name.size = 1 := by rw [hb]; rfl
  have h2 := h.few
  have h3 := (cellsTo_small hs h.args h.few f.args.length (Nat.le_refl _)).2
  have h4 := h.len
  unfold cellsI at h4
  unfold Fu.weight
  omega
theorem syB_bulk {y : Sy} (h : syB y = true) : y.bulk ≤ 205 := by
  have h := syB_iff.1 h
  have h1 := tyOk_bulk2 h.ty
  have hs : sizesOk y.ty.sizes = true := by
    have := h.ty
    simp only [tyOk, Bool.and_eq_true] at this
    exact this.1.1
  have key : ∀ k, k ≤ y.fs.length → fusLen y.fs k ≤ 19 * k := by
    intro k
    induction k with
    | zero => intro _; rw [fusLen_zero]; omega
    | succ k ih =>
      intro hk
      have hi := ih (by omega)
      rw [fusLen_succ _ _ (by omega)]
      have e : y.fs.getD k default = y.fs[k] := by rw [List.getD_eq_getElem?_getD, List.getElem?_eq_getElem (by omega : k < y.fs.length)]; rfl
      rw [e]
      have := fuOk_weight hs (h.each k (by omega))
      omega
  have h2 := key _ (Nat.le_refl _)
  have h3 := h.few
  unfold Sy.bulk
  omega
theorem withFu_bulk (y : Sy) (f : Fu) : (withFu y f).bulk ≤ 205 := by
  unfold withFu
  by_cases h : withOkF y f = true
  · rw [if_pos h]
    unfold withOkF at h
    simp only [Bool.and_eq_true] at h
    exact syB_bulk h.2
  · rw [if_neg h]
    simp [Sy.bulk, Ty.bulk, mapsLen, fusLen]

set_option maxRecDepth 100000 in
set_option maxHeartbeats 1000000 in
theorem specWithF_any (lo hi : Nat) (sv cv fv x a r tv : Value) (y : Sy) (f : Fu) (w : World) (hv : SyAt w lo hi sv cv fv y) (hc : FuAt w lo hi x a r tv f) (hB : hi ≤ w.heap.size) (hbk : y.bulk ≤ 1048576) (hla : f.args.length ≤ 1048576) (hlt : f.table.length ≤ 1048576) :
    Calls Try.prog 32 #[.agg #[sv, cv, fv], .agg #[x, a, r, tv]] w fun e w' => ∃ v l q, e = .returned (.tuple #[.agg #[v, l, q], .bool (withOkF y f)]) ∧ Below w.heap.size w w' ∧ SyAt w' w.heap.size w'.heap.size v l q (withFu y f) := by
  obtain ⟨A, cap, rfl, hl1, hm1, _⟩ := hv.1.1.form
  obtain ⟨B, bap, rfl, hl2, hm2, _⟩ := hv.1.2.form
  obtain ⟨Q, qap, rfl, hl3, hm3, _⟩ := hv.2.form
  obtain ⟨rfl, rfl, hn0, hs, ha, ht⟩ := hc
  obtain ⟨A2, cap2, rfl, _, _, ha⟩ := ha.form
  obtain ⟨T2, tap2, rfl, _, _, ht⟩ := ht.form
  have h3 : Below w.heap.size w (((w.alloc (.cells #[.slice A y.ty.sizes.length cap, .slice B y.ty.cos.length bap, .slice Q y.fs.length qap] 36)).alloc (.cells #[.string f.name, .slice A2 f.args.length cap2, .int .i64 f.res, .slice T2 f.table.length tap2] 55)).alloc (.cells #[.slice none 0 0, .slice none 0 0, .slice none 0 0] 36)) := by go_grown
  have hv3 := Lib.hid (hv.below h3 hB)
  have hc3 := Lib.hid (FuAt.below (show FuAt w lo hi (.string f.name) (.slice A2 f.args.length cap2) (.int .i64 f.res) (.slice T2 f.table.length tap2) f from ⟨rfl, rfl, hn0, hs, ha, ht⟩) h3 hB)
  have H3 := Lib.hid h3
  have Hb := Lib.hid (withFu_bulk y f)
  clear hv ha ht h3
  go_enter Try.func32, Try.ntmps32
  go_wp2_with fail
  refine (specRawF_any lo hi _ _ _ _ _ _ _ y f _ hv3.out hc3.out (by simp; omega) hbk hla hlt).mono ?_
  rintro e w1 ⟨v, l, q, rfl, hb1, hty1⟩
  have H1 := Lib.hid (H3.out.trans (hb1.mono (by simp; omega)))
  obtain ⟨VA, VC, rfl, _, _, _⟩ := hty1.1.1.form
  obtain ⟨LA, LC, rfl, _, _, _⟩ := hty1.1.2.form
  obtain ⟨QA, QC, rfl, _, _, _⟩ := hty1.2.form
  have RR : Row w1 (w.heap.size + 1 + 1) 36 [.slice none 0 0, .slice none 0 0, .slice none 0 0] := by
    have h := Row.new ((w.alloc (.cells #[.slice A y.ty.sizes.length cap, .slice B y.ty.cos.length bap, .slice Q y.fs.length qap] 36)).alloc (.cells #[.string f.name, .slice A2 f.args.length cap2, .int .i64 f.res, .slice T2 f.table.length tap2] 55)) 36 [.slice none 0 0, .slice none 0 0, .slice none 0 0]
    rw [World.size_alloc, World.size_alloc] at h
    exact h.below hb1 (by simp)
  have hs1 : w.heap.size + 1 + 1 + 1 ≤ w1.heap.size := by have := hb1.size; simpa using this
  simp only [World.size_alloc] at hty1
  have Hty1 := Lib.hid hty1
  have RR1 := Lib.hid RR
  clear hb1 hty1 RR
  go_wp2_with fail
  have hbx : Below w1.heap.size w1 (w1.alloc (.cells #[.slice VA (withFu y f).ty.sizes.length VC, .slice LA (withFu y f).ty.cos.length LC, .slice QA (withFu y f).fs.length QC] 36)) := (Below.refl _ _).alloc (Nat.le_refl _) _
  refine (ownSys_any _ _ _ _ _ (withFu y f) _ (Hty1.out.below hbx (Nat.le_refl _)) (by simp) (Nat.le_trans Hb.out (by omega))).mono ?_
  rintro e w2 ⟨v', l', q', rfl, hb2, hty2⟩
  obtain ⟨VA2, VC2, rfl, _, _, _⟩ := hty2.1.1.form
  obtain ⟨LA2, LC2, rfl, _, _, _⟩ := hty2.1.2.form
  obtain ⟨QA2, QC2, rfl, _, _, _⟩ := hty2.2.form
  have hb12 := hbx.trans (hb2.mono (by simp))
  have hs2 := hb12.size
  have RR2 := Lib.hid (RR1.out.below hb12 (by omega))
  have H2 := Lib.hid (H1.out.trans (hb12.mono (by omega)))
  have Hty2 := Lib.hid (hty2.more (lo' := w.heap.size + 1 + 1 + 1) (hi' := w2.heap.size) (by simp; omega) (Nat.le_refl _))
  have r0 := RR2.out.cell 0
  have r1 := RR2.out.cell 1
  have r2 := RR2.out.cell 2
  have rf0 := RR2.out.frozen 0
  have rf1 := RR2.out.frozen 1
  have rf2 := RR2.out.frozen 2
  simp only [List.getElem?_cons_zero, List.getElem?_cons_succ] at r0 r1 r2
  clear hb2 hty2 hbx hb12
  go_wp2
  refine bodyPost_ret (v := .tuple #[.agg #[.slice VA2 (withFu y f).ty.sizes.length VC2, .slice LA2 (withFu y f).ty.cos.length LC2, .slice QA2 (withFu y f).fs.length QC2], .bool (withOkF y f)]) (by simp [results, Try.results32, go_sem, r0, r1, r2]) rfl ?_
  refine ⟨_, _, _, rfl, ((H2.out.setCell (by dsimp only; omega) _).setCell (by dsimp only; omega) _).setCell (by dsimp only; omega) _, ?_⟩
  refine SyAt.more (lo := w.heap.size + 1 + 1 + 1) (hi := w2.heap.size) (Hty2.out.keep fun k hk1 _ => ?_) (by omega) (by simp [World.setCell])
  exact (Below.heap_setCell _ _ _ _ (by dsimp only; omega)).trans ((Below.heap_setCell _ _ _ _ (by dsimp only; omega)).trans (Below.heap_setCell _ _ _ _ (by dsimp only; omega)))
end Go.Proofs.Ytilcahidmoaakaa

namespace Go.Proofs.Ytilcahidmoaakaa
open Go.RowKit

/-- The call's result: D, kept where the blocks from lo on and below hi are kept. -/
structure WFFacts (D : World → Nat → Nat → Value → Value → Value → Prop) (N : Nat) (w0 : World) (tv cv : Value) (t : Sy) (co : Fu) (ok : Bool) (f : Nat → Bool) (x6 x7 x27 x28 x29 x30 x31 x32 x33 x34 : Value) (u : World) : Prop where
  bel : Below N w0 u
  a0 : f 0 = true → x28 = tv
  a1 : f 1 = true → f 4 = false → ∃ s l g, x29 = .agg #[s, l, g] ∧ ∃ lo hi, N ≤ lo ∧ hi ≤ u.heap.size ∧ SyAt u lo hi s l g t
  a2 : f 2 = true → x30 = cv
  a3 : f 3 = true → f 4 = false → ∃ x y z z2, x31 = .agg #[x, y, z, z2] ∧ ∃ lo hi, N ≤ lo ∧ hi ≤ u.heap.size ∧ FuAt u lo hi x y z z2 co
  a4 : f 4 = true → ∃ v l g, x32 = .tuple #[.agg #[v, l, g], .bool ok] ∧ ∃ lo hi, N ≤ lo ∧ hi ≤ u.heap.size ∧ D u lo hi v l g ∧ ∀ q, x6 = .pointer (some ⟨q, 0, none⟩) → f 8 = true → q < lo ∨ hi ≤ q
  a5 : f 5 = true → x27 = x32
  a6 : f 6 = true → ∃ v l g, x33 = .agg #[v, l, g] ∧ x32 = .tuple #[.agg #[v, l, g], .bool ok]
  a7 : f 7 = true → x34 = .bool ok
  a8 : f 8 = true → f 9 = false → ∃ q, N ≤ q ∧ x6 = .pointer (some ⟨q, 0, none⟩) ∧ Row u q 36 [.slice none 0 0, .slice none 0 0, .slice none 0 0]
  a9 : f 9 = true → ∃ q v l g, N ≤ q ∧ x6 = .pointer (some ⟨q, 0, none⟩) ∧ x33 = .agg #[v, l, g] ∧ Row u q 36 [v, l, g]
  aa : f 10 = true → x7 = .bool ok

section
variable {D : World → Nat → Nat → Value → Value → Value → Prop} {N : Nat} {w0 u : World} {tv cv : Value} {t : Sy} {co : Fu} {ok : Bool} {f : Nat → Bool} {x6 x7 x27 x28 x29 x30 x31 x32 x33 x34 : Value}

theorem WFFacts.grow {u' : World} (hD : ∀ (w w' : World) (lo hi : Nat) (v l g : Value), D w lo hi v l g → (∀ k, lo ≤ k → k < hi → w'.heap[k]? = w.heap[k]?) → D w' lo hi v l g)
    (h : WFFacts D N w0 tv cv t co ok f x6 x7 x27 x28 x29 x30 x31 x32 x33 x34 u) (hN : N ≤ u.heap.size) (hb : Below u.heap.size u u') : WFFacts D N w0 tv cv t co ok f x6 x7 x27 x28 x29 x30 x31 x32 x33 x34 u' where
  bel := h.bel.trans (hb.mono hN)
  a0 := h.a0
  a1 := fun h1 h2 => by
    obtain ⟨s, l, g, e, lo, hi, h3, h4, h5⟩ := h.a1 h1 h2
    exact ⟨s, l, g, e, lo, hi, h3, Nat.le_trans h4 hb.size, h5.below hb h4⟩
  a2 := h.a2
  a3 := fun h1 h2 => by
    obtain ⟨x, y, z, z2, e, lo, hi, h3, h4, h5⟩ := h.a3 h1 h2
    exact ⟨x, y, z, z2, e, lo, hi, h3, Nat.le_trans h4 hb.size, h5.keep fun k _ hk => hb.block k (by omega)⟩
  a4 := fun h1 => by
    obtain ⟨v, l, g, e, lo, hi, h3, h4, h5, h6⟩ := h.a4 h1
    exact ⟨v, l, g, e, lo, hi, h3, Nat.le_trans h4 hb.size, hD _ _ _ _ _ _ _ h5 fun k _ hk => hb.block k (by omega), h6⟩
  a5 := h.a5
  a6 := h.a6
  a7 := h.a7
  a8 := fun h1 h2 => by
    obtain ⟨q, h3, h4, h5⟩ := h.a8 h1 h2
    exact ⟨q, h3, h4, h5.below hb h5.lt⟩
  a9 := fun h1 => by
    obtain ⟨q, v, l, g, h3, h4, h5, h6⟩ := h.a9 h1
    exact ⟨q, v, l, g, h3, h4, h5, h6.below hb h6.lt⟩
  aa := h.aa
theorem WFFacts.s0 (h : WFFacts D N w0 tv cv t co ok f x6 x7 x27 x28 x29 x30 x31 x32 x33 x34 u) : WFFacts D N w0 tv cv t co ok (fun k => decide (k = 0) || f k) x6 x7 x27 tv x29 x30 x31 x32 x33 x34 u where
  bel := h.bel
  a0 := fun _ => rfl
  a1 := fun e e2 => h.a1 (by simpa using e) (by simpa using e2)
  a2 := fun e => h.a2 (by simpa using e)
  a3 := fun e e2 => h.a3 (by simpa using e) (by simpa using e2)
  a4 := fun e => by
    obtain ⟨v, l, g, e2, lo, hi, h3, h4, h5, h6⟩ := h.a4 (by simpa using e)
    exact ⟨v, l, g, e2, lo, hi, h3, h4, h5, fun q hq h8 => h6 q hq (by simpa using h8)⟩
  a5 := fun e => h.a5 (by simpa using e)
  a6 := fun e => h.a6 (by simpa using e)
  a7 := fun e => h.a7 (by simpa using e)
  a8 := fun e e2 => h.a8 (by simpa using e) (by simpa using e2)
  a9 := fun e => h.a9 (by simpa using e)
  aa := fun e => h.aa (by simpa using e)
theorem WFFacts.s1 (h : WFFacts D N w0 tv cv t co ok f x6 x7 x27 x28 x29 x30 x31 x32 x33 x34 u) {s l g : Value} {lo hi : Nat} (h1 : N ≤ lo) (h2 : hi ≤ u.heap.size) (hr : SyAt u lo hi s l g t) : WFFacts D N w0 tv cv t co ok (fun k => decide (k = 1) || f k) x6 x7 x27 x28 (.agg #[s, l, g]) x30 x31 x32 x33 x34 u where
  bel := h.bel
  a0 := fun e => h.a0 (by simpa using e)
  a1 := fun _ _ => ⟨s, l, g, rfl, lo, hi, h1, h2, hr⟩
  a2 := fun e => h.a2 (by simpa using e)
  a3 := fun e e2 => h.a3 (by simpa using e) (by simpa using e2)
  a4 := fun e => by
    obtain ⟨v, l, g, e2, lo, hi, h3, h4, h5, h6⟩ := h.a4 (by simpa using e)
    exact ⟨v, l, g, e2, lo, hi, h3, h4, h5, fun q hq h8 => h6 q hq (by simpa using h8)⟩
  a5 := fun e => h.a5 (by simpa using e)
  a6 := fun e => h.a6 (by simpa using e)
  a7 := fun e => h.a7 (by simpa using e)
  a8 := fun e e2 => h.a8 (by simpa using e) (by simpa using e2)
  a9 := fun e => h.a9 (by simpa using e)
  aa := fun e => h.aa (by simpa using e)
theorem WFFacts.s2 (h : WFFacts D N w0 tv cv t co ok f x6 x7 x27 x28 x29 x30 x31 x32 x33 x34 u) : WFFacts D N w0 tv cv t co ok (fun k => decide (k = 2) || f k) x6 x7 x27 x28 x29 cv x31 x32 x33 x34 u where
  bel := h.bel
  a0 := fun e => h.a0 (by simpa using e)
  a1 := fun e e2 => h.a1 (by simpa using e) (by simpa using e2)
  a2 := fun _ => rfl
  a3 := fun e e2 => h.a3 (by simpa using e) (by simpa using e2)
  a4 := fun e => by
    obtain ⟨v, l, g, e2, lo, hi, h3, h4, h5, h6⟩ := h.a4 (by simpa using e)
    exact ⟨v, l, g, e2, lo, hi, h3, h4, h5, fun q hq h8 => h6 q hq (by simpa using h8)⟩
  a5 := fun e => h.a5 (by simpa using e)
  a6 := fun e => h.a6 (by simpa using e)
  a7 := fun e => h.a7 (by simpa using e)
  a8 := fun e e2 => h.a8 (by simpa using e) (by simpa using e2)
  a9 := fun e => h.a9 (by simpa using e)
  aa := fun e => h.aa (by simpa using e)
theorem WFFacts.s3 (h : WFFacts D N w0 tv cv t co ok f x6 x7 x27 x28 x29 x30 x31 x32 x33 x34 u) {x y z z2 : Value} {lo hi : Nat} (h1 : N ≤ lo) (h2 : hi ≤ u.heap.size) (hr : FuAt u lo hi x y z z2 co) : WFFacts D N w0 tv cv t co ok (fun k => decide (k = 3) || f k) x6 x7 x27 x28 x29 x30 (.agg #[x, y, z, z2]) x32 x33 x34 u where
  bel := h.bel
  a0 := fun e => h.a0 (by simpa using e)
  a1 := fun e e2 => h.a1 (by simpa using e) (by simpa using e2)
  a2 := fun e => h.a2 (by simpa using e)
  a3 := fun _ _ => ⟨x, y, z, z2, rfl, lo, hi, h1, h2, hr⟩
  a4 := fun e => by
    obtain ⟨v, l, g, e2, lo, hi, h3, h4, h5, h6⟩ := h.a4 (by simpa using e)
    exact ⟨v, l, g, e2, lo, hi, h3, h4, h5, fun q hq h8 => h6 q hq (by simpa using h8)⟩
  a5 := fun e => h.a5 (by simpa using e)
  a6 := fun e => h.a6 (by simpa using e)
  a7 := fun e => h.a7 (by simpa using e)
  a8 := fun e e2 => h.a8 (by simpa using e) (by simpa using e2)
  a9 := fun e => h.a9 (by simpa using e)
  aa := fun e => h.aa (by simpa using e)
theorem WFFacts.s4 (h : WFFacts D N w0 tv cv t co ok f x6 x7 x27 x28 x29 x30 x31 x32 x33 x34 u) {v l g : Value} {lo hi : Nat} (h1 : N ≤ lo) (h2 : hi ≤ u.heap.size) (hr : D u lo hi v l g) (hq : ∀ q, x6 = .pointer (some ⟨q, 0, none⟩) → f 8 = true → q < lo ∨ hi ≤ q) (hf5 : f 5 = false) (hf6 : f 6 = false) : WFFacts D N w0 tv cv t co ok (fun k => decide (k = 4) || f k) x6 x7 x27 x28 x29 x30 x31 (.tuple #[.agg #[v, l, g], .bool ok]) x33 x34 u where
  bel := h.bel
  a0 := fun e => h.a0 (by simpa using e)
  a1 := fun _ e2 => by simp at e2
  a2 := fun e => h.a2 (by simpa using e)
  a3 := fun _ e2 => by simp at e2
  a4 := fun _ => ⟨v, l, g, rfl, lo, hi, h1, h2, hr, fun q e e8 => hq q e (by simpa using e8)⟩
  a5 := fun e => by simp [hf5] at e
  a6 := fun e => by simp [hf6] at e
  a7 := fun e => h.a7 (by simpa using e)
  a8 := fun e e2 => h.a8 (by simpa using e) (by simpa using e2)
  a9 := fun e => h.a9 (by simpa using e)
  aa := fun e => h.aa (by simpa using e)
theorem WFFacts.s5 (h : WFFacts D N w0 tv cv t co ok f x6 x7 x27 x28 x29 x30 x31 x32 x33 x34 u) : WFFacts D N w0 tv cv t co ok (fun k => decide (k = 5) || f k) x6 x7 x32 x28 x29 x30 x31 x32 x33 x34 u where
  bel := h.bel
  a0 := fun e => h.a0 (by simpa using e)
  a1 := fun e e2 => h.a1 (by simpa using e) (by simpa using e2)
  a2 := fun e => h.a2 (by simpa using e)
  a3 := fun e e2 => h.a3 (by simpa using e) (by simpa using e2)
  a4 := fun e => by
    obtain ⟨v, l, g, e2, lo, hi, h3, h4, h5, h6⟩ := h.a4 (by simpa using e)
    exact ⟨v, l, g, e2, lo, hi, h3, h4, h5, fun q hq h8 => h6 q hq (by simpa using h8)⟩
  a5 := fun _ => rfl
  a6 := fun e => h.a6 (by simpa using e)
  a7 := fun e => h.a7 (by simpa using e)
  a8 := fun e e2 => h.a8 (by simpa using e) (by simpa using e2)
  a9 := fun e => h.a9 (by simpa using e)
  aa := fun e => h.aa (by simpa using e)
theorem WFFacts.s6 (h : WFFacts D N w0 tv cv t co ok f x6 x7 x27 x28 x29 x30 x31 x32 x33 x34 u) {v l g : Value} (hx : x32 = .tuple #[.agg #[v, l, g], .bool ok]) (hf9 : f 9 = false) : WFFacts D N w0 tv cv t co ok (fun k => decide (k = 6) || f k) x6 x7 x27 x28 x29 x30 x31 x32 (.agg #[v, l, g]) x34 u where
  bel := h.bel
  a0 := fun e => h.a0 (by simpa using e)
  a1 := fun e e2 => h.a1 (by simpa using e) (by simpa using e2)
  a2 := fun e => h.a2 (by simpa using e)
  a3 := fun e e2 => h.a3 (by simpa using e) (by simpa using e2)
  a4 := fun e => by
    obtain ⟨v, l, g, e2, lo, hi, h3, h4, h5, h6⟩ := h.a4 (by simpa using e)
    exact ⟨v, l, g, e2, lo, hi, h3, h4, h5, fun q hq h8 => h6 q hq (by simpa using h8)⟩
  a5 := fun e => h.a5 (by simpa using e)
  a6 := fun _ => ⟨v, l, g, rfl, hx⟩
  a7 := fun e => h.a7 (by simpa using e)
  a8 := fun e e2 => h.a8 (by simpa using e) (by simpa using e2)
  a9 := fun e => by simp [hf9] at e
  aa := fun e => h.aa (by simpa using e)
theorem WFFacts.s7 (h : WFFacts D N w0 tv cv t co ok f x6 x7 x27 x28 x29 x30 x31 x32 x33 x34 u) : WFFacts D N w0 tv cv t co ok (fun k => decide (k = 7) || f k) x6 x7 x27 x28 x29 x30 x31 x32 x33 (.bool ok) u where
  bel := h.bel
  a0 := fun e => h.a0 (by simpa using e)
  a1 := fun e e2 => h.a1 (by simpa using e) (by simpa using e2)
  a2 := fun e => h.a2 (by simpa using e)
  a3 := fun e e2 => h.a3 (by simpa using e) (by simpa using e2)
  a4 := fun e => by
    obtain ⟨v, l, g, e2, lo, hi, h3, h4, h5, h6⟩ := h.a4 (by simpa using e)
    exact ⟨v, l, g, e2, lo, hi, h3, h4, h5, fun q hq h8 => h6 q hq (by simpa using h8)⟩
  a5 := fun e => h.a5 (by simpa using e)
  a6 := fun e => h.a6 (by simpa using e)
  a7 := fun _ => rfl
  a8 := fun e e2 => h.a8 (by simpa using e) (by simpa using e2)
  a9 := fun e => h.a9 (by simpa using e)
  aa := fun e => h.aa (by simpa using e)
theorem WFFacts.s8 (h : WFFacts D N w0 tv cv t co ok f x6 x7 x27 x28 x29 x30 x31 x32 x33 x34 u) {b : Nat} (hb : N ≤ b) (hr : Row u b 36 [.slice none 0 0, .slice none 0 0, .slice none 0 0]) (hf9 : f 9 = false) (hh : f 4 = true → ∃ v l g, x32 = .tuple #[.agg #[v, l, g], .bool ok] ∧ ∃ lo hi, N ≤ lo ∧ hi ≤ b ∧ D u lo hi v l g) : WFFacts D N w0 tv cv t co ok (fun k => decide (k = 8) || f k) (.pointer (some ⟨b, 0, none⟩)) x7 x27 x28 x29 x30 x31 x32 x33 x34 u where
  bel := h.bel
  a0 := fun e => h.a0 (by simpa using e)
  a1 := fun e e2 => h.a1 (by simpa using e) (by simpa using e2)
  a2 := fun e => h.a2 (by simpa using e)
  a3 := fun e e2 => h.a3 (by simpa using e) (by simpa using e2)
  a4 := fun e => by
    obtain ⟨v, l, g, e2, lo, hi, h3, h4, h5⟩ := hh (by simpa using e)
    refine ⟨v, l, g, e2, lo, hi, h3, by have := hr.lt; omega, h5, fun q hq _ => ?_⟩
    simp only [Value.pointer.injEq, Option.some.injEq, Addr.mk.injEq] at hq
    omega
  a5 := fun e => h.a5 (by simpa using e)
  a6 := fun e => h.a6 (by simpa using e)
  a7 := fun e => h.a7 (by simpa using e)
  a8 := fun _ _ => ⟨b, hb, rfl, hr⟩
  a9 := fun e => by simp [hf9] at e
  aa := fun e => h.aa (by simpa using e)
theorem WFFacts.s10 (h : WFFacts D N w0 tv cv t co ok f x6 x7 x27 x28 x29 x30 x31 x32 x33 x34 u) : WFFacts D N w0 tv cv t co ok (fun k => decide (k = 10) || f k) x6 (.bool ok) x27 x28 x29 x30 x31 x32 x33 x34 u where
  bel := h.bel
  a0 := fun e => h.a0 (by simpa using e)
  a1 := fun e e2 => h.a1 (by simpa using e) (by simpa using e2)
  a2 := fun e => h.a2 (by simpa using e)
  a3 := fun e e2 => h.a3 (by simpa using e) (by simpa using e2)
  a4 := fun e => by
    obtain ⟨v, l, g, e2, lo, hi, h3, h4, h5, h6⟩ := h.a4 (by simpa using e)
    exact ⟨v, l, g, e2, lo, hi, h3, h4, h5, fun q hq h8 => h6 q hq (by simpa using h8)⟩
  a5 := fun e => h.a5 (by simpa using e)
  a6 := fun e => h.a6 (by simpa using e)
  a7 := fun e => h.a7 (by simpa using e)
  a8 := fun e e2 => h.a8 (by simpa using e) (by simpa using e2)
  a9 := fun e => h.a9 (by simpa using e)
  aa := fun _ => rfl
theorem WFFacts.s9 {q : Nat} {v l g : Value} (hD : ∀ (w w' : World) (lo hi : Nat) (v l g : Value), D w lo hi v l g → (∀ k, lo ≤ k → k < hi → w'.heap[k]? = w.heap[k]?) → D w' lo hi v l g)
    (h : WFFacts D N w0 tv cv t co ok f (.pointer (some ⟨q, 0, none⟩)) x7 x27 x28 x29 x30 x31 x32 (.agg #[v, l, g]) x34 u) (hf4 : f 4 = true) (hf8 : f 8 = true) (hN : N ≤ q) (hr : Row u q 36 [.slice none 0 0, .slice none 0 0, .slice none 0 0]) :
    WFFacts D N w0 tv cv t co ok (fun k => decide (k = 9) || f k) (.pointer (some ⟨q, 0, none⟩)) x7 x27 x28 x29 x30 x31 x32 (.agg #[v, l, g]) x34 (((u.setCell ⟨q, 0, none⟩ v).setCell ⟨q, 1, none⟩ l).setCell ⟨q, 2, none⟩ g) where
  bel := ((h.bel.setCell (by dsimp only; omega) _).setCell (by dsimp only; omega) _).setCell (by dsimp only; omega) _
  a0 := fun e => h.a0 (by simpa using e)
  a1 := fun _ e2 => by simp [hf4] at e2
  a2 := fun e => h.a2 (by simpa using e)
  a3 := fun _ e2 => by simp [hf4] at e2
  a4 := fun e => by
    obtain ⟨v1, l1, g1, e2, lo, hi, h3, h4, h5, h6⟩ := h.a4 (by simpa using e)
    have hq := h6 q rfl hf8
    exact ⟨v1, l1, g1, e2, lo, hi, h3, by simpa [World.setCell] using h4, hD _ _ _ _ _ _ _ h5 fun k hk1 hk2 => (Below.heap_setCell _ _ _ _ (by dsimp only; omega)).trans ((Below.heap_setCell _ _ _ _ (by dsimp only; omega)).trans (Below.heap_setCell _ _ _ _ (by dsimp only; omega))), fun q' e8 _ => h6 q' e8 hf8⟩
  a5 := fun e => h.a5 (by simpa using e)
  a6 := fun e => h.a6 (by simpa using e)
  a7 := fun e => h.a7 (by simpa using e)
  a8 := fun _ e2 => by simp at e2
  a9 := fun _ => ⟨q, v, l, g, hN, rfl, rfl, ((hr.set_ 0 v).set_ 1 l).set_ 2 g⟩
  aa := fun e => h.aa (by simpa using e)
end
end Go.Proofs.Ytilcahidmoaakaa

