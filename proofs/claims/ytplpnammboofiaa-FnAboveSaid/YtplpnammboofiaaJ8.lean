/-
  The contract of the model's finder: all ways from a type, found behind what was found.
  The contracts of the program's finder: finderOf, isWay, along.
  The contracts of GoWay, the program's and the model's.
  The contract of the program's GoWay.
-/
import Derived.Test.YtplpnammboofiaaJ7
import Derived.Deep.RegionLaw
namespace Go.Proofs.Ytplpnammboofiaa
open Go.RowKit

theorem Try.infoIntS : (Try.prog.info? 23).map (fun i => (i.zero, i.size, i.bytes)) = some (some (.slice none 0 0), 1, 24) := by kernel_rfl

set_option maxRecDepth 100000 in
set_option maxHeartbeats 4000000 in
theorem from_any (lo hi : Nat) (sv cv : Value) (t : Ty) (goal : Int) (base g : Nat) (hok : tyOk t = true) (hB : hi ≤ base) : ∀ (n : Nat) (k : Int) (way : List Int) (outs : List (List Int)) (w : World), TyAt w lo hi sv cv t → base ≤ w.heap.size →
    0 ≤ k → k < t.sizes.length → t.sizes.length ≤ k.toNat + n → way.length + n ≤ 20 → (∀ z ∈ way, I64 z) → outs.length + (waysF t.cos n k goal).length ≤ 1000000 → FS sv cv goal base g way outs w →
    Calls Try.prog 88 #[.pointer (some ⟨g, 0, none⟩), .int .i64 k] w fun e w' => e = .returned (.tuple #[]) ∧ Below base w w' ∧ FS sv cv goal base g way (outs ++ (waysF t.cos n k goal).map (way ++ ·)) w' := by
  intro n
  induction n with
  | zero => intro k way outs w _ _ h1 h2 h3; omega
  | succ n ih =>
    intro k way outs w hv hbs hk0 hk1 hkn hwn hwf hon hfs
    obtain ⟨A, cap, rfl, hl1, hm1, _⟩ := hv.1.form
    obtain ⟨B, bap, rfl, hl2, hm2, hc1⟩ := hv.2.form
    obtain ⟨wv, ov, xs, S, hfp⟩ := hfs
    have hfew := tyOk_few hok
    have c0 := hfp.row.cell 0
    have c1 := hfp.row.cell 1
    have c2 := hfp.row.cell 2
    have c3 := hfp.row.cell 3
    have c4 := hfp.row.cell 4
    have f3 := hfp.row.frozen 3
    have f4 := hfp.row.frozen 4
    simp only [List.getElem?_cons_zero, List.getElem?_cons_succ] at c0 c1 c2 c3 c4
    obtain ⟨i0, hi0, hz0, hz1, hz2⟩ := info_parts Try.infoInt
    obtain ⟨i1, hi1, hy0, hy1, hy2⟩ := info_parts Try.infoIntS
    have Hfp := Lib.hid hfp
    have Hv := Lib.hid hv
    have Hc1 := Lib.hid hc1
    have Ih := Lib.hid ih
    have Hwf := Lib.hid hwf
    have hgw := hfp.row.lt
    have hgb := hfp.le
    by_cases hkg : k = goal
    · have Hways := Lib.hid (show waysF t.cos (n + 1) k goal = [[]] by rw [hkg]; exact waysF_eq _ _ _)
      have htest : (k == goal) = true := by simpa using hkg
      have hlo : outs.length ≤ 1000000 := by omega
      have Hz0 := Lib.hid (ownsRow.intsAt (lo := base) (hi := w.heap.size) hfp.fway hwf (Nat.le_refl _) (Nat.le_refl _))
      obtain ⟨WA, WC, hwv⟩ := owns_form hfp.fway
      rw [hwv] at c3 Hz0 Hfp
      obtain ⟨OA, OC, hov⟩ := owns_form hfp.fouts
      rw [hov] at c4 Hfp
      clear hv hc1 hfp ih hwf hkg hwv hov
      go_enter Try.func88, Try.ntmps88
      go_upto_region 1 with fail
      clear Ih Hc1 c0 c1 c2 Hv
      have K0 : Hid (w.drew.cell? ⟨g, 3, none⟩ = some (.slice WA way.length WC) ∧ w.drew.cell? ⟨g, 4, none⟩ = some (.slice OA outs.length OC)) := ⟨c3, c4⟩
      have hk1 : ∀ k, k < w.heap.size → (w.drew.alloc (.cells #[] 3)).heap[k]? = w.heap[k]? := fun k hk => Below.heap_alloc w.drew _ k hk
      have Hk1 := Lib.hid hk1
      have K1 : Hid ((w.drew.alloc (.cells #[] 3)).cell? ⟨g, 3, none⟩ = some (.slice WA way.length WC) ∧ (w.drew.alloc (.cells #[] 3)).cell? ⟨g, 4, none⟩ = some (.slice OA outs.length OC)) := ⟨(World.cell?_of_block (w := w) (hk1 g hgw)).trans c3, (World.cell?_of_block (w := w) (hk1 g hgw)).trans c4⟩
      have hlit := World.ownsRow_lit (base := w.heap.size) (e := 3) (size := 1) w.drew #[] 0 (Nat.le_refl _) (by unfold maxLen; omega) rfl
      have Hlit := Lib.hid hlit
      clear hk1 hlit
      have k14 := K1.out.2
      have k04 := K0.out.2
      have k13 := K1.out.1
      have k03 := K0.out.1
      go_region_law
        (first
          | (refine step_append_ints rfl (.tmp 17) (.tmp 21) rfl w.heap.size _ 0 _ rfl Hlit.out base w.heap.size WA way.length WC way rfl (Hz0.out.keep fun k _ hk => Hk1.out k hk) rfl (by omega) (by simp) ?_
             intro VA VC w5 hown5 hgrow5
             simp only [Nat.zero_add, List.nil_append] at hown5
             have hg5 : (w.drew.alloc (.cells #[] 3)).grownBy w5 (some w.heap.size) := hgrow5
             have hs5 : w.heap.size + 1 ≤ w5.heap.size := by have := hg5.size; rw [World.size_alloc] at this; exact this
             have hk5 : ∀ k, k < w.heap.size → w5.heap[k]? = w.heap[k]? := fun k hk => (hg5.block k (by rw [World.size_alloc]; exact Nat.lt_succ_of_lt hk) (by intro e; simp only [Option.some.injEq] at e; omega)).trans (Hk1.out k hk)
             have hos5 : w5.os = w.os ∧ w5.tape = w.tape ∧ w5.output = w.output := ⟨hg5.os, hg5.tape, hg5.output⟩
             have hk6 : ∀ k, k < w.heap.size → (w5.alloc (.cells #[.slice VA way.length VC] 23)).heap[k]? = w.heap[k]? := fun k hk => (Below.heap_alloc w5 _ k (by omega)).trans (hk5 k hk)
             have K5 : Hid (w5.cell? ⟨g, 3, none⟩ = some (.slice WA way.length WC) ∧ w5.cell? ⟨g, 4, none⟩ = some (.slice OA outs.length OC)) := ⟨(World.cell?_of_block (w := w) (hk5 g hgw)).trans c3, (World.cell?_of_block (w := w) (hk5 g hgw)).trans c4⟩
             have K6 : Hid ((w5.alloc (.cells #[.slice VA way.length VC] 23)).cell? ⟨g, 3, none⟩ = some (.slice WA way.length WC) ∧ (w5.alloc (.cells #[.slice VA way.length VC] 23)).cell? ⟨g, 4, none⟩ = some (.slice OA outs.length OC)) := ⟨(World.cell?_of_block (w := w) (hk6 g hgw)).trans c3, (World.cell?_of_block (w := w) (hk6 g hgw)).trans c4⟩
             have k54 := K5.out.2
             have k64 := K6.out.2
             have Hk6 := Lib.hid hk6
             have Hos5 := Lib.hid hos5
             have Hown5 := Lib.hid hown5
             clear hk5 hk6 hgrow5 hg5 hown5 hos5)
          | (refine step_push (by simp [Region.wanted]) (.tmp 16) (.tmp 23) 41 rfl i1 (.slice none 0 0) 24 Try.underlying41 hi1 hy0 hy1 hy2 rfl rfl (ownsRow_keep Hfp.out.fouts fun k _ hk => Hk6.out k hk) ⟨w5.heap.size, 0, none⟩ 1 (.slice VA way.length VC) rfl (by simp [go_sem]) rfl (by unfold maxLen; omega) (by omega) (by simp; omega) ?_
             intro v7 w7 hp7
             obtain ⟨g7, cap7, rfl⟩ := hp7.form
             have r7 := (Hfp.out.row.keep (Hk6.out g hgw)).keep (hp7.grown.block g (by simp; omega) (fun e => Hfp.out.ne2 e.symm))
             have p3 : w7.cell? ⟨g, 3, none⟩ = some (.slice WA way.length WC) := r7.cell 3
             have p4 : w7.cell? ⟨g, 4, none⟩ = some (.slice OA outs.length OC) := r7.cell 4
             have pf4 : w7.frozen? ⟨g, 4, none⟩ = false := r7.frozen 4
             have K7 := Lib.hid (show w7.cell? ⟨g, 3, none⟩ = some (.slice WA way.length WC) ∧ w7.cell? ⟨g, 4, none⟩ = some (.slice OA outs.length OC) from ⟨p3, p4⟩)
             have Hp7 := Lib.hid hp7
             clear hp7 r7))
      all_goals
        have hx6 : IntsIn (w5.alloc (.cells #[.slice VA way.length VC] 23)) (fun b => w.heap.size ≤ b ∧ b < (w5.alloc (.cells #[.slice VA way.length VC] 23)).heap.size) (.slice VA way.length VC) way :=
          ((ownsRow.intsAt (lo := w.heap.size) (hi := w5.heap.size) Hown5.out Hwf.out (Nat.le_refl _) (Nat.le_refl _)).keep fun k _ hk => Below.heap_alloc w5 _ k hk).in_.more fun b hb => ⟨hb.1, by simp; omega⟩
        have hend := Lib.hid (Hfp.out.pushOut (by simp; omega) Hk6.out hx6 Hp7.out)
        have hbel := Lib.hid (Hfp.out.belowOut (w6 := w5.alloc (.cells #[.slice VA way.length VC] 23)) (j := 4) (u := .slice (some ⟨g7, 0, none⟩) (outs.length + 1) cap7) Hos5.out hbs (by simp; omega) Hk6.out Hp7.out)
        clear hx6 k04 k14 k03 k13 k54 k64
        go_wp2
        refine bodyPost_ret (results_none rfl _ _ _) rfl ?_
        exact ⟨rfl, hbel.out, by rw [Hways.out]; simpa using hend.out⟩
    · have hwj := Lib.hid (waysF_ne (cs := t.cos) (n := n) hkg)
      have htest : (k == goal) = false := by simpa using hkg
      have hon2 : outs.length + (waysJ t.cos n k goal t.cos.length).length ≤ 1000000 := by rw [← hwj.out]; exact hon
      have hfs0 := Lib.hid (show FS (.slice A t.sizes.length cap) (.slice B t.cos.length bap) goal base g way outs w from ⟨wv, ov, xs, S, hfp⟩)
      clear hv hc1 hfp ih hwf hkg hon Hfp c0 c3 c4 f3 f4
      go_enter Try.func88, Try.ntmps88
      go_wp2
      go_loopw [33] (fun i wr => ∃ j : Nat, j ≤ t.cos.length ∧ i = .int .i64 j ∧ Hid (Below base w wr) ∧ Hid (FS (.slice A t.sizes.length cap) (.slice B t.cos.length bap) goal base g way (outs ++ (waysJ t.cos n k goal j).map (way ++ ·)) wr)) (fun i _ => t.cos.length - (intOf i).toNat)
      case atStart => exact ⟨0, Nat.zero_le _, rfl, Below.refl _ _, by show FS _ _ _ _ _ _ _ _; rw [waysJ_zero]; simpa using hfs0.out⟩
      case round =>
        obtain ⟨j, hj, rfl, hb, hfs⟩ := hrel
        have hbsz := hb.out.size
        by_cases hlt : j < t.cos.length
        · obtain ⟨b, off, A2, cap2, rfl, hlo, hhi, d0, d1, d2, h5, h6, hsI, hdI, hz2'⟩ := (Hc1.out.below hb.out hB).at_ hlt
          clear hz2' hsI hdI
          by_cases hq : t.cos[j].src = k
          · have hh := Lib.hid (waysJ_hit (n := n) (goal := goal) hlt hq)
            have hco := coOk_of (tyOk_co hok hlt)
            have hdst : 0 ≤ t.cos[j].dst ∧ t.cos[j].dst < t.sizes.length ∧ t.sizes.length ≤ t.cos[j].dst.toNat + n := by omega
            have hmono := waysJ_mono t.cos n k goal (show j + 1 ≤ t.cos.length from hlt)
            have hlen3 : (outs ++ (waysJ t.cos n k goal j).map (way ++ ·)).length + (waysF t.cos n t.cos[j].dst goal).length ≤ 1000000 := by
              have e := congrArg List.length hh.out
              rw [List.length_append, List.length_map] at e
              rw [List.length_append, List.length_map]
              omega
            have htq : (t.cos[j].src != k) = false := by simpa using hq
            obtain ⟨wv2, ov2, xs2, S2, hfp2⟩ := hfs.out
            have p3 := hfp2.row.cell 3
            have pf3 := hfp2.row.frozen 3
            simp only [List.getElem?_cons_zero, List.getElem?_cons_succ] at p3
            have hgr := hfp2.row.lt
            have hfp3 := hfp2.keep (w' := (wr.alloc (.cells #[.int .i64 t.cos[j].src, .int .i64 t.cos[j].dst, .slice A2 t.cos[j].map.length cap2] 28)).alloc (.cells #[.int .i64 j] 3)) (by simp; omega) (fun k _ hk => (Below.heap_alloc _ _ k (by simp; omega)).trans (Below.heap_alloc _ _ k hk))
            have Hfp3 := Lib.hid hfp3
            have Hco := Lib.hid hco
            have Hlen3 := Lib.hid hlen3
            have Hwl := Lib.hid (owns_lt hfp2.fway)
            have Hdst := Lib.hid hdst
            clear hfp2 hfp3 hco hq hlen3 hmono hdst
            go_wp2_with (at_builtin; refine wpList_push rfl (.tmp 46) (.tmp 48) 23 rfl i0 (.int .i64 0) 8 Try.underlying23 hi0 hz0 hz1 hz2 rfl rfl Hfp3.out.fway ⟨wr.heap.size + 1, 0, none⟩ 1 (.int .i64 j) rfl (by simp [go_sem]) rfl (by unfold maxLen; omega) (by omega) (by simp; omega) ?_)
            intro v5 w5 hp5
            obtain ⟨g5, cap5, rfl⟩ := hp5.form
            have r5 := Hfp3.out.row.keep (hp5.grown.block g (by simp; omega) (fun e => Hfp3.out.ne1 e.symm))
            have e3 : w5.cell? ⟨g, 3, none⟩ = some wv2 := r5.cell 3
            have ef3 : w5.frozen? ⟨g, 3, none⟩ = false := r5.frozen 3
            have hs5 : wr.heap.size + 2 ≤ w5.heap.size := by have := hp5.grown.size; simpa using this
            have hf5 := Hfp3.out.pushWay hp5
            have e1 : w5.cell? ⟨wr.heap.size, 1, none⟩ = some (.int .i64 t.cos[j].dst) := (hp5.grown.cell_far ⟨wr.heap.size, 1, none⟩ (by simp; omega) (fun e => by have := (Hwl.out _ e.symm).2; dsimp only at this; omega)).trans (by simp [go_sem])
            have hb6 := (((hb.out.alloc (by omega) (.cells #[.int .i64 t.cos[j].src, .int .i64 t.cos[j].dst, .slice A2 t.cos[j].map.length cap2] 28)).alloc (by simp; omega) (.cells #[.int .i64 j] 3)).grown hp5.grown (by simp; omega) (fun k hk => (owns_lt Hfp3.out.fway k hk).1)).setCell (p := ⟨g, 3, none⟩) hgb (.slice (some ⟨g5, 0, none⟩) (way.length + 1) cap5)
            have e1' : (w5.setCell ⟨g, 3, none⟩ (.slice (some ⟨g5, 0, none⟩) (way.length + 1) cap5)).cell? ⟨wr.heap.size, 1, none⟩ = some (.int .i64 t.cos[j].dst) := (World.cell?_of_block (w := w5) (heap_set_ne _ _ _ _ _ (by dsimp only; omega))).trans e1
            have hs6 : (w5.setCell ⟨g, 3, none⟩ (.slice (some ⟨g5, 0, none⟩) (way.length + 1) cap5)).heap.size = w5.heap.size := by simp [World.setCell]
            have Hb6 := Lib.hid hb6
            have Hf5 := Lib.hid hf5
            clear hp5 r5 hf5 hb6
            go_wp2_with fail
            refine (Ih.out t.cos[j].dst (way ++ [(j : Int)]) _ _ (Hv.out.below Hb6.out hB) (by rw [hs6]; omega) Hdst.out.1 Hdst.out.2.1 Hdst.out.2.2 (by rw [List.length_append, List.length_singleton]; omega) (fun z hz => by
              rcases List.mem_append.1 hz with h | h
              · exact Hwf.out z h
              · simp at h; subst h; unfold I64; omega) Hlen3.out ⟨_, _, _, _, Hf5.out⟩).mono ?_
            rintro e w7 ⟨rfl, hb7, hfs7⟩
            have Hb7 := Lib.hid (Hb6.out.trans hb7)
            obtain ⟨wv7, ov7, xs7, S7, hfp7⟩ := hfs7
            obtain ⟨g7, cap7, rfl⟩ : ∃ g7 cap7, wv7 = .slice (some ⟨g7, 0, none⟩) (way.length + 1) cap7 := by
              obtain ⟨_, ⟨_, h0⟩ | ⟨g7, cap7, _, e, _⟩⟩ := hfp7.fway
              · rw [List.length_append, List.length_singleton] at h0; omega
              · rw [List.length_append, List.length_singleton] at e; exact ⟨g7, cap7, e⟩
            have hc7 : way.length + 1 ≤ cap7 := by
              obtain ⟨_, ⟨h0, _⟩ | ⟨g8, cap8, _, e, _, _, h1, _⟩⟩ := hfp7.fway
              · cases h0
              · rw [List.length_append, List.length_singleton] at e h1
                simp only [Value.slice.injEq] at e
                omega
            have z3 : w7.cell? ⟨g, 3, none⟩ = some (.slice (some ⟨g7, 0, none⟩) (way.length + 1) cap7) := hfp7.row.cell 3
            have zf3 : w7.frozen? ⟨g, 3, none⟩ = false := hfp7.row.frozen 3
            have hpop := Lib.hid (FP.pop hfp7)
            clear hb7 hfp7 e1 e1' e3 ef3 p3 pf3 d0 d1 d2
            go_upto_region 8 with fail
            go_region
            have hlist : (outs ++ (waysJ t.cos n k goal j).map (way ++ ·)) ++ (waysF t.cos n t.cos[j].dst goal).map ((way ++ [(j : Int)]) ++ ·) = outs ++ (waysJ t.cos n k goal (j + 1)).map (way ++ ·) := by
              rw [hh.out]
              simp [List.map_append, List.append_assoc, Function.comp_def]
            have hfin := hpop.out
            rw [hlist] at hfin
            have Hfin := Lib.hid hfin
            clear hfin hlist
            go_wp2
            go_roundw
            case rel => exact ⟨j + 1, by omega, by go_num, (Hb7.out.setCell hgb _).drew, Hfin.out.keep (Nat.le_refl _) (fun _ _ _ => rfl)⟩
            case measure => simp [intOf]; omega
          · have hh := Lib.hid (waysJ_miss (n := n) (goal := goal) hlt hq)
            have htq : (t.cos[j].src != k) = true := by simpa using hq
            clear hq
            go_wp2
            go_roundw
            case rel => exact ⟨j + 1, by omega, by go_num, hb.out.alloc (by omega) _, by
              show FS _ _ _ _ _ _ _ _
              rw [hh.out]
              exact hfs.out.keep (by simp) (fun k _ hk => Below.heap_alloc _ _ k hk)⟩
            case measure => simp [intOf]; omega
        · obtain rfl : j = t.cos.length := by omega
          go_wp2
          go_end0
          exact ⟨rfl, hb.out, by rw [hwj.out]; exact hfs.out⟩
end Go.Proofs.Ytplpnammboofiaa

namespace Go.Proofs.Ytplpnammboofiaa
open Go.RowKit

/-- Are the types valid, and are these all types of theirs? -/
def findOk (t : Ty) (ks : List Int) : Bool := tyOk t && ks.all fun k => ixB k t.sizes.length

set_option maxRecDepth 100000 in
set_option maxHeartbeats 1000000 in
theorem finderOf_any (lo hi lo2 hi2 : Nat) (sv cv kv : Value) (t : Ty) (ks : List Int) (w : World) (hv : TyAt w lo hi sv cv t) (hB : hi ≤ w.heap.size) (hk : IntsAt w lo2 hi2 kv ks) (hB2 : hi2 ≤ w.heap.size) :
    Calls Try.prog 50 #[.agg #[sv, cv], kv] w fun e w' => ∃ p, e = .returned (.tuple #[.pointer p, .bool (findOk t ks)]) ∧ Below w.heap.size w w' ∧
      (findOk t ks = true → ∃ g, p = some ⟨g, 0, none⟩ ∧ w.heap.size ≤ g ∧ Row w' g 81 [sv, cv]) := by
  obtain ⟨A, cap, rfl, hl1, hm1, _⟩ := hv.1.form
  obtain ⟨B, bap, rfl, hl2, hm2, _⟩ := hv.2.form
  obtain ⟨K, kap, rfl, hl3, hm3, hk1⟩ := hk.form
  unfold maxLen at hm1 hm3
  have h3 : Below w.heap.size w (w.alloc (.cells #[.slice A t.sizes.length cap, .slice B t.cos.length bap] 26)) := by go_grown
  have hv3 := Lib.hid (hv.below h3 hB)
  have Hk1 := Lib.hid hk1
  clear hv hk hk1
  go_enter Try.func50, Try.ntmps50
  go_wp2_with fail
  refine (implValid_any lo hi _ _ t _ hv3.out (by simp; omega)).mono ?_
  rintro e w1 ⟨rfl, hb1⟩
  have H1 := Lib.hid (box2 (hb1.mono (by simp)))
  obtain ⟨q0, q1, hl, _⟩ := box2 (hb1.mono (by simp))
  clear hb1
  by_cases hok : tyOk t = true
  · have hfin : Hid (findOk t ks = ks.all fun k => ixB k t.sizes.length) := by show _ = _; unfold findOk; rw [hok, Bool.true_and]
    rw [hok]
    clear hok
    go_wp2
    go_loopw [13] (fun i wr => ∃ j : Nat, j ≤ ks.length ∧ i = .int .i64 j ∧ w1 = wr ∧ Hid (∀ m, ∀ (hm : m < ks.length), m < j → ixB ks[m] t.sizes.length = true)) (fun i _ => ks.length - (intOf i).toNat)
    case atStart => exact ⟨0, Nat.zero_le _, rfl, rfl, fun m hm h => absurd h (by omega)⟩
    case round =>
      obtain ⟨j, hj, rfl, rfl, hall⟩ := hrel
      by_cases hlt : j < ks.length
      · obtain ⟨b, off, rfl, _, _, c0, _⟩ := (Hk1.out.below H1.out.2.2.2 hB2).at_ hlt
        by_cases hx : ixB ks[j] t.sizes.length = true
        · have hall2 : Hid (∀ m, ∀ (hm : m < ks.length), m < j + 1 → ixB ks[m] t.sizes.length = true) := fun m hm h => by
            by_cases e : m = j
            · subst e; exact hx
            · exact hall.out m hm (by omega)
          go_wp2_with (go_at_call 61; refine (isIndex_any _ _ _).mono ?_; rintro e w' ⟨rfl, rfl⟩; rw [hx])
          go_roundw
          case rel => exact ⟨j + 1, by omega, by go_num, trivial, hall2⟩
          case measure => simp [intOf]; omega
        · have hxf : ixB ks[j] t.sizes.length = false := by simpa using hx
          have hno : findOk t ks = false := by rw [hfin.out]; exact all_false_of j hlt hxf
          clear hx
          have Hno := Lib.hid hno
          clear hno
          go_wp2_with (go_at_call 61; refine (isIndex_any _ _ _).mono ?_; rintro e w' ⟨rfl, rfl⟩; rw [hxf])
          refine bodyPost_ret (v := .tuple #[.pointer none, .bool false]) (by simp [results, Try.results50, go_sem]) rfl ?_
          exact ⟨none, by rw [Hno.out], H1.out.2.2.2, fun h => by rw [Hno.out] at h; cases h⟩
      · obtain rfl : j = ks.length := by omega
        have hyes : findOk t ks = true := by rw [hfin.out]; exact all_true_of fun m hm => hall.out m hm hm
        have Hyes := Lib.hid hyes
        clear hyes
        go_wp2
        refine bodyPost_ret (v := .tuple #[.pointer (some ⟨w1.heap.size, 0, none⟩), .bool true]) (by simp [results, Try.results50, go_sem]) rfl ?_
        exact ⟨_, by rw [Hyes.out], H1.out.2.2.2.alloc (by omega) _, fun _ => ⟨_, rfl, by omega, Row.new _ _ [.slice A t.sizes.length cap, .slice B t.cos.length bap]⟩⟩
  · have hokf : tyOk t = false := by simpa using hok
    have hfin : Hid (findOk t ks = false) := by show _ = _; unfold findOk; rw [hokf, Bool.false_and]
    rw [hokf]
    clear hok
    go_wp2
    refine bodyPost_ret (v := .tuple #[.pointer none, .bool false]) (by simp [results, Try.results50, go_sem]) rfl ?_
    exact ⟨none, by rw [hfin.out], H1.out.2.2.2, fun h => by rw [hfin.out] at h; cases h⟩

set_option maxRecDepth 100000 in
set_option maxHeartbeats 1000000 in
theorem isWay_any (lo hi lo2 hi2 g : Nat) (sv cv rv : Value) (t : Ty) (k : Int) (zs : List Int) (w : World) (hv : TyAt w lo hi sv cv t) (hr : IntsAt w lo2 hi2 rv zs) (hg : Row w g 81 [sv, cv]) (hok : tyOk t = true) :
    Calls Try.prog 60 #[.pointer (some ⟨g, 0, none⟩), .int .i64 k, rv] w fun e w' => e = .returned (.bool (wayEnd t.cos k zs).isSome) ∧ w = w' := by
  obtain ⟨A, cap, rfl, hl1, hm1, _⟩ := hv.1.form
  obtain ⟨B, bap, rfl, hl2, hm2, hc1⟩ := hv.2.form
  obtain ⟨K, kap, rfl, hl3, hm3, hk1⟩ := hr.form
  have hfew := tyOk_few hok
  unfold maxLen at hm3
  have g0 : w.cell? ⟨g, 0, none⟩ = some (.slice A t.sizes.length cap) := hg.cell 0
  have g1 : w.cell? ⟨g, 1, none⟩ = some (.slice B t.cos.length bap) := hg.cell 1
  have Hk1 := Lib.hid hk1
  have Hc1 := Lib.hid hc1
  clear hv hr hk1 hc1 hg hok
  go_enter Try.func60, Try.ntmps60
  go_wp2
  go_loopw [7, 13] (fun a i wr => ∃ (j : Nat) (at' : Int), j ≤ zs.length ∧ a = .int .i64 at' ∧ i = .int .i64 j ∧ w = wr ∧ Hid (wayEnd t.cos k zs = wayEnd t.cos at' (zs.drop j))) (fun _ i _ => zs.length - (intOf i).toNat)
  case atStart => exact ⟨0, k, Nat.zero_le _, rfl, rfl, rfl, rfl⟩
  case round =>
    obtain ⟨j, at', hj, rfl, rfl, rfl, heq⟩ := hrel
    by_cases hlt : j < zs.length
    · obtain ⟨b, off, rfl, _, _, c0, _⟩ := Hk1.out.at_ hlt
      by_cases hx : 0 ≤ zs[j] ∧ zs[j] < t.cos.length
      · have hxb := ixB_yes hx.1 hx.2
        have hi : zs[j].toNat < t.cos.length := by omega
        obtain ⟨b3, off3, A2, cap2, rfl, hlo, hhi, d0, d1, d2, _, _, _, _, _⟩ := Hc1.out.at_ hi
        have hx0 := hx.1
        have hx1 := hx.2
        by_cases hs : t.cos[zs[j].toNat].src = at'
        · have hst := Lib.hid (heq.out.trans (wayEnd_yes hlt hx.1 hi hs))
          have htest : (t.cos[zs[j].toNat].src != at') = false := by simpa using hs
          clear hx hs
          go_wp2_with (go_at_call 61; refine (isIndex_any _ _ _).mono ?_; rintro e w' ⟨rfl, rfl⟩; rw [hxb])
          go_roundw
          case rel => exact ⟨j + 1, _, by omega, rfl, by go_num, trivial, hst⟩
          case measure => simp [intOf]; omega
        · have hst := Lib.hid (heq.out.trans (wayEnd_other hlt hi hs))
          have htest : (t.cos[zs[j].toNat].src != at') = true := by simpa using hs
          clear hx hs
          go_wp2_with (go_at_call 61; refine (isIndex_any _ _ _).mono ?_; rintro e w' ⟨rfl, rfl⟩; rw [hxb])
          go_ret
          exact ⟨by rw [hst.out]; rfl, rfl⟩
      · have hxb := ixB_no hx
        have hst := Lib.hid (heq.out.trans (wayEnd_out hlt hxb))
        clear hx
        go_wp2_with (go_at_call 61; refine (isIndex_any _ _ _).mono ?_; rintro e w' ⟨rfl, rfl⟩; rw [hxb])
        go_ret
        exact ⟨by rw [hst.out]; rfl, rfl⟩
    · obtain rfl : j = zs.length := by omega
      have hst := Lib.hid (heq.out.trans (wayEnd_done _ _ _))
      go_wp2
      go_ret
      exact ⟨by rw [hst.out]; rfl, rfl⟩

set_option maxRecDepth 100000 in
set_option maxHeartbeats 2000000 in
theorem along_any (lo hi lo2 hi2 g : Nat) (sv cv rv : Value) (t : Ty) (k v : Int) (zs : List Int) (w : World) (hv : TyAt w lo hi sv cv t) (hB : hi ≤ w.heap.size) (hr : IntsAt w lo2 hi2 rv zs) (hB2 : hi2 ≤ w.heap.size) (hg : Row w g 81 [sv, cv])
    (hok : tyOk t = true) (hval : ValOf t.sizes k v) (hway : (wayEnd t.cos k zs).isSome = true) :
    Calls Try.prog 62 #[.pointer (some ⟨g, 0, none⟩), rv, .int .i64 v] w fun e w' => e = .returned (.int .i64 (goV t.cos v zs)) ∧ Below w.heap.size w w' := by
  obtain ⟨A, cap, rfl, hl1, hm1, _⟩ := hv.1.form
  obtain ⟨B, bap, rfl, hl2, hm2, hc1⟩ := hv.2.form
  obtain ⟨K, kap, rfl, hl3, hm3, hk1⟩ := hr.form
  have hfew := tyOk_few hok
  unfold maxLen at hm3
  have Hk1 := Lib.hid hk1
  have Hc1 := Lib.hid hc1
  have Hg := Lib.hid hg
  have Hok := Lib.hid hok
  have Hval := Lib.hid hval
  have Hway := Lib.hid hway
  clear hv hr hk1 hc1 hg hok hval hway
  go_enter Try.func62, Try.ntmps62
  go_wp2
  go_loopw [2, 11] (fun a i wr => ∃ (j : Nat) (u q : Int), j ≤ zs.length ∧ a = .int .i64 u ∧ i = .int .i64 j ∧ Hid (Below w.heap.size w wr) ∧ Hid (goV t.cos v zs = goV t.cos u (zs.drop j)) ∧ Hid (ValOf t.sizes q u) ∧ Hid ((wayEnd t.cos q (zs.drop j)).isSome = true)) (fun _ i _ => zs.length - (intOf i).toNat)
  case atStart => exact ⟨0, v, k, Nat.zero_le _, rfl, rfl, Below.refl _ _, rfl, Hval, Hway⟩
  case round =>
    obtain ⟨j, u, q, hj, rfl, rfl, hb, heq, hvu, hwy⟩ := hrel
    have hbs := hb.out.size
    by_cases hlt : j < zs.length
    · obtain ⟨b, off, rfl, _, _, c0, _⟩ := (Hk1.out.below hb.out hB2).at_ hlt
      obtain ⟨hx0, hx1, hix, hsq, hwy2⟩ := wayEnd_some hlt hwy.out
      obtain ⟨b3, off3, A2, cap2, rfl, hlo, hhi, d0, d1, d2, h5, h6, hs, hd, hz⟩ := (Hc1.out.below hb.out hB).at_ hix
      have hvs : ValOf t.sizes t.cos[zs[j].toNat].src u := by rw [hsq]; exact hvu.out
      obtain ⟨hu0, hu1, hn4, hun, hlk, hvu2⟩ := valOf_step Hok.out hix hvs
      have hpos : 0 < t.cos[zs[j].toNat].map.length := by omega
      have hgr := Hg.out.below hb.out Hg.out.lt
      have g1 : wr.cell? ⟨g, 1, none⟩ = some (.slice (some ⟨b3, off3, none⟩) t.cos.length bap) := hgr.cell 1
      have heq2 := Lib.hid (heq.out.trans (goV_step hlt hix))
      have Hwy2 := Lib.hid hwy2
      have Hvu2 := Lib.hid hvu2
      have Hz := Lib.hid hz
      clear hwy2 hvu2 hvs hlk hsq hz hgr hs hd
      go_wp2_with fail
      refine (images_any _ _ _ _).mono ?_
      rintro e w2 ⟨rfl, rfl⟩
      have hb2 : Below wr.heap.size wr ((wr.alloc (.cells #[.int .i64 t.cos[zs[j].toNat].src, .int .i64 t.cos[zs[j].toNat].dst, .slice A2 t.cos[zs[j].toNat].map.length cap2] 28)).alloc (.cells [.int .i64 t.cos[zs[j].toNat].src, .int .i64 t.cos[zs[j].toNat].dst, .slice A2 t.cos[zs[j].toNat].map.length cap2, .int .u32 0, .int .i32 0, .int .u32 0, .int .i64 0, .int .i64 0, .int .i64 0, .int .i64 0].toArray 115)) := by go_grown
      have hr2 := Row.new (wr.alloc (.cells #[.int .i64 t.cos[zs[j].toNat].src, .int .i64 t.cos[zs[j].toNat].dst, .slice A2 t.cos[zs[j].toNat].map.length cap2] 28)) 115 [.int .i64 t.cos[zs[j].toNat].src, .int .i64 t.cos[zs[j].toNat].dst, .slice A2 t.cos[zs[j].toNat].map.length cap2, .int .u32 0, .int .i32 0, .int .u32 0, .int .i64 0, .int .i64 0, .int .i64 0, .int .i64 0]
      rw [World.size_alloc] at hr2
      have hz2 := Hz.out.below hb2 (by omega)
      have Hb2 := Lib.hid hb2
      have Hr2 := Lib.hid hr2
      have Hz2 := Lib.hid hz2
      clear hb2 hr2 hz2
      go_wp2_with fail
      refine (of_first lo hi (wr.heap.size + 1) _ _ _ _ _ _ _ A2 cap2 t.cos[zs[j].toNat].map u _ Hr2.out Hz2.out (by omega) hn4 hpos).mono ?_
      rintro e w3 ⟨rfl, hk3, _⟩
      have hb3 : Below wr.heap.size wr w3 := Hb2.out.trans (hk3.below (by simp; omega) (fun k hk => by omega))
      have Hb3 := Lib.hid (hb.out.trans (hb3.mono hbs))
      clear hk3 hb3
      go_wp2
      go_roundw
      case rel => exact ⟨j + 1, _, _, by omega, rfl, by go_num, Hb3, heq2, Hvu2, Hwy2⟩
      case measure => simp [intOf]; omega
    · obtain rfl : j = zs.length := by omega
      have hst := Lib.hid (heq.out.trans (goV_done _ _ _))
      go_wp2
      go_ret
      exact ⟨ret_int hst.out.symm, hb.out⟩
end Go.Proofs.Ytplpnammboofiaa

namespace Go.Proofs.Ytplpnammboofiaa
open Go.RowKit

theorem endV_of {cs : List Co} {t : Ty} {k : Int} {zs : List Int} {o : Option Int} (hc : t.cos = cs) (h : wayEnd cs k zs = o) : endV t k zs = o.getD (-1) := by
  subst hc
  unfold endV
  rw [h]

set_option maxRecDepth 100000 in
set_option maxHeartbeats 1000000 in
theorem l2Go_any (lo hi lo2 hi2 : Nat) (sv cv rv : Value) (t : Ty) (k v : Int) (zs : List Int) (w : World) (hv : TyAt w lo hi sv cv t) (hB : hi ≤ w.heap.size) (hr : IntsAt w lo2 hi2 rv zs) (hB2 : hi2 ≤ w.heap.size)
    (hok : tyOk t = true) (hval : ValOf t.sizes k v) (hway : (wayEnd t.cos k zs).isSome = true) :
    Calls Try.prog 66 #[.agg #[sv, cv], rv, .int .i64 v] w fun e w' => e = .returned (.int .i64 (goV t.cos v zs)) ∧ Below w.heap.size w w' := by
  obtain ⟨A, cap, rfl, hl1, hm1, _⟩ := hv.1.form
  obtain ⟨B, bap, rfl, hl2, hm2, hc1⟩ := hv.2.form
  obtain ⟨K, kap, rfl, hl3, hm3, hk1⟩ := hr.form
  have hfew := tyOk_few hok
  unfold maxLen at hm3
  have h3 : Below w.heap.size w (w.alloc (.cells #[.slice A t.sizes.length cap, .slice B t.cos.length bap] 26)) := by go_grown
  have H3 := Lib.hid h3
  have Hk1 := Lib.hid (hk1.below h3 hB2)
  have Hc1 := Lib.hid (hc1.below h3 hB)
  have Hok := Lib.hid hok
  have Hval := Lib.hid hval
  have Hway := Lib.hid hway
  clear hv hr hk1 hc1 hok h3 hval hway
  go_enter Try.func66, Try.ntmps66
  go_wp2
  go_loopw [2, 11] (fun a i wr => ∃ (j : Nat) (u q : Int), j ≤ zs.length ∧ a = .int .i64 u ∧ i = .int .i64 j ∧ w.alloc (.cells #[.slice A t.sizes.length cap, .slice B t.cos.length bap] 26) = wr ∧ Hid (goV t.cos v zs = goV t.cos u (zs.drop j)) ∧ Hid (ValOf t.sizes q u) ∧ Hid ((wayEnd t.cos q (zs.drop j)).isSome = true)) (fun _ i _ => zs.length - (intOf i).toNat)
  case atStart => exact ⟨0, v, k, Nat.zero_le _, rfl, rfl, rfl, rfl, Hval, Hway⟩
  case round =>
    obtain ⟨j, u, q, hj, rfl, rfl, rfl, heq, hvu, hwy⟩ := hrel
    by_cases hlt : j < zs.length
    · obtain ⟨b, off, rfl, _, _, c0, _⟩ := Hk1.out.at_ hlt
      obtain ⟨hx0, hx1, hix, hsq, hwy2⟩ := wayEnd_some hlt hwy.out
      obtain ⟨b3, off3, A2, cap2, rfl, hlo, hhi, d0, d1, d2, h5, h6, hs, hd, hz⟩ := Hc1.out.at_ hix
      have hvs : ValOf t.sizes t.cos[zs[j].toNat].src u := by rw [hsq]; exact hvu.out
      obtain ⟨hu0, hu1, hn4, hun, hlk, hvu2⟩ := valOf_step Hok.out hix hvs
      obtain ⟨b4, off4, rfl, _, _, e0, _⟩ := hz.at_ hun
      have heq2 := heq.out.trans (goV_step hlt hix)
      rw [hlk] at heq2 hvu2
      have Heq2 := Lib.hid heq2
      have Hwy2 := Lib.hid hwy2
      have Hvu2 := Lib.hid hvu2
      clear hwy2 hvu2 hvs hlk hsq hz hs hd heq2
      go_wp2
      go_roundw
      case rel => exact ⟨j + 1, _, _, by omega, rfl, by go_num, trivial, Heq2, Hvu2, Hwy2⟩
      case measure => simp [intOf]; omega
    · obtain rfl : j = zs.length := by omega
      have hst := Lib.hid (heq.out.trans (goV_done _ _ _))
      go_wp2
      go_ret
      exact ⟨ret_int hst.out.symm, H3.out⟩

theorem hasV_of {t : Ty} {k v : Int} (h : hasV t k v = true) : tyOk t = true ∧ ValOf t.sizes k v := by
  unfold hasV at h
  rw [Bool.and_eq_true] at h
  exact ⟨h.1, valOf_hasV0.1 h.2⟩
theorem goWayV_yes {t : Ty} {k v : Int} {zs : List Int} (h : hasV t k v = true) (h2 : (wayEnd t.cos k zs).isSome = true) : goWayV t k zs v = goV t.cos v zs := by unfold goWayV; rw [if_pos ⟨h, h2⟩]
theorem goWayV_no {t : Ty} {k v : Int} {zs : List Int} (h : ¬ (hasV t k v = true ∧ (wayEnd t.cos k zs).isSome = true)) : goWayV t k zs v = -1 := by unfold goWayV; rw [if_neg h]

end Go.Proofs.Ytplpnammboofiaa

namespace Go.Proofs.Ytplpnammboofiaa
open Go.RowKit

theorem findOk_one {t : Ty} {k : Int} : findOk t [k] = (tyOk t && ixB k t.sizes.length) := by simp [findOk]
/-- One number in new memory. -/
theorem ints_one (w : World) (z : Int) (hz : I64 z) (t : TypeId) : IntsAt (w.alloc (.cells #[.int .i64 z] t)) w.heap.size (w.heap.size + 1) (.slice (some ⟨w.heap.size, 0, none⟩) 1 1) [z] :=
  (show Row (w.alloc (.cells #[.int .i64 z] t)) w.heap.size t ([z].map (Value.int .i64)) from Row.new w t [.int .i64 z]).ints (fun x hx => by simp at hx; subst hx; exact hz) (Nat.le_refl _) (by omega) (Nat.le_refl _) (by unfold maxLen; simp)

set_option maxRecDepth 100000 in
set_option maxHeartbeats 2000000 in
theorem implGoWay_any (lo hi lo2 hi2 : Nat) (sv cv rv : Value) (t : Ty) (k v : Int) (zs : List Int) (w : World) (hv : TyAt w lo hi sv cv t) (hB : hi ≤ w.heap.size) (hr : IntsAt w lo2 hi2 rv zs) (hB2 : hi2 ≤ w.heap.size) (hk : I64 k) :
    Calls Try.prog 23 #[.agg #[sv, cv], .int .i64 k, rv, .int .i64 v] w fun e w' => e = .returned (.int .i64 (goWayV t k zs v)) ∧ Below w.heap.size w w' := by
  obtain ⟨A, cap, rfl, hl1, hm1, hi1⟩ := hv.1.form
  obtain ⟨B, bap, rfl, hl2, hm2, hc1⟩ := hv.2.form
  have Hv := Lib.hid hv
  have Hr := Lib.hid hr
  have Hi1 := Lib.hid hi1
  clear hv hr hi1 hc1
  have h4 : Below w.heap.size w ((w.alloc (.cells #[.slice A t.sizes.length cap, .slice B t.cos.length bap] 26)).alloc (.cells #[.int .i64 k] 3)) := by go_grown
  have hone := ints_one (w.alloc (.cells #[.slice A t.sizes.length cap, .slice B t.cos.length bap] 26)) k hk 3
  rw [World.size_alloc] at hone
  have H4 := Lib.hid h4
  have Hone := Lib.hid hone
  clear h4 hone
  go_enter Try.func23, Try.ntmps23
  go_wp2_with fail
  refine (finderOf_any lo hi _ _ _ _ _ t [k] _ (Hv.out.below H4.out hB) (by simp; omega) Hone.out (by simp only [World.size_alloc]; omega)).mono ?_
  rintro e w1 ⟨p, rfl, hb1, hf1⟩
  rw [findOk_one] at hf1 ⊢
  have H1 := Lib.hid (H4.out.trans (hb1.mono (by simp; omega)))
  have hs1 : w.heap.size ≤ w1.heap.size := H1.out.size
  clear hb1
  by_cases hok : (tyOk t && ixB k t.sizes.length) = true
  · obtain ⟨g, rfl, hg, hrow⟩ := hf1 hok
    rw [Bool.and_eq_true] at hok
    obtain ⟨hty, hkx⟩ := hok
    have Hrow := Lib.hid hrow
    have Hty := Lib.hid hty
    have hk2 := hkx
    simp only [ixB, decide_eq_true_eq] at hk2
    obtain ⟨hk0, hk1⟩ := hk2
    rw [hty, hkx, Bool.and_self]
    have Hkx := Lib.hid hkx
    have g0 : w1.cell? ⟨g, 0, none⟩ = some (.slice A t.sizes.length cap) := hrow.cell 0
    have g1 : w1.cell? ⟨g, 1, none⟩ = some (.slice B t.cos.length bap) := hrow.cell 1
    have hkn : k.toNat < t.sizes.length := by omega
    have hhv : Hid (hasV t k v = ixB v t.sizes[k.toNat]) := by show _ = _; unfold hasV; rw [hty, Bool.true_and, hasV0_yes hkx hkn]
    obtain ⟨b, off, rfl, _, _, s0, _⟩ := (Hi1.out.below H1.out hB).at_ hkn
    clear hrow hty hkx
    go_wp2_with fail
    refine (isWay_any lo hi lo2 hi2 g _ _ _ t k zs _ (Hv.out.below H1.out hB) (Hr.out.below H1.out hB2) Hrow.out Hty.out).mono ?_
    rintro e w' ⟨rfl, rfl⟩
    by_cases hw : (wayEnd t.cos k zs).isSome = true
    · have Hw := Lib.hid hw
      rw [hw]
      clear hw
      by_cases hx : ixB v t.sizes[k.toNat] = true
      · have Hok : Hid (hasV t k v = true) := by show _ = _; rw [hhv.out]; exact hx
        have hfin := Lib.hid (goWayV_yes Hok.out Hw.out)
        have Hval := Lib.hid (hasV_of Hok.out).2
        go_wp2_with (go_at_call 61; refine (isIndex_any _ _ _).mono ?_; rintro e w' ⟨rfl, rfl⟩; rw [hx])
        refine (along_any lo hi lo2 hi2 g _ _ _ t k v zs _ (Hv.out.below H1.out hB) (by omega) (Hr.out.below H1.out hB2) (by omega) Hrow.out Hty.out Hval.out Hw.out).mono ?_
        rintro e w3 ⟨rfl, hb3⟩
        have H3 := Lib.hid (H1.out.trans (hb3.mono hs1))
        clear hb3
        go_wp2
        go_ret
        exact ⟨ret_int hfin.out.symm, H3.out⟩
      · have hxf : ixB v t.sizes[k.toNat] = false := by simpa using hx
        have hfin : Hid (goWayV t k zs v = -1) := goWayV_no (fun h => hx (by rw [← hhv.out]; exact h.1))
        clear hx
        go_wp2_with (go_at_call 61; refine (isIndex_any _ _ _).mono ?_; rintro e w' ⟨rfl, rfl⟩; rw [hxf])
        go_ret
        exact ⟨ret_int hfin.out.symm, H1.out⟩
    · have hfin := Lib.hid (goWayV_no (v := v) (fun h => hw h.2))
      have hwf : (wayEnd t.cos k zs).isSome = false := by simpa using hw
      rw [hwf]
      clear hw hwf
      go_wp2
      go_ret
      exact ⟨ret_int hfin.out.symm, H1.out⟩
  · have hokf : (tyOk t && ixB k t.sizes.length) = false := by simpa using hok
    have hno : Hid (goWayV t k zs v = -1) := goWayV_no (fun h => by
      have := hasV_of h.1
      rw [this.1, Bool.true_and] at hok
      exact hok (ixB_yes this.2.1 this.2.2.1))
    rw [hokf]
    clear hok hf1
    go_wp2
    go_ret
    exact ⟨ret_int hno.out.symm, H1.out⟩
end Go.Proofs.Ytplpnammboofiaa

