/-
  The contract of the model's finder: all ways from a type, found behind what was found.
-/
import Derived.Test.YtilcahidmoaakaaFs
import Derived.Deep.RegionLaw
namespace Go.Proofs.Ytilcahidmoaakaa
open Go.RowKit

theorem Try.infoIntS : (Try.prog.info? 22).map (fun i => (i.zero, i.size, i.bytes)) = some (some (.slice none 0 0), 1, 24) := by kernel_rfl

set_option maxRecDepth 100000 in
set_option maxHeartbeats 4000000 in
theorem from_any (lo hi : Nat) (sv cv : Value) (t : Ty) (goal : Int) (base g : Nat) (hok : tyOk t = true) (hB : hi ≤ base) : ∀ (n : Nat) (k : Int) (way : List Int) (outs : List (List Int)) (w : World), TyAt w lo hi sv cv t → base ≤ w.heap.size →
    0 ≤ k → k < t.sizes.length → t.sizes.length ≤ k.toNat + n → way.length + n ≤ 20 → (∀ z ∈ way, I64 z) → outs.length + (waysF t.cos n k goal).length ≤ 1000000 → FS sv cv goal base g way outs w →
    Calls Try.prog 174 #[.pointer (some ⟨g, 0, none⟩), .int .i64 k] w fun e w' => e = .returned (.tuple #[]) ∧ Below base w w' ∧ FS sv cv goal base g way (outs ++ (waysF t.cos n k goal).map (way ++ ·)) w' := by
  intro n
  induction n with
  | zero => intro k way outs w _ _ h1 h2 h3; omega
  | succ n ih =>
    intro k way outs w hv hbs hk0 hk1 hkn hwn hwf hon hfs
    obtain ⟨A, cap, rfl, hl1, hm1, _⟩ := hv.1.form
    obtain ⟨B, bap, rfl, hl2, hm2, hc1⟩ := hv.2.form
    obtain ⟨wv, ov, xs, S, hfp⟩ := hfs
    have hfew := tyOk_few hok
    have c0 := hfp.row.cell 0
    have c1 := hfp.row.cell 1
    have c2 := hfp.row.cell 2
    have c3 := hfp.row.cell 3
    have c4 := hfp.row.cell 4
    have f3 := hfp.row.frozen 3
    have f4 := hfp.row.frozen 4
    simp only [List.getElem?_cons_zero, List.getElem?_cons_succ] at c0 c1 c2 c3 c4
    obtain ⟨i0, hi0, hz0, hz1, hz2⟩ := info_parts Try.infoInt
    obtain ⟨i1, hi1, hy0, hy1, hy2⟩ := info_parts Try.infoIntS
    have Hfp := Lib.hid hfp
    have Hv := Lib.hid hv
    have Hc1 := Lib.hid hc1
    have Ih := Lib.hid ih
    have Hwf := Lib.hid hwf
    have hgw := hfp.row.lt
    have hgb := hfp.le
    by_cases hkg : k = goal
    · have Hways := Lib.hid (show waysF t.cos (n + 1) k goal = [[]] by rw [hkg]; exact waysF_eq _ _ _)
      have htest : (k == goal) = true := by simpa using hkg
      have hlo : outs.length ≤ 1000000 := by omega
      have Hz0 := Lib.hid (ownsRow.intsAt (lo := base) (hi := w.heap.size) hfp.fway hwf (Nat.le_refl _) (Nat.le_refl _))
      obtain ⟨WA, WC, hwv⟩ := owns_form hfp.fway
      rw [hwv] at c3 Hz0 Hfp
      obtain ⟨OA, OC, hov⟩ := owns_form hfp.fouts
      rw [hov] at c4 Hfp
      clear hv hc1 hfp ih hwf hkg hwv hov
      go_enter Try.func174, Try.ntmps174
      go_upto_region 1 with fail
      clear Ih Hc1 c0 c1 c2 Hv
      have K0 : Hid (w.drew.cell? ⟨g, 3, none⟩ = some (.slice WA way.length WC) ∧ w.drew.cell? ⟨g, 4, none⟩ = some (.slice OA outs.length OC)) := ⟨c3, c4⟩
      have hk1 : ∀ k, k < w.heap.size → (w.drew.alloc (.cells #[] 3)).heap[k]? = w.heap[k]? := fun k hk => Below.heap_alloc w.drew _ k hk
      have Hk1 := Lib.hid hk1
      have K1 : Hid ((w.drew.alloc (.cells #[] 3)).cell? ⟨g, 3, none⟩ = some (.slice WA way.length WC) ∧ (w.drew.alloc (.cells #[] 3)).cell? ⟨g, 4, none⟩ = some (.slice OA outs.length OC)) := ⟨(World.cell?_of_block (w := w) (hk1 g hgw)).trans c3, (World.cell?_of_block (w := w) (hk1 g hgw)).trans c4⟩
      have hlit := World.ownsRow_lit (base := w.heap.size) (e := 3) (size := 1) w.drew #[] 0 (Nat.le_refl _) (by unfold maxLen; omega) rfl
      have Hlit := Lib.hid hlit
      clear hk1 hlit
      have k14 := K1.out.2
      have k04 := K0.out.2
      have k13 := K1.out.1
      have k03 := K0.out.1
      go_region_law
        (first
          | (refine step_append_ints rfl (.tmp 17) (.tmp 21) rfl w.heap.size _ 0 _ rfl Hlit.out base w.heap.size WA way.length WC way rfl (Hz0.out.keep fun k _ hk => Hk1.out k hk) rfl (by omega) (by simp) ?_
             intro VA VC w5 hown5 hgrow5
             simp only [Nat.zero_add, List.nil_append] at hown5
             have hg5 : (w.drew.alloc (.cells #[] 3)).grownBy w5 (some w.heap.size) := hgrow5
             have hs5 : w.heap.size + 1 ≤ w5.heap.size := by have := hg5.size; rw [World.size_alloc] at this; exact this
             have hk5 : ∀ k, k < w.heap.size → w5.heap[k]? = w.heap[k]? := fun k hk => (hg5.block k (by rw [World.size_alloc]; exact Nat.lt_succ_of_lt hk) (by intro e; simp only [Option.some.injEq] at e; omega)).trans (Hk1.out k hk)
             have hos5 : w5.os = w.os ∧ w5.tape = w.tape ∧ w5.output = w.output := ⟨hg5.os, hg5.tape, hg5.output⟩
             have hk6 : ∀ k, k < w.heap.size → (w5.alloc (.cells #[.slice VA way.length VC] 22)).heap[k]? = w.heap[k]? := fun k hk => (Below.heap_alloc w5 _ k (by omega)).trans (hk5 k hk)
             have K5 : Hid (w5.cell? ⟨g, 3, none⟩ = some (.slice WA way.length WC) ∧ w5.cell? ⟨g, 4, none⟩ = some (.slice OA outs.length OC)) := ⟨(World.cell?_of_block (w := w) (hk5 g hgw)).trans c3, (World.cell?_of_block (w := w) (hk5 g hgw)).trans c4⟩
             have K6 : Hid ((w5.alloc (.cells #[.slice VA way.length VC] 22)).cell? ⟨g, 3, none⟩ = some (.slice WA way.length WC) ∧ (w5.alloc (.cells #[.slice VA way.length VC] 22)).cell? ⟨g, 4, none⟩ = some (.slice OA outs.length OC)) := ⟨(World.cell?_of_block (w := w) (hk6 g hgw)).trans c3, (World.cell?_of_block (w := w) (hk6 g hgw)).trans c4⟩
             have k54 := K5.out.2
             have k64 := K6.out.2
             have Hk6 := Lib.hid hk6
             have Hos5 := Lib.hid hos5
             have Hown5 := Lib.hid hown5
             clear hk5 hk6 hgrow5 hg5 hown5 hos5)
          | (refine step_push (by simp [Region.wanted]) (.tmp 16) (.tmp 23) 86 rfl i1 (.slice none 0 0) 24 Try.underlying86 hi1 hy0 hy1 hy2 rfl rfl (ownsRow_keep Hfp.out.fouts fun k _ hk => Hk6.out k hk) ⟨w5.heap.size, 0, none⟩ 1 (.slice VA way.length VC) rfl (by simp [go_sem]) rfl (by unfold maxLen; omega) (by omega) (by simp; omega) ?_
             intro v7 w7 hp7
             obtain ⟨g7, cap7, rfl⟩ := hp7.form
             have r7 := (Hfp.out.row.keep (Hk6.out g hgw)).keep (hp7.grown.block g (by simp; omega) (fun e => Hfp.out.ne2 e.symm))
             have p3 : w7.cell? ⟨g, 3, none⟩ = some (.slice WA way.length WC) := r7.cell 3
             have p4 : w7.cell? ⟨g, 4, none⟩ = some (.slice OA outs.length OC) := r7.cell 4
             have pf4 : w7.frozen? ⟨g, 4, none⟩ = false := r7.frozen 4
             have K7 := Lib.hid (show w7.cell? ⟨g, 3, none⟩ = some (.slice WA way.length WC) ∧ w7.cell? ⟨g, 4, none⟩ = some (.slice OA outs.length OC) from ⟨p3, p4⟩)
             have Hp7 := Lib.hid hp7
             clear hp7 r7))
      all_goals
        have hx6 : IntsIn (w5.alloc (.cells #[.slice VA way.length VC] 22)) (fun b => w.heap.size ≤ b ∧ b < (w5.alloc (.cells #[.slice VA way.length VC] 22)).heap.size) (.slice VA way.length VC) way :=
          ((ownsRow.intsAt (lo := w.heap.size) (hi := w5.heap.size) Hown5.out Hwf.out (Nat.le_refl _) (Nat.le_refl _)).keep fun k _ hk => Below.heap_alloc w5 _ k hk).in_.more fun b hb => ⟨hb.1, by simp; omega⟩
        have hend := Lib.hid (Hfp.out.pushOut (by simp; omega) Hk6.out hx6 Hp7.out)
        have hbel := Lib.hid (Hfp.out.belowOut (w6 := w5.alloc (.cells #[.slice VA way.length VC] 22)) (j := 4) (u := .slice (some ⟨g7, 0, none⟩) (outs.length + 1) cap7) Hos5.out hbs (by simp; omega) Hk6.out Hp7.out)
        clear hx6 k04 k14 k03 k13 k54 k64
        go_wp2
        refine bodyPost_ret (results_none rfl _ _ _) rfl ?_
        exact ⟨rfl, hbel.out, by rw [Hways.out]; simpa using hend.out⟩
    · have hwj := Lib.hid (waysF_ne (cs := t.cos) (n := n) hkg)
      have htest : (k == goal) = false := by simpa using hkg
      have hon2 : outs.length + (waysJ t.cos n k goal t.cos.length).length ≤ 1000000 := by rw [← hwj.out]; exact hon
      have hfs0 := Lib.hid (show FS (.slice A t.sizes.length cap) (.slice B t.cos.length bap) goal base g way outs w from ⟨wv, ov, xs, S, hfp⟩)
      clear hv hc1 hfp ih hwf hkg hon Hfp c0 c3 c4 f3 f4
      go_enter Try.func174, Try.ntmps174
      go_wp2
      go_loopw [33] (fun i wr => ∃ j : Nat, j ≤ t.cos.length ∧ i = .int .i64 j ∧ Hid (Below base w wr) ∧ Hid (FS (.slice A t.sizes.length cap) (.slice B t.cos.length bap) goal base g way (outs ++ (waysJ t.cos n k goal j).map (way ++ ·)) wr)) (fun i _ => t.cos.length - (intOf i).toNat)
      case atStart => exact ⟨0, Nat.zero_le _, rfl, Below.refl _ _, by show FS _ _ _ _ _ _ _ _; rw [waysJ_zero]; simpa using hfs0.out⟩
      case round =>
        obtain ⟨j, hj, rfl, hb, hfs⟩ := hrel
        have hbsz := hb.out.size
        by_cases hlt : j < t.cos.length
        · obtain ⟨b, off, A2, cap2, rfl, hlo, hhi, d0, d1, d2, h5, h6, hsI, hdI, hz2'⟩ := (Hc1.out.below hb.out hB).at_ hlt
          clear hz2' hsI hdI
          by_cases hq : t.cos[j].src = k
          · have hh := Lib.hid (waysJ_hit (n := n) (goal := goal) hlt hq)
            have hco := coOk_of (tyOk_co hok hlt)
            have hdst : 0 ≤ t.cos[j].dst ∧ t.cos[j].dst < t.sizes.length ∧ t.sizes.length ≤ t.cos[j].dst.toNat + n := by omega
            have hmono := waysJ_mono t.cos n k goal (show j + 1 ≤ t.cos.length from hlt)
            have hlen3 : (outs ++ (waysJ t.cos n k goal j).map (way ++ ·)).length + (waysF t.cos n t.cos[j].dst goal).length ≤ 1000000 := by
              have e := congrArg List.length hh.out
              rw [List.length_append, List.length_map] at e
              rw [List.length_append, List.length_map]
              omega
            have htq : (t.cos[j].src != k) = false := by simpa using hq
            obtain ⟨wv2, ov2, xs2, S2, hfp2⟩ := hfs.out
            have p3 := hfp2.row.cell 3
            have pf3 := hfp2.row.frozen 3
            simp only [List.getElem?_cons_zero, List.getElem?_cons_succ] at p3
            have hgr := hfp2.row.lt
            have hfp3 := hfp2.keep (w' := (wr.alloc (.cells #[.int .i64 t.cos[j].src, .int .i64 t.cos[j].dst, .slice A2 t.cos[j].map.length cap2] 67)).alloc (.cells #[.int .i64 j] 3)) (by simp; omega) (fun k _ hk => (Below.heap_alloc _ _ k (by simp; omega)).trans (Below.heap_alloc _ _ k hk))
            have Hfp3 := Lib.hid hfp3
            have Hco := Lib.hid hco
            have Hlen3 := Lib.hid hlen3
            have Hwl := Lib.hid (owns_lt hfp2.fway)
            have Hdst := Lib.hid hdst
            clear hfp2 hfp3 hco hq hlen3 hmono hdst
            go_wp2_with (at_builtin; refine wpList_push rfl (.tmp 46) (.tmp 48) 22 rfl i0 (.int .i64 0) 8 Try.underlying22 hi0 hz0 hz1 hz2 rfl rfl Hfp3.out.fway ⟨wr.heap.size + 1, 0, none⟩ 1 (.int .i64 j) rfl (by simp [go_sem]) rfl (by unfold maxLen; omega) (by omega) (by simp; omega) ?_)
            intro v5 w5 hp5
            obtain ⟨g5, cap5, rfl⟩ := hp5.form
            have r5 := Hfp3.out.row.keep (hp5.grown.block g (by simp; omega) (fun e => Hfp3.out.ne1 e.symm))
            have e3 : w5.cell? ⟨g, 3, none⟩ = some wv2 := r5.cell 3
            have ef3 : w5.frozen? ⟨g, 3, none⟩ = false := r5.frozen 3
            have hs5 : wr.heap.size + 2 ≤ w5.heap.size := by have := hp5.grown.size; simpa using this
            have hf5 := Hfp3.out.pushWay hp5
            have e1 : w5.cell? ⟨wr.heap.size, 1, none⟩ = some (.int .i64 t.cos[j].dst) := (hp5.grown.cell_far ⟨wr.heap.size, 1, none⟩ (by simp; omega) (fun e => by have := (Hwl.out _ e.symm).2; dsimp only at this; omega)).trans (by simp [go_sem])
            have hb6 := (((hb.out.alloc (by omega) (.cells #[.int .i64 t.cos[j].src, .int .i64 t.cos[j].dst, .slice A2 t.cos[j].map.length cap2] 67)).alloc (by simp; omega) (.cells #[.int .i64 j] 3)).grown hp5.grown (by simp; omega) (fun k hk => (owns_lt Hfp3.out.fway k hk).1)).setCell (p := ⟨g, 3, none⟩) hgb (.slice (some ⟨g5, 0, none⟩) (way.length + 1) cap5)
            have e1' : (w5.setCell ⟨g, 3, none⟩ (.slice (some ⟨g5, 0, none⟩) (way.length + 1) cap5)).cell? ⟨wr.heap.size, 1, none⟩ = some (.int .i64 t.cos[j].dst) := (World.cell?_of_block (w := w5) (heap_set_ne _ _ _ _ _ (by dsimp only; omega))).trans e1
            have hs6 : (w5.setCell ⟨g, 3, none⟩ (.slice (some ⟨g5, 0, none⟩) (way.length + 1) cap5)).heap.size = w5.heap.size := by simp [World.setCell]
            have Hb6 := Lib.hid hb6
            have Hf5 := Lib.hid hf5
            clear hp5 r5 hf5 hb6
            go_wp2_with fail
            refine (Ih.out t.cos[j].dst (way ++ [(j : Int)]) _ _ (Hv.out.below Hb6.out hB) (by rw [hs6]; omega) Hdst.out.1 Hdst.out.2.1 Hdst.out.2.2 (by rw [List.length_append, List.length_singleton]; omega) (fun z hz => by
              rcases List.mem_append.1 hz with h | h
              · exact Hwf.out z h
              · simp at h; subst h; unfold I64; omega) Hlen3.out ⟨_, _, _, _, Hf5.out⟩).mono ?_
            rintro e w7 ⟨rfl, hb7, hfs7⟩
            have Hb7 := Lib.hid (Hb6.out.trans hb7)
            obtain ⟨wv7, ov7, xs7, S7, hfp7⟩ := hfs7
            obtain ⟨g7, cap7, rfl⟩ : ∃ g7 cap7, wv7 = .slice (some ⟨g7, 0, none⟩) (way.length + 1) cap7 := by
              obtain ⟨_, ⟨_, h0⟩ | ⟨g7, cap7, _, e, _⟩⟩ := hfp7.fway
              · rw [List.length_append, List.length_singleton] at h0; omega
              · rw [List.length_append, List.length_singleton] at e; exact ⟨g7, cap7, e⟩
            have hc7 : way.length + 1 ≤ cap7 := by
              obtain ⟨_, ⟨h0, _⟩ | ⟨g8, cap8, _, e, _, _, h1, _⟩⟩ := hfp7.fway
              · cases h0
              · rw [List.length_append, List.length_singleton] at e h1
                simp only [Value.slice.injEq] at e
                omega
            have z3 : w7.cell? ⟨g, 3, none⟩ = some (.slice (some ⟨g7, 0, none⟩) (way.length + 1) cap7) := hfp7.row.cell 3
            have zf3 : w7.frozen? ⟨g, 3, none⟩ = false := hfp7.row.frozen 3
            have hpop := Lib.hid (FP.pop hfp7)
            clear hb7 hfp7 e1 e1' e3 ef3 p3 pf3 d0 d1 d2
            go_upto_region 8 with fail
            go_region
            have hlist : (outs ++ (waysJ t.cos n k goal j).map (way ++ ·)) ++ (waysF t.cos n t.cos[j].dst goal).map ((way ++ [(j : Int)]) ++ ·) = outs ++ (waysJ t.cos n k goal (j + 1)).map (way ++ ·) := by
              rw [hh.out]
              simp [List.map_append, List.append_assoc, Function.comp_def]
            have hfin := hpop.out
            rw [hlist] at hfin
            have Hfin := Lib.hid hfin
            clear hfin hlist
            go_wp2
            go_roundw
            case rel => exact ⟨j + 1, by omega, by go_num, (Hb7.out.setCell hgb _).drew, Hfin.out.keep (Nat.le_refl _) (fun _ _ _ => rfl)⟩
            case measure => simp [intOf]; omega
          · have hh := Lib.hid (waysJ_miss (n := n) (goal := goal) hlt hq)
            have htq : (t.cos[j].src != k) = true := by simpa using hq
            clear hq
            go_wp2
            go_roundw
            case rel => exact ⟨j + 1, by omega, by go_num, hb.out.alloc (by omega) _, by
              show FS _ _ _ _ _ _ _ _
              rw [hh.out]
              exact hfs.out.keep (by simp) (fun k _ hk => Below.heap_alloc _ _ k hk)⟩
            case measure => simp [intOf]; omega
        · obtain rfl : j = t.cos.length := by omega
          go_wp2
          go_end0
          exact ⟨rfl, hb.out, by rw [hwj.out]; exact hfs.out⟩
end Go.Proofs.Ytilcahidmoaakaa
