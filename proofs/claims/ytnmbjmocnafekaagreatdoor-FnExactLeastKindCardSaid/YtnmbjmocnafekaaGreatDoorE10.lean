/-
  The contract of the model's finder: all ways from a type, found behind what was found.
  The contracts of GoWay, the program's and the model's.
  The contract of the program's GoWay.
  The contracts of CoercionsFrom, the program's and the model's.
  The contracts of WayMap, the program's and the model's.
  The contracts of the model's l2Ways, l2Can and CanCoerce.
  The contracts of the program's ways, as an iterator, and of leads.
  What it is that a function fits types, and that a system is valid; plain data only.
-/
import Derived.Test.YtnmbjmocnafekaaGreatDoorE8
import Derived.Deep.RegionLaw
import Derived.Test.YtnmbjmocnafekaaGreatDoorE7
import Derived.Test.YtnmbjmocnafekaaGreatDoorE2
import Derived.Test.YtnmbjmocnafekaaGreatDoorE9
import Derived.Test.YtnmbjmocnafekaaGreatDoorE4
namespace Go.Proofs.YtnmbjmocnafekaaGreatDoor
open Go.RowKit

theorem Tryz.infoIntS : (Tryz.prog.info? 22).map (fun i => (i.zero, i.size, i.bytes)) = some (some (.slice none 0 0), 1, 24) := by kernel_rfl

set_option maxRecDepth 100000 in
set_option maxHeartbeats 4000000 in
theorem from_any (lo hi : Nat) (sv cv : Value) (t : Ty) (goal : Int) (base g : Nat) (hok : tyOk t = true) (hB : hi ≤ base) : ∀ (n : Nat) (k : Int) (way : List Int) (outs : List (List Int)) (w : World), TyAt w lo hi sv cv t → base ≤ w.heap.size →
    0 ≤ k → k < t.sizes.length → t.sizes.length ≤ k.toNat + n → way.length + n ≤ 20 → (∀ z ∈ way, I64 z) → outs.length + (waysF t.cos n k goal).length ≤ 1000000 → FS sv cv goal base g way outs w →
    Calls Tryz.prog 130 #[.pointer (some ⟨g, 0, none⟩), .int .i64 k] w fun e w' => e = .returned (.tuple #[]) ∧ Below base w w' ∧ FS sv cv goal base g way (outs ++ (waysF t.cos n k goal).map (way ++ ·)) w' := by
  intro n
  induction n with
  | zero => intro k way outs w _ _ h1 h2 h3; omega
  | succ n ih =>
    intro k way outs w hv hbs hk0 hk1 hkn hwn hwf hon hfs
    obtain ⟨A, cap, rfl, hl1, hm1, _⟩ := hv.1.form
    obtain ⟨B, bap, rfl, hl2, hm2, hc1⟩ := hv.2.form
    obtain ⟨wv, ov, xs, S, hfp⟩ := hfs
    have hfew := tyOk_few hok
    have c0 := hfp.row.cell 0
    have c1 := hfp.row.cell 1
    have c2 := hfp.row.cell 2
    have c3 := hfp.row.cell 3
    have c4 := hfp.row.cell 4
    have f3 := hfp.row.frozen 3
    have f4 := hfp.row.frozen 4
    simp only [List.getElem?_cons_zero, List.getElem?_cons_succ] at c0 c1 c2 c3 c4
    obtain ⟨i0, hi0, hz0, hz1, hz2⟩ := info_parts Tryz.infoInt
    obtain ⟨i1, hi1, hy0, hy1, hy2⟩ := info_parts Tryz.infoIntS
    have Hfp := Lib.hid hfp
    have Hv := Lib.hid hv
    have Hc1 := Lib.hid hc1
    have Ih := Lib.hid ih
    have Hwf := Lib.hid hwf
    have hgw := hfp.row.lt
    have hgb := hfp.le
    by_cases hkg : k = goal
    · have Hways := Lib.hid (show waysF t.cos (n + 1) k goal = [[]] by rw [hkg]; exact waysF_eq _ _ _)
      have htest : (k == goal) = true := by simpa using hkg
      have hlo : outs.length ≤ 1000000 := by omega
      have Hz0 := Lib.hid (ownsRow.intsAt (lo := base) (hi := w.heap.size) hfp.fway hwf (Nat.le_refl _) (Nat.le_refl _))
      obtain ⟨WA, WC, hwv⟩ := owns_form hfp.fway
      rw [hwv] at c3 Hz0 Hfp
      obtain ⟨OA, OC, hov⟩ := owns_form hfp.fouts
      rw [hov] at c4 Hfp
      clear hv hc1 hfp ih hwf hkg hwv hov
      go_enter Tryz.func130, Tryz.ntmps130
      go_upto_region 1 with fail
      clear Ih Hc1 c0 c1 c2 Hv
      have K0 : Hid (w.drew.cell? ⟨g, 3, none⟩ = some (.slice WA way.length WC) ∧ w.drew.cell? ⟨g, 4, none⟩ = some (.slice OA outs.length OC)) := ⟨c3, c4⟩
      have hk1 : ∀ k, k < w.heap.size → (w.drew.alloc (.cells #[] 3)).heap[k]? = w.heap[k]? := fun k hk => Below.heap_alloc w.drew _ k hk
      have Hk1 := Lib.hid hk1
      have K1 : Hid ((w.drew.alloc (.cells #[] 3)).cell? ⟨g, 3, none⟩ = some (.slice WA way.length WC) ∧ (w.drew.alloc (.cells #[] 3)).cell? ⟨g, 4, none⟩ = some (.slice OA outs.length OC)) := ⟨(World.cell?_of_block (w := w) (hk1 g hgw)).trans c3, (World.cell?_of_block (w := w) (hk1 g hgw)).trans c4⟩
      have hlit := World.ownsRow_lit (base := w.heap.size) (e := 3) (size := 1) w.drew #[] 0 (Nat.le_refl _) (by unfold maxLen; omega) rfl
      have Hlit := Lib.hid hlit
      clear hk1 hlit
      have k14 := K1.out.2
      have k04 := K0.out.2
      have k13 := K1.out.1
      have k03 := K0.out.1
      go_region_law
        (first
          | (refine step_append_ints rfl (.tmp 17) (.tmp 21) rfl w.heap.size _ 0 _ rfl Hlit.out base w.heap.size WA way.length WC way rfl (Hz0.out.keep fun k _ hk => Hk1.out k hk) rfl (by omega) (by simp) ?_
             intro VA VC w5 hown5 hgrow5
             simp only [Nat.zero_add, List.nil_append] at hown5
             have hg5 : (w.drew.alloc (.cells #[] 3)).grownBy w5 (some w.heap.size) := hgrow5
             have hs5 : w.heap.size + 1 ≤ w5.heap.size := by have := hg5.size; rw [World.size_alloc] at this; exact this
             have hk5 : ∀ k, k < w.heap.size → w5.heap[k]? = w.heap[k]? := fun k hk => (hg5.block k (by rw [World.size_alloc]; exact Nat.lt_succ_of_lt hk) (by intro e; simp only [Option.some.injEq] at e; omega)).trans (Hk1.out k hk)
             have hos5 : w5.os = w.os ∧ w5.tape = w.tape ∧ w5.output = w.output := ⟨hg5.os, hg5.tape, hg5.output⟩
             have hk6 : ∀ k, k < w.heap.size → (w5.alloc (.cells #[.slice VA way.length VC] 22)).heap[k]? = w.heap[k]? := fun k hk => (Below.heap_alloc w5 _ k (by omega)).trans (hk5 k hk)
             have K5 : Hid (w5.cell? ⟨g, 3, none⟩ = some (.slice WA way.length WC) ∧ w5.cell? ⟨g, 4, none⟩ = some (.slice OA outs.length OC)) := ⟨(World.cell?_of_block (w := w) (hk5 g hgw)).trans c3, (World.cell?_of_block (w := w) (hk5 g hgw)).trans c4⟩
             have K6 : Hid ((w5.alloc (.cells #[.slice VA way.length VC] 22)).cell? ⟨g, 3, none⟩ = some (.slice WA way.length WC) ∧ (w5.alloc (.cells #[.slice VA way.length VC] 22)).cell? ⟨g, 4, none⟩ = some (.slice OA outs.length OC)) := ⟨(World.cell?_of_block (w := w) (hk6 g hgw)).trans c3, (World.cell?_of_block (w := w) (hk6 g hgw)).trans c4⟩
             have k54 := K5.out.2
             have k64 := K6.out.2
             have Hk6 := Lib.hid hk6
             have Hos5 := Lib.hid hos5
             have Hown5 := Lib.hid hown5
             clear hk5 hk6 hgrow5 hg5 hown5 hos5)
          | (refine step_push (by simp [Region.wanted]) (.tmp 16) (.tmp 23) 71 rfl i1 (.slice none 0 0) 24 Tryz.underlying71 hi1 hy0 hy1 hy2 rfl rfl (ownsRow_keep Hfp.out.fouts fun k _ hk => Hk6.out k hk) ⟨w5.heap.size, 0, none⟩ 1 (.slice VA way.length VC) rfl (by simp [go_sem]) rfl (by unfold maxLen; omega) (by omega) (by simp; omega) ?_
             intro v7 w7 hp7
             obtain ⟨g7, cap7, rfl⟩ := hp7.form
             have r7 := (Hfp.out.row.keep (Hk6.out g hgw)).keep (hp7.grown.block g (by simp; omega) (fun e => Hfp.out.ne2 e.symm))
             have p3 : w7.cell? ⟨g, 3, none⟩ = some (.slice WA way.length WC) := r7.cell 3
             have p4 : w7.cell? ⟨g, 4, none⟩ = some (.slice OA outs.length OC) := r7.cell 4
             have pf4 : w7.frozen? ⟨g, 4, none⟩ = false := r7.frozen 4
             have K7 := Lib.hid (show w7.cell? ⟨g, 3, none⟩ = some (.slice WA way.length WC) ∧ w7.cell? ⟨g, 4, none⟩ = some (.slice OA outs.length OC) from ⟨p3, p4⟩)
             have Hp7 := Lib.hid hp7
             clear hp7 r7))
      all_goals
        have hx6 : IntsIn (w5.alloc (.cells #[.slice VA way.length VC] 22)) (fun b => w.heap.size ≤ b ∧ b < (w5.alloc (.cells #[.slice VA way.length VC] 22)).heap.size) (.slice VA way.length VC) way :=
          ((ownsRow.intsAt (lo := w.heap.size) (hi := w5.heap.size) Hown5.out Hwf.out (Nat.le_refl _) (Nat.le_refl _)).keep fun k _ hk => Below.heap_alloc w5 _ k hk).in_.more fun b hb => ⟨hb.1, by simp; omega⟩
        have hend := Lib.hid (Hfp.out.pushOut (by simp; omega) Hk6.out hx6 Hp7.out)
        have hbel := Lib.hid (Hfp.out.belowOut (w6 := w5.alloc (.cells #[.slice VA way.length VC] 22)) (j := 4) (u := .slice (some ⟨g7, 0, none⟩) (outs.length + 1) cap7) Hos5.out hbs (by simp; omega) Hk6.out Hp7.out)
        clear hx6 k04 k14 k03 k13 k54 k64
        go_wp2
        refine bodyPost_ret (results_none rfl _ _ _) rfl ?_
        exact ⟨rfl, hbel.out, by rw [Hways.out]; simpa using hend.out⟩
    · have hwj := Lib.hid (waysF_ne (cs := t.cos) (n := n) hkg)
      have htest : (k == goal) = false := by simpa using hkg
      have hon2 : outs.length + (waysJ t.cos n k goal t.cos.length).length ≤ 1000000 := by rw [← hwj.out]; exact hon
      have hfs0 := Lib.hid (show FS (.slice A t.sizes.length cap) (.slice B t.cos.length bap) goal base g way outs w from ⟨wv, ov, xs, S, hfp⟩)
      clear hv hc1 hfp ih hwf hkg hon Hfp c0 c3 c4 f3 f4
      go_enter Tryz.func130, Tryz.ntmps130
      go_wp2
      go_loopw [33] (fun i wr => ∃ j : Nat, j ≤ t.cos.length ∧ i = .int .i64 j ∧ Hid (Below base w wr) ∧ Hid (FS (.slice A t.sizes.length cap) (.slice B t.cos.length bap) goal base g way (outs ++ (waysJ t.cos n k goal j).map (way ++ ·)) wr)) (fun i _ => t.cos.length - (intOf i).toNat)
      case atStart => exact ⟨0, Nat.zero_le _, rfl, Below.refl _ _, by show FS _ _ _ _ _ _ _ _; rw [waysJ_zero]; simpa using hfs0.out⟩
      case round =>
        obtain ⟨j, hj, rfl, hb, hfs⟩ := hrel
        have hbsz := hb.out.size
        by_cases hlt : j < t.cos.length
        · obtain ⟨b, off, A2, cap2, rfl, hlo, hhi, d0, d1, d2, h5, h6, hsI, hdI, hz2'⟩ := (Hc1.out.below hb.out hB).at_ hlt
          clear hz2' hsI hdI
          by_cases hq : t.cos[j].src = k
          · have hh := Lib.hid (waysJ_hit (n := n) (goal := goal) hlt hq)
            have hco := coOk_of (tyOk_co hok hlt)
            have hdst : 0 ≤ t.cos[j].dst ∧ t.cos[j].dst < t.sizes.length ∧ t.sizes.length ≤ t.cos[j].dst.toNat + n := by omega
            have hmono := waysJ_mono t.cos n k goal (show j + 1 ≤ t.cos.length from hlt)
            have hlen3 : (outs ++ (waysJ t.cos n k goal j).map (way ++ ·)).length + (waysF t.cos n t.cos[j].dst goal).length ≤ 1000000 := by
              have e := congrArg List.length hh.out
              rw [List.length_append, List.length_map] at e
              rw [List.length_append, List.length_map]
              omega
            have htq : (t.cos[j].src != k) = false := by simpa using hq
            obtain ⟨wv2, ov2, xs2, S2, hfp2⟩ := hfs.out
            have p3 := hfp2.row.cell 3
            have pf3 := hfp2.row.frozen 3
            simp only [List.getElem?_cons_zero, List.getElem?_cons_succ] at p3
            have hgr := hfp2.row.lt
            have hfp3 := hfp2.keep (w' := (wr.alloc (.cells #[.int .i64 t.cos[j].src, .int .i64 t.cos[j].dst, .slice A2 t.cos[j].map.length cap2] 185)).alloc (.cells #[.int .i64 j] 3)) (by simp; omega) (fun k _ hk => (Below.heap_alloc _ _ k (by simp; omega)).trans (Below.heap_alloc _ _ k hk))
            have Hfp3 := Lib.hid hfp3
            have Hco := Lib.hid hco
            have Hlen3 := Lib.hid hlen3
            have Hwl := Lib.hid (owns_lt hfp2.fway)
            have Hdst := Lib.hid hdst
            clear hfp2 hfp3 hco hq hlen3 hmono hdst
            go_wp2_with (at_builtin; refine wpList_push rfl (.tmp 46) (.tmp 48) 22 rfl i0 (.int .i64 0) 8 Tryz.underlying22 hi0 hz0 hz1 hz2 rfl rfl Hfp3.out.fway ⟨wr.heap.size + 1, 0, none⟩ 1 (.int .i64 j) rfl (by simp [go_sem]) rfl (by unfold maxLen; omega) (by omega) (by simp; omega) ?_)
            intro v5 w5 hp5
            obtain ⟨g5, cap5, rfl⟩ := hp5.form
            have r5 := Hfp3.out.row.keep (hp5.grown.block g (by simp; omega) (fun e => Hfp3.out.ne1 e.symm))
            have e3 : w5.cell? ⟨g, 3, none⟩ = some wv2 := r5.cell 3
            have ef3 : w5.frozen? ⟨g, 3, none⟩ = false := r5.frozen 3
            have hs5 : wr.heap.size + 2 ≤ w5.heap.size := by have := hp5.grown.size; simpa using this
            have hf5 := Hfp3.out.pushWay hp5
            have e1 : w5.cell? ⟨wr.heap.size, 1, none⟩ = some (.int .i64 t.cos[j].dst) := (hp5.grown.cell_far ⟨wr.heap.size, 1, none⟩ (by simp; omega) (fun e => by have := (Hwl.out _ e.symm).2; dsimp only at this; omega)).trans (by simp [go_sem])
            have hb6 := (((hb.out.alloc (by omega) (.cells #[.int .i64 t.cos[j].src, .int .i64 t.cos[j].dst, .slice A2 t.cos[j].map.length cap2] 185)).alloc (by simp; omega) (.cells #[.int .i64 j] 3)).grown hp5.grown (by simp; omega) (fun k hk => (owns_lt Hfp3.out.fway k hk).1)).setCell (p := ⟨g, 3, none⟩) hgb (.slice (some ⟨g5, 0, none⟩) (way.length + 1) cap5)
            have e1' : (w5.setCell ⟨g, 3, none⟩ (.slice (some ⟨g5, 0, none⟩) (way.length + 1) cap5)).cell? ⟨wr.heap.size, 1, none⟩ = some (.int .i64 t.cos[j].dst) := (World.cell?_of_block (w := w5) (heap_set_ne _ _ _ _ _ (by dsimp only; omega))).trans e1
            have hs6 : (w5.setCell ⟨g, 3, none⟩ (.slice (some ⟨g5, 0, none⟩) (way.length + 1) cap5)).heap.size = w5.heap.size := by simp [World.setCell]
            have Hb6 := Lib.hid hb6
            have Hf5 := Lib.hid hf5
            clear hp5 r5 hf5 hb6
            go_wp2_with fail
            refine (Ih.out t.cos[j].dst (way ++ [(j : Int)]) _ _ (Hv.out.below Hb6.out hB) (by rw [hs6]; omega) Hdst.out.1 Hdst.out.2.1 Hdst.out.2.2 (by rw [List.length_append, List.length_singleton]; omega) (fun z hz => by
              rcases List.mem_append.1 hz with h | h
              · exact Hwf.out z h
              · simp at h; subst h; unfold I64; omega) Hlen3.out ⟨_, _, _, _, Hf5.out⟩).mono ?_
            rintro e w7 ⟨rfl, hb7, hfs7⟩
            have Hb7 := Lib.hid (Hb6.out.trans hb7)
            obtain ⟨wv7, ov7, xs7, S7, hfp7⟩ := hfs7
            obtain ⟨g7, cap7, rfl⟩ : ∃ g7 cap7, wv7 = .slice (some ⟨g7, 0, none⟩) (way.length + 1) cap7 := by
              obtain ⟨_, ⟨_, h0⟩ | ⟨g7, cap7, _, e, _⟩⟩ := hfp7.fway
              · rw [List.length_append, List.length_singleton] at h0; omega
              · rw [List.length_append, List.length_singleton] at e; exact ⟨g7, cap7, e⟩
            have hc7 : way.length + 1 ≤ cap7 := by
              obtain ⟨_, ⟨h0, _⟩ | ⟨g8, cap8, _, e, _, _, h1, _⟩⟩ := hfp7.fway
              · cases h0
              · rw [List.length_append, List.length_singleton] at e h1
                simp only [Value.slice.injEq] at e
                omega
            have z3 : w7.cell? ⟨g, 3, none⟩ = some (.slice (some ⟨g7, 0, none⟩) (way.length + 1) cap7) := hfp7.row.cell 3
            have zf3 : w7.frozen? ⟨g, 3, none⟩ = false := hfp7.row.frozen 3
            have hpop := Lib.hid (FP.pop hfp7)
            clear hb7 hfp7 e1 e1' e3 ef3 p3 pf3 d0 d1 d2
            go_upto_region 8 with fail
            go_region
            have hlist : (outs ++ (waysJ t.cos n k goal j).map (way ++ ·)) ++ (waysF t.cos n t.cos[j].dst goal).map ((way ++ [(j : Int)]) ++ ·) = outs ++ (waysJ t.cos n k goal (j + 1)).map (way ++ ·) := by
              rw [hh.out]
              simp [List.map_append, List.append_assoc, Function.comp_def]
            have hfin := hpop.out
            rw [hlist] at hfin
            have Hfin := Lib.hid hfin
            clear hfin hlist
            go_wp2
            go_roundw
            case rel => exact ⟨j + 1, by omega, by go_num, (Hb7.out.setCell hgb _).drew, Hfin.out.keep (Nat.le_refl _) (fun _ _ _ => rfl)⟩
            case measure => simp [intOf]; omega
          · have hh := Lib.hid (waysJ_miss (n := n) (goal := goal) hlt hq)
            have htq : (t.cos[j].src != k) = true := by simpa using hq
            clear hq
            go_wp2
            go_roundw
            case rel => exact ⟨j + 1, by omega, by go_num, hb.out.alloc (by omega) _, by
              show FS _ _ _ _ _ _ _ _
              rw [hh.out]
              exact hfs.out.keep (by simp) (fun k _ hk => Below.heap_alloc _ _ k hk)⟩
            case measure => simp [intOf]; omega
        · obtain rfl : j = t.cos.length := by omega
          go_wp2
          go_end0
          exact ⟨rfl, hb.out, by rw [hwj.out]; exact hfs.out⟩
end Go.Proofs.YtnmbjmocnafekaaGreatDoor

namespace Go.Proofs.YtnmbjmocnafekaaGreatDoor
open Go.RowKit

theorem endV_of {cs : List Co} {t : Ty} {k : Int} {zs : List Int} {o : Option Int} (hc : t.cos = cs) (h : wayEnd cs k zs = o) : endV t k zs = o.getD (-1) := by
  subst hc
  unfold endV
  rw [h]

theorem hasV_of {t : Ty} {k v : Int} (h : hasV t k v = true) : tyOk t = true ∧ ValOf t.sizes k v := by
  unfold hasV at h
  rw [Bool.and_eq_true] at h
  exact ⟨h.1, valOf_hasV0.1 h.2⟩
theorem goWayV_yes {t : Ty} {k v : Int} {zs : List Int} (h : hasV t k v = true) (h2 : (wayEnd t.cos k zs).isSome = true) : goWayV t k zs v = goV t.cos v zs := by unfold goWayV; rw [if_pos ⟨h, h2⟩]
theorem goWayV_no {t : Ty} {k v : Int} {zs : List Int} (h : ¬ (hasV t k v = true ∧ (wayEnd t.cos k zs).isSome = true)) : goWayV t k zs v = -1 := by unfold goWayV; rw [if_neg h]

end Go.Proofs.YtnmbjmocnafekaaGreatDoor

namespace Go.Proofs.YtnmbjmocnafekaaGreatDoor
open Go.RowKit

theorem findOk_one {t : Ty} {k : Int} : findOk t [k] = (tyOk t && ixB k t.sizes.length) := by simp [findOk]
/-- One number in new memory. -/
theorem ints_one (w : World) (z : Int) (hz : I64 z) (t : TypeId) : IntsAt (w.alloc (.cells #[.int .i64 z] t)) w.heap.size (w.heap.size + 1) (.slice (some ⟨w.heap.size, 0, none⟩) 1 1) [z] :=
  (show Row (w.alloc (.cells #[.int .i64 z] t)) w.heap.size t ([z].map (Value.int .i64)) from Row.new w t [.int .i64 z]).ints (fun x hx => by simp at hx; subst hx; exact hz) (Nat.le_refl _) (by omega) (Nat.le_refl _) (by unfold maxLen; simp)

end Go.Proofs.YtnmbjmocnafekaaGreatDoor

namespace Go.Proofs.YtnmbjmocnafekaaGreatDoor
open Go.RowKit

/-- The indices, below j, of the coercions that begin with a type. -/
def cfr (cs : List Co) (k : Int) (j : Nat) : List Int := ((List.range j).filter fun i => decide ((cs.getD i default).src = k)).map fun i : Nat => (i : Int)
theorem cfr_zero (cs : List Co) (k : Int) : cfr cs k 0 = [] := rfl
theorem cfr_hit {cs : List Co} {k : Int} {j : Nat} (hj : j < cs.length) (h : cs[j].src = k) : cfr cs k (j + 1) = cfr cs k j ++ [(j : Int)] := by
  unfold cfr
  rw [List.range_succ, List.filter_append, List.map_append]
  have e : (cs[j]?.getD default).src = k := by rw [List.getElem?_eq_getElem hj]; exact h
  simp [e]
theorem cfr_miss {cs : List Co} {k : Int} {j : Nat} (hj : j < cs.length) (h : ¬ cs[j].src = k) : cfr cs k (j + 1) = cfr cs k j := by
  unfold cfr
  rw [List.range_succ, List.filter_append, List.map_append]
  have e : ¬ (cs[j]?.getD default).src = k := by rw [List.getElem?_eq_getElem hj]; exact h
  simp [e]
theorem cfr_le (cs : List Co) (k : Int) (j : Nat) : (cfr cs k j).length ≤ j := by
  unfold cfr
  rw [List.length_map]
  have := List.length_filter_le (fun i => decide ((cs.getD i default).src = k)) (List.range j)
  simpa using this
theorem cfr_wf (cs : List Co) (k : Int) (j : Nat) (hj : j ≤ 1048576) : ∀ z ∈ cfr cs k j, I64 z := by
  intro z hz
  unfold cfr at hz
  obtain ⟨i, hi, rfl⟩ := List.mem_map.1 hz
  have := List.mem_range.1 (List.mem_filter.1 hi).1
  unfold I64
  omega
def cFrom (t : Ty) (k : Int) : List Int := if tyOk t = true then cfr t.cos k t.cos.length else []

def accF (t : Ty) (q : Int) (j : Nat) : List Int := if tyOk t = true then cfr t.cos q j else []
theorem accF_le (t : Ty) (q : Int) (j : Nat) : (accF t q j).length ≤ j := by
  unfold accF
  split
  · exact cfr_le _ _ _
  · simp
theorem ownsRow_cast {w : World} {base : Nat} {t : TypeId} {v : Value} {n n' : Nat} {xs xs' : List Value} (h : w.ownsRow base t 1 v n xs) (hn : n = n') (hx : xs = xs') : w.ownsRow base t 1 v n' xs' := by subst hn; subst hx; exact h

theorem ownsRow_base {w : World} {base base' : Nat} {t : TypeId} {v : Value} {n : Nat} {xs : List Value} (h : w.ownsRow base t 1 v n xs) (hb : base' ≤ base) : w.ownsRow base' t 1 v n xs := by
  obtain ⟨h1, h2 | ⟨g, cap, cur, e, hg, r⟩⟩ := h
  · exact ⟨h1, .inl h2⟩
  · exact ⟨h1, .inr ⟨g, cap, cur, e, by omega, r⟩⟩
theorem ownsRow_below {w w' : World} {base B : Nat} {t : TypeId} {v : Value} {n : Nat} {xs : List Value} (h : w.ownsRow base t 1 v n xs) (hb : Below B w w') (hB : w.heap.size ≤ B) : w'.ownsRow base t 1 v n xs := by
  obtain ⟨h1, h2 | ⟨g, cap, cur, e, hg, hh, r⟩⟩ := h
  · exact ⟨h1, .inl h2⟩
  · have hlt : g < w.heap.size := by
      rcases Nat.lt_or_ge g w.heap.size with hlt | hge
      · exact hlt
      · rw [Array.getElem?_eq_none hge] at hh; cases hh
    exact ⟨h1, .inr ⟨g, cap, cur, e, hg, (hb.block g (by omega)).trans hh, r⟩⟩
end Go.Proofs.YtnmbjmocnafekaaGreatDoor

namespace Go.Proofs.YtnmbjmocnafekaaGreatDoor
open Go.RowKit

/-- What a row of coercions makes of the first n values. -/
def mapL (cs : List Co) (zs : List Int) (n : Nat) : List Int := (List.range n).map fun v : Nat => goV cs (v : Int) zs
theorem mapL_zero (cs : List Co) (zs : List Int) : mapL cs zs 0 = [] := rfl
theorem mapL_succ (cs : List Co) (zs : List Int) (n : Nat) : mapL cs zs (n + 1) = mapL cs zs n ++ [goV cs (n : Int) zs] := by
  unfold mapL
  rw [List.range_succ, List.map_append]
  rfl
theorem mapL_len (cs : List Co) (zs : List Int) (n : Nat) : (mapL cs zs n).length = n := by simp [mapL]
/-- Is there such a way in valid types? -/
def wayB (t : Ty) (k : Int) (zs : List Int) : Bool := tyOk t && ixB k t.sizes.length && (wayEnd t.cos k zs).isSome
def wayMapV (t : Ty) (k : Int) (zs : List Int) : List Int := if wayB t k zs = true then mapL t.cos zs (t.sizes.getD k.toNat 0).toNat else []
theorem wayB_of {t : Ty} {k : Int} {zs : List Int} (h : wayB t k zs = true) : tyOk t = true ∧ ixB k t.sizes.length = true ∧ (wayEnd t.cos k zs).isSome = true := by
  unfold wayB at h
  simp only [Bool.and_eq_true] at h
  exact ⟨h.1.1, h.1.2, h.2⟩
theorem wayMapV_yes {t : Ty} {k : Int} {zs : List Int} (h : wayB t k zs = true) : wayMapV t k zs = mapL t.cos zs (t.sizes.getD k.toNat 0).toNat := by unfold wayMapV; rw [if_pos h]
theorem wayMapV_no {t : Ty} {k : Int} {zs : List Int} (h : wayB t k zs = false) : wayMapV t k zs = [] := by unfold wayMapV; rw [if_neg (by simp [h])]
/-- How many values a type of valid types has. -/
theorem size_of {t : Ty} {k : Int} (hty : tyOk t = true) (hk : ixB k t.sizes.length = true) : 0 ≤ k ∧ k < t.sizes.length ∧ ∃ (hn : k.toNat < t.sizes.length) (n : Nat), t.sizes[k.toNat] = (n : Int) ∧ n ≤ 4 ∧ t.sizes.getD k.toNat 0 = (n : Int) := by
  simp only [ixB, decide_eq_true_eq] at hk
  have hn : k.toNat < t.sizes.length := by omega
  have h := (sizesOk_of (tyOk_sizes hty)).2.2 _ hn
  refine ⟨hk.1, hk.2, hn, t.sizes[k.toNat].toNat, by omega, by omega, ?_⟩
  rw [List.getD_eq_getElem?_getD, List.getElem?_eq_getElem hn]
  simp only [Option.getD_some]
  omega
theorem goV_val {t : Ty} (h : tyOk t = true) : ∀ (zs : List Int) (k v : Int), ValOf t.sizes k v → (wayEnd t.cos k zs).isSome = true → ∃ q, ValOf t.sizes q (goV t.cos v zs) := by
  intro zs
  induction zs with
  | nil => intro k v hv _; exact ⟨k, hv⟩
  | cons i is ih =>
    intro k v hv hw
    obtain ⟨h0, h1, hi, hs, hw2⟩ := wayEnd_some (zs := i :: is) (j := 0) (by simp) hw
    simp only [List.getElem_cons_zero, List.drop_succ_cons, List.drop_zero] at h0 h1 hi hs hw2
    have := valOf_step h hi (by rw [hs]; exact hv)
    obtain ⟨_, _, _, _, _, hv2⟩ := this
    rw [goV, getD_at hi]
    exact ih _ _ hv2 hw2
theorem valOf_I64 {t : Ty} (h : tyOk t = true) {q v : Int} (hv : ValOf t.sizes q v) : I64 v := by
  obtain ⟨h1, h2, h3, h4⟩ := hv
  have hn : q.toNat < t.sizes.length := by omega
  have := (sizesOk_of (tyOk_sizes h)).2.2 _ hn
  rw [List.getD_eq_getElem?_getD, List.getElem?_eq_getElem hn] at h4
  simp only [Option.getD_some] at h4
  unfold I64
  omega
theorem wayMapV_wf (t : Ty) (k : Int) (zs : List Int) : ∀ z ∈ wayMapV t k zs, I64 z := by
  intro z hz
  by_cases h : wayB t k zs = true
  · rw [wayMapV_yes h] at hz
    obtain ⟨h1, h2, h3⟩ := wayB_of h
    obtain ⟨g1, g2, hn, n, e, _, e2⟩ := size_of h1 h2
    unfold mapL at hz
    obtain ⟨v, hv, rfl⟩ := List.mem_map.1 hz
    have hv := List.mem_range.1 hv
    rw [e2] at hv
    obtain ⟨q, hq⟩ := goV_val h1 zs k v ⟨g1, g2, by omega, by rw [e2]; omega⟩ h3
    exact valOf_I64 h1 hq
  · rw [wayMapV_no (by simpa using h)] at hz
    exact absurd hz (by simp)
theorem wayMapV_le (t : Ty) (k : Int) (zs : List Int) : (wayMapV t k zs).length ≤ 4 := by
  by_cases h : wayB t k zs = true
  · obtain ⟨h1, h2, h3⟩ := wayB_of h
    obtain ⟨g1, g2, hn, n, e, hn4, e2⟩ := size_of h1 h2
    rw [wayMapV_yes h, mapL_len, e2]
    omega
  · rw [wayMapV_no (by simpa using h)]; simp

/-- Are the types valid, and are a and b types of theirs? -/
def typesB (t : Ty) (a b : Int) : Bool := tyOk t && ixB a t.sizes.length && ixB b t.sizes.length

end Go.Proofs.YtnmbjmocnafekaaGreatDoor

namespace Go.Proofs.YtnmbjmocnafekaaGreatDoor
open Go.RowKit

/-- A slice of slices in new memory that reads as lists of numbers. -/
def WaysAt (w : World) (base : Nat) (ov : Value) (zss : List (List Int)) : Prop :=
  ∃ (xs : List Value) (S : Nat → Prop), w.ownsRow base 22 1 ov zss.length xs ∧ (∀ i, ∀ (h : i < zss.length), ∃ x, xs[i]? = some x ∧ IntsIn w S x zss[i]) ∧ ∀ b, S b → base ≤ b ∧ b < w.heap.size ∧ some b ≠ ov.ownBlock
theorem typesB_of {t : Ty} {a b : Int} (h : typesB t a b = true) : tyOk t = true ∧ 0 ≤ a ∧ a < t.sizes.length ∧ 0 ≤ b ∧ b < t.sizes.length := by
  simp only [typesB, ixB, Bool.and_eq_true, decide_eq_true_eq] at h
  exact ⟨h.1.1, h.1.2.1, h.1.2.2, h.2.1, h.2.2⟩
theorem typesB_len {t : Ty} (h : tyOk t = true) : t.sizes.length ≤ 5 := (sizesOk_of (tyOk_sizes h)).2.1

set_option maxRecDepth 100000 in
set_option maxHeartbeats 1000000 in
theorem l2Ways_any (lo hi : Nat) (sv cv : Value) (t : Ty) (a b : Int) (w : World) (hv : TyAt w lo hi sv cv t) (hB : hi ≤ w.heap.size) (htb : typesB t a b = true) :
    Calls Tryz.prog 88 #[.agg #[sv, cv], .int .i64 a, .int .i64 b] w fun e w' => ∃ ov, e = .returned ov ∧ Below w.heap.size w w' ∧ WaysAt w' w.heap.size ov (waysOf t a b) := by
  obtain ⟨A, cap, rfl, hl1, hm1, _⟩ := hv.1.form
  obtain ⟨B, bap, rfl, hl2, hm2, _⟩ := hv.2.form
  obtain ⟨hok, ha0, ha1, hb0, hb1⟩ := typesB_of htb
  have h5 := typesB_len hok
  have hwl := waysOf_len hok a b
  have hbel : Below w.heap.size w (((w.alloc (.cells #[.slice A t.sizes.length cap, .slice B t.cos.length bap] 33)).alloc (.cells #[] 22)).alloc (.cells #[.slice A t.sizes.length cap, .slice B t.cos.length bap, .int .i64 b, .slice none 0 0, .slice (some ⟨w.heap.size + 1, 0, none⟩) 0 0] 225)) := by go_grown
  have Hbel := Lib.hid hbel
  have Hv := Lib.hid (hv.below hbel hB)
  have hfp : FP (.slice A t.sizes.length cap) (.slice B t.cos.length bap) b w.heap.size (w.heap.size + 2) [] [] (((w.alloc (.cells #[.slice A t.sizes.length cap, .slice B t.cos.length bap] 33)).alloc (.cells #[] 22)).alloc (.cells #[.slice A t.sizes.length cap, .slice B t.cos.length bap, .int .i64 b, .slice none 0 0, .slice (some ⟨w.heap.size + 1, 0, none⟩) 0 0] 225)) (.slice none 0 0) (.slice (some ⟨w.heap.size + 1, 0, none⟩) 0 0) [] (fun _ => False) := by
    refine ⟨?_, by omega, World.ownsRow_nil _ _ _ _, ?_, fun i hi => absurd hi (by simp), fun b hb => hb.elim⟩
    · have := Row.new ((w.alloc (.cells #[.slice A t.sizes.length cap, .slice B t.cos.length bap] 33)).alloc (.cells #[] 22)) 225 [.slice A t.sizes.length cap, .slice B t.cos.length bap, .int .i64 b, .slice none 0 0, .slice (some ⟨w.heap.size + 1, 0, none⟩) 0 0]
      rw [World.size_alloc, World.size_alloc] at this
      exact this
    · have := World.ownsRow_lit (base := w.heap.size) (e := 22) (size := 1) (w.alloc (.cells #[.slice A t.sizes.length cap, .slice B t.cos.length bap] 33)) #[] 0 (by simp) (by unfold maxLen; omega) rfl
      rw [World.size_alloc] at this
      exact ownsRow_keep1 this fun g hg => Below.heap_alloc _ _ g (by simp only [Value.ownBlock, Option.some.injEq] at hg; simp; omega)
  have Hfp := Lib.hid hfp
  clear hv hfp hbel htb
  go_enter Tryz.func88, Tryz.ntmps88
  go_wp2_with fail
  refine (from_any lo hi _ _ t b w.heap.size (w.heap.size + 2) hok hB 5 a [] [] _ Hv.out (by simp; omega) ha0 ha1 (by omega) (by simp) (by simp) (by have : (waysF t.cos 5 a b).length ≤ 32768 := hwl; simp; omega) ⟨_, _, _, _, Hfp.out⟩).mono ?_
  rintro e w1 ⟨rfl, hb1, hfs1⟩
  obtain ⟨wv, ov, xs, S, h1⟩ := hfs1
  have c4 : w1.cell? ⟨w.heap.size + 2, 4, none⟩ = some ov := h1.row.cell 4
  have Hb1 := Lib.hid (Hbel.out.trans hb1)
  have H1 := Lib.hid h1
  clear hb1 h1
  go_wp2
  go_ret
  have e : ([] : List (List Int)) ++ (waysF t.cos 5 a b).map (([] : List Int) ++ ·) = waysOf t a b := by
    simp only [List.nil_append]
    exact List.map_id' _
  have h2 := H1.out
  rw [e] at h2
  exact ⟨_, rfl, Hb1.out, xs, S, h2.fouts, h2.ints, fun b hb => ⟨(h2.set b hb).1, (h2.set b hb).2.1, (h2.set b hb).2.2.2.2⟩⟩

/-- Is there a way? -/
def canB (t : Ty) (a b : Int) : Bool := decide (0 < (waysOf t a b).length)
def canC (t : Ty) (a b : Int) : Bool := typesB t a b && canB t a b

end Go.Proofs.YtnmbjmocnafekaaGreatDoor

namespace Go.Proofs.YtnmbjmocnafekaaGreatDoor
open Go.RowKit
attribute [local go_sem] Oper.semAt_some

set_option maxRecDepth 100000 in
set_option maxHeartbeats 1000000 in
theorem ways_any (g : Nat) (a b : Int) (w : World) :
    Calls Tryz.prog 135 #[.pointer (some ⟨g, 0, none⟩), .int .i64 a, .int .i64 b] w fun e w' => e = .returned (.func (.func 158) #[] #[.pointer (some ⟨w.heap.size, 0, none⟩), .pointer (some ⟨w.heap.size + 1, 0, none⟩), .pointer (some ⟨w.heap.size + 2, 0, none⟩)]) ∧
      ((w.alloc (.cells #[.pointer (some ⟨g, 0, none⟩)] 96)).alloc (.cells #[.int .i64 a] 3)).alloc (.cells #[.int .i64 b] 3) = w' := by
  have hmf : ∀ (fn : Fn) (first cap : Array Value) (w : World), (Instr.makeFunc fn first cap).run Tryz.prog w = .ok (.func fn first cap) w := fun _ _ _ _ => rfl
  go_enter Tryz.func135, Tryz.ntmps135
  go_wp2
  go_ret
  exact ⟨rfl, rfl⟩

set_option maxRecDepth 100000 in
set_option maxHeartbeats 1000000 in
theorem waysIter_any (l g p3 p4 p5 : Nat) (T : Nat → Prop) (J Jx : List (List Int) → (Nat → Prop) → World → Prop) (t : Ty) (a b : Int) (hC : Client l T (fun z => z ∈ waysOf t a b) J Jx) (lo hi : Nat) (sv cv : Value) (w : World) (htb : typesB t a b = true) (hg : T g) (hTy : ∀ k, lo ≤ k → k < hi → T k) (hT : ∀ k, T k → k < w.heap.size)
    (hrow : Row w g 159 [sv, cv]) (hv : TyAt w lo hi sv cv t) (c3 : w.cell? ⟨p3, 0, none⟩ = some (.pointer (some ⟨g, 0, none⟩))) (c4 : w.cell? ⟨p4, 0, none⟩ = some (.int .i64 a)) (c5 : w.cell? ⟨p5, 0, none⟩ = some (.int .i64 b)) (hJ : J [] (fun _ => False) w) :
    Calls Tryz.prog 158 #[.func (.yield l) #[] #[], .pointer (some ⟨p3, 0, none⟩), .pointer (some ⟨p4, 0, none⟩), .pointer (some ⟨p5, 0, none⟩)] w fun e W' =>
      (∃ v, e = .returned v) ∧ ((∃ O', J (waysOf t a b) O' W') ∨ (0 < (waysOf t a b).length ∧ ∃ s' O', Jx s' O' W')) := by
  obtain ⟨hok, ha0, ha1, hb0, hb1⟩ := typesB_of htb
  have h5 := typesB_len hok
  have hwl : (waysF t.cos 5 a b).length ≤ 32768 := waysOf_len hok a b
  have hgo := goOn_any l w.heap.size g T _ J Jx hC lo hi sv cv t b hok hg hTy 5 a [] (.slice none 0 0) [] (fun _ => False) w (fun y hy => hy) hJ (World.ownsRow_nil _ _ _ _) (fun _ h => h.elim) (fun b h => by simp [Value.ownBlock] at h) hT (fun _ _ h => h) (fun z h => absurd h (by simp)) (by simp) hrow hv ha0 ha1 (by omega) (by simp; omega) (Nat.le_refl _)
  have Hgo := Lib.hid hgo
  clear hC hTy hT hrow hv hJ hgo htb hg
  go_enter Tryz.func158, Tryz.ntmps158
  go_wp2_with fail
  refine Hgo.out.mono ?_
  rintro e w7 ⟨bv, rfl, h⟩
  have hfin : (∃ O', J (waysOf t a b) O' w7) ∨ (0 < (waysOf t a b).length ∧ ∃ s' O', Jx s' O' w7) := by
    rcases h with ⟨_, O', _, _, h3, _⟩ | ⟨_, h1, s', O', h2⟩
    · refine .inl ⟨O', ?_⟩
      have e : ([] : List (List Int)) ++ (waysF t.cos 5 a b).map (([] : List Int) ++ ·) = waysOf t a b := by
        simp only [List.nil_append]
        exact List.map_id' _
      rw [← e]
      exact h3
    · exact .inr ⟨h1, s', O', h2⟩
  have Hfin := Lib.hid hfin
  clear h hfin Hgo
  go_wp2
  go_end0
  exact ⟨⟨_, rfl⟩, Hfin.out⟩

end Go.Proofs.YtnmbjmocnafekaaGreatDoor

namespace Go.Proofs.YtnmbjmocnafekaaGreatDoor
open Go.RowKit

/-- A name that a function can have. -/
def NameOk (s : ByteArray) : Prop := ∃ b : UInt8, s = ⟨#[b]⟩ ∧ 102 ≤ b.toNat ∧ b.toNat ≤ 107

/-- How many results a function with some types of arguments has: over the first k arguments. -/
def cellsTo (ss args : List Int) : Nat → Int
  | 0 => 1
  | k + 1 => cellsTo ss args k * ss.getD (args.getD k 0).toNat 0
def cellsI (ss args : List Int) : Int := cellsTo ss args args.length

/-- A function fits some sizes. -/
structure FuOk (ss : List Int) (f : Fu) : Prop where
  name : NameOk f.name
  few : f.args.length ≤ 2
  args : ∀ j, ∀ (hj : j < f.args.length), 0 ≤ f.args[j] ∧ f.args[j] < ss.length
  res : 0 ≤ f.res ∧ f.res < ss.length
  len : (f.table.length : Int) = cellsI ss f.args
  table : ∀ j, ∀ (hj : j < f.table.length), 0 ≤ f.table[j] ∧ f.table[j] < ss.getD f.res.toNat 0

/-- No two functions have the same name and the same types of arguments. -/
def Differ (fs : List Fu) : Prop := ∀ i k : Nat, i < fs.length → k < i → ¬ ((fs.getD i default).name = (fs.getD k default).name ∧ (fs.getD i default).args = (fs.getD k default).args)

structure SyOk (y : Sy) : Prop where
  ty : tyOk y.ty = true
  few : y.fs.length ≤ 8
  each : ∀ i, ∀ (hi : i < y.fs.length), FuOk y.ty.sizes y.fs[i]
  differ : Differ y.fs

open Classical in
noncomputable def fuB (ss : List Int) (f : Fu) : Bool := decide (FuOk ss f)
open Classical in
noncomputable def syB (y : Sy) : Bool := decide (SyOk y)
theorem fuB_yes {ss : List Int} {f : Fu} (h : FuOk ss f) : fuB ss f = true := by unfold fuB; exact @decide_eq_true _ (Classical.propDecidable _) h
theorem fuB_no {ss : List Int} {f : Fu} (h : ¬ FuOk ss f) : fuB ss f = false := by unfold fuB; exact @decide_eq_false _ (Classical.propDecidable _) h
theorem fuB_iff {ss : List Int} {f : Fu} : fuB ss f = true ↔ FuOk ss f := by unfold fuB; exact @decide_eq_true_iff _ (Classical.propDecidable _)
theorem syB_yes {y : Sy} (h : SyOk y) : syB y = true := by unfold syB; exact @decide_eq_true _ (Classical.propDecidable _) h
theorem syB_no {y : Sy} (h : ¬ SyOk y) : syB y = false := by unfold syB; exact @decide_eq_false _ (Classical.propDecidable _) h
theorem syB_iff {y : Sy} : syB y = true ↔ SyOk y := by unfold syB; exact @decide_eq_true_iff _ (Classical.propDecidable _)

/-- With valid sizes and two arguments at most, the product is small. -/
theorem cellsTo_small {ss args : List Int} (hok : sizesOk ss = true) (ha : ∀ j, ∀ (hj : j < args.length), 0 ≤ args[j] ∧ args[j] < ss.length) (hf : args.length ≤ 2) : ∀ k, k ≤ args.length → 1 ≤ cellsTo ss args k ∧ cellsTo ss args k ≤ 16 := by
  obtain ⟨_, _, hall⟩ := sizesOk_of hok
  have one : ∀ k, k < args.length → 1 ≤ ss.getD (args.getD k 0).toNat 0 ∧ ss.getD (args.getD k 0).toNat 0 ≤ 4 := fun k hk => by
    obtain ⟨h0, h1⟩ := ha k hk
    have e : args.getD k 0 = args[k] := by rw [List.getD_eq_getElem?_getD, List.getElem?_eq_getElem hk]; rfl
    have hlt : args[k].toNat < ss.length := by omega
    rw [e, List.getD_eq_getElem?_getD, List.getElem?_eq_getElem hlt]
    exact hall _ hlt
  intro k hk
  match k, hk with
  | 0, _ => exact ⟨by show (1 : Int) ≤ 1; omega, by show (1 : Int) ≤ 16; omega⟩
  | 1, hk =>
    have := one 0 (by omega)
    show 1 ≤ 1 * ss.getD (args.getD 0 0).toNat 0 ∧ 1 * ss.getD (args.getD 0 0).toNat 0 ≤ 16
    rw [Int.one_mul]
    omega
  | 2, hk =>
    have h0 := one 0 (by omega)
    have h1 := one 1 (by omega)
    show 1 ≤ 1 * ss.getD (args.getD 0 0).toNat 0 * ss.getD (args.getD 1 0).toNat 0 ∧ 1 * ss.getD (args.getD 0 0).toNat 0 * ss.getD (args.getD 1 0).toNat 0 ≤ 16
    rw [Int.one_mul]
    generalize ss.getD (args.getD 0 0).toNat 0 = p at *
    generalize ss.getD (args.getD 1 0).toNat 0 = q at *
    have hp : p = 1 ∨ p = 2 ∨ p = 3 ∨ p = 4 := by omega
    rcases hp with rfl | rfl | rfl | rfl <;> omega
  | k + 3, hk => omega
end Go.Proofs.YtnmbjmocnafekaaGreatDoor

