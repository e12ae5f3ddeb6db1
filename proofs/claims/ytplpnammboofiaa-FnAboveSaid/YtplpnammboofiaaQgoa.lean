/-
  The contract of the program's goOn, for all types.
-/
import Derived.Test.YtplpnammboofiaaJ9
import Derived.BigQuiet
namespace Go.Proofs.Ytplpnammboofiaa
open Go.RowKit

/-- The iterator on its way: the ways of 'done' have come behind s. -/
def Going (J : List (List Int) → (Nat → Prop) → World → Prop) (T : Nat → Prop) (base : Nat) (rowv : Value) (pre : List Int) (s : List (List Int)) (O : Nat → Prop) (done : List (List Int)) (w wr : World) : Prop :=
  ∃ Or : Nat → Prop, (∀ b, O b → Or b) ∧ (∀ b, Or b → (O b ∨ w.heap.size ≤ b) ∧ b < wr.heap.size) ∧ J (s ++ done.map (pre ++ ·)) Or wr ∧ HoldsOn (fun b => (O b ∧ rowv.ownBlock ≠ some b) ∨ T b) w wr ∧
    wr.ownsRow base 3 1 rowv pre.length (pre.map (Value.int .i64))

section
variable {l base : Nat} {T : Nat → Prop} {Z : List Int → Prop} {J Jx : List (List Int) → (Nat → Prop) → World → Prop} {rowv : Value} {pre : List Int} {s done : List (List Int)} {O : Nat → Prop} {w wr w' : World}
theorem Going.below (hC : Client l T Z J Jx) (h : Going J T base rowv pre s O done w wr) (hb : Below wr.heap.size wr w') : Going J T base rowv pre s O done w w' := by
  obtain ⟨Or, h1, h2, h3, h4, h5⟩ := h
  have hs := hb.size
  have h4s := h4.1
  refine ⟨Or, h1, fun b hb => ⟨(h2 b hb).1, by have := (h2 b hb).2; omega⟩, hC.give _ _ Or _ (hC.step _ Or wr w' none h3 (grown_of_below hb) (fun r e => by cases e)) (fun b hb => .inl hb), ⟨by omega, fun k hk hS => (hb.block k (by omega)).trans (h4.2 k hk hS)⟩, ?_⟩
  exact ownsRow_keep1 h5 fun b hb2 => hb.block b (owns_lt h5 b hb2).2
theorem Going.holds (h : Going J T base rowv pre s O done w wr) : w.heap.size ≤ wr.heap.size ∧ ∀ b, T b → b < w.heap.size → wr.heap[b]? = w.heap[b]? := by
  obtain ⟨Or, h1, h2, h3, h4, h5⟩ := h
  exact ⟨h4.1, fun b hb hl => h4.2 b hl (.inr hb)⟩
theorem Going.own (h : Going J T base rowv pre s O done w wr) : wr.ownsRow base 3 1 rowv pre.length (pre.map (Value.int .i64)) := by
  obtain ⟨Or, h1, h2, h3, h4, h5⟩ := h
  exact h5

/-- What holds behind an append to the row, and how to come back from there. -/
structure Deeper (J : List (List Int) → (Nat → Prop) → World → Prop) (T : Nat → Prop) (base : Nat) (rowv v5 : Value) (pre : List Int) (i : Int) (s : List (List Int)) (O : Nat → Prop) (done : List (List Int)) (w w5 : World) (O5 : Nat → Prop) : Prop where
  j : J (s ++ done.map (pre ++ ·)) O5 w5
  lt : ∀ b, O5 b → b < w5.heap.size
  ro : ∀ b, v5.ownBlock = some b → O5 b
  no : ∀ b, T b → ¬ O5 b
  t : ∀ b, T b → w5.heap[b]? = w.heap[b]?
  size : w.heap.size ≤ w5.heap.size
  back : ∀ (w7 : World) (more : List (List Int)) (O7 : Nat → Prop), (∀ b, O5 b → O7 b) → (∀ b, O7 b → (O5 b ∨ w5.heap.size ≤ b) ∧ b < w7.heap.size) → J ((s ++ done.map (pre ++ ·)) ++ more.map ((pre ++ [i]) ++ ·)) O7 w7 → HoldsOn (fun b => (O5 b ∧ v5.ownBlock ≠ some b) ∨ T b) w5 w7 →
    w7.ownsRow base 3 1 v5 (pre ++ [i]).length ((pre ++ [i]).map (Value.int .i64)) → Going J T base rowv pre s O (done ++ more.map fun z => i :: z) w w7

theorem Going.push {i : Int} {v5 : Value} {wx w5 : World} (hC : Client l T Z J Jx) (h : Going J T base rowv pre s O done w wr) (hT : ∀ b, T b → b < w.heap.size) (hTO : ∀ b, T b → ¬ O b) (hO : ∀ b, O b → b < w.heap.size) (hro : ∀ b, rowv.ownBlock = some b → O b)
    (hbx : Below wr.heap.size wr wx) (hp : Pushed wx w5 base 3 rowv v5 pre.length (pre.map (Value.int .i64)) (.int .i64 i)) : ∃ O5, Deeper J T base rowv v5 pre i s O done w w5 O5 := by
  obtain ⟨Or, h1, h2, h3, h4, h5⟩ := h
  have hsx := hbx.size
  have hs5 := hp.grown.size
  have hsw := h4.1
  have hgr : wr.grownBy w5 rowv.ownBlock := ⟨hp.grown.os.trans hbx.os, hp.grown.tape.trans hbx.tape, hp.grown.output.trans hbx.output, by omega, fun k hk hne => (hp.grown.block k (by omega) hne).trans (hbx.block k hk)⟩
  have hJ5 := hC.step _ Or wr w5 rowv.ownBlock h3 hgr (fun r e => h1 r (hro r e))
  have hv5 : ∀ b, v5.ownBlock = some b → (rowv.ownBlock = some b) ∨ (wx.heap.size ≤ b ∧ b < w5.heap.size) := by
    intro b hb
    rcases hp.at_ with e | ⟨g', e, h6, h7⟩
    · exact .inl (by rw [← e]; exact hb)
    · rw [e] at hb; simp only [Option.some.injEq] at hb; subst hb; exact .inr ⟨h6, h7⟩
  have hlt : ∀ b, (Or b ∨ (wr.heap.size ≤ b ∧ b < w5.heap.size)) → b < w5.heap.size := fun b hb => by
    rcases hb with hb | hb
    · have := (h2 b hb).2; omega
    · exact hb.2
  have hnT : ∀ b, T b → ¬ (Or b ∨ (wr.heap.size ≤ b ∧ b < w5.heap.size)) := fun b hb hor => by
    have := hT b hb
    rcases hor with hor | hor
    · rcases (h2 b hor).1 with h | h
      · exact hTO b hb h
      · omega
    · omega
  refine ⟨_, hJ5, hlt, fun b hb => ?_, hnT, fun b hb => ?_, by omega, fun w7 more O7 g1 g2 g3 g4 g5 => ?_⟩
  · rcases hv5 b hb with h | h
    · exact .inl (h1 b (hro b h))
    · exact .inr ⟨by omega, h.2⟩
  · have := hT b hb
    exact (hgr.block b (by omega) (fun e => hTO b hb (hro b e.symm))).trans (h4.2 b this (.inr hb))
  · refine ⟨O7, fun b hb => g1 b (.inl (h1 b hb)), fun b hb => ⟨?_, (g2 b hb).2⟩, ?_, ⟨by have := g4.1; omega, fun k hk hS => ?_⟩, ?_⟩
    · rcases (g2 b hb).1 with (h | h) | h
      · exact (h2 b h).1
      · exact .inr (by omega)
      · exact .inr (by omega)
    · have e : (s ++ done.map (pre ++ ·)) ++ more.map ((pre ++ [i]) ++ ·) = s ++ (done ++ more.map fun z => i :: z).map (pre ++ ·) := by
        simp [List.map_append, List.append_assoc, Function.comp_def]
      rw [← e]
      exact g3
    · have hk5 : w5.heap[k]? = w.heap[k]? := by
        rcases hS with hS | hS
        · exact (hgr.block k (by omega) (fun e => hS.2 e.symm)).trans (h4.2 k hk (.inl hS))
        · exact (hgr.block k (by omega) (fun e => hTO k hS (hro k e.symm))).trans (h4.2 k hk (.inr hS))
      refine (g4.2 k (by omega) ?_).trans hk5
      rcases hS with hS | hS
      · refine .inl ⟨.inl (h1 k hS.1), fun e => ?_⟩
        rcases hv5 k e with h | h
        · exact hS.2 h
        · omega
      · exact .inr hS
    · rw [List.length_append, List.map_append] at g5
      refine hp.back w7 g5 fun b hb hne => g4.2 b ?_ (.inl ⟨.inl (h1 b (hro b hb)), hne⟩)
      have := hO b (hro b hb)
      omega
end

set_option maxRecDepth 100000 in
set_option maxHeartbeats 4000000 in
theorem goOn_any (l base g : Nat) (T : Nat → Prop) (Z : List Int → Prop) (J Jx : List (List Int) → (Nat → Prop) → World → Prop) (hC : Client l T Z J Jx) (lo hi : Nat) (sv cv : Value) (t : Ty) (goal : Int) (hok : tyOk t = true) (hg : T g) (hTy : ∀ b, lo ≤ b → b < hi → T b) :
    ∀ (n : Nat) (k : Int) (pre : List Int) (rowv : Value) (s : List (List Int)) (O : Nat → Prop) (w : World), (∀ y, y ∈ waysF t.cos n k goal → Z (pre ++ y)) → J s O w → w.ownsRow base 3 1 rowv pre.length (pre.map (Value.int .i64)) → (∀ b, O b → b < w.heap.size) → (∀ b, rowv.ownBlock = some b → O b) →
    (∀ b, T b → b < w.heap.size) → (∀ b, T b → ¬ O b) → (∀ z ∈ pre, I64 z) → pre.length + n ≤ 20 → Row w g 81 [sv, cv] → TyAt w lo hi sv cv t → 0 ≤ k → k < t.sizes.length → t.sizes.length ≤ k.toNat + n → s.length + (waysF t.cos n k goal).length ≤ 40000 → base ≤ w.heap.size →
    Calls Try.prog 83 #[.pointer (some ⟨g, 0, none⟩), rowv, .int .i64 k, .int .i64 goal, .func (.yield l) #[] #[]] w (Gone J Jx T base rowv pre s O (waysF t.cos n k goal) w) := by
  intro n
  induction n with
  | zero => intro k pre rowv s O w _ _ _ _ _ _ _ _ _ _ _ h1 h2 h3; omega
  | succ n ih =>
    intro k pre rowv s O w hZ hJ hown hO hro hT hTO hwf hpl hrow hv hk0 hk1 hkn hsl hbs
    by_cases hkg : k = goal
    · subst hkg
      rw [waysF_eq] at hsl
      exact goOn_here l base g T Z J Jx hC n k pre rowv s O w t.cos (by have := hZ [] (by rw [waysF_eq]; simp); simpa using this) hJ hown hO hro hT hwf (by omega) (by simp at hsl; omega)
    · obtain ⟨A, cap, rfl, hl1, hm1, _⟩ := hv.1.form
      obtain ⟨B, bap, rfl, hl2, hm2, hc1⟩ := hv.2.form
      have hfew := tyOk_few hok
      have c1 : w.cell? ⟨g, 1, none⟩ = some (.slice B t.cos.length bap) := hrow.cell 1
      obtain ⟨i0, hi0, hz0, hz1, hz2⟩ := info_parts Try.infoInt
      have hwj := Lib.hid (waysF_ne (cs := t.cos) (n := n) hkg)
      have htest : (k == goal) = false := by simpa using hkg
      have hon2 : s.length + (waysJ t.cos n k goal t.cos.length).length ≤ 40000 := by rw [← hwj.out]; exact hsl
      have hgo0 : Going J T base rowv pre s O (waysJ t.cos n k goal 0) w w := ⟨O, fun b h => h, fun b h => ⟨.inl h, hO b h⟩, by rw [waysJ_zero]; simpa using hJ, ⟨Nat.le_refl _, fun _ _ _ => rfl⟩, hown⟩
      have Hgo0 := Lib.hid hgo0
      have Hv := Lib.hid hv
      have Hrow := Lib.hid hrow
      have Hc1 := Lib.hid hc1
      have HZ : Hid (∀ j, ∀ (hj : j < t.cos.length), t.cos[j].src = k → ∀ y, y ∈ waysF t.cos n t.cos[j].dst goal → Z ((pre ++ [(j : Int)]) ++ y)) := fun j hj hs y hy => by
        have := hZ ((j : Int) :: y) (by
          rw [waysF_ne hkg]
          refine List.mem_flatMap.2 ⟨j, List.mem_range.2 hj, ?_⟩
          rw [getD_at hj, if_pos hs]
          exact List.mem_map.2 ⟨y, hy, rfl⟩)
        simpa using this
      clear hZ
      have Ih := Lib.hid ih
      have Hwf := Lib.hid hwf
      have HC := Lib.hid hC
      have HT := Lib.hid hT
      have HTO := Lib.hid hTO
      have HO := Lib.hid hO
      have Hro := Lib.hid hro
      have HTy := Lib.hid hTy
      have Hg := Lib.hid hg
      clear hJ hown hO hro hT hTO hwf hrow hv hc1 ih hC hTy hg hkg hsl hgo0
      go_enter Try.func83, Try.ntmps83
      go_wp2
      go_loopw [26] (fun i wr => ∃ j : Nat, j ≤ t.cos.length ∧ i = .int .i64 j ∧ Hid (Going J T base rowv pre s O (waysJ t.cos n k goal j) w wr)) (fun i _ => t.cos.length - (intOf i).toNat)
      case atStart => exact ⟨0, Nat.zero_le _, rfl, Hgo0⟩
      case round =>
        obtain ⟨j, hj, rfl, hgo⟩ := hrel
        obtain ⟨hwsz, hhold⟩ := hgo.out.holds
        by_cases hlt : j < t.cos.length
        · obtain ⟨b, off, A2, cap2, rfl, hlo, hhi, d0, d1, d2, h5, h6, hsI, hdI, hz2'⟩ := (Hc1.out.keep fun b h1 h2 => hhold b (HTy.out b h1 h2) (HT.out b (HTy.out b h1 h2))).at_ hlt
          have Hhold := Lib.hid hhold
          clear hz2' hsI hdI hhold
          by_cases hq : t.cos[j].src = k
          · have hh := Lib.hid (waysJ_hit (n := n) (goal := goal) hlt hq)
            have hqk := Lib.hid hq
            have hco := coOk_of (tyOk_co hok hlt)
            have hdst : 0 ≤ t.cos[j].dst ∧ t.cos[j].dst < t.sizes.length ∧ t.sizes.length ≤ t.cos[j].dst.toNat + n := by omega
            have hmono := waysJ_mono t.cos n k goal (show j + 1 ≤ t.cos.length from hlt)
            have hjl : (waysJ t.cos n k goal (j + 1)).length = (waysJ t.cos n k goal j).length + (waysF t.cos n t.cos[j].dst goal).length := by
              have e := congrArg List.length hh.out
              rw [List.length_append, List.length_map] at e
              exact e
            have hlen3 : (s ++ (waysJ t.cos n k goal j).map (pre ++ ·)).length + (waysF t.cos n t.cos[j].dst goal).length ≤ 40000 := by
              rw [List.length_append, List.length_map]
              omega
            have hfull : (waysF t.cos n t.cos[j].dst goal).length ≤ (waysF t.cos (n + 1) k goal).length := by rw [hwj.out]; omega
            have htq : (t.cos[j].src == k) = true := by simpa using hq
            have Hlen3 := Lib.hid hlen3
            have Hdst := Lib.hid hdst
            have Hfull := Lib.hid hfull
            clear hco hq hlen3 hmono hdst hjl hfull
            go_upto_region 6 with fail
            obtain ⟨w1, hw1⟩ : ∃ u, u = wr.alloc (.cells #[.int .i64 t.cos[j].src, .int .i64 t.cos[j].dst, .slice A2 t.cos[j].map.length cap2] 28) := ⟨_, rfl⟩
            rw [← hw1]
            have hs1 : w1.heap.size = wr.heap.size + 1 := by rw [hw1, World.size_alloc]
            have hb1 : Below wr.heap.size wr w1 := by rw [hw1]; exact (Below.refl _ _).alloc (Nat.le_refl _) _
            have r1 : Row w1 wr.heap.size 28 [.int .i64 t.cos[j].src, .int .i64 t.cos[j].dst, .slice A2 t.cos[j].map.length cap2] := by rw [hw1]; exact Row.new _ _ _
            have b0 : w1.drew.cell? ⟨wr.heap.size, 0, none⟩ = some (.int .i64 t.cos[j].src) := r1.cell 0
            have b1 : w1.drew.cell? ⟨wr.heap.size, 1, none⟩ = some (.int .i64 t.cos[j].dst) := r1.cell 1
            have rx : Row (w1.alloc (.cells #[.int .i64 j] 3)).drew wr.heap.size 28 [.int .i64 t.cos[j].src, .int .i64 t.cos[j].dst, .slice A2 t.cos[j].map.length cap2] := (r1.alloc _).drew
            have x1 : (w1.alloc (.cells #[.int .i64 j] 3)).drew.cell? ⟨wr.heap.size, 1, none⟩ = some (.int .i64 t.cos[j].dst) := rx.cell 1
            have x0 : (w1.alloc (.cells #[.int .i64 j] 3)).drew.cell? ⟨wr.heap.size + 1, 0, none⟩ = some (.int .i64 j) := by
              have h := (Row.new w1 3 [.int .i64 j]).drew.cell 0
              have e : w1.heap.size = wr.heap.size + 1 := hs1
              rw [e] at h
              exact h
            have hbx : Below wr.heap.size wr (w1.alloc (.cells #[.int .i64 j] 3)).drew := (hb1.alloc (by omega) _).drew
            have Hownx := Lib.hid (ownsRow_keep1 hgo.out.own fun b hb => hbx.block b (owns_lt hgo.out.own b hb).2)
            have Hbx := Lib.hid hbx
            have Hrx := Lib.hid rx
            have hbsx : base ≤ (w1.alloc (.cells #[.int .i64 j] 3)).drew.heap.size := by show base ≤ (w1.alloc (.cells #[.int .i64 j] 3)).heap.size; rw [World.size_alloc]; omega
            have hownl := Lib.hid (owns_lt hgo.out.own)
            clear hw1 r1 rx hbx hb1 d0 d1 d2
            go_region_law
              (first
                | (refine step_push (by rfl) (.tmp 37) (.tmp 39) 23 rfl i0 (.int .i64 0) 8 Try.underlying23 hi0 hz0 hz1 hz2 rfl rfl Hownx.out ⟨wr.heap.size + 1, 0, none⟩ 1 (.int .i64 j) rfl x0 rfl (by unfold maxLen; omega) (by omega) hbsx ?_
                   intro v5 w5 hp5
                   obtain ⟨g5, cap5, rfl⟩ := hp5.form
                   have e1 : w5.cell? ⟨wr.heap.size, 1, none⟩ = some (.int .i64 t.cos[j].dst) := (hp5.grown.cell_far ⟨wr.heap.size, 1, none⟩ (by show wr.heap.size < (w1.alloc (.cells #[.int .i64 j] 3)).heap.size; rw [World.size_alloc]; omega) (fun e => by have := (hownl.out _ e.symm).2; dsimp only at this; omega)).trans x1
                   have hd5 := hgo.out.push HC.out HT.out HTO.out HO.out Hro.out Hbx.out hp5
                   have Hd5 := Lib.hid hd5
                   have hs5 : wr.heap.size ≤ w5.heap.size := by have h1 := Hbx.out.size; have h2 := hp5.grown.size; omega
                   have Hp5 := Lib.hid hp5.own
                   clear hp5 hd5)
                | (go_simp
                   go_at_call 83
                   obtain ⟨O5, hd5⟩ := Hd5.out
                   refine (Ih.out t.cos[j].dst (pre ++ [(j : Int)]) _ (s ++ (waysJ t.cos n k goal j).map (pre ++ ·)) O5 w5 (HZ.out j hlt hqk.out) hd5.j (by rw [List.length_append, List.map_append]; exact Hp5.out) hd5.lt hd5.ro (fun b hb => by have := HT.out b hb; omega) hd5.no (fun z hz => by
                     rcases List.mem_append.1 hz with h | h
                     · exact Hwf.out z h
                     · simp at h; subst h; unfold I64; omega) (by rw [List.length_append, List.length_singleton]; omega) (Hrow.out.keep (hd5.t g Hg.out)) (Hv.out.keep fun b h1 h2 => hd5.t b (HTy.out b h1 h2)) Hdst.out.1 Hdst.out.2.1 Hdst.out.2.2 Hlen3.out (by omega)).mono ?_
                   rintro e w7 ⟨bv, rfl, hg7⟩
                   have Hg7 := Lib.hid hg7
                   have Hd5' := Lib.hid hd5
                   clear hg7 hd5
                   try dsimp only))
            all_goals
              clear b0 b1 x0 x1
              rcases Hg7.out with ⟨rfl, O7, g1, g2, g3, g4, g5⟩ | ⟨rfl, hpos, s', O', hx⟩
              · have hnext : Going J T base rowv pre s O (waysJ t.cos n k goal (j + 1)) w w7 := by rw [hh.out]; exact Hd5'.out.back w7 _ O7 g1 g2 g3 g4 g5
                have Hnext := Lib.hid hnext
                clear hnext g1 g2 g3 g4 g5
                go_wp2
                go_roundw
                case rel => exact ⟨j + 1, by omega, by go_num, Hnext⟩
                case measure => simp [intOf]; omega
              · have hfin : Gone J Jx T base rowv pre s O (waysF t.cos (n + 1) k goal) w (.returned (.bool false)) w7 := ⟨false, rfl, .inr ⟨rfl, Nat.lt_of_lt_of_le hpos Hfull.out, s', O', hx⟩⟩
                have Hfin := Lib.hid hfin
                clear hfin hx
                go_wp2
                go_ret
                exact Hfin.out
          · have hh := Lib.hid (waysJ_miss (n := n) (goal := goal) hlt hq)
            have htq : (t.cos[j].src == k) = false := by simpa using hq
            clear hq
            go_upto_region 6 with fail
            obtain ⟨w1, hw1⟩ : ∃ u, u = wr.alloc (.cells #[.int .i64 t.cos[j].src, .int .i64 t.cos[j].dst, .slice A2 t.cos[j].map.length cap2] 28) := ⟨_, rfl⟩
            rw [← hw1]
            have hb1 : Below wr.heap.size wr w1 := by rw [hw1]; exact (Below.refl _ _).alloc (Nat.le_refl _) _
            have r1 : Row w1 wr.heap.size 28 [.int .i64 t.cos[j].src, .int .i64 t.cos[j].dst, .slice A2 t.cos[j].map.length cap2] := by rw [hw1]; exact Row.new _ _ _
            have b0 : w1.cell? ⟨wr.heap.size, 0, none⟩ = some (.int .i64 t.cos[j].src) := r1.cell 0
            have Hb1 := Lib.hid hb1
            clear hw1 r1 hb1 d0 d1 d2
            go_quiet (fail)
            go_wp2
            go_roundw
            case rel => exact ⟨j + 1, by omega, by go_num, by show Going _ _ _ _ _ _ _ _ _ _; rw [hh.out]; exact hgo.out.below HC.out (below_drewN Hb1.out _)⟩
            case measure => simp [intOf]; omega
        · obtain rfl : j = t.cos.length := by omega
          obtain ⟨Or, g1, g2, g3, g4, g5⟩ := hgo.out
          have hfin : Gone J Jx T base rowv pre s O (waysF t.cos (n + 1) k goal) w (.returned (.bool true)) wr := ⟨true, rfl, .inl ⟨rfl, Or, g1, g2, by rw [hwj.out]; exact g3, g4, g5⟩⟩
          have Hfin := Lib.hid hfin
          clear hfin g1 g2 g3 g4 g5
          go_wp2
          go_ret
          exact Hfin.out
end Go.Proofs.Ytplpnammboofiaa

