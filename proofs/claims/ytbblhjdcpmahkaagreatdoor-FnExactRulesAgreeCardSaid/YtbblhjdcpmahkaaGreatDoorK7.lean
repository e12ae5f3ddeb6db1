/-
  The contract of the program's goOn: it yields all ways from a type, in order, to whatever client keeps what it must.
  The contract of the program's goOn, for all types.
  A range over the program's iterator over ways, from the side of the loop: what its own body keeps is enough.
  The contracts of the program's ways, as an iterator, and of leads.
  The contract of leads.
  The contracts of ShortestWay, the program's and the model's.
  The contracts of ShortestWay: the model's face, the program's.
-/
import Derived.Test.YtbblhjdcpmahkaaGreatDoorK5
import Derived.Test.YtbblhjdcpmahkaaGreatDoorK6
import Derived.RangeFuncSeq
import Derived.RangeFuncIn
import Derived.RangeFuncCalls
import Derived.Shelf.Abstract
import Derived.OwnWalkIn
import Derived.TacticsInMore
import Derived.Deep.RegionLaw
import Derived.BigQuiet
import Derived.RangeFuncLeaves
import Derived.RangeFuncBound
import Derived.RangeFuncNested
namespace Go.Proofs.YtbblhjdcpmahkaaGreatDoor
open Go.RowKit

/-- The blocks of S are as they were. -/
def HoldsOn (S : Nat → Prop) (w w' : World) : Prop := w.heap.size ≤ w'.heap.size ∧ ∀ k, k < w.heap.size → S k → w'.heap[k]? = w.heap[k]?
/-- Who takes what is yielded: J s O w: the ways s have come; the iterator owns the blocks of O. -/
structure Client (l : Nat) (T : Nat → Prop) (Z : List Int → Prop) (J Jx : List (List Int) → (Nat → Prop) → World → Prop) : Prop where
  step : ∀ s O A C row, J s O A → A.grownBy C row → (∀ r, row = some r → O r) → J s (fun k => O k ∨ (A.heap.size ≤ k ∧ k < C.heap.size)) C
  give : ∀ s O O' A, J s O A → (∀ k, O' k → O k) → J s O' A
  round : ∀ s v zs O A0 A, Z zs → J s O A0 → s.length < 40000 → Below A0.heap.size A0 A → A.ownsRow 0 3 1 v zs.length (zs.map (Value.int .i64)) → (∀ b, v.ownBlock = some b → A0.heap.size ≤ b ∧ ¬ O b ∧ ¬ T b) → (∀ z ∈ zs, I64 z) →
    ∀ m, YieldAt Fence.wide m Tryz.prog l #[v] A fun e C => (e = .returned (.bool true) ∧ J (s ++ [zs]) O C ∧ HoldsOn (fun k => O k ∨ T k) A C) ∨ (e = .returned (.bool false) ∧ Jx (s ++ [zs]) O C)

theorem grown_of_below {w w' : World} (h : Below w.heap.size w w') : w.grownBy w' none := ⟨h.os, h.tape, h.output, h.size, fun k hk _ => h.block k hk⟩

/-- What goOn leaves. -/
def Gone (J Jx : List (List Int) → (Nat → Prop) → World → Prop) (T : Nat → Prop) (base : Nat) (rowv : Value) (pre : List Int) (s : List (List Int)) (O : Nat → Prop) (ways : List (List Int)) (w : World) (e : Ending) (w' : World) : Prop :=
  ∃ bv, e = .returned (.bool bv) ∧ ((bv = true ∧ ∃ O' : Nat → Prop, (∀ b, O b → O' b) ∧ (∀ b, O' b → (O b ∨ w.heap.size ≤ b) ∧ b < w'.heap.size) ∧ J (s ++ ways.map (pre ++ ·)) O' w' ∧ HoldsOn (fun b => (O b ∧ rowv.ownBlock ≠ some b) ∨ T b) w w' ∧
      w'.ownsRow base 3 1 rowv pre.length (pre.map (Value.int .i64))) ∨
    (bv = false ∧ 0 < ways.length ∧ ∃ s' O', Jx s' O' w'))

attribute [local go_sem] Oper.semAt_some

set_option maxRecDepth 100000 in
set_option maxHeartbeats 4000000 in
theorem goOn_here (l base g : Nat) (T : Nat → Prop) (Z : List Int → Prop) (J Jx : List (List Int) → (Nat → Prop) → World → Prop) (hC : Client l T Z J Jx) (n : Nat) (k : Int) (pre : List Int) (rowv : Value) (s : List (List Int)) (O : Nat → Prop) (w : World) (cs : List Co)
    (hZ : Z pre) (hJ : J s O w) (hown : w.ownsRow base 3 1 rowv pre.length (pre.map (Value.int .i64))) (hO : ∀ b, O b → b < w.heap.size) (hro : ∀ b, rowv.ownBlock = some b → O b) (hT : ∀ b, T b → b < w.heap.size) (hwf : ∀ z ∈ pre, I64 z) (hpl : pre.length ≤ 20) (hs : s.length < 40000) :
    Calls Tryz.prog 76 #[.pointer (some ⟨g, 0, none⟩), rowv, .int .i64 k, .int .i64 k, .func (.yield l) #[] #[]] w (Gone J Jx T base rowv pre s O (waysF cs (n + 1) k k) w) := by
  have hz := ownsRow.intsAt (lo := base) (hi := w.heap.size) hown hwf (Nat.le_refl _) (Nat.le_refl _)
  have hcl := clone_any base w.heap.size rowv pre w hz (Nat.le_refl _) (by omega)
  have hdd : ∀ k : Nat, (Fence.wide.depth.isSome = true → 1 ≤ k) := fun k h => by simp [Fence.wide] at h
  refine (callsIn_wide (n := 3)).1 ?_
  refine callsIn_of_wp Tryz.func76 rfl trivial ?_ rfl
  simp only [Tryz.ntmps76, List.size_toArray, List.length_cons, List.length_nil, Nat.reduceAdd, Nat.reduceSub, Array.replicate_succ, Array.replicate_zero, List.push_toArray, List.append_toArray, List.nil_append, List.cons_append]
  gi_wp2
  refine ⟨trivial, ?_⟩
  gi_at_call 85
  refine (callsIn_wide.2 hcl).mono ?_
  rintro e w1 ⟨v, rfl, hb1, hown1⟩
  have hz1 : ∀ b, v.ownBlock = some b → w.heap.size ≤ b ∧ ¬ O b ∧ ¬ T b := fun b hb => by
    have h := (owns_lt hown1 b hb).1
    exact ⟨h, fun h2 => by have := hO b h2; omega, fun h2 => by have := hT b h2; omega⟩
  obtain ⟨fn, tmps, assign, body, hy, hR⟩ := hC.round s v pre O w w1 hZ hJ hs hb1 (ownsRow_lower hown1 (Nat.zero_le _)) hz1 hwf 2
  have h1s := hb1.size
  have Hb1 := Lib.hid hb1
  have Hown := Lib.hid hown
  clear hz hcl hown1 hz1 hb1 hown hJ hC
  gi_wp2
  refine hR.mono ?_
  rintro e w2 (⟨rfl, hJ2, hh2⟩ | ⟨rfl, hx2⟩)
  · have hfin : Gone J Jx T base rowv pre s O (waysF cs (n + 1) k k) w (.returned (.bool true)) w2 := by
      refine ⟨true, rfl, .inl ⟨rfl, O, fun b h => h, fun b h => ⟨.inl h, ?_⟩, by rw [waysF_eq]; simpa using hJ2, ⟨Nat.le_trans h1s hh2.1, fun b hb hS => ?_⟩, ?_⟩⟩
      · have := hO b h; have := hh2.1; omega
      · exact (hh2.2 b (by omega) (hS.elim (fun h => .inl h.1) .inr)).trans (Hb1.out.block b hb)
      · exact ownsRow_keep1 Hown.out fun b hb => (hh2.2 b (by have := hO b (hro b hb); omega) (.inl (hro b hb))).trans (Hb1.out.block b (hO b (hro b hb)))
    have Hfin := Lib.hid hfin
    clear hfin hJ2 hh2 hR hy
    gi_wp2
    go_ret
    exact Hfin.out
  · have hfin : Gone J Jx T base rowv pre s O (waysF cs (n + 1) k k) w (.returned (.bool false)) w2 := ⟨false, rfl, .inr ⟨rfl, by rw [waysF_eq]; simp, _, _, hx2⟩⟩
    have Hfin := Lib.hid hfin
    clear hfin hx2 hR hy
    gi_wp2
    go_ret
    exact Hfin.out
end Go.Proofs.YtbblhjdcpmahkaaGreatDoor

namespace Go.Proofs.YtbblhjdcpmahkaaGreatDoor
open Go.RowKit

/-- The iterator on its way: the ways of 'done' have come behind s. -/
def Going (J : List (List Int) → (Nat → Prop) → World → Prop) (T : Nat → Prop) (base : Nat) (rowv : Value) (pre : List Int) (s : List (List Int)) (O : Nat → Prop) (done : List (List Int)) (w wr : World) : Prop :=
  ∃ Or : Nat → Prop, (∀ b, O b → Or b) ∧ (∀ b, Or b → (O b ∨ w.heap.size ≤ b) ∧ b < wr.heap.size) ∧ J (s ++ done.map (pre ++ ·)) Or wr ∧ HoldsOn (fun b => (O b ∧ rowv.ownBlock ≠ some b) ∨ T b) w wr ∧
    wr.ownsRow base 3 1 rowv pre.length (pre.map (Value.int .i64))

section
variable {l base : Nat} {T : Nat → Prop} {Z : List Int → Prop} {J Jx : List (List Int) → (Nat → Prop) → World → Prop} {rowv : Value} {pre : List Int} {s done : List (List Int)} {O : Nat → Prop} {w wr w' : World}
theorem Going.below (hC : Client l T Z J Jx) (h : Going J T base rowv pre s O done w wr) (hb : Below wr.heap.size wr w') : Going J T base rowv pre s O done w w' := by
  obtain ⟨Or, h1, h2, h3, h4, h5⟩ := h
  have hs := hb.size
  have h4s := h4.1
  refine ⟨Or, h1, fun b hb => ⟨(h2 b hb).1, by have := (h2 b hb).2; omega⟩, hC.give _ _ Or _ (hC.step _ Or wr w' none h3 (grown_of_below hb) (fun r e => by cases e)) (fun b hb => .inl hb), ⟨by omega, fun k hk hS => (hb.block k (by omega)).trans (h4.2 k hk hS)⟩, ?_⟩
  exact ownsRow_keep1 h5 fun b hb2 => hb.block b (owns_lt h5 b hb2).2
theorem Going.holds (h : Going J T base rowv pre s O done w wr) : w.heap.size ≤ wr.heap.size ∧ ∀ b, T b → b < w.heap.size → wr.heap[b]? = w.heap[b]? := by
  obtain ⟨Or, h1, h2, h3, h4, h5⟩ := h
  exact ⟨h4.1, fun b hb hl => h4.2 b hl (.inr hb)⟩
theorem Going.own (h : Going J T base rowv pre s O done w wr) : wr.ownsRow base 3 1 rowv pre.length (pre.map (Value.int .i64)) := by
  obtain ⟨Or, h1, h2, h3, h4, h5⟩ := h
  exact h5

/-- What holds behind an append to the row, and how to come back from there. -/
structure Deeper (J : List (List Int) → (Nat → Prop) → World → Prop) (T : Nat → Prop) (base : Nat) (rowv v5 : Value) (pre : List Int) (i : Int) (s : List (List Int)) (O : Nat → Prop) (done : List (List Int)) (w w5 : World) (O5 : Nat → Prop) : Prop where
  j : J (s ++ done.map (pre ++ ·)) O5 w5
  lt : ∀ b, O5 b → b < w5.heap.size
  ro : ∀ b, v5.ownBlock = some b → O5 b
  no : ∀ b, T b → ¬ O5 b
  t : ∀ b, T b → w5.heap[b]? = w.heap[b]?
  size : w.heap.size ≤ w5.heap.size
  back : ∀ (w7 : World) (more : List (List Int)) (O7 : Nat → Prop), (∀ b, O5 b → O7 b) → (∀ b, O7 b → (O5 b ∨ w5.heap.size ≤ b) ∧ b < w7.heap.size) → J ((s ++ done.map (pre ++ ·)) ++ more.map ((pre ++ [i]) ++ ·)) O7 w7 → HoldsOn (fun b => (O5 b ∧ v5.ownBlock ≠ some b) ∨ T b) w5 w7 →
    w7.ownsRow base 3 1 v5 (pre ++ [i]).length ((pre ++ [i]).map (Value.int .i64)) → Going J T base rowv pre s O (done ++ more.map fun z => i :: z) w w7

theorem Going.push {i : Int} {v5 : Value} {wx w5 : World} (hC : Client l T Z J Jx) (h : Going J T base rowv pre s O done w wr) (hT : ∀ b, T b → b < w.heap.size) (hTO : ∀ b, T b → ¬ O b) (hO : ∀ b, O b → b < w.heap.size) (hro : ∀ b, rowv.ownBlock = some b → O b)
    (hbx : Below wr.heap.size wr wx) (hp : Pushed wx w5 base 3 rowv v5 pre.length (pre.map (Value.int .i64)) (.int .i64 i)) : ∃ O5, Deeper J T base rowv v5 pre i s O done w w5 O5 := by
  obtain ⟨Or, h1, h2, h3, h4, h5⟩ := h
  have hsx := hbx.size
  have hs5 := hp.grown.size
  have hsw := h4.1
  have hgr : wr.grownBy w5 rowv.ownBlock := ⟨hp.grown.os.trans hbx.os, hp.grown.tape.trans hbx.tape, hp.grown.output.trans hbx.output, by omega, fun k hk hne => (hp.grown.block k (by omega) hne).trans (hbx.block k hk)⟩
  have hJ5 := hC.step _ Or wr w5 rowv.ownBlock h3 hgr (fun r e => h1 r (hro r e))
  have hv5 : ∀ b, v5.ownBlock = some b → (rowv.ownBlock = some b) ∨ (wx.heap.size ≤ b ∧ b < w5.heap.size) := by
    intro b hb
    rcases hp.at_ with e | ⟨g', e, h6, h7⟩
    · exact .inl (by rw [← e]; exact hb)
    · rw [e] at hb; simp only [Option.some.injEq] at hb; subst hb; exact .inr ⟨h6, h7⟩
  have hlt : ∀ b, (Or b ∨ (wr.heap.size ≤ b ∧ b < w5.heap.size)) → b < w5.heap.size := fun b hb => by
    rcases hb with hb | hb
    · have := (h2 b hb).2; omega
    · exact hb.2
  have hnT : ∀ b, T b → ¬ (Or b ∨ (wr.heap.size ≤ b ∧ b < w5.heap.size)) := fun b hb hor => by
    have := hT b hb
    rcases hor with hor | hor
    · rcases (h2 b hor).1 with h | h
      · exact hTO b hb h
      · omega
    · omega
  refine ⟨_, hJ5, hlt, fun b hb => ?_, hnT, fun b hb => ?_, by omega, fun w7 more O7 g1 g2 g3 g4 g5 => ?_⟩
  · rcases hv5 b hb with h | h
    · exact .inl (h1 b (hro b h))
    · exact .inr ⟨by omega, h.2⟩
  · have := hT b hb
    exact (hgr.block b (by omega) (fun e => hTO b hb (hro b e.symm))).trans (h4.2 b this (.inr hb))
  · refine ⟨O7, fun b hb => g1 b (.inl (h1 b hb)), fun b hb => ⟨?_, (g2 b hb).2⟩, ?_, ⟨by have := g4.1; omega, fun k hk hS => ?_⟩, ?_⟩
    · rcases (g2 b hb).1 with (h | h) | h
      · exact (h2 b h).1
      · exact .inr (by omega)
      · exact .inr (by omega)
    · have e : (s ++ done.map (pre ++ ·)) ++ more.map ((pre ++ [i]) ++ ·) = s ++ (done ++ more.map fun z => i :: z).map (pre ++ ·) := by
        simp [List.map_append, List.append_assoc, Function.comp_def]
      rw [← e]
      exact g3
    · have hk5 : w5.heap[k]? = w.heap[k]? := by
        rcases hS with hS | hS
        · exact (hgr.block k (by omega) (fun e => hS.2 e.symm)).trans (h4.2 k hk (.inl hS))
        · exact (hgr.block k (by omega) (fun e => hTO k hS (hro k e.symm))).trans (h4.2 k hk (.inr hS))
      refine (g4.2 k (by omega) ?_).trans hk5
      rcases hS with hS | hS
      · refine .inl ⟨.inl (h1 k hS.1), fun e => ?_⟩
        rcases hv5 k e with h | h
        · exact hS.2 h
        · omega
      · exact .inr hS
    · rw [List.length_append, List.map_append] at g5
      refine hp.back w7 g5 fun b hb hne => g4.2 b ?_ (.inl ⟨.inl (h1 b (hro b hb)), hne⟩)
      have := hO b (hro b hb)
      omega
end

set_option maxRecDepth 100000 in
set_option maxHeartbeats 4000000 in
theorem goOn_any (l base g : Nat) (T : Nat → Prop) (Z : List Int → Prop) (J Jx : List (List Int) → (Nat → Prop) → World → Prop) (hC : Client l T Z J Jx) (lo hi : Nat) (sv cv : Value) (t : Ty) (goal : Int) (hok : tyOk t = true) (hg : T g) (hTy : ∀ b, lo ≤ b → b < hi → T b) :
    ∀ (n : Nat) (k : Int) (pre : List Int) (rowv : Value) (s : List (List Int)) (O : Nat → Prop) (w : World), (∀ y, y ∈ waysF t.cos n k goal → Z (pre ++ y)) → J s O w → w.ownsRow base 3 1 rowv pre.length (pre.map (Value.int .i64)) → (∀ b, O b → b < w.heap.size) → (∀ b, rowv.ownBlock = some b → O b) →
    (∀ b, T b → b < w.heap.size) → (∀ b, T b → ¬ O b) → (∀ z ∈ pre, I64 z) → pre.length + n ≤ 20 → Row w g 136 [sv, cv] → TyAt w lo hi sv cv t → 0 ≤ k → k < t.sizes.length → t.sizes.length ≤ k.toNat + n → s.length + (waysF t.cos n k goal).length ≤ 40000 → base ≤ w.heap.size →
    Calls Tryz.prog 76 #[.pointer (some ⟨g, 0, none⟩), rowv, .int .i64 k, .int .i64 goal, .func (.yield l) #[] #[]] w (Gone J Jx T base rowv pre s O (waysF t.cos n k goal) w) := by
  intro n
  induction n with
  | zero => intro k pre rowv s O w _ _ _ _ _ _ _ _ _ _ _ h1 h2 h3; omega
  | succ n ih =>
    intro k pre rowv s O w hZ hJ hown hO hro hT hTO hwf hpl hrow hv hk0 hk1 hkn hsl hbs
    by_cases hkg : k = goal
    · subst hkg
      rw [waysF_eq] at hsl
      exact goOn_here l base g T Z J Jx hC n k pre rowv s O w t.cos (by have := hZ [] (by rw [waysF_eq]; simp); simpa using this) hJ hown hO hro hT hwf (by omega) (by simp at hsl; omega)
    · obtain ⟨A, cap, rfl, hl1, hm1, _⟩ := hv.1.form
      obtain ⟨B, bap, rfl, hl2, hm2, hc1⟩ := hv.2.form
      have hfew := tyOk_few hok
      have c1 : w.cell? ⟨g, 1, none⟩ = some (.slice B t.cos.length bap) := hrow.cell 1
      obtain ⟨i0, hi0, hz0, hz1, hz2⟩ := info_parts Tryz.infoInt
      have hwj := Lib.hid (waysF_ne (cs := t.cos) (n := n) hkg)
      have htest : (k == goal) = false := by simpa using hkg
      have hon2 : s.length + (waysJ t.cos n k goal t.cos.length).length ≤ 40000 := by rw [← hwj.out]; exact hsl
      have hgo0 : Going J T base rowv pre s O (waysJ t.cos n k goal 0) w w := ⟨O, fun b h => h, fun b h => ⟨.inl h, hO b h⟩, by rw [waysJ_zero]; simpa using hJ, ⟨Nat.le_refl _, fun _ _ _ => rfl⟩, hown⟩
      have Hgo0 := Lib.hid hgo0
      have Hv := Lib.hid hv
      have Hrow := Lib.hid hrow
      have Hc1 := Lib.hid hc1
      have HZ : Hid (∀ j, ∀ (hj : j < t.cos.length), t.cos[j].src = k → ∀ y, y ∈ waysF t.cos n t.cos[j].dst goal → Z ((pre ++ [(j : Int)]) ++ y)) := fun j hj hs y hy => by
        have := hZ ((j : Int) :: y) (by
          rw [waysF_ne hkg]
          refine List.mem_flatMap.2 ⟨j, List.mem_range.2 hj, ?_⟩
          rw [getD_at hj, if_pos hs]
          exact List.mem_map.2 ⟨y, hy, rfl⟩)
        simpa using this
      clear hZ
      have Ih := Lib.hid ih
      have Hwf := Lib.hid hwf
      have HC := Lib.hid hC
      have HT := Lib.hid hT
      have HTO := Lib.hid hTO
      have HO := Lib.hid hO
      have Hro := Lib.hid hro
      have HTy := Lib.hid hTy
      have Hg := Lib.hid hg
      clear hJ hown hO hro hT hTO hwf hrow hv hc1 ih hC hTy hg hkg hsl hgo0
      go_enter Tryz.func76, Tryz.ntmps76
      go_wp2
      go_loopw [26] (fun i wr => ∃ j : Nat, j ≤ t.cos.length ∧ i = .int .i64 j ∧ Hid (Going J T base rowv pre s O (waysJ t.cos n k goal j) w wr)) (fun i _ => t.cos.length - (intOf i).toNat)
      case atStart => exact ⟨0, Nat.zero_le _, rfl, Hgo0⟩
      case round =>
        obtain ⟨j, hj, rfl, hgo⟩ := hrel
        obtain ⟨hwsz, hhold⟩ := hgo.out.holds
        by_cases hlt : j < t.cos.length
        · obtain ⟨b, off, A2, cap2, rfl, hlo, hhi, d0, d1, d2, h5, h6, hsI, hdI, hz2'⟩ := (Hc1.out.keep fun b h1 h2 => hhold b (HTy.out b h1 h2) (HT.out b (HTy.out b h1 h2))).at_ hlt
          have Hhold := Lib.hid hhold
          clear hz2' hsI hdI hhold
          by_cases hq : t.cos[j].src = k
          · have hh := Lib.hid (waysJ_hit (n := n) (goal := goal) hlt hq)
            have hqk := Lib.hid hq
            have hco := coOk_of (tyOk_co hok hlt)
            have hdst : 0 ≤ t.cos[j].dst ∧ t.cos[j].dst < t.sizes.length ∧ t.sizes.length ≤ t.cos[j].dst.toNat + n := by omega
            have hmono := waysJ_mono t.cos n k goal (show j + 1 ≤ t.cos.length from hlt)
            have hjl : (waysJ t.cos n k goal (j + 1)).length = (waysJ t.cos n k goal j).length + (waysF t.cos n t.cos[j].dst goal).length := by
              have e := congrArg List.length hh.out
              rw [List.length_append, List.length_map] at e
              exact e
            have hlen3 : (s ++ (waysJ t.cos n k goal j).map (pre ++ ·)).length + (waysF t.cos n t.cos[j].dst goal).length ≤ 40000 := by
              rw [List.length_append, List.length_map]
              omega
            have hfull : (waysF t.cos n t.cos[j].dst goal).length ≤ (waysF t.cos (n + 1) k goal).length := by rw [hwj.out]; omega
            have htq : (t.cos[j].src == k) = true := by simpa using hq
            have Hlen3 := Lib.hid hlen3
            have Hdst := Lib.hid hdst
            have Hfull := Lib.hid hfull
            clear hco hq hlen3 hmono hdst hjl hfull
            go_upto_region 6 with fail
            obtain ⟨w1, hw1⟩ : ∃ u, u = wr.alloc (.cells #[.int .i64 t.cos[j].src, .int .i64 t.cos[j].dst, .slice A2 t.cos[j].map.length cap2] 95) := ⟨_, rfl⟩
            rw [← hw1]
            have hs1 : w1.heap.size = wr.heap.size + 1 := by rw [hw1, World.size_alloc]
            have hb1 : Below wr.heap.size wr w1 := by rw [hw1]; exact (Below.refl _ _).alloc (Nat.le_refl _) _
            have r1 : Row w1 wr.heap.size 95 [.int .i64 t.cos[j].src, .int .i64 t.cos[j].dst, .slice A2 t.cos[j].map.length cap2] := by rw [hw1]; exact Row.new _ _ _
            have b0 : w1.drew.cell? ⟨wr.heap.size, 0, none⟩ = some (.int .i64 t.cos[j].src) := r1.cell 0
            have b1 : w1.drew.cell? ⟨wr.heap.size, 1, none⟩ = some (.int .i64 t.cos[j].dst) := r1.cell 1
            have rx : Row (w1.alloc (.cells #[.int .i64 j] 3)).drew wr.heap.size 95 [.int .i64 t.cos[j].src, .int .i64 t.cos[j].dst, .slice A2 t.cos[j].map.length cap2] := (r1.alloc _).drew
            have x1 : (w1.alloc (.cells #[.int .i64 j] 3)).drew.cell? ⟨wr.heap.size, 1, none⟩ = some (.int .i64 t.cos[j].dst) := rx.cell 1
            have x0 : (w1.alloc (.cells #[.int .i64 j] 3)).drew.cell? ⟨wr.heap.size + 1, 0, none⟩ = some (.int .i64 j) := by
              have h := (Row.new w1 3 [.int .i64 j]).drew.cell 0
              have e : w1.heap.size = wr.heap.size + 1 := hs1
              rw [e] at h
              exact h
            have hbx : Below wr.heap.size wr (w1.alloc (.cells #[.int .i64 j] 3)).drew := (hb1.alloc (by omega) _).drew
            have Hownx := Lib.hid (ownsRow_keep1 hgo.out.own fun b hb => hbx.block b (owns_lt hgo.out.own b hb).2)
            have Hbx := Lib.hid hbx
            have Hrx := Lib.hid rx
            have hbsx : base ≤ (w1.alloc (.cells #[.int .i64 j] 3)).drew.heap.size := by show base ≤ (w1.alloc (.cells #[.int .i64 j] 3)).heap.size; rw [World.size_alloc]; omega
            have hownl := Lib.hid (owns_lt hgo.out.own)
            clear hw1 r1 rx hbx hb1 d0 d1 d2
            go_region_law
              (first
                | (refine step_push (by rfl) (.tmp 37) (.tmp 39) 22 rfl i0 (.int .i64 0) 8 Tryz.underlying22 hi0 hz0 hz1 hz2 rfl rfl Hownx.out ⟨wr.heap.size + 1, 0, none⟩ 1 (.int .i64 j) rfl x0 rfl (by unfold maxLen; omega) (by omega) hbsx ?_
                   intro v5 w5 hp5
                   obtain ⟨g5, cap5, rfl⟩ := hp5.form
                   have e1 : w5.cell? ⟨wr.heap.size, 1, none⟩ = some (.int .i64 t.cos[j].dst) := (hp5.grown.cell_far ⟨wr.heap.size, 1, none⟩ (by show wr.heap.size < (w1.alloc (.cells #[.int .i64 j] 3)).heap.size; rw [World.size_alloc]; omega) (fun e => by have := (hownl.out _ e.symm).2; dsimp only at this; omega)).trans x1
                   have hd5 := hgo.out.push HC.out HT.out HTO.out HO.out Hro.out Hbx.out hp5
                   have Hd5 := Lib.hid hd5
                   have hs5 : wr.heap.size ≤ w5.heap.size := by have h1 := Hbx.out.size; have h2 := hp5.grown.size; omega
                   have Hp5 := Lib.hid hp5.own
                   clear hp5 hd5)
                | (go_simp
                   go_at_call 76
                   obtain ⟨O5, hd5⟩ := Hd5.out
                   refine (Ih.out t.cos[j].dst (pre ++ [(j : Int)]) _ (s ++ (waysJ t.cos n k goal j).map (pre ++ ·)) O5 w5 (HZ.out j hlt hqk.out) hd5.j (by rw [List.length_append, List.map_append]; exact Hp5.out) hd5.lt hd5.ro (fun b hb => by have := HT.out b hb; omega) hd5.no (fun z hz => by
                     rcases List.mem_append.1 hz with h | h
                     · exact Hwf.out z h
                     · simp at h; subst h; unfold I64; omega) (by rw [List.length_append, List.length_singleton]; omega) (Hrow.out.keep (hd5.t g Hg.out)) (Hv.out.keep fun b h1 h2 => hd5.t b (HTy.out b h1 h2)) Hdst.out.1 Hdst.out.2.1 Hdst.out.2.2 Hlen3.out (by omega)).mono ?_
                   rintro e w7 ⟨bv, rfl, hg7⟩
                   have Hg7 := Lib.hid hg7
                   have Hd5' := Lib.hid hd5
                   clear hg7 hd5
                   try dsimp only))
            all_goals
              clear b0 b1 x0 x1
              rcases Hg7.out with ⟨rfl, O7, g1, g2, g3, g4, g5⟩ | ⟨rfl, hpos, s', O', hx⟩
              · have hnext : Going J T base rowv pre s O (waysJ t.cos n k goal (j + 1)) w w7 := by rw [hh.out]; exact Hd5'.out.back w7 _ O7 g1 g2 g3 g4 g5
                have Hnext := Lib.hid hnext
                clear hnext g1 g2 g3 g4 g5
                go_wp2
                go_roundw
                case rel => exact ⟨j + 1, by omega, by go_num, Hnext⟩
                case measure => simp [intOf]; omega
              · have hfin : Gone J Jx T base rowv pre s O (waysF t.cos (n + 1) k goal) w (.returned (.bool false)) w7 := ⟨false, rfl, .inr ⟨rfl, Nat.lt_of_lt_of_le hpos Hfull.out, s', O', hx⟩⟩
                have Hfin := Lib.hid hfin
                clear hfin hx
                go_wp2
                go_ret
                exact Hfin.out
          · have hh := Lib.hid (waysJ_miss (n := n) (goal := goal) hlt hq)
            have htq : (t.cos[j].src == k) = false := by simpa using hq
            clear hq
            go_upto_region 6 with fail
            obtain ⟨w1, hw1⟩ : ∃ u, u = wr.alloc (.cells #[.int .i64 t.cos[j].src, .int .i64 t.cos[j].dst, .slice A2 t.cos[j].map.length cap2] 95) := ⟨_, rfl⟩
            rw [← hw1]
            have hb1 : Below wr.heap.size wr w1 := by rw [hw1]; exact (Below.refl _ _).alloc (Nat.le_refl _) _
            have r1 : Row w1 wr.heap.size 95 [.int .i64 t.cos[j].src, .int .i64 t.cos[j].dst, .slice A2 t.cos[j].map.length cap2] := by rw [hw1]; exact Row.new _ _ _
            have b0 : w1.cell? ⟨wr.heap.size, 0, none⟩ = some (.int .i64 t.cos[j].src) := r1.cell 0
            have Hb1 := Lib.hid hb1
            clear hw1 r1 hb1 d0 d1 d2
            go_quiet (fail)
            go_wp2
            go_roundw
            case rel => exact ⟨j + 1, by omega, by go_num, by show Going _ _ _ _ _ _ _ _ _ _; rw [hh.out]; exact hgo.out.below HC.out (below_drewN Hb1.out _)⟩
            case measure => simp [intOf]; omega
        · obtain rfl : j = t.cos.length := by omega
          obtain ⟨Or, g1, g2, g3, g4, g5⟩ := hgo.out
          have hfin : Gone J Jx T base rowv pre s O (waysF t.cos (n + 1) k goal) w (.returned (.bool true)) wr := ⟨true, rfl, .inl ⟨rfl, Or, g1, g2, by rw [hwj.out]; exact g3, g4, g5⟩⟩
          have Hfin := Lib.hid hfin
          clear hfin g1 g2 g3 g4 g5
          go_wp2
          go_ret
          exact Hfin.out
end Go.Proofs.YtbblhjdcpmahkaaGreatDoor

namespace Go.Proofs.YtbblhjdcpmahkaaGreatDoor
open Go.RowKit

theorem puts_keep {A : World} {l k : Nat} {o' : Obj} (h : k ≠ l) : (A.putObj l o').heap[k]? = A.heap[k]? := World.putObj_heap_other h
theorem owns_put {A : World} {base n : Nat} {e : TypeId} {v : Value} {xs : List Value} {l : Nat} {o' : Obj} (h : A.ownsRow base e 1 v n xs) (hlo : ∃ lp, A.heap[l]? = some (.loop lp)) : (A.putObj l o').ownsRow base e 1 v n xs := by
  refine ownsRow_keep1 h fun g hg => puts_keep fun e2 => ?_
  subst e2
  obtain ⟨lp, hlp⟩ := hlo
  obtain ⟨_, ⟨rfl, _⟩ | ⟨g', cap, cur, rfl, hb, hh, _⟩⟩ := h
  · simp [Value.ownBlock] at hg
  · simp only [Value.ownBlock, Option.some.injEq] at hg
    subst hg
    rw [hlp] at hh
    cases hh

theorem owns_no {A : World} {base n b : Nat} {e : TypeId} {v : Value} {xs : List Value} {o : Obj} (h : A.ownsRow base e 1 v n xs) (hv : v.ownBlock = some b) (ho : A.heap[b]? = some o) (hn : ∀ c t f, o ≠ .cells c t f) : False := by
  obtain ⟨_, ⟨rfl, _⟩ | ⟨g', cap, cur, rfl, hb, hh, _⟩⟩ := h
  · simp [Value.ownBlock] at hv
  · simp only [Value.ownBlock, Option.some.injEq] at hv
    subst hv
    rw [hh] at ho
    simp only [Option.some.injEq] at ho
    exact hn _ _ _ ho.symm

theorem below_put {A0 A : World} {l : Nat} {o' : Obj} (h : Below A0.heap.size A0 A) (hl : l < A0.heap.size) : Below (A0.putObj l o').heap.size (A0.putObj l o') (A.putObj l o') := by
  have hs := h.size
  refine ⟨h.os, h.tape, h.output, by simpa using hs, fun k hk => ?_⟩
  have hk2 : k < A0.heap.size := by simpa using hk
  by_cases e : k = l
  · subst e
    rw [World.putObj_heap_same (by omega), World.putObj_heap_same hl]
  · exact (puts_keep e).trans ((h.block k hk2).trans (puts_keep e).symm)

/-- What the body of a round must leave. -/
def bodyEnds (T : Nat → Prop) (d : Nat) (I : List (List Int) → (Nat → Prop) → World → Prop) (Ix : Code → List (List Int) → World → Prop) (s : List (List Int)) (O : Nat → Prop) (A : World) : Exit → Act → World → Prop
  | .normal, _, C => HoldsOn (fun k => O k ∨ T k ∨ k = d ∨ k = d + 1) A C ∧ I s O C
  | .exit id, _, C => HoldsOn (fun k => k = d ∨ k = d + 1) A C ∧ Ix (.exit id) s C
  | _, _, _ => False

theorem range_law {n : Nat} {Q : Exit → Act → World → Prop} {a : Act} {w : World} {g : Operand} {p : Tmp} {assign body : Code} (a₁ : Value → Act)
    (hassign : ∀ (l : Nat) (v : Value) (W : World) (m : Nat) (K : Act → World → Prop), K (a₁ v) W → assign.wpIn (Fence.wide.inRound l) m Tryz.prog (Exit.then K (fun _ _ _ => False)) { tmps := a.tmps.setIfInBounds p v, defers := [] } W)
    {gf : Nat} {lb : Array Value} (hg : a.eval g = .func (.func gf) #[] lb)
    (eg : ∀ args w, (callFunc gf args).run Tryz.prog w = .ok (.enter gf args) w) (T : Nat → Prop) (hT : ∀ b, T b → b < w.heap.size) (ways : List (List Int))
    (I : List (List Int) → (Nat → Prop) → World → Prop) (Ix : Code → List (List Int) → World → Prop)
    (hIstep : ∀ s O A C row, I s O A → A.grownBy C row → (∀ r, row = some r → O r) → I s (fun k => O k ∨ (A.heap.size ≤ k ∧ k < C.heap.size)) C)
    (hIgive : ∀ s O O' A, I s O A → (∀ k, O' k → O k) → I s O' A)
    (hIput : ∀ s O A k o', I s O A → w.heap.size ≤ k → k ≤ w.heap.size + 1 → I s O (A.putObj k o'))
    (hIxput : ∀ c s A k o', Ix c s A → w.heap.size ≤ k → k ≤ w.heap.size + 1 → Ix c s (A.putObj k o'))
    (hiter : ∀ l J Jx W1, Client l T (fun z => z ∈ ways) J Jx → Below w.heap.size w W1 → J [] (fun _ => False) W1 →
      Calls Tryz.prog gf (#[.func (.yield l) #[] #[]] ++ lb) W1 fun e W' => (∃ v, e = .returned v) ∧ ((∃ O', J ways O' W') ∨ (0 < ways.length ∧ ∃ s' O', Jx s' O' W')))
    (h0 : ∀ W1, Below w.heap.size w W1 → I [] (fun _ => False) W1)
    (hbody : ∀ l s v zs O A0 A m, zs ∈ ways → I s O A0 → s.length < 40000 → Below A0.heap.size A0 A → A.ownsRow 0 3 1 v zs.length (zs.map (Value.int .i64)) → (∀ b, v.ownBlock = some b → A0.heap.size ≤ b ∧ ¬ O b ∧ ¬ T b) → (∀ z ∈ zs, I64 z) → w.heap.size + 1 < A0.heap.size →
      body.wpIn (Fence.wide.inRound l) m Tryz.prog (bodyEnds T w.heap.size I Ix (s ++ [zs]) O A) (a₁ v) A)
    (hdone : ∀ O' W', I ways O' W' → W'.heap[w.heap.size]? = some (.deferred (some [])) → Q .normal { a with defers := { target := .collected w.heap.size, args := #[] } :: a.defers } W')
    (hstop : ∀ c s' W', 0 < ways.length → Ix c s' W' → W'.heap[w.heap.size]? = some (.deferred (some [])) → c.wpIn Fence.wide n Tryz.prog Q { a with defers := { target := .collected w.heap.size, args := #[] } :: a.defers } W') :
    (Code.rangeFunc g #[p] assign body).wpIn Fence.wide n Tryz.prog Q a w := by
  have hdd : Fence.wide.depth.isSome = true → 1 ≤ n := fun h => by simp [Fence.wide] at h
  refine wpIn_rangeFunc fun fn _ => ?_
  obtain ⟨W1, hW1⟩ : ∃ W1, W1 = (w.alloc (.deferred (some []))).alloc (.loop { state := .ready, pending := none, fn, tmps := a.tmps, params := #[p], assign, body, defers := w.heap.size }) := ⟨_, rfl⟩
  have hb1 : Below w.heap.size w W1 := by rw [hW1]; exact ((Below.refl _ _).alloc (Nat.le_refl _) _).alloc (by simp) _
  have hs1 : W1.heap.size = w.heap.size + 2 := by rw [hW1, World.size_alloc, World.size_alloc]
  have hl1 : W1.heap[w.heap.size + 1]? = some (.loop { state := .ready, pending := none, fn, tmps := a.tmps, params := #[p], assign, body, defers := w.heap.size }) := by
    rw [hW1]
    have := World.alloc_heap_new (w.alloc (.deferred (some []))) (.loop { state := .ready, pending := none, fn, tmps := a.tmps, params := #[p], assign, body, defers := w.heap.size })
    rwa [World.size_alloc] at this
  have hd1 : W1.heap[w.heap.size]? = some (.deferred (some [])) := by rw [hW1]; exact (Below.heap_alloc _ _ _ (by simp)).trans (World.alloc_heap_new w _)
  -- the client: the loop's own invariant, and the loop's record
  have hclient : Client (w.heap.size + 1) T (fun z => z ∈ ways)
      (fun s O A => I s O A ∧ A.heap[w.heap.size + 1]? = some (.loop { state := .ready, pending := none, fn, tmps := a.tmps, params := #[p], assign, body, defers := w.heap.size }) ∧ A.heap[w.heap.size]? = some (.deferred (some [])) ∧ ¬ O w.heap.size ∧ ¬ O (w.heap.size + 1))
      (fun s _ A => ∃ c, Ix c s A ∧ A.heap[w.heap.size + 1]? = some (.loop { state := .done, pending := some c, fn, tmps := a.tmps, params := #[p], assign, body, defers := w.heap.size }) ∧ A.heap[w.heap.size]? = some (.deferred (some []))) := by
    refine ⟨?_, ?_, ?_⟩
    · rintro s O A C row ⟨hi, hl, hd, n0, n1⟩ hgr hrow
      have hla := (Array.getElem?_eq_some_iff.1 hl).1
      exact ⟨hIstep s O A C row hi hgr hrow, (hgr.block _ hla (fun e => n1 (hrow _ e.symm))).trans hl, (hgr.block _ (by omega) (fun e => n0 (hrow _ e.symm))).trans hd, fun h => h.elim n0 (fun h => by omega), fun h => h.elim n1 (fun h => by omega)⟩
    · rintro s O O' A ⟨hi, hl, hd, n0, n1⟩ hsub
      exact ⟨hIgive s O O' A hi hsub, hl, hd, fun h => n0 (hsub _ h), fun h => n1 (hsub _ h)⟩
    · rintro s v zs O A0 A hzw0 ⟨hi, hl0, hd0, n0, n1⟩ hlen hbel hz hzo hzw m
      have hla0 := (Array.getElem?_eq_some_iff.1 hl0).1
      have hl := (hbel.block _ hla0).trans hl0
      have hd := (hbel.block w.heap.size (by omega)).trans hd0
      have hla := (Array.getElem?_eq_some_iff.1 hl).1
      have etmps : ((#[p] : Array Tmp).zip #[v]).foldl (fun tmps (x : Tmp × Value) => tmps.setIfInBounds x.1 x.2) a.tmps = a.tmps.setIfInBounds p v := by simp
      refine ⟨fn, _, assign, body, run_yield (args := #[v]) hl rfl, roundIn_of_wpIn trivial ?_⟩
      dsimp only
      rw [etmps]
      refine hassign _ v A m _ ⟨_, run_beginRound hl rfl, ?_⟩
      have hI2 := hIput s O A0 (w.heap.size + 1) (.loop { state := .busy, pending := none, fn, tmps := a.tmps, params := #[p], assign, body, defers := w.heap.size }) hi (by omega) (Nat.le_refl _)
      have hz2 := owns_put (o' := .loop { state := .busy, pending := none, fn, tmps := a.tmps, params := #[p], assign, body, defers := w.heap.size }) hz ⟨_, hl⟩
      have hsz : (A.putObj (w.heap.size + 1) (.loop { state := .busy, pending := none, fn, tmps := a.tmps, params := #[p], assign, body, defers := w.heap.size })).heap.size = A.heap.size := by simp
      have hl2 : (A.putObj (w.heap.size + 1) (.loop { state := .busy, pending := none, fn, tmps := a.tmps, params := #[p], assign, body, defers := w.heap.size })).heap[w.heap.size + 1]? = some (.loop { state := .busy, pending := none, fn, tmps := a.tmps, params := #[p], assign, body, defers := w.heap.size }) := World.putObj_heap_same hla
      have hd2 := (puts_keep (A := A) (l := w.heap.size + 1) (k := w.heap.size) (o' := .loop { state := .busy, pending := none, fn, tmps := a.tmps, params := #[p], assign, body, defers := w.heap.size }) (by omega)).trans hd
      have hb2 := below_put (l := w.heap.size + 1) (o' := .loop { state := .busy, pending := none, fn, tmps := a.tmps, params := #[p], assign, body, defers := w.heap.size }) hbel hla0
      refine wpIn_mono (hbody (w.heap.size + 1) s v zs O _ _ m hzw0 hI2 hlen hb2 hz2 (fun b hb => ⟨by rw [show (A0.putObj (w.heap.size + 1) (.loop { state := .busy, pending := none, fn, tmps := a.tmps, params := #[p], assign, body, defers := w.heap.size })).heap.size = A0.heap.size by simp]; exact (hzo b hb).1, (hzo b hb).2⟩) hzw (by simp; exact hla0)) ?_
      intro e a3 C hp
      cases e with
      | normal =>
        obtain ⟨hh, hi3⟩ := hp
        have hl3 := (hh.2 (w.heap.size + 1) (by rw [hsz]; exact hla) (.inr (.inr (.inr rfl)))).trans hl2
        have hd3 := (hh.2 w.heap.size (by rw [hsz]; omega) (.inr (.inr (.inl rfl)))).trans hd2
        have hlc := (Array.getElem?_eq_some_iff.1 hl3).1
        refine ⟨_, _, run_endRound none hl3, .inl ⟨rfl, ⟨hIput _ _ _ _ _ hi3 (by omega) (Nat.le_refl _), World.putObj_heap_same hlc, (puts_keep (by omega)).trans hd3, n0, n1⟩, ⟨by have := hh.1; rw [hsz] at this; simpa using this, fun k hk hS => ?_⟩⟩⟩
        have hne : k ≠ w.heap.size + 1 := by
          rcases hS with h | h
          · intro e; exact n1 (e ▸ h)
          · have := hT k h; omega
        exact (puts_keep hne).trans ((hh.2 k (by rw [hsz]; exact hk) (hS.elim .inl (fun h => .inr (.inl h)))).trans (puts_keep hne))
      | exit id =>
        obtain ⟨hh, hi3⟩ := hp
        have hl3 := (hh.2 (w.heap.size + 1) (by rw [hsz]; exact hla) (.inr rfl)).trans hl2
        have hd3 := (hh.2 w.heap.size (by rw [hsz]; omega) (.inl rfl)).trans hd2
        have hlc := (Array.getElem?_eq_some_iff.1 hl3).1
        exact ⟨_, _, run_endRound (some (.exit id)) hl3, .inr ⟨rfl, .exit id, hIxput _ _ _ _ _ hi3 (by omega) (Nat.le_refl _), World.putObj_heap_same hlc, (puts_keep (by omega)).trans hd3⟩⟩
      | ret => exact hp.elim
      | goto t => exact hp.elim
      | panic ch => exact hp.elim
      | outgrown => exact hp.elim
  refine ⟨w.heap.size + 1, [{ target := .collected w.heap.size, args := #[] }], W1, { target := .fn (.func gf) lb, args := #[.func (.yield (w.heap.size + 1)) #[] #[]] }, W1, gf, #[.func (.yield (w.heap.size + 1)) #[] #[]] ++ lb, W1, ?_, ?_, fun _ _ => trivial, ?_, hdd, ?_⟩
  · rw [hW1]; exact run_enterLoop_outer _ _ _ _ _
  · simp only [resolve, hg]
    simp [go_sem]
  · simp [invoke, go_sem, eg]
  · refine (callsIn_wide.2 (hiter _ _ _ W1 hclient hb1 ⟨h0 W1 hb1, hl1, hd1, fun h => h, fun h => h⟩)).mono ?_
    rintro e W2 ⟨⟨v, rfl⟩, ⟨O', hi, hl, hd, _⟩ | ⟨hpos, s', O', c, hi, hl, hd⟩⟩
    · exact ⟨none, _, run_endLoop hl (by simp), hdone O' _ (hIput _ _ _ _ _ hi (by omega) (Nat.le_refl _)) ((puts_keep (by omega)).trans hd)⟩
    · exact ⟨some c, _, run_endLoop hl (by simp), hstop c s' _ hpos (hIxput _ _ _ _ _ hi (by omega) (Nat.le_refl _)) ((puts_keep (by omega)).trans hd)⟩
end Go.Proofs.YtbblhjdcpmahkaaGreatDoor

namespace Go.Proofs.YtbblhjdcpmahkaaGreatDoor
open Go.RowKit
attribute [local go_sem] Oper.semAt_some

set_option maxRecDepth 100000 in
set_option maxHeartbeats 1000000 in
theorem ways_any (g : Nat) (a b : Int) (w : World) :
    Calls Tryz.prog 62 #[.pointer (some ⟨g, 0, none⟩), .int .i64 a, .int .i64 b] w fun e w' => e = .returned (.func (.func 75) #[] #[.pointer (some ⟨w.heap.size, 0, none⟩), .pointer (some ⟨w.heap.size + 1, 0, none⟩), .pointer (some ⟨w.heap.size + 2, 0, none⟩)]) ∧
      ((w.alloc (.cells #[.pointer (some ⟨g, 0, none⟩)] 107)).alloc (.cells #[.int .i64 a] 3)).alloc (.cells #[.int .i64 b] 3) = w' := by
  have hmf : ∀ (fn : Fn) (first cap : Array Value) (w : World), (Instr.makeFunc fn first cap).run Tryz.prog w = .ok (.func fn first cap) w := fun _ _ _ _ => rfl
  go_enter Tryz.func62, Tryz.ntmps62
  go_wp2
  go_ret
  exact ⟨rfl, rfl⟩

set_option maxRecDepth 100000 in
set_option maxHeartbeats 1000000 in
theorem waysIter_any (l g p3 p4 p5 : Nat) (T : Nat → Prop) (J Jx : List (List Int) → (Nat → Prop) → World → Prop) (t : Ty) (a b : Int) (hC : Client l T (fun z => z ∈ waysOf t a b) J Jx) (lo hi : Nat) (sv cv : Value) (w : World) (htb : typesB t a b = true) (hg : T g) (hTy : ∀ k, lo ≤ k → k < hi → T k) (hT : ∀ k, T k → k < w.heap.size)
    (hrow : Row w g 136 [sv, cv]) (hv : TyAt w lo hi sv cv t) (c3 : w.cell? ⟨p3, 0, none⟩ = some (.pointer (some ⟨g, 0, none⟩))) (c4 : w.cell? ⟨p4, 0, none⟩ = some (.int .i64 a)) (c5 : w.cell? ⟨p5, 0, none⟩ = some (.int .i64 b)) (hJ : J [] (fun _ => False) w) :
    Calls Tryz.prog 75 #[.func (.yield l) #[] #[], .pointer (some ⟨p3, 0, none⟩), .pointer (some ⟨p4, 0, none⟩), .pointer (some ⟨p5, 0, none⟩)] w fun e W' =>
      (∃ v, e = .returned v) ∧ ((∃ O', J (waysOf t a b) O' W') ∨ (0 < (waysOf t a b).length ∧ ∃ s' O', Jx s' O' W')) := by
  obtain ⟨hok, ha0, ha1, hb0, hb1⟩ := typesB_of htb
  have h5 := typesB_len hok
  have hwl : (waysF t.cos 5 a b).length ≤ 32768 := waysOf_len hok a b
  have hgo := goOn_any l w.heap.size g T _ J Jx hC lo hi sv cv t b hok hg hTy 5 a [] (.slice none 0 0) [] (fun _ => False) w (fun y hy => hy) hJ (World.ownsRow_nil _ _ _ _) (fun _ h => h.elim) (fun b h => by simp [Value.ownBlock] at h) hT (fun _ _ h => h) (fun z h => absurd h (by simp)) (by simp) hrow hv ha0 ha1 (by omega) (by simp; omega) (Nat.le_refl _)
  have Hgo := Lib.hid hgo
  clear hC hTy hT hrow hv hJ hgo htb hg
  go_enter Tryz.func75, Tryz.ntmps75
  go_wp2_with fail
  refine Hgo.out.mono ?_
  rintro e w7 ⟨bv, rfl, h⟩
  have hfin : (∃ O', J (waysOf t a b) O' w7) ∨ (0 < (waysOf t a b).length ∧ ∃ s' O', Jx s' O' w7) := by
    rcases h with ⟨_, O', _, _, h3, _⟩ | ⟨_, h1, s', O', h2⟩
    · refine .inl ⟨O', ?_⟩
      have e : ([] : List (List Int)) ++ (waysF t.cos 5 a b).map (([] : List Int) ++ ·) = waysOf t a b := by
        simp only [List.nil_append]
        exact List.map_id' _
      rw [← e]
      exact h3
    · exact .inr ⟨h1, s', O', h2⟩
  have Hfin := Lib.hid hfin
  clear h hfin Hgo
  go_wp2
  go_end0
  exact ⟨⟨_, rfl⟩, Hfin.out⟩

end Go.Proofs.YtbblhjdcpmahkaaGreatDoor

namespace Go.Proofs.YtbblhjdcpmahkaaGreatDoor
open Go.RowKit
attribute [local go_sem] Oper.semAt_some

set_option maxRecDepth 100000 in
set_option maxHeartbeats 2000000 in
theorem leads_any (lo hi g : Nat) (sv cv : Value) (t : Ty) (a b : Int) (w : World) (hv : TyAt w lo hi sv cv t) (hB : hi ≤ w.heap.size) (hrow : Row w g 136 [sv, cv]) (htb : typesB t a b = true) :
    Calls Tryz.prog 121 #[.pointer (some ⟨g, 0, none⟩), .int .i64 a, .int .i64 b] w fun e w' => e = .returned (.bool (canB t a b)) ∧ Below w.heap.size w w' := by
  refine (callsIn_wide (n := 5)).1 ?_
  refine callsIn_of_wp_marks Tryz.func121 rfl trivial ?_ rfl
  simp only [Tryz.ntmps121, List.size_toArray, List.length_cons, List.length_nil, Nat.reduceAdd, Nat.reduceSub, Array.replicate_succ, Array.replicate_zero, List.push_toArray, List.append_toArray, List.nil_append, List.cons_append]
  gi_wp2_with (refine ⟨trivial, ?_⟩; gi_at_call 62; refine (callsIn_wide.2 (ways_any g a b _)).mono ?_; rintro e w' ⟨rfl, rfl⟩)
  obtain ⟨W0, hW0⟩ : ∃ u, u = (((w.alloc (.cells #[.bool false] 4)).alloc (.cells #[.pointer (some ⟨g, 0, none⟩)] 107)).alloc (.cells #[.int .i64 a] 3)).alloc (.cells #[.int .i64 b] 3) := ⟨_, rfl⟩
  rw [← hW0]
  have hs0 : W0.heap.size = w.heap.size + 4 := by rw [hW0]; simp
  have hb0 : Below w.heap.size w W0 := by rw [hW0]; go_grown
  have rf : Row W0 w.heap.size 4 [.bool false] := by rw [hW0]; exact (((Row.new w 4 [.bool false]).alloc _).alloc _).alloc _
  have r3 : Row W0 (w.heap.size + 1) 107 [.pointer (some ⟨g, 0, none⟩)] := by
    rw [hW0]
    have := Row.new (w.alloc (.cells #[.bool false] 4)) 107 [.pointer (some ⟨g, 0, none⟩)]
    rw [World.size_alloc] at this
    exact (this.alloc _).alloc _
  have r4 : Row W0 (w.heap.size + 1 + 1) 3 [.int .i64 a] := by
    rw [hW0]
    have := Row.new ((w.alloc (.cells #[.bool false] 4)).alloc (.cells #[.pointer (some ⟨g, 0, none⟩)] 107)) 3 [.int .i64 a]
    rw [World.size_alloc, World.size_alloc] at this
    exact this.alloc _
  have r5 : Row W0 (w.heap.size + 1 + 2) 3 [.int .i64 b] := by
    rw [hW0]
    have := Row.new (((w.alloc (.cells #[.bool false] 4)).alloc (.cells #[.pointer (some ⟨g, 0, none⟩)] 107)).alloc (.cells #[.int .i64 a] 3)) 3 [.int .i64 b]
    rw [World.size_alloc, World.size_alloc, World.size_alloc] at this
    exact this
  clear hW0
  refine range_law (fun v => { tmps := #[.pointer (some ⟨g, 0, none⟩), .int .i64 a, .int .i64 b, undef, undef, undef, .bool false, .pointer (some ⟨w.heap.size, 0, none⟩), .pointer (some ⟨g, 0, none⟩), .int .i64 a, .int .i64 b, .func (.func 75) #[] #[.pointer (some ⟨w.heap.size + 1, 0, none⟩), .pointer (some ⟨w.heap.size + 1 + 1, 0, none⟩), .pointer (some ⟨w.heap.size + 1 + 2, 0, none⟩)], v, undef], defers := [] }) (fun _ _ _ _ _ hK => wpIn_skip hK) (gf := 75) (lb := #[.pointer (some ⟨w.heap.size + 1, 0, none⟩), .pointer (some ⟨w.heap.size + 1 + 1, 0, none⟩), .pointer (some ⟨w.heap.size + 1 + 2, 0, none⟩)]) rfl (enters_of Tryz.func75 (by kernel_rfl) rfl)
    (fun k => k < w.heap.size) (fun k hk => by omega) (waysOf t a b)
    (fun s O A => s = [] ∧ Row A w.heap.size 4 [.bool false] ∧ ¬ O w.heap.size ∧ (∀ k, O k → w.heap.size ≤ k) ∧ Below w.heap.size w A)
    (fun c _ A => c = .exit 0 ∧ Row A w.heap.size 4 [.bool true] ∧ Below w.heap.size w A) ?istep ?igive ?iput ?ixput ?iter ?start ?body ?done ?stop
  case istep =>
    rintro s O A C row ⟨hs, hr, hn, hO, hb⟩ hgr hrw
    refine ⟨hs, hr.keep (hgr.block _ hr.lt (fun e => hn (hrw _ e.symm))), fun h => h.elim hn (fun h => by have := hr.lt; omega), fun k h => h.elim (hO k) (fun h => by have := hb.size; omega), hb.grown hgr hb.size (fun k e => hO k (hrw k e))⟩
  case igive =>
    rintro s O O' A ⟨hs, hr, hn, hO, hb⟩ hsub
    exact ⟨hs, hr, fun h => hn (hsub _ h), fun k h => hO k (hsub k h), hb⟩
  case iput =>
    rintro s O A k o' ⟨hs, hr, hn, hO, hb⟩ h1 h2
    exact ⟨hs, hr.keep (puts_keep (by omega)), hn, hO, hb.grown (grownBy_putObj' A k o') hb.size (fun q e => by simp only [Option.some.injEq] at e; omega)⟩
  case ixput =>
    rintro c s A k o' ⟨hc, hr, hb⟩ h1 h2
    exact ⟨hc, hr.keep (puts_keep (by omega)), hb.grown (grownBy_putObj' A k o') hb.size (fun q e => by simp only [Option.some.injEq] at e; omega)⟩
  case iter =>
    intro l J Jx W1 hC hb1 hJ
    have hbb := hb0.trans (hb1.mono (by omega))
    exact waysIter_any l g (w.heap.size + 1) (w.heap.size + 1 + 1) (w.heap.size + 1 + 2) _ J Jx t a b hC lo hi sv cv W1 htb hrow.lt (fun k _ hk => by omega) (fun k hk => by have := hbb.size; omega) (hrow.below hbb hrow.lt) (hv.below hbb hB)
      ((r3.below hb1 (by omega)).cell 0) ((r4.below hb1 (by omega)).cell 0) ((r5.below hb1 (by omega)).cell 0) hJ
  case start =>
    intro W1 hb1
    exact ⟨rfl, rf.below hb1 (by omega), fun h => h, fun k h => h.elim, hb0.trans (hb1.mono (by omega))⟩
  case body =>
    rintro l s v zs O A0 A m _ ⟨hs, hr0, hn, hO, hb00⟩ _ hbel _ _ _ hlt
    have hr := hr0.below hbel hr0.lt
    have hb := hb00.trans (hbel.mono hb00.size)
    have p0 : A.cell? ⟨w.heap.size, 0, none⟩ = some (.bool false) := hr.cell 0
    have pf : A.frozen? ⟨w.heap.size, 0, none⟩ = false := hr.frozen 0
    have hset := hr.set_ 0 (.bool true)
    have Hset := Lib.hid hset
    have Hb := Lib.hid hb
    clear hset hr hb
    gi_wp2
    refine ⟨⟨by simp [World.setCell], fun k hk hS => ?_⟩, rfl, Hset.out, Hb.out.setCell (Nat.le_refl _) _⟩
    exact heap_set_ne _ _ _ _ _ (by omega)
  case done =>
    rintro O' W' ⟨hs, hr, hn, hO, hb⟩ hK
    have hfin : canB t a b = false := by unfold canB; rw [hs]; rfl
    have p0 : W'.cell? ⟨w.heap.size, 0, none⟩ = some (.bool false) := hr.cell 0
    have Hb := Lib.hid hb
    have HK := Lib.hid hK
    clear hr hb hK
    gi_wp2
    refine ⟨by simp, .inl ⟨_, _, rfl, run_takeDeferred HK.out, ?_⟩⟩
    exact ⟨_, results_tmp rfl _ _ _, by rw [hfin]; rfl, Hb.out.grown (grownBy_putObj' W' _ _) Hb.out.size (fun q e => by simp only [Option.some.injEq] at e; omega)⟩
  case stop =>
    rintro c s' W' hpos ⟨rfl, hr, hb⟩ hK
    have hfin : canB t a b = true := by unfold canB; rw [decide_eq_true_eq]; exact hpos
    have p0 : W'.cell? ⟨w.heap.size, 0, none⟩ = some (.bool true) := hr.cell 0
    have Hb := Lib.hid hb
    have HK := Lib.hid hK
    clear hr hb hK
    gi_wp2
    refine ⟨by simp, .inl ⟨_, _, rfl, run_takeDeferred HK.out, ?_⟩⟩
    exact ⟨_, results_tmp rfl _ _ _, by rw [hfin]; rfl, Hb.out.grown (grownBy_putObj' W' _ _) Hb.out.size (fun q e => by simp only [Option.some.injEq] at e; omega)⟩
end Go.Proofs.YtbblhjdcpmahkaaGreatDoor

namespace Go.Proofs.YtbblhjdcpmahkaaGreatDoor
open Go.RowKit
attribute [local go_sem] Oper.semAt_some

/-- The first one of the shortest. -/
def pickS : Option (List Int) → List Int → Option (List Int)
  | none, z => some z
  | some y, z => if z.length < y.length then some z else some y
def shortO (s : List (List Int)) : Option (List Int) := s.foldl pickS none
theorem shortO_nil : shortO [] = none := rfl
theorem shortO_snoc (s : List (List Int)) (z : List Int) : shortO (s ++ [z]) = pickS (shortO s) z := by simp [shortO, List.foldl_append]
theorem pickS_some (y z : List Int) : ∃ x, pickS (some y) z = some x ∧ (x = y ∨ x = z) := by
  by_cases h : z.length < y.length
  · exact ⟨z, by simp [pickS, h], .inr rfl⟩
  · exact ⟨y, by simp [pickS, h], .inl rfl⟩
theorem foldS (s : List (List Int)) : ∀ y, ∃ x, s.foldl pickS (some y) = some x ∧ (x = y ∨ x ∈ s) := by
  induction s with
  | nil => intro y; exact ⟨y, rfl, .inl rfl⟩
  | cons z s ih =>
    intro y
    obtain ⟨u, hu, hor⟩ := pickS_some y z
    obtain ⟨x, hx, hor2⟩ := ih u
    refine ⟨x, by rw [List.foldl_cons, hu]; exact hx, ?_⟩
    rcases hor2 with rfl | h
    · rcases hor with rfl | rfl
      · exact .inl rfl
      · exact .inr (by simp)
    · exact .inr (List.mem_cons_of_mem _ h)
theorem shortO_some (s : List (List Int)) (hs : s ≠ []) : ∃ y, shortO s = some y := by
  cases s with
  | nil => exact absurd rfl hs
  | cons z s =>
    obtain ⟨x, hx, _⟩ := foldS s z
    exact ⟨x, hx⟩
theorem shortO_mem (s : List (List Int)) (y : List Int) (h : shortO s = some y) : y ∈ s := by
  cases s with
  | nil => cases h
  | cons z s =>
    obtain ⟨x, hx, hor⟩ := foldS s z
    have h2 : s.foldl pickS (some z) = some y := h
    rw [hx] at h2
    simp only [Option.some.injEq] at h2
    subst h2
    rcases hor with rfl | h
    · simp
    · exact List.mem_cons_of_mem _ h
def shortV (t : Ty) (a b : Int) : List Int := if typesB t a b = true then (shortO (waysOf t a b)).getD [] else []
theorem shortV_yes {t : Ty} {a b : Int} (h : typesB t a b = true) : shortV t a b = (shortO (waysOf t a b)).getD [] := by unfold shortV; rw [if_pos h]
theorem shortV_no {t : Ty} {a b : Int} (h : typesB t a b = false) : shortV t a b = [] := by unfold shortV; rw [if_neg (by simp [h])]
theorem short_wf {t : Ty} (h : tyOk t = true) (a b : Int) (y : List Int) (hy : y ∈ waysOf t a b) : (∀ z ∈ y, I64 z) ∧ y.length ≤ 5 :=
  ⟨waysF_wf (tyOk_few h) 5 a b y hy, by have := waysF_short 5 a b y hy; omega⟩
theorem shortV_wf (t : Ty) (a b : Int) : (∀ z ∈ shortV t a b, I64 z) ∧ (shortV t a b).length ≤ 5 := by
  by_cases h : typesB t a b = true
  · rw [shortV_yes h]
    cases hs : shortO (waysOf t a b) with
    | none => exact ⟨fun z hz => absurd hz (by simp), by simp⟩
    | some y => exact short_wf (typesB_of h).1 a b y (shortO_mem _ y hs)
  · rw [shortV_no (by simpa using h)]
    exact ⟨fun z hz => absurd hz (by simp), by simp⟩

set_option maxRecDepth 100000 in
set_option maxHeartbeats 2000000 in
theorem l2Shortest_any (lo hi : Nat) (sv cv : Value) (t : Ty) (a b : Int) (w : World) (hv : TyAt w lo hi sv cv t) (hB : hi ≤ w.heap.size) (htb : typesB t a b = true) :
    Calls Tryz.prog 44 #[.agg #[sv, cv], .int .i64 a, .int .i64 b] w fun e w' => ∃ v, e = .returned (.tuple #[v, .bool (canC t a b)]) ∧ Below w.heap.size w w' ∧ IntsAt w' w.heap.size w'.heap.size v (shortV t a b) := by
  obtain ⟨A, cap, rfl, hl1, hm1, _⟩ := hv.1.form
  obtain ⟨B, bap, rfl, hl2, hm2, _⟩ := hv.2.form
  have hok := (typesB_of htb).1
  have h3 : Below w.heap.size w ((w.alloc (.cells #[.slice A t.sizes.length cap, .slice B t.cos.length bap] 34)).alloc (.cells #[] 3)) := by go_grown
  have hv3 := Lib.hid (hv.below h3 hB)
  have H3 := Lib.hid h3
  have hval := Lib.hid (shortV_yes htb)
  have hcan : Hid (canC t a b = decide (0 < (waysOf t a b).length)) := by show _ = _; unfold canC canB; rw [htb, Bool.true_and]
  have hwl := waysOf_len hok a b
  have hshort := Lib.hid (fun y (hy : y ∈ waysOf t a b) => (short_wf hok a b y hy).2)
  have Htb := Lib.hid htb
  clear hv h3 htb
  go_enter Tryz.func44, Tryz.ntmps44
  go_wp2_with fail
  refine (l2Ways_any lo hi _ _ t a b _ hv3.out (by simp; omega) Htb.out).mono ?_
  rintro e w1 ⟨ov, rfl, hb1, xs, S, hown, hints, hS⟩
  have hb1' := H3.out.trans (hb1.mono (by simp; omega))
  have hs1 := hb1.size
  simp only [World.size_alloc] at hs1
  have hcell : ∀ j, ∀ (hj : j < (waysOf t a b).length), ∃ g A2 c2, ov = .slice (some ⟨g, 0, none⟩) (waysOf t a b).length (match ov with | .slice _ _ c => c | _ => 0) ∧ w1.cell? ⟨g, j, none⟩ = some (.slice A2 (waysOf t a b)[j].length c2) ∧ IntsAt w1 w.heap.size w1.heap.size (.slice A2 (waysOf t a b)[j].length c2) (waysOf t a b)[j] := by
    intro j hj
    obtain ⟨x, hx, hz⟩ := hints j hj
    obtain ⟨_, ⟨_, h0⟩ | ⟨g, cap', cur, rfl, hrest⟩⟩ := hown
    · omega
    · have hc := World.ownsRow.cells (⟨‹_›, .inr ⟨g, cap', cur, rfl, hrest⟩⟩ : w1.ownsRow _ 22 1 (.slice (some ⟨g, 0, none⟩) (waysOf t a b).length cap') (waysOf t a b).length xs) (g := g) rfl j x hx
      have hat := hz.at (lo := w.heap.size) (hi := w1.heap.size) fun b hb => ⟨by have := (hS b hb).1; simp at this; omega, (hS b hb).2.1⟩
      obtain ⟨A2, c2, rfl, _, _, hat2⟩ := hat.form
      rw [Go.WideShapes.add_plain, Nat.zero_add] at hc
      exact ⟨_, A2, c2, rfl, hc, hat2⟩
  obtain ⟨OA, OC, rfl⟩ := owns_form hown
  have Hcell := Lib.hid hcell
  have Hb1 := Lib.hid hb1'
  clear hb1 hb1' hown hints hS hcell
  have hemp : Hid (IntsAt w1 w.heap.size w1.heap.size (.slice (some ⟨w.heap.size + 1, 0, none⟩) 0 0) []) := ⟨_, 0, rfl, Nat.le_refl _, Nat.zero_le _, fun z hz => absurd hz (by simp), fun h => absurd h (by simp)⟩
  go_wp2
  go_loopw [8, 19] (fun l i wr => ∃ (j : Nat) (A3 : Option Addr) (c3 : Nat), j ≤ (waysOf t a b).length ∧ i = .int .i64 j ∧ w1 = wr ∧ l = .slice A3 ((shortO ((waysOf t a b).take j)).getD []).length c3 ∧ Hid (IntsAt w1 w.heap.size w1.heap.size l ((shortO ((waysOf t a b).take j)).getD []))) (fun _ i _ => (waysOf t a b).length - (intOf i).toNat)
  case atStart => exact ⟨0, _, 0, Nat.zero_le _, rfl, rfl, rfl, hemp⟩
  case round =>
    obtain ⟨j, A3, c3, hj, rfl, rfl, rfl, hcur⟩ := hrel
    by_cases hlt : j < (waysOf t a b).length
    · obtain ⟨OA', A2, c2, e1, cz, hat⟩ := Hcell.out j hlt
      simp only [Value.slice.injEq, and_true] at e1
      subst e1
      have htake : (waysOf t a b).take (j + 1) = (waysOf t a b).take j ++ [(waysOf t a b)[j]] := List.take_succ_eq_append_getElem hlt
      have hsn := shortO_snoc ((waysOf t a b).take j) (waysOf t a b)[j]
      rw [← htake] at hsn
      have hl5 := hshort.out _ (List.getElem_mem hlt)
      have Hat := Lib.hid hat
      clear hat htake
      by_cases hj0 : j = 0
      · subst hj0
        have hnext : Hid (IntsAt w1 w.heap.size w1.heap.size (.slice A2 (waysOf t a b)[0].length c2) ((shortO ((waysOf t a b).take (0 + 1))).getD [])) := by
          show IntsAt _ _ _ _ _
          rw [hsn]
          exact Hat.out
        have hlen : ((shortO ((waysOf t a b).take (0 + 1))).getD []).length = (waysOf t a b)[0].length := by rw [hsn]; rfl
        clear hsn
        go_wp2
        go_roundw
        case rel => exact ⟨0 + 1, _, _, by omega, by go_num, trivial, by rw [hlen], hnext⟩
        case measure => simp [intOf]; omega
      · obtain ⟨y, hy⟩ := shortO_some ((waysOf t a b).take j) (by intro e; have h := congrArg List.length e; simp only [List.length_take, List.length_nil] at h; omega)
        rw [hy] at hsn hcur
        simp only [hy, Option.getD_some] at hcur ⊢
        have hy5 := hshort.out y (List.mem_of_mem_take (shortO_mem _ y hy))
        by_cases hless : (waysOf t a b)[j].length < y.length
        · have hnext : Hid (IntsAt w1 w.heap.size w1.heap.size (.slice A2 (waysOf t a b)[j].length c2) ((shortO ((waysOf t a b).take (j + 1))).getD [])) := by
            show IntsAt _ _ _ _ _
            rw [hsn, pickS, if_pos hless]
            exact Hat.out
          have hlen : ((shortO ((waysOf t a b).take (j + 1))).getD []).length = (waysOf t a b)[j].length := by rw [hsn, pickS, if_pos hless]; rfl
          have hjz : ((j : Int) == 0) = false := by simpa using hj0
          clear hsn
          go_wp2
          go_roundw
          case rel => exact ⟨j + 1, _, _, by omega, by go_num, trivial, by rw [hlen], hnext⟩
          case measure => simp [intOf]; omega
        · have hnext : Hid (IntsAt w1 w.heap.size w1.heap.size (.slice A3 y.length c3) ((shortO ((waysOf t a b).take (j + 1))).getD [])) := by
            show IntsAt _ _ _ _ _
            rw [hsn, pickS, if_neg hless]
            exact hcur.out
          have hlen : ((shortO ((waysOf t a b).take (j + 1))).getD []).length = y.length := by rw [hsn, pickS, if_neg hless]; rfl
          have hjz : ((j : Int) == 0) = false := by simpa using hj0
          clear hsn
          go_wp2
          go_roundw
          case rel => exact ⟨j + 1, _, _, by omega, by go_num, trivial, by rw [hlen], hnext⟩
          case measure => simp [intOf]; omega
    · obtain rfl : j = (waysOf t a b).length := by omega
      have hfin : Hid (IntsAt w1 w.heap.size w1.heap.size (.slice A3 ((shortO ((waysOf t a b).take (waysOf t a b).length)).getD []).length c3) (shortV t a b)) := by
        show IntsAt _ _ _ _ _
        rw [hval.out]
        have h := hcur.out
        rw [List.take_length] at h ⊢
        exact h
      clear hcur
      by_cases h0 : 0 < (waysOf t a b).length
      · have hc2 : Hid (canC t a b = true) := by show _ = _; rw [hcan.out]; simpa using h0
        go_wp2
        refine bodyPost_ret (v := .tuple #[.slice A3 ((shortO ((waysOf t a b).take (waysOf t a b).length)).getD []).length c3, .bool true]) (by simp [results, Tryz.results44, go_sem]) rfl ?_
        exact ⟨_, by rw [hc2.out], Hb1.out, hfin.out⟩
      · have hc2 : Hid (canC t a b = false) := by show _ = _; rw [hcan.out]; simpa using h0
        go_wp2
        refine bodyPost_ret (v := .tuple #[.slice A3 ((shortO ((waysOf t a b).take (waysOf t a b).length)).getD []).length c3, .bool false]) (by simp [results, Tryz.results44, go_sem]) rfl ?_
        exact ⟨_, by rw [hc2.out], Hb1.out, hfin.out⟩
end Go.Proofs.YtbblhjdcpmahkaaGreatDoor

namespace Go.Proofs.YtbblhjdcpmahkaaGreatDoor
open Go.RowKit
attribute [local go_sem] Oper.semAt_some

theorem ownsRow_raise {w : World} {base base' n : Nat} {e : TypeId} {v : Value} {xs : List Value} (h : w.ownsRow base e 1 v n xs) (hb : ∀ b, v.ownBlock = some b → base' ≤ b) : w.ownsRow base' e 1 v n xs := by
  obtain ⟨h1, h2 | ⟨g, cap, cur, rfl, _, r⟩⟩ := h
  · exact ⟨h1, .inl h2⟩
  · exact ⟨h1, .inr ⟨g, cap, cur, rfl, hb g rfl, r⟩⟩
/-- The two boxes of the loop: the shortest way so far, and whether there is one. -/
structure ShIn (n0 d : Nat) (w1 : World) (s : List (List Int)) (O : Nat → Prop) (A : World) (v : Value) : Prop where
  r0 : Row A n0 22 [v]
  r1 : Row A (n0 + 1) 4 [.bool (decide (0 < s.length))]
  own : A.ownsRow n0 3 1 v ((shortO s).getD []).length (((shortO s).getD []).map (Value.int .i64))
  no : ∀ b, v.ownBlock = some b → ¬ O b
  no0 : ¬ O n0
  no1 : ¬ O (n0 + 1)
  lo : ∀ k, O k → n0 ≤ k
  nd : ∀ b, v.ownBlock = some b → b ≠ d ∧ b ≠ d + 1
  below : Below n0 w1 A

section
variable {n0 d : Nat} {w1 A : World} {s : List (List Int)} {O : Nat → Prop} {u v : Value} {zs : List Int}
theorem ShIn.later {A0 : World} (hi : ShIn n0 d w1 s O A0 u) (hb : Below A0.heap.size A0 A) : ShIn n0 d w1 s O A u :=
  ⟨hi.r0.below hb hi.r0.lt, hi.r1.below hb hi.r1.lt, ownsRow_keep1 hi.own fun b h => hb.block b (owns_lt hi.own b h).2, hi.no, hi.no0, hi.no1, hi.lo, hi.nd, hi.below.trans (hb.mono (Nat.le_of_lt hi.r0.lt))⟩
theorem ShIn.put (hi : ShIn n0 d w1 s O A u) (hz : A.ownsRow 0 3 1 v zs.length (zs.map (Value.int .i64))) (hno : ∀ b, v.ownBlock = some b → ¬ O b ∧ ¬ b < n0) (hnd : ∀ b, v.ownBlock = some b → b ≠ d ∧ b ≠ d + 1) (hsh : shortO (s ++ [zs]) = some zs) :
    ShIn n0 d w1 (s ++ [zs]) O ((A.setCell ⟨n0, 0, none⟩ v).setCell ⟨n0 + 1, 0, none⟩ (.bool true)) v := by
  have hne0 := owns_ne_row hz hi.r0 (by decide)
  have hne1 := owns_ne_row hz hi.r1 (by decide)
  refine ⟨(hi.r0.set_ 0 v).far (by dsimp only; omega) _, ?_, ?_, fun b hb => (hno b hb).1, hi.no0, hi.no1, hi.lo, hnd, (hi.below.setCell (Nat.le_refl _) _).setCell (by dsimp only; omega) _⟩
  · have h := (hi.r1.far (p := ⟨n0, 0, none⟩) (by dsimp only; omega) v).set_ 0 (.bool true)
    have e : decide (0 < (s ++ [zs]).length) = true := by simp
    rw [e]
    exact h
  · rw [hsh]
    refine ownsRow_raise (base := 0) (ownsRow_keep1 hz fun b hb => ?_) fun b hb => by have := (hno b hb).2; omega
    exact (heap_set_ne _ _ _ _ _ (fun e => hne1 (by rw [hb, e]))).trans (heap_set_ne _ _ _ _ _ (fun e => hne0 (by rw [hb, e])))
theorem ShIn.stay (hi : ShIn n0 d w1 s O A u) (hs : 0 < s.length) (hsh : shortO (s ++ [zs]) = shortO s) : ShIn n0 d w1 (s ++ [zs]) O A u := by
  refine ⟨hi.r0, ?_, by rw [hsh]; exact hi.own, hi.no, hi.no0, hi.no1, hi.lo, hi.nd, hi.below⟩
  have e : decide (0 < (s ++ [zs]).length) = decide (0 < s.length) := by rw [decide_eq_decide]; simp; omega
  rw [e]
  exact hi.r1
theorem ShIn.holds (hi : ShIn n0 d w1 s O A u) (hd : n0 + 5 ≤ d) : HoldsOn (fun k => O k ∨ k < n0 ∨ k = d ∨ k = d + 1) A ((A.setCell ⟨n0, 0, none⟩ v).setCell ⟨n0 + 1, 0, none⟩ (.bool true)) := by
  refine ⟨by simp [World.setCell], fun k hk hS => ?_⟩
  have h0 : k ≠ n0 := fun e => by subst e; rcases hS with h | h | h | h <;> first | exact hi.no0 h | omega
  have h1 : k ≠ n0 + 1 := fun e => by subst e; rcases hS with h | h | h | h <;> first | exact hi.no1 h | omega
  exact (heap_set_ne _ _ _ _ _ h1).trans (heap_set_ne _ _ _ _ _ h0)
end

set_option maxRecDepth 100000 in
set_option maxHeartbeats 4000000 in
theorem implShort_any (lo hi : Nat) (sv cv : Value) (t : Ty) (a b : Int) (w : World) (hv : TyAt w lo hi sv cv t) (hB : hi ≤ w.heap.size) (ha : I64 a) (hb : I64 b) :
    Calls Tryz.prog 46 #[.agg #[sv, cv], .int .i64 a, .int .i64 b] w fun e w' => ∃ v, e = .returned (.tuple #[v, .bool (canC t a b)]) ∧ Below w.heap.size w w' ∧ w'.ownsRow w.heap.size 3 1 v (shortV t a b).length ((shortV t a b).map (Value.int .i64)) := by
  obtain ⟨A, cap, rfl, hl1, hm1, hi1⟩ := hv.1.form
  obtain ⟨B, bap, rfl, hl2, hm2, hc1⟩ := hv.2.form
  have Hv := Lib.hid hv
  clear hv hi1 hc1
  have h4 : Below w.heap.size w ((w.alloc (.cells #[.slice A t.sizes.length cap, .slice B t.cos.length bap] 34)).alloc (.cells #[.int .i64 a, .int .i64 b] 3)) := by go_grown
  have hone := ints_two (w.alloc (.cells #[.slice A t.sizes.length cap, .slice B t.cos.length bap] 34)) a b ha hb 3
  rw [World.size_alloc] at hone
  have hfo := finderOf_any lo hi _ _ _ _ _ t [a, b] _ (Hv.out.below h4 hB) (by simp; omega) hone (by simp only [World.size_alloc]; omega)
  have H4 := Lib.hid h4
  clear hone
  by_cases hok : typesB t a b = true
  · have hfo2 := hfo.mono (R' := fun e w' => ∃ g, e = .returned (.tuple #[.pointer (some ⟨g, 0, none⟩), .bool true]) ∧ Below w.heap.size w w' ∧ Row w' g 136 [.slice A t.sizes.length cap, .slice B t.cos.length bap]) (fun e w' h => by
      obtain ⟨p, rfl, h1, h2⟩ := h
      rw [findOk_two, hok] at h2
      obtain ⟨g, rfl, _, h3⟩ := h2 rfl
      exact ⟨g, by rw [findOk_two, hok], h4.trans (h1.mono (by simp; omega)), h3⟩)
    have Hfo := Lib.hid hfo2
    have Htb := Lib.hid hok
    have hval := Lib.hid (shortV_yes hok)
    have hcan : Hid (canC t a b = decide (0 < (waysOf t a b).length)) := by show _ = _; unfold canC canB; rw [hok, Bool.true_and]
    clear h4 hfo hfo2 hok
    refine (callsIn_wide (n := 5)).1 ?_
    refine callsIn_of_wp_marks Tryz.func46 rfl trivial ?_ rfl
    simp only [Tryz.ntmps46, List.size_toArray, List.length_cons, List.length_nil, Nat.reduceAdd, Nat.reduceSub, Array.replicate_succ, Array.replicate_zero, List.push_toArray, List.append_toArray, List.nil_append, List.cons_append]
    gi_wp2_with (first
      | (refine ⟨trivial, ?_⟩; gi_at_call 61; refine (callsIn_wide.2 Hfo.out).mono ?_; rintro e w1 ⟨g, rfl, hb1, hrow⟩)
      | (refine ⟨trivial, ?_⟩; gi_at_call 62; refine (callsIn_wide.2 (ways_any g a b _)).mono ?_; rintro e w' ⟨rfl, rfl⟩))
    have hgl := hrow.lt
    obtain ⟨W0, hW0⟩ : ∃ u, u = ((((w1.alloc (.cells #[.slice none 0 0] 22)).alloc (.cells #[.bool false] 4)).alloc (.cells #[.pointer (some ⟨g, 0, none⟩)] 107)).alloc (.cells #[.int .i64 a] 3)).alloc (.cells #[.int .i64 b] 3) := ⟨_, rfl⟩
    rw [← hW0]
    have hs0 : W0.heap.size = w1.heap.size + 5 := by rw [hW0]; simp
    have hb0 : Below w1.heap.size w1 W0 := by rw [hW0]; go_grown
    have rs : Row W0 w1.heap.size 22 [.slice none 0 0] := by rw [hW0]; exact ((((Row.new w1 22 [.slice none 0 0]).alloc _).alloc _).alloc _).alloc _
    have rf : Row W0 (w1.heap.size + 1) 4 [.bool false] := by
      rw [hW0]
      have := Row.new (w1.alloc (.cells #[.slice none 0 0] 22)) 4 [.bool false]
      rw [World.size_alloc] at this
      exact ((this.alloc _).alloc _).alloc _
    have r3 : Row W0 (w1.heap.size + 1 + 1) 107 [.pointer (some ⟨g, 0, none⟩)] := by
      rw [hW0]
      have := Row.new ((w1.alloc (.cells #[.slice none 0 0] 22)).alloc (.cells #[.bool false] 4)) 107 [.pointer (some ⟨g, 0, none⟩)]
      rw [World.size_alloc, World.size_alloc] at this
      exact (this.alloc _).alloc _
    have r4 : Row W0 (w1.heap.size + 1 + 1 + 1) 3 [.int .i64 a] := by
      rw [hW0]
      have := Row.new (((w1.alloc (.cells #[.slice none 0 0] 22)).alloc (.cells #[.bool false] 4)).alloc (.cells #[.pointer (some ⟨g, 0, none⟩)] 107)) 3 [.int .i64 a]
      rw [World.size_alloc, World.size_alloc, World.size_alloc] at this
      exact this.alloc _
    have r5 : Row W0 (w1.heap.size + 1 + 1 + 2) 3 [.int .i64 b] := by
      rw [hW0]
      have := Row.new ((((w1.alloc (.cells #[.slice none 0 0] 22)).alloc (.cells #[.bool false] 4)).alloc (.cells #[.pointer (some ⟨g, 0, none⟩)] 107)).alloc (.cells #[.int .i64 a] 3)) 3 [.int .i64 b]
      rw [World.size_alloc, World.size_alloc, World.size_alloc, World.size_alloc] at this
      exact this
    clear hW0
    have Hb1 := Lib.hid hb1
    have Hrow := Lib.hid hrow
    have hs1 := hb1.size
    clear hb1 hrow
    refine range_law (fun v => { tmps := #[.agg #[.slice A t.sizes.length cap, .slice B t.cos.length bap], .int .i64 a, .int .i64 b, .pointer (some ⟨w.heap.size, 0, none⟩), undef, undef, .slice none 0 0, .bool false, .pointer (some ⟨g, 0, none⟩), .bool true, .pointer (some ⟨w1.heap.size, 0, none⟩), .pointer (some ⟨w1.heap.size + 1, 0, none⟩), v, .tuple #[.pointer (some ⟨g, 0, none⟩), .bool true], .agg #[.slice A t.sizes.length cap, .slice B t.cos.length bap], .int .i64 a, .int .i64 b, .slice (some ⟨w.heap.size + 1, 0, none⟩) 2 2, .tuple #[.pointer (some ⟨g, 0, none⟩), .bool true], .pointer (some ⟨g, 0, none⟩), .bool true, .bool true, .bool false, .pointer (some ⟨g, 0, none⟩), .int .i64 a, .int .i64 b, .func (.func 75) #[] #[.pointer (some ⟨w1.heap.size + 1 + 1, 0, none⟩), .pointer (some ⟨w1.heap.size + 1 + 1 + 1, 0, none⟩), .pointer (some ⟨w1.heap.size + 1 + 1 + 2, 0, none⟩)], v, undef, undef, undef, undef, undef, undef, undef, undef, undef, undef, undef, undef], defers := [] }) ?assign (gf := 75) (lb := #[.pointer (some ⟨w1.heap.size + 1 + 1, 0, none⟩), .pointer (some ⟨w1.heap.size + 1 + 1 + 1, 0, none⟩), .pointer (some ⟨w1.heap.size + 1 + 1 + 2, 0, none⟩)]) rfl (enters_of Tryz.func75 (by kernel_rfl) rfl)
      (fun k => k < w1.heap.size) (fun k hk => by omega) (waysOf t a b) (fun s O A => ∃ v, ShIn w1.heap.size W0.heap.size w1 s O A v) (fun _ _ _ => False) ?istep ?igive ?iput ?ixput ?iter ?start ?body ?done ?stop
    case assign =>
      intro l v W m K hK
      gi_wp2
      exact hK
    case istep =>
      rintro s O A C row ⟨v, hi⟩ hgr hrw
      have hsz := hgr.size
      have hl0 := hi.r0.lt
      have hl1 := hi.r1.lt
      refine ⟨v, hi.r0.keep (hgr.block _ hl0 (fun e => hi.no0 (hrw _ e.symm))), hi.r1.keep (hgr.block _ hl1 (fun e => hi.no1 (hrw _ e.symm))), ownsRow_keep1 hi.own fun b hb => hgr.block b (owns_lt hi.own b hb).2 (fun e => hi.no b hb (hrw _ e.symm)),
        fun b hb h => h.elim (hi.no b hb) (fun h => by have := (owns_lt hi.own b hb).2; omega), fun h => h.elim hi.no0 (fun h => by omega), fun h => h.elim hi.no1 (fun h => by omega), fun k h => h.elim (hi.lo k) (fun h => by omega), hi.nd, hi.below.grown hgr hi.below.size (fun k e => hi.lo k (hrw k e))⟩
    case igive =>
      rintro s O O' A ⟨v, hi⟩ hsub
      exact ⟨v, hi.r0, hi.r1, hi.own, fun b hb h => hi.no b hb (hsub b h), fun h => hi.no0 (hsub _ h), fun h => hi.no1 (hsub _ h), fun k h => hi.lo k (hsub k h), hi.nd, hi.below⟩
    case iput =>
      rintro s O A k o' ⟨v, hi⟩ h1 h2
      exact ⟨v, hi.r0.keep (puts_keep (by omega)), hi.r1.keep (puts_keep (by omega)), ownsRow_keep1 hi.own fun b hb => puts_keep (by have := hi.nd b hb; omega), hi.no, hi.no0, hi.no1, hi.lo, hi.nd, hi.below.grown (grownBy_putObj' A k o') hi.below.size (fun q e => by simp only [Option.some.injEq] at e; omega)⟩
    case ixput =>
      rintro c s A k o' h _ _
      exact h.elim
    case iter =>
      intro l J Jx W1 hC hb1 hJ
      have hbb := hb0.trans (hb1.mono (by omega))
      have hbw := Hb1.out.trans (hbb.mono hs1)
      exact waysIter_any l g (w1.heap.size + 1 + 1) (w1.heap.size + 1 + 1 + 1) (w1.heap.size + 1 + 1 + 2) _ J Jx t a b hC lo hi _ _ W1 Htb.out hgl (fun k _ hk => by omega) (fun k hk => by have := hbb.size; omega) (Hrow.out.below hbb hgl) (Hv.out.below hbw hB)
        ((r3.below hb1 (by omega)).cell 0) ((r4.below hb1 (by omega)).cell 0) ((r5.below hb1 (by omega)).cell 0) hJ
    case start =>
      intro W1 hb1
      exact ⟨.slice none 0 0, rs.below hb1 (by omega), rf.below hb1 (by omega), World.ownsRow_nil _ _ _ _, fun b hb => by simp [Value.ownBlock] at hb, fun h => h, fun h => h, fun k h => h.elim, fun b hb => by simp [Value.ownBlock] at hb, hb0.trans (hb1.mono (by omega))⟩
    case body =>
      rintro l s v zs O A0' A' m _ ⟨u, hi0⟩ _ hbel hz hzo0 hzw hlt
      have hi := hi0.later hbel
      have hzo : ∀ b, v.ownBlock = some b → ¬ O b ∧ ¬ b < w1.heap.size := fun b hb => (hzo0 b hb).2
      have hzd : ∀ b, v.ownBlock = some b → b ≠ W0.heap.size ∧ b ≠ W0.heap.size + 1 := fun b hb => by have := (hzo0 b hb).1; omega
      clear hi0
      obtain ⟨VA, VC, rfl⟩ := owns_form hz
      have p0 : A'.cell? ⟨w1.heap.size, 0, none⟩ = some u := hi.r0.cell 0
      have pf0 : A'.frozen? ⟨w1.heap.size, 0, none⟩ = false := hi.r0.frozen 0
      have p1 : A'.cell? ⟨w1.heap.size + 1, 0, none⟩ = some (.bool (decide (0 < s.length))) := hi.r1.cell 0
      have pf1 : A'.frozen? ⟨w1.heap.size + 1, 0, none⟩ = false := hi.r1.frozen 0
      have Hi := Lib.hid hi
      have Hz := Lib.hid hz
      by_cases hs : 0 < s.length
      · obtain ⟨y, hy⟩ := shortO_some s (by intro e; subst e; simp at hs)
        have hown := hi.own
        rw [hy] at hown
        simp only [Option.getD_some] at hown
        obtain ⟨UA, UC, rfl⟩ := owns_form hown
        have hd1 : decide (0 < s.length) = true := by simpa using hs
        rw [hd1] at p1
        by_cases hless : zs.length < y.length
        · have hput := Lib.hid (Hi.out.put Hz.out hzo hzd (by rw [shortO_snoc, hy, pickS, if_pos hless]))
          have hhold := Lib.hid (Hi.out.holds (v := .slice VA zs.length VC) (by omega))
          clear hi hz hown
          gi_wp2
          exact ⟨hhold.out, _, hput.out⟩
        · have hstay := Lib.hid (Hi.out.stay hs (by rw [shortO_snoc, hy, pickS, if_neg hless]))
          clear hi hz hown
          gi_wp2
          exact ⟨⟨Nat.le_refl _, fun _ _ _ => rfl⟩, _, hstay.out⟩
      · obtain rfl : s = [] := List.eq_nil_of_length_eq_zero (by omega)
        have hput := Lib.hid (Hi.out.put Hz.out hzo hzd rfl)
        have hhold := Lib.hid (Hi.out.holds (v := .slice VA zs.length VC) (by omega))
        have hd1 : decide (0 < ([] : List (List Int)).length) = false := rfl
        rw [hd1] at p1
        clear hi hz
        gi_wp2
        exact ⟨hhold.out, _, hput.out⟩
    case done =>
      rintro O' W' ⟨v, hi⟩ hK
      have p0 : W'.cell? ⟨w1.heap.size, 0, none⟩ = some v := hi.r0.cell 0
      have p1 : W'.cell? ⟨w1.heap.size + 1, 0, none⟩ = some (.bool (decide (0 < (waysOf t a b).length))) := hi.r1.cell 0
      rw [← hcan.out] at p1
      have HK := Lib.hid hK
      have hbw := Lib.hid (Hb1.out.trans (hi.below.mono hs1))
      have hown : W'.ownsRow w.heap.size 3 1 v (shortV t a b).length ((shortV t a b).map (Value.int .i64)) := by rw [hval.out]; exact ownsRow_base hi.own hs1
      have Hown := Lib.hid hown
      have Hnd := Lib.hid hi.nd
      clear hi hK hown
      gi_wp2
      refine wpIn_wide.2 ?_
      go_quiet (fail)
      gi_wp2
      refine ⟨by simp, .inl ⟨_, _, rfl, run_takeDeferred (w := World.drewN W' _) HK.out, ?_⟩⟩
      refine ⟨.tuple #[v, .bool (canC t a b)], by simp [results, Tryz.results46, go_sem], v, rfl, ?_, ?_⟩
      · exact (below_drewN hbw.out _).grown (grownBy_putObj' _ _ _) hbw.out.size (fun q e => by simp only [Option.some.injEq] at e; omega)
      · exact ownsRow_keep1 Hown.out fun b hb => puts_keep (A := World.drewN W' _) (by have := Hnd.out b hb; omega)
    case stop =>
      rintro c s' W' _ h _
      exact h.elim
  · have hokf : typesB t a b = false := by simpa using hok
    have hfo2 := hfo.mono (R' := fun e w' => ∃ p, e = .returned (.tuple #[.pointer p, .bool false]) ∧ Below w.heap.size w w') (fun e w' h => by
      obtain ⟨p, rfl, h1, _⟩ := h
      exact ⟨p, by rw [findOk_two, hokf], h4.trans (h1.mono (by simp; omega))⟩)
    have Hfo := Lib.hid hfo2
    have hno := Lib.hid (shortV_no hokf)
    have hc : Hid (canC t a b = false) := by show _ = _; unfold canC; rw [hokf, Bool.false_and]
    clear h4 hfo hfo2 hok hokf
    refine (callsIn_wide (n := 5)).1 ?_
    refine callsIn_of_wp Tryz.func46 rfl trivial ?_ rfl
    simp only [Tryz.ntmps46, List.size_toArray, List.length_cons, List.length_nil, Nat.reduceAdd, Nat.reduceSub, Array.replicate_succ, Array.replicate_zero, List.push_toArray, List.append_toArray, List.nil_append, List.cons_append]
    gi_wp2_with (refine ⟨trivial, ?_⟩; gi_at_call 61; refine (callsIn_wide.2 Hfo.out).mono ?_; rintro e w1 ⟨p, rfl, hb1⟩)
    refine bodyPost_ret (v := .tuple #[.slice none 0 0, .bool false]) (by simp [results, Tryz.results46, go_sem]) rfl ?_
    refine ⟨_, by rw [hc.out], hb1, ?_⟩
    rw [hno.out]
    exact World.ownsRow_nil _ _ _ _
end Go.Proofs.YtbblhjdcpmahkaaGreatDoor

