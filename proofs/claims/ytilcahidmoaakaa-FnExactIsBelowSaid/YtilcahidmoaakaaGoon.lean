/-
  The contract of the program's goOn: it yields all ways from a type, in order, to whatever client keeps what it must.
-/
import Derived.Test.YtilcahidmoaakaaFs
import Derived.Test.YtilcahidmoaakaaWayc
import Derived.Test.YtilcahidmoaakaaClone
import Derived.RangeFuncSeq
import Derived.RangeFuncIn
import Derived.RangeFuncCalls
import Derived.Shelf.Abstract
import Derived.OwnWalkIn
import Derived.TacticsInMore
import Derived.Deep.RegionLaw
namespace Go.Proofs.Ytilcahidmoaakaa
open Go.RowKit

/-- The blocks of S are as they were. -/
def HoldsOn (S : Nat → Prop) (w w' : World) : Prop := w.heap.size ≤ w'.heap.size ∧ ∀ k, k < w.heap.size → S k → w'.heap[k]? = w.heap[k]?
/-- Who takes what is yielded: J s O w: the ways s have come; the iterator owns the blocks of O. -/
structure Client (l : Nat) (T : Nat → Prop) (Z : List Int → Prop) (J Jx : List (List Int) → (Nat → Prop) → World → Prop) : Prop where
  step : ∀ s O A C row, J s O A → A.grownBy C row → (∀ r, row = some r → O r) → J s (fun k => O k ∨ (A.heap.size ≤ k ∧ k < C.heap.size)) C
  give : ∀ s O O' A, J s O A → (∀ k, O' k → O k) → J s O' A
  round : ∀ s v zs O A0 A, Z zs → J s O A0 → s.length < 40000 → Below A0.heap.size A0 A → A.ownsRow 0 3 1 v zs.length (zs.map (Value.int .i64)) → (∀ b, v.ownBlock = some b → A0.heap.size ≤ b ∧ ¬ O b ∧ ¬ T b) → (∀ z ∈ zs, I64 z) →
    ∀ m, YieldAt Fence.wide m Try.prog l #[v] A fun e C => (e = .returned (.bool true) ∧ J (s ++ [zs]) O C ∧ HoldsOn (fun k => O k ∨ T k) A C) ∨ (e = .returned (.bool false) ∧ Jx (s ++ [zs]) O C)

theorem grown_of_below {w w' : World} (h : Below w.heap.size w w') : w.grownBy w' none := ⟨h.os, h.tape, h.output, h.size, fun k hk _ => h.block k hk⟩

/-- What goOn leaves. -/
def Gone (J Jx : List (List Int) → (Nat → Prop) → World → Prop) (T : Nat → Prop) (base : Nat) (rowv : Value) (pre : List Int) (s : List (List Int)) (O : Nat → Prop) (ways : List (List Int)) (w : World) (e : Ending) (w' : World) : Prop :=
  ∃ bv, e = .returned (.bool bv) ∧ ((bv = true ∧ ∃ O' : Nat → Prop, (∀ b, O b → O' b) ∧ (∀ b, O' b → (O b ∨ w.heap.size ≤ b) ∧ b < w'.heap.size) ∧ J (s ++ ways.map (pre ++ ·)) O' w' ∧ HoldsOn (fun b => (O b ∧ rowv.ownBlock ≠ some b) ∨ T b) w w' ∧
      w'.ownsRow base 3 1 rowv pre.length (pre.map (Value.int .i64))) ∨
    (bv = false ∧ 0 < ways.length ∧ ∃ s' O', Jx s' O' w'))

attribute [local go_sem] Oper.semAt_some

set_option maxRecDepth 100000 in
set_option maxHeartbeats 4000000 in
theorem goOn_here (l base g : Nat) (T : Nat → Prop) (Z : List Int → Prop) (J Jx : List (List Int) → (Nat → Prop) → World → Prop) (hC : Client l T Z J Jx) (n : Nat) (k : Int) (pre : List Int) (rowv : Value) (s : List (List Int)) (O : Nat → Prop) (w : World) (cs : List Co)
    (hZ : Z pre) (hJ : J s O w) (hown : w.ownsRow base 3 1 rowv pre.length (pre.map (Value.int .i64))) (hO : ∀ b, O b → b < w.heap.size) (hro : ∀ b, rowv.ownBlock = some b → O b) (hT : ∀ b, T b → b < w.heap.size) (hwf : ∀ z ∈ pre, I64 z) (hpl : pre.length ≤ 20) (hs : s.length < 40000) :
    Calls Try.prog 167 #[.pointer (some ⟨g, 0, none⟩), rowv, .int .i64 k, .int .i64 k, .func (.yield l) #[] #[]] w (Gone J Jx T base rowv pre s O (waysF cs (n + 1) k k) w) := by
  have hz := ownsRow.intsAt (lo := base) (hi := w.heap.size) hown hwf (Nat.le_refl _) (Nat.le_refl _)
  have hcl := clone_any base w.heap.size rowv pre w hz (Nat.le_refl _) (by omega)
  have hdd : ∀ k : Nat, (Fence.wide.depth.isSome = true → 1 ≤ k) := fun k h => by simp [Fence.wide] at h
  refine (callsIn_wide (n := 3)).1 ?_
  refine callsIn_of_wp Try.func167 rfl trivial ?_ rfl
  simp only [Try.ntmps167, List.size_toArray, List.length_cons, List.length_nil, Nat.reduceAdd, Nat.reduceSub, Array.replicate_succ, Array.replicate_zero, List.push_toArray, List.append_toArray, List.nil_append, List.cons_append]
  gi_wp2
  refine ⟨trivial, ?_⟩
  gi_at_call 157
  refine (callsIn_wide.2 hcl).mono ?_
  rintro e w1 ⟨v, rfl, hb1, hown1⟩
  have hz1 : ∀ b, v.ownBlock = some b → w.heap.size ≤ b ∧ ¬ O b ∧ ¬ T b := fun b hb => by
    have h := (owns_lt hown1 b hb).1
    exact ⟨h, fun h2 => by have := hO b h2; omega, fun h2 => by have := hT b h2; omega⟩
  obtain ⟨fn, tmps, assign, body, hy, hR⟩ := hC.round s v pre O w w1 hZ hJ hs hb1 (ownsRow_lower hown1 (Nat.zero_le _)) hz1 hwf 2
  have h1s := hb1.size
  have Hb1 := Lib.hid hb1
  have Hown := Lib.hid hown
  clear hz hcl hown1 hz1 hb1 hown hJ hC
  gi_wp2
  refine hR.mono ?_
  rintro e w2 (⟨rfl, hJ2, hh2⟩ | ⟨rfl, hx2⟩)
  · have hfin : Gone J Jx T base rowv pre s O (waysF cs (n + 1) k k) w (.returned (.bool true)) w2 := by
      refine ⟨true, rfl, .inl ⟨rfl, O, fun b h => h, fun b h => ⟨.inl h, ?_⟩, by rw [waysF_eq]; simpa using hJ2, ⟨Nat.le_trans h1s hh2.1, fun b hb hS => ?_⟩, ?_⟩⟩
      · have := hO b h; have := hh2.1; omega
      · exact (hh2.2 b (by omega) (hS.elim (fun h => .inl h.1) .inr)).trans (Hb1.out.block b hb)
      · exact ownsRow_keep1 Hown.out fun b hb => (hh2.2 b (by have := hO b (hro b hb); omega) (.inl (hro b hb))).trans (Hb1.out.block b (hO b (hro b hb)))
    have Hfin := Lib.hid hfin
    clear hfin hJ2 hh2 hR hy
    gi_wp2
    go_ret
    exact Hfin.out
  · have hfin : Gone J Jx T base rowv pre s O (waysF cs (n + 1) k k) w (.returned (.bool false)) w2 := ⟨false, rfl, .inr ⟨rfl, by rw [waysF_eq]; simp, _, _, hx2⟩⟩
    have Hfin := Lib.hid hfin
    clear hfin hx2 hR hy
    gi_wp2
    go_ret
    exact Hfin.out
end Go.Proofs.Ytilcahidmoaakaa
