/-
  What a list of coercions is while it is copied, and the contract of copyTypes.
  The contract of copyTypes.
  sync.Once in one goroutine, the lock free and nothing done yet: the parts of its slow road, each a contract of its own.
  The table that a coercion makes once: filled by the function that is handed to the Once.
  The contracts of the program's functions that ask whether types are valid.
  sync.Once's Do, not done yet, the lock free, over the table of a coercion; and the look-up in the table.
  The contract of the model's TypesValid.
  The contract of the program's TypesValid.
  The contracts of HasValue, the program's and the model's.
-/
import Derived.Test.YtnmbjmocnafekaaGreatDoorG4
import Derived.BigRegion
import Derived.Deep.RegionLaw
import Derived.Deep.AppendLies
import Derived.Deep.DeepCutAuto
import Derived.Test.YtnmbjmocnafekaaGreatDoorRows
import Derived.Tactics
import Derived.Tactics2
import Derived.Defers
import Derived.Laws.Pointers
import Derived.Laws.LoneSync
import Derived.RegionTactic
import Derived.RegionCalls
import Derived.ChangeAlike
import Derived.Outline
import Derived.Handy
import Derived.StillTailTactics
import Derived.Laws.CopyOwn
namespace Go.Proofs.YtnmbjmocnafekaaGreatDoor
open Go.RowKit

/-- The cells xs are k coercions f, whose maps lie in blocks of their own. -/
structure MapsOf (w : World) (base : Nat) (row : Option Nat) (f : Nat → Co) (k : Nat) (xs : List Value) (m : Nat → Nat) (mv : Nat → Value) : Prop where
  cells : ∀ i, i < k → xs[i * 3]? = some (.int .i64 (f i).src) ∧ xs[i * 3 + 1]? = some (.int .i64 (f i).dst) ∧ xs[i * 3 + 2]? = some (mv i)
  own : ∀ i, i < k → OwnI w 3 (m i) (mv i) (f i).map
  away : ∀ i, i < k → 0 < (f i).map.length → base ≤ m i ∧ m i < w.heap.size ∧ row ≠ some (m i) ∧ ∀ j, j < k → j ≠ i → 0 < (f j).map.length → m j ≠ m i

def CosOwned (w : World) (base : Nat) (l : Value) (f : Nat → Co) (k : Nat) : Prop :=
  ∃ xs m mv, w.ownsRow base 185 3 l k xs ∧ MapsOf w base l.ownBlock f k xs m mv

theorem MapsOf.keep {w w' : World} {base : Nat} {row : Option Nat} {f : Nat → Co} {k : Nat} {xs : List Value} {m : Nat → Nat} {mv : Nat → Value} (h : MapsOf w base row f k xs m mv)
    (hs : w.heap.size ≤ w'.heap.size) (hk : ∀ g, base ≤ g → g < w.heap.size → w'.heap[g]? = w.heap[g]?) : MapsOf w' base row f k xs m mv :=
  ⟨h.cells, fun i hi => (h.own i hi).keep fun h0 => hk _ (h.away i hi (by simpa using h0)).1 (h.away i hi (by simpa using h0)).2.1,
    fun i hi h0 => ⟨(h.away i hi h0).1, Nat.lt_of_lt_of_le (h.away i hi h0).2.1 hs, (h.away i hi h0).2.2⟩⟩
theorem CosOwned.keep {w w' : World} {base : Nat} {l : Value} {f : Nat → Co} {k : Nat} (h : CosOwned w base l f k)
    (hs : w.heap.size ≤ w'.heap.size) (hk : ∀ g, base ≤ g → g < w.heap.size → w'.heap[g]? = w.heap[g]?) : CosOwned w' base l f k := by
  obtain ⟨xs, m, mv, h1, h2⟩ := h
  exact ⟨xs, m, mv, ownsRow_keep h1 hk, h2.keep hs hk⟩
theorem CosOwned.nil (w : World) (base : Nat) (f : Nat → Co) : CosOwned w base (.slice none 0 0) f 0 :=
  ⟨[], fun _ => 0, fun _ => .slice none 0 0, World.ownsRow_nil _ _ _ _, fun i hi => absurd hi (by omega), fun i hi => absurd hi (by omega), fun i hi => absurd hi (by omega)⟩
theorem owns_lt {w : World} {base : Nat} {t : TypeId} {size : Nat} {v : Value} {n : Nat} {xs : List Value} (h : w.ownsRow base t size v n xs) : ∀ g, v.ownBlock = some g → base ≤ g ∧ g < w.heap.size := by
  intro g hg
  obtain ⟨_, ⟨rfl, _⟩ | ⟨g', cap, cur, rfl, hb, hh, _⟩⟩ := h
  · simp [Value.ownBlock] at hg
  · simp [Value.ownBlock] at hg
    subst hg
    refine ⟨hb, ?_⟩
    rcases Nat.lt_or_ge g' w.heap.size with hlt | hge
    · exact hlt
    · rw [Array.getElem?_eq_none hge] at hh; cases hh

theorem MapsOf.step {w w2 w3 : World} {base : Nat} {l : Value} {f : Nat → Co} {k : Nat} {xs : List Value} {m : Nat → Nat} {mv : Nat → Value} {v : Value} {g' : Nat}
    (h : MapsOf w base l.ownBlock f k xs m mv) (hl : xs.length = k * 3) (hb : base ≤ w.heap.size) (h12 : Below w.heap.size w w2)
    {bv : Nat} (hbv : w.heap.size ≤ bv) (hown : w2.ownsRow bv 3 1 v (f k).map.length ((f k).map.map (Value.int .i64))) (hlt : ∀ g, l.ownBlock = some g → g < w.heap.size)
    (hg : w2.grownBy w3 l.ownBlock) (hat : l.ownBlock = some g' ∨ g' = w2.heap.size) :
    ∃ m' mv', MapsOf w3 base (some g') f (k + 1) (xs ++ [.int .i64 (f k).src, .int .i64 (f k).dst, v]) m' mv' ∧ ∀ i, i < k + 1 → 0 < (f i).map.length → m' i < w.heap.size ∨ bv ≤ m' i := by
  obtain ⟨g, hog, hgb⟩ := OwnI.of_owns hown
  have hsz := h12.size
  have hsz3 := hg.size
  refine ⟨fun i => if i = k then g else m i, fun i => if i = k then v else mv i, ⟨fun i hi => ?_, fun i hi => ?_, fun i hi h0 => ?_⟩, fun i hi h0 => ?_⟩
  · by_cases e : i = k
    · subst e
      simp [hl]
    · rw [if_neg e]
      obtain ⟨a, b, c⟩ := h.cells i (by omega)
      rw [List.getElem?_append_left (by omega), List.getElem?_append_left (by omega), List.getElem?_append_left (by omega)]
      exact ⟨a, b, c⟩
  · by_cases e : i = k
    · subst e
      rw [if_pos rfl, if_pos rfl]
      refine hog.keep fun h0 => ?_
      have := hgb (by simpa using h0)
      exact hg.block _ this.2 (fun hc => by have := hlt _ hc.symm; omega)
    · rw [if_neg e, if_neg e]
      refine (h.own i (by omega)).keep fun h0 => ?_
      obtain ⟨a, b, c, _⟩ := h.away i (by omega) (by simpa using h0)
      exact (hg.block _ (by omega) (fun hc => c hc.symm)).trans (h12.block _ b)
  · by_cases e : i = k
    · subst e
      rw [if_pos rfl]
      have hgg := hgb h0
      refine ⟨by omega, by omega, ?_, fun j hj hne h1 => ?_⟩
      · intro hc
        injection hc with hc
        rcases hat with hat | hat
        · have := hlt _ hat; omega
        · omega
      · rw [if_neg hne]
        have := (h.away j (by omega) h1).2.1
        omega
    · rw [if_neg e]
      obtain ⟨a, b, c, d⟩ := h.away i (by omega) h0
      refine ⟨a, by omega, ?_, fun j hj hne h1 => ?_⟩
      · intro hc
        injection hc with hc
        rcases hat with hat | hat
        · exact c (by rw [hat, hc])
        · omega
      · by_cases ej : j = k
        · subst ej
          rw [if_pos rfl]
          have := hgb h1
          omega
        · rw [if_neg ej]
          exact d j (by omega) hne h1
  · by_cases e : i = k
    · subst e
      simp only [if_true]
      exact .inr (hgb h0).1
    · simp only [if_neg e]
      exact .inl (h.away i (by omega) h0).2.1

theorem CosOwned.push {w w2 w3 : World} {base : Nat} {l : Value} {f : Nat → Co} {k : Nat} {xs : List Value} {m : Nat → Nat} {mv : Nat → Value} {v : Value} {g' cap3 : Nat} {c : Co} {o : Obj}
    (h : MapsOf w base l.ownBlock f k xs m mv) (how : w.ownsRow base 185 3 l k xs) (hb : base ≤ w.heap.size) (hf : f k = c) (h12 : Below w.heap.size w w2)
    (hown : w2.ownsRow w.heap.size 3 1 v c.map.length (c.map.map (Value.int .i64))) (hg : (w2.alloc o).grownBy w3 l.ownBlock) (hat : l.ownBlock = some g' ∨ g' = w2.heap.size + 1)
    (h3 : w3.ownsRow base 185 3 (.slice (some ⟨g', 0, none⟩) (k + 1) cap3) (k + 1) (xs ++ [.int .i64 c.src, .int .i64 c.dst, v])) : CosOwned w3 base (.slice (some ⟨g', 0, none⟩) (k + 1) cap3) f (k + 1) := by
  subst hf
  obtain ⟨m', mv', hm, _⟩ := h.step (w2 := w2.alloc o) how.1 hb (h12.alloc h12.size o) (Nat.le_refl _) (hown.alloc o) (fun g hg => (owns_lt how g hg).2) hg (by rcases hat with a | a; exact .inl a; exact .inr (by rw [a]; simp))
  exact ⟨_, m', mv', h3, hm⟩
theorem ownsRow_keep1 {w w' : World} {base : Nat} {t : TypeId} {size : Nat} {v : Value} {n : Nat} {xs : List Value} (h : w.ownsRow base t size v n xs) (hk : ∀ g, v.ownBlock = some g → w'.heap[g]? = w.heap[g]?) : w'.ownsRow base t size v n xs := by
  obtain ⟨h1, h2 | ⟨g, cap, cur, e, hg, hh, r⟩⟩ := h
  · exact ⟨h1, .inl h2⟩
  · exact ⟨h1, .inr ⟨g, cap, cur, e, hg, (hk g (by rw [e]; rfl)).trans hh, r⟩⟩
/-- As 'push', with a store behind it into a block that was made between the list and the coercion. -/
theorem CosOwned.push_store {w w2 w3 w4 : World} {base bv : Nat} {l : Value} {f : Nat → Co} {k : Nat} {xs : List Value} {m : Nat → Nat} {mv : Nat → Value} {v : Value} {g' cap3 : Nat} {c : Co} {o : Obj}
    (h : MapsOf w base l.ownBlock f k xs m mv) (how : w.ownsRow base 185 3 l k xs) (hb : base ≤ w.heap.size) (hf : f k = c) (h12 : Below w.heap.size w w2) (hbv : w.heap.size ≤ bv) (hbv2 : bv ≤ w2.heap.size)
    (hown : w2.ownsRow bv 3 1 v c.map.length (c.map.map (Value.int .i64))) (hg : (w2.alloc o).grownBy w3 l.ownBlock) (hat : l.ownBlock = some g' ∨ g' = w2.heap.size + 1)
    (h3 : w3.ownsRow base 185 3 (.slice (some ⟨g', 0, none⟩) (k + 1) cap3) (k + 1) (xs ++ [.int .i64 c.src, .int .i64 c.dst, v]))
    (hs4 : w3.heap.size ≤ w4.heap.size) (hk4 : ∀ g, g < w.heap.size ∨ bv ≤ g → w4.heap[g]? = w3.heap[g]?) : CosOwned w4 base (.slice (some ⟨g', 0, none⟩) (k + 1) cap3) f (k + 1) := by
  subst hf
  obtain ⟨m', mv', hm, hfar⟩ := h.step (w2 := w2.alloc o) how.1 hb (h12.alloc h12.size o) hbv (hown.alloc o) (fun g hg => (owns_lt how g hg).2) hg (by rcases hat with a | a; exact .inl a; exact .inr (by rw [a]; simp))
  refine ⟨_, m', mv', ownsRow_keep1 h3 (fun g hg => hk4 g ?_), hm.cells, fun i hi => (hm.own i hi).keep fun h0 => hk4 _ (hfar i hi (by simpa using h0)), fun i hi h0 => ?_⟩
  · have e : g' = g := by
      have h : some g' = some g := hg
      injection h
    subst e
    rcases hat with a | a
    · exact .inl (owns_lt how _ a).2
    · exact .inr (by omega)
  · obtain ⟨a, b, c, d⟩ := hm.away i hi h0
    exact ⟨a, by omega, c, d⟩
end Go.Proofs.YtnmbjmocnafekaaGreatDoor

namespace Go.Proofs.YtnmbjmocnafekaaGreatDoor
open Go.RowKit

theorem infoCoercionW : (Tryz.prog.info? 185).map (fun i => (i.zero, i.size, i.bytes)) = some (some (.agg #[.int .i64 0, .int .i64 0, .slice none 0 0]), 3, 40) := by kernel_rfl

theorem owns_form {w : World} {base : Nat} {t : TypeId} {size : Nat} {v : Value} {n : Nat} {xs : List Value} (h : w.ownsRow base t size v n xs) : ∃ A c, v = .slice A n c := by
  obtain ⟨_, ⟨rfl, rfl⟩ | ⟨g', cap, cur, rfl, _⟩⟩ := h
  · exact ⟨_, _, rfl⟩
  · exact ⟨_, _, rfl⟩

end Go.Proofs.YtnmbjmocnafekaaGreatDoor

namespace Go.Proofs.YtnmbjmocnafekaaGreatDoor
open Go.RowKit

end Go.Proofs.YtnmbjmocnafekaaGreatDoor

namespace Go.Proofs.YtnmbjmocnafekaaGreatDoor
open Go.RowKit

/-- What the table holds. -/
def tabOf (zs : List Int) : List Value := zs.map (Value.int .i64) ++ List.replicate (4 - zs.length) (.int .i64 (-1))

end Go.Proofs.YtnmbjmocnafekaaGreatDoor

namespace Go.Proofs.YtnmbjmocnafekaaGreatDoor
open Go.RowKit

def ixB (i n : Int) : Bool := decide (0 ≤ i ∧ i < n)
theorem ixB_yes {i n : Int} (h1 : 0 ≤ i) (h2 : i < n) : ixB i n = true := by simp [ixB, h1, h2]
theorem ixB_low {i n : Int} (h1 : ¬ 0 ≤ i) : ixB i n = false := by simp [ixB, h1]
theorem ixB_high {i n : Int} (h1 : ¬ i < n) : ixB i n = false := by simp [ixB, h1]
theorem ixB_no {i n : Int} (h : ¬ (0 ≤ i ∧ i < n)) : ixB i n = false := by simp [ixB]; omega

theorem isIndex_any (i n : Int) (w : World) : Calls Tryz.prog 93 #[.int .i64 i, .int .i64 n] w fun e w' => e = .returned (.bool (ixB i n)) ∧ w = w' := by
  by_cases h1 : 0 ≤ i
  · by_cases h2 : i < n
    · have H := Lib.hid (ixB_yes h1 h2)
      go_enter Tryz.func93, Tryz.ntmps93
      go_wp2
      go_ret
      exact ⟨ret_bool H.out.symm, rfl⟩
    · have H := Lib.hid (ixB_high h2)
      go_enter Tryz.func93, Tryz.ntmps93
      go_wp2
      go_ret
      exact ⟨ret_bool H.out.symm, rfl⟩
  · have H := Lib.hid (ixB_low (n := n) h1)
    go_enter Tryz.func93, Tryz.ntmps93
    go_wp2
    go_ret
    exact ⟨ret_bool H.out.symm, rfl⟩

set_option maxHeartbeats 1000000 in
theorem sizesValid_any (lo hi : Nat) (v : Value) (ss : List Int) (w : World) (hv : IntsAt w lo hi v ss) (_hB : hi ≤ w.heap.size) :
    Calls Tryz.prog 141 #[v] w fun e w' => e = .returned (.bool (sizesOk ss)) ∧ w = w' := by
  obtain ⟨A, cap, rfl, hl1, hm1, hi1⟩ := hv.form
  unfold maxLen at hm1
  clear hv
  by_cases ha : 1 ≤ ss.length
  · by_cases hb : ss.length ≤ 5
    · have d1 : decide ((ss.length : Int) < 1) = false := by simp; omega
      have d2 : decide ((5 : Int) < (ss.length : Int)) = false := by simp; omega
      have Hi1 := Lib.hid hi1
      clear hi1
      go_enter Tryz.func141, Tryz.ntmps141
      go_wp2
      clear d1 d2
      go_loop [15] (fun i => ∃ k : Nat, k ≤ ss.length ∧ i = .int .i64 k ∧ Hid (∀ j, j < k → ∀ (hj : j < ss.length), inB ss[j] 1 4 = true)) (fun i => ss.length - (intOf i).toNat)
      case atStart => exact ⟨0, Nat.zero_le _, rfl, fun j hj => absurd hj (by omega)⟩
      case round =>
        obtain ⟨k, hk, rfl, hok2⟩ := hrel
        by_cases hkl : k < ss.length
        · obtain ⟨b3, off3, rfl, _, _, c3, _⟩ := Hi1.out.at_ hkl
          by_cases h1 : 1 ≤ ss[k]
          · by_cases h4 : ss[k] ≤ 4
            · have hin' := Lib.hid (inB_yes h1 h4)
              go_wp2
              go_round
              case rel =>
                refine ⟨k + 1, by omega, by go_num, fun j hj hjl => ?_⟩
                by_cases ej : j = k
                · subst ej; exact hin'.out
                · exact hok2.out j (by omega) hjl
              case measure => simp [intOf]; omega
            · have hfin : Hid (sizesOk ss = false) := by
                show sizesOk ss = false
                unfold sizesOk
                rw [all_false_of (p := fun n => inB n 1 4) k hkl (inB_high h4), Bool.and_false]
              go_wp2
              go_ret
              exact ⟨ret_bool hfin.out.symm, rfl⟩
          · have hfin : Hid (sizesOk ss = false) := by
              show sizesOk ss = false
              unfold sizesOk
              rw [all_false_of (p := fun n => inB n 1 4) k hkl (inB_low h1), Bool.and_false]
            go_wp2
            go_ret
            exact ⟨ret_bool hfin.out.symm, rfl⟩
        · obtain rfl : k = ss.length := by omega
          have hfin : Hid (sizesOk ss = true) := by
            show sizesOk ss = true
            unfold sizesOk
            rw [all_true_of fun j hj => hok2.out j hj hj]
            simp [ha, hb]
          go_wp2
          go_ret
          exact ⟨ret_bool hfin.out.symm, rfl⟩
    · have hfin : Hid (sizesOk ss = false) := by
        show sizesOk ss = false
        unfold sizesOk
        simp [hb]
      go_enter Tryz.func141, Tryz.ntmps141
      go_wp2
      go_ret
      exact ⟨ret_bool hfin.out.symm, rfl⟩
  · have hfin : Hid (sizesOk ss = false) := by
      show sizesOk ss = false
      unfold sizesOk
      simp [ha]
    go_enter Tryz.func141, Tryz.ntmps141
    go_wp2
    go_ret
    exact ⟨ret_bool hfin.out.symm, rfl⟩

set_option maxRecDepth 100000 in
set_option maxHeartbeats 2000000 in
theorem fits_no (lo hi lo' hi' : Nat) (sv x y z : Value) (ss : List Int) (c : Co) (w : World) (hv : IntsAt w lo hi sv ss) (hc : CoAt w lo' hi' x y z c) (hB : hi ≤ w.heap.size) (_hB' : hi' ≤ w.heap.size) (hok : sizesOk ss = true) (hno : coHead ss c = false) :
    Calls Tryz.prog 142 #[.agg #[x, y, z], sv] w fun e w' => e = .returned (.bool false) ∧ Below w.heap.size w w' := by
  obtain ⟨h1, h5, hall⟩ := sizesOk_of hok
  obtain ⟨rfl, rfl, hs, hd, hz⟩ := hc
  obtain ⟨A, cap, rfl, _, _, hi1⟩ := hv.form
  obtain ⟨A', cap', rfl, hl2, hm2, hi2⟩ := hz.form
  unfold I64 at hs hd
  unfold maxLen at hm2
  have h3 : Below w.heap.size w (w.alloc (.cells #[.int .i64 c.src, .int .i64 c.dst, .slice A' c.map.length cap'] 185)) := by go_grown
  by_cases ha : 0 ≤ c.src ∧ c.src < ss.length
  · have hA := ixB_yes ha.1 ha.2
    by_cases hb : 0 ≤ c.dst ∧ c.dst < ss.length
    · have hB2 := ixB_yes hb.1 hb.2
      by_cases hlt' : c.src < c.dst
      · have hlt : c.src.toNat < ss.length := by omega
        obtain ⟨b, off, rfl, _, hbh, c0, _⟩ := (hi1.below h3 hB).at_ hlt
        have hne : ((c.map.length : Int) != ss[c.src.toNat]) = true := by
          have : ¬ (c.map.length : Int) = ss[c.src.toNat] := by
            intro e
            simp only [coHead, decide_eq_false_iff_not] at hno
            apply hno
            rw [List.getD_eq_getElem?_getD, List.getElem?_eq_getElem hlt]
            exact ⟨ha.1, by omega, by omega, e⟩
          simpa using this
        have hsi := ha.1
        have hsi2 := ha.2
        go_enter Tryz.func142, Tryz.ntmps142
        go_wp2_with (go_at_call 93; refine (isIndex_any _ _ _).mono ?_; rintro e w' ⟨rfl, rfl⟩)
        go_quiet (fail)
        go_wp2
        go_ret
        exact ⟨rfl, below_drewN h3 _⟩
      · go_enter Tryz.func142, Tryz.ntmps142
        go_wp2_with (go_at_call 93; refine (isIndex_any _ _ _).mono ?_; rintro e w' ⟨rfl, rfl⟩)
        go_ret
        exact ⟨rfl, h3⟩
    · have hB2 := ixB_no hb
      go_enter Tryz.func142, Tryz.ntmps142
      go_wp2_with (go_at_call 93; refine (isIndex_any _ _ _).mono ?_; rintro e w' ⟨rfl, rfl⟩)
      go_ret
      exact ⟨rfl, h3⟩
  · have hA := ixB_no ha
    go_enter Tryz.func142, Tryz.ntmps142
    go_wp2_with (go_at_call 93; refine (isIndex_any _ _ _).mono ?_; rintro e w' ⟨rfl, rfl⟩)
    go_ret
    exact ⟨rfl, h3⟩
end Go.Proofs.YtnmbjmocnafekaaGreatDoor

namespace Go.Proofs.YtnmbjmocnafekaaGreatDoor
open Go.RowKit

/-- What the table gives for a value. -/
def lookOf (zs : List Int) (v : Int) : Int := if 0 ≤ v ∧ v < zs.length then zs.getD v.toNat 0 else -1
theorem tabOf_get (zs : List Int) (hn : zs.length ≤ 4) (v : Int) (h0 : 0 ≤ v) (h4 : v < 4) : (tabOf zs)[v.toNat]? = some (.int .i64 (lookOf zs v)) := by
  unfold tabOf lookOf
  by_cases h : v < zs.length
  · rw [List.getElem?_append_left (by simp; omega), List.getElem?_map, List.getElem?_eq_getElem (by omega), if_pos ⟨h0, h⟩, List.getD_eq_getElem?_getD, List.getElem?_eq_getElem (by omega)]
    rfl
  · rw [List.getElem?_append_right (by simp; omega), if_neg (fun hh => h hh.2), List.length_map, List.getElem?_replicate, if_pos (by omega)]
theorem lookOf_out (zs : List Int) (hn : zs.length ≤ 4) (v : Int) (h : ¬ (0 ≤ v ∧ v < 4)) : lookOf zs v = -1 := by
  unfold lookOf
  rw [if_neg (fun hh => h ⟨hh.1, by omega⟩)]

end Go.Proofs.YtnmbjmocnafekaaGreatDoor

namespace Go.Proofs.YtnmbjmocnafekaaGreatDoor
open Go.RowKit

set_option maxRecDepth 100000 in
set_option maxHeartbeats 2000000 in
theorem specValid_any (lo hi : Nat) (sv cv : Value) (t : Ty) (w : World) (hv : TyAt w lo hi sv cv t) (hB : hi ≤ w.heap.size) :
    Calls Tryz.prog 67 #[.agg #[sv, cv]] w fun e w' => e = .returned (.bool (tyOk t)) ∧ Below w.heap.size w w' := by
  obtain ⟨A, cap, rfl, hl1, hm1, hi1⟩ := hv.1.form
  obtain ⟨B, bap, rfl, hl2, hm2, hc1⟩ := hv.2.form
  unfold maxLen at hm1 hm2
  have h3 : Below w.heap.size w (w.alloc (.cells #[.slice A t.sizes.length cap, .slice B t.cos.length bap] 33)) := by go_grown
  clear hv
  by_cases ha : 1 ≤ t.sizes.length ∧ t.sizes.length ≤ 5
  · have hA : inB (t.sizes.length : Int) 1 5 = true := inB_yes (by omega) (by omega)
    by_cases hb : t.cos.length ≤ 8
    · have hd : decide ((8 : Int) < (t.cos.length : Int)) = false := by simp; omega
      have Hc1 := Lib.hid hc1
      have Hi1 := Lib.hid hi1
      have H3 := Lib.hid h3
      clear hc1 hi1 h3
      go_enter Tryz.func67, Tryz.ntmps67
      go_wp2_with (go_at_call 49; refine (l1In_any _ _ _ _).mono ?_; rintro e w' ⟨rfl, rfl⟩; rw [hA])
      clear hd hA
      go_loop [21] (fun i => ∃ k : Nat, k ≤ t.sizes.length ∧ i = .int .i64 k ∧ Hid (∀ j, j < k → ∀ (hj : j < t.sizes.length), inB t.sizes[j] 1 4 = true)) (fun i => t.sizes.length - (intOf i).toNat)
      case atStart => exact ⟨0, Nat.zero_le _, rfl, fun j hj => absurd hj (by omega)⟩
      case round =>
        obtain ⟨k, hk, rfl, hok2⟩ := hrel
        by_cases hkl : k < t.sizes.length
        · obtain ⟨b3, off3, rfl, _, _, c3, _⟩ := (Hi1.out.below H3.out hB).at_ hkl
          by_cases hin : inB t.sizes[k] 1 4 = true
          · have hin' := Lib.hid hin
            go_wp2_with (go_at_call 49; refine (l1In_any _ _ _ _).mono ?_; rintro e w' ⟨rfl, rfl⟩; rw [hin])
            go_round
            case rel =>
              refine ⟨k + 1, by omega, by go_num, fun j hj hjl => ?_⟩
              by_cases ej : j = k
              · subst ej; exact hin'.out
              · exact hok2.out j (by omega) hjl
            case measure => simp [intOf]; omega
          · have hinf : inB t.sizes[k] 1 4 = false := by simpa using hin
            have hfin : Hid (tyOk t = false) := tyOk_false1 (by
              unfold sizesOk
              rw [all_false_of k hkl hinf, Bool.and_false])
            clear hin
            go_wp2_with (go_at_call 49; refine (l1In_any _ _ _ _).mono ?_; rintro e w' ⟨rfl, rfl⟩; rw [hinf])
            go_ret
            exact ⟨ret_bool hfin.out.symm, H3.out⟩
        · obtain rfl : k = t.sizes.length := by omega
          have hsz : Hid (sizesOk t.sizes = true) := by
            show sizesOk t.sizes = true
            unfold sizesOk
            rw [all_true_of fun j hj => hok2.out j hj hj]
            simp [ha]
          go_wp2
          have hb8 := Lib.hid (tyOk_of hsz.out hb)
          clear hok2
          obtain ⟨wo, hwo⟩ : ∃ wo : World, wo = w.alloc (.cells #[.slice A t.sizes.length cap, .slice B t.cos.length bap] 33) := ⟨_, rfl⟩
          have hcells : wo.cell? ⟨w.heap.size, 0, none⟩ = some (.slice A t.sizes.length cap) ∧ wo.cell? ⟨w.heap.size, 1, none⟩ = some (.slice B t.cos.length bap) ∧ wo.heap.size = w.heap.size + 1 ∧ Below w.heap.size w wo := by
            subst hwo
            exact ⟨by simp [go_sem], by simp [go_sem], by simp, H3.out⟩
          rw [← hwo]
          clear hwo H3
          have Hwo := Lib.hid hcells
          clear hcells
          go_loopw [32] (fun i wr => ∃ k : Nat, k ≤ t.cos.length ∧ i = .int .i64 k ∧ Below (w.heap.size + 1) wo wr ∧ Hid (∀ j, j < k → ∀ (hj : j < t.cos.length), coOk t.sizes t.cos[j] = true)) (fun i _ => t.cos.length - (intOf i).toNat)
          case atStart => exact ⟨0, Nat.zero_le _, rfl, Below.refl _ _, fun j hj => absurd hj (by omega)⟩
          case round =>
            obtain ⟨k, hk, rfl, hbr, hok2⟩ := hrel
            have hbo : Below w.heap.size w wr := Hwo.out.2.2.2.trans (hbr.mono (by omega))
            have q0 : wr.cell? ⟨w.heap.size, 0, none⟩ = some (.slice A t.sizes.length cap) := (hbr.cell (p := ⟨w.heap.size, 0, none⟩) (by dsimp only; omega)).trans Hwo.out.1
            have q1 : wr.cell? ⟨w.heap.size, 1, none⟩ = some (.slice B t.cos.length bap) := (hbr.cell (p := ⟨w.heap.size, 1, none⟩) (by dsimp only; omega)).trans Hwo.out.2.1
            have hsr : w.heap.size + 1 ≤ wr.heap.size := by have := hbr.size; rw [Hwo.out.2.2.1] at this; exact this
            have hlr : w.heap.size < wr.heap.size := by omega
            by_cases hkl : k < t.cos.length
            · obtain ⟨b4, off4, A2, cap2, rfl, _, _, c0, c1, c2, _, _, hs4, hd4, hz4⟩ := (Hc1.out.below hbo hB).at_ hkl
              have hi4 := Hi1.out.below hbo hB
              have Hz4 := Lib.hid hz4
              have Hi4 := Lib.hid hi4
              have Hbr := Lib.hid hbr
              have Hbo := Lib.hid hbo
              clear hz4 hi4 hbr hbo
              by_cases hin : coOk t.sizes t.cos[k] = true
              · have hin' := Lib.hid hin
                go_wp2_with fail
                refine (l1Map_any lo hi lo hi _ _ _ _ t.sizes t.cos[k] (wr.alloc (.cells #[.int .i64 t.cos[k].src, .int .i64 t.cos[k].dst, .slice A2 t.cos[k].map.length cap2] 185)) (Hi4.out.below ((Below.refl _ _).alloc (Nat.le_refl _) _) (by omega)) ⟨rfl, rfl, hs4, hd4, Hz4.out.below ((Below.refl _ _).alloc (Nat.le_refl _) _) (by omega)⟩ (by simp; omega) (by simp; omega) hsz.out).mono ?_
                rintro e w' ⟨rfl, hbb⟩
                have Hbb := Lib.hid hbb
                clear hbb
                rw [hin]
                go_wp2
                go_roundw
                case rel =>
                  refine ⟨k + 1, by omega, by go_num, (Hbr.out.alloc (by omega) _).trans (Hbb.out.mono (by simp; omega)), fun j hj hjl => ?_⟩
                  by_cases ej : j = k
                  · subst ej; exact hin'.out
                  · exact hok2.out j (by omega) hjl
                case measure => simp [intOf]; omega
              · have hinf : coOk t.sizes t.cos[k] = false := by simpa using hin
                have hfin : Hid (tyOk t = false) := by
                  show tyOk t = false
                  rw [hb8.out]
                  exact all_false_of k hkl hinf
                clear hin
                go_wp2_with fail
                refine (l1Map_any lo hi lo hi _ _ _ _ t.sizes t.cos[k] (wr.alloc (.cells #[.int .i64 t.cos[k].src, .int .i64 t.cos[k].dst, .slice A2 t.cos[k].map.length cap2] 185)) (Hi4.out.below ((Below.refl _ _).alloc (Nat.le_refl _) _) (by omega)) ⟨rfl, rfl, hs4, hd4, Hz4.out.below ((Below.refl _ _).alloc (Nat.le_refl _) _) (by omega)⟩ (by simp; omega) (by simp; omega) hsz.out).mono ?_
                rintro e w' ⟨rfl, hbb⟩
                have Hbb := Lib.hid hbb
                clear hbb
                rw [hinf]
                go_wp2
                go_ret
                exact ⟨ret_bool hfin.out.symm, (Hbo.out.alloc (by omega) _).trans (Hbb.out.mono (by simp; omega))⟩
            · obtain rfl : k = t.cos.length := by omega
              have hfin : Hid (tyOk t = true) := by
                show tyOk t = true
                rw [hb8.out]
                exact all_true_of fun j hj => hok2.out j hj hj
              have Hbo := Lib.hid hbo
              clear hbo hbr
              go_wp2
              go_ret
              exact ⟨ret_bool hfin.out.symm, Hbo.out⟩
    · have hfin : Hid (tyOk t = false) := tyOk_false2 hb
      go_enter Tryz.func67, Tryz.ntmps67
      go_wp2_with (go_at_call 49; refine (l1In_any _ _ _ _).mono ?_; rintro e w' ⟨rfl, rfl⟩; rw [hA])
      go_ret
      exact ⟨ret_bool hfin.out.symm, h3⟩
  · have hA : inB (t.sizes.length : Int) 1 5 = false := by
      by_cases h0 : 1 ≤ t.sizes.length
      · exact inB_high (by omega)
      · exact inB_low (by omega)
    have hfin : Hid (tyOk t = false) := tyOk_false1 (by unfold sizesOk; simp [ha])
    go_enter Tryz.func67, Tryz.ntmps67
    go_wp2_with (go_at_call 49; refine (l1In_any _ _ _ _).mono ?_; rintro e w' ⟨rfl, rfl⟩; rw [hA])
    go_ret
    exact ⟨ret_bool hfin.out.symm, h3⟩
end Go.Proofs.YtnmbjmocnafekaaGreatDoor

namespace Go.Proofs.YtnmbjmocnafekaaGreatDoor
open Go.RowKit

set_option maxRecDepth 100000 in
set_option maxHeartbeats 2000000 in
theorem fits_yes (lo hi lo' hi' : Nat) (sv x y z : Value) (ss : List Int) (c : Co) (w : World) (hv : IntsAt w lo hi sv ss) (hc : CoAt w lo' hi' x y z c) (hB : hi ≤ w.heap.size) (hB' : hi' ≤ w.heap.size) (hok : sizesOk ss = true) (hyes : coHead ss c = true) :
    Calls Tryz.prog 142 #[.agg #[x, y, z], sv] w fun e w' => e = .returned (.bool (coOk ss c)) ∧ Below w.heap.size w w' := by
  obtain ⟨h1, h5, hall⟩ := sizesOk_of hok
  obtain ⟨rfl, rfl, hs, hd, hz⟩ := hc
  obtain ⟨A, cap, rfl, _, _, hi1⟩ := hv.form
  obtain ⟨A', cap', rfl, hl2, hm2, hi2⟩ := hz.form
  unfold I64 at hs hd
  unfold maxLen at hm2
  have hyes' := hyes
  simp only [coHead, decide_eq_true_eq] at hyes'
  obtain ⟨e1, e2, e3, e4⟩ := hyes'
  have h3 : Below w.heap.size w (w.alloc (.cells #[.int .i64 c.src, .int .i64 c.dst, .slice A' c.map.length cap'] 185)) := by go_grown
  have hA := ixB_yes (i := c.src) (n := ss.length) (by omega) (by omega)
  have hB2 := ixB_yes (i := c.dst) (n := ss.length) (by omega) (by omega)
  have hlt : c.src.toNat < ss.length := by omega
  have hlt2 : c.dst.toNat < ss.length := by omega
  have hsi2 : c.src < (ss.length : Int) := by omega
  have hle : decide (c.dst ≤ c.src) = false := by simp; omega
  obtain ⟨b, off, rfl, _, hbh, c0, _⟩ := (hi1.below h3 hB).at_ hlt
  rw [List.getD_eq_getElem?_getD, List.getElem?_eq_getElem hlt] at e4
  have hne : ((c.map.length : Int) != ss[c.src.toNat]) = false := by simpa using e4
  have hyz := Lib.hid hyes
  have h4 := Lib.hid e4
  clear hyes e4
  go_enter Tryz.func142, Tryz.ntmps142
  go_wp2_with (go_at_call 93; refine (isIndex_any _ _ _).mono ?_; rintro e w' ⟨rfl, rfl⟩)
  go_quiet (fail)
  go_wp2
  clear hA hB2 hne c0 hle
  obtain ⟨b2, off2, eb2, _, hbh2, c02, _⟩ := (hi1.below h3 hB).at_ hlt2
  injection eb2 with eb2
  injection eb2 with eb2 eo2
  subst eb2 eo2
  have hd0 : 0 ≤ c.dst := by omega
  have Hi2 := Lib.hid (hi2.below h3 hB')
  have H3 := Lib.hid h3
  clear hi1 hi2 hv hz h3 hall
  go_loop [40] (fun i => ∃ k : Nat, k ≤ c.map.length ∧ i = .int .i64 k ∧ Hid (∀ j, j < k → ∀ (hj : j < c.map.length), inB c.map[j] 0 (ss.getD c.dst.toNat 0 - 1) = true)) (fun i => c.map.length - (intOf i).toNat)
  case atStart => exact ⟨0, Nat.zero_le _, rfl, fun j hj => absurd hj (by omega)⟩
  case round =>
    obtain ⟨k, hk, rfl, hok2⟩ := hrel
    by_cases hkl : k < c.map.length
    · obtain ⟨b3, off3, rfl, _, _, c3, _⟩ := Hi2.out.at_ hkl
      by_cases hin : 0 ≤ c.map[k] ∧ c.map[k] < ss[c.dst.toNat]
      · have hin' : Hid (inB c.map[k] 0 (ss.getD c.dst.toNat 0 - 1) = true) := by
          rw [List.getD_eq_getElem?_getD, List.getElem?_eq_getElem hlt2]
          exact inB_yes hin.1 (by simp; omega)
        have hix := ixB_yes hin.1 hin.2
        clear hin
        go_wp2_with (go_at_call 93; refine (isIndex_any _ _ _).mono ?_; rintro e w' ⟨rfl, rfl⟩; rw [hix])
        go_round
        case rel =>
          refine ⟨k + 1, by omega, by go_num, fun j hj hjl => ?_⟩
          by_cases ej : j = k
          · subst ej; exact hin'.out
          · exact hok2.out j (by omega) hjl
        case measure => simp [intOf]; omega
      · have hix := ixB_no hin
        have hfin : Hid (coOk ss c = false) := by
          show coOk ss c = false
          unfold coOk
          rw [hyz.out, Bool.true_and]
          refine all_false_of k hkl ?_
          rw [List.getD_eq_getElem?_getD, List.getElem?_eq_getElem hlt2]
          by_cases h0 : 0 ≤ c.map[k]
          · exact inB_high (by simp; omega)
          · exact inB_low h0
        clear hin
        go_wp2_with (go_at_call 93; refine (isIndex_any _ _ _).mono ?_; rintro e w' ⟨rfl, rfl⟩; rw [hix])
        go_ret
        exact ⟨ret_bool hfin.out.symm, below_drewN H3.out _⟩
    · obtain rfl : k = c.map.length := by omega
      have hfin : Hid (coOk ss c = true) := by
        show coOk ss c = true
        unfold coOk
        rw [hyz.out, Bool.true_and]
        exact all_true_of fun j hj => hok2.out j hj hj
      go_wp2
      go_ret
      exact ⟨ret_bool hfin.out.symm, below_drewN H3.out _⟩

theorem fits_any (lo hi lo' hi' : Nat) (sv x y z : Value) (ss : List Int) (c : Co) (w : World) (hv : IntsAt w lo hi sv ss) (hc : CoAt w lo' hi' x y z c) (hB : hi ≤ w.heap.size) (hB' : hi' ≤ w.heap.size) (hok : sizesOk ss = true) :
    Calls Tryz.prog 142 #[.agg #[x, y, z], sv] w fun e w' => e = .returned (.bool (coOk ss c)) ∧ Below w.heap.size w w' := by
  by_cases h : coHead ss c = true
  · exact fits_yes lo hi lo' hi' sv x y z ss c w hv hc hB hB' hok h
  · have hf : coHead ss c = false := by simpa using h
    have e : coOk ss c = false := by unfold coOk; rw [hf, Bool.false_and]
    rw [e]
    exact fits_no lo hi lo' hi' sv x y z ss c w hv hc hB hB' hok hf

set_option maxRecDepth 100000 in
set_option maxHeartbeats 2000000 in
theorem implValid_any (lo hi : Nat) (sv cv : Value) (t : Ty) (w : World) (hv : TyAt w lo hi sv cv t) (hB : hi ≤ w.heap.size) :
    Calls Tryz.prog 109 #[.agg #[sv, cv]] w fun e w' => e = .returned (.bool (tyOk t)) ∧ Below w.heap.size w w' := by
  obtain ⟨A, cap, rfl, hl1, hm1, hi1⟩ := hv.1.form
  obtain ⟨B, bap, rfl, hl2, hm2, hc1⟩ := hv.2.form
  unfold maxLen at hm1 hm2
  have h3 : Below w.heap.size w (w.alloc (.cells #[.slice A t.sizes.length cap, .slice B t.cos.length bap] 33)) := by go_grown
  clear hv
  have hi0 := hi1.below h3 hB
  by_cases hA : sizesOk t.sizes = true
  · by_cases hb : t.cos.length ≤ 8
    · have hd : decide ((8 : Int) < (t.cos.length : Int)) = false := by simp; omega
      have Hc1 := Lib.hid hc1
      have Hi1 := Lib.hid hi1
      have Hi0 := Lib.hid hi0
      have H3 := Lib.hid h3
      clear hc1 hi1 h3 hi0
      go_enter Tryz.func109, Tryz.ntmps109
      go_wp2_with (go_at_call 141; refine (sizesValid_any lo hi _ t.sizes _ Hi0.out (by simp; omega)).mono ?_; rintro e w' ⟨rfl, rfl⟩; rw [hA])
      have hsz := Lib.hid hA
      clear hd hA
      have hb8 := Lib.hid (tyOk_of hsz.out hb)
      obtain ⟨wo, hwo⟩ : ∃ wo : World, wo = w.alloc (.cells #[.slice A t.sizes.length cap, .slice B t.cos.length bap] 33) := ⟨_, rfl⟩
      have hcells : wo.cell? ⟨w.heap.size, 0, none⟩ = some (.slice A t.sizes.length cap) ∧ wo.cell? ⟨w.heap.size, 1, none⟩ = some (.slice B t.cos.length bap) ∧ wo.heap.size = w.heap.size + 1 ∧ Below w.heap.size w wo := by
        subst hwo
        exact ⟨by simp [go_sem], by simp [go_sem], by simp, H3.out⟩
      rw [← hwo]
      clear hwo H3
      have Hwo := Lib.hid hcells
      clear hcells
      go_loopw [18] (fun i wr => ∃ k : Nat, k ≤ t.cos.length ∧ i = .int .i64 k ∧ Below (w.heap.size + 1) wo wr ∧ Hid (∀ j, j < k → ∀ (hj : j < t.cos.length), coOk t.sizes t.cos[j] = true)) (fun i _ => t.cos.length - (intOf i).toNat)
      case atStart => exact ⟨0, Nat.zero_le _, rfl, Below.refl _ _, fun j hj => absurd hj (by omega)⟩
      case round =>
        obtain ⟨k, hk, rfl, hbr, hok2⟩ := hrel
        have hbo : Below w.heap.size w wr := Hwo.out.2.2.2.trans (hbr.mono (by omega))
        have q0 : wr.cell? ⟨w.heap.size, 0, none⟩ = some (.slice A t.sizes.length cap) := (hbr.cell (p := ⟨w.heap.size, 0, none⟩) (by dsimp only; omega)).trans Hwo.out.1
        have q1 : wr.cell? ⟨w.heap.size, 1, none⟩ = some (.slice B t.cos.length bap) := (hbr.cell (p := ⟨w.heap.size, 1, none⟩) (by dsimp only; omega)).trans Hwo.out.2.1
        have hsr : w.heap.size + 1 ≤ wr.heap.size := by have := hbr.size; rw [Hwo.out.2.2.1] at this; exact this
        have hlr : w.heap.size < wr.heap.size := by omega
        by_cases hkl : k < t.cos.length
        · obtain ⟨b4, off4, A2, cap2, rfl, _, _, c0, c1, c2, _, _, hs4, hd4, hz4⟩ := (Hc1.out.below hbo hB).at_ hkl
          have hi4 := Hi1.out.below hbo hB
          have Hz4 := Lib.hid hz4
          have Hi4 := Lib.hid hi4
          have Hbr := Lib.hid hbr
          have Hbo := Lib.hid hbo
          clear hz4 hi4 hbr hbo
          by_cases hin : coOk t.sizes t.cos[k] = true
          · have hin' := Lib.hid hin
            go_wp2_with fail
            refine (fits_any lo hi lo hi _ _ _ _ t.sizes t.cos[k] (wr.alloc (.cells #[.int .i64 t.cos[k].src, .int .i64 t.cos[k].dst, .slice A2 t.cos[k].map.length cap2] 185)) (Hi4.out.below ((Below.refl _ _).alloc (Nat.le_refl _) _) (by omega)) ⟨rfl, rfl, hs4, hd4, Hz4.out.below ((Below.refl _ _).alloc (Nat.le_refl _) _) (by omega)⟩ (by simp; omega) (by simp; omega) hsz.out).mono ?_
            rintro e w' ⟨rfl, hbb⟩
            have Hbb := Lib.hid hbb
            clear hbb
            rw [hin]
            go_wp2
            go_roundw
            case rel =>
              refine ⟨k + 1, by omega, by go_num, (Hbr.out.alloc (by omega) _).trans (Hbb.out.mono (by simp; omega)), fun j hj hjl => ?_⟩
              by_cases ej : j = k
              · subst ej; exact hin'.out
              · exact hok2.out j (by omega) hjl
            case measure => simp [intOf]; omega
          · have hinf : coOk t.sizes t.cos[k] = false := by simpa using hin
            have hfin : Hid (tyOk t = false) := by
              show tyOk t = false
              rw [hb8.out]
              exact all_false_of k hkl hinf
            clear hin
            go_wp2_with fail
            refine (fits_any lo hi lo hi _ _ _ _ t.sizes t.cos[k] (wr.alloc (.cells #[.int .i64 t.cos[k].src, .int .i64 t.cos[k].dst, .slice A2 t.cos[k].map.length cap2] 185)) (Hi4.out.below ((Below.refl _ _).alloc (Nat.le_refl _) _) (by omega)) ⟨rfl, rfl, hs4, hd4, Hz4.out.below ((Below.refl _ _).alloc (Nat.le_refl _) _) (by omega)⟩ (by simp; omega) (by simp; omega) hsz.out).mono ?_
            rintro e w' ⟨rfl, hbb⟩
            have Hbb := Lib.hid hbb
            clear hbb
            rw [hinf]
            go_wp2
            go_ret
            exact ⟨ret_bool hfin.out.symm, (Hbo.out.alloc (by omega) _).trans (Hbb.out.mono (by simp; omega))⟩
        · obtain rfl : k = t.cos.length := by omega
          have hfin : Hid (tyOk t = true) := by
            show tyOk t = true
            rw [hb8.out]
            exact all_true_of fun j hj => hok2.out j hj hj
          have Hbo := Lib.hid hbo
          clear hbo hbr
          go_wp2
          go_ret
          exact ⟨ret_bool hfin.out.symm, Hbo.out⟩
    · have hfin : Hid (tyOk t = false) := tyOk_false2 hb
      have Hi0 := Lib.hid hi0
      clear hi0
      go_enter Tryz.func109, Tryz.ntmps109
      go_wp2_with (go_at_call 141; refine (sizesValid_any lo hi _ t.sizes _ Hi0.out (by simp; omega)).mono ?_; rintro e w' ⟨rfl, rfl⟩; rw [hA])
      go_ret
      exact ⟨ret_bool hfin.out.symm, h3⟩
  · have hAf : sizesOk t.sizes = false := by simpa using hA
    have hfin : Hid (tyOk t = false) := tyOk_false1 hAf
    have Hi0 := Lib.hid hi0
    clear hi0 hA
    go_enter Tryz.func109, Tryz.ntmps109
    go_wp2_with (go_at_call 141; refine (sizesValid_any lo hi _ t.sizes _ Hi0.out (by simp; omega)).mono ?_; rintro e w' ⟨rfl, rfl⟩; rw [hAf])
    go_ret
    exact ⟨ret_bool hfin.out.symm, h3⟩
end Go.Proofs.YtnmbjmocnafekaaGreatDoor

namespace Go.Proofs.YtnmbjmocnafekaaGreatDoor
open Go.RowKit

theorem inB_ix (i n : Int) : inB i 0 (n - 1) = ixB i n := by
  unfold inB ixB
  rw [decide_eq_decide]
  omega
/-- Is v a value of the type k? -/
def hasV0 (ss : List Int) (k v : Int) : Bool := ixB k ss.length && ixB v (ss.getD k.toNat 0)
def hasV (t : Ty) (k v : Int) : Bool := tyOk t && hasV0 t.sizes k v
theorem hasV0_no {ss : List Int} {k v : Int} (h : ixB k ss.length = false) : hasV0 ss k v = false := by unfold hasV0; rw [h, Bool.false_and]
theorem hasV0_yes {ss : List Int} {k v : Int} (h : ixB k ss.length = true) (hk : k.toNat < ss.length) : hasV0 ss k v = ixB v ss[k.toNat] := by
  unfold hasV0; rw [h, Bool.true_and, List.getD_eq_getElem?_getD, List.getElem?_eq_getElem hk]; rfl
theorem tyOk_sizes {t : Ty} (h : tyOk t = true) : sizesOk t.sizes = true := by
  unfold tyOk at h
  simp only [Bool.and_eq_true] at h
  exact h.1.1

set_option maxRecDepth 100000 in
set_option maxHeartbeats 1000000 in
theorem l1Has_any (lo hi : Nat) (sv cv : Value) (t : Ty) (k v : Int) (w : World) (hv : TyAt w lo hi sv cv t) (hB : hi ≤ w.heap.size) (hok : sizesOk t.sizes = true) :
    Calls Tryz.prog 87 #[.agg #[sv, cv], .int .i64 k, .int .i64 v] w fun e w' => e = .returned (.bool (hasV0 t.sizes k v)) ∧ Below w.heap.size w w' := by
  obtain ⟨A, cap, rfl, hl1, hm1, hi1⟩ := hv.1.form
  obtain ⟨B, bap, rfl, hl2, hm2, _⟩ := hv.2.form
  obtain ⟨g1, g5, hall⟩ := sizesOk_of hok
  have h3 : Below w.heap.size w (w.alloc (.cells #[.slice A t.sizes.length cap, .slice B t.cos.length bap] 33)) := by go_grown
  clear hv
  by_cases ha : 0 ≤ k ∧ k < t.sizes.length
  · have hA := ixB_yes ha.1 ha.2
    have hlt : k.toNat < t.sizes.length := by omega
    have hfin := Lib.hid (hasV0_yes (v := v) hA hlt)
    obtain ⟨b, off, rfl, _, _, c0, _⟩ := (hi1.below h3 hB).at_ hlt
    have hsz := hall _ hlt
    have hA2 : inB k 0 ((t.sizes.length : Int) - 1) = true := by rw [inB_ix]; exact hA
    have hk0 := ha.1
    have hk1 := ha.2
    clear hA hall hi1 ha
    have H3 := Lib.hid h3
    clear h3
    go_enter Tryz.func87, Tryz.ntmps87
    go_wp2_with (go_at_call 49; refine (l1In_any _ _ _ _).mono ?_; rintro e w' ⟨rfl, rfl⟩)
    go_ret
    exact ⟨ret_bool (by rw [hfin.out, inB_ix]), H3.out⟩
  · have hA := ixB_no ha
    have hfin := Lib.hid (hasV0_no (v := v) hA)
    have hA2 : inB k 0 ((t.sizes.length : Int) - 1) = false := by rw [inB_ix]; exact hA
    clear hA ha
    go_enter Tryz.func87, Tryz.ntmps87
    go_wp2_with (go_at_call 49; refine (l1In_any _ _ _ _).mono ?_; rintro e w' ⟨rfl, rfl⟩)
    go_ret
    exact ⟨ret_bool hfin.out.symm, h3⟩

end Go.Proofs.YtnmbjmocnafekaaGreatDoor

