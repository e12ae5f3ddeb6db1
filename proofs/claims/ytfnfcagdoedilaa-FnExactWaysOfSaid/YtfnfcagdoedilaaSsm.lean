/-
  Lists of lists of numbers that the call owns: the laws' functions that mark and look for the marks.
-/
import Derived.Test.YtfnfcagdoedilaaSs
import Derived.Test.YtfnfcagdoedilaaFs
import Derived.Test.YtfnfcagdoedilaaLgen
namespace Go.Proofs.Ytfnfcagdoedilaa
open Go.RowKit

def lsum (f : Nat → List Int) : Nat → Nat
  | 0 => 0
  | i + 1 => lsum f i + (f i).length
theorem lsum_mono (f : Nat → List Int) {i j : Nat} (h : i ≤ j) : lsum f i ≤ lsum f j := by
  induction j with
  | zero => obtain rfl : i = 0 := by omega
            exact Nat.le_refl _
  | succ j ih =>
    by_cases e : i = j + 1
    · rw [e]; exact Nat.le_refl _
    · have := ih (by omega)
      show _ ≤ lsum f j + _
      omega
/-- The list lies at the head of block g, its j-th member at the head of block gs j. -/
structure OwnSS (w : World) (g : Nat) (gs : Nat → Nat) (v : Value) (n : Nat) (f : Nat → List Int) (xs : List Value) : Prop where
  out : SlAt w 23 g v n xs
  own : ∀ i, i < n → ∃ x, xs[i]? = some x ∧ OwnI w 3 (gs i) x (f i)
  ne : ∀ i j, i < n → j < n → i ≠ j → 0 < (f i).length → 0 < (f j).length → gs i ≠ gs j
section
variable {w w' : World} {g n : Nat} {gs : Nat → Nat} {v : Value} {f : Nat → List Int} {xs : List Value}
theorem OwnSS.apart (h : OwnSS w g gs v n f xs) {i : Nat} (hi : i < n) (h0 : 0 < (f i).length) : g ≠ gs i := by
  intro e
  obtain ⟨x, _, A, cap, _, _, _, _, h4⟩ := h.own i hi
  obtain ⟨_, rest, hr⟩ := h4 h0
  obtain ⟨B, cap', _, _, _, _, h5⟩ := h.out
  obtain ⟨_, rest', hr'⟩ := h5 (by omega)
  rw [← e] at hr
  unfold Row at hr hr'
  rw [hr] at hr'
  simp only [Option.some.injEq, Obj.cells.injEq] at hr'
  exact absurd hr'.2.1 (by decide)
theorem OwnSS.keep (h : OwnSS w g gs v n f xs) (hk : ∀ k, (k = g ∧ 0 < n ∨ ∃ i, i < n ∧ 0 < (f i).length ∧ k = gs i) → w'.heap[k]? = w.heap[k]?) : OwnSS w' g gs v n f xs :=
  ⟨h.out.keep fun h0 => hk g (.inl ⟨rfl, h0⟩), fun i hi => by
    obtain ⟨x, hx, ho⟩ := h.own i hi
    exact ⟨x, hx, SlAt.keep ho fun h0 => hk (gs i) (.inr ⟨i, hi, h0, rfl⟩)⟩, h.ne⟩
theorem OwnSS.ss {lo hi : Nat} (h : OwnSS w g gs v n f xs) (hw : ∀ i, i < n → ∀ z ∈ f i, I64 z) (hg : 0 < n → lo ≤ g ∧ g < hi) (hgs : ∀ i, i < n → 0 < (f i).length → lo ≤ gs i ∧ gs i < hi) : SSAt w lo hi v ((List.range n).map f) := by
  have e : ((List.range n).map f).length = n := by simp
  obtain ⟨A, cap, rfl, h1, h2, h3, h4⟩ := h.out
  refine ⟨A, cap, by rw [e], by rw [e]; exact h1, h2, fun h0 => ?_⟩
  rw [e] at h0
  obtain ⟨rfl, rest, hr⟩ := h4 h0
  refine ⟨g, 0, rfl, (hg h0).1, (hg h0).2, fun k hk => ?_⟩
  rw [e] at hk
  obtain ⟨x, hx, ho⟩ := h.own k hk
  refine ⟨x, ?_, ?_⟩
  · rw [Nat.zero_add, hr.cell, List.getElem?_append_left (List.getElem?_eq_some_iff.1 hx).1]
    exact hx
  · simp only [List.getElem_map, List.getElem_range]
    exact ho.ints (hw k hk) (hgs k hk)
theorem OwnSS.congr {f' : Nat → List Int} (h : OwnSS w g gs v n f xs) (hf : ∀ i, i < n → f i = f' i) : OwnSS w g gs v n f' xs :=
  ⟨h.out, fun i hi => by rw [← hf i hi]; exact h.own i hi, fun i j hi hj hne h0 h1 => h.ne i j hi hj hne (by rw [hf i hi]; exact h0) (by rw [hf j hj]; exact h1)⟩
theorem OwnSS.cell (h : OwnSS w g gs v n f xs) {i : Nat} (hi : i < n) : ∃ (x : Value) (cap : Nat), v = .slice (some ⟨g, 0, none⟩) n cap ∧ w.cell? ⟨g, i, none⟩ = some x ∧ OwnI w 3 (gs i) x (f i) := by
  obtain ⟨A, cap, rfl, h1, h2, h3, h4⟩ := h.out
  obtain ⟨rfl, rest, hr⟩ := h4 (by omega)
  obtain ⟨x, hx, ho⟩ := h.own i hi
  refine ⟨x, cap, rfl, ?_, ho⟩
  rw [hr.cell, List.getElem?_append_left (List.getElem?_eq_some_iff.1 hx).1]
  exact hx
/-- One member has been marked. -/
theorem OwnSS.marked {j : Nat} {ys : List Int} {x : Value} (h : OwnSS w g gs v n f xs) (hj : j < n) (hx : xs[j]? = some x) (hl : ys.length = (f j).length) (hk : Kept (fun k => 0 < (f j).length → k ≠ gs j) w w') (ho : OwnI w' 3 (gs j) x ys) : OwnSS w' g gs v n (fun i => if i = j then ys else f i) xs := by
  refine ⟨h.out.keep fun h0 => hk.block g (h.out.lt h0) (fun h1 => h.apart hj h1), fun i hi => ?_, fun i i' hi hi' hne h0 h1 => ?_⟩
  · by_cases e : i = j
    · subst e
      exact ⟨x, hx, by rw [if_pos rfl]; exact ho⟩
    · obtain ⟨y, hy, hoy⟩ := h.own i hi
      refine ⟨y, hy, ?_⟩
      rw [if_neg e]
      exact SlAt.keep hoy fun h0 => hk.block (gs i) (SlAt.lt hoy h0) (fun h1 => h.ne i j hi hj e h0 h1)
  · refine h.ne i i' hi hi' hne ?_ ?_
    · by_cases e : i = j
      · subst e; rw [if_pos rfl, hl] at h0; exact h0
      · rw [if_neg e] at h0; exact h0
    · by_cases e : i' = j
      · subst e; rw [if_pos rfl, hl] at h1; exact h1
      · rw [if_neg e] at h1; exact h1
end

def mixS (f : Nat → List Int) (k0 : Int) (j i : Nat) : List Int := if i < j then markL (k0 + (lsum f i : Nat)) (f i).length else f i
theorem mixS_len (f : Nat → List Int) (k0 : Int) (j i : Nat) : (mixS f k0 j i).length = (f i).length := by unfold mixS; split <;> simp [markL_len]

set_option maxRecDepth 100000 in
set_option maxHeartbeats 1000000 in
theorem markIntSS_any (g n : Nat) (gs : Nat → Nat) (v : Value) (f : Nat → List Int) (xs : List Value) (k0 : Int) (w : World) (hv : OwnSS w g gs v n f xs) (h0 : 0 ≤ k0) (h1 : k0 + (lsum f n : Nat) ≤ 1000000000) (hn : n ≤ 1048576) :
    Calls Try.prog 48 #[v, .int .i64 k0] w fun e w' => e = .returned (.int .i64 (k0 + (lsum f n : Nat))) ∧ Kept (fun k => ∀ i, i < n → 0 < (f i).length → k ≠ gs i) w w' ∧ OwnSS w' g gs v n (fun i => markL (k0 + (lsum f i : Nat)) (f i).length) xs ∧ w'.heap.size = w.heap.size := by
  obtain ⟨A, cap, rfl, hl, hm, _⟩ := id hv.out
  have Hv := Lib.hid hv
  clear hv
  go_enter Try.func48, Try.ntmps48
  go_wp2
  go_loopw [1, 5] (fun acc i wr => ∃ j : Nat, j ≤ n ∧ i = .int .i64 j ∧ acc = .int .i64 (k0 + (lsum f j : Nat)) ∧ Hid (Kept (fun k => ∀ i, i < n → 0 < (f i).length → k ≠ gs i) w wr) ∧ Hid (OwnSS wr g gs (.slice A n cap) n (mixS f k0 j) xs) ∧ wr.heap.size = w.heap.size) (fun _ i _ => n - (intOf i).toNat)
  case atStart => exact ⟨0, Nat.zero_le _, rfl, by simp [lsum], Kept.refl _ _, Hv.out.congr fun i _ => by simp [mixS], rfl⟩
  case round =>
    obtain ⟨j, hj, rfl, rfl, hk, ho, hs⟩ := hrel
    by_cases hlt : j < n
    · obtain ⟨x, cap', e, c0, hox⟩ := ho.out.cell hlt
      obtain ⟨x', hx', hox'⟩ := ho.out.own j hlt
      simp only [Value.slice.injEq] at e
      obtain ⟨rfl, _, rfl⟩ := e
      have hxx : xs[j]? = some x := by
        obtain ⟨B, cap2, e2, _, _, _, h4⟩ := ho.out.out
        obtain ⟨_, rest, hr⟩ := h4 (by omega)
        have h5 := hr.cell j
        rw [List.getElem?_append_left (List.getElem?_eq_some_iff.1 hx').1, hx', c0] at h5
        rw [hx', ← h5]
      have hfj : mixS f k0 j j = f j := by simp [mixS]
      rw [hfj] at hox
      have hsum : lsum f (j + 1) = lsum f j + (f j).length := rfl
      have hmono := lsum_mono f (show j + 1 ≤ n from hlt)
      have Hox := Lib.hid hox
      clear hox hox'
      go_wp2_with fail
      refine (markIntS_any (gs j) _ (f j) (k0 + (lsum f j : Nat)) _ Hox.out (by omega) (by omega)).mono ?_
      rintro e w2 ⟨rfl, hk2, ho2, hs2⟩
      have hmk := ho.out.marked hlt hxx (ys := markL (k0 + (lsum f j : Nat)) (f j).length) (by rw [markL_len, hfj]) (by rw [hfj]; exact hk2) ho2
      have hkk := Lib.hid (hk.out.trans (hk2.weak fun k h h0 => h j hlt h0))
      have hmk2 := Lib.hid (hmk.congr (f' := mixS f k0 (j + 1)) fun i hi => by
        unfold mixS
        by_cases e : i = j
        · subst e; rw [if_pos rfl, if_pos (by omega)]
        · by_cases e2 : i < j
          · rw [if_neg e, if_pos e2, if_pos (by omega)]
          · rw [if_neg e, if_neg e2, if_neg (by omega)])
      clear hk2 ho2 hmk
      go_wp2
      go_roundw
      case rel => exact ⟨j + 1, by omega, by go_num, by rw [hsum]; simp; omega, hkk, hmk2, by omega⟩
      case measure => simp [intOf]; omega
    · obtain rfl : j = n := by omega
      go_wp2
      go_ret
      exact ⟨rfl, hk.out, ho.out.congr fun i hi => by simp [mixS, hi], hs⟩

set_option maxRecDepth 100000 in
set_option maxHeartbeats 1000000 in
theorem heldIntSS_any (lo hi : Nat) (v : Value) (f : Nat → List Int) (n : Nat) (k0 : Int) (w : World) (hv : SSAt w lo hi v ((List.range n).map fun i => markL (k0 + (lsum f i : Nat)) (f i).length)) (hB : hi ≤ w.heap.size) (h0 : 0 ≤ k0) (h1 : k0 + (lsum f n : Nat) ≤ 1000000000) (hn : n ≤ 1048576) :
    Calls Try.prog 49 #[v, .int .i64 k0] w fun e w' => e = .returned (.int .i64 (k0 + (lsum f n : Nat))) ∧ w = w' := by
  obtain ⟨A, cap, rfl, hl, hm, hz⟩ := hv.form
  have e : ((List.range n).map fun i => markL (k0 + (lsum f i : Nat)) (f i).length).length = n := by simp
  rw [e] at hl hz ⊢
  have Hz := Lib.hid hz
  clear hz hv
  go_enter Try.func49, Try.ntmps49
  go_wp2
  go_loopw [1, 5] (fun acc i wr => ∃ j : Nat, j ≤ n ∧ i = .int .i64 j ∧ acc = .int .i64 (k0 + (lsum f j : Nat)) ∧ w = wr) (fun _ i _ => n - (intOf i).toNat)
  case atStart => exact ⟨0, Nat.zero_le _, rfl, by simp [lsum], rfl⟩
  case round =>
    obtain ⟨j, hj, rfl, rfl, rfl⟩ := hrel
    by_cases hlt : j < n
    · obtain ⟨b, off, A2, c2, rfl, _, _, c0, hi0⟩ := Hz.out.at_ (k := j) (by rw [e]; exact hlt)
      simp only [List.getElem_map, List.getElem_range] at c0 hi0
      have hsum : lsum f (j + 1) = lsum f j + (f j).length := rfl
      have hmono := lsum_mono f (show j + 1 ≤ n from hlt)
      have Hi0 := Lib.hid hi0
      clear hi0
      have hneg : decide (k0 + ((lsum f j : Nat) : Int) + ((f j).length : Int) < 0) = false := by simp; omega
      go_wp2_with fail
      refine (heldIntS_any lo hi _ (f j).length (k0 + (lsum f j : Nat)) _ Hi0.out hB (by omega) (by omega)).mono ?_
      rintro e w' ⟨rfl, rfl⟩
      go_wp2
      go_roundw
      case rel => exact ⟨j + 1, by omega, by go_num, by rw [hsum]; simp; omega, trivial⟩
      case measure => simp [intOf]; omega
    · obtain rfl : j = n := by omega
      go_wp2
      go_ret
      exact ⟨rfl, rfl⟩
end Go.Proofs.Ytfnfcagdoedilaa
