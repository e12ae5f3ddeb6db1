/-
  FnWays as data: how many ways there are at most; what the first steps of a way lead to; the ways counted by their first steps.
-/
import Derived.Test.YtplpnammboofiaaJ9
import Derived.Test.YtplpnammboofiaaJ12
namespace Go.Proofs.Ytplpnammboofiaa
open Go.RowKit

/-- How many coercions lead away from a type, or from it or a later one. -/
def outN (cs : List Co) (k : Int) : Nat := cs.countP fun c => decide (c.src = k)
def outF (cs : List Co) (k : Int) : Nat := cs.countP fun c => decide (k ≤ c.src)
theorem outF_step (cs : List Co) (k : Int) : outF cs k = outN cs k + outF cs (k + 1) := by
  unfold outF outN
  induction cs with
  | nil => rfl
  | cons c l ih =>
    simp only [List.countP_cons, decide_eq_true_eq]
    rw [ih]
    by_cases h1 : c.src = k
    · rw [if_pos h1, if_pos (by omega), if_neg (by omega)]; omega
    · by_cases h2 : k ≤ c.src
      · rw [if_neg h1, if_pos h2, if_pos (by omega)]; omega
      · rw [if_neg h1, if_neg h2, if_neg (by omega)]; omega
theorem outF_mono (cs : List Co) {k k' : Int} (h : k ≤ k') : outF cs k' ≤ outF cs k := by
  unfold outF
  apply List.countP_mono_left
  intro c _ hc
  simp only [decide_eq_true_eq] at hc ⊢
  omega
theorem outF_le (cs : List Co) (k : Int) : outF cs k ≤ cs.length := List.countP_le_length
/-- The most ways that so many coercions make. -/
def mostW (e : Nat) : Nat := ([1, 1, 2, 3, 4, 6, 9, 12, 18] : List Nat).getD e 18
theorem mostW_mul : ∀ e : Fin 9, ∀ m : Fin 9, m.val + e.val ≤ 8 → m.val * mostW e.val ≤ mostW (m.val + e.val) := by decide
theorem mostW_mono : ∀ e : Fin 9, ∀ f : Fin 9, e.val ≤ f.val → mostW e.val ≤ mostW f.val := by decide
theorem mostW_pos : ∀ e : Fin 9, 1 ≤ mostW e.val ∧ mostW e.val ≤ 18 := by decide
theorem waysJ_few {cs : List Co} {n : Nat} {k goal : Int} (M : Nat) (hM : ∀ i, ∀ hi : i < cs.length, cs[i].src = k → (waysF cs n cs[i].dst goal).length ≤ M) :
    ∀ j, j ≤ cs.length → (waysJ cs n k goal j).length ≤ ((cs.take j).countP fun c => decide (c.src = k)) * M := by
  intro j
  induction j with
  | zero => intro _; rw [waysJ_zero]; exact Nat.zero_le _
  | succ j ih =>
    intro hj
    have hl : j < cs.length := by omega
    have ih := ih (by omega)
    rw [List.take_succ_eq_append_getElem hl, List.countP_append]
    by_cases hs : cs[j].src = k
    · have e : [cs[j]].countP (fun c => decide (c.src = k)) = 1 := by simp [hs]
      rw [waysJ_hit hl hs, e, List.length_append, List.length_map, Nat.add_mul, Nat.one_mul]
      have := hM j hl hs
      omega
    · have e : [cs[j]].countP (fun c => decide (c.src = k)) = 0 := by simp [hs]
      rw [waysJ_miss hl hs, e]
      exact ih
theorem waysF_few {t : Ty} (h : tyOk t = true) : ∀ (n : Nat) (k goal : Int), (waysF t.cos n k goal).length ≤ mostW (outF t.cos k) := by
  have h8 : t.cos.length ≤ 8 := by simp only [tyOk, Bool.and_eq_true, decide_eq_true_eq] at h; exact h.1.2
  have hb : ∀ k, outF t.cos k ≤ 8 := fun k => Nat.le_trans (outF_le _ _) h8
  intro n
  induction n with
  | zero => intro k goal; exact Nat.zero_le _
  | succ n ih =>
    intro k goal
    by_cases hg : k = goal
    · subst hg
      rw [waysF_eq]
      exact (mostW_pos ⟨outF t.cos k, Nat.lt_succ_of_le (hb k)⟩).1
    · rw [waysF_ne hg]
      have hM : ∀ i, ∀ hi : i < t.cos.length, t.cos[i].src = k → (waysF t.cos n t.cos[i].dst goal).length ≤ mostW (outF t.cos (k + 1)) := fun i hi hs => by
        have hu := tyOk_up h hi
        exact Nat.le_trans (ih _ _) (mostW_mono ⟨outF t.cos t.cos[i].dst, Nat.lt_succ_of_le (hb _)⟩ ⟨outF t.cos (k + 1), Nat.lt_succ_of_le (hb _)⟩ (outF_mono _ (by omega)))
      have h1 := waysJ_few _ hM t.cos.length (Nat.le_refl _)
      rw [List.take_length] at h1
      have h2 := outF_step t.cos k
      have h3 := hb k
      have h4 : outN t.cos k * mostW (outF t.cos (k + 1)) ≤ mostW (outN t.cos k + outF t.cos (k + 1)) := mostW_mul ⟨outF t.cos (k + 1), by omega⟩ ⟨outN t.cos k, by omega⟩ (by show outN t.cos k + outF t.cos (k + 1) ≤ 8; omega)
      rw [h2]
      exact Nat.le_trans h1 h4
theorem waysOf_few {t : Ty} (h : tyOk t = true) (a b : Int) : (waysOf t a b).length ≤ 18 := by
  have h8 : t.cos.length ≤ 8 := by simp only [tyOk, Bool.and_eq_true, decide_eq_true_eq] at h; exact h.1.2
  exact Nat.le_trans (waysF_few h 5 a b) (mostW_pos ⟨outF t.cos a, Nat.lt_succ_of_le (Nat.le_trans (outF_le _ _) h8)⟩).2

/-- The type to which the first m coercions of a way lead. -/
def atK (cs : List Co) (k : Int) (y : List Int) : Nat → Int
  | 0 => k
  | m + 1 => (cs.getD (y.getD m 0).toNat default).dst
theorem way_steps {cs : List Co} : ∀ (y : List Int) (k goal : Int), wayEnd cs k y = some goal →
    (∀ m, ∀ hm : m < y.length, 0 ≤ y[m] ∧ y[m].toNat < cs.length ∧ (cs.getD y[m].toNat default).src = atK cs k y m) ∧ atK cs k y y.length = goal := by
  intro y
  induction y with
  | nil => intro k goal h; exact ⟨fun m hm => absurd hm (by simp), by simpa [wayEnd, atK] using h⟩
  | cons i l ih =>
    intro k goal h
    unfold wayEnd at h
    split at h
    · rename_i hc
      obtain ⟨h1, h2⟩ := ih _ _ h
      have hi : 0 ≤ i ∧ i.toNat < cs.length := by
        have := hc.1
        simp only [ixB, decide_eq_true_eq] at this
        omega
      have key : ∀ m, m ≤ l.length → atK cs k (i :: l) (m + 1) = atK cs (cs.getD i.toNat default).dst l m := fun m hm => by
        cases m with
        | zero => rfl
        | succ m => rfl
      refine ⟨fun m hm => ?_, ?_⟩
      · cases m with
        | zero => exact ⟨hi.1, hi.2, hc.2⟩
        | succ m =>
          have hm' : m < l.length := by simpa using hm
          have := h1 m hm'
          rw [key m (by omega)]
          simpa using this
      · rw [List.length_cons, key _ (Nat.le_refl _)]
        exact h2
    · cases h
theorem ways_steps {t : Ty} {a b : Int} {y : List Int} (hy : y ∈ waysV t a b) :
    (∀ m, ∀ hm : m < y.length, 0 ≤ y[m] ∧ y[m].toNat < t.cos.length ∧ (t.cos.getD y[m].toNat default).src = atK t.cos a y m) ∧ atK t.cos a y y.length = b := by
  by_cases h : typesB t a b = true
  · rw [waysV_yes h] at hy
    exact way_steps y a b (waysF_end 5 a b y hy)
  · rw [waysV_no (by simpa using h)] at hy
    exact absurd hy (by simp)

/-- What the first j coercions from a type add up to. -/
def sumW (t : Ty) (a b : Int) (j : Nat) : Nat := (((cFrom t a).take j).map fun i => (waysV t (t.cos.getD i.toNat default).dst b).length).sum
theorem sumW_zero (t : Ty) (a b : Int) : sumW t a b 0 = 0 := rfl
theorem sumW_succ (t : Ty) (a b : Int) {j : Nat} (hj : j < (cFrom t a).length) : sumW t a b (j + 1) = sumW t a b j + (waysV t (t.cos.getD (cFrom t a)[j].toNat default).dst b).length := by
  unfold sumW
  rw [List.take_succ_eq_append_getElem hj, List.map_append, List.sum_append]
  simp
theorem types_of {t : Ty} {a b : Int} (h : typesB t a b = true) : tyOk t = true ∧ 0 ≤ a ∧ a < t.sizes.length ∧ 0 ≤ b ∧ b < t.sizes.length := by
  unfold typesB at h
  simp only [Bool.and_eq_true, ixB, decide_eq_true_eq] at h
  exact ⟨h.1.1, h.1.2.1, h.1.2.2, h.2.1, h.2.2⟩
theorem types_mk {t : Ty} {a b : Int} (h : tyOk t = true) (h1 : 0 ≤ a) (h2 : a < t.sizes.length) (h3 : 0 ≤ b) (h4 : b < t.sizes.length) : typesB t a b = true := by
  unfold typesB ixB
  rw [h]
  simp only [Bool.true_and, Bool.and_eq_true, decide_eq_true_eq]
  exact ⟨⟨h1, h2⟩, h3, h4⟩
theorem cfr_at (cs : List Co) (k : Int) : ∀ i ∈ cfr cs k cs.length, 0 ≤ i ∧ i.toNat < cs.length ∧ (cs.getD i.toNat default).src = k := by
  intro i hi
  unfold cfr at hi
  simp only [List.mem_map, List.mem_filter, List.mem_range, decide_eq_true_eq] at hi
  obtain ⟨m, ⟨h1, h2⟩, rfl⟩ := hi
  exact ⟨Int.natCast_nonneg _, by simpa using h1, by simpa using h2⟩
theorem sum_none {f : Int → Nat} : ∀ l : List Int, (∀ i ∈ l, f i = 0) → (l.map f).sum = 0
  | [], _ => rfl
  | i :: l, h => by
    rw [List.map_cons, List.sum_cons, h i (List.mem_cons_self ..), sum_none l (fun j hj => h j (List.mem_cons_of_mem _ hj))]
/-- The ways counted by their first steps. -/
theorem ways_sum {t : Ty} {a b : Int} (h : typesB t a b = true) : (waysV t a b).length = (if a = b then 1 else 0) + sumW t a b (cFrom t a).length ∧ (waysV t a b).length ≤ 18 ∧ ∀ j, j ≤ (cFrom t a).length → sumW t a b j ≤ 18 := by
  obtain ⟨ht, ha1, ha2, hb1, hb2⟩ := types_of h
  have ec : cFrom t a = cfr t.cos a t.cos.length := if_pos ht
  have hl18 : (waysV t a b).length ≤ 18 := by rw [waysV_yes h]; exact waysOf_few ht a b
  have each : ∀ i ∈ cFrom t a, (waysV t (t.cos.getD i.toNat default).dst b) = waysOf t (t.cos.getD i.toNat default).dst b ∧ (t.cos.getD i.toNat default).src < (t.cos.getD i.toNat default).dst ∧ (t.cos.getD i.toNat default).src = a := fun i hi => by
    rw [ec] at hi
    obtain ⟨h1, h2, h3⟩ := cfr_at _ _ i hi
    have e : t.cos.getD i.toNat default = t.cos[i.toNat] := by rw [List.getD_eq_getElem?_getD, List.getElem?_eq_getElem h2]; rfl
    have hu := tyOk_up ht h2
    rw [e] at h3 ⊢
    exact ⟨waysV_yes (types_mk ht (by omega) (by omega) hb1 hb2), hu.2.1, h3⟩
  have hsum : sumW t a b (cFrom t a).length = ((cFrom t a).map fun i => (waysOf t (t.cos.getD i.toNat default).dst b).length).sum := by
    unfold sumW
    rw [List.take_length]
    congr 1
    exact List.map_congr_left fun i hi => by rw [(each i hi).1]
  have hmain : (waysV t a b).length = (if a = b then 1 else 0) + sumW t a b (cFrom t a).length := by
    rw [hsum, waysV_yes h]
    by_cases hab : a = b
    · subst hab
      rw [if_pos rfl]
      have e1 : (waysOf t a a).length = 1 := by show (waysF t.cos 5 a a).length = 1; rw [waysF_eq]; rfl
      have e2 : ((cFrom t a).map fun i => (waysOf t (t.cos.getD i.toNat default).dst a).length).sum = 0 := by
        apply sum_none
        intro i hi
        obtain ⟨_, h2, h3⟩ := each i hi
        show (waysF t.cos 5 _ a).length = 0
        rw [waysF_back ht 5 _ a (by omega)]
        rfl
      rw [e1, e2]
    · rw [if_neg hab]
      have hc := ways_count ht ha1 t.cos.length (Nat.le_refl _) hab
      rw [← ec] at hc
      show (waysF t.cos 5 a b).length = _
      rw [waysF_ne hab, hc, Nat.zero_add]
  have hmono : ∀ j, j ≤ (cFrom t a).length → sumW t a b j ≤ sumW t a b (cFrom t a).length := fun j hj => by
    unfold sumW
    rw [List.take_length]
    have e : (cFrom t a) = (cFrom t a).take j ++ (cFrom t a).drop j := (List.take_append_drop j _).symm
    conv => rhs; rw [e, List.map_append, List.sum_append]
    omega
  refine ⟨hmain, hl18, fun j hj => ?_⟩
  have := hmono j hj
  omega
end Go.Proofs.Ytplpnammboofiaa

