/-
  All ways from a type to another one, as plain data. Nothing here speaks of the program.
-/
import Derived.Test.YtnmbjmocnafekaaGreatDoorG6
import Derived.Test.YtnmbjmocnafekaaGreatDoorG7
namespace Go.Proofs.YtnmbjmocnafekaaGreatDoor
open Go.RowKit

/-- All ways from k to goal of at most n - 1 coercions, in order. -/
def waysF (cs : List Co) : Nat → Int → Int → List (List Int)
  | 0, _, _ => []
  | n + 1, k, goal => if k = goal then [[]] else (List.range cs.length).flatMap fun i => if (cs.getD i default).src = k then (waysF cs n (cs.getD i default).dst goal).map fun z => (i : Int) :: z else []
/-- Those of them that begin with one of the first j coercions. -/
def waysJ (cs : List Co) (n : Nat) (k goal : Int) (j : Nat) : List (List Int) :=
  (List.range j).flatMap fun i => if (cs.getD i default).src = k then (waysF cs n (cs.getD i default).dst goal).map fun z => (i : Int) :: z else []
theorem waysF_eq (cs : List Co) (n : Nat) (k : Int) : waysF cs (n + 1) k k = [[]] := by rw [waysF, if_pos rfl]
theorem waysF_ne {cs : List Co} {n : Nat} {k goal : Int} (h : ¬ k = goal) : waysF cs (n + 1) k goal = waysJ cs n k goal cs.length := by rw [waysF, if_neg h]; rfl
theorem waysJ_zero (cs : List Co) (n : Nat) (k goal : Int) : waysJ cs n k goal 0 = [] := rfl
theorem waysJ_hit {cs : List Co} {n : Nat} {k goal : Int} {j : Nat} (hj : j < cs.length) (h : cs[j].src = k) : waysJ cs n k goal (j + 1) = waysJ cs n k goal j ++ (waysF cs n cs[j].dst goal).map fun z => (j : Int) :: z := by
  unfold waysJ
  rw [List.range_succ, List.flatMap_append]
  simp only [List.flatMap_cons, List.flatMap_nil, List.append_nil]
  rw [getD_at hj, if_pos h]
theorem waysJ_miss {cs : List Co} {n : Nat} {k goal : Int} {j : Nat} (hj : j < cs.length) (h : ¬ cs[j].src = k) : waysJ cs n k goal (j + 1) = waysJ cs n k goal j := by
  unfold waysJ
  rw [List.range_succ, List.flatMap_append]
  simp only [List.flatMap_cons, List.flatMap_nil, List.append_nil]
  rw [getD_at hj, if_neg h, List.append_nil]
theorem waysJ_mono (cs : List Co) (n : Nat) (k goal : Int) {i j : Nat} (h : i ≤ j) : (waysJ cs n k goal i).length ≤ (waysJ cs n k goal j).length := by
  unfold waysJ
  obtain ⟨d, rfl⟩ := Nat.exists_eq_add_of_le h
  rw [List.range_add, List.flatMap_append, List.length_append]
  omega
theorem waysF_len {cs : List Co} (h8 : cs.length ≤ 8) : ∀ (n : Nat) (k goal : Int), (waysF cs n k goal).length ≤ 8 ^ n := by
  intro n
  induction n with
  | zero => intro k goal; simp [waysF]
  | succ n ih =>
    intro k goal
    by_cases h : k = goal
    · subst h; rw [waysF_eq]; simp; exact Nat.one_le_pow _ _ (by omega)
    · rw [waysF_ne h]
      have key : ∀ j, j ≤ cs.length → (waysJ cs n k goal j).length ≤ j * 8 ^ n := by
        intro j
        induction j with
        | zero => intro _; simp [waysJ_zero]
        | succ j ihj =>
          intro hj
          have h1 := ihj (by omega)
          by_cases hs : cs[j].src = k
          · rw [waysJ_hit (by omega) hs, List.length_append, List.length_map, Nat.succ_mul]
            have := ih cs[j].dst goal
            omega
          · rw [waysJ_miss (by omega) hs, Nat.succ_mul]
            exact Nat.le_trans h1 (Nat.le_add_right _ _)
      have h2 := key cs.length (Nat.le_refl _)
      have h3 : cs.length * 8 ^ n ≤ 8 * 8 ^ n := Nat.mul_le_mul_right _ h8
      rw [Nat.pow_succ, Nat.mul_comm (8 ^ n) 8]
      omega
/-- All ways in valid types. -/
def waysOf (t : Ty) (a b : Int) : List (List Int) := waysF t.cos 5 a b
theorem waysOf_len {t : Ty} (h : tyOk t = true) (a b : Int) : (waysOf t a b).length ≤ 32768 := waysF_len (tyOk_few h) 5 a b
theorem waysF_wf {cs : List Co} (h8 : cs.length ≤ 8) : ∀ (n : Nat) (k goal : Int), ∀ z ∈ waysF cs n k goal, ∀ i ∈ z, I64 i := by
  intro n
  induction n with
  | zero => intro k goal z hz; simp [waysF] at hz
  | succ n ih =>
    intro k goal z hz
    by_cases h : k = goal
    · subst h; rw [waysF_eq] at hz; simp at hz; subst hz; simp
    · rw [waysF_ne h] at hz
      unfold waysJ at hz
      obtain ⟨i, hi, hz⟩ := List.mem_flatMap.1 hz
      have hi := List.mem_range.1 hi
      split at hz
      · obtain ⟨y, hy, rfl⟩ := List.mem_map.1 hz
        intro q hq
        rcases List.mem_cons.1 hq with rfl | hq
        · unfold I64; omega
        · exact ih _ _ y hy q hq
      · simp at hz
theorem waysF_short {cs : List Co} : ∀ (n : Nat) (k goal : Int), ∀ z ∈ waysF cs n k goal, z.length < n := by
  intro n
  induction n with
  | zero => intro k goal z hz; simp [waysF] at hz
  | succ n ih =>
    intro k goal z hz
    by_cases h : k = goal
    · subst h; rw [waysF_eq] at hz; simp at hz; subst hz; simp
    · rw [waysF_ne h] at hz
      unfold waysJ at hz
      obtain ⟨i, hi, hz⟩ := List.mem_flatMap.1 hz
      split at hz
      · obtain ⟨y, hy, rfl⟩ := List.mem_map.1 hz
        have := ih _ _ y hy
        simp
        omega
      · simp at hz

theorem step_append_ints {w : World} {ops : Array Oper} {o : Oper} {a : Act} {K : Act → World → Prop} {Q : Exit → Act → World → Prop} {E : Prop} (hgd : o.guard = none) (s x : Operand)
    (ho : o.op = .call { callee := .builtin .append, args := #[s, x], argTypes := #[22, 22] })
    (base : Nat) (v : Value) (n : Nat) (xs : List Value) (hs : a.eval s = v) (hown : w.ownsRow base 3 1 v n xs) (lo hi : Nat) (A : Option Addr) (m c : Nat) (zs : List Int) (hx : a.eval x = .slice A m c)
    (hz : IntsAt w lo hi (.slice A m c) zs) (hm : zs.length = m) (h63 : n + m ≤ 2097152) (hbase : base ≤ w.heap.size)
    (h : ∀ VA VC w', w'.ownsRow base 3 1 (.slice VA (n + m) VC) (n + m) (xs ++ zs.map (Value.int .i64)) → w.grownBy w' v.ownBlock → K (a.put o.dst (.slice VA (n + m) VC)) w') :
    if Region.wanted o (yielded ops a.tmps) = true then Oper.wp Tryz.prog o a w K Q else E := by
  have hw : Region.wanted o (yielded ops a.tmps) = true := by simp [Region.wanted, hgd]
  rw [if_pos hw]
  obtain ⟨i0, hi0, hz0, hz1, hz2⟩ := info_parts Tryz.infoInt
  subst hm
  rcases A with _ | ad
  · have hn : zs = [] := by
      rcases zs with _ | ⟨z, zs⟩
      · rfl
      · obtain ⟨b, off, e, _⟩ := hz.at_ (k := 0) (by simp)
        cases e
    subst hn
    obtain ⟨VA, VC, rfl⟩ := owns_form hown
    rw [List.length_nil] at hx
    have hrun := run_append_owned_none' (P := Tryz.prog) (w := w) base 22 o.type 3 i0 1 Tryz.underlying22 hi0 _ _ _ c hown
    have := h VA VC w (by simpa using hown) ⟨rfl, rfl, rfl, Nat.le_refl _, fun _ _ _ => rfl⟩
    unfold Oper.wp
    have this2 : K (a.put o.dst (.slice VA n VC)) w := by simpa using this
    simp [execOp, ho, resolve, invoke, builtin, hs, hx, hrun, Result.andThen]
    exact this2
  · refine wp_append_own w s x 22 ho base 3 i0 (.int .i64 0) 1 8 Tryz.underlying22 hi0 hz0 hz1 hz2 rfl (by decide) _ _ _ hs hown ad zs.length c (zs.map (Value.int .i64)) hx (by simp) hz.cells (ints_oneCell' zs) (by unfold maxLen; omega) (by omega) hbase ?_
    intro v' w2 hown2 hgrow _
    obtain ⟨VA, VC, rfl⟩ := owns_form hown2
    exact h VA VC w2 hown2 hgrow
end Go.Proofs.YtnmbjmocnafekaaGreatDoor

