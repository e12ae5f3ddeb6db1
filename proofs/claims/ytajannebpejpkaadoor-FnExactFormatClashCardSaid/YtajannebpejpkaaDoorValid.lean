/-
  What it is that types are valid, as a Bool function on plain data; the contracts of the model's functions that ask it.
-/
import Derived.Test.YtajannebpejpkaaDoorRows
import Derived.Test.YtajannebpejpkaaDoorMem
import Derived.Outline
import Derived.Handy
import Derived.BigQuiet
import Derived.Deep.QuietTactic
import Derived.StillTailTactics
namespace Go.Proofs.YtajannebpejpkaaDoor
open Go.RowKit

/-- Does n lie between two numbers? -/
def inB (n lo hi : Int) : Bool := decide (lo ≤ n ∧ n ≤ hi)
theorem inB_yes {n lo hi : Int} (h1 : lo ≤ n) (h2 : n ≤ hi) : inB n lo hi = true := by simp [inB, h1, h2]
theorem inB_low {n lo hi : Int} (h1 : ¬ lo ≤ n) : inB n lo hi = false := by simp [inB, h1]
theorem inB_high {n lo hi : Int} (h1 : ¬ n ≤ hi) : inB n lo hi = false := by simp [inB, h1]
theorem inB_iff {n lo hi : Int} : inB n lo hi = true ↔ lo ≤ n ∧ n ≤ hi := by simp [inB]

/-- The sizes are valid. -/
def sizesOk (ss : List Int) : Bool := decide (1 ≤ ss.length ∧ ss.length ≤ 5) && ss.all fun n => inB n 1 4
theorem sizesOk_of {ss : List Int} (h : sizesOk ss = true) : 1 ≤ ss.length ∧ ss.length ≤ 5 ∧ ∀ k, ∀ (hk : k < ss.length), 1 ≤ ss[k] ∧ ss[k] ≤ 4 := by
  simp only [sizesOk, Bool.and_eq_true, decide_eq_true_eq, List.all_eq_true] at h
  exact ⟨h.1.1, h.1.2, fun k hk => inB_iff.1 (h.2 _ (List.getElem_mem hk))⟩

/-- All but the map's numbers of a coercion are right: for valid sizes. -/
def coHead (ss : List Int) (c : Co) : Bool := decide (0 ≤ c.src ∧ c.src < c.dst ∧ c.dst < ss.length ∧ (c.map.length : Int) = ss.getD c.src.toNat 0)
def coOk (ss : List Int) (c : Co) : Bool := coHead ss c && c.map.all fun z => inB z 0 (ss.getD c.dst.toNat 0 - 1)
def tyOk (t : Ty) : Bool := sizesOk t.sizes && decide (t.cos.length ≤ 8) && t.cos.all fun c => coOk t.sizes c
theorem coOk_of {ss : List Int} {c : Co} (h : coOk ss c = true) : 0 ≤ c.src ∧ c.src < c.dst ∧ c.dst < ss.length ∧ (c.map.length : Int) = ss.getD c.src.toNat 0 ∧ ∀ k, ∀ (hk : k < c.map.length), 0 ≤ c.map[k] ∧ c.map[k] ≤ ss.getD c.dst.toNat 0 - 1 := by
  simp only [coOk, coHead, Bool.and_eq_true, decide_eq_true_eq, List.all_eq_true] at h
  exact ⟨h.1.1, h.1.2.1, h.1.2.2.1, h.1.2.2.2, fun k hk => inB_iff.1 (h.2 _ (List.getElem_mem hk))⟩

/-- One element fails; all elements pass. -/
theorem all_false_of {α : Type} {l : List α} {p : α → Bool} (k : Nat) (hk : k < l.length) (h : p l[k] = false) : l.all p = false := by
  rw [List.all_eq_false]
  exact ⟨l[k], List.getElem_mem hk, by simp [h]⟩
theorem all_true_of {α : Type} {l : List α} {p : α → Bool} (h : ∀ j, ∀ (hj : j < l.length), p l[j] = true) : l.all p = true := by
  rw [List.all_eq_true]
  intro x hx
  obtain ⟨i, hi, rfl⟩ := List.getElem_of_mem hx
  exact h i hi

theorem wrapIn (x : Int) (h1 : -9223372036854775808 ≤ x) (h2 : x ≤ 9223372036854775807) : IntKind.i64.wrap x = x := IntWalk.i64_in x (by omega)

theorem tyOk_false1 {t : Ty} (h : sizesOk t.sizes = false) : tyOk t = false := by unfold tyOk; rw [h, Bool.false_and, Bool.false_and]
theorem tyOk_false2 {t : Ty} (h : ¬ t.cos.length ≤ 8) : tyOk t = false := by unfold tyOk; simp [h]
theorem tyOk_of {t : Ty} (h1 : sizesOk t.sizes = true) (h2 : t.cos.length ≤ 8) : tyOk t = t.cos.all fun c => coOk t.sizes c := by unfold tyOk; simp [h1, h2]
end Go.Proofs.YtajannebpejpkaaDoor
