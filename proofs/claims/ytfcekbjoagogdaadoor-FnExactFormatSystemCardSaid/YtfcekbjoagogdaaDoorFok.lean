/-
  What it is that a function fits types, and that a system is valid; plain data only.
-/
import Derived.Test.YtfcekbjoagogdaaDoorFmem
import Derived.Test.YtfcekbjoagogdaaDoorValid
namespace Go.Proofs.YtfcekbjoagogdaaDoor
open Go.RowKit

/-- A name that a function can have. -/
def NameOk (s : ByteArray) : Prop := ∃ b : UInt8, s = ⟨#[b]⟩ ∧ 102 ≤ b.toNat ∧ b.toNat ≤ 107

/-- How many results a function with some types of arguments has: over the first k arguments. -/
def cellsTo (ss args : List Int) : Nat → Int
  | 0 => 1
  | k + 1 => cellsTo ss args k * ss.getD (args.getD k 0).toNat 0
def cellsI (ss args : List Int) : Int := cellsTo ss args args.length

/-- A function fits some sizes. -/
structure FuOk (ss : List Int) (f : Fu) : Prop where
  name : NameOk f.name
  few : f.args.length ≤ 2
  args : ∀ j, ∀ (hj : j < f.args.length), 0 ≤ f.args[j] ∧ f.args[j] < ss.length
  res : 0 ≤ f.res ∧ f.res < ss.length
  len : (f.table.length : Int) = cellsI ss f.args
  table : ∀ j, ∀ (hj : j < f.table.length), 0 ≤ f.table[j] ∧ f.table[j] < ss.getD f.res.toNat 0

/-- No two functions have the same name and the same types of arguments. -/
def Differ (fs : List Fu) : Prop := ∀ i k : Nat, i < fs.length → k < i → ¬ ((fs.getD i default).name = (fs.getD k default).name ∧ (fs.getD i default).args = (fs.getD k default).args)

structure SyOk (y : Sy) : Prop where
  ty : tyOk y.ty = true
  few : y.fs.length ≤ 8
  each : ∀ i, ∀ (hi : i < y.fs.length), FuOk y.ty.sizes y.fs[i]
  differ : Differ y.fs

open Classical in
noncomputable def fuB (ss : List Int) (f : Fu) : Bool := decide (FuOk ss f)
open Classical in
noncomputable def syB (y : Sy) : Bool := decide (SyOk y)
theorem fuB_yes {ss : List Int} {f : Fu} (h : FuOk ss f) : fuB ss f = true := by unfold fuB; exact @decide_eq_true _ (Classical.propDecidable _) h
theorem fuB_no {ss : List Int} {f : Fu} (h : ¬ FuOk ss f) : fuB ss f = false := by unfold fuB; exact @decide_eq_false _ (Classical.propDecidable _) h
theorem fuB_iff {ss : List Int} {f : Fu} : fuB ss f = true ↔ FuOk ss f := by unfold fuB; exact @decide_eq_true_iff _ (Classical.propDecidable _)
theorem syB_yes {y : Sy} (h : SyOk y) : syB y = true := by unfold syB; exact @decide_eq_true _ (Classical.propDecidable _) h
theorem syB_no {y : Sy} (h : ¬ SyOk y) : syB y = false := by unfold syB; exact @decide_eq_false _ (Classical.propDecidable _) h
theorem syB_iff {y : Sy} : syB y = true ↔ SyOk y := by unfold syB; exact @decide_eq_true_iff _ (Classical.propDecidable _)

/-- With valid sizes and two arguments at most, the product is small. -/
theorem cellsTo_small {ss args : List Int} (hok : sizesOk ss = true) (ha : ∀ j, ∀ (hj : j < args.length), 0 ≤ args[j] ∧ args[j] < ss.length) (hf : args.length ≤ 2) : ∀ k, k ≤ args.length → 1 ≤ cellsTo ss args k ∧ cellsTo ss args k ≤ 16 := by
  obtain ⟨_, _, hall⟩ := sizesOk_of hok
  have one : ∀ k, k < args.length → 1 ≤ ss.getD (args.getD k 0).toNat 0 ∧ ss.getD (args.getD k 0).toNat 0 ≤ 4 := fun k hk => by
    obtain ⟨h0, h1⟩ := ha k hk
    have e : args.getD k 0 = args[k] := by rw [List.getD_eq_getElem?_getD, List.getElem?_eq_getElem hk]; rfl
    have hlt : args[k].toNat < ss.length := by omega
    rw [e, List.getD_eq_getElem?_getD, List.getElem?_eq_getElem hlt]
    exact hall _ hlt
  intro k hk
  match k, hk with
  | 0, _ => exact ⟨by show (1 : Int) ≤ 1; omega, by show (1 : Int) ≤ 16; omega⟩
  | 1, hk =>
    have := one 0 (by omega)
    show 1 ≤ 1 * ss.getD (args.getD 0 0).toNat 0 ∧ 1 * ss.getD (args.getD 0 0).toNat 0 ≤ 16
    rw [Int.one_mul]
    omega
  | 2, hk =>
    have h0 := one 0 (by omega)
    have h1 := one 1 (by omega)
    show 1 ≤ 1 * ss.getD (args.getD 0 0).toNat 0 * ss.getD (args.getD 1 0).toNat 0 ∧ 1 * ss.getD (args.getD 0 0).toNat 0 * ss.getD (args.getD 1 0).toNat 0 ≤ 16
    rw [Int.one_mul]
    generalize ss.getD (args.getD 0 0).toNat 0 = p at *
    generalize ss.getD (args.getD 1 0).toNat 0 = q at *
    have hp : p = 1 ∨ p = 2 ∨ p = 3 ∨ p = 4 := by omega
    rcases hp with rfl | rfl | rfl | rfl <;> omega
  | k + 3, hk => omega
end Go.Proofs.YtfcekbjoagogdaaDoor
