/-
  The contracts of the program's functions that ask whether types are valid.
-/
import Derived.Test.YtcecljolnknapaaDoorValid
namespace Go.Proofs.YtcecljolnknapaaDoor
open Go.RowKit

def ixB (i n : Int) : Bool := decide (0 ≤ i ∧ i < n)
theorem ixB_yes {i n : Int} (h1 : 0 ≤ i) (h2 : i < n) : ixB i n = true := by simp [ixB, h1, h2]
theorem ixB_low {i n : Int} (h1 : ¬ 0 ≤ i) : ixB i n = false := by simp [ixB, h1]
theorem ixB_high {i n : Int} (h1 : ¬ i < n) : ixB i n = false := by simp [ixB, h1]
theorem ixB_no {i n : Int} (h : ¬ (0 ≤ i ∧ i < n)) : ixB i n = false := by simp [ixB]; omega

end Go.Proofs.YtcecljolnknapaaDoor
