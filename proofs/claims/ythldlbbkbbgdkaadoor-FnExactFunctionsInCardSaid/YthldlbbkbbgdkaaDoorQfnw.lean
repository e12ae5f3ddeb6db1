/-
  The functions of a text as an explicit term: numbers of the machine, and not many.
-/
import Derived.Test.YthldlbbkbbgdkaaDoorQsrl
namespace Go.Proofs.YthldlbbkbbgdkaaDoor
open Go.RowKit

theorem readM_ok {y : Sy} {L : List UInt8} {m : Mk} (h : readM y L = some m) : MkOk y m := by
  unfold readM at h
  split at h
  · rename_i hy
    unfold parseM at h
    split at h
    · split at h
      · rename_i m2 hm
        injection h with h
        subst h
        exact (rdMk_eq y (syB_iff.1 hy) _ hm).1
      · cases h
    · cases h
  · cases h
theorem fnL_wf (y : Sy) (L : List UInt8) : ∀ z ∈ fnL y L, I64 z := by
  intro z hz
  unfold fnL at hz
  split at hz
  · rename_i m hm
    exact fnM_64 (readM_ok hm) z hz
  · cases hz
theorem fnL_len (y : Sy) (L : List UInt8) : (fnL y L).length ≤ 1048576 := by
  unfold fnL
  split
  · rename_i m hm
    have h1 := fnM_le m
    have h2 := readM_len hm
    omega
  · simp
end Go.Proofs.YthldlbbkbbgdkaaDoor

