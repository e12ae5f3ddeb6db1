/-
  The contracts of the functions that weigh an argument: they return what is left of the allowance, or -1.
-/
import Derived.Test.YtajannebpejpkaaDoorRows
import Derived.Test.YtajannebpejpkaaDoorMem
import Derived.Outline
import Derived.Handy
namespace Go.Proofs.YtajannebpejpkaaDoor
open Go.RowKit

/-- What is left of an allowance when n is taken from it; -1 if it is not enough. -/
def subI (left : Int) (n : Nat) : Int := if left - n < 0 then -1 else left - n
theorem subI_neg {left : Int} {n : Nat} (h : left - n < 0) : subI left n = -1 := if_pos h
theorem subI_pos {left : Int} {n : Nat} (h : ¬ left - n < 0) : subI left n = left - n := if_neg h

theorem szIntS_any (A : Option Addr) (n c : Nat) (left : Int) (w : World) (h0 : 0 ≤ left) (h1 : left ≤ 1048576) (hn : n ≤ maxLen) :
    Calls Tryd.prog 28 #[.slice A n c, .int .i64 left] w fun e w' => e = .returned (.int .i64 (subI left n)) ∧ w = w' := by
  unfold maxLen at hn
  by_cases h : left - n < 0
  · have hs := Lib.hid (subI_neg h)
    go_enter Tryd.func28, Tryd.ntmps28
    go_wp2
    go_ret
    exact ⟨ret_int hs.out.symm, rfl⟩
  · have hs := Lib.hid (subI_pos h)
    go_enter Tryd.func28, Tryd.ntmps28
    go_wp2
    go_ret
    exact ⟨ret_int hs.out.symm, rfl⟩

theorem subI_sub {left : Int} {n m : Nat} (_h : ¬ left - n < 0) : subI (left - n) m = subI left (n + m) := by
  unfold subI
  by_cases h2 : left - n - m < 0
  · rw [if_pos h2, if_pos (by omega)]
  · rw [if_neg h2, if_neg (by omega)]; omega

end Go.Proofs.YtajannebpejpkaaDoor
