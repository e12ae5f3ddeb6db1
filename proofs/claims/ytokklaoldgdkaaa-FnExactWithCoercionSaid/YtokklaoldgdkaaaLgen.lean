/-
  Small lemmas for the walks of laws whose results are owned.
-/
import Derived.Test.YtokklaoldgdkaaaSz
import Derived.Test.YtokklaoldgdkaaaTo
import Derived.Test.YtokklaoldgdkaaaEq
import Derived.Test.YtokklaoldgdkaaaMarkt
import Derived.Deep.RegionHeld3
namespace Go.Proofs.Ytokklaoldgdkaaa
open Go.RowKit

theorem markL_wf (k : Int) (n : Nat) (h0 : 0 ≤ k) (h1 : k + n ≤ 1000000000) : ∀ z ∈ markL k n, I64 z := by
  intro z hz
  unfold markL at hz
  obtain ⟨i, hi, rfl⟩ := List.mem_map.1 hz
  have := List.mem_range.1 hi
  unfold I64
  omega
theorem lenSum_maps (t : Ty) (n : Nat) (hn : n ≤ t.cos.length) : lenSum (fun j => t.cos.getD j default) n = mapsLen t.cos n := by
  induction n with
  | zero => rfl
  | succ n ih =>
    rw [mapsLen_succ t.cos n (by omega), ← ih (by omega)]
    rfl

theorem newUses {g n : Nat} {ss : List Int} {f : Nat → Co} {k : Nat} (h : OwnTy.uses g (g + 1) (fun j => g + 1 + 1 + 4 * j + 3) ss n f k) : g ≤ k ∧ k < g + 2 + 4 * n := by
  rcases h with ⟨_, rfl⟩ | ⟨_, rfl⟩ | ⟨i, hi, _, rfl⟩
  · omega
  · omega
  · dsimp only; omega

theorem markAt_le {f : Nat → Co} {k0 : Int} {n : Nat} {B : Int} (h : k0 + 2 * (n : Int) + (lenSum f n : Int) ≤ B) : markAt f k0 n ≤ B := h
end Go.Proofs.Ytokklaoldgdkaaa
