/-
  A text of bytes that comes in.
-/
import Derived.Test.YtplpnammboofiaaRdn
import Derived.Test.YtplpnammboofiaaLift
namespace Go.Proofs.Ytplpnammboofiaa
open Go.ChangeShapes Go.WideShapes Go.ChangeAt Go.RowKit Go.Joins Go.Deep

theorem Try.cellsU8 : Try.prog.cellsOf 5 = 1 := by kernel_rfl
section
variable {H : Type} {enc : TypeId × Value → H} {W : World} {base : Nat} {held : Bool}
theorem open_codeAt {fuel : Nat} {v : Value} {x : DataW H × List MemPlace} (h : DataW.trod enc Try.prog W base (fun _ => true) held fuel 22 [v] = some x) : CodeAt W W.heap.size v := by
  rcases open_ints Try.underlying22 Try.underlying5 Try.cellsU8 h with ⟨hcs, _⟩ | ⟨a, len, cap, zs, hcs, _, hl, hm, hz, _, hcell, hwz⟩
  · simp only [List.cons.injEq, and_true] at hcs
    subst hcs
    exact ⟨none, 0, 0, rfl, Nat.le_refl _, Nat.zero_le _, fun h => absurd h (by omega)⟩
  · simp only [List.cons.injEq, and_true] at hcs
    subst hcs
    simp only [if_true] at hz
    refine ⟨some a, len, cap, rfl, hl, hm, fun h0 => ?_⟩
    obtain ⟨b, off, spot⟩ := a
    have hspot : spot = none := by simpa [Addr.add] using World.cell?_spot (hcell 0 (by omega))
    subst hspot
    have hg := World.block_lt_of_cell? _ _ (hcell 0 (by omega))
    refine ⟨b, off, rfl, hg, fun k hk => ?_⟩
    have h1 := hcell k (by omega)
    have h2 : zs.getD k 0 = zs[k]'(by omega) := by rw [List.getD_eq_getElem?_getD, List.getElem?_eq_getElem (by omega)]; rfl
    rw [h2, Addr.add_lit] at h1
    have h3 := hwz (zs[k]'(by omega)) (List.getElem_mem _)
    have h4 : 0 ≤ zs[k]'(by omega) ∧ zs[k]'(by omega) ≤ 255 := by simpa [Lit.wf, IntKind.min, IntKind.max, IntKind.signed, IntKind.bits] using h3
    refine ⟨(zs[k]'(by omega)).toNat, by omega, ?_⟩
    rw [h1]
    congr 2
    omega
end

end Go.Proofs.Ytplpnammboofiaa
