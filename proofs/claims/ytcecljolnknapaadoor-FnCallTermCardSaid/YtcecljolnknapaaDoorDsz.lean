/-
  A text of bytes that comes in; the model's DrawSizeOf.
-/
import Derived.Test.YtcecljolnknapaaDoorSmd
import Derived.Test.YtcecljolnknapaaDoorLift
namespace Go.Proofs.YtcecljolnknapaaDoor
open Go.ChangeShapes Go.WideShapes Go.ChangeAt Go.RowKit Go.Joins Go.Deep

theorem Tryd.cellsU8 : Tryd.prog.cellsOf 5 = 1 := by kernel_rfl
section
variable {H : Type} {enc : TypeId × Value → H} {W : World} {base : Nat} {held : Bool}
theorem open_codeAt {fuel : Nat} {v : Value} {x : DataW H × List MemPlace} (h : DataW.trod enc Tryd.prog W base (fun _ => true) held fuel 37 [v] = some x) : CodeAt W W.heap.size v := by
  rcases open_ints Tryd.underlying37 Tryd.underlying5 Tryd.cellsU8 h with ⟨hcs, _⟩ | ⟨a, len, cap, zs, hcs, _, hl, hm, hz, _, hcell, hwz⟩
  · simp only [List.cons.injEq, and_true] at hcs
    subst hcs
    exact ⟨none, 0, 0, rfl, Nat.le_refl _, Nat.zero_le _, fun h => absurd h (by omega)⟩
  · simp only [List.cons.injEq, and_true] at hcs
    subst hcs
    simp only [if_true] at hz
    refine ⟨some a, len, cap, rfl, hl, hm, fun h0 => ?_⟩
    obtain ⟨b, off, spot⟩ := a
    have hspot : spot = none := by simpa [Addr.add] using World.cell?_spot (hcell 0 (by omega))
    subst hspot
    have hg := World.block_lt_of_cell? _ _ (hcell 0 (by omega))
    refine ⟨b, off, rfl, hg, fun k hk => ?_⟩
    have h1 := hcell k (by omega)
    have h2 : zs.getD k 0 = zs[k]'(by omega) := by rw [List.getD_eq_getElem?_getD, List.getElem?_eq_getElem (by omega)]; rfl
    rw [h2, Addr.add_lit] at h1
    have h3 := hwz (zs[k]'(by omega)) (List.getElem_mem _)
    have h4 : 0 ≤ zs[k]'(by omega) ∧ zs[k]'(by omega) ≤ 255 := by simpa [Lit.wf, IntKind.min, IntKind.max, IntKind.signed, IntKind.bits] using h3
    refine ⟨(zs[k]'(by omega)).toNat, by omega, ?_⟩
    rw [h1]
    congr 2
    omega
end

set_option maxRecDepth 100000 in
set_option maxHeartbeats 1000000 in
theorem drawSize_any (v : Value) (w : World) (h : CodeAt w w.heap.size v) :
    Calls Tryd.prog 39 #[v] w fun e w' => ∃ M : List UInt8, e = .returned (.string (str M)) ∧ M.length ≤ 122 ∧ Below w.heap.size w w' := by
  have HO := Lib.hid (l13Open_any w.heap.size v w h (Nat.le_refl _))
  clear h
  go_enter Tryd.func39, Tryd.ntmps39
  go_wp2_with fail
  refine HO.out.mono ?_
  rintro e w1 ⟨rfl, hb, hs, hr⟩
  have HB := Lib.hid hb
  have HR := Lib.hid hr
  clear hb hr
  go_wp2_with fail
  refine (some_any w.heap.size 0 w1 HR.out (by omega)).mono ?_
  rintro e w2 ⟨M, rfl, hM, _, hk⟩
  have HB2 := Lib.hid (HB.out.trans (hk.below (Nat.le_refl _) (by omega)))
  clear hk
  go_wp2
  go_ret
  exact ⟨M, rfl, hM, HB2.out⟩
end Go.Proofs.YtcecljolnknapaaDoor
