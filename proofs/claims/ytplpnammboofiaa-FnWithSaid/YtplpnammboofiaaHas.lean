/-
  The contracts of HasValue, the program's and the model's.
-/
import Derived.Test.YtplpnammboofiaaSv
import Derived.Test.YtplpnammboofiaaIt
namespace Go.Proofs.Ytplpnammboofiaa
open Go.RowKit

theorem inB_ix (i n : Int) : inB i 0 (n - 1) = ixB i n := by
  unfold inB ixB
  rw [decide_eq_decide]
  omega
/-- Is v a value of the type k? -/
def hasV0 (ss : List Int) (k v : Int) : Bool := ixB k ss.length && ixB v (ss.getD k.toNat 0)
def hasV (t : Ty) (k v : Int) : Bool := tyOk t && hasV0 t.sizes k v
theorem hasV0_no {ss : List Int} {k v : Int} (h : ixB k ss.length = false) : hasV0 ss k v = false := by unfold hasV0; rw [h, Bool.false_and]
theorem hasV0_yes {ss : List Int} {k v : Int} (h : ixB k ss.length = true) (hk : k.toNat < ss.length) : hasV0 ss k v = ixB v ss[k.toNat] := by
  unfold hasV0; rw [h, Bool.true_and, List.getD_eq_getElem?_getD, List.getElem?_eq_getElem hk]; rfl
theorem tyOk_sizes {t : Ty} (h : tyOk t = true) : sizesOk t.sizes = true := by
  unfold tyOk at h
  simp only [Bool.and_eq_true] at h
  exact h.1.1

set_option maxRecDepth 100000 in
set_option maxHeartbeats 1000000 in
theorem l1Has_any (lo hi : Nat) (sv cv : Value) (t : Ty) (k v : Int) (w : World) (hv : TyAt w lo hi sv cv t) (hB : hi ≤ w.heap.size) (hok : sizesOk t.sizes = true) :
    Calls Try.prog 85 #[.agg #[sv, cv], .int .i64 k, .int .i64 v] w fun e w' => e = .returned (.bool (hasV0 t.sizes k v)) ∧ Below w.heap.size w w' := by
  obtain ⟨A, cap, rfl, hl1, hm1, hi1⟩ := hv.1.form
  obtain ⟨B, bap, rfl, hl2, hm2, _⟩ := hv.2.form
  obtain ⟨g1, g5, hall⟩ := sizesOk_of hok
  have h3 : Below w.heap.size w (w.alloc (.cells #[.slice A t.sizes.length cap, .slice B t.cos.length bap] 26)) := by go_grown
  clear hv
  by_cases ha : 0 ≤ k ∧ k < t.sizes.length
  · have hA := ixB_yes ha.1 ha.2
    have hlt : k.toNat < t.sizes.length := by omega
    have hfin := Lib.hid (hasV0_yes (v := v) hA hlt)
    obtain ⟨b, off, rfl, _, _, c0, _⟩ := (hi1.below h3 hB).at_ hlt
    have hsz := hall _ hlt
    have hA2 : inB k 0 ((t.sizes.length : Int) - 1) = true := by rw [inB_ix]; exact hA
    have hk0 := ha.1
    have hk1 := ha.2
    clear hA hall hi1 ha
    have H3 := Lib.hid h3
    clear h3
    go_enter Try.func85, Try.ntmps85
    go_wp2_with (go_at_call 74; refine (l1In_any _ _ _ _).mono ?_; rintro e w' ⟨rfl, rfl⟩)
    go_ret
    exact ⟨ret_bool (by rw [hfin.out, inB_ix]), H3.out⟩
  · have hA := ixB_no ha
    have hfin := Lib.hid (hasV0_no (v := v) hA)
    have hA2 : inB k 0 ((t.sizes.length : Int) - 1) = false := by rw [inB_ix]; exact hA
    clear hA ha
    go_enter Try.func85, Try.ntmps85
    go_wp2_with (go_at_call 74; refine (l1In_any _ _ _ _).mono ?_; rintro e w' ⟨rfl, rfl⟩)
    go_ret
    exact ⟨ret_bool hfin.out.symm, h3⟩

end Go.Proofs.Ytplpnammboofiaa
