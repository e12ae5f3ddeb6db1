/-
  The contract of the program's CanCoerce.
-/
import Derived.Test.YtfnfcagdoedilaaLeads
namespace Go.Proofs.Ytfnfcagdoedilaa
open Go.RowKit

theorem findOk_two {t : Ty} {a b : Int} : findOk t [a, b] = typesB t a b := by simp [findOk, typesB, Bool.and_assoc]
theorem ints_two (w : World) (a b : Int) (ha : I64 a) (hb : I64 b) (t : TypeId) : IntsAt (w.alloc (.cells #[.int .i64 a, .int .i64 b] t)) w.heap.size (w.heap.size + 1) (.slice (some ⟨w.heap.size, 0, none⟩) 2 2) [a, b] :=
  (show Row (w.alloc (.cells #[.int .i64 a, .int .i64 b] t)) w.heap.size t ([a, b].map (Value.int .i64)) from Row.new w t [.int .i64 a, .int .i64 b]).ints (fun x hx => by
    simp only [List.mem_cons, List.not_mem_nil, or_false] at hx
    rcases hx with rfl | rfl
    · exact ha
    · exact hb) (Nat.le_refl _) (by omega) (Nat.le_refl _) (by unfold maxLen; simp)

set_option maxRecDepth 100000 in
set_option maxHeartbeats 1000000 in
theorem implCan_any (lo hi : Nat) (sv cv : Value) (t : Ty) (a b : Int) (w : World) (hv : TyAt w lo hi sv cv t) (hB : hi ≤ w.heap.size) (ha : I64 a) (hb : I64 b) :
    Calls Try.prog 18 #[.agg #[sv, cv], .int .i64 a, .int .i64 b] w fun e w' => e = .returned (.bool (canC t a b)) ∧ Below w.heap.size w w' := by
  obtain ⟨A, cap, rfl, hl1, hm1, hi1⟩ := hv.1.form
  obtain ⟨B, bap, rfl, hl2, hm2, hc1⟩ := hv.2.form
  have Hv := Lib.hid hv
  clear hv hi1 hc1
  have h4 : Below w.heap.size w ((w.alloc (.cells #[.slice A t.sizes.length cap, .slice B t.cos.length bap] 26)).alloc (.cells #[.int .i64 a, .int .i64 b] 3)) := by go_grown
  have hone := ints_two (w.alloc (.cells #[.slice A t.sizes.length cap, .slice B t.cos.length bap] 26)) a b ha hb 3
  rw [World.size_alloc] at hone
  have H4 := Lib.hid h4
  have Hone := Lib.hid hone
  clear h4 hone
  go_enter Try.func18, Try.ntmps18
  go_wp2_with fail
  refine (finderOf_any lo hi _ _ _ _ _ t [a, b] _ (Hv.out.below H4.out hB) (by simp; omega) Hone.out (by simp only [World.size_alloc]; omega)).mono ?_
  rintro e w1 ⟨p, rfl, hb1, hf1⟩
  rw [findOk_two] at hf1 ⊢
  have H1 := Lib.hid (H4.out.trans (hb1.mono (by simp; omega)))
  have hs1 : w.heap.size ≤ w1.heap.size := H1.out.size
  clear hb1
  by_cases hok : typesB t a b = true
  · obtain ⟨g, rfl, hg, hrow⟩ := hf1 hok
    have Hrow := Lib.hid hrow
    have Hok := Lib.hid hok
    have hfin : Hid (canC t a b = canB t a b) := by show _ = _; unfold canC; rw [hok, Bool.true_and]
    rw [hok]
    clear hrow hok
    go_wp2_with fail
    refine (leads_any lo hi g _ _ t a b _ (Hv.out.below H1.out hB) (by omega) Hrow.out Hok.out).mono ?_
    rintro e w2 ⟨rfl, hb2⟩
    have H2 := Lib.hid (H1.out.trans (hb2.mono hs1))
    clear hb2
    go_wp2
    go_ret
    exact ⟨ret_bool hfin.out.symm, H2.out⟩
  · have hokf : typesB t a b = false := by simpa using hok
    have hfin : Hid (canC t a b = false) := by show _ = _; unfold canC; rw [hokf, Bool.false_and]
    rw [hokf]
    clear hok hf1
    go_wp2
    go_ret
    exact ⟨ret_bool hfin.out.symm, H1.out⟩
end Go.Proofs.Ytfnfcagdoedilaa
