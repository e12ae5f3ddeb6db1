/-
  The contract of the program's IsInjective.
-/
import Derived.Test.YtpifdkcgpefcaaaSapply
namespace Go.Proofs.Ytpifdkcgpefcaaa
open Go.RowKit

def injB (t : Ty) (i : Int) : Bool := hasC t i && decide (t.cos.getD i.toNat default).map.Nodup
theorem injB_no {t : Ty} {i : Int} (h : hasC t i = false) : injB t i = false := by unfold injB; rw [h, Bool.false_and]
theorem injB_yes {t : Ty} {i : Int} (h : hasC t i = true) (hi : i.toNat < t.cos.length) : injB t i = decide t.cos[i.toNat].map.Nodup := by
  unfold injB; rw [h, Bool.true_and, List.getD_eq_getElem?_getD, List.getElem?_eq_getElem hi]; rfl
theorem nodup_take_succ {zs : List Int} {k : Nat} (h : k < zs.length) : (zs.take (k + 1)).Nodup ↔ (zs.take k).Nodup ∧ zs[k] ∉ zs.take k := by
  rw [List.take_succ_eq_append_getElem h, List.nodup_append]
  constructor
  · rintro ⟨h1, _, h3⟩
    exact ⟨h1, fun hm => h3 _ hm _ (by simp) rfl⟩
  · rintro ⟨h1, h2⟩
    refine ⟨h1, by simp, fun a ha b hb e => ?_⟩
    simp only [List.mem_singleton] at hb
    subst hb
    exact h2 (e ▸ ha)
theorem not_nodup_of {zs : List Int} {k : Nat} (h : k < zs.length) (hm : zs[k] ∈ zs.take k) : ¬ zs.Nodup := by
  intro hn
  have h1 : (zs.take (k + 1)).Nodup := List.Sublist.nodup (List.take_sublist _ _) hn
  exact ((nodup_take_succ h).1 h1).2 hm

/-- The table, filled or not. -/
def TabSt (w : World) (g : Nat) (a b c : Value) (zs : List Int) : Prop :=
  Row w g 102 [a, b, c, .int .u32 0, .int .i32 0, .int .u32 0, .int .i64 0, .int .i64 0, .int .i64 0, .int .i64 0] ∨ Row w g 102 ([a, b, c, .int .u32 1, .int .i32 0, .int .u32 0] ++ tabOf zs)
theorem TabSt.keep {w w' : World} {g : Nat} {a b c : Value} {zs : List Int} (h : TabSt w g a b c zs) (hk : w'.heap[g]? = w.heap[g]?) : TabSt w' g a b c zs := by
  rcases h with h | h
  · exact .inl (h.keep hk)
  · exact .inr (h.keep hk)
theorem TabSt.lt {w : World} {g : Nat} {a b c : Value} {zs : List Int} (h : TabSt w g a b c zs) : g < w.heap.size := by
  rcases h with h | h
  · exact h.lt
  · exact h.lt

set_option maxRecDepth 100000 in
set_option maxHeartbeats 2000000 in
/-- A later look. -/
theorem of_done (g : Nat) (a b y5 : Value) (c : Value) (zs : List Int) (v : Int) (w : World) (hr : Row w g 102 ([a, b, c, .int .u32 1, .int .i32 0, y5] ++ tabOf zs)) (hn : zs.length ≤ 4) :
    Calls Try.prog 50 #[.pointer (some ⟨g, 0, none⟩), .int .i64 v] w fun e w' => e = .returned (.int .i64 (lookOf zs v)) ∧ w = w' := by
  have hmf : ∀ (fn : Fn) (first cap : Array Value) (w : World), (Instr.makeFunc fn first cap).run Try.prog w = .ok (.func fn first cap) w := fun _ _ _ _ => rfl
  have c0 : w.cell? ⟨g, 0, none⟩ = some a := hr.cell 0
  have c3 : w.cell? ⟨g, 3, none⟩ = some (.int .u32 1) := hr.cell 3
  by_cases hv : 0 ≤ v ∧ v < 4
  · have hix := ixB_yes hv.1 hv.2
    have hcell : w.cell? ⟨g, 6 + v.toNat, none⟩ = some (.int .i64 (lookOf zs v)) := by
      rw [hr.cell, List.getElem?_append_right (by simp), List.length_cons, List.length_cons, List.length_cons, List.length_cons, List.length_cons, List.length_cons, List.length_nil]
      rw [show 6 + v.toNat - (0 + 1 + 1 + 1 + 1 + 1 + 1) = v.toNat from by omega]
      exact tabOf_get zs hn v hv.1 hv.2
    have hv0 := hv.1
    have hv1 := hv.2
    clear hr hv
    go_enter Try.func50, Try.ntmps50
    go_wp2_with (first | (go_at_call 77; refine (do_done _ _ _ c3).mono ?_; rintro e w' ⟨rfl, rfl⟩) | (go_at_call 53; refine (isIndex_any _ _ _).mono ?_; rintro e w' ⟨rfl, rfl⟩; rw [hix]))
    go_ret
    exact ⟨rfl, rfl⟩
  · have hix := ixB_no hv
    have hout := Lib.hid (lookOf_out zs hn v hv)
    clear hr hv
    go_enter Try.func50, Try.ntmps50
    go_wp2_with (first | (go_at_call 77; refine (do_done _ _ _ c3).mono ?_; rintro e w' ⟨rfl, rfl⟩) | (go_at_call 53; refine (isIndex_any _ _ _).mono ?_; rintro e w' ⟨rfl, rfl⟩; rw [hix]))
    go_ret
    exact ⟨ret_int hout.out.symm, rfl⟩

theorem of_any (lo hi g : Nat) (a b : Value) (A : Option Addr) (cap : Nat) (zs : List Int) (v : Int) (w : World) (hr : TabSt w g a b (.slice A zs.length cap) zs)
    (hz : IntsAt w lo hi (.slice A zs.length cap) zs) (hB : hi ≤ g) (hn : zs.length ≤ 4) (hpos : 0 < zs.length) :
    Calls Try.prog 50 #[.pointer (some ⟨g, 0, none⟩), .int .i64 v] w fun e w' => e = .returned (.int .i64 (lookOf zs v)) ∧ Kept (· ≠ g) w w' ∧ TabSt w' g a b (.slice A zs.length cap) zs := by
  rcases hr with hr | hr
  · exact (of_first lo hi g a b _ _ _ _ _ A cap zs v w hr hz hB hn hpos).mono fun e w' ⟨he, hk, hr'⟩ => ⟨he, hk, .inr hr'⟩
  · exact (of_done g a b _ _ zs v w hr hn).mono fun e w' ⟨he, hw⟩ => ⟨he, by subst hw; exact Kept.refl _ _, by subst hw; exact .inr hr⟩

/-- Which images have been met. -/
def takenOf (zs : List Int) (k : Nat) : List Value := (List.range 4).map fun j : Nat => .bool (decide ((j : Int) ∈ zs.take k))
theorem takenOf_zero (zs : List Int) : takenOf zs 0 = [.bool false, .bool false, .bool false, .bool false] := by simp [takenOf, List.range_succ]
theorem takenOf_get (zs : List Int) (k j : Nat) (hj : j < 4) : (takenOf zs k)[j]? = some (.bool (decide ((j : Int) ∈ zs.take k))) := by
  unfold takenOf
  rw [List.getElem?_map, List.getElem?_range hj]; rfl
theorem takenOf_set (zs : List Int) (k j : Nat) (hk : k < zs.length) (hj : j < 4) (hz : zs[k] = (j : Int)) : (takenOf zs k).set j (.bool true) = takenOf zs (k + 1) := by
  apply List.ext_getElem?
  intro n
  by_cases hn : n < 4
  · rw [takenOf_get _ _ _ hn]
    by_cases e : n = j
    · subst e
      rw [List.getElem?_set_self (by simp [takenOf]; omega), List.take_succ_eq_append_getElem hk, hz]
      simp
    · rw [List.getElem?_set_ne (fun h => e h.symm), takenOf_get _ _ _ hn, List.take_succ_eq_append_getElem hk, hz]
      congr 2
      rw [decide_eq_decide]
      simp
      intro h
      omega
  · rw [List.getElem?_eq_none (by simp [takenOf]; omega), List.getElem?_eq_none (by simp [takenOf]; omega)]
end Go.Proofs.Ytpifdkcgpefcaaa
