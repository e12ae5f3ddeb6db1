/-
  The contracts of Coerce, the program's and the model's.
-/
import Derived.Test.YtokklaoldgdkaaaShorti
import Derived.Test.YtokklaoldgdkaaaCohd
namespace Go.Proofs.Ytokklaoldgdkaaa
open Go.RowKit

/-- What Coerce answers. -/
def coeV (t : Ty) (a b v : Int) : Int := if (typesB t a b = true ∧ hasV0 t.sizes a v = true) ∧ canB t a b = true then goV t.cos v (shortV t a b) else -1
theorem coeV_no {t : Ty} {a b v : Int} (h : ¬ ((typesB t a b = true ∧ hasV0 t.sizes a v = true) ∧ canB t a b = true)) : coeV t a b v = -1 := if_neg h
theorem canC_of {t : Ty} {a b : Int} (h : typesB t a b = true) : canC t a b = canB t a b := by unfold canC; rw [h, Bool.true_and]
theorem short_end {t : Ty} {a b : Int} (h : typesB t a b = true) (hc : canB t a b = true) : wayEnd t.cos a (shortV t a b) = some b := by
  unfold canB at hc
  have hl : 0 < (waysOf t a b).length := by simpa using hc
  obtain ⟨y, hy⟩ := shortO_some (waysOf t a b) (by intro e; rw [e] at hl; simp at hl)
  rw [shortV_yes h, hy]
  exact waysOf_end (shortO_mem _ y hy)

set_option maxRecDepth 100000 in
set_option maxHeartbeats 1000000 in
theorem l3Coerce_any (lo hi : Nat) (sv cv : Value) (t : Ty) (a b v : Int) (w : World) (hv : TyAt w lo hi sv cv t) (hB : hi ≤ w.heap.size) (htb : typesB t a b = true) (hh : hasV0 t.sizes a v = true) :
    Calls Try.prog 69 #[.agg #[sv, cv], .int .i64 a, .int .i64 b, .int .i64 v] w fun e w' => e = .returned (.int .i64 (coeV t a b v)) ∧ Below w.heap.size w w' := by
  obtain ⟨A, cap, rfl, hl1, hm1, _⟩ := hv.1.form
  obtain ⟨B, bap, rfl, hl2, hm2, _⟩ := hv.2.form
  have h3 : Below w.heap.size w (w.alloc (.cells #[.slice A t.sizes.length cap, .slice B t.cos.length bap] 30)) := by go_grown
  have hv3 := Lib.hid (hv.below h3 hB)
  have Hv := Lib.hid hv
  have Htb := Lib.hid htb
  have Hh := Lib.hid hh
  clear hv htb hh
  go_enter Try.func69, Try.ntmps69
  go_wp2_with fail
  refine (l2Shortest_any lo hi _ _ t a b _ hv3.out (by simp; omega) Htb.out).mono ?_
  rintro e w1 ⟨y, rfl, hb1, hy1⟩
  have H1 := Lib.hid (box2 (hb1.mono (by simp)))
  obtain ⟨q0, q1, hl, _⟩ := box2 (hb1.mono (by simp))
  have Hy1 := Lib.hid hy1
  obtain ⟨Y, yap, rfl, _, _, _⟩ := hy1.form
  rw [canC_of Htb.out]
  clear hb1 hy1
  by_cases hc : canB t a b = true
  · have hfin : Hid (coeV t a b v = goV t.cos v (shortV t a b)) := if_pos ⟨⟨Htb.out, Hh.out⟩, hc⟩
    have hse := Lib.hid (show (wayEnd t.cos a (shortV t a b)).isSome = true by rw [short_end Htb.out hc]; rfl)
    rw [hc]
    clear hc
    go_wp2_with fail
    refine (l2Go_any lo hi _ _ _ _ _ t a v _ _ (Hv.out.below H1.out.2.2.2 hB) (by omega) Hy1.out (Nat.le_refl _) (typesB_of Htb.out).1 (valOf_hasV0.1 Hh.out) hse.out).mono ?_
    rintro e w2 ⟨rfl, hb2⟩
    have H2 := Lib.hid (H1.out.2.2.2.trans (hb2.mono (by omega)))
    clear hb2
    go_wp2
    go_ret
    exact ⟨ret_int hfin.out.symm, H2.out⟩
  · have hfin := Lib.hid (coeV_no (v := v) (fun h => hc h.2))
    have hcf : canB t a b = false := by simpa using hc
    rw [hcf]
    clear hc hcf
    go_wp2
    go_ret
    exact ⟨ret_int hfin.out.symm, H1.out.2.2.2⟩

set_option maxRecDepth 100000 in
set_option maxHeartbeats 1000000 in
theorem specCoerce_any (lo hi : Nat) (sv cv : Value) (t : Ty) (a b v : Int) (w : World) (hv : TyAt w lo hi sv cv t) (hB : hi ≤ w.heap.size) :
    Calls Try.prog 24 #[.agg #[sv, cv], .int .i64 a, .int .i64 b, .int .i64 v] w fun e w' => e = .returned (.int .i64 (coeV t a b v)) ∧ Below w.heap.size w w' := by
  obtain ⟨A, cap, rfl, hl1, hm1, _⟩ := hv.1.form
  obtain ⟨B, bap, rfl, hl2, hm2, _⟩ := hv.2.form
  have h3 : Below w.heap.size w (w.alloc (.cells #[.slice A t.sizes.length cap, .slice B t.cos.length bap] 30)) := by go_grown
  have hv3 := Lib.hid (hv.below h3 hB)
  have Hv := Lib.hid hv
  clear hv
  go_enter Try.func24, Try.ntmps24
  go_wp2_with fail
  refine (l2Types_any lo hi _ _ t a b _ hv3.out (by simp; omega)).mono ?_
  rintro e w1 ⟨rfl, hb1⟩
  have H1 := Lib.hid (box2 (hb1.mono (by simp)))
  obtain ⟨q0, q1, hl, _⟩ := box2 (hb1.mono (by simp))
  clear hb1
  by_cases htb : typesB t a b = true
  · have Htb := Lib.hid htb
    rw [htb]
    clear htb
    go_wp2_with fail
    refine (l1Has_any lo hi _ _ t a v _ (Hv.out.below H1.out.2.2.2 hB) (by omega) (tyOk_sizes (typesB_of Htb.out).1)).mono ?_
    rintro e w2 ⟨rfl, hb2⟩
    have H2 := Lib.hid (H1.out.2.2.2.trans (hb2.mono (by omega)))
    have q0' : w2.cell? ⟨w.heap.size, 0, none⟩ = some (.slice A t.sizes.length cap) := (hb2.cell (p := ⟨w.heap.size, 0, none⟩) hl).trans q0
    have q1' : w2.cell? ⟨w.heap.size, 1, none⟩ = some (.slice B t.cos.length bap) := (hb2.cell (p := ⟨w.heap.size, 1, none⟩) hl).trans q1
    have hl2 : w.heap.size ≤ w2.heap.size := by have := hb2.size; omega
    clear hb2 q0 q1
    by_cases hh : hasV0 t.sizes a v = true
    · have Hh := Lib.hid hh
      rw [hh]
      clear hh
      go_wp2_with fail
      refine (l3Coerce_any lo hi _ _ t a b v _ (Hv.out.below H2.out hB) (by omega) Htb.out Hh.out).mono ?_
      rintro e w3 ⟨rfl, hb3⟩
      have H3 := Lib.hid (H2.out.trans (hb3.mono hl2))
      clear hb3
      go_wp2
      go_ret
      exact ⟨rfl, H3.out⟩
    · have hfin := Lib.hid (coeV_no (t := t) (a := a) (b := b) (v := v) (fun h => hh h.1.2))
      have hhf : hasV0 t.sizes a v = false := by simpa using hh
      rw [hhf]
      clear hh hhf
      go_wp2
      go_ret
      exact ⟨ret_int hfin.out.symm, H2.out⟩
  · have hfin := Lib.hid (coeV_no (v := v) (fun h => htb h.1.1))
    have htf : typesB t a b = false := by simpa using htb
    rw [htf]
    clear htb htf
    go_wp2
    go_ret
    exact ⟨ret_int hfin.out.symm, H1.out.2.2.2⟩

set_option maxRecDepth 100000 in
set_option maxHeartbeats 1000000 in
theorem implCoerce_any (lo hi : Nat) (sv cv : Value) (t : Ty) (a b v : Int) (w : World) (hv : TyAt w lo hi sv cv t) (hB : hi ≤ w.heap.size) (ha : I64 a) (hb : I64 b) :
    Calls Try.prog 25 #[.agg #[sv, cv], .int .i64 a, .int .i64 b, .int .i64 v] w fun e w' => e = .returned (.int .i64 (coeV t a b v)) ∧ Below w.heap.size w w' := by
  obtain ⟨A, cap, rfl, hl1, hm1, _⟩ := hv.1.form
  obtain ⟨B, bap, rfl, hl2, hm2, _⟩ := hv.2.form
  have h3 : Below w.heap.size w (w.alloc (.cells #[.slice A t.sizes.length cap, .slice B t.cos.length bap] 30)) := by go_grown
  have hv3 := Lib.hid (hv.below h3 hB)
  have Hv := Lib.hid hv
  clear hv
  go_enter Try.func25, Try.ntmps25
  go_wp2_with fail
  refine (implShort_any lo hi _ _ t a b _ hv3.out (by simp; omega) ha hb).mono ?_
  rintro e w1 ⟨y, rfl, hb1, hown1⟩
  have hy1 := ownsRow.intsAt (lo := (w.alloc (.cells #[.slice A t.sizes.length cap, .slice B t.cos.length bap] 30)).heap.size) (hi := w1.heap.size) hown1 (shortV_wf t a b).1 (Nat.le_refl _) (Nat.le_refl _)
  have H1 := Lib.hid (box2 (hb1.mono (by simp)))
  obtain ⟨q0, q1, hl, _⟩ := box2 (hb1.mono (by simp))
  have Hy1 := Lib.hid hy1
  obtain ⟨Y, yap, rfl, _, _, _⟩ := hy1.form
  clear hb1 hy1 hown1
  by_cases hc : canC t a b = true
  · have Hc := Lib.hid hc
    rw [hc]
    clear hc
    go_wp2_with fail
    refine (implGoWay_any lo hi _ _ _ _ _ t a v _ _ (Hv.out.below H1.out.2.2.2 hB) (by omega) Hy1.out (Nat.le_refl _) ha).mono ?_
    rintro e w2 ⟨rfl, hb2⟩
    have H2 := Lib.hid (H1.out.2.2.2.trans (hb2.mono (by omega)))
    have hfin : Hid (goWayV t a (shortV t a b) v = coeV t a b v) := by
      show _ = _
      have hcc := Hc.out
      unfold canC at hcc
      rw [Bool.and_eq_true] at hcc
      obtain ⟨h1, h2⟩ := hcc
      have h3 : (wayEnd t.cos a (shortV t a b)).isSome = true := by rw [short_end h1 h2]; rfl
      by_cases hh : hasV0 t.sizes a v = true
      · rw [goWayV_yes (by unfold hasV; rw [(typesB_of h1).1, hh]; rfl) h3]
        exact (if_pos ⟨⟨h1, hh⟩, h2⟩).symm
      · rw [goWayV_no (fun h => hh (by have := h.1; unfold hasV at this; rw [Bool.and_eq_true] at this; exact this.2)), coeV_no (fun h => hh h.1.2)]
    clear hb2
    go_wp2
    go_ret
    exact ⟨ret_int hfin.out, H2.out⟩
  · have hfin := Lib.hid (coeV_no (v := v) (fun h => hc (by unfold canC; rw [h.1.1, h.2]; rfl)))
    have hcf : canC t a b = false := by simpa using hc
    rw [hcf]
    clear hc hcf
    go_wp2
    go_ret
    exact ⟨ret_int hfin.out.symm, H1.out.2.2.2⟩
end Go.Proofs.Ytokklaoldgdkaaa
