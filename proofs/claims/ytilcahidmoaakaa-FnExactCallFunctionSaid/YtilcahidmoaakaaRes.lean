/-
  What a table of results gives, as plain data; the contract of the program's resultTable.result.
-/
import Derived.Test.YtilcahidmoaakaaFit
import Derived.Test.YtilcahidmoaakaaHas
namespace Go.Proofs.Ytilcahidmoaakaa
open Go.RowKit
attribute [local go_sem] Oper.semAt_some

def prodTo (ts : List Int) : Nat → Int
  | 0 => 1
  | k + 1 => prodTo ts k * ts.getD k 0
/-- The place of the first k values. -/
def plTo (ts vs : List Int) : Nat → Int
  | 0 => 0
  | k + 1 => plTo ts vs k * ts.getD k 0 + vs.getD k 0
/-- Values of types of such sizes. -/
def InT (ts vs : List Int) : Prop := vs.length = ts.length ∧ ∀ j, j < ts.length → 0 ≤ vs.getD j 0 ∧ vs.getD j 0 < ts.getD j 0
open Classical in
noncomputable def resV (ts rs vs : List Int) : Int := if InT ts vs then rs.getD (plTo ts vs ts.length).toNat 0 else -1
theorem resV_yes {ts rs vs : List Int} (h : InT ts vs) : resV ts rs vs = rs.getD (plTo ts vs ts.length).toNat 0 := by unfold resV; exact if_pos h
theorem resV_no {ts rs vs : List Int} (h : ¬ InT ts vs) : resV ts rs vs = -1 := by unfold resV; exact if_neg h

theorem plTo_bound {ts vs : List Int} (h2 : ts.length ≤ 2) (hs : ∀ j, j < ts.length → 1 ≤ ts.getD j 0 ∧ ts.getD j 0 ≤ 4) : ∀ k, k ≤ ts.length → (∀ j, j < k → 0 ≤ vs.getD j 0 ∧ vs.getD j 0 < ts.getD j 0) → 0 ≤ plTo ts vs k ∧ plTo ts vs k < prodTo ts k ∧ prodTo ts k ≤ 16 := by
  intro k hk hv
  match k, hk with
  | 0, _ => exact ⟨by show (0 : Int) ≤ 0; omega, by show (0 : Int) < 1; omega, by show (1 : Int) ≤ 16; omega⟩
  | 1, hk =>
    have h0 := hs 0 (by omega)
    have v0 := hv 0 (by omega)
    show 0 ≤ 0 * ts.getD 0 0 + vs.getD 0 0 ∧ 0 * ts.getD 0 0 + vs.getD 0 0 < 1 * ts.getD 0 0 ∧ 1 * ts.getD 0 0 ≤ 16
    rw [Int.zero_mul, Int.one_mul]
    omega
  | 2, hk =>
    have h0 := hs 0 (by omega)
    have h1 := hs 1 (by omega)
    have v0 := hv 0 (by omega)
    have v1 := hv 1 (by omega)
    show 0 ≤ (0 * ts.getD 0 0 + vs.getD 0 0) * ts.getD 1 0 + vs.getD 1 0 ∧ (0 * ts.getD 0 0 + vs.getD 0 0) * ts.getD 1 0 + vs.getD 1 0 < 1 * ts.getD 0 0 * ts.getD 1 0 ∧ 1 * ts.getD 0 0 * ts.getD 1 0 ≤ 16
    rw [Int.zero_mul, Int.one_mul, Int.zero_add]
    generalize ts.getD 0 0 = p at *
    generalize ts.getD 1 0 = q at *
    generalize vs.getD 0 0 = a at *
    generalize vs.getD 1 0 = b at *
    have hq : q = 1 ∨ q = 2 ∨ q = 3 ∨ q = 4 := by omega
    rcases hq with rfl | rfl | rfl | rfl <;> omega
  | k + 3, hk => omega

set_option maxRecDepth 100000 in
set_option maxHeartbeats 4000000 in
theorem result_any (lo hi lo1 hi1 lo2 hi2 : Nat) (sv rv vv : Value) (ts rs vs : List Int) (w : World) (hs : IntsAt w lo hi sv ts) (hr : IntsAt w lo1 hi1 rv rs) (hv : IntsAt w lo2 hi2 vv vs) (hB : hi ≤ w.heap.size) (hB1 : hi1 ≤ w.heap.size) (hB2 : hi2 ≤ w.heap.size)
    (h2 : ts.length ≤ 2) (hsz : ∀ j, j < ts.length → 1 ≤ ts.getD j 0 ∧ ts.getD j 0 ≤ 4) (hlen : (rs.length : Int) = prodTo ts ts.length) :
    Calls Try.prog 152 #[.agg #[sv, rv], vv] w fun e w' => e = .returned (.int .i64 (resV ts rs vs)) ∧ Below w.heap.size w w' := by
  obtain ⟨S, sap, rfl, hls, hms, hs1⟩ := hs.form
  obtain ⟨R, rap, rfl, hlr, hmr, hr1⟩ := hr.form
  obtain ⟨V, vap, rfl, hlv, hmv, hv1⟩ := hv.form
  unfold maxLen at hms hmr hmv
  have h3 : Below w.heap.size w (w.alloc (.cells #[.slice S ts.length sap, .slice R rs.length rap] 150)) := by go_grown
  have Hs := Lib.hid hs1
  have Hr := Lib.hid hr1
  have Hv := Lib.hid hv1
  clear hs hr hv hs1 hr1 hv1
  by_cases hl : vs.length = ts.length
  case neg =>
    have hd : ((vs.length : Int) != (ts.length : Int)) = true := by simp; omega
    have H := Lib.hid (resV_no (rs := rs) fun h : InT ts vs => hl h.1)
    clear hl
    go_enter Try.func152, Try.ntmps152
    go_wp2
    go_ret
    exact ⟨ret_int H.out.symm, h3⟩
  have hd : ((vs.length : Int) != (ts.length : Int)) = false := by simp; omega
  have Hl := Lib.hid hl
  clear hl
  go_enter Try.func152, Try.ntmps152
  go_wp2
  obtain ⟨wb, hwb⟩ : ∃ wb, wb = w.alloc (.cells #[.slice S ts.length sap, .slice R rs.length rap] 150) := ⟨_, rfl⟩
  have hrow : Row wb w.heap.size 150 [.slice S ts.length sap, .slice R rs.length rap] := by rw [hwb]; exact Row.new _ _ _
  have hbb : Below w.heap.size w wb := by rw [hwb]; exact h3
  have q0 := hrow.cell 0
  have q1 := hrow.cell 1
  simp only [List.getElem?_cons_zero, List.getElem?_cons_succ] at q0 q1
  have Hs' := Lib.hid (Hs.out.below hbb hB)
  have Hr' := Lib.hid (Hr.out.below hbb hB1)
  have Hv' := Lib.hid (Hv.out.below hbb hB2)
  have Hbb := Lib.hid hbb
  rw [← hwb]
  clear hbb h3 hrow hwb Hs Hr Hv hd
  have Hsz := Lib.hid hsz
  have Hlen := Lib.hid hlen
  clear hsz hlen
  go_loop [5, 16] (fun r i => ∃ k : Nat, k ≤ vs.length ∧ i = .int .i64 k ∧ r = .int .i64 (plTo ts vs k) ∧ Hid (∀ j, j < k → 0 ≤ vs.getD j 0 ∧ vs.getD j 0 < ts.getD j 0)) (fun _ i => vs.length - (intOf i).toNat)
  case atStart => exact ⟨0, Nat.zero_le _, rfl, rfl, fun j hj => absurd hj (by omega)⟩
  case round =>
    obtain ⟨k, hk, rfl, rfl, hok⟩ := hrel
    by_cases hlt : k < vs.length
    · have hkt : k < ts.length := by have := Hl.out; omega
      obtain ⟨b1, o1, rfl, _, _, e1, hi64⟩ := Hv'.out.at_ hlt
      obtain ⟨b2, o2, rfl, _, _, e2, _⟩ := Hs'.out.at_ hkt
      have hktI : (k : Int) < (ts.length : Int) := by omega
      have hgv : Hid (vs.getD k 0 = vs[k]) := by show _ = _; rw [List.getD_eq_getElem?_getD, List.getElem?_eq_getElem hlt]; rfl
      have hgt : Hid (ts.getD k 0 = ts[k]) := by show _ = _; rw [List.getD_eq_getElem?_getD, List.getElem?_eq_getElem hkt]; rfl
      by_cases hin : ixB vs[k] ts[k] = true
      · have hin2 : 0 ≤ vs[k] ∧ vs[k] < ts[k] := by simpa [ixB] using hin
        have hok2 : Hid (∀ j, j < k + 1 → 0 ≤ vs.getD j 0 ∧ vs.getD j 0 < ts.getD j 0) := fun j hj => by
          by_cases e : j = k
          · subst e; rw [hgv.out, hgt.out]; exact hin2
          · exact hok.out j (by omega)
        have hb := plTo_bound h2 Hsz.out (k + 1) hkt hok2.out
        have hstep : plTo ts vs (k + 1) = plTo ts vs k * ts[k] + vs[k] := by show plTo ts vs k * ts.getD k 0 + vs.getD k 0 = _; rw [hgv.out, hgt.out]
        have hb0 := plTo_bound h2 Hsz.out k (by omega) (fun j hj => hok.out j (by omega))
        rw [hstep] at hb
        have ht4 := Hsz.out k hkt
        rw [hgt.out] at ht4
        have hm : 0 ≤ plTo ts vs k * ts[k] := Int.mul_nonneg hb0.1 (by omega)
        have hwr := wrapIn (plTo ts vs k * ts[k]) (by omega) (by omega)
        have hwr2 := wrapIn (plTo ts vs k * ts[k] + vs[k]) (by omega) (by omega)
        have Hstep := Lib.hid hstep
        clear hstep hb hb0 hm hin2 ht4
        go_wp2_with (go_at_call 107; refine (isIndex_any _ _ _).mono ?_; rintro e w' ⟨rfl, rfl⟩; rw [hin])
        go_round
        case rel => exact ⟨k + 1, by omega, by go_num, by rw [Hstep.out], hok2⟩
        case measure => simp [intOf]; omega
      · have hinf : ixB vs[k] ts[k] = false := by simpa using hin
        have H := Lib.hid (resV_no (rs := rs) fun h : InT ts vs => hin (by have := h.2 k hkt; rw [hgv.out, hgt.out] at this; exact ixB_yes this.1 this.2))
        clear hin
        go_wp2_with (go_at_call 107; refine (isIndex_any _ _ _).mono ?_; rintro e w' ⟨rfl, rfl⟩; rw [hinf])
        go_ret
        exact ⟨ret_int H.out.symm, Hbb.out⟩
    · obtain rfl : k = vs.length := by omega
      have hIn : InT ts vs := ⟨Hl.out, fun j hj => hok.out j (by have := Hl.out; omega)⟩
      have hb := plTo_bound h2 Hsz.out ts.length (Nat.le_refl _) hIn.2
      have hL := Hlen.out
      rw [← Hl.out] at hb hL
      have hlt2 : (plTo ts vs vs.length).toNat < rs.length := by omega
      have H : Hid (resV ts rs vs = rs[(plTo ts vs vs.length).toNat]) := by
        show _ = _
        rw [resV_yes hIn, ← Hl.out, List.getD_eq_getElem?_getD, List.getElem?_eq_getElem hlt2]; rfl
      obtain ⟨b3, o3, rfl, _, _, e3, _⟩ := Hr'.out.at_ hlt2
      have hp0 := hb.1
      have hp1 : plTo ts vs vs.length < (rs.length : Int) := by omega
      clear hb hL hIn
      go_wp2
      go_ret
      exact ⟨ret_int H.out.symm, Hbb.out⟩
end Go.Proofs.Ytilcahidmoaakaa
