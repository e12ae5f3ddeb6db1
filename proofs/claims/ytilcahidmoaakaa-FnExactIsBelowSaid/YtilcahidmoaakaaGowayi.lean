/-
  The contract of the program's GoWay.
-/
import Derived.Test.YtilcahidmoaakaaGoway
namespace Go.Proofs.Ytilcahidmoaakaa
open Go.RowKit

theorem findOk_one {t : Ty} {k : Int} : findOk t [k] = (tyOk t && ixB k t.sizes.length) := by simp [findOk]
/-- One number in new memory. -/
theorem ints_one (w : World) (z : Int) (hz : I64 z) (t : TypeId) : IntsAt (w.alloc (.cells #[.int .i64 z] t)) w.heap.size (w.heap.size + 1) (.slice (some ⟨w.heap.size, 0, none⟩) 1 1) [z] :=
  (show Row (w.alloc (.cells #[.int .i64 z] t)) w.heap.size t ([z].map (Value.int .i64)) from Row.new w t [.int .i64 z]).ints (fun x hx => by simp at hx; subst hx; exact hz) (Nat.le_refl _) (by omega) (Nat.le_refl _) (by unfold maxLen; simp)

set_option maxRecDepth 100000 in
set_option maxHeartbeats 2000000 in
theorem implGoWay_any (lo hi lo2 hi2 : Nat) (sv cv rv : Value) (t : Ty) (k v : Int) (zs : List Int) (w : World) (hv : TyAt w lo hi sv cv t) (hB : hi ≤ w.heap.size) (hr : IntsAt w lo2 hi2 rv zs) (hB2 : hi2 ≤ w.heap.size) (hk : I64 k) :
    Calls Try.prog 64 #[.agg #[sv, cv], .int .i64 k, rv, .int .i64 v] w fun e w' => e = .returned (.int .i64 (goWayV t k zs v)) ∧ Below w.heap.size w w' := by
  obtain ⟨A, cap, rfl, hl1, hm1, hi1⟩ := hv.1.form
  obtain ⟨B, bap, rfl, hl2, hm2, hc1⟩ := hv.2.form
  have Hv := Lib.hid hv
  have Hr := Lib.hid hr
  have Hi1 := Lib.hid hi1
  clear hv hr hi1 hc1
  have h4 : Below w.heap.size w ((w.alloc (.cells #[.slice A t.sizes.length cap, .slice B t.cos.length bap] 33)).alloc (.cells #[.int .i64 k] 3)) := by go_grown
  have hone := ints_one (w.alloc (.cells #[.slice A t.sizes.length cap, .slice B t.cos.length bap] 33)) k hk 3
  rw [World.size_alloc] at hone
  have H4 := Lib.hid h4
  have Hone := Lib.hid hone
  clear h4 hone
  go_enter Try.func64, Try.ntmps64
  go_wp2_with fail
  refine (finderOf_any lo hi _ _ _ _ _ t [k] _ (Hv.out.below H4.out hB) (by simp; omega) Hone.out (by simp only [World.size_alloc]; omega)).mono ?_
  rintro e w1 ⟨p, rfl, hb1, hf1⟩
  rw [findOk_one] at hf1 ⊢
  have H1 := Lib.hid (H4.out.trans (hb1.mono (by simp; omega)))
  have hs1 : w.heap.size ≤ w1.heap.size := H1.out.size
  clear hb1
  by_cases hok : (tyOk t && ixB k t.sizes.length) = true
  · obtain ⟨g, rfl, hg, hrow⟩ := hf1 hok
    rw [Bool.and_eq_true] at hok
    obtain ⟨hty, hkx⟩ := hok
    have Hrow := Lib.hid hrow
    have Hty := Lib.hid hty
    have hk2 := hkx
    simp only [ixB, decide_eq_true_eq] at hk2
    obtain ⟨hk0, hk1⟩ := hk2
    rw [hty, hkx, Bool.and_self]
    have Hkx := Lib.hid hkx
    have g0 : w1.cell? ⟨g, 0, none⟩ = some (.slice A t.sizes.length cap) := hrow.cell 0
    have g1 : w1.cell? ⟨g, 1, none⟩ = some (.slice B t.cos.length bap) := hrow.cell 1
    have hkn : k.toNat < t.sizes.length := by omega
    have hhv : Hid (hasV t k v = ixB v t.sizes[k.toNat]) := by show _ = _; unfold hasV; rw [hty, Bool.true_and, hasV0_yes hkx hkn]
    obtain ⟨b, off, rfl, _, _, s0, _⟩ := (Hi1.out.below H1.out hB).at_ hkn
    clear hrow hty hkx
    go_wp2_with fail
    refine (isWay_any lo hi lo2 hi2 g _ _ _ t k zs _ (Hv.out.below H1.out hB) (Hr.out.below H1.out hB2) Hrow.out Hty.out).mono ?_
    rintro e w' ⟨rfl, rfl⟩
    by_cases hw : (wayEnd t.cos k zs).isSome = true
    · have Hw := Lib.hid hw
      rw [hw]
      clear hw
      by_cases hx : ixB v t.sizes[k.toNat] = true
      · have Hok : Hid (hasV t k v = true) := by show _ = _; rw [hhv.out]; exact hx
        have hfin := Lib.hid (goWayV_yes Hok.out Hw.out)
        have Hval := Lib.hid (hasV_of Hok.out).2
        go_wp2_with (go_at_call 107; refine (isIndex_any _ _ _).mono ?_; rintro e w' ⟨rfl, rfl⟩; rw [hx])
        refine (along_any lo hi lo2 hi2 g _ _ _ t k v zs _ (Hv.out.below H1.out hB) (by omega) (Hr.out.below H1.out hB2) (by omega) Hrow.out Hty.out Hval.out Hw.out).mono ?_
        rintro e w3 ⟨rfl, hb3⟩
        have H3 := Lib.hid (H1.out.trans (hb3.mono hs1))
        clear hb3
        go_wp2
        go_ret
        exact ⟨ret_int hfin.out.symm, H3.out⟩
      · have hxf : ixB v t.sizes[k.toNat] = false := by simpa using hx
        have hfin : Hid (goWayV t k zs v = -1) := goWayV_no (fun h => hx (by rw [← hhv.out]; exact h.1))
        clear hx
        go_wp2_with (go_at_call 107; refine (isIndex_any _ _ _).mono ?_; rintro e w' ⟨rfl, rfl⟩; rw [hxf])
        go_ret
        exact ⟨ret_int hfin.out.symm, H1.out⟩
    · have hfin := Lib.hid (goWayV_no (v := v) (fun h => hw h.2))
      have hwf : (wayEnd t.cos k zs).isSome = false := by simpa using hw
      rw [hwf]
      clear hw hwf
      go_wp2
      go_ret
      exact ⟨ret_int hfin.out.symm, H1.out⟩
  · have hokf : (tyOk t && ixB k t.sizes.length) = false := by simpa using hok
    have hno : Hid (goWayV t k zs v = -1) := goWayV_no (fun h => by
      have := hasV_of h.1
      rw [this.1, Bool.true_and] at hok
      exact hok (ixB_yes this.2.1 this.2.2.1))
    rw [hokf]
    clear hok hf1
    go_wp2
    go_ret
    exact ⟨ret_int hno.out.symm, H1.out⟩
end Go.Proofs.Ytilcahidmoaakaa
