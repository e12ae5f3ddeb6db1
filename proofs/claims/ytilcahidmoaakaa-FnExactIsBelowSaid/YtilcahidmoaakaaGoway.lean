/-
  The contracts of GoWay, the program's and the model's.
-/
import Derived.Test.YtilcahidmoaakaaWayc
namespace Go.Proofs.Ytilcahidmoaakaa
open Go.RowKit

theorem endV_of {cs : List Co} {t : Ty} {k : Int} {zs : List Int} {o : Option Int} (hc : t.cos = cs) (h : wayEnd cs k zs = o) : endV t k zs = o.getD (-1) := by
  subst hc
  unfold endV
  rw [h]

set_option maxRecDepth 100000 in
set_option maxHeartbeats 1000000 in
theorem l2Go_any (lo hi lo2 hi2 : Nat) (sv cv rv : Value) (t : Ty) (k v : Int) (zs : List Int) (w : World) (hv : TyAt w lo hi sv cv t) (hB : hi ≤ w.heap.size) (hr : IntsAt w lo2 hi2 rv zs) (hB2 : hi2 ≤ w.heap.size)
    (hok : tyOk t = true) (hval : ValOf t.sizes k v) (hway : (wayEnd t.cos k zs).isSome = true) :
    Calls Try.prog 136 #[.agg #[sv, cv], rv, .int .i64 v] w fun e w' => e = .returned (.int .i64 (goV t.cos v zs)) ∧ Below w.heap.size w w' := by
  obtain ⟨A, cap, rfl, hl1, hm1, _⟩ := hv.1.form
  obtain ⟨B, bap, rfl, hl2, hm2, hc1⟩ := hv.2.form
  obtain ⟨K, kap, rfl, hl3, hm3, hk1⟩ := hr.form
  have hfew := tyOk_few hok
  unfold maxLen at hm3
  have h3 : Below w.heap.size w (w.alloc (.cells #[.slice A t.sizes.length cap, .slice B t.cos.length bap] 33)) := by go_grown
  have H3 := Lib.hid h3
  have Hk1 := Lib.hid (hk1.below h3 hB2)
  have Hc1 := Lib.hid (hc1.below h3 hB)
  have Hok := Lib.hid hok
  have Hval := Lib.hid hval
  have Hway := Lib.hid hway
  clear hv hr hk1 hc1 hok h3 hval hway
  go_enter Try.func136, Try.ntmps136
  go_wp2
  go_loopw [2, 11] (fun a i wr => ∃ (j : Nat) (u q : Int), j ≤ zs.length ∧ a = .int .i64 u ∧ i = .int .i64 j ∧ w.alloc (.cells #[.slice A t.sizes.length cap, .slice B t.cos.length bap] 33) = wr ∧ Hid (goV t.cos v zs = goV t.cos u (zs.drop j)) ∧ Hid (ValOf t.sizes q u) ∧ Hid ((wayEnd t.cos q (zs.drop j)).isSome = true)) (fun _ i _ => zs.length - (intOf i).toNat)
  case atStart => exact ⟨0, v, k, Nat.zero_le _, rfl, rfl, rfl, rfl, Hval, Hway⟩
  case round =>
    obtain ⟨j, u, q, hj, rfl, rfl, rfl, heq, hvu, hwy⟩ := hrel
    by_cases hlt : j < zs.length
    · obtain ⟨b, off, rfl, _, _, c0, _⟩ := Hk1.out.at_ hlt
      obtain ⟨hx0, hx1, hix, hsq, hwy2⟩ := wayEnd_some hlt hwy.out
      obtain ⟨b3, off3, A2, cap2, rfl, hlo, hhi, d0, d1, d2, h5, h6, hs, hd, hz⟩ := Hc1.out.at_ hix
      have hvs : ValOf t.sizes t.cos[zs[j].toNat].src u := by rw [hsq]; exact hvu.out
      obtain ⟨hu0, hu1, hn4, hun, hlk, hvu2⟩ := valOf_step Hok.out hix hvs
      obtain ⟨b4, off4, rfl, _, _, e0, _⟩ := hz.at_ hun
      have heq2 := heq.out.trans (goV_step hlt hix)
      rw [hlk] at heq2 hvu2
      have Heq2 := Lib.hid heq2
      have Hwy2 := Lib.hid hwy2
      have Hvu2 := Lib.hid hvu2
      clear hwy2 hvu2 hvs hlk hsq hz hs hd heq2
      go_wp2
      go_roundw
      case rel => exact ⟨j + 1, _, _, by omega, rfl, by go_num, trivial, Heq2, Hvu2, Hwy2⟩
      case measure => simp [intOf]; omega
    · obtain rfl : j = zs.length := by omega
      have hst := Lib.hid (heq.out.trans (goV_done _ _ _))
      go_wp2
      go_ret
      exact ⟨ret_int hst.out.symm, H3.out⟩

theorem hasV_of {t : Ty} {k v : Int} (h : hasV t k v = true) : tyOk t = true ∧ ValOf t.sizes k v := by
  unfold hasV at h
  rw [Bool.and_eq_true] at h
  exact ⟨h.1, valOf_hasV0.1 h.2⟩
theorem goWayV_yes {t : Ty} {k v : Int} {zs : List Int} (h : hasV t k v = true) (h2 : (wayEnd t.cos k zs).isSome = true) : goWayV t k zs v = goV t.cos v zs := by unfold goWayV; rw [if_pos ⟨h, h2⟩]
theorem goWayV_no {t : Ty} {k v : Int} {zs : List Int} (h : ¬ (hasV t k v = true ∧ (wayEnd t.cos k zs).isSome = true)) : goWayV t k zs v = -1 := by unfold goWayV; rw [if_neg h]

end Go.Proofs.Ytilcahidmoaakaa
