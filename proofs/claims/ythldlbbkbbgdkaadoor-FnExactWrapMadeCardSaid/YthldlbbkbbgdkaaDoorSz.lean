/-
  The contracts of the functions that weigh an argument: they return what is left of the allowance, or -1.
-/
import Derived.Test.YthldlbbkbbgdkaaDoorRows
import Derived.Test.YthldlbbkbbgdkaaDoorMem
import Derived.Outline
import Derived.Handy
namespace Go.Proofs.YthldlbbkbbgdkaaDoor
open Go.RowKit

/-- What is left of an allowance when n is taken from it; -1 if it is not enough. -/
def subI (left : Int) (n : Nat) : Int := if left - n < 0 then -1 else left - n
theorem subI_neg {left : Int} {n : Nat} (h : left - n < 0) : subI left n = -1 := if_pos h
theorem subI_pos {left : Int} {n : Nat} (h : ¬ left - n < 0) : subI left n = left - n := if_neg h

theorem szIntS_any (A : Option Addr) (n c : Nat) (left : Int) (w : World) (h0 : 0 ≤ left) (h1 : left ≤ 1048576) (hn : n ≤ maxLen) :
    Calls Tryd.prog 42 #[.slice A n c, .int .i64 left] w fun e w' => e = .returned (.int .i64 (subI left n)) ∧ w = w' := by
  unfold maxLen at hn
  by_cases h : left - n < 0
  · have hs := Lib.hid (subI_neg h)
    go_enter Tryd.func42, Tryd.ntmps42
    go_wp2
    go_ret
    exact ⟨ret_int hs.out.symm, rfl⟩
  · have hs := Lib.hid (subI_pos h)
    go_enter Tryd.func42, Tryd.ntmps42
    go_wp2
    go_ret
    exact ⟨ret_int hs.out.symm, rfl⟩

theorem szCoercion_any (x y : Value) (A : Option Addr) (n c : Nat) (left : Int) (w : World) (h0 : 0 ≤ left) (h1 : left ≤ 1048576) (hn : n ≤ maxLen) :
    Calls Tryd.prog 59 #[.agg #[x, y, .slice A n c], .int .i64 left] w fun e w' => e = .returned (.int .i64 (subI left n)) ∧ Below w.heap.size w w' := by
  by_cases h : left - n < 0
  · have hs := Lib.hid (subI_neg h)
    go_enter Tryd.func59, Tryd.ntmps59
    go_wp2_with (go_at_call 42; refine (szIntS_any _ _ _ _ _ h0 h1 hn).mono ?_; rintro e w' ⟨rfl, rfl⟩; rw [hs.out])
    go_ret
    exact ⟨ret_int hs.out.symm, by go_grown⟩
  · have hs := Lib.hid (subI_pos h)
    go_enter Tryd.func59, Tryd.ntmps59
    go_wp2_with (go_at_call 42; refine (szIntS_any _ _ _ _ _ h0 h1 hn).mono ?_; rintro e w' ⟨rfl, rfl⟩; rw [hs.out])
    go_ret
    exact ⟨ret_int hs.out.symm, by go_grown⟩

set_option maxHeartbeats 400000 in
theorem szCoercionS_any (lo hi : Nat) (v : Value) (cs : List Co) (left : Int) (w : World) (h0 : 0 ≤ left) (h1 : left ≤ 1048576) (hv : CosAt w lo hi v cs) (hB : hi ≤ w.heap.size) :
    Calls Tryd.prog 43 #[v, .int .i64 left] w fun e w' => e = .returned (.int .i64 (subI left (cs.length + mapsLen cs cs.length))) ∧ Below w.heap.size w w' := by
  obtain ⟨A, cap, rfl, hl, hm, hc⟩ := hv
  unfold maxLen at hm
  by_cases hneg : left - (cs.length : Int) < 0
  · have hs : Hid (subI left (cs.length + mapsLen cs cs.length) = -1) := subI_neg (by omega)
    clear hc
    go_enter Tryd.func43, Tryd.ntmps43
    go_wp2
    go_ret
    exact ⟨ret_int hs.out.symm, Below.refl _ _⟩
  · have hc' := Lib.hid hc
    clear hc
    go_enter Tryd.func43, Tryd.ntmps43
    go_wp2
    go_loopw [1, 5] (fun l i wr => ∃ k : Nat, k ≤ cs.length ∧ i = .int .i64 k ∧ l = .int .i64 (left - ((cs.length : Int) + (mapsLen cs k : Int))) ∧ 0 ≤ left - ((cs.length : Int) + (mapsLen cs k : Int)) ∧ Below w.heap.size w wr) (fun _ i _ => cs.length - (intOf i).toNat)
    case atStart => exact ⟨0, Nat.zero_le _, rfl, by rw [mapsLen_zero]; go_num, by rw [mapsLen_zero]; omega, Below.refl _ _⟩
    case round =>
      obtain ⟨k, hk, rfl, rfl, hpos, hb⟩ := hrel
      by_cases hlt : k < cs.length
      · obtain ⟨b, off, rfl, hlo, hhi, hcell⟩ := hc'.out (by omega)
        obtain ⟨x, y, z, c0, c1, c2, rfl, rfl, _, _, A2, cap2, rfl, hl2, hm2, _, _⟩ := hcell k hlt
        have hms := Lib.hid (mapsLen_succ cs k hlt)
        have hmm := mapsLen_mono cs (k + 1)
        rw [hms.out] at hmm
        replace c0 := (hb.cell (p := ⟨b, off + k * 3, none⟩) (by simp; omega)).trans c0
        replace c1 := (hb.cell (p := ⟨b, off + k * 3 + 1, none⟩) (by simp; omega)).trans c1
        replace c2 := (hb.cell (p := ⟨b, off + k * 3 + 2, none⟩) (by simp; omega)).trans c2
        clear hcell hc'
        generalize hM : (cs.getD k default).map.length = m at *
        have HM := Lib.hid hM
        clear hM
        by_cases hn2 : left - ((cs.length : Int) + (mapsLen cs k : Int)) - (m : Int) < 0
        · have hs := Lib.hid (subI_neg hn2)
          have hs' : Hid (subI left (cs.length + mapsLen cs cs.length) = -1) := subI_neg (by omega)
          go_wp2_with (go_at_call 59; refine (szCoercion_any _ _ _ _ _ _ _ (by omega) (by omega) (Nat.le_trans hl2 hm2)).mono ?_; rintro e w' ⟨rfl, hb2⟩; rw [hs.out])
          go_ret
          exact ⟨ret_int hs'.out.symm, hb.trans (hb2.mono hb.size)⟩
        · have hs := Lib.hid (subI_pos hn2)
          go_wp2_with (go_at_call 59; refine (szCoercion_any _ _ _ _ _ _ _ (by omega) (by omega) (Nat.le_trans hl2 hm2)).mono ?_; rintro e w' ⟨rfl, hb2⟩; rw [hs.out])
          go_roundw
          case rel => exact ⟨k + 1, by omega, by go_num, by rw [hms.out]; go_num, by rw [hms.out]; omega, hb.trans (hb2.mono hb.size)⟩
          case measure => simp [intOf]; omega
      · obtain rfl : k = cs.length := by omega
        have hs' : Hid (subI left (cs.length + mapsLen cs cs.length) = left - ((cs.length + mapsLen cs cs.length : Nat) : Int)) := subI_pos (by omega)
        go_wp2
        go_ret
        exact ⟨ret_int hs'.out.symm, hb⟩

theorem subI_sub {left : Int} {n m : Nat} (_h : ¬ left - n < 0) : subI (left - n) m = subI left (n + m) := by
  unfold subI
  by_cases h2 : left - n - m < 0
  · rw [if_pos h2, if_pos (by omega)]
  · rw [if_neg h2, if_neg (by omega)]; omega

set_option maxHeartbeats 400000 in
theorem szTypes_any (lo hi : Nat) (s c : Value) (t : Ty) (left : Int) (w : World) (h0 : 0 ≤ left) (h1 : left ≤ 1048576) (hv : TyAt w lo hi s c t) (hB : hi ≤ w.heap.size) :
    Calls Tryd.prog 28 #[.agg #[s, c], .int .i64 left] w fun e w' => e = .returned (.int .i64 (subI left t.bulk)) ∧ Below w.heap.size w w' := by
  obtain ⟨⟨A, cap, rfl, hl, hm, _, _⟩, hcs⟩ := hv
  have hc := hcs
  obtain ⟨A2, cap2, hc2, _⟩ := hcs
  have hcos : CosAt w lo hi (.slice A2 t.cos.length cap2) t.cos := by rw [← hc2]; exact hc
  subst hc2
  clear hc
  have e : t.bulk = t.sizes.length + (t.cos.length + mapsLen t.cos t.cos.length) := Nat.add_assoc _ _ _
  have hlen := Nat.le_trans hl hm
  by_cases h : left - (t.sizes.length : Int) < 0
  · have hs := Lib.hid (subI_neg h)
    have hs2 : Hid (subI left t.bulk = -1) := subI_neg (by rw [e]; omega)
    clear e
    go_enter Tryd.func28, Tryd.ntmps28
    go_wp2_with (go_at_call 42; refine (szIntS_any _ _ _ _ _ h0 h1 hlen).mono ?_; rintro e w' ⟨rfl, rfl⟩; rw [hs.out])
    go_ret
    exact ⟨ret_int hs2.out.symm, by go_grown⟩
  · have hs := Lib.hid (subI_pos h)
    have hss := subI_sub (m := t.cos.length + mapsLen t.cos t.cos.length) h
    rw [← e] at hss
    by_cases h2 : left - t.sizes.length - ((t.cos.length + mapsLen t.cos t.cos.length : Nat) : Int) < 0
    · have hs2 := Lib.hid (subI_neg h2)
      rw [subI_neg h2] at hss
      have hs3 := Lib.hid hss
      clear e hss
      go_enter Tryd.func28, Tryd.ntmps28
      go_wp2_with (first | (go_at_call 42; refine (szIntS_any _ _ _ _ _ h0 h1 hlen).mono ?_; rintro e w' ⟨rfl, rfl⟩; rw [hs.out]) | (go_at_call 43; refine (szCoercionS_any lo hi _ t.cos _ _ (by omega) (by omega) (hcos.below ((Below.refl _ _).alloc (Nat.le_refl _) _) hB) (by simp; omega)).mono ?_; rintro e w' ⟨rfl, hb⟩; rw [hs2.out]))
      go_ret
      exact ⟨ret_int hs3.out, ((Below.refl _ _).alloc (Nat.le_refl _) _).trans (hb.mono (by simp))⟩
    · have hs2 := Lib.hid (subI_pos h2)
      rw [subI_pos h2] at hss
      have hs3 := Lib.hid hss
      clear e hss
      go_enter Tryd.func28, Tryd.ntmps28
      go_wp2_with (first | (go_at_call 42; refine (szIntS_any _ _ _ _ _ h0 h1 hlen).mono ?_; rintro e w' ⟨rfl, rfl⟩; rw [hs.out]) | (go_at_call 43; refine (szCoercionS_any lo hi _ t.cos _ _ (by omega) (by omega) (hcos.below ((Below.refl _ _).alloc (Nat.le_refl _) _) hB) (by simp; omega)).mono ?_; rintro e w' ⟨rfl, hb⟩; rw [hs2.out]))
      go_ret
      exact ⟨ret_int hs3.out, ((Below.refl _ _).alloc (Nat.le_refl _) _).trans (hb.mono (by simp))⟩
end Go.Proofs.YthldlbbkbbgdkaaDoor
