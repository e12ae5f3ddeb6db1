/-
  The contracts of the functions that weigh a function, some functions, a system.
-/
import Derived.Test.YtfcekbjoagogdaaDoorSz
import Derived.Test.YtfcekbjoagogdaaDoorFmem
namespace Go.Proofs.YtfcekbjoagogdaaDoor
open Go.RowKit

set_option maxRecDepth 100000 in
set_option maxHeartbeats 800000 in
theorem szFunction_any (nm : ByteArray) (r : Value) (A : Option Addr) (n c : Nat) (A2 : Option Addr) (n2 c2 : Nat) (left : Int) (w : World) (h0 : 0 ≤ left) (h1 : left ≤ 1048576) (hs : nm.size ≤ maxLen) (hn : n ≤ maxLen) (hn2 : n2 ≤ maxLen) :
    Calls Tryd.prog 86 #[.agg #[.string nm, .slice A n c, r, .slice A2 n2 c2], .int .i64 left] w fun e w' => e = .returned (.int .i64 (subI left (nm.size + n + n2))) ∧ Below w.heap.size w w' := by
  unfold maxLen at hs hn hn2
  by_cases ha : left - nm.size < 0
  · have hs : Hid (subI left (nm.size + n + n2) = -1) := subI_neg (by omega)
    go_enter Tryd.func86, Tryd.ntmps86
    go_wp2
    go_ret
    exact ⟨ret_int hs.out.symm, by go_grown⟩
  · by_cases hb : left - nm.size - n < 0
    · have hs2 : Hid (subI left (nm.size + n + n2) = -1) := subI_neg (by omega)
      have hs := Lib.hid (subI_neg hb)
      go_enter Tryd.func86, Tryd.ntmps86
      go_wp2_with (go_at_call 28; refine (szIntS_any _ _ _ _ _ (by omega) (by omega) (by unfold maxLen; omega)).mono ?_; rintro e w' ⟨rfl, rfl⟩; rw [hs.out])
      go_ret
      exact ⟨ret_int hs2.out.symm, by go_grown⟩
    · have hs := Lib.hid (subI_pos hb)
      by_cases hc : left - nm.size - n - n2 < 0
      · have hs2 : Hid (subI left (nm.size + n + n2) = -1) := subI_neg (by omega)
        have hs3 := Lib.hid (subI_neg hc)
        go_enter Tryd.func86, Tryd.ntmps86
        go_wp2_with (first | (go_at_call 28; with_reducible refine (szIntS_any A n c (left - nm.size) _ (by omega) (by omega) (by unfold maxLen; omega)).mono ?_; rintro e w' ⟨rfl, rfl⟩; rw [hs.out]) | (go_at_call 28; with_reducible refine (szIntS_any A2 n2 c2 (left - nm.size - n) _ (by omega) (by omega) (by unfold maxLen; omega)).mono ?_; rintro e w' ⟨rfl, rfl⟩; rw [hs3.out]))
        go_ret
        exact ⟨ret_int hs2.out.symm, by go_grown⟩
      · have hs2 : Hid (subI left (nm.size + n + n2) = left - nm.size - n - n2) := by
          show _ = _
          rw [subI_pos (by omega)]; omega
        have hs3 := Lib.hid (subI_pos hc)
        go_enter Tryd.func86, Tryd.ntmps86
        go_wp2_with (first | (go_at_call 28; with_reducible refine (szIntS_any A n c (left - nm.size) _ (by omega) (by omega) (by unfold maxLen; omega)).mono ?_; rintro e w' ⟨rfl, rfl⟩; rw [hs.out]) | (go_at_call 28; with_reducible refine (szIntS_any A2 n2 c2 (left - nm.size - n) _ (by omega) (by omega) (by unfold maxLen; omega)).mono ?_; rintro e w' ⟨rfl, rfl⟩; rw [hs3.out]))
        go_ret
        exact ⟨ret_int hs2.out.symm, by go_grown⟩

set_option maxHeartbeats 400000 in
theorem szFunctionS_any (lo hi : Nat) (v : Value) (fs : List Fu) (left : Int) (w : World) (h0 : 0 ≤ left) (h1 : left ≤ 1048576) (hv : FusAt w lo hi v fs) (hB : hi ≤ w.heap.size) :
    Calls Tryd.prog 52 #[v, .int .i64 left] w fun e w' => e = .returned (.int .i64 (subI left (fs.length + fusLen fs fs.length))) ∧ Below w.heap.size w w' := by
  obtain ⟨A, cap, rfl, hl, hm, hc⟩ := hv.form
  unfold maxLen at hm
  clear hv
  by_cases hneg : left - (fs.length : Int) < 0
  · have hs : Hid (subI left (fs.length + fusLen fs fs.length) = -1) := subI_neg (by omega)
    clear hc
    go_enter Tryd.func52, Tryd.ntmps52
    go_wp2
    go_ret
    exact ⟨ret_int hs.out.symm, Below.refl _ _⟩
  · have hc' := Lib.hid hc
    clear hc
    go_enter Tryd.func52, Tryd.ntmps52
    go_wp2
    go_loopw [1, 5] (fun l i wr => ∃ k : Nat, k ≤ fs.length ∧ i = .int .i64 k ∧ l = .int .i64 (left - ((fs.length : Int) + (fusLen fs k : Int))) ∧ 0 ≤ left - ((fs.length : Int) + (fusLen fs k : Int)) ∧ Below w.heap.size w wr) (fun _ i _ => fs.length - (intOf i).toNat)
    case atStart => exact ⟨0, Nat.zero_le _, rfl, by rw [fusLen_zero]; go_num, by rw [fusLen_zero]; omega, Below.refl _ _⟩
    case round =>
      obtain ⟨k, hk, rfl, rfl, hpos, hb⟩ := hrel
      by_cases hlt : k < fs.length
      · obtain ⟨b, off, A1, cap1, A2, cap2, rfl, hlo, hhi, c0, c1, c2, c3, g1, g2, g3, g4, _, _, hn, _⟩ := (hc'.out.below hb hB).at_ hlt
        have hms := Lib.hid (fusLen_succ fs k hlt)
        have hmm := fusLen_mono fs (k + 1)
        rw [hms.out] at hmm
        have hw : (fs.getD k default).weight = fs[k].name.size + fs[k].args.length + fs[k].table.length := by
          rw [List.getD_eq_getElem?_getD, List.getElem?_eq_getElem hlt]; rfl
        rw [hw] at hmm
        have Hw := Lib.hid hw
        clear hw
        clear hc'
        by_cases hn2 : left - ((fs.length : Int) + (fusLen fs k : Int)) - ((fs[k].name.size + fs[k].args.length + fs[k].table.length : Nat) : Int) < 0
        · have hs := Lib.hid (subI_neg hn2)
          have hs' : Hid (subI left (fs.length + fusLen fs fs.length) = -1) := subI_neg (by omega)
          go_wp2_with (go_at_call 86; refine (szFunction_any _ _ _ _ _ _ _ _ _ _ (by omega) (by omega) hn (Nat.le_trans g1 g2) (Nat.le_trans g3 g4)).mono ?_; rintro e w' ⟨rfl, hb2⟩; rw [hs.out])
          go_ret
          exact ⟨ret_int hs'.out.symm, hb.trans (hb2.mono hb.size)⟩
        · have hs := Lib.hid (subI_pos hn2)
          go_wp2_with (go_at_call 86; refine (szFunction_any _ _ _ _ _ _ _ _ _ _ (by omega) (by omega) hn (Nat.le_trans g1 g2) (Nat.le_trans g3 g4)).mono ?_; rintro e w' ⟨rfl, hb2⟩; rw [hs.out])
          go_roundw
          case rel => exact ⟨k + 1, by omega, by go_num, by rw [hms.out, Hw.out]; go_num, by rw [hms.out, Hw.out]; omega, hb.trans (hb2.mono hb.size)⟩
          case measure => simp [intOf]; omega
      · obtain rfl : k = fs.length := by omega
        have hs' : Hid (subI left (fs.length + fusLen fs fs.length) = left - ((fs.length + fusLen fs fs.length : Nat) : Int)) := subI_pos (by omega)
        go_wp2
        go_ret
        exact ⟨ret_int hs'.out.symm, hb⟩

set_option maxHeartbeats 400000 in
theorem szSystem_any (lo hi : Nat) (s c v : Value) (y : Sy) (left : Int) (w : World) (h0 : 0 ≤ left) (h1 : left ≤ 1048576) (hv : SyAt w lo hi s c v y) (hB : hi ≤ w.heap.size) :
    Calls Tryd.prog 17 #[.agg #[s, c, v], .int .i64 left] w fun e w' => e = .returned (.int .i64 (subI left y.bulk)) ∧ Below w.heap.size w w' := by
  obtain ⟨hty, hfs⟩ := hv
  obtain ⟨A, cap, rfl, _, _, hz⟩ := hty.1.form
  obtain ⟨A2, cap2, rfl, _, _, hco⟩ := hty.2.form
  obtain ⟨A3, cap3, rfl, _, _, hfu⟩ := hfs.form
  have hT : TyAt w lo hi (.slice A y.ty.sizes.length cap) (.slice A2 y.ty.cos.length cap2) y.ty := ⟨hz, hco⟩
  clear hty hfs hz hco
  have e : y.bulk = y.ty.bulk + (y.fs.length + fusLen y.fs y.fs.length) := rfl
  have h3 : Below w.heap.size w (w.alloc (.cells #[.slice A y.ty.sizes.length cap, .slice A2 y.ty.cos.length cap2, .slice A3 y.fs.length cap3] 40)) := by go_grown
  by_cases h : left - (y.ty.bulk : Int) < 0
  · have hs := Lib.hid (subI_neg h)
    have hs2 : Hid (subI left y.bulk = -1) := subI_neg (by rw [e]; omega)
    clear e
    go_enter Tryd.func17, Tryd.ntmps17
    go_wp2_with (go_at_call 8; refine (szTypes_any lo hi _ _ y.ty _ _ h0 h1 (hT.below h3 hB) (by simp; omega)).mono ?_; rintro e w' ⟨rfl, hb⟩; rw [hs.out])
    go_ret
    exact ⟨ret_int hs2.out.symm, h3.trans (hb.mono (by simp))⟩
  · have hs := Lib.hid (subI_pos h)
    have hss := subI_sub (m := y.fs.length + fusLen y.fs y.fs.length) h
    rw [← e] at hss
    have hle : (y.ty.bulk : Int) ≤ left := by omega
    have arm := fun (wx : World) (hbx : Below w.heap.size w wx) => szFunctionS_any lo hi _ y.fs (left - y.ty.bulk) wx (by omega) (by omega) (hfu.below hbx hB) (Nat.le_trans hB hbx.size)
    have Arm := Lib.hid arm
    clear arm
    have Hss := Lib.hid hss
    clear hss e
    go_enter Tryd.func17, Tryd.ntmps17
    go_wp2_with fail
    refine (szTypes_any lo hi _ _ y.ty _ _ h0 h1 (hT.below h3 hB) (by simp; omega)).mono ?_
    rintro e w1 ⟨rfl, hb⟩
    have hbel := h3.trans (hb.mono (by simp))
    obtain ⟨hcl, hfr⟩ := bcell hb
    have hz1 := hb.size
    simp only [World.size_alloc] at hcl hfr hz1
    have Hbel := Lib.hid hbel
    clear hbel hb h3
    have hz2 : w.heap.size < w1.heap.size := by omega
    rw [hs.out]
    by_cases h2 : left - y.ty.bulk - ((y.fs.length + fusLen y.fs y.fs.length : Nat) : Int) < 0
    · have hs2 := Lib.hid (subI_neg h2)
      go_wp2_with (go_at_call 52; refine (Arm.out _ Hbel.out).mono ?_; rintro e w' ⟨rfl, hb2⟩; rw [hs2.out])
      go_ret
      exact ⟨ret_int (by rw [← Hss.out, hs2.out]; try omega), Hbel.out.trans (hb2.mono (by omega))⟩
    · have hs2 := Lib.hid (subI_pos h2)
      go_wp2_with (go_at_call 52; refine (Arm.out _ Hbel.out).mono ?_; rintro e w' ⟨rfl, hb2⟩; rw [hs2.out])
      go_ret
      exact ⟨ret_int (by rw [← Hss.out, hs2.out]; try omega), Hbel.out.trans (hb2.mono (by omega))⟩
end Go.Proofs.YtfcekbjoagogdaaDoor
