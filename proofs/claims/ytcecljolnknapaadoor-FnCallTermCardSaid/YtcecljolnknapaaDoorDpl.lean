/-
  The model's draws of the arguments of PutLiteral and LiteralOf.
-/
import Derived.Test.YtcecljolnknapaaDoorSmd
namespace Go.Proofs.YtcecljolnknapaaDoor
open Go.RowKit

/-- A slice of numbers, not empty, that is no part of the source. -/
def IntsS (w : World) (N : Nat) (v : Value) : Prop := ∃ (lo hi : Nat) (zs : List Int), N ≤ lo ∧ hi ≤ w.heap.size ∧ IntsAt w lo hi v zs ∧ 0 < zs.length ∧ zs.length ≤ 1000000
theorem IntsS.keep {w w' : World} {N b : Nat} {v : Value} (h : IntsS w N v) (hk : Keep b w w') (hb : b < N) : IntsS w' N v := by
  obtain ⟨lo, hi, zs, h1, h2, h3, h4, h5⟩ := h
  exact ⟨lo, hi, zs, h1, Nat.le_trans h2 hk.size, h3.keep fun k hl hh => hk.block (by omega) (by omega), h4, h5⟩
theorem IntsS.under {w w' : World} {N : Nat} {v : Value} (h : IntsS w N v) (hb : Below w.heap.size w w') : IntsS w' N v := by
  obtain ⟨lo, hi, zs, h1, h2, h3, h4, h5⟩ := h
  exact ⟨lo, hi, zs, h1, Nat.le_trans h2 hb.size, h3.keep fun k hl hh => hb.block k (by omega), h4, h5⟩
theorem IntsS.new (w : World) (N : Nat) (hN : N ≤ w.heap.size) (zs : List Int) (hz : ∀ z ∈ zs, I64 z) (h0 : 0 < zs.length) (hl : zs.length ≤ 1000000) : IntsS (w.alloc (.cells (zs.map (Value.int .i64)).toArray 3)) N (.slice (some ⟨w.heap.size, 0, none⟩) zs.length zs.length) :=
  ⟨w.heap.size, w.heap.size + 1, zs, hN, by simp, (Row.new w 3 (zs.map (Value.int .i64))).ints hz (Nat.le_refl _) (by omega) (Nat.le_refl _) (by unfold maxLen; omega), h0, hl⟩
theorem num6_any (b B N : Nat) (v : Value) (w : World) (h : RdAt w b B) (hB : B ≤ 999999) (hv : IntsS w N v) (hb : b < N) :
    Calls Tryd.prog 69 #[.pointer (some ⟨b, 0, none⟩), v] w fun e w' => ∃ z : Int, e = .returned (.int .i64 z) ∧ RdAt w' b (B + 1) ∧ Keep b w w' := by
  obtain ⟨lo, hi, zs, h1, h2, h3, h4, h5⟩ := hv
  exact (num_any b B lo hi v zs w h (by omega) h3 (by omega) h2 h4 h5).mono fun e w' ⟨z, _, he, hr, hg, _⟩ => ⟨z, he, hr, ⟨hg⟩⟩
theorem six_wf : (∀ z ∈ ([0, 1, 0, 2, 5, -1] : List Int), I64 z) ∧ (∀ z ∈ ([0, 1, 2, 9, 10, -1] : List Int), I64 z) ∧ (∀ z ∈ ([0, 1, 3, 9, 10, -1] : List Int), I64 z) := by
  refine ⟨fun z hz => ?_, fun z hz => ?_, fun z hz => ?_⟩ <;> simp at hz <;> unfold I64 <;> omega

set_option maxRecDepth 100000 in
set_option maxHeartbeats 1000000 in
theorem drawLit_any (v : Value) (w : World) (h : CodeAt w w.heap.size v) :
    Calls Tryd.prog 43 #[v] w fun e w' => ∃ M : List UInt8, e = .returned (.string (str M)) ∧ M.length ≤ 122 ∧ Below w.heap.size w w' := by
  have HO := Lib.hid (l13Open_any w.heap.size v w h (Nat.le_refl _))
  clear h
  go_enter Tryd.func43, Tryd.ntmps43
  go_wp2_with fail
  refine HO.out.mono ?_
  rintro e w1 ⟨rfl, hb, hs, hr⟩
  have HB := Lib.hid hb
  have HR := Lib.hid hr
  clear hb hr
  go_wp2_with fail
  refine (pick_any w.heap.size 0 3 w1 HR.out (by omega) (by omega)).mono ?_
  rintro e w2 ⟨x, rfl, hx, _, hr, hg, _⟩
  have HR2 := Lib.hid hr
  have HB2 : Hid (Below w.heap.size w w2) := HB.out.trans (Keep.below ⟨hg⟩ (Nat.le_refl _) (by omega))
  have hs2 := hg.size
  clear hr hg HR HB hx
  by_cases hx0 : (0 : Int) < (x : Int)
  · go_wp2_with fail
    refine (draw_any w.heap.size 9 (by decide) (by decide) 0 1 w2 (by omega) (by decide) HR2.out).mono ?_
    rintro e w3 ⟨M, rfl, _, hM, _, hk⟩
    have HB3 := Lib.hid (HB2.out.trans (hk.below (Nat.le_refl _) (by omega)))
    have hM2 : M.length ≤ 122 := Nat.le_trans hM (by decide)
    clear hk
    go_wp2
    go_ret
    exact ⟨M, rfl, hM2, HB3.out⟩
  · go_wp2_with fail
    refine (some_any w.heap.size 1 w2 HR2.out (by omega)).mono ?_
    rintro e w3 ⟨M, rfl, hM, _, hk⟩
    have HB3 := Lib.hid (HB2.out.trans (hk.below (Nat.le_refl _) (by omega)))
    clear hk
    go_wp2
    go_ret
    exact ⟨M, rfl, hM, HB3.out⟩

set_option maxRecDepth 100000 in
set_option maxHeartbeats 1000000 in
theorem drawPut_any (v : Value) (w : World) (h : CodeAt w w.heap.size v) :
    Calls Tryd.prog 42 #[v] w fun e w' => ∃ (M : List UInt8) (i k z : Int), e = .returned (.tuple #[.string (str M), .int .i64 i, .int .i64 k, .int .i64 z]) ∧ M.length ≤ 122 ∧ Below w.heap.size w w' := by
  have HO := Lib.hid (l13Open_any w.heap.size v w h (Nat.le_refl _))
  clear h
  go_enter Tryd.func42, Tryd.ntmps42
  go_wp2_with fail
  refine HO.out.mono ?_
  rintro e w1 ⟨rfl, hb, hs, hr⟩
  have HB := Lib.hid hb
  have HR := Lib.hid hr
  clear hb hr
  have hbl : w.heap.size < w1.heap.size := by omega
  clear hs
  go_wp2_with fail
  refine (some_any w.heap.size 0 w1 HR.out (by omega)).mono ?_
  rintro e w2 ⟨s, rfl, hM, hr, hk⟩
  have HR2 := Lib.hid hr
  have HB2 := Lib.hid (HB.out.trans (hk.below (Nat.le_refl _) (by omega)))
  have hs2 : w.heap.size < w2.heap.size := Nat.lt_of_lt_of_le hbl hk.size
  clear hr hk HR HB
  have HA : Hid (Below w2.heap.size w2 (w2.alloc (.cells #[.int .i64 0, .int .i64 1, .int .i64 0, .int .i64 2, .int .i64 5, .int .i64 (-1)] 3))) := (Below.refl _ _).alloc (Nat.le_refl _) _
  have HI : Hid (IntsS (w2.alloc (.cells #[.int .i64 0, .int .i64 1, .int .i64 0, .int .i64 2, .int .i64 5, .int .i64 (-1)] 3)) w2.heap.size (.slice (some ⟨w2.heap.size, 0, none⟩) 6 6)) := IntsS.new w2 _ (Nat.le_refl _) [0, 1, 0, 2, 5, -1] six_wf.1 (by decide) (by decide)
  have HC := Lib.hid (num6_any w.heap.size 200 w2.heap.size _ _ (HR2.out.under HA.out) (by omega) HI.out hs2)
  go_wp2_with fail
  refine HC.out.mono ?_
  rintro e w3 ⟨i, rfl, hr, hk⟩
  have HR3 := Lib.hid hr
  have hs3 : w.heap.size < w3.heap.size := Nat.lt_of_lt_of_le hs2 (Nat.le_trans HA.out.size hk.size)
  have HB3 : Hid (Below w.heap.size w w3) := (HB2.out.trans (HA.out.mono (Nat.le_of_lt hs2))).trans (hk.below (Nat.le_refl _) (Nat.le_of_lt (Nat.lt_of_lt_of_le hs2 HA.out.size)))
  clear hr hk HR2 HB2 HA HI HC
  have HA : Hid (Below w3.heap.size w3 (w3.alloc (.cells #[.int .i64 0, .int .i64 1, .int .i64 2, .int .i64 9, .int .i64 10, .int .i64 (-1)] 3))) := (Below.refl _ _).alloc (Nat.le_refl _) _
  have HI : Hid (IntsS (w3.alloc (.cells #[.int .i64 0, .int .i64 1, .int .i64 2, .int .i64 9, .int .i64 10, .int .i64 (-1)] 3)) w3.heap.size (.slice (some ⟨w3.heap.size, 0, none⟩) 6 6)) := IntsS.new w3 _ (Nat.le_refl _) [0, 1, 2, 9, 10, -1] six_wf.2.1 (by decide) (by decide)
  have HC := Lib.hid (num6_any w.heap.size 201 w3.heap.size _ _ (HR3.out.under HA.out) (by omega) HI.out hs3)
  go_wp2_with fail
  refine HC.out.mono ?_
  rintro e w4 ⟨k, rfl, hr, hk⟩
  have HR4 := Lib.hid hr
  have hs4 : w.heap.size < w4.heap.size := Nat.lt_of_lt_of_le hs3 (Nat.le_trans HA.out.size hk.size)
  have HB4 : Hid (Below w.heap.size w w4) := (HB3.out.trans (HA.out.mono (Nat.le_of_lt hs3))).trans (hk.below (Nat.le_refl _) (Nat.le_of_lt (Nat.lt_of_lt_of_le hs3 HA.out.size)))
  clear hr hk HR3 HB3 HA HI HC
  have HA : Hid (Below w4.heap.size w4 (w4.alloc (.cells #[.int .i64 0, .int .i64 1, .int .i64 3, .int .i64 9, .int .i64 10, .int .i64 (-1)] 3))) := (Below.refl _ _).alloc (Nat.le_refl _) _
  have HI : Hid (IntsS (w4.alloc (.cells #[.int .i64 0, .int .i64 1, .int .i64 3, .int .i64 9, .int .i64 10, .int .i64 (-1)] 3)) w4.heap.size (.slice (some ⟨w4.heap.size, 0, none⟩) 6 6)) := IntsS.new w4 _ (Nat.le_refl _) [0, 1, 3, 9, 10, -1] six_wf.2.2 (by decide) (by decide)
  have HC := Lib.hid (num6_any w.heap.size 202 w4.heap.size _ _ (HR4.out.under HA.out) (by omega) HI.out hs4)
  go_wp2_with fail
  refine HC.out.mono ?_
  rintro e w5 ⟨z, rfl, hr, hk⟩
  have HR5 := Lib.hid hr
  have hs5 : w.heap.size < w5.heap.size := Nat.lt_of_lt_of_le hs4 (Nat.le_trans HA.out.size hk.size)
  have HB5 : Hid (Below w.heap.size w w5) := (HB4.out.trans (HA.out.mono (Nat.le_of_lt hs4))).trans (hk.below (Nat.le_refl _) (Nat.le_of_lt (Nat.lt_of_lt_of_le hs4 HA.out.size)))
  clear hr hk HR4 HB4 HA HI HC
  go_wp2
  refine bodyPost_ret (v := .tuple #[.string (str s), .int .i64 i, .int .i64 k, .int .i64 z]) (by simp [results, Tryd.results42, go_sem]) rfl ?_
  exact ⟨s, i, k, z, rfl, hM, HB5.out⟩
end Go.Proofs.YtcecljolnknapaaDoor
