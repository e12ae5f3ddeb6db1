/-
  The contracts of num, l1Kind and l1Index: numbers that fit.
-/
import Derived.Test.YtplpnammboofiaaRd
namespace Go.Proofs.Ytplpnammboofiaa
open Go.RowKit

theorem RdAt.keep {w w' : World} {b B : Nat} (h : RdAt w b B) (hk : ∀ g, g ≤ b → w'.heap[g]? = w.heap[g]?) : RdAt w' b B := by
  obtain ⟨A, n, c, p, hr, hp, hn, hc, hm, hb⟩ := h
  refine ⟨A, n, c, p, hr.keep (hk b (Nat.le_refl _)), hp, hn, hc, hm, fun h0 => ?_⟩
  obtain ⟨a, off, e, hab, hcell⟩ := hb h0
  refine ⟨a, off, e, hab, fun k hk2 => ?_⟩
  obtain ⟨x, hx, hcx⟩ := hcell k hk2
  exact ⟨x, hx, (World.cell?_of_block (a := ⟨a, off + k, none⟩) (hk a (by omega))).trans hcx⟩
theorem RdAt.more {w : World} {b B B' : Nat} (h : RdAt w b B) (hB : B ≤ B') : RdAt w b B' := by
  obtain ⟨A, n, c, p, hr, hp, hrest⟩ := h
  exact ⟨A, n, c, p, hr, by omega, hrest⟩
theorem RdAt.lt {w : World} {b B : Nat} (h : RdAt w b B) : b < w.heap.size := by
  obtain ⟨A, n, c, p, hr, _⟩ := h
  exact hr.lt

set_option maxRecDepth 100000 in
set_option maxHeartbeats 1000000 in
theorem num_any (b B lo hi : Nat) (v : Value) (zs : List Int) (w : World) (h : RdAt w b B) (hB : B ≤ 1000000) (hz : IntsAt w lo hi v zs) (hlo : b < lo) (hh : hi ≤ w.heap.size) (h0 : 0 < zs.length) (hl : zs.length ≤ 1000000) :
    Calls Try.prog 59 #[.pointer (some ⟨b, 0, none⟩), v] w fun e w' => ∃ z ∈ zs, e = .returned (.int .i64 z) ∧ RdAt w' b (B + 1) ∧ w.grownBy w' (some b) ∧ w'.heap.size = w.heap.size := by
  obtain ⟨A, cap, rfl, _, _, hz⟩ := hz.form
  have H := Lib.hid h
  have Hz := Lib.hid hz
  clear h hz
  go_enter Try.func59, Try.ntmps59
  go_wp2_with fail
  refine (pick_any b B _ _ H.out hB (by omega)).mono ?_
  rintro e w1 ⟨x, rfl, hx, _, hr1, hg1, hs1⟩
  have hxl : x < zs.length := by have := hx (by omega); omega
  obtain ⟨zb, zo, rfl, hz1, hz2, e0, _⟩ := Hz.out.at_ hxl
  have e1 : w1.cell? ⟨zb, zo + x, none⟩ = some (.int .i64 zs[x]) := (World.cell?_of_block (a := ⟨zb, zo + x, none⟩) (hg1.block zb (by omega) (fun e => by simp only [Option.some.injEq] at e; omega))).trans e0
  have Hr1 := Lib.hid hr1
  have Hg1 := Lib.hid hg1
  have Hs1 := Lib.hid hs1
  clear hr1 hg1 hs1 hx
  go_wp2
  go_ret
  exact ⟨zs[x], List.getElem_mem hxl, rfl, Hr1.out, Hg1.out, Hs1.out⟩

theorem kinds_wf : ∀ z ∈ ([0, 1, 2, 0, 1, 3, 4, -1, 9223372036854775807] : List Int), I64 z := by
  intro z hz
  simp at hz
  unfold I64
  omega
theorem index_wf : ∀ z ∈ ([0, 0, 1, 0, 2, 3, -1, 8] : List Int), I64 z := by
  intro z hz
  simp at hz
  unfold I64
  omega

set_option maxRecDepth 100000 in
set_option maxHeartbeats 1000000 in
theorem l1Kind_any (b B : Nat) (w : World) (h : RdAt w b B) (hB : B ≤ 1000000) :
    Calls Try.prog 38 #[.pointer (some ⟨b, 0, none⟩)] w fun e w' => ∃ z, I64 z ∧ e = .returned (.int .i64 z) ∧ RdAt w' b (B + 1) ∧ w.grownBy w' (some b) := by
  have hl := h.lt
  have H := Lib.hid h
  clear h
  go_enter Try.func38, Try.ntmps38
  go_wp2_with fail
  have hr := Row.new w 3 (([0, 1, 2, 0, 1, 3, 4, -1, 9223372036854775807] : List Int).map (Value.int .i64))
  have hz := hr.ints (lo := w.heap.size) (hi := w.heap.size + 1) (cap := 9) kinds_wf (Nat.le_refl _) (by omega) (by decide) (by unfold maxLen; omega)
  refine (num_any b B w.heap.size (w.heap.size + 1) _ [0, 1, 2, 0, 1, 3, 4, -1, 9223372036854775807] _ (H.out.keep fun g hg => Below.heap_alloc w _ g (by omega)) hB hz hl (by simp) (by decide) (by decide)).mono ?_
  rintro e w1 ⟨z, hzm, rfl, hr1, hg1, hs1⟩
  have hz64 : I64 z := kinds_wf z hzm
  have Hr1 := Lib.hid hr1
  have Hg1 : Hid (w.grownBy w1 (some b)) := ⟨hg1.os, hg1.tape, hg1.output, Nat.le_trans (by simp) hg1.size, fun g hg hne => (hg1.block g (by simp; omega) hne).trans (Below.heap_alloc w _ g hg)⟩
  clear hr1 hg1 hs1 hr hz hzm
  go_wp2
  go_ret
  exact ⟨z, hz64, rfl, Hr1.out, Hg1.out⟩

set_option maxRecDepth 100000 in
set_option maxHeartbeats 1000000 in
theorem l1Index_any (b B : Nat) (w : World) (h : RdAt w b B) (hB : B ≤ 1000000) :
    Calls Try.prog 79 #[.pointer (some ⟨b, 0, none⟩)] w fun e w' => ∃ z, I64 z ∧ e = .returned (.int .i64 z) ∧ RdAt w' b (B + 1) ∧ w.grownBy w' (some b) := by
  have hl := h.lt
  have H := Lib.hid h
  clear h
  go_enter Try.func79, Try.ntmps79
  go_wp2_with fail
  have hr := Row.new w 3 (([0, 0, 1, 0, 2, 3, -1, 8] : List Int).map (Value.int .i64))
  have hz := hr.ints (lo := w.heap.size) (hi := w.heap.size + 1) (cap := 8) index_wf (Nat.le_refl _) (by omega) (by decide) (by unfold maxLen; omega)
  refine (num_any b B w.heap.size (w.heap.size + 1) _ [0, 0, 1, 0, 2, 3, -1, 8] _ (H.out.keep fun g hg => Below.heap_alloc w _ g (by omega)) hB hz hl (by simp) (by decide) (by decide)).mono ?_
  rintro e w1 ⟨z, hzm, rfl, hr1, hg1, hs1⟩
  have hz64 : I64 z := index_wf z hzm
  have Hr1 := Lib.hid hr1
  have Hg1 : Hid (w.grownBy w1 (some b)) := ⟨hg1.os, hg1.tape, hg1.output, Nat.le_trans (by simp) hg1.size, fun g hg hne => (hg1.block g (by simp; omega) hne).trans (Below.heap_alloc w _ g hg)⟩
  clear hr1 hg1 hs1 hr hz hzm
  go_wp2
  go_ret
  exact ⟨z, hz64, rfl, Hr1.out, Hg1.out⟩

/-- A text of bytes in memory below a block. -/
def CodeAt (w : World) (hi : Nat) (v : Value) : Prop :=
  ∃ (A : Option Addr) (n c : Nat), v = .slice A n c ∧ n ≤ c ∧ c ≤ maxLen ∧ (0 < n → ∃ a off, A = some ⟨a, off, none⟩ ∧ a < hi ∧ ∀ k, k < n → ∃ x : Nat, x < 256 ∧ w.cell? ⟨a, off + k, none⟩ = some (.int .u8 (x : Nat)))

set_option maxRecDepth 100000 in
set_option maxHeartbeats 1000000 in
theorem l13Open_any (hi : Nat) (v : Value) (w : World) (h : CodeAt w hi v) (hB : hi ≤ w.heap.size) :
    Calls Try.prog 33 #[v] w fun e w' => e = .returned (.pointer (some ⟨w.heap.size, 0, none⟩)) ∧ Below w.heap.size w w' ∧ w'.heap.size = w.heap.size + 1 ∧ RdAt w' w.heap.size 0 := by
  obtain ⟨A, n, c, rfl, hn, hc, hb⟩ := h
  unfold maxLen at hc
  have Hb := Lib.hid hb
  clear hb
  have key : Hid (∀ m, m ≤ n → m ≤ 2000 → RdAt (w.alloc (.cells #[.slice A m c, .int .i64 0] 91)) w.heap.size 0) := fun m hm h2 => by
    refine ⟨A, m, c, 0, Row.new w 91 [.slice A m c, .int .i64 0], Nat.le_refl _, h2, by omega, by unfold maxLen; omega, fun h0 => ?_⟩
    obtain ⟨a, off, e, ha, hcell⟩ := Hb.out (by omega)
    refine ⟨a, off, e, by omega, fun k hk => ?_⟩
    obtain ⟨x, hx, hcx⟩ := hcell k (by omega)
    exact ⟨x, hx, (World.cell?_of_block (a := ⟨a, off + k, none⟩) (Below.heap_alloc w _ a (by omega))).trans hcx⟩
  have hbel : Hid (∀ o : Obj, Below w.heap.size w (w.alloc o)) := fun o => (Below.refl _ _).alloc (Nat.le_refl _) _
  by_cases h2 : 2000 < n
  · have h2c : 2000 ≤ c := by omega
    have hk := Lib.hid (key.out 2000 (by omega) (Nat.le_refl _))
    have hc0 : c ≠ 0 := by omega
    go_enter Try.func33, Try.ntmps33
    go_wp2
    go_ret
    exact ⟨rfl, hbel.out _, by simp, hk.out⟩
  · have h2n : n ≤ 2000 := by omega
    have hk := Lib.hid (key.out n (Nat.le_refl _) h2n)
    go_enter Try.func33, Try.ntmps33
    go_wp2
    go_ret
    exact ⟨rfl, hbel.out _, by simp, hk.out⟩
end Go.Proofs.Ytplpnammboofiaa
