/-
  The contracts of the model's l2Two and DrawShortestWay.
  The contract of the model's DrawWaysOf.
  sync.Once in one goroutine, the lock free and nothing done yet: the parts of its slow road, each a contract of its own.
  The table that a coercion makes once: filled by the function that is handed to the Once.
  What it is that types are valid, as a Bool function on plain data; the contracts of the model's functions that ask it.
  The contracts of the program's functions that ask whether types are valid.
-/
import Derived.Test.YtplpnammboofiaaQbad
import Derived.Test.YtplpnammboofiaaRows
import Derived.Test.YtplpnammboofiaaJ2
import Derived.Tactics
import Derived.Tactics2
import Derived.Defers
import Derived.Laws.Pointers
import Derived.Laws.LoneSync
import Derived.RegionTactic
import Derived.RegionCalls
import Derived.ChangeAlike
import Derived.Outline
import Derived.Handy
import Derived.StillTailTactics
import Derived.Laws.CopyOwn
import Derived.Test.YtplpnammboofiaaJ1
import Derived.BigQuiet
import Derived.Deep.QuietTactic
namespace Go.Proofs.Ytplpnammboofiaa
open Go.RowKit

set_option maxRecDepth 100000 in
set_option maxHeartbeats 2000000 in
theorem two_any (b B : Nat) (w : World) (h : RdAt w b B) (hB : B ≤ 500000) :
    Calls Try.prog 49 #[.pointer (some ⟨b, 0, none⟩)] w fun e w' => ∃ sv cv t k z, e = .returned (.tuple #[.agg #[sv, cv], .int .i64 k, .int .i64 z]) ∧ RdAt w' b (B + 400) ∧ w.grownBy w' (some b) ∧ TyAt w' w.heap.size w'.heap.size sv cv t ∧ BdOk t ∧ I64 k ∧ I64 z := by
  have hbl := h.lt
  have H := Lib.hid h
  have hb0 : Below w.heap.size w (w.alloc (.cells #[.slice none 0 0, .slice none 0 0] 26)) := (Below.refl _ _).alloc (Nat.le_refl _) _
  have HB0 := Lib.hid hb0
  clear h hb0
  go_enter Try.func49, Try.ntmps49
  go_wp2_with fail
  refine (someT_any b B _ (H.out.keep fun g hg => Below.heap_alloc w _ g (by omega)) (by omega)).mono ?_
  rintro e w2 ⟨sv, cv, t, rfl, hrd2, hg2, hv2, hd2⟩
  obtain ⟨A, cap, rfl, _, _, _⟩ := hv2.1.form
  obtain ⟨C, cbp, rfl, _, _, _⟩ := hv2.2.form
  have hs2 : w.heap.size + 1 ≤ w2.heap.size := by have := hg2.size; simpa using this
  have HRR2 : Hid (Row w2 w.heap.size 26 [.slice none 0 0, .slice none 0 0]) := (Row.new w 26 [.slice none 0 0, .slice none 0 0]).keep (hg2.block _ (by simp) (fun e => by simp only [Option.some.injEq] at e; omega))
  have HG2 := Lib.hid (rdGrown_trans (rdGrown_below HB0.out) hg2)
  have HRd2 := Lib.hid hrd2
  simp only [World.size_alloc] at hv2
  have HV2 := Lib.hid hv2
  have HD2 := Lib.hid hd2
  clear hrd2 hg2 hv2 hd2
  have hlt2 : w.heap.size < w2.heap.size := by omega
  go_wp2_with fail
  obtain ⟨w3, hw3⟩ : ∃ u, u = w2.alloc (.cells #[.slice A t.sizes.length cap, .slice C t.cos.length cbp] 26) := ⟨_, rfl⟩
  rw [← hw3]
  have hb23 : Below w2.heap.size w2 w3 := by rw [hw3]; exact (Below.refl _ _).alloc (Nat.le_refl _) _
  have hs3 : w2.heap.size < w3.heap.size := by rw [hw3]; simp
  have HRT3 : Hid (Row w3 w2.heap.size 26 [.slice A t.sizes.length cap, .slice C t.cos.length cbp]) := by rw [hw3]; exact Row.new w2 26 _
  have HRR3 := Lib.hid (HRR2.out.below hb23 (by omega))
  have HG3 := Lib.hid (rdGrown_trans HG2.out (rdGrown_below hb23))
  have HRd3 := Lib.hid (HRd2.out.keep (w' := w3) fun g hg => hb23.block g (by omega))
  have HV3 := Lib.hid (HV2.out.below hb23 (Nat.le_refl _))
  clear hw3 hb23 HRR2 HRd2 HV2 HG2
  refine (l1Kind_any b (B + 300) w3 HRd3.out (by omega)).mono ?_
  rintro e w4 ⟨k, hk64, rfl, hrd4, hg4⟩
  have hs4 := hg4.size
  have hk4 : ∀ g, g < w3.heap.size → g ≠ b → w4.heap[g]? = w3.heap[g]? := fun g h1 h2 => hg4.block g h1 (fun e => by simp only [Option.some.injEq] at e; omega)
  have HRT4 := Lib.hid (HRT3.out.keep (hk4 _ (by omega) (by omega)))
  have HRR4 := Lib.hid (HRR3.out.keep (hk4 _ (by omega) (by omega)))
  have HG4 := Lib.hid (rdGrown_trans HG3.out hg4)
  have HRd4 := Lib.hid hrd4
  have HV4 := Lib.hid (HV3.out.keep (w' := w4) fun g h1 h2 => hk4 g (by omega) (by omega))
  have HK64 := Lib.hid hk64
  have hwf8 : ∀ z ∈ ([1, 2, 3, k, 1, 2, 0, -1] : List Int), I64 z := by
    intro z hz
    simp at hz
    rcases hz with h | h | h | h | h | h | h <;> first | (rw [h]; exact hk64) | (unfold I64; omega)
  have HWF := Lib.hid hwf8
  clear hrd4 hg4 hk4 HRT3 HRR3 HG3 HRd3 HV3 hk64 hwf8
  have p0 := HRT4.out.cell 0
  have p1 := HRT4.out.cell 1
  have q0 := HRR4.out.cell 0
  have q1 := HRR4.out.cell 1
  have qf0 := HRR4.out.frozen 0
  have qf1 := HRR4.out.frozen 1
  simp only [List.getElem?_cons_zero, List.getElem?_cons_succ] at p0 p1 q0 q1
  have hlt4 : w2.heap.size < w4.heap.size := by omega
  have hlt4' : w.heap.size < w4.heap.size := by omega
  go_upto_region 3 with fail
  have hb45 : Hid (Below w4.heap.size w4 (w4.alloc (.cells #[.int .i64 1, .int .i64 2, .int .i64 3, .int .i64 k, .int .i64 1, .int .i64 2, .int .i64 0, .int .i64 (-1)] 3)).drew) := ((Below.refl _ _).alloc (Nat.le_refl _) _).drew
  have hz6 : Hid (IntsAt (w4.alloc (.cells #[.int .i64 1, .int .i64 2, .int .i64 3, .int .i64 k, .int .i64 1, .int .i64 2, .int .i64 0, .int .i64 (-1)] 3)).drew w4.heap.size (w4.heap.size + 1) (.slice (some ⟨w4.heap.size, 0, none⟩) 8 8) [1, 2, 3, k, 1, 2, 0, -1]) :=
    (Row.new w4 3 ([1, 2, 3, k, 1, 2, 0, -1].map (Value.int .i64))).drew.ints (lo := w4.heap.size) (hi := w4.heap.size + 1) (cap := 8) HWF.out (Nat.le_refl _) (by omega) (Nat.le_refl _) (by unfold maxLen; omega)
  go_region_law (go_simp; go_at_call 59; refine (num_any b (B + 301) w4.heap.size (w4.heap.size + 1) _ [1, 2, 3, k, 1, 2, 0, -1] _ (HRd4.out.keep fun g hg => hb45.out.block g (by omega)) (by omega) hz6.out (by omega) (by simp) (by simp) (by simp)).mono ?_; rintro e w5 ⟨z, hz, rfl, hrd5, hg5, hs5⟩; have hk5 : Hid (∀ g, g < w4.heap.size → g ≠ b → w5.heap[g]? = w4.heap[g]?) := (fun g h1 h2 => (hg5.block g (by simp; omega) (fun e => h2 (by simpa using e))).trans (hb45.out.block g h1)); have HRT5 := Lib.hid (HRT4.out.keep (hk5.out _ (by omega) (by omega))); have HRR5 := Lib.hid (HRR4.out.keep (hk5.out _ (by omega) (by omega))); have p05 := HRT5.out.cell 0; have p15 := HRT5.out.cell 1; have q05 := HRR5.out.cell 0; have q15 := HRR5.out.cell 1; have qf05 := HRR5.out.frozen 0; have qf15 := HRR5.out.frozen 1; simp only [List.getElem?_cons_zero, List.getElem?_cons_succ] at p05 p15 q05 q15; have HG5 : Hid (w5.os = w4.os ∧ w5.tape = w4.tape ∧ w5.output = w4.output ∧ w4.heap.size ≤ w5.heap.size) := ⟨hg5.os, hg5.tape, hg5.output, (by have := hg5.size; simp at this; omega)⟩; have HRd5 := Lib.hid hrd5; have HZ := Lib.hid (HWF.out z hz); clear hrd5 hg5 hs5 hz)
  all_goals
    go_wp2
    refine bodyPost_ret (v := .tuple #[.agg #[.slice A t.sizes.length cap, .slice C t.cos.length cbp], .int .i64 k, .int .i64 z]) (by simp [results, Try.results49, go_sem, q05, q15]) rfl ?_
    have hset : ∀ g, g ≠ w.heap.size → ((w5.setCell ⟨w.heap.size, 0, none⟩ (.slice A t.sizes.length cap)).setCell ⟨w.heap.size, 1, none⟩ (.slice C t.cos.length cbp)).heap[g]? = w5.heap[g]? := fun g h2 => (Below.heap_setCell _ _ _ _ (by dsimp only; omega)).trans (Below.heap_setCell _ _ _ _ (by dsimp only; omega))
    have hsw := HG5.out.2.2.2
    exact ⟨_, _, t, k, z, rfl, (HRd5.out.keep fun g hg => hset g (by omega)).more (by omega), ⟨HG5.out.1.trans HG4.out.os, HG5.out.2.1.trans HG4.out.tape, HG5.out.2.2.1.trans HG4.out.output, by have := HG4.out.size; simp [World.setCell]; omega, fun g hg hne => (hset g (by omega)).trans ((hk5.out g (by omega) (fun e => hne (by rw [e]))).trans (HG4.out.block g hg hne))⟩, (HV4.out.keep fun g h1 h2 => (hset g (by omega)).trans (hk5.out g (by omega) (by omega))).more (by omega) (by simp [World.setCell]; omega), HD2.out, HK64.out, HZ.out⟩

end Go.Proofs.Ytplpnammboofiaa

namespace Go.Proofs.Ytplpnammboofiaa
open Go.RowKit

set_option maxRecDepth 100000 in
set_option maxHeartbeats 1000000 in
theorem drawWays_any (v : Value) (w : World) (h : CodeAt w w.heap.size v) :
    Calls Try.prog 15 #[v] w fun e w' => ∃ sv cv t k z, e = .returned (.tuple #[.agg #[sv, cv], .int .i64 k, .int .i64 z]) ∧ Below w.heap.size w w' ∧ TyAt w' w.heap.size w'.heap.size sv cv t ∧ BdOk t ∧ I64 k ∧ I64 z := by
  have hb0 : Below w.heap.size w (w.alloc (.cells #[.slice none 0 0, .slice none 0 0] 26)) := (Below.refl _ _).alloc (Nat.le_refl _) _
  have hc0 : CodeAt (w.alloc (.cells #[.slice none 0 0, .slice none 0 0] 26)) (w.heap.size + 1) v := by
    obtain ⟨A, n, c, e, h1, h2, h3⟩ := h
    refine ⟨A, n, c, e, h1, h2, fun h0 => ?_⟩
    obtain ⟨a, off, e2, h4, h5⟩ := h3 h0
    refine ⟨a, off, e2, by omega, fun k hk => ?_⟩
    obtain ⟨x, hx, hc⟩ := h5 k hk
    exact ⟨x, hx, (World.cell?_of_block (a := ⟨a, off + k, none⟩) (Below.heap_alloc w _ a h4)).trans hc⟩
  have HO := Lib.hid (l13Open_any (w.heap.size + 1) v _ hc0 (by simp))
  have HB0 := Lib.hid hb0
  clear h hb0 hc0
  go_enter Try.func15, Try.ntmps15
  go_wp2_with fail
  refine HO.out.mono ?_
  rintro e w1 ⟨rfl, hb1, hs1, hr1⟩
  simp only [World.size_alloc] at hs1 hr1
  have HRR1 : Hid (Row w1 w.heap.size 26 [.slice none 0 0, .slice none 0 0]) := (Row.new w 26 [.slice none 0 0, .slice none 0 0]).below hb1 (by simp)
  have HB1 := Lib.hid (HB0.out.trans (hb1.mono (by simp)))
  have HR1 := Lib.hid hr1
  have hs1a : w.heap.size + 2 ≤ w1.heap.size := by omega
  clear hb1 hr1 hs1
  go_wp2_with fail
  refine (two_any (w.heap.size + 1) 0 w1 HR1.out (by omega)).mono ?_
  rintro e w2 ⟨sv, cv, t, k, z, rfl, _, hg2, hv2, hd2, hk64, hz64⟩
  obtain ⟨A, cap, rfl, _, _, _⟩ := hv2.1.form
  obtain ⟨C, cbp, rfl, _, _, _⟩ := hv2.2.form
  have hs2 := hg2.size
  have hrr := HRR1.out.keep (hg2.block _ (by omega) (fun e => by simp only [Option.some.injEq] at e; omega))
  have HB2 : Hid (Below w.heap.size w w2) := ⟨hg2.os.trans HB1.out.os, hg2.tape.trans HB1.out.tape, hg2.output.trans HB1.out.output, Nat.le_trans HB1.out.size hs2, fun g hg => (hg2.block g (by omega) (fun e => by simp only [Option.some.injEq] at e; omega)).trans (HB1.out.block g hg)⟩
  have HV2 := Lib.hid hv2
  have HD2 := Lib.hid hd2
  have HKZ : Hid (I64 k ∧ I64 z) := ⟨hk64, hz64⟩
  have q0 := hrr.cell 0
  have q1 := hrr.cell 1
  have qf0 := hrr.frozen 0
  have qf1 := hrr.frozen 1
  simp only [List.getElem?_cons_zero, List.getElem?_cons_succ] at q0 q1
  clear hg2 hv2 hd2 hrr hk64 hz64
  go_wp2
  refine bodyPost_ret (v := .tuple #[.agg #[.slice A t.sizes.length cap, .slice C t.cos.length cbp], .int .i64 k, .int .i64 z]) (by simp [results, Try.results15, go_sem, q0, q1]) rfl ?_
  have hset : ∀ g, g ≠ w.heap.size → ((w2.setCell ⟨w.heap.size, 0, none⟩ (.slice A t.sizes.length cap)).setCell ⟨w.heap.size, 1, none⟩ (.slice C t.cos.length cbp)).heap[g]? = w2.heap[g]? := fun g h2 => (Below.heap_setCell _ _ _ _ (by dsimp only; omega)).trans (Below.heap_setCell _ _ _ _ (by dsimp only; omega))
  exact ⟨_, _, t, k, z, rfl, (HB2.out.setCell (by dsimp only; omega) _).setCell (by dsimp only; omega) _, (HV2.out.keep fun g h1 h2 => hset g (by omega)).more (by omega) (by simp [World.setCell]), HD2.out, HKZ.out.1, HKZ.out.2⟩
end Go.Proofs.Ytplpnammboofiaa

namespace Go.Proofs.Ytplpnammboofiaa
open Go.RowKit

theorem disable (w : World) : (callFunc 99 #[]).run Try.prog w = .ok (.value (.tuple #[])) w := run_call_mark0 Try.func99 (by kernel_rfl) (by kernel_rfl) (by kernel_rfl) .disable (by kernel_rfl) w
theorem enable (w : World) : (callFunc 101 #[]).run Try.prog w = .ok (.value (.tuple #[])) w := run_call_mark0 Try.func101 (by kernel_rfl) (by kernel_rfl) (by kernel_rfl) .enable (by kernel_rfl) w
theorem acquire (a : Addr) (w : World) : (callFunc 102 #[.pointer (some a)]).run Try.prog w = .ok (.value (.tuple #[])) w := run_call_marked Try.func102 (by kernel_rfl) (by kernel_rfl) (by kernel_rfl) .acquire (by kernel_rfl) a w
theorem releaseMerge (a : Addr) (w : World) : (callFunc 104 #[.pointer (some a)]).run Try.prog w = .ok (.value (.tuple #[])) w := run_call_marked Try.func104 (by kernel_rfl) (by kernel_rfl) (by kernel_rfl) .releaseMerge (by kernel_rfl) a w

set_option maxRecDepth 100000 in
set_option maxHeartbeats 800000 in
/-- The flag is stored, as a deferred call. -/
theorem store_deferred (a : Addr) (x : Value) (u : FrameMode) (w : World) (hc : w.cell? a = some x) (hz : w.frozen? a = false) :
    CallsD Try.prog 94 #[.pointer (some a), .bool true] u w fun e u' w' => u' = u ∧ (e = .returned (.tuple #[]) ∧ w' = w.drew.setCell a (.int .u32 1)) := by
  have hc' : w.drew.cell? a = some x := by go_simp
  have hz' : w.drew.frozen? a = false := by go_simp
  have hst := run_call_store (P := Try.prog) Try.func97 (by kernel_rfl) (by kernel_rfl) (by kernel_rfl) (by kernel_rfl) (k := .u32) (y := 1) hc' hz'
  go_enter_d Try.func94, Try.ntmps94
  go_wp2
  go_region_calls
  all_goals (go_end0; exact ⟨rfl, rfl⟩)

set_option maxRecDepth 100000 in
set_option maxHeartbeats 800000 in
/-- The lock is let go, as a deferred call. -/
theorem unlock_deferred (a : Addr) (u : FrameMode) (w : World) (hc : w.cell? a = some (.int .i32 1)) (hz : w.frozen? a = false) :
    CallsD Try.prog 93 #[.pointer (some a)] u w fun e u' w' => u' = u ∧ (e = .returned (.tuple #[]) ∧ w' = w.setCell a (.int .i32 0)) := by
  have hd := disable
  have he := enable
  have hr := releaseMerge
  have hadd := run_call_add (P := Try.prog) Try.func105 (by kernel_rfl) (by kernel_rfl) (by kernel_rfl) .i32 (by kernel_rfl) (y := -1) (s := 0) hc hz (by simp [go_sem]; rfl)
  have hcv := run_convert_to_unsafe (P := Try.prog) (src := 130) (dst := 134) Try.underlying130 Try.underlying134 (by kernel_rfl) hc
  go_enter_d Try.func93, Try.ntmps93
  go_wp2
  go_end0
  go_wp2
  all_goals go_end0
  all_goals exact ⟨rfl, rfl⟩

set_option maxRecDepth 100000 in
set_option maxHeartbeats 800000 in
/-- The lock is taken. -/
theorem lock_free (a : Addr) (w : World) (hc : w.cell? a = some (.int .i32 0)) (hz : w.frozen? a = false) :
    Calls Try.prog 92 #[.pointer (some a)] w fun e w' => e = .returned (.tuple #[]) ∧ w' = w.setCell a (.int .i32 1) := by
  have hd := disable
  have he := enable
  have ha := acquire
  have hcas := run_call_cas_hit (P := Try.prog) Try.func100 (by kernel_rfl) (by kernel_rfl) (by kernel_rfl) .i32 (by kernel_rfl) (y := 1) hc hz
  have hc' : (w.setCell a (.int .i32 1)).cell? a = some (.int .i32 1) := World.cell?_setCell_same w a _ hc
  have hcv := run_convert_to_unsafe (P := Try.prog) (src := 130) (dst := 134) Try.underlying130 Try.underlying134 (by kernel_rfl) hc'
  go_enter Try.func92, Try.ntmps92
  go_wp2
  first | go_end0 | (simp only [Exit.inBlock, Exit.then]; refine bodyPost_ret (results_none rfl _ _ _) rfl ?_) | refine bodyPost_ret (results_none rfl _ _ _) rfl ?_
  go_wp2
  all_goals go_end0
  all_goals exact ⟨rfl, rfl⟩
end Go.Proofs.Ytplpnammboofiaa

namespace Go.Proofs.Ytplpnammboofiaa
open Go.RowKit

/-- What the table holds. -/
def tabOf (zs : List Int) : List Value := zs.map (Value.int .i64) ++ List.replicate (4 - zs.length) (.int .i64 (-1))

set_option maxRecDepth 100000 in
set_option maxHeartbeats 2000000 in
theorem fill_any (lo hi g : Nat) (a b y3 y4 y5 z0 z1 z2 z3 : Value) (A : Option Addr) (cap : Nat) (zs : List Int) (w : World) (hr : Row w g 115 [a, b, .slice A zs.length cap, y3, y4, y5, z0, z1, z2, z3])
    (hz : IntsAt w lo hi (.slice A zs.length cap) zs) (hB : hi ≤ g) (hn : zs.length ≤ 4) (hpos : 0 < zs.length) :
    Calls Try.prog 87 #[.pointer (some ⟨g, 0, none⟩)] w fun e w' => e = .returned (.tuple #[]) ∧ Kept (· ≠ g) w w' ∧ Row w' g 115 ([a, b, .slice A zs.length cap, y3, y4, y5] ++ tabOf zs) := by
  have c2 : w.cell? ⟨g, 2, none⟩ = some (.slice A zs.length cap) := hr.cell 2
  have c6 : w.cell? ⟨g, 6, none⟩ = some z0 := hr.cell 6
  have c7 : w.cell? ⟨g, 7, none⟩ = some z1 := hr.cell 7
  have c8 : w.cell? ⟨g, 8, none⟩ = some z2 := hr.cell 8
  have c9 : w.cell? ⟨g, 9, none⟩ = some z3 := hr.cell 9
  have f6 := hr.frozen 6
  have f7 := hr.frozen 7
  have f8 := hr.frozen 8
  have f9 := hr.frozen 9
  have Hr := Lib.hid hr
  have Hz := Lib.hid hz
  clear hr hz
  go_enter Try.func87, Try.ntmps87
  go_wp2
  refine wp_loop_rounds 5 ?_
  rw [rounds_succ]; go_wp2
  rw [rounds_succ]; go_wp2
  rw [rounds_succ]; go_wp2
  rw [rounds_succ]; go_wp2
  rw [rounds_succ]; go_wp2
  obtain ⟨W, hW⟩ : ∃ W : World, W = ((((w.setCell ⟨g, 6, none⟩ (.int .i64 (-1))).setCell ⟨g, 7, none⟩ (.int .i64 (-1))).setCell ⟨g, 8, none⟩ (.int .i64 (-1))).setCell ⟨g, 9, none⟩ (.int .i64 (-1))) := ⟨_, rfl⟩
  have hk : Kept (· ≠ g) w W := by
    rw [hW]
    exact ((((Kept.refl _ w).setCell (fun h => h rfl) _).setCell (fun h => h rfl) _).setCell (fun h => h rfl) _).setCell (fun h => h rfl) _
  have hrW : Row W g 115 [a, b, .slice A zs.length cap, y3, y4, y5, .int .i64 (-1), .int .i64 (-1), .int .i64 (-1), .int .i64 (-1)] := by
    rw [hW]
    exact (((Hr.out.set_ 6 (.int .i64 (-1))).set_ 7 (.int .i64 (-1))).set_ 8 (.int .i64 (-1))).set_ 9 (.int .i64 (-1))
  rw [← hW]
  clear hW
  have hzW : IntsAt W lo hi (.slice A zs.length cap) zs := Hz.out.keep fun k _ hkk => hk.block k (by have := Hr.out.lt; omega) (by omega)
  have c2 : W.cell? ⟨g, 2, none⟩ = some (.slice A zs.length cap) := hrW.cell 2
  obtain ⟨A2, cap2, e, _, _, _, hcells⟩ := hzW
  injection e with e1 e2 e3
  subst e1 e3
  obtain ⟨b3, off3, rfl, _, _, hc⟩ := hcells hpos
  have hcp := run_copy_row (P := Try.prog) W.drew 23 23 3 3 g 6 4 4 ⟨b3, off3, none⟩ zs.length cap [a, b, Value.slice (some ⟨b3, off3, none⟩) zs.length cap, y3, y4, y5, .int .i64 (-1), .int .i64 (-1), .int .i64 (-1), .int .i64 (-1)].toArray 115 (zs.map (Value.int .i64))
    Try.underlying23 (by kernel_rfl) hrW (by rw [List.length_map]; exact (Nat.min_eq_left hn).symm) (by
      intro j v hj
      have hjl : j < zs.length := by
        have := (List.getElem?_eq_some_iff.1 hj).1
        simpa using this
      rw [Go.WideShapes.add_plain]
      have := hc j hjl
      rw [List.getElem?_map, List.getElem?_eq_getElem hjl] at hj
      rw [List.getD_eq_getElem?_getD, List.getElem?_eq_getElem hjl] at this
      simp only [Option.map_some, Option.some.injEq] at hj
      subst hj
      exact this) (by simp; omega) (by intro v hv; obtain ⟨z, _, rfl⟩ := List.mem_map.1 hv; rfl)
  have hdrop : [a, b, Value.slice (some ⟨b3, off3, none⟩) zs.length cap, y3, y4, y5, .int .i64 (-1), .int .i64 (-1), .int .i64 (-1), .int .i64 (-1)].drop (6 + zs.length) = List.replicate (4 - zs.length) (.int .i64 (-1)) := by
    have h4 : zs.length = 1 ∨ zs.length = 2 ∨ zs.length = 3 ∨ zs.length = 4 := by omega
    rcases h4 with e | e | e | e <;> simp [e, List.replicate]
  rw [List.length_map] at hcp
  have hlist : ([a, b, Value.slice (some ⟨b3, off3, none⟩) zs.length cap, y3, y4, y5, .int .i64 (-1), .int .i64 (-1), .int .i64 (-1), .int .i64 (-1)].toArray.toList.take 6 ++ zs.map (Value.int .i64) ++ [a, b, Value.slice (some ⟨b3, off3, none⟩) zs.length cap, y3, y4, y5, .int .i64 (-1), .int .i64 (-1), .int .i64 (-1), .int .i64 (-1)].toArray.toList.drop (6 + zs.length)) = [a, b, Value.slice (some ⟨b3, off3, none⟩) zs.length cap, y3, y4, y5] ++ tabOf zs := by
    rw [hdrop]
    unfold tabOf
    simp
  rw [hlist] at hcp
  have hnew := setRow_heap W.drew g _ ([a, b, Value.slice (some ⟨b3, off3, none⟩) zs.length cap, y3, y4, y5] ++ tabOf zs).toArray _ _ hrW
  generalize hWn : W.drew.setRow g ([a, b, Value.slice (some ⟨b3, off3, none⟩) zs.length cap, y3, y4, y5] ++ tabOf zs).toArray = Wn at hcp hnew
  have hkn : Kept (· ≠ g) w Wn := by
    rw [← hWn]
    exact ⟨hk.os, hk.tape, hk.output, by rw [size_setRow]; exact hk.size, fun k hkk hS => (setRow_other _ g k _ hS).trans (hk.block k hkk hS)⟩
  have Hkn := Lib.hid hkn
  have Hnew := Lib.hid hnew
  clear hk hrW hc hcells hkn hnew hWn hdrop hlist
  go_still_tail 9, (by kernel_rfl)
  change wpList _ _ _ _ _ W.drew
  go_wp2
  go_end0
  exact ⟨rfl, Hkn.out, Hnew.out⟩
end Go.Proofs.Ytplpnammboofiaa

namespace Go.Proofs.Ytplpnammboofiaa
open Go.RowKit

/-- Does n lie between two numbers? -/
def inB (n lo hi : Int) : Bool := decide (lo ≤ n ∧ n ≤ hi)
theorem inB_yes {n lo hi : Int} (h1 : lo ≤ n) (h2 : n ≤ hi) : inB n lo hi = true := by simp [inB, h1, h2]
theorem inB_low {n lo hi : Int} (h1 : ¬ lo ≤ n) : inB n lo hi = false := by simp [inB, h1]
theorem inB_high {n lo hi : Int} (h1 : ¬ n ≤ hi) : inB n lo hi = false := by simp [inB, h1]
theorem inB_iff {n lo hi : Int} : inB n lo hi = true ↔ lo ≤ n ∧ n ≤ hi := by simp [inB]

theorem l1In_any (n lo hi : Int) (w : World) : Calls Try.prog 74 #[.int .i64 n, .int .i64 lo, .int .i64 hi] w fun e w' => e = .returned (.bool (inB n lo hi)) ∧ w = w' := by
  by_cases h1 : lo ≤ n
  · by_cases h2 : n ≤ hi
    · have H := Lib.hid (inB_yes h1 h2)
      go_enter Try.func74, Try.ntmps74
      go_wp2
      go_ret
      exact ⟨ret_bool H.out.symm, rfl⟩
    · have H := Lib.hid (inB_high (lo := lo) h2)
      go_enter Try.func74, Try.ntmps74
      go_wp2
      go_ret
      exact ⟨ret_bool H.out.symm, rfl⟩
  · have H := Lib.hid (inB_low (hi := hi) h1)
    go_enter Try.func74, Try.ntmps74
    go_wp2
    go_ret
    exact ⟨ret_bool H.out.symm, rfl⟩

/-- The sizes are valid. -/
def sizesOk (ss : List Int) : Bool := decide (1 ≤ ss.length ∧ ss.length ≤ 5) && ss.all fun n => inB n 1 4
theorem sizesOk_of {ss : List Int} (h : sizesOk ss = true) : 1 ≤ ss.length ∧ ss.length ≤ 5 ∧ ∀ k, ∀ (hk : k < ss.length), 1 ≤ ss[k] ∧ ss[k] ≤ 4 := by
  simp only [sizesOk, Bool.and_eq_true, decide_eq_true_eq, List.all_eq_true] at h
  exact ⟨h.1.1, h.1.2, fun k hk => inB_iff.1 (h.2 _ (List.getElem_mem hk))⟩

/-- All but the map's numbers of a coercion are right: for valid sizes. -/
def coHead (ss : List Int) (c : Co) : Bool := decide (0 ≤ c.src ∧ c.src < c.dst ∧ c.dst < ss.length ∧ (c.map.length : Int) = ss.getD c.src.toNat 0)
def coOk (ss : List Int) (c : Co) : Bool := coHead ss c && c.map.all fun z => inB z 0 (ss.getD c.dst.toNat 0 - 1)
def tyOk (t : Ty) : Bool := sizesOk t.sizes && decide (t.cos.length ≤ 8) && t.cos.all fun c => coOk t.sizes c
theorem coOk_of {ss : List Int} {c : Co} (h : coOk ss c = true) : 0 ≤ c.src ∧ c.src < c.dst ∧ c.dst < ss.length ∧ (c.map.length : Int) = ss.getD c.src.toNat 0 ∧ ∀ k, ∀ (hk : k < c.map.length), 0 ≤ c.map[k] ∧ c.map[k] ≤ ss.getD c.dst.toNat 0 - 1 := by
  simp only [coOk, coHead, Bool.and_eq_true, decide_eq_true_eq, List.all_eq_true] at h
  exact ⟨h.1.1, h.1.2.1, h.1.2.2.1, h.1.2.2.2, fun k hk => inB_iff.1 (h.2 _ (List.getElem_mem hk))⟩

/-- One element fails; all elements pass. -/
theorem all_false_of {α : Type} {l : List α} {p : α → Bool} (k : Nat) (hk : k < l.length) (h : p l[k] = false) : l.all p = false := by
  rw [List.all_eq_false]
  exact ⟨l[k], List.getElem_mem hk, by simp [h]⟩
theorem all_true_of {α : Type} {l : List α} {p : α → Bool} (h : ∀ j, ∀ (hj : j < l.length), p l[j] = true) : l.all p = true := by
  rw [List.all_eq_true]
  intro x hx
  obtain ⟨i, hi, rfl⟩ := List.getElem_of_mem hx
  exact h i hi

theorem wrapIn (x : Int) (h1 : -9223372036854775808 ≤ x) (h2 : x ≤ 9223372036854775807) : IntKind.i64.wrap x = x := IntWalk.i64_in x (by omega)

set_option maxRecDepth 100000 in
set_option maxHeartbeats 1000000 in
/-- The head of a coercion is wrong: the model says no. -/
theorem l1Map_no (lo hi lo' hi' : Nat) (sv x y z : Value) (ss : List Int) (c : Co) (w : World) (hv : IntsAt w lo hi sv ss) (hc : CoAt w lo' hi' x y z c) (hB : hi ≤ w.heap.size) (_hB' : hi' ≤ w.heap.size) (hok : sizesOk ss = true) (hno : coHead ss c = false) :
    Calls Try.prog 75 #[sv, .agg #[x, y, z]] w fun e w' => e = .returned (.bool false) ∧ Below w.heap.size w w' := by
  obtain ⟨h1, h5, hall⟩ := sizesOk_of hok
  obtain ⟨rfl, rfl, hs, hd, hz⟩ := hc
  obtain ⟨A, cap, rfl, _, _, hi1⟩ := hv.form
  obtain ⟨A', cap', rfl, hl2, hm2, hi2⟩ := hz.form
  unfold I64 at hs hd
  unfold maxLen at hm2
  have h3 : Below w.heap.size w (w.alloc (.cells #[.int .i64 c.src, .int .i64 c.dst, .slice A' c.map.length cap'] 28)) := by go_grown
  have hwr := wrapIn ((ss.length : Int) - 1) (by omega) (by omega)
  by_cases ha : 1 ≤ c.dst ∧ c.dst ≤ (ss.length : Int) - 1
  · have hA := inB_yes ha.1 ha.2
    have hwr2 := wrapIn (c.dst - 1) (by omega) (by omega)
    by_cases hb : 0 ≤ c.src ∧ c.src ≤ c.dst - 1
    · have hB2 := inB_yes hb.1 hb.2
      have hlt : c.src.toNat < ss.length := by omega
      obtain ⟨b, off, rfl, _, hbh, c0, _⟩ := (hi1.below h3 hB).at_ hlt
      have hne : ((c.map.length : Int) == ss[c.src.toNat]) = false := by
        have : ¬ (c.map.length : Int) = ss[c.src.toNat] := by
          intro e
          simp only [coHead, decide_eq_false_iff_not] at hno
          apply hno
          rw [List.getD_eq_getElem?_getD, List.getElem?_eq_getElem hlt]
          exact ⟨hb.1, by omega, by omega, e⟩
        simpa using this
      go_enter Try.func75, Try.ntmps75
      go_wp2_with fail
      go_quiet ((first | (go_at_call 74; exact quiet_eq (l1In_any _ _ _ _))))
      go_wp2
      go_ret
      exact ⟨rfl, below_drewN h3 _⟩
    · have hB2 : inB c.src 0 (c.dst - 1) = false := by
        by_cases h0 : 0 ≤ c.src
        · exact inB_high (fun h => hb ⟨h0, h⟩)
        · exact inB_low h0
      go_enter Try.func75, Try.ntmps75
      go_wp2_with fail
      go_quiet ((first | (go_at_call 74; exact quiet_eq (l1In_any _ _ _ _))))
      go_wp2
      go_ret
      exact ⟨rfl, below_drewN h3 _⟩
  · have hA : inB c.dst 1 ((ss.length : Int) - 1) = false := by
      by_cases h0 : 1 ≤ c.dst
      · exact inB_high (fun h => ha ⟨h0, h⟩)
      · exact inB_low h0
    go_enter Try.func75, Try.ntmps75
    go_wp2_with fail
    go_quiet ((first | (go_at_call 74; exact quiet_eq (l1In_any _ _ _ _))))
    go_wp2
    go_ret
    exact ⟨rfl, below_drewN h3 _⟩

set_option maxRecDepth 100000 in
set_option maxHeartbeats 2000000 in
/-- The head of a coercion is right: the model looks at the map's numbers. -/
theorem l1Map_yes (lo hi lo' hi' : Nat) (sv x y z : Value) (ss : List Int) (c : Co) (w : World) (hv : IntsAt w lo hi sv ss) (hc : CoAt w lo' hi' x y z c) (hB : hi ≤ w.heap.size) (hB' : hi' ≤ w.heap.size) (hok : sizesOk ss = true) (hyes : coHead ss c = true) :
    Calls Try.prog 75 #[sv, .agg #[x, y, z]] w fun e w' => e = .returned (.bool (coOk ss c)) ∧ Below w.heap.size w w' := by
  obtain ⟨h1, h5, hall⟩ := sizesOk_of hok
  obtain ⟨rfl, rfl, hs, hd, hz⟩ := hc
  obtain ⟨A, cap, rfl, _, _, hi1⟩ := hv.form
  obtain ⟨A', cap', rfl, hl2, hm2, hi2⟩ := hz.form
  unfold I64 at hs hd
  unfold maxLen at hm2
  have hyes' := hyes
  simp only [coHead, decide_eq_true_eq] at hyes'
  obtain ⟨e1, e2, e3, e4⟩ := hyes'
  have h3 : Below w.heap.size w (w.alloc (.cells #[.int .i64 c.src, .int .i64 c.dst, .slice A' c.map.length cap'] 28)) := by go_grown
  have hwr := wrapIn ((ss.length : Int) - 1) (by omega) (by omega)
  have hA := inB_yes (n := c.dst) (lo := 1) (hi := (ss.length : Int) - 1) (by omega) (by omega)
  have hwr2 := wrapIn (c.dst - 1) (by omega) (by omega)
  have hB2 := inB_yes (n := c.src) (lo := 0) (hi := c.dst - 1) (by omega) (by omega)
  have hlt : c.src.toNat < ss.length := by omega
  have hlt2 : c.dst.toNat < ss.length := by omega
  obtain ⟨b, off, rfl, _, hbh, c0, _⟩ := (hi1.below h3 hB).at_ hlt
  rw [List.getD_eq_getElem?_getD, List.getElem?_eq_getElem hlt] at e4
  have hne : ((c.map.length : Int) != ss[c.src.toNat]) = false := by simpa using e4
  have hyz := Lib.hid hyes
  have h4 := Lib.hid e4
  clear hyes e4
  go_enter Try.func75, Try.ntmps75
  go_wp2_with fail
  go_quiet ((first | (go_at_call 74; exact quiet_eq (l1In_any _ _ _ _))))
  go_wp2
  clear hA hB2 hne hwr hwr2 c0
  obtain ⟨b2, off2, eb2, _, hbh2, c02, _⟩ := (hi1.below h3 hB).at_ hlt2
  injection eb2 with eb2
  injection eb2 with eb2 eo2
  subst eb2 eo2
  have hsz := hall _ hlt2
  have Hi2 := Lib.hid (hi2.below h3 hB')
  have H3 := Lib.hid h3
  clear hi1 hi2 hv hz h3 hall
  go_loop [37] (fun i => ∃ k : Nat, k ≤ c.map.length ∧ i = .int .i64 k ∧ Hid (∀ j, j < k → ∀ (hj : j < c.map.length), inB c.map[j] 0 (ss.getD c.dst.toNat 0 - 1) = true)) (fun i => c.map.length - (intOf i).toNat)
  case atStart => exact ⟨0, Nat.zero_le _, rfl, fun j hj => absurd hj (by omega)⟩
  case round =>
    obtain ⟨k, hk, rfl, hok2⟩ := hrel
    by_cases hkl : k < c.map.length
    · obtain ⟨b3, off3, rfl, _, _, c3, _⟩ := Hi2.out.at_ hkl
      by_cases hin : inB c.map[k] 0 (ss[c.dst.toNat] - 1) = true
      · have hin' : Hid (inB c.map[k] 0 (ss.getD c.dst.toNat 0 - 1) = true) := by
          rw [List.getD_eq_getElem?_getD, List.getElem?_eq_getElem hlt2]; exact hin
        go_wp2_with (go_at_call 74; refine (l1In_any _ _ _ _).mono ?_; rintro e w' ⟨rfl, rfl⟩; rw [hin])
        go_round
        case rel =>
          refine ⟨k + 1, by omega, by go_num, fun j hj hjl => ?_⟩
          by_cases ej : j = k
          · subst ej; exact hin'.out
          · exact hok2.out j (by omega) hjl
        case measure => simp [intOf]; omega
      · have hinf : inB c.map[k] 0 (ss[c.dst.toNat] - 1) = false := by simpa using hin
        have hfin : Hid (coOk ss c = false) := by
          unfold coOk
          rw [hyz.out, Bool.true_and]
          refine all_false_of k hkl ?_
          rw [List.getD_eq_getElem?_getD, List.getElem?_eq_getElem hlt2]; exact hinf
        clear hin
        go_wp2_with (go_at_call 74; refine (l1In_any _ _ _ _).mono ?_; rintro e w' ⟨rfl, rfl⟩; rw [hinf])
        go_ret
        exact ⟨ret_bool hfin.out.symm, below_drewN H3.out _⟩
    · obtain rfl : k = c.map.length := by omega
      have hfin : Hid (coOk ss c = true) := by
        unfold coOk
        rw [hyz.out, Bool.true_and]
        exact all_true_of fun j hj => hok2.out j hj hj
      go_wp2
      go_ret
      exact ⟨ret_bool hfin.out.symm, below_drewN H3.out _⟩

theorem l1Map_any (lo hi lo' hi' : Nat) (sv x y z : Value) (ss : List Int) (c : Co) (w : World) (hv : IntsAt w lo hi sv ss) (hc : CoAt w lo' hi' x y z c) (hB : hi ≤ w.heap.size) (hB' : hi' ≤ w.heap.size) (hok : sizesOk ss = true) :
    Calls Try.prog 75 #[sv, .agg #[x, y, z]] w fun e w' => e = .returned (.bool (coOk ss c)) ∧ Below w.heap.size w w' := by
  by_cases h : coHead ss c = true
  · exact l1Map_yes lo hi lo' hi' sv x y z ss c w hv hc hB hB' hok h
  · have hf : coHead ss c = false := by simpa using h
    have e : coOk ss c = false := by unfold coOk; rw [hf, Bool.false_and]
    rw [e]
    exact l1Map_no lo hi lo' hi' sv x y z ss c w hv hc hB hB' hok hf

theorem tyOk_false1 {t : Ty} (h : sizesOk t.sizes = false) : tyOk t = false := by unfold tyOk; rw [h, Bool.false_and, Bool.false_and]
theorem tyOk_false2 {t : Ty} (h : ¬ t.cos.length ≤ 8) : tyOk t = false := by unfold tyOk; simp [h]
theorem tyOk_of {t : Ty} (h1 : sizesOk t.sizes = true) (h2 : t.cos.length ≤ 8) : tyOk t = t.cos.all fun c => coOk t.sizes c := by unfold tyOk; simp [h1, h2]
end Go.Proofs.Ytplpnammboofiaa

namespace Go.Proofs.Ytplpnammboofiaa
open Go.RowKit

def ixB (i n : Int) : Bool := decide (0 ≤ i ∧ i < n)
theorem ixB_yes {i n : Int} (h1 : 0 ≤ i) (h2 : i < n) : ixB i n = true := by simp [ixB, h1, h2]
theorem ixB_low {i n : Int} (h1 : ¬ 0 ≤ i) : ixB i n = false := by simp [ixB, h1]
theorem ixB_high {i n : Int} (h1 : ¬ i < n) : ixB i n = false := by simp [ixB, h1]
theorem ixB_no {i n : Int} (h : ¬ (0 ≤ i ∧ i < n)) : ixB i n = false := by simp [ixB]; omega

theorem isIndex_any (i n : Int) (w : World) : Calls Try.prog 61 #[.int .i64 i, .int .i64 n] w fun e w' => e = .returned (.bool (ixB i n)) ∧ w = w' := by
  by_cases h1 : 0 ≤ i
  · by_cases h2 : i < n
    · have H := Lib.hid (ixB_yes h1 h2)
      go_enter Try.func61, Try.ntmps61
      go_wp2
      go_ret
      exact ⟨ret_bool H.out.symm, rfl⟩
    · have H := Lib.hid (ixB_high h2)
      go_enter Try.func61, Try.ntmps61
      go_wp2
      go_ret
      exact ⟨ret_bool H.out.symm, rfl⟩
  · have H := Lib.hid (ixB_low (n := n) h1)
    go_enter Try.func61, Try.ntmps61
    go_wp2
    go_ret
    exact ⟨ret_bool H.out.symm, rfl⟩

set_option maxHeartbeats 1000000 in
theorem sizesValid_any (lo hi : Nat) (v : Value) (ss : List Int) (w : World) (hv : IntsAt w lo hi v ss) (_hB : hi ≤ w.heap.size) :
    Calls Try.prog 47 #[v] w fun e w' => e = .returned (.bool (sizesOk ss)) ∧ w = w' := by
  obtain ⟨A, cap, rfl, hl1, hm1, hi1⟩ := hv.form
  unfold maxLen at hm1
  clear hv
  by_cases ha : 1 ≤ ss.length
  · by_cases hb : ss.length ≤ 5
    · have d1 : decide ((ss.length : Int) < 1) = false := by simp; omega
      have d2 : decide ((5 : Int) < (ss.length : Int)) = false := by simp; omega
      have Hi1 := Lib.hid hi1
      clear hi1
      go_enter Try.func47, Try.ntmps47
      go_wp2
      clear d1 d2
      go_loop [15] (fun i => ∃ k : Nat, k ≤ ss.length ∧ i = .int .i64 k ∧ Hid (∀ j, j < k → ∀ (hj : j < ss.length), inB ss[j] 1 4 = true)) (fun i => ss.length - (intOf i).toNat)
      case atStart => exact ⟨0, Nat.zero_le _, rfl, fun j hj => absurd hj (by omega)⟩
      case round =>
        obtain ⟨k, hk, rfl, hok2⟩ := hrel
        by_cases hkl : k < ss.length
        · obtain ⟨b3, off3, rfl, _, _, c3, _⟩ := Hi1.out.at_ hkl
          by_cases h1 : 1 ≤ ss[k]
          · by_cases h4 : ss[k] ≤ 4
            · have hin' := Lib.hid (inB_yes h1 h4)
              go_wp2
              go_round
              case rel =>
                refine ⟨k + 1, by omega, by go_num, fun j hj hjl => ?_⟩
                by_cases ej : j = k
                · subst ej; exact hin'.out
                · exact hok2.out j (by omega) hjl
              case measure => simp [intOf]; omega
            · have hfin : Hid (sizesOk ss = false) := by
                show sizesOk ss = false
                unfold sizesOk
                rw [all_false_of (p := fun n => inB n 1 4) k hkl (inB_high h4), Bool.and_false]
              go_wp2
              go_ret
              exact ⟨ret_bool hfin.out.symm, rfl⟩
          · have hfin : Hid (sizesOk ss = false) := by
              show sizesOk ss = false
              unfold sizesOk
              rw [all_false_of (p := fun n => inB n 1 4) k hkl (inB_low h1), Bool.and_false]
            go_wp2
            go_ret
            exact ⟨ret_bool hfin.out.symm, rfl⟩
        · obtain rfl : k = ss.length := by omega
          have hfin : Hid (sizesOk ss = true) := by
            show sizesOk ss = true
            unfold sizesOk
            rw [all_true_of fun j hj => hok2.out j hj hj]
            simp [ha, hb]
          go_wp2
          go_ret
          exact ⟨ret_bool hfin.out.symm, rfl⟩
    · have hfin : Hid (sizesOk ss = false) := by
        show sizesOk ss = false
        unfold sizesOk
        simp [hb]
      go_enter Try.func47, Try.ntmps47
      go_wp2
      go_ret
      exact ⟨ret_bool hfin.out.symm, rfl⟩
  · have hfin : Hid (sizesOk ss = false) := by
      show sizesOk ss = false
      unfold sizesOk
      simp [ha]
    go_enter Try.func47, Try.ntmps47
    go_wp2
    go_ret
    exact ⟨ret_bool hfin.out.symm, rfl⟩

set_option maxRecDepth 100000 in
set_option maxHeartbeats 2000000 in
theorem fits_no (lo hi lo' hi' : Nat) (sv x y z : Value) (ss : List Int) (c : Co) (w : World) (hv : IntsAt w lo hi sv ss) (hc : CoAt w lo' hi' x y z c) (hB : hi ≤ w.heap.size) (_hB' : hi' ≤ w.heap.size) (hok : sizesOk ss = true) (hno : coHead ss c = false) :
    Calls Try.prog 48 #[.agg #[x, y, z], sv] w fun e w' => e = .returned (.bool false) ∧ Below w.heap.size w w' := by
  obtain ⟨h1, h5, hall⟩ := sizesOk_of hok
  obtain ⟨rfl, rfl, hs, hd, hz⟩ := hc
  obtain ⟨A, cap, rfl, _, _, hi1⟩ := hv.form
  obtain ⟨A', cap', rfl, hl2, hm2, hi2⟩ := hz.form
  unfold I64 at hs hd
  unfold maxLen at hm2
  have h3 : Below w.heap.size w (w.alloc (.cells #[.int .i64 c.src, .int .i64 c.dst, .slice A' c.map.length cap'] 28)) := by go_grown
  by_cases ha : 0 ≤ c.src ∧ c.src < ss.length
  · have hA := ixB_yes ha.1 ha.2
    by_cases hb : 0 ≤ c.dst ∧ c.dst < ss.length
    · have hB2 := ixB_yes hb.1 hb.2
      by_cases hlt' : c.src < c.dst
      · have hlt : c.src.toNat < ss.length := by omega
        obtain ⟨b, off, rfl, _, hbh, c0, _⟩ := (hi1.below h3 hB).at_ hlt
        have hne : ((c.map.length : Int) != ss[c.src.toNat]) = true := by
          have : ¬ (c.map.length : Int) = ss[c.src.toNat] := by
            intro e
            simp only [coHead, decide_eq_false_iff_not] at hno
            apply hno
            rw [List.getD_eq_getElem?_getD, List.getElem?_eq_getElem hlt]
            exact ⟨ha.1, by omega, by omega, e⟩
          simpa using this
        have hsi := ha.1
        have hsi2 := ha.2
        go_enter Try.func48, Try.ntmps48
        go_wp2_with (go_at_call 61; refine (isIndex_any _ _ _).mono ?_; rintro e w' ⟨rfl, rfl⟩)
        go_quiet (fail)
        go_wp2
        go_ret
        exact ⟨rfl, below_drewN h3 _⟩
      · go_enter Try.func48, Try.ntmps48
        go_wp2_with (go_at_call 61; refine (isIndex_any _ _ _).mono ?_; rintro e w' ⟨rfl, rfl⟩)
        go_ret
        exact ⟨rfl, h3⟩
    · have hB2 := ixB_no hb
      go_enter Try.func48, Try.ntmps48
      go_wp2_with (go_at_call 61; refine (isIndex_any _ _ _).mono ?_; rintro e w' ⟨rfl, rfl⟩)
      go_ret
      exact ⟨rfl, h3⟩
  · have hA := ixB_no ha
    go_enter Try.func48, Try.ntmps48
    go_wp2_with (go_at_call 61; refine (isIndex_any _ _ _).mono ?_; rintro e w' ⟨rfl, rfl⟩)
    go_ret
    exact ⟨rfl, h3⟩
end Go.Proofs.Ytplpnammboofiaa

