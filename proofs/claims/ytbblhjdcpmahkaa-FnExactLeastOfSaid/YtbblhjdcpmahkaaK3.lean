/-
  sync.Once in one goroutine, the lock free and nothing done yet: the parts of its slow road, each a contract of its own.
  The table that a coercion makes once: filled by the function that is handed to the Once.
  sync.Once's Do, not done yet, the lock free, over the table of a coercion; and the look-up in the table.
  The contracts of ApplyCoercion, the program's and the model's.
-/
import Derived.Test.YtbblhjdcpmahkaaRows
import Derived.Test.YtbblhjdcpmahkaaK2
import Derived.Tactics
import Derived.Tactics2
import Derived.Defers
import Derived.Laws.Pointers
import Derived.Laws.LoneSync
import Derived.RegionTactic
import Derived.RegionCalls
import Derived.ChangeAlike
import Derived.Outline
import Derived.Handy
import Derived.StillTailTactics
import Derived.Laws.CopyOwn
import Derived.Deep.RegionHeld3
import Derived.BigQuiet
namespace Go.Proofs.Ytbblhjdcpmahkaa
open Go.RowKit

theorem disable (w : World) : (callFunc 181 #[]).run Try.prog w = .ok (.value (.tuple #[])) w := run_call_mark0 Try.func181 (by kernel_rfl) (by kernel_rfl) (by kernel_rfl) .disable (by kernel_rfl) w
theorem enable (w : World) : (callFunc 183 #[]).run Try.prog w = .ok (.value (.tuple #[])) w := run_call_mark0 Try.func183 (by kernel_rfl) (by kernel_rfl) (by kernel_rfl) .enable (by kernel_rfl) w
theorem acquire (a : Addr) (w : World) : (callFunc 184 #[.pointer (some a)]).run Try.prog w = .ok (.value (.tuple #[])) w := run_call_marked Try.func184 (by kernel_rfl) (by kernel_rfl) (by kernel_rfl) .acquire (by kernel_rfl) a w
theorem releaseMerge (a : Addr) (w : World) : (callFunc 186 #[.pointer (some a)]).run Try.prog w = .ok (.value (.tuple #[])) w := run_call_marked Try.func186 (by kernel_rfl) (by kernel_rfl) (by kernel_rfl) .releaseMerge (by kernel_rfl) a w

set_option maxRecDepth 100000 in
set_option maxHeartbeats 800000 in
/-- The flag is stored, as a deferred call. -/
theorem store_deferred (a : Addr) (x : Value) (u : FrameMode) (w : World) (hc : w.cell? a = some x) (hz : w.frozen? a = false) :
    CallsD Try.prog 159 #[.pointer (some a), .bool true] u w fun e u' w' => u' = u ∧ (e = .returned (.tuple #[]) ∧ w' = w.drew.setCell a (.int .u32 1)) := by
  have hc' : w.drew.cell? a = some x := by go_simp
  have hz' : w.drew.frozen? a = false := by go_simp
  have hst := run_call_store (P := Try.prog) Try.func168 (by kernel_rfl) (by kernel_rfl) (by kernel_rfl) (by kernel_rfl) (k := .u32) (y := 1) hc' hz'
  go_enter_d Try.func159, Try.ntmps159
  go_wp2
  go_region_calls
  all_goals (go_end0; exact ⟨rfl, rfl⟩)

set_option maxRecDepth 100000 in
set_option maxHeartbeats 800000 in
/-- The lock is let go, as a deferred call. -/
theorem unlock_deferred (a : Addr) (u : FrameMode) (w : World) (hc : w.cell? a = some (.int .i32 1)) (hz : w.frozen? a = false) :
    CallsD Try.prog 158 #[.pointer (some a)] u w fun e u' w' => u' = u ∧ (e = .returned (.tuple #[]) ∧ w' = w.setCell a (.int .i32 0)) := by
  have hd := disable
  have he := enable
  have hr := releaseMerge
  have hadd := run_call_add (P := Try.prog) Try.func187 (by kernel_rfl) (by kernel_rfl) (by kernel_rfl) .i32 (by kernel_rfl) (y := -1) (s := 0) hc hz (by simp [go_sem]; rfl)
  have hcv := run_convert_to_unsafe (P := Try.prog) (src := 205) (dst := 209) Try.underlying205 Try.underlying209 (by kernel_rfl) hc
  go_enter_d Try.func158, Try.ntmps158
  go_wp2
  go_end0
  go_wp2
  all_goals go_end0
  all_goals exact ⟨rfl, rfl⟩

set_option maxRecDepth 100000 in
set_option maxHeartbeats 800000 in
/-- The lock is taken. -/
theorem lock_free (a : Addr) (w : World) (hc : w.cell? a = some (.int .i32 0)) (hz : w.frozen? a = false) :
    Calls Try.prog 157 #[.pointer (some a)] w fun e w' => e = .returned (.tuple #[]) ∧ w' = w.setCell a (.int .i32 1) := by
  have hd := disable
  have he := enable
  have ha := acquire
  have hcas := run_call_cas_hit (P := Try.prog) Try.func182 (by kernel_rfl) (by kernel_rfl) (by kernel_rfl) .i32 (by kernel_rfl) (y := 1) hc hz
  have hc' : (w.setCell a (.int .i32 1)).cell? a = some (.int .i32 1) := World.cell?_setCell_same w a _ hc
  have hcv := run_convert_to_unsafe (P := Try.prog) (src := 205) (dst := 209) Try.underlying205 Try.underlying209 (by kernel_rfl) hc'
  go_enter Try.func157, Try.ntmps157
  go_wp2
  first | go_end0 | (simp only [Exit.inBlock, Exit.then]; refine bodyPost_ret (results_none rfl _ _ _) rfl ?_) | refine bodyPost_ret (results_none rfl _ _ _) rfl ?_
  go_wp2
  all_goals go_end0
  all_goals exact ⟨rfl, rfl⟩
end Go.Proofs.Ytbblhjdcpmahkaa

namespace Go.Proofs.Ytbblhjdcpmahkaa
open Go.RowKit

/-- What the table holds. -/
def tabOf (zs : List Int) : List Value := zs.map (Value.int .i64) ++ List.replicate (4 - zs.length) (.int .i64 (-1))

set_option maxRecDepth 100000 in
set_option maxHeartbeats 2000000 in
theorem fill_any (lo hi g : Nat) (a b y3 y4 y5 z0 z1 z2 z3 : Value) (A : Option Addr) (cap : Nat) (zs : List Int) (w : World) (hr : Row w g 141 [a, b, .slice A zs.length cap, y3, y4, y5, z0, z1, z2, z3])
    (hz : IntsAt w lo hi (.slice A zs.length cap) zs) (hB : hi ≤ g) (hn : zs.length ≤ 4) (hpos : 0 < zs.length) :
    Calls Try.prog 117 #[.pointer (some ⟨g, 0, none⟩)] w fun e w' => e = .returned (.tuple #[]) ∧ Kept (· ≠ g) w w' ∧ Row w' g 141 ([a, b, .slice A zs.length cap, y3, y4, y5] ++ tabOf zs) := by
  have c2 : w.cell? ⟨g, 2, none⟩ = some (.slice A zs.length cap) := hr.cell 2
  have c6 : w.cell? ⟨g, 6, none⟩ = some z0 := hr.cell 6
  have c7 : w.cell? ⟨g, 7, none⟩ = some z1 := hr.cell 7
  have c8 : w.cell? ⟨g, 8, none⟩ = some z2 := hr.cell 8
  have c9 : w.cell? ⟨g, 9, none⟩ = some z3 := hr.cell 9
  have f6 := hr.frozen 6
  have f7 := hr.frozen 7
  have f8 := hr.frozen 8
  have f9 := hr.frozen 9
  have Hr := Lib.hid hr
  have Hz := Lib.hid hz
  clear hr hz
  go_enter Try.func117, Try.ntmps117
  go_wp2
  refine wp_loop_rounds 5 ?_
  rw [rounds_succ]; go_wp2
  rw [rounds_succ]; go_wp2
  rw [rounds_succ]; go_wp2
  rw [rounds_succ]; go_wp2
  rw [rounds_succ]; go_wp2
  obtain ⟨W, hW⟩ : ∃ W : World, W = ((((w.setCell ⟨g, 6, none⟩ (.int .i64 (-1))).setCell ⟨g, 7, none⟩ (.int .i64 (-1))).setCell ⟨g, 8, none⟩ (.int .i64 (-1))).setCell ⟨g, 9, none⟩ (.int .i64 (-1))) := ⟨_, rfl⟩
  have hk : Kept (· ≠ g) w W := by
    rw [hW]
    exact ((((Kept.refl _ w).setCell (fun h => h rfl) _).setCell (fun h => h rfl) _).setCell (fun h => h rfl) _).setCell (fun h => h rfl) _
  have hrW : Row W g 141 [a, b, .slice A zs.length cap, y3, y4, y5, .int .i64 (-1), .int .i64 (-1), .int .i64 (-1), .int .i64 (-1)] := by
    rw [hW]
    exact (((Hr.out.set_ 6 (.int .i64 (-1))).set_ 7 (.int .i64 (-1))).set_ 8 (.int .i64 (-1))).set_ 9 (.int .i64 (-1))
  rw [← hW]
  clear hW
  have hzW : IntsAt W lo hi (.slice A zs.length cap) zs := Hz.out.keep fun k _ hkk => hk.block k (by have := Hr.out.lt; omega) (by omega)
  have c2 : W.cell? ⟨g, 2, none⟩ = some (.slice A zs.length cap) := hrW.cell 2
  obtain ⟨A2, cap2, e, _, _, _, hcells⟩ := hzW
  injection e with e1 e2 e3
  subst e1 e3
  obtain ⟨b3, off3, rfl, _, _, hc⟩ := hcells hpos
  have hcp := run_copy_row (P := Try.prog) W.drew 23 23 3 3 g 6 4 4 ⟨b3, off3, none⟩ zs.length cap [a, b, Value.slice (some ⟨b3, off3, none⟩) zs.length cap, y3, y4, y5, .int .i64 (-1), .int .i64 (-1), .int .i64 (-1), .int .i64 (-1)].toArray 141 (zs.map (Value.int .i64))
    Try.underlying23 (by kernel_rfl) hrW (by rw [List.length_map]; exact (Nat.min_eq_left hn).symm) (by
      intro j v hj
      have hjl : j < zs.length := by
        have := (List.getElem?_eq_some_iff.1 hj).1
        simpa using this
      rw [Go.WideShapes.add_plain]
      have := hc j hjl
      rw [List.getElem?_map, List.getElem?_eq_getElem hjl] at hj
      rw [List.getD_eq_getElem?_getD, List.getElem?_eq_getElem hjl] at this
      simp only [Option.map_some, Option.some.injEq] at hj
      subst hj
      exact this) (by simp; omega) (by intro v hv; obtain ⟨z, _, rfl⟩ := List.mem_map.1 hv; rfl)
  have hdrop : [a, b, Value.slice (some ⟨b3, off3, none⟩) zs.length cap, y3, y4, y5, .int .i64 (-1), .int .i64 (-1), .int .i64 (-1), .int .i64 (-1)].drop (6 + zs.length) = List.replicate (4 - zs.length) (.int .i64 (-1)) := by
    have h4 : zs.length = 1 ∨ zs.length = 2 ∨ zs.length = 3 ∨ zs.length = 4 := by omega
    rcases h4 with e | e | e | e <;> simp [e, List.replicate]
  rw [List.length_map] at hcp
  have hlist : ([a, b, Value.slice (some ⟨b3, off3, none⟩) zs.length cap, y3, y4, y5, .int .i64 (-1), .int .i64 (-1), .int .i64 (-1), .int .i64 (-1)].toArray.toList.take 6 ++ zs.map (Value.int .i64) ++ [a, b, Value.slice (some ⟨b3, off3, none⟩) zs.length cap, y3, y4, y5, .int .i64 (-1), .int .i64 (-1), .int .i64 (-1), .int .i64 (-1)].toArray.toList.drop (6 + zs.length)) = [a, b, Value.slice (some ⟨b3, off3, none⟩) zs.length cap, y3, y4, y5] ++ tabOf zs := by
    rw [hdrop]
    unfold tabOf
    simp
  rw [hlist] at hcp
  have hnew := setRow_heap W.drew g _ ([a, b, Value.slice (some ⟨b3, off3, none⟩) zs.length cap, y3, y4, y5] ++ tabOf zs).toArray _ _ hrW
  generalize hWn : W.drew.setRow g ([a, b, Value.slice (some ⟨b3, off3, none⟩) zs.length cap, y3, y4, y5] ++ tabOf zs).toArray = Wn at hcp hnew
  have hkn : Kept (· ≠ g) w Wn := by
    rw [← hWn]
    exact ⟨hk.os, hk.tape, hk.output, by rw [size_setRow]; exact hk.size, fun k hkk hS => (setRow_other _ g k _ hS).trans (hk.block k hkk hS)⟩
  have Hkn := Lib.hid hkn
  have Hnew := Lib.hid hnew
  clear hk hrW hc hcells hkn hnew hWn hdrop hlist
  go_still_tail 9, (by kernel_rfl)
  change wpList _ _ _ _ _ W.drew
  go_wp2
  go_end0
  exact ⟨rfl, Hkn.out, Hnew.out⟩
end Go.Proofs.Ytbblhjdcpmahkaa

namespace Go.Proofs.Ytbblhjdcpmahkaa
open Go.RowKit

set_option maxRecDepth 100000 in
set_option maxHeartbeats 2000000 in
theorem slow_any (lo hi g : Nat) (a b y5 z0 z1 z2 z3 : Value) (A : Option Addr) (cap : Nat) (zs : List Int) (w : World) (hr : Row w g 141 [a, b, .slice A zs.length cap, .int .u32 0, .int .i32 0, y5, z0, z1, z2, z3])
    (hz : IntsAt w lo hi (.slice A zs.length cap) zs) (hB : hi ≤ g) (hn : zs.length ≤ 4) (hpos : 0 < zs.length) :
    Calls Try.prog 143 #[.pointer (some ⟨g, 3, none⟩), .func (.func 117) #[.pointer (some ⟨g, 0, none⟩)] #[]] w fun e w' => e = .returned (.tuple #[]) ∧ Kept (· ≠ g) w w' ∧
      Row w' g 141 ([a, b, .slice A zs.length cap, .int .u32 1, .int .i32 0, y5] ++ tabOf zs) := by
  have hr1 : Row (w.setCell ⟨g, 4, none⟩ (.int .i32 1)) g 141 [a, b, .slice A zs.length cap, .int .u32 0, .int .i32 1, y5, z0, z1, z2, z3] := hr.set_ 4 (.int .i32 1)
  have hk1 : Kept (· ≠ g) w (w.setCell ⟨g, 4, none⟩ (.int .i32 1)) := (Kept.refl _ w).setCell (fun h => h rfl) _
  have hz1 : IntsAt (w.setCell ⟨g, 4, none⟩ (.int .i32 1)) lo hi (.slice A zs.length cap) zs := hz.keep fun k _ hkk => hk1.block k (by have := hr.lt; omega) (by omega)
  have hl := run_call_load (P := Try.prog) Try.func156 (by kernel_rfl) (by kernel_rfl) (by kernel_rfl) .u32 (by kernel_rfl) (w := w.setCell ⟨g, 4, none⟩ (.int .i32 1)) (a := ⟨g, 3, none⟩) (x := 0) (hr1.cell 3)
  have hnot : ∀ (x : Bool) (w : World), (Op.unary .not (.bool x)).run Try.prog w = .ok (.bool (!x)) w := fun _ _ => rfl
  have c4 : w.cell? ⟨g, 4, none⟩ = some (.int .i32 0) := hr.cell 4
  have f4 := hr.frozen 4
  have Hr1 := Lib.hid hr1
  have Hk1 := Lib.hid hk1
  have Hz1 := Lib.hid hz1
  clear hr1 hk1 hz1 hr hz
  go_enter_defers Try.func143, Try.ntmps143
  go_wp2_with (first
    | (go_at_call 157; refine (lock_free ⟨g, 4, none⟩ _ c4 f4).mono ?_; rintro e w' ⟨rfl, rfl⟩)
    | (go_at_call 142; go_in)
    | (go_at_call 117; refine (fill_any lo hi g a b _ _ _ z0 z1 z2 z3 A cap zs _ Hr1.out Hz1.out hB hn hpos).mono ?_; rintro e w2 ⟨rfl, hk2, hr2⟩))
  have hk02 := Hk1.out.trans hk2
  -- the door: two deferred calls, the last laid first
  refine leaves_cons (f := 159) (args := #[.pointer (some ⟨g, 3, none⟩), .bool true]) (by simp) (by simp [go_sem]) ?_
  refine (store_deferred ⟨g, 3, none⟩ (.int .u32 0) .returning _ (hr2.cell 3) (hr2.frozen 3)).mono ?_
  rintro e u' w'' ⟨rfl, rfl, rfl⟩
  have hr3 : Row (w2.drew.setCell ⟨g, 3, none⟩ (.int .u32 1)) g 141 ([a, b, .slice A zs.length cap, .int .u32 1, .int .i32 1, y5] ++ tabOf zs) := (Row.drew hr2).set_ 3 (.int .u32 1)
  have hk3 := (hk02.drew).setCell (p := ⟨g, 3, none⟩) (fun h => h rfl) (.int .u32 1)
  refine leaves_cons (f := 158) (args := #[.pointer (some ⟨g, 4, none⟩)]) (by simp [settle]) (by simp [go_sem]) ?_
  refine (unlock_deferred ⟨g, 4, none⟩ _ _ (hr3.cell 4) (hr3.frozen 4)).mono ?_
  rintro e u' w'' ⟨rfl, rfl, rfl⟩
  have hr4 : Row ((w2.drew.setCell ⟨g, 3, none⟩ (.int .u32 1)).setCell ⟨g, 4, none⟩ (.int .i32 0)) g 141 ([a, b, .slice A zs.length cap, .int .u32 1, .int .i32 0, y5] ++ tabOf zs) := hr3.set_ 4 (.int .i32 0)
  have hk4 := hk3.setCell (p := ⟨g, 4, none⟩) (fun h => h rfl) (.int .i32 0)
  generalize (w2.drew.setCell ⟨g, 3, none⟩ (.int .u32 1)).setCell ⟨g, 4, none⟩ (.int .i32 0) = w4 at hr4 hk4 ⊢
  exact ⟨.tuple #[], by simp [results, Try.results143], rfl, hk4, hr4⟩

set_option maxRecDepth 100000 in
set_option maxHeartbeats 2000000 in
theorem do_first (lo hi g : Nat) (a b y5 z0 z1 z2 z3 : Value) (A : Option Addr) (cap : Nat) (zs : List Int) (w : World) (hr : Row w g 141 [a, b, .slice A zs.length cap, .int .u32 0, .int .i32 0, y5, z0, z1, z2, z3])
    (hz : IntsAt w lo hi (.slice A zs.length cap) zs) (hB : hi ≤ g) (hn : zs.length ≤ 4) (hpos : 0 < zs.length) :
    Calls Try.prog 116 #[.pointer (some ⟨g, 3, none⟩), .func (.func 117) #[.pointer (some ⟨g, 0, none⟩)] #[]] w fun e w' => e = .returned (.tuple #[]) ∧ Kept (· ≠ g) w w' ∧
      Row w' g 141 ([a, b, .slice A zs.length cap, .int .u32 1, .int .i32 0, y5] ++ tabOf zs) := by
  have hl := run_call_load (P := Try.prog) Try.func156 (by kernel_rfl) (by kernel_rfl) (by kernel_rfl) .u32 (by kernel_rfl) (w := w) (a := ⟨g, 3, none⟩) (x := 0) (hr.cell 3)
  have hnot : ∀ (x : Bool) (w : World), (Op.unary .not (.bool x)).run Try.prog w = .ok (.bool (!x)) w := fun _ _ => rfl
  have Hr := Lib.hid hr
  have Hz := Lib.hid hz
  clear hr hz
  go_enter Try.func116, Try.ntmps116
  go_wp2_with (first
    | (go_at_call 143; refine (slow_any lo hi g a b y5 z0 z1 z2 z3 A cap zs _ Hr.out Hz.out hB hn hpos).mono ?_; rintro e w' ⟨rfl, hk, hr2⟩)
    | (go_at_call 142; go_in))
  go_end0
  exact ⟨rfl, hk, hr2⟩

set_option maxRecDepth 100000 in
set_option maxHeartbeats 1000000 in
/-- Done already: the function is not called. -/
theorem do_done (a : Addr) (fv : Value) (w : World) (h0 : w.cell? a = some (.int .u32 1)) :
    Calls Try.prog 116 #[.pointer (some a), fv] w fun e w' => e = .returned (.tuple #[]) ∧ w = w' := by
  have hl := run_call_load (P := Try.prog) Try.func156 (by kernel_rfl) (by kernel_rfl) (by kernel_rfl) .u32 (by kernel_rfl) h0
  have hnot : ∀ (x : Bool) (w : World), (Op.unary .not (.bool x)).run Try.prog w = .ok (.bool (!x)) w := fun _ _ => rfl
  go_enter Try.func116, Try.ntmps116
  go_wp2_with (go_at_call 142; go_in)
  go_end0
  exact ⟨rfl, rfl⟩

/-- What the table gives for a value. -/
def lookOf (zs : List Int) (v : Int) : Int := if 0 ≤ v ∧ v < zs.length then zs.getD v.toNat 0 else -1
theorem tabOf_get (zs : List Int) (hn : zs.length ≤ 4) (v : Int) (h0 : 0 ≤ v) (h4 : v < 4) : (tabOf zs)[v.toNat]? = some (.int .i64 (lookOf zs v)) := by
  unfold tabOf lookOf
  by_cases h : v < zs.length
  · rw [List.getElem?_append_left (by simp; omega), List.getElem?_map, List.getElem?_eq_getElem (by omega), if_pos ⟨h0, h⟩, List.getD_eq_getElem?_getD, List.getElem?_eq_getElem (by omega)]
    rfl
  · rw [List.getElem?_append_right (by simp; omega), if_neg (fun hh => h hh.2), List.length_map, List.getElem?_replicate, if_pos (by omega)]
theorem lookOf_out (zs : List Int) (hn : zs.length ≤ 4) (v : Int) (h : ¬ (0 ≤ v ∧ v < 4)) : lookOf zs v = -1 := by
  unfold lookOf
  rw [if_neg (fun hh => h ⟨hh.1, by omega⟩)]

set_option maxRecDepth 100000 in
set_option maxHeartbeats 2000000 in
/-- The first look. -/
theorem of_first (lo hi g : Nat) (a b y5 z0 z1 z2 z3 : Value) (A : Option Addr) (cap : Nat) (zs : List Int) (v : Int) (w : World) (hr : Row w g 141 [a, b, .slice A zs.length cap, .int .u32 0, .int .i32 0, y5, z0, z1, z2, z3])
    (hz : IntsAt w lo hi (.slice A zs.length cap) zs) (hB : hi ≤ g) (hn : zs.length ≤ 4) (hpos : 0 < zs.length) :
    Calls Try.prog 64 #[.pointer (some ⟨g, 0, none⟩), .int .i64 v] w fun e w' => e = .returned (.int .i64 (lookOf zs v)) ∧ Kept (· ≠ g) w w' ∧
      Row w' g 141 ([a, b, .slice A zs.length cap, .int .u32 1, .int .i32 0, y5] ++ tabOf zs) := by
  have hmf : ∀ (fn : Fn) (first cap : Array Value) (w : World), (Instr.makeFunc fn first cap).run Try.prog w = .ok (.func fn first cap) w := fun _ _ _ _ => rfl
  have c0 : w.cell? ⟨g, 0, none⟩ = some a := hr.cell 0
  have Hr := Lib.hid hr
  have Hz := Lib.hid hz
  clear hr hz
  go_enter Try.func64, Try.ntmps64
  go_wp2_with fail
  refine (do_first lo hi g a b y5 z0 z1 z2 z3 A cap zs _ Hr.out Hz.out hB hn hpos).mono ?_
  rintro e w1 ⟨rfl, hk, hr2⟩
  have Hk := Lib.hid hk
  have Hr2 := Lib.hid hr2
  by_cases hv : 0 ≤ v ∧ v < 4
  · have hix := ixB_yes hv.1 hv.2
    have hcell : w1.cell? ⟨g, 6 + v.toNat, none⟩ = some (.int .i64 (lookOf zs v)) := by
      rw [hr2.cell, List.getElem?_append_right (by simp), List.length_cons, List.length_cons, List.length_cons, List.length_cons, List.length_cons, List.length_cons, List.length_nil]
      rw [show 6 + v.toNat - (0 + 1 + 1 + 1 + 1 + 1 + 1) = v.toNat from by omega]
      exact tabOf_get zs hn v hv.1 hv.2
    have hv0 := hv.1
    have hv1 := hv.2
    clear hk hr2 c0 hv
    go_wp2_with (go_at_call 67; refine (isIndex_any _ _ _).mono ?_; rintro e w' ⟨rfl, rfl⟩; rw [hix])
    go_ret
    exact ⟨rfl, Hk.out, Hr2.out⟩
  · have hix := ixB_no hv
    have hout := Lib.hid (lookOf_out zs hn v hv)
    clear hk hr2 c0 hv
    go_wp2_with (go_at_call 67; refine (isIndex_any _ _ _).mono ?_; rintro e w' ⟨rfl, rfl⟩; rw [hix])
    go_ret
    exact ⟨ret_int hout.out.symm, Hk.out, Hr2.out⟩
end Go.Proofs.Ytbblhjdcpmahkaa

namespace Go.Proofs.Ytbblhjdcpmahkaa
open Go.RowKit

/-- A world of a class. -/
structure InC (D : World → Prop) where
  val : World
  inD : D val
/-- A region that draws its order, every operation of which yields one value in every world of a class and leaves a world of the class: one walk serves every order. -/
theorem wp_region_class {P : Program} (D : World → Prop) {id : Nat} {Q : Exit → Act → World → Prop} {a : Act} {w : World} {l : List Oper} (hm : P.follows .mixedOrders = true) (hB : Region.lexB .any l.toArray = true) (hD : D w.drew)
    (h : wpQuiet P l.toArray (fun w' => ∃ x : InC D, w' = x.val) (fun a' => ∀ w', (∃ x : InC D, w' = x.val) → Q .normal a' w') l a) : (Code.region id l.toArray true).wp P Q a w :=
  wp_region_quiet (C := fun w' => ∃ x : InC D, w' = x.val) hm hB ⟨⟨_, hD⟩, rfl⟩ (by simpa using h)

theorem lookOf_in {zs : List Int} {v : Int} (h0 : 0 ≤ v) (h : v.toNat < zs.length) : lookOf zs v = zs[v.toNat] := by
  unfold lookOf
  rw [if_pos ⟨h0, by omega⟩, List.getD_eq_getElem?_getD, List.getElem?_eq_getElem h]; rfl

/-- Are the types valid, and is there such a coercion? -/
def hasC (t : Ty) (i : Int) : Bool := tyOk t && ixB i t.cos.length
theorem hasC_of {t : Ty} {i : Int} (h : hasC t i = true) : tyOk t = true ∧ 0 ≤ i ∧ i < t.cos.length ∧ i.toNat < t.cos.length := by
  simp only [hasC, Bool.and_eq_true, ixB, decide_eq_true_eq] at h
  exact ⟨h.1, h.2.1, h.2.2, by omega⟩
theorem hasC_co {t : Ty} {i : Int} (h : hasC t i = true) (hi : i.toNat < t.cos.length) : coOk t.sizes t.cos[i.toNat] = true := by
  have h1 := (hasC_of h).1
  simp only [tyOk, Bool.and_eq_true, List.all_eq_true] at h1
  exact h1.2 _ (List.getElem_mem hi)
/-- What a coercion makes of a value. -/
def applyV (t : Ty) (i v : Int) : Int := if hasC t i = true then lookOf (t.cos.getD i.toNat default).map v else -1
theorem applyV_no {t : Ty} {i v : Int} (h : hasC t i = false) : applyV t i v = -1 := by unfold applyV; rw [h]; rfl
theorem applyV_yes {t : Ty} {i v : Int} (h : hasC t i = true) (hi : i.toNat < t.cos.length) : applyV t i v = lookOf t.cos[i.toNat].map v := by
  unfold applyV; rw [if_pos h, List.getD_eq_getElem?_getD, List.getElem?_eq_getElem hi]; rfl

set_option maxRecDepth 100000 in
set_option maxHeartbeats 1000000 in
theorem images_any (a b c : Value) (w : World) :
    Calls Try.prog 63 #[.agg #[a, b, c]] w fun e w' => e = .returned (.pointer (some ⟨w.heap.size + 1, 0, none⟩)) ∧
      (w.alloc (.cells #[a, b, c] 32)).alloc (.cells [a, b, c, .int .u32 0, .int .i32 0, .int .u32 0, .int .i64 0, .int .i64 0, .int .i64 0, .int .i64 0].toArray 141) = w' := by
  go_enter Try.func63, Try.ntmps63
  go_wp2
  go_ret
  exact ⟨rfl, rfl⟩

set_option maxRecDepth 100000 in
set_option maxHeartbeats 1000000 in
theorem hasCoercion_any (lo hi : Nat) (sv cv : Value) (t : Ty) (i : Int) (w : World) (hv : TyAt w lo hi sv cv t) (hB : hi ≤ w.heap.size) :
    Calls Try.prog 62 #[.agg #[sv, cv], .int .i64 i] w fun e w' => e = .returned (.bool (hasC t i)) ∧ Below w.heap.size w w' := by
  obtain ⟨A, cap, rfl, hl1, hm1, _⟩ := hv.1.form
  obtain ⟨B, bap, rfl, hl2, hm2, _⟩ := hv.2.form
  unfold maxLen at hm2
  have h3 : Below w.heap.size w (w.alloc (.cells #[.slice A t.sizes.length cap, .slice B t.cos.length bap] 26)) := by go_grown
  have hv3 := Lib.hid (hv.below h3 hB)
  clear hv
  go_enter Try.func62, Try.ntmps62
  go_wp2_with fail
  refine (implValid_any lo hi _ _ t _ hv3.out (by simp; omega)).mono ?_
  rintro e w1 ⟨rfl, hb1⟩
  have H1 := Lib.hid (box2 (hb1.mono (by simp)))
  obtain ⟨q0, q1, hl, _⟩ := box2 (hb1.mono (by simp))
  clear hb1
  by_cases hok : tyOk t = true
  · have hfin : Hid (hasC t i = ixB i t.cos.length) := by show hasC t i = _; unfold hasC; rw [hok, Bool.true_and]
    rw [hok]
    go_wp2_with (go_at_call 67; refine (isIndex_any _ _ _).mono ?_; rintro e w' ⟨rfl, rfl⟩)
    go_ret
    exact ⟨ret_bool (by rw [hfin.out]), H1.out.2.2.2⟩
  · have hokf : tyOk t = false := by simpa using hok
    have hfin : Hid (hasC t i = false) := by show hasC t i = _; unfold hasC; rw [hokf, Bool.false_and]
    rw [hokf]
    clear hok
    go_wp2
    go_ret
    exact ⟨ret_bool hfin.out.symm, H1.out.2.2.2⟩

set_option maxRecDepth 100000 in
set_option maxHeartbeats 2000000 in
theorem implApply_any (lo hi : Nat) (sv cv : Value) (t : Ty) (i v : Int) (w : World) (hv : TyAt w lo hi sv cv t) (hB : hi ≤ w.heap.size) :
    Calls Try.prog 13 #[.agg #[sv, cv], .int .i64 i, .int .i64 v] w fun e w' => e = .returned (.int .i64 (applyV t i v)) ∧ Below w.heap.size w w' := by
  obtain ⟨A, cap, rfl, hl1, hm1, _⟩ := hv.1.form
  obtain ⟨B, bap, rfl, hl2, hm2, hc1⟩ := hv.2.form
  have h3 : Below w.heap.size w (w.alloc (.cells #[.slice A t.sizes.length cap, .slice B t.cos.length bap] 26)) := by go_grown
  have hv3 := Lib.hid (hv.below h3 hB)
  have Hc1 := Lib.hid hc1
  clear hv hc1
  go_enter Try.func13, Try.ntmps13
  go_wp2_with fail
  refine (hasCoercion_any lo hi _ _ t i _ hv3.out (by simp; omega)).mono ?_
  rintro e w1 ⟨rfl, hb1⟩
  have H1 := Lib.hid (box2 (hb1.mono (by simp)))
  obtain ⟨q0, q1, hl, _⟩ := box2 (hb1.mono (by simp))
  clear hb1
  by_cases hok : hasC t i = true
  · obtain ⟨hty, hi0, hi1, hlt⟩ := hasC_of hok
    have hfin := Lib.hid (applyV_yes (v := v) hok hlt)
    have hco := coOk_of (hasC_co hok hlt)
    have hsz := sizesOk_of (tyOk_sizes hty)
    obtain ⟨b, off, A2, cap2, rfl, hlo, hhi, c0, c1, c2, h5, h6, hs, hd, hz⟩ := (Hc1.out.below H1.out.2.2.2 hB).at_ hlt
    have hsrc : t.cos[i.toNat].src.toNat < t.sizes.length := by omega
    have hsr := hsz.2.2 _ hsrc
    have hml := hco.2.2.2.1
    rw [List.getD_eq_getElem?_getD, List.getElem?_eq_getElem hsrc] at hml
    simp only [Option.getD_some] at hml
    have hn4 : t.cos[i.toNat].map.length ≤ 4 := by omega
    have hpos : 0 < t.cos[i.toNat].map.length := by omega
    have Hz := Lib.hid hz
    rw [hok]
    clear hml hsr hsz hco hok hty hz
    go_wp2_with fail
    refine (images_any _ _ _ _).mono ?_
    rintro e w2 ⟨rfl, rfl⟩
    have hb2 : Below w1.heap.size w1 ((w1.alloc (.cells #[.int .i64 t.cos[i.toNat].src, .int .i64 t.cos[i.toNat].dst, .slice A2 t.cos[i.toNat].map.length cap2] 32)).alloc (.cells [.int .i64 t.cos[i.toNat].src, .int .i64 t.cos[i.toNat].dst, .slice A2 t.cos[i.toNat].map.length cap2, .int .u32 0, .int .i32 0, .int .u32 0, .int .i64 0, .int .i64 0, .int .i64 0, .int .i64 0].toArray 141)) := by go_grown
    have hr2 := Row.new (w1.alloc (.cells #[.int .i64 t.cos[i.toNat].src, .int .i64 t.cos[i.toNat].dst, .slice A2 t.cos[i.toNat].map.length cap2] 32)) 141 [.int .i64 t.cos[i.toNat].src, .int .i64 t.cos[i.toNat].dst, .slice A2 t.cos[i.toNat].map.length cap2, .int .u32 0, .int .i32 0, .int .u32 0, .int .i64 0, .int .i64 0, .int .i64 0, .int .i64 0]
    rw [World.size_alloc] at hr2
    have hz2 := Hz.out.below hb2 (by omega)
    have Hb2 := Lib.hid hb2
    have Hr2 := Lib.hid hr2
    have Hz2 := Lib.hid hz2
    clear hb2 hr2 hz2
    go_wp2_with fail
    refine (of_first lo hi (w1.heap.size + 1) _ _ _ _ _ _ _ A2 cap2 t.cos[i.toNat].map v _ Hr2.out Hz2.out (by omega) hn4 hpos).mono ?_
    rintro e w3 ⟨rfl, hk3, _⟩
    have hb3 : Below w1.heap.size w1 w3 := Hb2.out.trans (hk3.below (by simp; omega) (fun k hk => by omega))
    have Hb3 := Lib.hid hb3
    clear hk3 hb3
    go_wp2
    go_ret
    exact ⟨ret_int hfin.out.symm, H1.out.2.2.2.trans (Hb3.out.mono (by omega))⟩
  · have hokf : hasC t i = false := by simpa using hok
    have hfin := Lib.hid (applyV_no (v := v) hokf)
    rw [hokf]
    clear hok hokf
    go_wp2
    go_ret
    exact ⟨ret_int hfin.out.symm, H1.out.2.2.2⟩
end Go.Proofs.Ytbblhjdcpmahkaa

