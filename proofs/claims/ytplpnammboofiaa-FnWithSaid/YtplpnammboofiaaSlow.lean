/-
  sync.Once's Do, not done yet, the lock free, over the table of a coercion; and the look-up in the table.
-/
import Derived.Test.YtplpnammboofiaaFill
import Derived.Test.YtplpnammboofiaaIv
namespace Go.Proofs.Ytplpnammboofiaa
open Go.RowKit

set_option maxRecDepth 100000 in
set_option maxHeartbeats 2000000 in
theorem slow_any (lo hi g : Nat) (a b y5 z0 z1 z2 z3 : Value) (A : Option Addr) (cap : Nat) (zs : List Int) (w : World) (hr : Row w g 115 [a, b, .slice A zs.length cap, .int .u32 0, .int .i32 0, y5, z0, z1, z2, z3])
    (hz : IntsAt w lo hi (.slice A zs.length cap) zs) (hB : hi ≤ g) (hn : zs.length ≤ 4) (hpos : 0 < zs.length) :
    Calls Try.prog 90 #[.pointer (some ⟨g, 3, none⟩), .func (.func 87) #[.pointer (some ⟨g, 0, none⟩)] #[]] w fun e w' => e = .returned (.tuple #[]) ∧ Kept (· ≠ g) w w' ∧
      Row w' g 115 ([a, b, .slice A zs.length cap, .int .u32 1, .int .i32 0, y5] ++ tabOf zs) := by
  have hr1 : Row (w.setCell ⟨g, 4, none⟩ (.int .i32 1)) g 115 [a, b, .slice A zs.length cap, .int .u32 0, .int .i32 1, y5, z0, z1, z2, z3] := hr.set_ 4 (.int .i32 1)
  have hk1 : Kept (· ≠ g) w (w.setCell ⟨g, 4, none⟩ (.int .i32 1)) := (Kept.refl _ w).setCell (fun h => h rfl) _
  have hz1 : IntsAt (w.setCell ⟨g, 4, none⟩ (.int .i32 1)) lo hi (.slice A zs.length cap) zs := hz.keep fun k _ hkk => hk1.block k (by have := hr.lt; omega) (by omega)
  have hl := run_call_load (P := Try.prog) Try.func91 (by kernel_rfl) (by kernel_rfl) (by kernel_rfl) .u32 (by kernel_rfl) (w := w.setCell ⟨g, 4, none⟩ (.int .i32 1)) (a := ⟨g, 3, none⟩) (x := 0) (hr1.cell 3)
  have hnot : ∀ (x : Bool) (w : World), (Op.unary .not (.bool x)).run Try.prog w = .ok (.bool (!x)) w := fun _ _ => rfl
  have c4 : w.cell? ⟨g, 4, none⟩ = some (.int .i32 0) := hr.cell 4
  have f4 := hr.frozen 4
  have Hr1 := Lib.hid hr1
  have Hk1 := Lib.hid hk1
  have Hz1 := Lib.hid hz1
  clear hr1 hk1 hz1 hr hz
  go_enter_defers Try.func90, Try.ntmps90
  go_wp2_with (first
    | (go_at_call 92; refine (lock_free ⟨g, 4, none⟩ _ c4 f4).mono ?_; rintro e w' ⟨rfl, rfl⟩)
    | (go_at_call 89; go_in)
    | (go_at_call 87; refine (fill_any lo hi g a b _ _ _ z0 z1 z2 z3 A cap zs _ Hr1.out Hz1.out hB hn hpos).mono ?_; rintro e w2 ⟨rfl, hk2, hr2⟩))
  have hk02 := Hk1.out.trans hk2
  -- the door: two deferred calls, the last laid first
  refine leaves_cons (f := 94) (args := #[.pointer (some ⟨g, 3, none⟩), .bool true]) (by simp) (by simp [go_sem]) ?_
  refine (store_deferred ⟨g, 3, none⟩ (.int .u32 0) .returning _ (hr2.cell 3) (hr2.frozen 3)).mono ?_
  rintro e u' w'' ⟨rfl, rfl, rfl⟩
  have hr3 : Row (w2.drew.setCell ⟨g, 3, none⟩ (.int .u32 1)) g 115 ([a, b, .slice A zs.length cap, .int .u32 1, .int .i32 1, y5] ++ tabOf zs) := (Row.drew hr2).set_ 3 (.int .u32 1)
  have hk3 := (hk02.drew).setCell (p := ⟨g, 3, none⟩) (fun h => h rfl) (.int .u32 1)
  refine leaves_cons (f := 93) (args := #[.pointer (some ⟨g, 4, none⟩)]) (by simp [settle]) (by simp [go_sem]) ?_
  refine (unlock_deferred ⟨g, 4, none⟩ _ _ (hr3.cell 4) (hr3.frozen 4)).mono ?_
  rintro e u' w'' ⟨rfl, rfl, rfl⟩
  have hr4 : Row ((w2.drew.setCell ⟨g, 3, none⟩ (.int .u32 1)).setCell ⟨g, 4, none⟩ (.int .i32 0)) g 115 ([a, b, .slice A zs.length cap, .int .u32 1, .int .i32 0, y5] ++ tabOf zs) := hr3.set_ 4 (.int .i32 0)
  have hk4 := hk3.setCell (p := ⟨g, 4, none⟩) (fun h => h rfl) (.int .i32 0)
  generalize (w2.drew.setCell ⟨g, 3, none⟩ (.int .u32 1)).setCell ⟨g, 4, none⟩ (.int .i32 0) = w4 at hr4 hk4 ⊢
  exact ⟨.tuple #[], by simp [results, Try.results90], rfl, hk4, hr4⟩

set_option maxRecDepth 100000 in
set_option maxHeartbeats 2000000 in
theorem do_first (lo hi g : Nat) (a b y5 z0 z1 z2 z3 : Value) (A : Option Addr) (cap : Nat) (zs : List Int) (w : World) (hr : Row w g 115 [a, b, .slice A zs.length cap, .int .u32 0, .int .i32 0, y5, z0, z1, z2, z3])
    (hz : IntsAt w lo hi (.slice A zs.length cap) zs) (hB : hi ≤ g) (hn : zs.length ≤ 4) (hpos : 0 < zs.length) :
    Calls Try.prog 86 #[.pointer (some ⟨g, 3, none⟩), .func (.func 87) #[.pointer (some ⟨g, 0, none⟩)] #[]] w fun e w' => e = .returned (.tuple #[]) ∧ Kept (· ≠ g) w w' ∧
      Row w' g 115 ([a, b, .slice A zs.length cap, .int .u32 1, .int .i32 0, y5] ++ tabOf zs) := by
  have hl := run_call_load (P := Try.prog) Try.func91 (by kernel_rfl) (by kernel_rfl) (by kernel_rfl) .u32 (by kernel_rfl) (w := w) (a := ⟨g, 3, none⟩) (x := 0) (hr.cell 3)
  have hnot : ∀ (x : Bool) (w : World), (Op.unary .not (.bool x)).run Try.prog w = .ok (.bool (!x)) w := fun _ _ => rfl
  have Hr := Lib.hid hr
  have Hz := Lib.hid hz
  clear hr hz
  go_enter Try.func86, Try.ntmps86
  go_wp2_with (first
    | (go_at_call 90; refine (slow_any lo hi g a b y5 z0 z1 z2 z3 A cap zs _ Hr.out Hz.out hB hn hpos).mono ?_; rintro e w' ⟨rfl, hk, hr2⟩)
    | (go_at_call 89; go_in))
  go_end0
  exact ⟨rfl, hk, hr2⟩

set_option maxRecDepth 100000 in
set_option maxHeartbeats 1000000 in
/-- Done already: the function is not called. -/
theorem do_done (a : Addr) (fv : Value) (w : World) (h0 : w.cell? a = some (.int .u32 1)) :
    Calls Try.prog 86 #[.pointer (some a), fv] w fun e w' => e = .returned (.tuple #[]) ∧ w = w' := by
  have hl := run_call_load (P := Try.prog) Try.func91 (by kernel_rfl) (by kernel_rfl) (by kernel_rfl) .u32 (by kernel_rfl) h0
  have hnot : ∀ (x : Bool) (w : World), (Op.unary .not (.bool x)).run Try.prog w = .ok (.bool (!x)) w := fun _ _ => rfl
  go_enter Try.func86, Try.ntmps86
  go_wp2_with (go_at_call 89; go_in)
  go_end0
  exact ⟨rfl, rfl⟩

/-- What the table gives for a value. -/
def lookOf (zs : List Int) (v : Int) : Int := if 0 ≤ v ∧ v < zs.length then zs.getD v.toNat 0 else -1
theorem tabOf_get (zs : List Int) (hn : zs.length ≤ 4) (v : Int) (h0 : 0 ≤ v) (h4 : v < 4) : (tabOf zs)[v.toNat]? = some (.int .i64 (lookOf zs v)) := by
  unfold tabOf lookOf
  by_cases h : v < zs.length
  · rw [List.getElem?_append_left (by simp; omega), List.getElem?_map, List.getElem?_eq_getElem (by omega), if_pos ⟨h0, h⟩, List.getD_eq_getElem?_getD, List.getElem?_eq_getElem (by omega)]
    rfl
  · rw [List.getElem?_append_right (by simp; omega), if_neg (fun hh => h hh.2), List.length_map, List.getElem?_replicate, if_pos (by omega)]
theorem lookOf_out (zs : List Int) (hn : zs.length ≤ 4) (v : Int) (h : ¬ (0 ≤ v ∧ v < 4)) : lookOf zs v = -1 := by
  unfold lookOf
  rw [if_neg (fun hh => h ⟨hh.1, by omega⟩)]

set_option maxRecDepth 100000 in
set_option maxHeartbeats 2000000 in
/-- The first look. -/
theorem of_first (lo hi g : Nat) (a b y5 z0 z1 z2 z3 : Value) (A : Option Addr) (cap : Nat) (zs : List Int) (v : Int) (w : World) (hr : Row w g 115 [a, b, .slice A zs.length cap, .int .u32 0, .int .i32 0, y5, z0, z1, z2, z3])
    (hz : IntsAt w lo hi (.slice A zs.length cap) zs) (hB : hi ≤ g) (hn : zs.length ≤ 4) (hpos : 0 < zs.length) :
    Calls Try.prog 68 #[.pointer (some ⟨g, 0, none⟩), .int .i64 v] w fun e w' => e = .returned (.int .i64 (lookOf zs v)) ∧ Kept (· ≠ g) w w' ∧
      Row w' g 115 ([a, b, .slice A zs.length cap, .int .u32 1, .int .i32 0, y5] ++ tabOf zs) := by
  have hmf : ∀ (fn : Fn) (first cap : Array Value) (w : World), (Instr.makeFunc fn first cap).run Try.prog w = .ok (.func fn first cap) w := fun _ _ _ _ => rfl
  have c0 : w.cell? ⟨g, 0, none⟩ = some a := hr.cell 0
  have Hr := Lib.hid hr
  have Hz := Lib.hid hz
  clear hr hz
  go_enter Try.func68, Try.ntmps68
  go_wp2_with fail
  refine (do_first lo hi g a b y5 z0 z1 z2 z3 A cap zs _ Hr.out Hz.out hB hn hpos).mono ?_
  rintro e w1 ⟨rfl, hk, hr2⟩
  have Hk := Lib.hid hk
  have Hr2 := Lib.hid hr2
  by_cases hv : 0 ≤ v ∧ v < 4
  · have hix := ixB_yes hv.1 hv.2
    have hcell : w1.cell? ⟨g, 6 + v.toNat, none⟩ = some (.int .i64 (lookOf zs v)) := by
      rw [hr2.cell, List.getElem?_append_right (by simp), List.length_cons, List.length_cons, List.length_cons, List.length_cons, List.length_cons, List.length_cons, List.length_nil]
      rw [show 6 + v.toNat - (0 + 1 + 1 + 1 + 1 + 1 + 1) = v.toNat from by omega]
      exact tabOf_get zs hn v hv.1 hv.2
    have hv0 := hv.1
    have hv1 := hv.2
    clear hk hr2 c0 hv
    go_wp2_with (go_at_call 61; refine (isIndex_any _ _ _).mono ?_; rintro e w' ⟨rfl, rfl⟩; rw [hix])
    go_ret
    exact ⟨rfl, Hk.out, Hr2.out⟩
  · have hix := ixB_no hv
    have hout := Lib.hid (lookOf_out zs hn v hv)
    clear hk hr2 c0 hv
    go_wp2_with (go_at_call 61; refine (isIndex_any _ _ _).mono ?_; rintro e w' ⟨rfl, rfl⟩; rw [hix])
    go_ret
    exact ⟨ret_int hout.out.symm, Hk.out, Hr2.out⟩
end Go.Proofs.Ytplpnammboofiaa
