/-
  The table that a coercion makes once: filled by the function that is handed to the Once.
-/
import Derived.Test.YtplpnammboofiaaOnce
import Derived.Outline
import Derived.Handy
import Derived.StillTailTactics
import Derived.Laws.CopyOwn
namespace Go.Proofs.Ytplpnammboofiaa
open Go.RowKit

/-- What the table holds. -/
def tabOf (zs : List Int) : List Value := zs.map (Value.int .i64) ++ List.replicate (4 - zs.length) (.int .i64 (-1))

set_option maxRecDepth 100000 in
set_option maxHeartbeats 2000000 in
theorem fill_any (lo hi g : Nat) (a b y3 y4 y5 z0 z1 z2 z3 : Value) (A : Option Addr) (cap : Nat) (zs : List Int) (w : World) (hr : Row w g 115 [a, b, .slice A zs.length cap, y3, y4, y5, z0, z1, z2, z3])
    (hz : IntsAt w lo hi (.slice A zs.length cap) zs) (hB : hi ≤ g) (hn : zs.length ≤ 4) (hpos : 0 < zs.length) :
    Calls Try.prog 87 #[.pointer (some ⟨g, 0, none⟩)] w fun e w' => e = .returned (.tuple #[]) ∧ Kept (· ≠ g) w w' ∧ Row w' g 115 ([a, b, .slice A zs.length cap, y3, y4, y5] ++ tabOf zs) := by
  have c2 : w.cell? ⟨g, 2, none⟩ = some (.slice A zs.length cap) := hr.cell 2
  have c6 : w.cell? ⟨g, 6, none⟩ = some z0 := hr.cell 6
  have c7 : w.cell? ⟨g, 7, none⟩ = some z1 := hr.cell 7
  have c8 : w.cell? ⟨g, 8, none⟩ = some z2 := hr.cell 8
  have c9 : w.cell? ⟨g, 9, none⟩ = some z3 := hr.cell 9
  have f6 := hr.frozen 6
  have f7 := hr.frozen 7
  have f8 := hr.frozen 8
  have f9 := hr.frozen 9
  have Hr := Lib.hid hr
  have Hz := Lib.hid hz
  clear hr hz
  go_enter Try.func87, Try.ntmps87
  go_wp2
  refine wp_loop_rounds 5 ?_
  rw [rounds_succ]; go_wp2
  rw [rounds_succ]; go_wp2
  rw [rounds_succ]; go_wp2
  rw [rounds_succ]; go_wp2
  rw [rounds_succ]; go_wp2
  obtain ⟨W, hW⟩ : ∃ W : World, W = ((((w.setCell ⟨g, 6, none⟩ (.int .i64 (-1))).setCell ⟨g, 7, none⟩ (.int .i64 (-1))).setCell ⟨g, 8, none⟩ (.int .i64 (-1))).setCell ⟨g, 9, none⟩ (.int .i64 (-1))) := ⟨_, rfl⟩
  have hk : Kept (· ≠ g) w W := by
    rw [hW]
    exact ((((Kept.refl _ w).setCell (fun h => h rfl) _).setCell (fun h => h rfl) _).setCell (fun h => h rfl) _).setCell (fun h => h rfl) _
  have hrW : Row W g 115 [a, b, .slice A zs.length cap, y3, y4, y5, .int .i64 (-1), .int .i64 (-1), .int .i64 (-1), .int .i64 (-1)] := by
    rw [hW]
    exact (((Hr.out.set_ 6 (.int .i64 (-1))).set_ 7 (.int .i64 (-1))).set_ 8 (.int .i64 (-1))).set_ 9 (.int .i64 (-1))
  rw [← hW]
  clear hW
  have hzW : IntsAt W lo hi (.slice A zs.length cap) zs := Hz.out.keep fun k _ hkk => hk.block k (by have := Hr.out.lt; omega) (by omega)
  have c2 : W.cell? ⟨g, 2, none⟩ = some (.slice A zs.length cap) := hrW.cell 2
  obtain ⟨A2, cap2, e, _, _, _, hcells⟩ := hzW
  injection e with e1 e2 e3
  subst e1 e3
  obtain ⟨b3, off3, rfl, _, _, hc⟩ := hcells hpos
  have hcp := run_copy_row (P := Try.prog) W.drew 23 23 3 3 g 6 4 4 ⟨b3, off3, none⟩ zs.length cap [a, b, Value.slice (some ⟨b3, off3, none⟩) zs.length cap, y3, y4, y5, .int .i64 (-1), .int .i64 (-1), .int .i64 (-1), .int .i64 (-1)].toArray 115 (zs.map (Value.int .i64))
    Try.underlying23 (by kernel_rfl) hrW (by rw [List.length_map]; exact (Nat.min_eq_left hn).symm) (by
      intro j v hj
      have hjl : j < zs.length := by
        have := (List.getElem?_eq_some_iff.1 hj).1
        simpa using this
      rw [Go.WideShapes.add_plain]
      have := hc j hjl
      rw [List.getElem?_map, List.getElem?_eq_getElem hjl] at hj
      rw [List.getD_eq_getElem?_getD, List.getElem?_eq_getElem hjl] at this
      simp only [Option.map_some, Option.some.injEq] at hj
      subst hj
      exact this) (by simp; omega) (by intro v hv; obtain ⟨z, _, rfl⟩ := List.mem_map.1 hv; rfl)
  have hdrop : [a, b, Value.slice (some ⟨b3, off3, none⟩) zs.length cap, y3, y4, y5, .int .i64 (-1), .int .i64 (-1), .int .i64 (-1), .int .i64 (-1)].drop (6 + zs.length) = List.replicate (4 - zs.length) (.int .i64 (-1)) := by
    have h4 : zs.length = 1 ∨ zs.length = 2 ∨ zs.length = 3 ∨ zs.length = 4 := by omega
    rcases h4 with e | e | e | e <;> simp [e, List.replicate]
  rw [List.length_map] at hcp
  have hlist : ([a, b, Value.slice (some ⟨b3, off3, none⟩) zs.length cap, y3, y4, y5, .int .i64 (-1), .int .i64 (-1), .int .i64 (-1), .int .i64 (-1)].toArray.toList.take 6 ++ zs.map (Value.int .i64) ++ [a, b, Value.slice (some ⟨b3, off3, none⟩) zs.length cap, y3, y4, y5, .int .i64 (-1), .int .i64 (-1), .int .i64 (-1), .int .i64 (-1)].toArray.toList.drop (6 + zs.length)) = [a, b, Value.slice (some ⟨b3, off3, none⟩) zs.length cap, y3, y4, y5] ++ tabOf zs := by
    rw [hdrop]
    unfold tabOf
    simp
  rw [hlist] at hcp
  have hnew := setRow_heap W.drew g _ ([a, b, Value.slice (some ⟨b3, off3, none⟩) zs.length cap, y3, y4, y5] ++ tabOf zs).toArray _ _ hrW
  generalize hWn : W.drew.setRow g ([a, b, Value.slice (some ⟨b3, off3, none⟩) zs.length cap, y3, y4, y5] ++ tabOf zs).toArray = Wn at hcp hnew
  have hkn : Kept (· ≠ g) w Wn := by
    rw [← hWn]
    exact ⟨hk.os, hk.tape, hk.output, by rw [size_setRow]; exact hk.size, fun k hkk hS => (setRow_other _ g k _ hS).trans (hk.block k hkk hS)⟩
  have Hkn := Lib.hid hkn
  have Hnew := Lib.hid hnew
  clear hk hrW hc hcells hkn hnew hWn hdrop hlist
  go_still_tail 9, (by kernel_rfl)
  change wpList _ _ _ _ _ W.drew
  go_wp2
  go_end0
  exact ⟨rfl, Hkn.out, Hnew.out⟩
end Go.Proofs.Ytplpnammboofiaa
