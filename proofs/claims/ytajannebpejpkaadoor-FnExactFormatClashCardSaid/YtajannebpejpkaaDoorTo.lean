/-
  The contracts of the functions that copy an argument into new memory.
-/
import Derived.Test.YtajannebpejpkaaDoorRows
import Derived.Test.YtajannebpejpkaaDoorMem
import Derived.Outline
import Derived.Handy
import Derived.Deep.OwnRows
namespace Go.Proofs.YtajannebpejpkaaDoor
open Go.RowKit

theorem Tryd.infoInt : (Tryd.prog.info? 3).map (fun i => (i.zero, i.size, i.bytes)) = some (some (.int .i64 0), 1, 8) := by kernel_rfl

set_option maxHeartbeats 400000 in
theorem toIntS_any (lo hi : Nat) (v : Value) (zs : List Int) (w : World) (hv : IntsAt w lo hi v zs) (hB : hi ≤ w.heap.size) (hlen : zs.length ≤ 1048576) :
    Calls Tryd.prog 8 #[v] w fun e w' => e = .returned (.slice (some ⟨w.heap.size, 0, none⟩) zs.length zs.length) ∧ Below w.heap.size w w' ∧ w'.heap.size = w.heap.size + 1 ∧ Row w' w.heap.size 3 (zs.map (Value.int .i64)) := by
  obtain ⟨A, cap, rfl, hl, hm, hw, hc⟩ := hv
  unfold maxLen at hm
  have hmk := fun wx => run_make_row' (P := Tryd.prog) 22 3 (.int .i64 0) 8 Tryd.underlying22 Tryd.infoInt rfl .i64 .i64 zs.length (by omega) (by omega) wx
  rw [madeCells_one] at hmk
  have hc' := Lib.hid hc
  clear hc
  go_enter Tryd.func8, Tryd.ntmps8
  go_wp2
  go_loopw [4] (fun i wr => ∃ k : Nat, k ≤ zs.length ∧ i = .int .i64 k ∧ Below w.heap.size w wr ∧ wr.heap.size = w.heap.size + 1 ∧ Row wr w.heap.size 3 ((zs.take k).map (Value.int .i64) ++ List.replicate (zs.length - k) (.int .i64 0))) (fun i _ => zs.length - (intOf i).toNat)
  case atStart => exact ⟨0, Nat.zero_le _, rfl, (Below.refl _ _).alloc (Nat.le_refl _) _, by simp, by rw [fill_zero]; exact Row.new _ _ _⟩
  case round =>
    obtain ⟨k, hk, rfl, hb, hsz, hrow⟩ := hrel
    by_cases hlt : k < zs.length
    · obtain ⟨b, off, rfl, hlo, hhi, hcell⟩ := hc'.out (by omega)
      have c0 := (hb.cell (p := ⟨b, off + k, none⟩) (by simp; omega)).trans (hcell k hlt)
      have c1 := hrow.cell_some (i := k) (by rw [fill_len _ _ _ _ hk]; exact hlt)
      have f1 := hrow.frozen k
      have hset := hrow.set_ k (.int .i64 zs[k])
      rw [fill_step _ _ _ _ hlt] at hset
      generalize ((zs.take k).map (Value.int .i64) ++ List.replicate (zs.length - k) (.int .i64 0))[k]'(by rw [fill_len _ _ _ _ hk]; exact hlt) = u at c1
      have H := Lib.hid hset
      clear hset hrow hcell hc'
      go_wp2
      go_roundw
      case rel => exact ⟨k + 1, by omega, by go_num, hb.setCell (Nat.le_refl _) _, by simpa [World.setCell] using hsz, H.out⟩
      case measure => simp [intOf]; omega
    · obtain rfl : k = zs.length := by omega
      rw [fill_all] at hrow
      have H := Lib.hid hrow
      clear hrow hc'
      go_wp2
      go_ret
      exact ⟨rfl, hb, hsz, H.out⟩

theorem run_make_rows {P : Program} (t e : TypeId) (i : TypeInfo) (z : Value) (ht : P.underlying t = some (.slice e)) (hi : P.info? e = some i) (hz : i.zero = some z)
    (kl kc : IntKind) (n : Nat) (hbytes : i.bytes * n ≤ 281474976710656) (h63 : n ≤ 9223372036854775807) (w : World) :
    (Instr.makeSlice t (.int kl (n : Int)) (.int kc (n : Int))).run P w = .ok (.slice (some ⟨w.heap.size, 0, none⟩) n n) (w.alloc (.cells (madeCells z.cells (n * i.size)) e)) := by
  have hb : (i.bytes : Int) * (n : Int) ≤ 281474976710656 := by
    have h : ((i.bytes * n : Nat) : Int) ≤ 281474976710656 := by omega
    rwa [Int.natCast_mul] at h
  have hr := run_make (P := P) w t e i z ht hi hz kl kc n n (by omega) (by omega) hb (by omega)
  simp only [Int.toNat_natCast] at hr
  exact hr

end Go.Proofs.YtajannebpejpkaaDoor
