/-
  The contract of the laws' ovTypes where both sides read as the same data.
-/
import Derived.Test.YtplpnammboofiaaOsm
import Derived.Test.YtplpnammboofiaaCopyt
import Derived.Deep.RegionHeld3
namespace Go.Proofs.Ytplpnammboofiaa
open Go.RowKit
attribute [local go_sem] Oper.semAt_some

set_option maxRecDepth 100000 in
set_option maxHeartbeats 1500000 in
theorem ovTypes_same (lo hi lo' hi' : Nat) (s c s' c' : Value) (t : Ty) (w : World) (hv : TyAt w lo hi s c t) (hv' : TyAt w lo' hi' s' c' t) (hB : hi ≤ w.heap.size) (hB' : hi' ≤ w.heap.size) (hbk : t.bulk ≤ 1048576) (hml : ∀ j, ∀ (hj : j < t.cos.length), t.cos[j].map.length ≤ 1048576) :
    Calls Try.prog 10 #[.agg #[s, c], .agg #[s', c']] w fun e w' => e = .returned (.bool true) ∧ Below w.heap.size w w' := by
  have HV := Lib.hid hv
  have HV' := Lib.hid hv'
  obtain ⟨A, cap, rfl, hl1, hm1, _⟩ := hv.1.form
  obtain ⟨B, bap, rfl, hl2, hm2, _⟩ := hv.2.form
  obtain ⟨A', cap', rfl, hl1', hm1', _⟩ := hv'.1.form
  obtain ⟨B', bap', rfl, hl2', hm2', _⟩ := hv'.2.form
  have hb' := hbk
  unfold Ty.bulk at hb'
  obtain ⟨W1, hW1⟩ : ∃ u, u = (w.alloc (.cells #[.slice A t.sizes.length cap, .slice B t.cos.length bap] 26)).alloc (.cells #[.slice A' t.sizes.length cap', .slice B' t.cos.length bap'] 26) := ⟨_, rfl⟩
  have hb1 : Below w.heap.size w W1 := by rw [hW1]; exact ((Below.refl _ _).alloc (Nat.le_refl _) _).alloc (by simp) _
  have hs1 : w.heap.size + 2 ≤ W1.heap.size := by rw [hW1]; simp
  have hr1 : Row W1 w.heap.size 26 [.slice A t.sizes.length cap, .slice B t.cos.length bap] := by rw [hW1]; exact (Row.new w 26 _).alloc _
  have hr2 : Row W1 (w.heap.size + 1) 26 [.slice A' t.sizes.length cap', .slice B' t.cos.length bap'] := by
    rw [hW1]
    have h := Row.new (w.alloc (.cells #[.slice A t.sizes.length cap, .slice B t.cos.length bap] 26)) 26 [.slice A' t.sizes.length cap', .slice B' t.cos.length bap']
    rwa [World.size_alloc] at h
  have HB1 := Lib.hid hb1
  have HR1 := Lib.hid hr1
  have HR2 := Lib.hid hr2
  have hmm : min ((t.cos.length : Nat) : Int) ((t.cos.length : Nat) : Int) = ((t.cos.length : Nat) : Int) := by omega
  have hn2 : t.cos.length ≤ 1048576 := by omega
  have hn1 : t.sizes.length ≤ 1048576 := by omega
  clear hv hv' hb1 hr1 hr2 hb'
  go_enter Try.func10, Try.ntmps10
  go_wp2
  rw [← hW1]
  clear hW1
  go_loopw [5, 13] (fun _ i wr => ∃ k : Nat, k ≤ t.cos.length ∧ i = .int .i64 k ∧ Hid (Below W1.heap.size W1 wr)) (fun _ i _ => t.cos.length - (intOf i).toNat)
  case atStart => exact ⟨0, Nat.zero_le _, rfl, Lib.hid (Below.refl _ _)⟩
  case round =>
    obtain ⟨k, hk, rfl, hb⟩ := hrel
    have hn20 : t.cos.length ≤ 1048576 := by omega
    have hwJ : IntKind.i64.wrap ((k : Int) + 1) = (k : Int) + 1 := by rw [IntKind.wrap_i64]; omega
    have q1 := HR1.out.below hb.out (by omega)
    have q2 := HR2.out.below hb.out (by omega)
    have a0 := q1.cell 0
    have a1 := q1.cell 1
    have b0 := q2.cell 0
    have b1 := q2.cell 1
    simp only [List.getElem?_cons_zero, List.getElem?_cons_succ] at a0 a1 b0 b1
    have HBr := Lib.hid (HB1.out.trans (hb.out.mono (by omega)))
    have hsr := hb.out.size
    clear q1 q2
    by_cases hlt : k < t.cos.length
    · obtain ⟨x, ox, X1, xc, rfl, _, _, c0, c1, c2, _, _, _, _, hz1⟩ := (HV.out.2.below HBr.out hB).at_ hlt
      obtain ⟨y, oy, Y1, yc, rfl, _, _, d0, d1, d2, _, _, _, _, hz2⟩ := (HV'.out.2.below HBr.out hB').at_ hlt
      have hn1 : (t.cos[k].src != t.cos[k].src) = false := by simp
      have hn2 : (t.cos[k].dst != t.cos[k].dst) = false := by simp
      have HZ1 := Lib.hid hz1
      have HZ2 := Lib.hid hz2
      have hl5 := hml k hlt
      have hxx : x < hi := by assumption
      have hyy : y < hi' := by assumption
      clear hz1 hz2
      go_wp2
      have hx1 : x < wr.heap.size := by omega
      have hy1 : y < wr.heap.size := by omega
      have KD : Hid (∀ u : World, Below wr.heap.size wr u → u.cell? ⟨w.heap.size, 1, none⟩ = some (.slice (some ⟨x, ox, none⟩) t.cos.length bap) ∧ u.cell? ⟨w.heap.size + 1, 1, none⟩ = some (.slice (some ⟨y, oy, none⟩) t.cos.length bap') ∧ u.cell? ⟨x, ox + k * 3, none⟩ = some (.int .i64 t.cos[k].src) ∧ u.cell? ⟨x, ox + k * 3 + 1, none⟩ = some (.int .i64 t.cos[k].dst) ∧ u.cell? ⟨x, ox + k * 3 + 2, none⟩ = some (.slice X1 t.cos[k].map.length xc) ∧ u.cell? ⟨y, oy + k * 3, none⟩ = some (.int .i64 t.cos[k].src) ∧ u.cell? ⟨y, oy + k * 3 + 1, none⟩ = some (.int .i64 t.cos[k].dst) ∧ u.cell? ⟨y, oy + k * 3 + 2, none⟩ = some (.slice Y1 t.cos[k].map.length yc)) := fun u hu => ⟨(hu.cell (by dsimp only; omega)).trans a1, (hu.cell (by dsimp only; omega)).trans b1, (hu.cell (by dsimp only; omega)).trans c0, (hu.cell (by dsimp only; omega)).trans c1, (hu.cell (by dsimp only; omega)).trans c2, (hu.cell (by dsimp only; omega)).trans d0, (hu.cell (by dsimp only; omega)).trans d1, (hu.cell (by dsimp only; omega)).trans d2⟩
      have K7 := Lib.hid (KD.out wr.drew (Below.refl _ _).drew)
      have hqk : (k : Int) < (t.cos.length : Int) := by omega
      go_region_held3 (fun w' => w'.cell? ⟨w.heap.size, 1, none⟩ = some (.slice (some ⟨x, ox, none⟩) t.cos.length bap) ∧ w'.cell? ⟨w.heap.size + 1, 1, none⟩ = some (.slice (some ⟨y, oy, none⟩) t.cos.length bap') ∧ w'.cell? ⟨x, ox + k * 3, none⟩ = some (.int .i64 t.cos[k].src) ∧ w'.cell? ⟨x, ox + k * 3 + 1, none⟩ = some (.int .i64 t.cos[k].dst) ∧ w'.cell? ⟨x, ox + k * 3 + 2, none⟩ = some (.slice X1 t.cos[k].map.length xc) ∧ w'.cell? ⟨y, oy + k * 3, none⟩ = some (.int .i64 t.cos[k].src) ∧ w'.cell? ⟨y, oy + k * 3 + 1, none⟩ = some (.int .i64 t.cos[k].dst) ∧ w'.cell? ⟨y, oy + k * 3 + 2, none⟩ = some (.slice Y1 t.cos[k].map.length yc))
        (first | exact K7.out | exact K8.out)
        (first
          | (go_at_call 20
             refine (ovSame_any lo hi lo' hi' _ _ t.cos[k].map t.cos[k].map wr.drew (HZ1.out.keep fun _ _ _ => rfl) (HZ2.out.keep fun _ _ _ => rfl) (Nat.le_trans hB HBr.out.size) (Nat.le_trans hB' HBr.out.size) hl5 hl5).mono ?_
             rintro e w8 ⟨rfl, hb8⟩
             rw [show decide (t.cos[k].map = t.cos[k].map) = true from decide_eq_true rfl]
             have HB8 : Hid (Below wr.heap.size wr w8) := ((Below.refl _ _).drew).trans hb8
             have K8 := Lib.hid (KD.out w8 HB8.out)
             clear hb8))
      have HN := Lib.hid (hb.out.trans (HB8.out.mono (by omega)))
      clear K8 HB8
      go_wp2
      go_roundw
      case rel => exact ⟨k + 1, by omega, by go_num, Lib.hid HN.out⟩
      case measure => simp [intOf]; omega
    · have hll : (((t.cos.length : Nat) : Int) == ((t.cos.length : Nat) : Int)) = true := by simp
      go_wp2_with fail
      refine (ovSame_any lo hi lo' hi' _ _ t.sizes t.sizes wr (HV.out.1.below HBr.out hB) (HV'.out.1.below HBr.out hB') (Nat.le_trans hB HBr.out.size) (Nat.le_trans hB' HBr.out.size) hn1 hn1).mono ?_
      rintro e w8 ⟨rfl, hb8⟩
      rw [show decide (t.sizes = t.sizes) = true from decide_eq_true rfl]
      have HB8 := Lib.hid (HBr.out.trans (hb8.mono HBr.out.size))
      have q1 := (HR1.out.below hb.out (by omega)).below hb8 (by omega)
      have q2 := (HR2.out.below hb.out (by omega)).below hb8 (by omega)
      have e1 := q1.cell 1
      have f1 := q2.cell 1
      simp only [List.getElem?_cons_zero, List.getElem?_cons_succ] at e1 f1
      clear hb8 q1 q2 a0 a1 b0 b1
      go_wp2
      go_ret
      exact ⟨rfl, HB8.out⟩
end Go.Proofs.Ytplpnammboofiaa
