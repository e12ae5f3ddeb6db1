/-
  The contract of the program's indicesIn: the keys of a map of the call's own, in ascending order.
  The contracts of the program's ApplicableOf and CostOf.
-/
import Derived.Test.YtgkfddhhkjblgaaGreatDoorKeys
import Derived.Test.YtgkfddhhkjblgaaGreatDoorB11
import Derived.Lib.SlKeysI
import Derived.Test.YtgkfddhhkjblgaaGreatDoorB27
import Derived.Test.YtgkfddhhkjblgaaGreatDoorB15
import Derived.Maps.OwnSet
namespace Go.Proofs.YtgkfddhhkjblgaaGreatDoor
open Go.RowKit Go.Maps Go.Sort Go.Shelf

theorem sortsIn (m : Nat) : AnyZI.SortsIn Tryz.prog sortedA_ren Fence.wide m :=
  ⟨fun blk off cap ss W hH hblk hsz => callsIn_wide.2 (AnyM.slices_Sort_int sortA blk off cap ss W hH hblk hsz),
   fun p cap W => callsIn_wide.2 (AnyM.slices_Sort_int_none sortA p cap W)⟩

theorem keys_perm {y : Sy} {ks L : List Int} {D : DataW Unit} {w : World} {b n : Nat} {R : Value → Option (DataW Unit × List MemPlace)} (hC : Cst y ks L D) (hasc : L.Pairwise (· < ·)) (hown : w.ownsMap Tryz.prog 3 R b n D) : L.Perm (intKeys D) := by
  obtain ⟨es, rfl, hp, hk⟩ := hown.entries (int_keyed Tryz.underlying3)
  obtain ⟨es', e', hk'⟩ := hown.keysOf
  injection e' with e'
  subst e'
  refine perm_intKeys hp (fun p hp' => ?_) (hasc.imp fun h => by omega) fun x => (hC.has x).symm
  obtain ⟨v, hv⟩ := hk' p hp'
  obtain ⟨x, _, h2, _⟩ := Maps.keyOf_i64 Tryz.underlying3 hv
  exact ⟨x, h2⟩

set_option maxRecDepth 100000 in
set_option maxHeartbeats 2000000 in
theorem indicesIn_any (b nn : Nat) (y : Sy) (ks L : List Int) (D : DataW Unit) (w : World) (hown : w.ownsMap Tryz.prog 3 (plainElem Tryz.prog 3) b nn D) (hC : Cst y ks L D) (hasc : L.Pairwise (· < ·)) (hnn : nn ≤ 1048576) :
    Calls Tryz.prog 153 #[.map (some b)] w fun e w' => ∃ v, e = .returned v ∧ Below w.heap.size w w' ∧ w'.ownsRow w.heap.size 3 1 v L.length (L.map (Value.int .i64)) := by
  refine (callsIn_wide (n := 6)).1 ?_
  have hbl := hown.lt
  have hsz := hown.size_le
  have hperm := keys_perm hC hasc hown
  have hmax : Maps.size D ≤ maxLen := by unfold maxLen; omega
  have hbytes : Maps.size D * 8 ≤ 140737488355328 := by omega
  have hseq : SeqGives Fence.wide 2 Tryz.prog 164 #[.pointer (some ⟨w.heap.size, 0, none⟩)] encZ (fun ss => ss.Perm (intKeys D)) (Maps.size D) (w.alloc (.cells #[.map (some b)] 234)) :=
    AnyZI.keys_gives (ρ := keysA_ren) { keysA with } Fence.wide _ trivial rfl (by omega) w.heap.size b nn D _ (by simp) (by simp) (by
      obtain ⟨es, clock, hb, Ft, hs, hD⟩ := hown
      exact ⟨es, clock, (Below.heap_alloc _ _ b hbl).trans hb, Ft, hs, hD⟩)
  have cK : ∀ mb W, CallsIn Fence.wide 5 Tryz.prog 160 #[.map mb] W fun e w' => e = .returned (.func (.func 164) #[] #[.pointer (some ⟨W.heap.size, 0, none⟩)]) ∧ w' = W.alloc (.cells #[.map mb] 234) := fun mb W => AnyZI.keys_in keysA Fence.wide 5 trivial rfl mb W
  have cS := AnyZI.sorted_in sortedA Fence.wide 5 trivial trivial trivial trivial rfl (by omega) (sortsIn _) (enters_of Tryz.func163 (by kernel_rfl) rfl) 164 #[.pointer (some ⟨w.heap.size, 0, none⟩)] trivial (enters_of Tryz.func164 (by kernel_rfl) rfl) _ _ hmax hbytes _ hseq
  change CallsIn _ _ Tryz.prog 159 _ _ _ at cS
  have hfK : Fence.wide.fn 160 := trivial
  have hfS : Fence.wide.fn 159 := trivial
  refine callsIn_of_wp Tryz.func153 rfl trivial ?_ rfl
  simp only [Tryz.ntmps153, List.size_toArray, List.length_cons, List.length_nil, Nat.reduceAdd, Nat.reduceSub, Array.replicate_succ, Array.replicate_zero, List.push_toArray, List.append_toArray, List.nil_append, List.cons_append]
  gi_wp2_with (first
    | (gi_at_call 160; refine (cK _ _).mono ?_; rintro e w' ⟨rfl, rfl⟩)
    | (gi_at_call 159; refine cS.mono ?_; rintro e w' ⟨v, ss, rfl, hS, hrow, hnil, hb⟩))
  go_ret
  have e1 : ss.mergeSort (fun x y => decide (x ≤ y)) = L := by
    rw [← sort_asc hasc]
    exact mergeSort_of_perm_i (hS.trans hperm.symm)
  have e2 : ss.length = L.length := (hS.trans hperm.symm).length_eq
  refine ⟨v, rfl, ((Below.refl _ w).alloc (Nat.le_refl _) _).trans (hb.mono (by simp)), ?_⟩
  rw [e1, e2] at hrow
  exact ownsRow_base_a hrow (by simp)
end Go.Proofs.YtgkfddhhkjblgaaGreatDoor

namespace Go.Proofs.YtgkfddhhkjblgaaGreatDoor
open Go.RowKit Go.Maps

set_option maxRecDepth 100000 in
set_option maxHeartbeats 4000000 in
theorem implApplic_any (lo hi lo' hi' : Nat) (sv cv fv kv : Value) (y : Sy) (nm : ByteArray) (ks : List Int) (w : World) (hv : SyAt w lo hi sv cv fv y) (hk : IntsAt w lo' hi' kv ks) (hB : hi ≤ w.heap.size) (hB' : hi' ≤ w.heap.size) (hbk : y.bulk ≤ 1048576) (hnm : nm.size ≤ maxLen) :
    Calls Tryz.prog 139 #[.agg #[sv, cv, fv], .string nm, kv] w fun e w' => ∃ v, e = .returned v ∧ Below w.heap.size w w' ∧ w'.ownsRow w.heap.size 3 1 v (applicV y nm ks).length ((applicV y nm ks).map (Value.int .i64)) := by
  obtain ⟨A, cap, rfl, hl1, hm1, hi1⟩ := hv.1.1.form
  obtain ⟨B, bap, rfl, hl2, hm2, hc1⟩ := hv.1.2.form
  obtain ⟨F, fap, rfl, hl3, hm3, hf1⟩ := hv.2.form
  obtain ⟨K, kap, rfl, hlk, hmk, hk1⟩ := hk.form
  have h3 : Below w.heap.size w (w.alloc (.cells #[.slice A y.ty.sizes.length cap, .slice B y.ty.cos.length bap, .slice F y.fs.length fap] 37)) := by go_grown
  have Hv := Lib.hid hv
  have Hk := Lib.hid hk1
  have H3 := Lib.hid h3
  have Hnm := Lib.hid hnm
  clear hi1 hc1 hf1 hk1 hk hv h3 hnm
  go_enter Tryz.func139, Tryz.ntmps139
  go_wp2_with fail
  refine (costsOfCall_any lo hi lo' hi' _ _ _ _ y nm ks _ (Hv.out.below H3.out hB) (Hk.out.below H3.out hB') (by simp; omega) (by simp; omega) hbk Hnm.out).mono ?_
  rintro e w1 ⟨b, n, D, rfl, hlb, hn, hb1, hC, hO⟩
  have Hb1 := Lib.hid (H3.out.trans (hb1.mono (by simp)))
  have HC := Lib.hid hC
  have HO := Lib.hid hO
  clear hb1 hC hO
  go_wp2_with fail
  refine (indicesIn_any b n y ks _ D _ HO.out HC.out (applicV_asc y nm ks) hn).mono ?_
  rintro e w2 ⟨v, rfl, hb2, hown⟩
  have hs1 := Hb1.out.size
  have Hb2 := Lib.hid (Hb1.out.trans (hb2.mono hs1))
  have Hown := Lib.hid (ownsRow_base (base' := w.heap.size) hown hs1)
  clear hb2 hown
  go_wp2
  go_ret
  exact ⟨_, rfl, Hb2.out, Hown.out⟩

end Go.Proofs.YtgkfddhhkjblgaaGreatDoor

