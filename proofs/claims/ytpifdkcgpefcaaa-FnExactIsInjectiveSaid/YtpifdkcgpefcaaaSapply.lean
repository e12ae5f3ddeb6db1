/-
  The contract of the model's ApplyCoercion.
-/
import Derived.Test.YtpifdkcgpefcaaaApply
import Derived.BigQuiet
import Derived.Deep.RegionWith
namespace Go.Proofs.Ytpifdkcgpefcaaa
open Go.RowKit

theorem lookOf_in {zs : List Int} {v : Int} (h0 : 0 ≤ v) (h : v.toNat < zs.length) : lookOf zs v = zs[v.toNat] := by
  unfold lookOf
  rw [if_pos ⟨h0, by omega⟩, List.getD_eq_getElem?_getD, List.getElem?_eq_getElem h]; rfl

set_option maxRecDepth 100000 in
set_option maxHeartbeats 2000000 in
theorem specApply_any (lo hi : Nat) (sv cv : Value) (t : Ty) (i v : Int) (w : World) (hv : TyAt w lo hi sv cv t) (hB : hi ≤ w.heap.size) :
    Calls Try.prog 14 #[.agg #[sv, cv], .int .i64 i, .int .i64 v] w fun e w' => e = .returned (.int .i64 (applyV t i v)) ∧ Below w.heap.size w w' := by
  obtain ⟨A, cap, rfl, hl1, hm1, _⟩ := hv.1.form
  obtain ⟨B, bap, rfl, hl2, hm2, hc1⟩ := hv.2.form
  have h3 : Below (w.heap.size + 1) (w.alloc (.cells #[.slice A t.sizes.length cap, .slice B t.cos.length bap] 26)) (w.alloc (.cells #[.slice A t.sizes.length cap, .slice B t.cos.length bap] 26)) := Below.refl _ _
  have H3 := Lib.hid h3
  have Hv := Lib.hid hv
  have Hc1 := Lib.hid hc1
  clear hv hc1 h3
  by_cases hok : hasC t i = true
  · obtain ⟨hty, hi0, hi1, hlt⟩ := hasC_of hok
    have hfin := Lib.hid (applyV_yes (v := v) hok hlt)
    have hco := coOk_of (hasC_co hok hlt)
    have hszs := tyOk_sizes hty
    have hsz := sizesOk_of hszs
    obtain ⟨b, off, A2, cap2, rfl, hlo, hhi, c0, c1, c2, h5, h6, hs, hd, hz⟩ := (Hc1.out.below (box2 H3.out).2.2.2 hB).at_ hlt
    have hcs : ∀ w' : World, Below w.heap.size w w' → w'.cell? ⟨b, off + i.toNat * 3, none⟩ = some (.int .i64 t.cos[i.toNat].src) ∧ w'.cell? ⟨b, off + i.toNat * 3 + 2, none⟩ = some (.slice A2 t.cos[i.toNat].map.length cap2) ∧ IntsAt w' lo hi (.slice A2 t.cos[i.toNat].map.length cap2) t.cos[i.toNat].map := by
      intro w' hb
      have hb0 : Below w.heap.size w (w.alloc (.cells #[.slice A t.sizes.length cap, .slice (some ⟨b, off, none⟩) t.cos.length bap] 26)) := (box2 H3.out).2.2.2
      have e0 : w'.heap[b]? = (w.alloc (.cells #[.slice A t.sizes.length cap, .slice (some ⟨b, off, none⟩) t.cos.length bap] 26)).heap[b]? := (hb.block b (by omega)).trans (hb0.block b (by omega)).symm
      refine ⟨(World.cell?_of_block (w := (w.alloc (.cells #[.slice A t.sizes.length cap, .slice (some ⟨b, off, none⟩) t.cos.length bap] 26))) e0).trans c0, (World.cell?_of_block (w := (w.alloc (.cells #[.slice A t.sizes.length cap, .slice (some ⟨b, off, none⟩) t.cos.length bap] 26))) e0).trans c2, hz.keep fun k _ hk => (hb.block k (by omega)).trans (hb0.block k (by omega)).symm⟩
    have hsrc : t.cos[i.toNat].src.toNat < t.sizes.length := by omega
    have hml := hco.2.2.2.1
    rw [List.getD_eq_getElem?_getD, List.getElem?_eq_getElem hsrc] at hml
    simp only [Option.getD_some] at hml
    have hxs : ixB t.cos[i.toNat].src t.sizes.length = true := ixB_yes hco.1 (by omega)
    have hv0 : hasV0 t.sizes t.cos[i.toNat].src v = ixB v t.cos[i.toNat].map.length := by rw [hasV0_yes hxs hsrc, hml]
    have Hcs := Lib.hid hcs
    have Hv0 := Lib.hid hv0
    have k0 : ∀ x : InC (Below (w.heap.size + 1) (w.alloc (.cells #[.slice A t.sizes.length cap, .slice (some ⟨b, off, none⟩) t.cos.length bap] 26))), x.val.cell? ⟨w.heap.size, 0, none⟩ = some (.slice A t.sizes.length cap) := fun x => (box2 x.inD).1
    have k1 : ∀ x : InC (Below (w.heap.size + 1) (w.alloc (.cells #[.slice A t.sizes.length cap, .slice (some ⟨b, off, none⟩) t.cos.length bap] 26))), x.val.cell? ⟨w.heap.size, 1, none⟩ = some (.slice (some ⟨b, off, none⟩) t.cos.length bap) := fun x => (box2 x.inD).2.1
    have k2 : ∀ x : InC (Below (w.heap.size + 1) (w.alloc (.cells #[.slice A t.sizes.length cap, .slice (some ⟨b, off, none⟩) t.cos.length bap] 26))), x.val.cell? ⟨b, off + i.toNat * 3, none⟩ = some (.int .i64 t.cos[i.toNat].src) := fun x => (Hcs.out _ (box2 x.inD).2.2.2).1
    have hne : Nonempty (InC (Below (w.heap.size + 1) (w.alloc (.cells #[.slice A t.sizes.length cap, .slice (some ⟨b, off, none⟩) t.cos.length bap] 26)))) := ⟨⟨_, H3.out⟩⟩
    clear hml hsz hco hty hz hcs hv0 hxs c0 c1 c2
    by_cases hv : 0 ≤ v ∧ v < t.cos[i.toNat].map.length
    · have hixv := Lib.hid (ixB_yes hv.1 hv.2)
      have hv0 := hv.1
      have hv1 := hv.2
      have hvn : v.toNat < t.cos[i.toNat].map.length := by omega
      have hlk := Lib.hid (lookOf_in hv0 hvn)
      clear hv
      go_enter Try.func14, Try.ntmps14
      go_wp2_with fail
      refine wp_region_class (Below (w.heap.size + 1) (w.alloc (.cells #[.slice A t.sizes.length cap, .slice (some ⟨b, off, none⟩) t.cos.length bap] 26))) (by kernel_rfl) (by kernel_rfl) H3.out.drew ?_
      repeat (go_big_quiet_step ((first | (go_at_call 51; rename_i x; exact (l1Coercion_any lo hi _ _ t i x.val (Hv.out.below (box2 x.inD).2.2.2 hB) (by have := (box2 x.inD).2.2.1; omega)).mono fun e w' ⟨he, hb⟩ => ⟨by rw [he, hok], ⟨_, x.inD.trans (hb.mono (box2 x.inD).2.2.1)⟩, rfl⟩) | (go_at_call 52; rename_i x; exact (l1Has_any lo hi _ _ t t.cos[i.toNat].src v x.val (Hv.out.below (box2 x.inD).2.2.2 hB) (by have := (box2 x.inD).2.2.1; omega) hszs).mono fun e w' ⟨he, hb⟩ => ⟨by rw [he, Hv0.out, hixv.out], ⟨_, x.inD.trans (hb.mono (box2 x.inD).2.2.1)⟩, rfl⟩))))
      refine wpQuiet_nil ?_
      intro _ hw'
      obtain ⟨⟨w1, hb1⟩, rfl⟩ := hw'
      obtain ⟨q0, q1, hl, hbb⟩ := box2 hb1
      obtain ⟨d0, d2, hz1⟩ := Hcs.out _ hbb
      obtain ⟨b3, off3, rfl, _, _, e0, _⟩ := hz1.at_ hvn
      have Hb1 := Lib.hid hb1
      clear hb1 hbb hz1
      go_wp2
      go_ret
      exact ⟨ret_int (by rw [hfin.out, hlk.out]), (box2 Hb1.out).2.2.2⟩
    · have hixv := Lib.hid (ixB_no hv)
      have hlk : Hid (lookOf t.cos[i.toNat].map v = -1) := by show _ = _; unfold lookOf; rw [if_neg hv]
      clear hv
      go_enter Try.func14, Try.ntmps14
      go_wp2_with fail
      refine wp_region_class (Below (w.heap.size + 1) (w.alloc (.cells #[.slice A t.sizes.length cap, .slice (some ⟨b, off, none⟩) t.cos.length bap] 26))) (by kernel_rfl) (by kernel_rfl) H3.out.drew ?_
      repeat (go_big_quiet_step ((first | (go_at_call 51; rename_i x; exact (l1Coercion_any lo hi _ _ t i x.val (Hv.out.below (box2 x.inD).2.2.2 hB) (by have := (box2 x.inD).2.2.1; omega)).mono fun e w' ⟨he, hb⟩ => ⟨by rw [he, hok], ⟨_, x.inD.trans (hb.mono (box2 x.inD).2.2.1)⟩, rfl⟩) | (go_at_call 52; rename_i x; exact (l1Has_any lo hi _ _ t t.cos[i.toNat].src v x.val (Hv.out.below (box2 x.inD).2.2.2 hB) (by have := (box2 x.inD).2.2.1; omega) hszs).mono fun e w' ⟨he, hb⟩ => ⟨by rw [he, Hv0.out, hixv.out], ⟨_, x.inD.trans (hb.mono (box2 x.inD).2.2.1)⟩, rfl⟩))))
      refine wpQuiet_nil ?_
      intro _ hw'
      obtain ⟨⟨w1, hb1⟩, rfl⟩ := hw'
      have Hb1 := Lib.hid hb1
      clear hb1
      go_wp2
      go_ret
      exact ⟨ret_int (by rw [hfin.out, hlk.out]), (box2 Hb1.out).2.2.2⟩
  · have hokf : hasC t i = false := by simpa using hok
    have hfin := Lib.hid (applyV_no (v := v) hokf)
    clear hok
    go_enter Try.func14, Try.ntmps14
    go_wp2_with fail
    have k0 : ∀ x : InC (Below (w.heap.size + 1) (w.alloc (.cells #[.slice A t.sizes.length cap, .slice B t.cos.length bap] 26))), x.val.cell? ⟨w.heap.size, 0, none⟩ = some (.slice A t.sizes.length cap) := fun x => (box2 x.inD).1
    have k1 : ∀ x : InC (Below (w.heap.size + 1) (w.alloc (.cells #[.slice A t.sizes.length cap, .slice B t.cos.length bap] 26))), x.val.cell? ⟨w.heap.size, 1, none⟩ = some (.slice B t.cos.length bap) := fun x => (box2 x.inD).2.1
    have hne : Nonempty (InC (Below (w.heap.size + 1) (w.alloc (.cells #[.slice A t.sizes.length cap, .slice B t.cos.length bap] 26)))) := ⟨⟨_, H3.out⟩⟩
    refine wp_region_class (Below (w.heap.size + 1) (w.alloc (.cells #[.slice A t.sizes.length cap, .slice B t.cos.length bap] 26))) (by kernel_rfl) (by kernel_rfl) H3.out.drew ?_
    repeat (go_big_quiet_step ((go_at_call 51; rename_i x; exact (l1Coercion_any lo hi _ _ t i x.val (Hv.out.below (box2 x.inD).2.2.2 hB) (by have := (box2 x.inD).2.2.1; omega)).mono fun e w' ⟨he, hb⟩ => ⟨by rw [he, hokf], ⟨_, x.inD.trans (hb.mono (box2 x.inD).2.2.1)⟩, rfl⟩)))
    refine wpQuiet_nil ?_
    intro _ hw'
    obtain ⟨⟨w1, hb1⟩, rfl⟩ := hw'
    have Hb1 := Lib.hid hb1
    clear hb1
    go_wp2
    go_ret
    exact ⟨ret_int hfin.out.symm, (box2 Hb1.out).2.2.2⟩
end Go.Proofs.Ytpifdkcgpefcaaa
