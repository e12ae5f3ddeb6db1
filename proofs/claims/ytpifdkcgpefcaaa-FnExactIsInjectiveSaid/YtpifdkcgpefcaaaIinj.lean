/-
  The contract of the program's IsInjective: the walk.
-/
import Derived.Test.YtpifdkcgpefcaaaInj
namespace Go.Proofs.Ytpifdkcgpefcaaa
open Go.RowKit

set_option maxRecDepth 100000 in
set_option maxHeartbeats 4000000 in
theorem implInj_any (lo hi : Nat) (sv cv : Value) (t : Ty) (i : Int) (w : World) (hv : TyAt w lo hi sv cv t) (hB : hi ≤ w.heap.size) :
    Calls Try.prog 15 #[.agg #[sv, cv], .int .i64 i] w fun e w' => e = .returned (.bool (injB t i)) ∧ Below w.heap.size w w' := by
  obtain ⟨A, cap, rfl, hl1, hm1, hi1⟩ := hv.1.form
  obtain ⟨B, bap, rfl, hl2, hm2, hc1⟩ := hv.2.form
  have h3 : Below w.heap.size w (w.alloc (.cells #[.slice A t.sizes.length cap, .slice B t.cos.length bap] 26)) := by go_grown
  have hv3 := Lib.hid (hv.below h3 hB)
  have Hc1 := Lib.hid hc1
  have Hi1 := Lib.hid hi1
  clear hv hc1 hi1
  go_enter Try.func15, Try.ntmps15
  go_wp2_with fail
  refine (hasCoercion_any lo hi _ _ t i _ hv3.out (by simp; omega)).mono ?_
  rintro e w1 ⟨rfl, hb1⟩
  have H1 := Lib.hid (box2 (hb1.mono (by simp)))
  obtain ⟨q0, q1, hl, _⟩ := box2 (hb1.mono (by simp))
  clear hb1
  by_cases hok : hasC t i = true
  · obtain ⟨hty, hi0, hi1, hlt⟩ := hasC_of hok
    have hfin := Lib.hid (injB_yes hok hlt)
    have hco := coOk_of (hasC_co hok hlt)
    have hsz := sizesOk_of (tyOk_sizes hty)
    obtain ⟨b, off, A2, cap2, rfl, hlo, hhi, c0, c1, c2, h5, h6, hs, hd, hz⟩ := (Hc1.out.below H1.out.2.2.2 hB).at_ hlt
    have hsrc : t.cos[i.toNat].src.toNat < t.sizes.length := by omega
    have hdst : t.cos[i.toNat].dst.toNat < t.sizes.length := by omega
    have hsr := hsz.2.2 _ hsrc
    have hdr := hsz.2.2 _ hdst
    have hml := hco.2.2.2.1
    have hmv := hco.2.2.2.2
    rw [List.getD_eq_getElem?_getD, List.getElem?_eq_getElem hsrc] at hml
    rw [List.getD_eq_getElem?_getD, List.getElem?_eq_getElem hdst] at hmv
    simp only [Option.getD_some] at hml hmv
    have hn4 : t.cos[i.toNat].map.length ≤ 4 := by omega
    have hpos : 0 < t.cos[i.toNat].map.length := by omega
    have hsrc0 : 0 ≤ t.cos[i.toNat].src := hco.1
    have hsrcl : t.cos[i.toNat].src < (t.sizes.length : Int) := by omega
    obtain ⟨bs, offs, rfl, _, hbs, s0, _⟩ := (Hi1.out.below H1.out.2.2.2 hB).at_ hsrc
    rw [← hml] at s0
    have hbs1 : bs < w1.heap.size := by omega
    have hmv4 : Hid (∀ k, ∀ (hk : k < t.cos[i.toNat].map.length), 0 ≤ t.cos[i.toNat].map[k] ∧ t.cos[i.toNat].map[k] < 4) := fun k hk => by have := hmv k hk; omega
    have Hz := Lib.hid hz
    rw [hok]
    generalize hzs : t.cos[i.toNat].map = zs at *
    have Hzs := Lib.hid hzs
    clear hml hsr hsz hco hok hty hz hmv hdr hzs
    go_wp2_with fail
    refine (images_any _ _ _ _).mono ?_
    rintro e w2 ⟨rfl, rfl⟩
    rw [World.size_alloc]
    obtain ⟨W, hW⟩ : ∃ W : World, W = (((w1.alloc (.cells #[.int .i64 t.cos[i.toNat].src, .int .i64 t.cos[i.toNat].dst, .slice A2 zs.length cap2] 32)).alloc (.cells #[.int .i64 t.cos[i.toNat].src, .int .i64 t.cos[i.toNat].dst, .slice A2 zs.length cap2] 32)).alloc (.cells [.int .i64 t.cos[i.toNat].src, .int .i64 t.cos[i.toNat].dst, .slice A2 zs.length cap2, .int .u32 0, .int .i32 0, .int .u32 0, .int .i64 0, .int .i64 0, .int .i64 0, .int .i64 0].toArray 102)) := ⟨_, rfl⟩
    have hbW : Below w1.heap.size w1 W := by rw [hW]; go_grown
    have hszW : W.heap.size = w1.heap.size + 1 + 1 + 1 := by rw [hW]; simp
    have htab : TabSt W (w1.heap.size + 1 + 1) (.int .i64 t.cos[i.toNat].src) (.int .i64 t.cos[i.toNat].dst) (.slice A2 zs.length cap2) zs := by
      rw [hW]
      refine .inl ?_
      have := Row.new ((w1.alloc (.cells #[.int .i64 t.cos[i.toNat].src, .int .i64 t.cos[i.toNat].dst, .slice A2 zs.length cap2] 32)).alloc (.cells #[.int .i64 t.cos[i.toNat].src, .int .i64 t.cos[i.toNat].dst, .slice A2 zs.length cap2] 32)) 102 [.int .i64 t.cos[i.toNat].src, .int .i64 t.cos[i.toNat].dst, .slice A2 zs.length cap2, .int .u32 0, .int .i32 0, .int .u32 0, .int .i64 0, .int .i64 0, .int .i64 0, .int .i64 0]
      simpa using this
    have p0 : W.cell? ⟨w1.heap.size, 0, none⟩ = some (.int .i64 t.cos[i.toNat].src) := by
      rw [hW, World.cell?_alloc_past _ _ _ (by simp; omega), World.cell?_alloc_past _ _ _ (by simp), World.cell?_alloc_at _ _ _ _ rfl]; rfl
    rw [← hW]
    clear hW
    replace q0 := (hbW.cell (p := ⟨w.heap.size, 0, none⟩) hl).trans q0
    replace q1 := (hbW.cell (p := ⟨w.heap.size, 1, none⟩) hl).trans q1
    replace s0 := (hbW.cell (p := ⟨bs, offs + t.cos[i.toNat].src.toNat, none⟩) hbs1).trans s0
    have Hz2 := Lib.hid (Hz.out.below hbW (by omega))
    have hlW : w.heap.size < W.heap.size := by omega
    have hlW1 : w1.heap.size < W.heap.size := by omega
    have hlW2 : bs < W.heap.size := by omega
    have HbW := Lib.hid hbW
    have HszW := Lib.hid hszW
    have Htab := Lib.hid htab
    clear hbW hszW htab c0 c1 c2
    go_wp2
    have hrowT : Row (W.alloc (.cells #[.bool false, .bool false, .bool false, .bool false] 71)) W.heap.size 71 (takenOf zs 0) := by
      rw [takenOf_zero]
      exact Row.new W 71 [.bool false, .bool false, .bool false, .bool false]
    have HrowT := Lib.hid hrowT
    clear hrowT q0 q1 s0 p0
    go_loopw [27] (fun x wr => ∃ k : Nat, k ≤ zs.length ∧ x = .int .i64 k ∧ Hid (Below w1.heap.size w1 wr) ∧ Hid (TabSt wr (w1.heap.size + 1 + 1) (.int .i64 t.cos[i.toNat].src) (.int .i64 t.cos[i.toNat].dst) (.slice A2 zs.length cap2) zs) ∧
      Hid (Row wr W.heap.size 71 (takenOf zs k)) ∧ Hid ((zs.take k).Nodup)) (fun x _ => zs.length - (intOf x).toNat)
    case atStart => exact ⟨0, Nat.zero_le _, rfl, HbW.out.alloc (by omega) _, Htab.out.keep (Below.heap_alloc _ _ _ (by have := HszW.out; omega)), HrowT.out, by show List.Nodup _; simp⟩
    case round =>
      obtain ⟨k, hk, rfl, hb, htab, hrow, hnd⟩ := hrel
      by_cases hkl : k < zs.length
      · have hvk := hmv4.out k hkl
        have hlk : lookOf zs (k : Int) = zs[k] := by have := lookOf_in (zs := zs) (v := (k : Int)) (by omega) (by simpa using hkl); simpa using this
        have Hlk := Lib.hid hlk
        clear hlk
        go_wp2_with fail
        refine (of_any lo hi (w1.heap.size + 1 + 1) _ _ A2 cap2 zs (k : Int) _ htab.out (Hz.out.below hb.out (by omega)) (by omega) hn4 hpos).mono ?_
        rintro e w2 ⟨rfl, hk2, htab2⟩
        rw [Hlk.out]
        have hsW := HszW.out
        have hrow2 : Row w2 W.heap.size 71 (takenOf zs k) := hrow.out.keep (hk2.block _ hrow.out.lt (by omega))
        have hb2 : Below w1.heap.size w1 w2 := hb.out.trans (hk2.below hb.out.size (fun k hk => by omega))
        have hsW' : w1.heap.size + 1 + 1 < W.heap.size := by omega
        have hzn : zs[k].toNat < 4 := by omega
        clear hsW
        have hcast : ((zs[k].toNat : Nat) : Int) = zs[k] := by omega
        have hget := takenOf_get zs k zs[k].toNat hzn
        rw [hcast] at hget
        have hz0 := hvk.1
        have hz4 := hvk.2
        by_cases hm : zs[k] ∈ zs.take k
        · have hcell : w2.cell? ⟨W.heap.size, zs[k].toNat, none⟩ = some (.bool true) := by rw [hrow2.cell, hget]; simp [hm]
          have hfin2 : Hid (injB t i = false) := by
            show injB t i = false
            rw [hfin.out]
            exact decide_eq_false (not_nodup_of hkl hm)
          have Hb2 := Lib.hid hb2
          clear hget hm hrow2 hb2 hk2 htab2 hcast hvk
          go_wp2
          go_ret
          exact ⟨ret_bool hfin2.out.symm, H1.out.2.2.2.trans (Hb2.out.mono (by omega))⟩
        · have hcell : w2.cell? ⟨W.heap.size, zs[k].toNat, none⟩ = some (.bool false) := by rw [hrow2.cell, hget]; simp [hm]
          have hfz := hrow2.frozen zs[k].toNat
          have hnd2 : Hid ((zs.take (k + 1)).Nodup) := (nodup_take_succ hkl).2 ⟨hnd.out, hm⟩
          have hset := hrow2.set_ zs[k].toNat (.bool true)
          rw [takenOf_set zs k zs[k].toNat hkl hzn hcast.symm] at hset
          have Hset := Lib.hid hset
          have Hb2 := Lib.hid hb2
          have Htab2 := Lib.hid htab2
          clear hget hm hrow2 hb2 hk2 htab2 hcast hvk hset
          go_wp2
          go_roundw
          case rel => exact ⟨k + 1, by omega, by go_num, Hb2.out.setCell (by dsimp only; omega) _, Htab2.out.keep (Below.heap_setCell _ _ _ _ (by dsimp only; omega)), Hset.out, hnd2.out⟩
          case measure => simp [intOf]; omega
      · obtain rfl : k = zs.length := by omega
        have hfin2 : Hid (injB t i = true) := by
          show injB t i = true
          rw [hfin.out]
          have := hnd.out
          rw [List.take_length] at this
          exact decide_eq_true this
        go_wp2
        go_ret
        exact ⟨ret_bool hfin2.out.symm, H1.out.2.2.2.trans (hb.out.mono (by omega))⟩
  · have hokf : hasC t i = false := by simpa using hok
    have hfin := Lib.hid (injB_no hokf)
    rw [hokf]
    clear hok hokf
    go_wp2
    go_ret
    exact ⟨ret_bool hfin.out.symm, H1.out.2.2.2⟩
end Go.Proofs.Ytpifdkcgpefcaaa
