/-
  The contract of the model's CallFunction.
-/
import Derived.Test.YtilcahidmoaakaaIcall
import Derived.Test.YtilcahidmoaakaaSfu
namespace Go.Proofs.Ytilcahidmoaakaa
open Go.RowKit
attribute [local go_sem] Oper.semAt_some

set_option maxRecDepth 100000 in
set_option maxHeartbeats 4000000 in
theorem l4Call_any (lo hi lo1 hi1 : Nat) (sv cv fv vv : Value) (y : Sy) (i : Int) (vs : List Int) (w : World) (hv : SyAt w lo hi sv cv fv y) (hz : IntsAt w lo1 hi1 vv vs) (hB : hi ≤ w.heap.size) (hB1 : hi1 ≤ w.heap.size) (c : hasFB y i = true) (hilt : i.toNat < y.fs.length)
    (hin : InT (tsOf y.ty.sizes y.fs[i.toNat].args) vs) :
    Calls Try.prog 88 #[.agg #[sv, cv, fv], .int .i64 i, vv] w fun e w' => e = .returned (.int .i64 (callV y i vs)) ∧ Below w.heap.size w w' := by
  obtain ⟨A, cap, rfl, hl1, hm1, hi1'⟩ := hv.1.1.form
  obtain ⟨B, bap, rfl, hl2, hm2, hc1⟩ := hv.1.2.form
  obtain ⟨F, fap, rfl, hl3, hm3, hf1⟩ := hv.2.form
  obtain ⟨Z, zap, rfl, hl4, hm4, hz1⟩ := hz.form
  unfold maxLen at hm3 hm4
  obtain ⟨hsy, hi0, hilt', _⟩ := hasFB_of c
  have hfo := hsy.each _ hilt
  have H : Hid (callV y i vs = resV (tsOf y.ty.sizes y.fs[i.toNat].args) y.fs[i.toNat].table vs) := by show _ = _; rw [callV_yes c, getD_of hilt]
  have few : (tsOf y.ty.sizes y.fs[i.toNat].args).length ≤ 2 := by rw [tsOf_len]; exact hfo.few
  have Hb4 := Lib.hid (tsOf_bound (tyOk_sizes hsy.ty) hfo.args)
  have Hlen : Hid ((y.fs[i.toNat].table.length : Int) = prodTo (tsOf y.ty.sizes y.fs[i.toNat].args) (tsOf y.ty.sizes y.fs[i.toNat].args).length) := by show _ = _; rw [tsOf_len, prodTo_cells _ _ _ (Nat.le_refl _)]; exact hfo.len
  have Hin := Lib.hid hin
  have Hargs := Lib.hid hfo.args
  obtain ⟨b, off, A1, cap1, A2, cap2, rfl, _, hbh, d0, d1, d2, d3, _, _, _, _, hfi⟩ := hf1.at_ hilt
  have Hfi := Lib.hid hfi
  have Hi1 := Lib.hid hi1'
  have Hz := Lib.hid hz1
  have hbw : b < w.heap.size := by omega
  clear hi1' hc1 hf1 hv hz hz1 hfi hin hfo hsy c
  go_enter Try.func88, Try.ntmps88
  go_wp2
  obtain ⟨W0, hW0⟩ : ∃ W0, W0 = (w.alloc (.cells #[.slice A y.ty.sizes.length cap, .slice B y.ty.cos.length bap, .slice (some ⟨b, off, none⟩) y.fs.length fap] 36)).alloc (.cells #[.string y.fs[i.toNat].name, .slice A1 y.fs[i.toNat].args.length cap1, .int .i64 y.fs[i.toNat].res, .slice A2 y.fs[i.toNat].table.length cap2] 55) := ⟨_, rfl⟩
  have hr0 : Row W0 w.heap.size 36 [.slice A y.ty.sizes.length cap, .slice B y.ty.cos.length bap, .slice (some ⟨b, off, none⟩) y.fs.length fap] := by rw [hW0]; exact (Row.new w _ _).alloc _
  have hr1 : Row W0 (w.heap.size + 1) 55 [.string y.fs[i.toNat].name, .slice A1 y.fs[i.toNat].args.length cap1, .int .i64 y.fs[i.toNat].res, .slice A2 y.fs[i.toNat].table.length cap2] := by
    have h := Row.new (w.alloc (.cells #[.slice A y.ty.sizes.length cap, .slice B y.ty.cos.length bap, .slice (some ⟨b, off, none⟩) y.fs.length fap] 36)) 55 [.string y.fs[i.toNat].name, .slice A1 y.fs[i.toNat].args.length cap1, .int .i64 y.fs[i.toNat].res, .slice A2 y.fs[i.toNat].table.length cap2]
    rw [World.size_alloc] at h
    rw [hW0]; exact h
  have hb0 : Below w.heap.size w W0 := by rw [hW0]; go_grown
  have Hr0 := Lib.hid hr0
  have Hr1 := Lib.hid hr1
  have Hb0 := Lib.hid hb0
  rw [← hW0]
  clear hW0 hr0 hr1 hb0 d0 d1 d2 d3
  go_loopw [8, 18] (fun r q wr => ∃ k : Nat, k ≤ vs.length ∧ q = .int .i64 k ∧ r = .int .i64 (plTo (tsOf y.ty.sizes y.fs[i.toNat].args) vs k) ∧ Hid (∃ m, wr = W0.drewN m)) (fun _ q _ => vs.length - (intOf q).toNat)
  case atStart => exact ⟨0, Nat.zero_le _, rfl, rfl, ⟨0, rfl⟩⟩
  case round =>
    obtain ⟨k, hk, rfl, rfl, hm⟩ := hrel
    have hb : Hid (Below w.heap.size w wr) := by obtain ⟨m, rfl⟩ := hm.out; exact below_drewN Hb0.out m
    have hr0 : Row wr w.heap.size 36 [.slice A y.ty.sizes.length cap, .slice B y.ty.cos.length bap, .slice (some ⟨b, off, none⟩) y.fs.length fap] := by obtain ⟨m, rfl⟩ := hm.out; exact Hr0.out
    have hr1 : Row wr (w.heap.size + 1) 55 [.string y.fs[i.toNat].name, .slice A1 y.fs[i.toNat].args.length cap1, .int .i64 y.fs[i.toNat].res, .slice A2 y.fs[i.toNat].table.length cap2] := by obtain ⟨m, rfl⟩ := hm.out; exact Hr1.out
    have p0 := hr0.cell 0
    have t1 := hr1.cell 1
    have t3 := hr1.cell 3
    simp only [List.getElem?_cons_zero, List.getElem?_cons_succ] at p0 t1 t3
    clear hr0 hr1
    by_cases hlt : k < vs.length
    · have hkt : k < (tsOf y.ty.sizes y.fs[i.toNat].args).length := by rw [← Hin.out.1]; exact hlt
      have hka : k < y.fs[i.toNat].args.length := by rw [tsOf_len] at hkt; exact hkt
      obtain ⟨ha0, ha1⟩ := Hargs.out k hka
      have hlt2 : y.fs[i.toNat].args[k].toNat < y.ty.sizes.length := by omega
      obtain ⟨b0, o0, rfl, _, _, e0, _⟩ := (Hz.out.below hb.out hB1).at_ hlt
      obtain ⟨b1, o1, rfl, _, _, e1, _⟩ := (Hfi.out.2.2.2.2.1.below hb.out hB).at_ hka
      obtain ⟨b2, o2, rfl, _, _, e2, _⟩ := (Hi1.out.below hb.out hB).at_ hlt2
      have hkaI : (k : Int) < (y.fs[i.toNat].args.length : Int) := by omega
      have hgv : Hid (vs.getD k 0 = vs[k]) := getD_of hlt
      have hgt : Hid ((tsOf y.ty.sizes y.fs[i.toNat].args).getD k 0 = y.ty.sizes[y.fs[i.toNat].args[k].toNat]) := by show _ = _; rw [tsOf_get _ _ hka, getD_of hka, getD_of hlt2]
      have hb1 := plTo_bound few Hb4.out (k + 1) hkt (fun j hj => Hin.out.2 j (by omega))
      have hb2 := plTo_bound few Hb4.out k (by omega) (fun j hj => Hin.out.2 j (by omega))
      have hstep : plTo (tsOf y.ty.sizes y.fs[i.toNat].args) vs (k + 1) = plTo (tsOf y.ty.sizes y.fs[i.toNat].args) vs k * y.ty.sizes[y.fs[i.toNat].args[k].toNat] + vs[k] := by
        show plTo _ vs k * (tsOf y.ty.sizes y.fs[i.toNat].args).getD k 0 + vs.getD k 0 = _
        rw [hgv.out, hgt.out]
      have hv0 := (Hin.out.2 k hkt).1
      have ht4 := Hb4.out k hkt
      rw [hstep] at hb1
      rw [hgv.out] at hv0
      rw [hgt.out] at ht4
      have hm0 : 0 ≤ plTo (tsOf y.ty.sizes y.fs[i.toNat].args) vs k * y.ty.sizes[y.fs[i.toNat].args[k].toNat] := Int.mul_nonneg hb2.1 (by omega)
      have hwr := wrapIn (plTo (tsOf y.ty.sizes y.fs[i.toNat].args) vs k * y.ty.sizes[y.fs[i.toNat].args[k].toNat]) (by omega) (by omega)
      have hwr2 := wrapIn (plTo (tsOf y.ty.sizes y.fs[i.toNat].args) vs k * y.ty.sizes[y.fs[i.toNat].args[k].toNat] + vs[k]) (by omega) (by omega)
      have Hstep := Lib.hid hstep
      clear hstep hb1 hb2 hm0 ht4 hkt
      go_wp2
      go_quiet (fail)
      go_wp2
      go_roundw
      case rel => exact ⟨k + 1, by omega, by go_num, by rw [Hstep.out], (by show ∃ m, _ = _; obtain ⟨m, rfl⟩ := hm.out; exact ⟨_, World.drewN_drewN ..⟩)⟩
      case measure => simp [intOf]; omega
    · obtain rfl : k = vs.length := by omega
      have hpb := plTo_bound few Hb4.out _ (Nat.le_refl _) Hin.out.2
      have hL := Hlen.out
      rw [← Hin.out.1] at hpb hL
      have hlt2 : (plTo (tsOf y.ty.sizes y.fs[i.toNat].args) vs vs.length).toNat < y.fs[i.toNat].table.length := by omega
      have H2 : Hid (callV y i vs = y.fs[i.toNat].table[(plTo (tsOf y.ty.sizes y.fs[i.toNat].args) vs vs.length).toNat]) := by
        show _ = _
        rw [H.out, resV_yes Hin.out, ← Hin.out.1, getD_of hlt2]
      obtain ⟨b3, o3, rfl, _, _, e3, _⟩ := (Hfi.out.2.2.2.2.2.below hb.out hB).at_ hlt2
      have hp0 := hpb.1
      have hp1 : plTo (tsOf y.ty.sizes y.fs[i.toNat].args) vs vs.length < (y.fs[i.toNat].table.length : Int) := by omega
      clear hpb hL
      go_wp2
      go_ret
      exact ⟨ret_int H2.out.symm, hb.out⟩

set_option maxRecDepth 100000 in
set_option maxHeartbeats 4000000 in
theorem specCall_any (lo hi lo1 hi1 : Nat) (sv cv fv vv : Value) (y : Sy) (i : Int) (vs : List Int) (w : World) (hv : SyAt w lo hi sv cv fv y) (hz : IntsAt w lo1 hi1 vv vs) (hB : hi ≤ w.heap.size) (hB1 : hi1 ≤ w.heap.size) :
    Calls Try.prog 20 #[.agg #[sv, cv, fv], .int .i64 i, vv] w fun e w' => e = .returned (.int .i64 (callV y i vs)) ∧ Below w.heap.size w w' := by
  obtain ⟨A, cap, rfl, hl1, hm1, hi1'⟩ := hv.1.1.form
  obtain ⟨B, bap, rfl, hl2, hm2, hc1⟩ := hv.1.2.form
  obtain ⟨F, fap, rfl, hl3, hm3, hf1⟩ := hv.2.form
  obtain ⟨Z, zap, rfl, hl4, hm4, hz1⟩ := hz.form
  unfold maxLen at hm3 hm4
  have h3 : Below w.heap.size w (w.alloc (.cells #[.slice A y.ty.sizes.length cap, .slice B y.ty.cos.length bap, .slice F y.fs.length fap] 36)) := by go_grown
  have H1 := Lib.hid (Below.refl (w.heap.size + 1) (w.alloc (.cells #[.slice A y.ty.sizes.length cap, .slice B y.ty.cos.length bap, .slice F y.fs.length fap] 36)))
  have Hv := Lib.hid hv
  have Hty := Lib.hid hv.1
  have Hf := Lib.hid hf1
  have Hz := Lib.hid hz1
  clear hi1' hc1 hf1 hv hz hz1
  go_enter Try.func20, Try.ntmps20
  go_wp2_with fail
  refine (l4Has_any lo hi _ _ _ y i _ (Hv.out.below h3 hB) (by simp; omega)).mono ?_
  rintro e w1 ⟨rfl, hb1⟩
  have H2 := Lib.hid (H1.out.trans (hb1.mono (by simp)))
  obtain ⟨q0, q1, q2, hl, hB1'⟩ := box3 H2.out
  have HB1 := Lib.hid hB1'
  clear hb1 h3 hB1' H1
  by_cases c : hasFB y i = true
  case neg =>
    have H : Hid (callV y i vs = -1) := callV_no c
    have cf : hasFB y i = false := by simpa using c
    rw [cf]
    clear c
    go_wp2
    go_ret
    exact ⟨ret_int H.out.symm, HB1.out⟩
  have C := Lib.hid c
  rw [c]
  clear c
  obtain ⟨hsy, hi0, hii, hilt⟩ := hasFB_of C.out
  have hfo := hsy.each _ hilt
  have Hsz := Lib.hid (tyOk_sizes hsy.ty)
  have Hargs := Lib.hid hfo.args
  have H : Hid (callV y i vs = resV (tsOf y.ty.sizes y.fs[i.toNat].args) y.fs[i.toNat].table vs) := by show _ = _; rw [callV_yes C.out, getD_of hilt]
  clear hsy hfo
  obtain ⟨b, off, A1, cap1, A2, cap2, rfl, _, hbh, d0, d1, d2, d3, _, _, _, _, hfi⟩ := (Hf.out.below HB1.out hB).at_ hilt
  have Hfi := Lib.hid hfi
  have hbw : b < w1.heap.size := by omega
  clear hfi d0 d2 d3
  by_cases hlen : vs.length = y.fs[i.toNat].args.length
  case neg =>
    have hd : ((vs.length : Int) != (y.fs[i.toNat].args.length : Int)) = true := by simp; omega
    have H2 : Hid (callV y i vs = -1) := by show _ = _; rw [H.out]; exact resV_no fun h => hlen (by rw [h.1, tsOf_len])
    clear hlen
    go_wp2
    go_ret
    exact ⟨ret_int H2.out.symm, HB1.out⟩
  have hd : ((vs.length : Int) != (y.fs[i.toNat].args.length : Int)) = false := by simp; omega
  have Hlen := Lib.hid hlen
  clear hlen
  go_wp2
  clear hd
  have Q := Lib.hid (show w1.cell? ⟨w.heap.size, 0, none⟩ = some (.slice A y.ty.sizes.length cap) ∧ w1.cell? ⟨w.heap.size, 1, none⟩ = some (.slice B y.ty.cos.length bap) ∧ w1.cell? ⟨w.heap.size, 2, none⟩ = some (.slice (some ⟨b, off, none⟩) y.fs.length fap) from ⟨q0, q1, q2⟩)
  have D1 := Lib.hid d1
  clear q0 q1 q2 d1
  go_loopw [27] (fun q wr => ∃ k : Nat, k ≤ vs.length ∧ q = .int .i64 k ∧ Hid (Below w1.heap.size w1 wr) ∧ Hid (∀ j, j < k → 0 ≤ vs.getD j 0 ∧ vs.getD j 0 < (tsOf y.ty.sizes y.fs[i.toNat].args).getD j 0)) (fun q _ => vs.length - (intOf q).toNat)
  case atStart => exact ⟨0, Nat.zero_le _, rfl, Below.refl _ _, fun j hj => absurd hj (by omega)⟩
  case round =>
    obtain ⟨k, hk, rfl, hbr, hok⟩ := hrel
    have hsr := hbr.out.size
    have HbW : Hid (Below w.heap.size w wr) := HB1.out.trans (hbr.out.mono HB1.out.size)
    have q0 := (hbr.out.cell (p := ⟨w.heap.size, 0, none⟩) hl).trans Q.out.1
    have q1 := (hbr.out.cell (p := ⟨w.heap.size, 1, none⟩) hl).trans Q.out.2.1
    have q2 := (hbr.out.cell (p := ⟨w.heap.size, 2, none⟩) hl).trans Q.out.2.2
    have d1 := (hbr.out.cell (p := ⟨b, off + i.toNat * 4 + 1, none⟩) hbw).trans D1.out
    have hBr : hi ≤ wr.heap.size := Nat.le_trans hB HbW.out.size
    have hBr1 : hi1 ≤ wr.heap.size := Nat.le_trans hB1 HbW.out.size
    by_cases hlt : k < vs.length
    · have hka : k < y.fs[i.toNat].args.length := by have := Hlen.out; omega
      obtain ⟨ha0, ha1⟩ := Hargs.out k hka
      obtain ⟨bz, oz, rfl, _, _, e0, _⟩ := (Hz.out.below HbW.out hB1).at_ hlt
      obtain ⟨b1, o1, rfl, _, hb1h, e1, _⟩ := (Hfi.out.2.2.2.2.1.below hbr.out (Nat.le_trans hB HB1.out.size)).at_ hka
      have hkaI : (k : Int) < (y.fs[i.toNat].args.length : Int) := by omega
      have HTr := Lib.hid (Hty.out.below HbW.out hB)
      have hgv : Hid (vs.getD k 0 = vs[k]) := getD_of hlt
      have hgt : Hid ((tsOf y.ty.sizes y.fs[i.toNat].args).getD k 0 = y.ty.sizes.getD y.fs[i.toNat].args[k].toNat 0) := by show _ = _; rw [tsOf_get _ _ hka, getD_of hka]
      have hev : hasV0 y.ty.sizes y.fs[i.toNat].args[k] vs[k] = true ↔ 0 ≤ vs[k] ∧ vs[k] < y.ty.sizes.getD y.fs[i.toNat].args[k].toNat 0 := by
        unfold hasV0
        rw [ixB_yes ha0 ha1, Bool.true_and]
        simp [ixB]
      have k0 : ∀ z : InC (Below wr.heap.size wr), z.val.cell? ⟨w.heap.size, 0, none⟩ = some (.slice A y.ty.sizes.length cap) := fun z => (z.inD.cell (p := ⟨w.heap.size, 0, none⟩) (by dsimp only; omega)).trans q0
      have k1 : ∀ z : InC (Below wr.heap.size wr), z.val.cell? ⟨w.heap.size, 1, none⟩ = some (.slice B y.ty.cos.length bap) := fun z => (z.inD.cell (p := ⟨w.heap.size, 1, none⟩) (by dsimp only; omega)).trans q1
      have k2 : ∀ z : InC (Below wr.heap.size wr), z.val.cell? ⟨w.heap.size, 2, none⟩ = some (.slice (some ⟨b, off, none⟩) y.fs.length fap) := fun z => (z.inD.cell (p := ⟨w.heap.size, 2, none⟩) (by dsimp only; omega)).trans q2
      have k3 : ∀ z : InC (Below wr.heap.size wr), z.val.cell? ⟨b, off + i.toNat * 4 + 1, none⟩ = some (.slice (some ⟨b1, o1, none⟩) y.fs[i.toNat].args.length cap1) := fun z => (z.inD.cell (p := ⟨b, off + i.toNat * 4 + 1, none⟩) (by dsimp only; omega)).trans d1
      have k4 : ∀ z : InC (Below wr.heap.size wr), z.val.cell? ⟨b1, o1 + k, none⟩ = some (.int .i64 y.fs[i.toNat].args[k]) := fun z => (z.inD.cell (p := ⟨b1, o1 + k, none⟩) (by dsimp only; omega)).trans e1
      have hne : Nonempty (InC (Below wr.heap.size wr)) := ⟨⟨wr, Below.refl _ _⟩⟩
      clear q0 q1 q2 d1 e1
      by_cases hc : hasV0 y.ty.sizes y.fs[i.toNat].args[k] vs[k] = true
      · have hok3 : Hid (∀ j, j < k + 1 → 0 ≤ vs.getD j 0 ∧ vs.getD j 0 < (tsOf y.ty.sizes y.fs[i.toNat].args).getD j 0) := fun j hj => by
          by_cases e : j = k
          · subst e; rw [hgv.out, hgt.out]; exact hev.1 hc
          · exact hok.out j (by omega)
        have Hc := Lib.hid hc
        clear hc hev
        go_wp2_with fail
        refine wp_region_class (Below wr.heap.size wr) (by kernel_rfl) (by kernel_rfl) ((Below.refl _ _).drew) ?_
        repeat (go_big_quiet_step ((go_at_call 87; rename_i z; exact (l1Has_any lo hi _ _ y.ty _ _ z.val (HTr.out.below z.inD hBr) (by have := z.inD.size; omega) Hsz.out).mono fun e w' ⟨he, hbx⟩ => ⟨by rw [he, Hc.out], ⟨_, z.inD.trans (hbx.mono z.inD.size)⟩, rfl⟩)))
        refine wpQuiet_nil ?_
        intro _ hw'
        obtain ⟨⟨wz, hbz⟩, rfl⟩ := hw'
        have Hbz := Lib.hid (hbr.out.trans (hbz.mono hsr))
        clear hbz
        go_wp2
        go_roundw
        case rel => exact ⟨k + 1, by omega, by go_num, Hbz.out, hok3⟩
        case measure => simp [intOf]; omega
      · have hcf : Hid (hasV0 y.ty.sizes y.fs[i.toNat].args[k] vs[k] = false) := by show _ = _; simpa using hc
        have H2 : Hid (callV y i vs = -1) := by
          show _ = _
          rw [H.out]
          exact resV_no fun h => hc (hev.2 (by have := h.2 k (by rw [tsOf_len]; exact hka); rwa [hgv.out, hgt.out] at this))
        clear hc hev
        go_wp2_with fail
        refine wp_region_class (Below wr.heap.size wr) (by kernel_rfl) (by kernel_rfl) ((Below.refl _ _).drew) ?_
        repeat (go_big_quiet_step ((go_at_call 87; rename_i z; exact (l1Has_any lo hi _ _ y.ty _ _ z.val (HTr.out.below z.inD hBr) (by have := z.inD.size; omega) Hsz.out).mono fun e w' ⟨he, hbx⟩ => ⟨by rw [he, hcf.out], ⟨_, z.inD.trans (hbx.mono z.inD.size)⟩, rfl⟩)))
        refine wpQuiet_nil ?_
        intro _ hw'
        obtain ⟨⟨wz, hbz⟩, rfl⟩ := hw'
        have Hbz := Lib.hid (HbW.out.trans (hbz.mono HbW.out.size))
        clear hbz
        go_wp2
        go_ret
        exact ⟨ret_int H2.out.symm, Hbz.out⟩
    · obtain rfl : k = vs.length := by omega
      have hIn : Hid (InT (tsOf y.ty.sizes y.fs[i.toNat].args) vs) := ⟨by rw [tsOf_len]; exact Hlen.out, fun j hj => hok.out j (by rw [tsOf_len] at hj; have := Hlen.out; omega)⟩
      clear d1
      go_wp2_with fail
      refine (l4Call_any lo hi lo1 hi1 _ _ _ _ y i vs _ (Hv.out.below HbW.out hB) (Hz.out.below HbW.out hB1) hBr hBr1 C.out hilt hIn.out).mono ?_
      rintro e w5 ⟨rfl, hb5⟩
      have Hb5 := Lib.hid (HbW.out.trans (hb5.mono HbW.out.size))
      clear hb5
      go_wp2
      go_ret
      exact ⟨rfl, Hb5.out⟩
end Go.Proofs.Ytilcahidmoaakaa
