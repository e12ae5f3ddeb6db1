/-
  The contract of the model's l9Counts.
-/
import Derived.Test.YtnmbjmocnafekaaGreatDoorE21
import Derived.Test.YtnmbjmocnafekaaGreatDoorE22
namespace Go.Proofs.YtnmbjmocnafekaaGreatDoor
open Go.RowKit

/-- What holds while a region calls, and then stores: v is the row of length L that the call gives. -/
def W26 (b : World) (a : Addr) (nv : Value) (L : Nat) (v : Value) : Nat → World → Prop
  | 0, u => Below b.heap.size b u
  | 1, u => Below b.heap.size b u ∧ ∃ A C, v = .slice A L C
  | 2, u => Below b.heap.size b u
  | _ + 3, u => ∃ u0, Below b.heap.size b u0 ∧ u = u0.setCell a nv
theorem W26.low {b u : World} {a : Addr} {nv v : Value} {L : Nat} : ∀ {j : Nat}, j ≤ 2 → W26 b a nv L v j u → Below b.heap.size b u
  | 0, _, h => h
  | 1, _, h => h.1
  | 2, _, h => h
  | _ + 3, hj, _ => absurd hj (by omega)
theorem W26.keep {b u : World} {a : Addr} {nv v : Value} {L : Nat} {g : Nat} (hg : a.block = g) : ∀ {j : Nat}, W26 b a nv L v j u → Keep g b u
  | 0, h => (Keep.refl g b).of_below h
  | 1, h => (Keep.refl g b).of_below h.1
  | 2, h => (Keep.refl g b).of_below h
  | _ + 3, ⟨u0, h, e⟩ => by
    subst e
    refine ((Keep.refl g b).of_below h).trans ⟨⟨rfl, rfl, rfl, by simp [World.setCell], fun j _ hb => Below.heap_setCell _ _ _ _ (fun e => hb ?_)⟩⟩
    rw [e, hg]
theorem typesB_at {y : Sy} (hy : SyOk y) {a b : Int} (ha : 0 ≤ a ∧ a < y.ty.sizes.length) (hb : 0 ≤ b ∧ b < y.ty.sizes.length) : typesB y.ty a b = true := by
  unfold typesB
  rw [hy.ty, show ixB a y.ty.sizes.length = true by unfold ixB; exact decide_eq_true ha, show ixB b y.ty.sizes.length = true by unfold ixB; exact decide_eq_true hb]
  rfl
theorem rowV_next {f g h : Nat → Int} {n j : Nat} {v : Int} (hj : v = g j) (hf : ∀ i, f i = if i < j then g i else h i) : (rowV f n).set j (.int .i64 v) = rowV (fun i => if i < j + 1 then g i else h i) n := by
  rw [rowV_set]
  refine rowV_congr fun i _ => ?_
  by_cases e : i = j
  · subst e
    rw [if_pos rfl, if_pos (by omega), hj]
  · rw [if_neg e, hf]
    by_cases e2 : i < j
    · rw [if_pos e2, if_pos (by omega)]
    · rw [if_neg e2, if_neg (by omega)]

/-- How many explicit terms of a call are of the first k functions, or 151. -/
noncomputable def sumC (y : Sy) (a : UInt8) (ts : List Tm) (k : Nat) (z : Int) : Nat := capN ((nmT y.fs (str [a]) (ts.length : Int) k).map (fnN y (ts.map (cntT y)) z)).sum
theorem sumC_zero (y : Sy) (a : UInt8) (ts : List Tm) (z : Int) : sumC y a ts 0 z = 0 := by unfold sumC nmT; simp [capN]
theorem sumC_miss {y : Sy} {a : UInt8} {ts : List Tm} {k : Nat} (h : ¬ ((y.fs.getD k default).name = str [a] ∧ ((y.fs.getD k default).args.length : Int) = (ts.length : Int))) (z : Int) : sumC y a ts (k + 1) z = sumC y a ts k z := by
  unfold sumC
  rw [nmT_miss h]
theorem sumC_hit {y : Sy} {a : UInt8} {ts : List Tm} {k : Nat} (hk : k < y.fs.length) (h : (y.fs.getD k default).name = str [a] ∧ ((y.fs.getD k default).args.length : Int) = (ts.length : Int)) (z : Int) : sumC y a ts (k + 1) z = capN (sumC y a ts k z + capN (prodN y.fs[k].args (ts.map (cntT y)) 0) * capN (waysOf y.ty y.fs[k].res z).length) := by
  unfold sumC
  rw [nmT_hit h, List.map_append, List.sum_append, capN_add]
  have e : fnN y (ts.map (cntT y)) z ((k : Nat) : Int) = (waysOf y.ty y.fs[k].res z).length * prodN y.fs[k].args (ts.map (cntT y)) 0 := by
    unfold fnN wayN argsOf
    simp [hk]
  simp only [List.map_cons, List.map_nil, List.sum_cons, List.sum_nil, Nat.add_zero]
  rw [e, ← capN_addr, ← capN_addr _ (capN _ * capN _), capN_mul, capN_mulr, Nat.mul_comm]
set_option maxRecDepth 100000 in
set_option maxHeartbeats 1000000 in
theorem l9Counts_any (lo hi : Nat) (sv cv fv : Value) (y : Sy) (hy : SyOk y) (_hbk : y.bulk ≤ 1048576) : ∀ (q : Nat) (t : Tm) (w : World), (tmT t).length ≤ q → (tmT t).length ≤ 60 → TmOk t → SyAt w lo hi sv cv fv y → hi ≤ w.heap.size →
    Calls Tryz.prog 50 #[.agg #[sv, cv, fv], .string (str (tmT t))] w fun e w' => ∃ r, e = .returned r ∧ Below w.heap.size w w' ∧ IntsAt w' w.heap.size w'.heap.size r (rowT y t) := by
  intro q
  induction q with
  | zero =>
    intro t w hq
    exact absurd hq (by cases t <;> simp [tmT])
  | succ q ih =>
    intro t w hq hm hok hv hB
    cases hc : isCallT t with
    | false =>
      cases t with
      | c0 n => cases hc
      | c1 n a => cases hc
      | c2 n a b => cases hc
      | lit k v => exact l9Lit_any lo hi sv cv fv y hy k v hok _ rfl w hv hB
    | true =>
      obtain ⟨A1, cap1, rfl, _, _, _⟩ := hv.1.1.form
      obtain ⟨A2, cap2, rfl, _, _, _⟩ := hv.1.2.form
      obtain ⟨A3, cap3, rfl, _, hm3, _⟩ := hv.2.form
      have IH := Lib.hid ih
      clear ih
      obtain ⟨a, c, r, hLe, hhd⟩ := tmT_second hok
      have hh := (hhd hc).1
      have hsz := str_size (tmT t)
      have hl3 : 2 < (tmT t).length := by rw [hLe]; simp
      have b1 : ∀ h, (str (tmT t))[1]'h = 40 := by rw [hLe, hc]; exact fun _ => rfl
      have hx1 : Hid ((str (tmT t)).extract 0 1 = str [a]) := by show _ = _; rw [str_take6, hLe]; rfl
      obtain ⟨i0, hi0, hz0, hz1, hz2⟩ := info_parts Tryz.infoInt
      obtain ⟨j0, hj0, hy0, hy1, hy2⟩ := info_parts (show (Tryz.prog.info? 22).map (fun i => (i.zero, i.size, i.bytes)) = some (some (.slice none 0 0), 1, 24) by kernel_rfl)
      have hsz1 := sizesOk_of (tyOk_sizes hy.ty)
      have hn5 := hsz1.2.1
      have hn1 := hsz1.1
      obtain ⟨W0, hW0⟩ : ∃ u, u = w.alloc (.cells #[.slice A1 y.ty.sizes.length cap1, .slice A2 y.ty.cos.length cap2, .slice A3 y.fs.length cap3] 36) := ⟨_, rfl⟩
      have h0s : W0.heap.size = w.heap.size + 1 := by rw [hW0]; simp
      have hb0 : Below w.heap.size w W0 := by rw [hW0]; exact (Below.refl _ _).alloc (Nat.le_refl _) _
      have p : Row W0 w.heap.size 36 [.slice A1 y.ty.sizes.length cap1, .slice A2 y.ty.cos.length cap2, .slice A3 y.fs.length cap3] := by rw [hW0]; exact Row.new _ _ _
      obtain ⟨W1, hW1⟩ : ∃ u, u = W0.alloc (.cells (List.replicate y.ty.sizes.length (Value.int .i64 0)).toArray 3) := ⟨_, rfl⟩
      have h1s : W1.heap.size = w.heap.size + 2 := by rw [hW1]; simp [h0s]
      have HB1 : Hid (Below w.heap.size w W1) := by show Below _ _ _; rw [hW1]; exact hb0.alloc (by omega) _
      have HP1 : Hid (Row W1 w.heap.size 36 [.slice A1 y.ty.sizes.length cap1, .slice A2 y.ty.cos.length cap2, .slice A3 y.fs.length cap3]) := by show Row _ _ _ _; rw [hW1]; exact p.alloc _
      have HQ1 : Hid (Row W1 (w.heap.size + 1) 3 (rowV (fun _ => 0) y.ty.sizes.length)) := by
        show Row _ _ _ _
        rw [hW1, ← h0s, ← rowV_zero]
        exact Row.new _ _ _
      have hmk : (Instr.makeSlice 22 (.int .i64 y.ty.sizes.length) (.int .i64 y.ty.sizes.length)).run Tryz.prog W0 = .ok (.slice (some ⟨w.heap.size + 1, 0, none⟩) y.ty.sizes.length y.ty.sizes.length) W1 := by
        have h := run_make (P := Tryz.prog) W0 22 3 i0 _ Tryz.underlying22 hi0 hz0 .i64 .i64 (y.ty.sizes.length : Int) (y.ty.sizes.length : Int) (by omega) (Int.le_refl _) (by rw [hz2]; omega) (by omega)
        simp only [Int.toNat_natCast, hz1, Nat.mul_one] at h
        have e : (Value.int .i64 0).cells = #[Value.int .i64 0] := rfl
        rw [e, madeCells_one, h0s, ← hW1] at h
        exact h
      obtain ⟨W2, hW2⟩ : ∃ u, u = W1.alloc (.cells #[] 22) := ⟨_, rfl⟩
      have h2s : W2.heap.size = w.heap.size + 3 := by rw [hW2]; simp [h1s]
      have hb12 : Below W1.heap.size W1 W2 := by rw [hW2]; exact (Below.refl _ _).alloc (Nat.le_refl _) _
      have HX2 : Hid (Below (w.heap.size + 2) W1 W2) := hb12.mono (by omega)
      have HR2 : Hid (WaysAt W2 (w.heap.size + 2) (.slice (some ⟨w.heap.size + 2, 0, none⟩) 0 0) []) := by
        show WaysAt _ _ _ _
        rw [hW2, ← h1s]
        exact waysAt_nil (World.ownsRow_lit W1 #[] 0 (Nat.le_refl _) (by unfold maxLen; omega) rfl)
      have HPARTS := Lib.hid (l6Parts_any t hok hc W2 (by omega))
      obtain ⟨ts, hts⟩ : ∃ ts, ts = partsT t := ⟨_, rfl⟩
      have hall : Hid (∀ p ∈ ts, (tmT p).length + 3 ≤ (tmT t).length ∧ TmOk p) := fun p hp => ⟨partsT_len (by rw [← hts]; exact hp), partsT_ok hok (by rw [← hts]; exact hp)⟩
      have hlen2 : ts.length ≤ 2 := by rw [hts]; exact partsT_two t
      have HCNT : Hid (∀ z : Int, capN (((namedV y (str [a]) (ts.length : Int)).map (fnN y (ts.map (cntT y)) z)).sum) = cntT y t z) := by
        intro z
        rw [cntT_call y hc hh z, ← hts]
        unfold callN
        rw [List.length_map]
      rw [← hts] at HPARTS
      have p0 := p.cell 0
      simp only [List.getElem?_cons_zero] at p0
      rw [hW0] at p0 hmk
      have HV := Lib.hid hv
      obtain ⟨L, hL⟩ : ∃ L, L = tmT t := ⟨_, rfl⟩
      rw [← hL] at b1 hl3 hsz HPARTS hall hm hq hx1 ⊢
      clear hc hLe hts hL hhd hh hok hv hsz1 p hb0 hW1 hW0 hb12
      go_enter Tryz.func50, Tryz.ntmps50
      go_wp2_with fail
      rw [← hW2]
      refine HPARTS.out.mono ?_
      clear hW2 p0 hmk
      rintro e w3 ⟨v, rfl, hb3, hown⟩
      obtain ⟨PA, PC, rfl⟩ := own_slice' hown
      have HX3 : Hid (Below (w.heap.size + 2) W1 w3) := HX2.out.trans (hb3.mono (by omega))
      have hw3s := hb3.size
      have HR3 : Hid (WaysAt w3 (w.heap.size + 2) (.slice (some ⟨w.heap.size + 2, 0, none⟩) 0 0) []) := HR2.out.below hb3
      have Hown := Lib.hid hown
      clear hown hb3 HX2 HR2 HPARTS
      go_wp2_with fail
      go_loopw [10, 60] (fun p i wr => ∃ (k : Nat), k ≤ ts.length ∧ i = .int .i64 k ∧ w3.heap.size ≤ wr.heap.size ∧ Hid (Below (w.heap.size + 2) W1 wr) ∧ Hid (∀ g, w.heap.size + 3 ≤ g → g < w3.heap.size → wr.heap[g]? = w3.heap[g]?) ∧ Hid (WaysAt wr (w.heap.size + 2) p ((ts.take k).map (rowT y))) ∧ Hid (AtB (w.heap.size + 2) w3.heap.size p)) (fun _ i _ => ts.length - (intOf i).toNat)
      case atStart =>
        refine ⟨0, Nat.zero_le _, rfl, Nat.le_refl _, HX3.out, fun _ _ _ => rfl, HR3.out, ?_⟩
        intro g hg
        simp only [Value.ownBlock, Option.some.injEq] at hg
        exact .inl hg.symm
      case round =>
        obtain ⟨k, hk, rfl, hsr, hxr, hmid, hrr, hap⟩ := hrel
        have hrx := HP1.out.below hxr.out (by omega)
        have q0 := hrx.cell 0
        have q1 := hrx.cell 1
        have q2 := hrx.cell 2
        simp only [List.getElem?_cons_zero, List.getElem?_cons_succ] at q0 q1 q2
        by_cases hkl : k < ts.length
        · obtain ⟨g, hPA, hg3, hgw, _, hcells⟩ := own_cells Hown.out (by omega)
          have hck : wr.cell? ⟨g, k, none⟩ = some (.string (str (tmT ts[k]))) := (World.cell?_of_block (w := w3) (hmid.out g (by omega) hgw)).trans ((hcells k hkl).trans (by simp [strV, hkl]))
          obtain ⟨hpl, hpo⟩ := hall.out ts[k] (List.getElem_mem hkl)
          have hbw : Below w.heap.size w wr := HB1.out.trans (hxr.out.mono (by omega))
          have HC := Lib.hid (IH.out ts[k] wr (by omega) (by omega) hpo (HV.out.below hbw hB) (by omega))
          subst hPA
          have hmap : Hid ((ts.take k).map (rowT y) ++ [rowT y ts[k]] = (ts.take (k + 1)).map (rowT y)) := by show _ = _; rw [List.take_succ_eq_append_getElem hkl, List.map_append]; rfl
          obtain ⟨RZ, hRZ⟩ : ∃ z, z = rowT y ts[k] := ⟨_, rfl⟩
          rw [← hRZ] at HC hmap
          generalize tmT ts[k] = X at hck HC hpl
          obtain ⟨xs, S, ho, hread, hS⟩ := hrr.out
          obtain ⟨zss, hzs⟩ : ∃ z, z = (ts.take k).map (rowT y) := ⟨_, rfl⟩
          have hzl : zss.length = k := by rw [hzs, List.length_map, List.length_take]; omega
          rw [← hzs] at ho hread hmap
          have HO := Lib.hid ho
          have HRD := Lib.hid hread
          have HSS := Lib.hid hS
          obtain ⟨PA2, PC2, rfl⟩ := own_slice' ho
          have HZL := Lib.hid hzl
          have HO' : Hid (wr.ownsRow (w.heap.size + 2) 22 1 (.slice PA2 k PC2) zss.length xs) := by have h := HO.out; rw [hzl] at h ⊢; exact h
          have HS' : Hid (∀ b, S b → w.heap.size + 2 ≤ b ∧ b < wr.heap.size ∧ some b ≠ (Value.slice PA2 k PC2).ownBlock) := by have h := HSS.out; rw [hzl] at h; exact h
          have hap' : Hid (AtB (w.heap.size + 2) w3.heap.size (.slice PA2 k PC2)) := by have h := hap.out; rw [hzl] at h; exact h
          clear hcells hpo hRZ hrr ho hread hS hzs hzl hpl hbw hap HSS
          rw [HZL.out]
          go_wp2_with fail
          refine HC.out.mono ?_
          rintro e w5 ⟨x, rfl, hb5, hx⟩
          have hs5 := hb5.size
          have HX5 : Hid (Below (w.heap.size + 2) W1 w5) := hxr.out.trans (hb5.mono (by omega))
          have HO5 : Hid (w5.ownsRow (w.heap.size + 2) 22 1 (.slice PA2 k PC2) zss.length xs) := by have h := ownsRow_below HO.out hb5 (Nat.le_refl _); rw [HZL.out] at h ⊢; exact h
          have HM5 : Hid (∀ g, w.heap.size + 3 ≤ g → g < w3.heap.size → w5.heap[g]? = w3.heap[g]?) := fun g h1 h2 => (hb5.block g (by omega)).trans (hmid.out g h1 h2)
          have HB5 := Lib.hid hb5
          have HXI := Lib.hid hx
          obtain ⟨XA, XC, rfl, _, _, _⟩ := hx.form
          clear hb5 hx q0 q1 q2 hrx hck HC hmid hxr
          go_wp2_with (at_builtin; refine wpList_push rfl (.tmp 64) (.tmp 68) 71 rfl j0 (.slice none 0 0) 24 Tryz.underlying71 hj0 hy0 hy1 hy2 rfl rfl (HO5.out.alloc _) ⟨w5.heap.size, 0, none⟩ 1 (.slice XA RZ.length XC) rfl (by simp [go_sem]) rfl (by unfold maxLen; have := HZL.out; omega) (by have := HZL.out; omega) (by simp; omega) ?_)
          intro p6 w6 hpu
          have hs6 : w5.heap.size + 1 ≤ w6.heap.size := by have := hpu.grown.size; simpa using this
          have hal : Below w5.heap.size w5 (w5.alloc (.cells #[.slice XA RZ.length XC] 22)) := (Below.refl _ _).alloc (Nat.le_refl _) _
          have HX6 : Hid (Below (w.heap.size + 2) W1 w6) := hpu.below (HO5.out.alloc _) (HX5.out.trans (hal.mono (by omega))) (by simp; omega)
          have HA6 : Hid (AtB (w.heap.size + 2) w3.heap.size p6) := hap'.out.push hpu (by simp; omega)
          have HM6 : Hid (∀ g, w.heap.size + 3 ≤ g → g < w3.heap.size → w6.heap[g]? = w3.heap[g]?) := hpu.mid (a := w.heap.size + 3) (fun g h1 h2 => (hal.block g (by omega)).trans (HM5.out g h1 h2)) (by simp; omega) hap'.out (by omega)
          have HR6 : Hid (WaysAt w6 (w.heap.size + 2) p6 ((ts.take (k + 1)).map (rowT y))) := by
            have h := rows_push (w := wr) (w1 := w5) (zss := zss) (z := RZ) _ HO'.out HRD.out HS'.out HB5.out HXI.out hpu (by omega)
            rw [hmap.out] at h
            exact h
          clear hpu hal HO5 HM5 hap' HXI HB5 HS' HO' HRD HO
          go_wp2
          go_roundw
          case rel => exact ⟨k + 1, by omega, by go_num, by omega, HX6.out, HM6.out, HR6.out, HA6.out⟩
          case measure => simp [intOf]; omega
        · obtain rfl : k = ts.length := by omega
          rw [List.take_length] at hrr
          clear hmid hap Hown
          obtain ⟨w7, rfl⟩ : ∃ u, u = wr := ⟨_, rfl⟩
          obtain ⟨xs, S, ho, hread0, hS⟩ := hrr.out
          rw [List.length_map] at ho
          have HRD : Hid (∀ i, ∀ (h : i < ts.length), ∃ x, xs[i]? = some x ∧ IntsIn w7 S x (rowT y ts[i])) := fun i h => by
            obtain ⟨x, h1, h2⟩ := hread0 i (by simpa using h)
            exact ⟨x, h1, by simpa using h2⟩
          obtain ⟨RA, RC, rfl⟩ := own_slice' ho
          have HO7 := Lib.hid ho
          have HS7 := Lib.hid hS
          have hQ7 := HQ1.out.below hxr.out (by omega)
          have HQ7 := Lib.hid hQ7
          have HP7 := Lib.hid hrx
          have HB7 : Hid (Below w.heap.size w w7) := HB1.out.trans (hxr.out.mono (by omega))
          have hs7 := hrx.lt
          have hs7b := hQ7.lt
          clear hrr ho hread0 hS hQ7 hrx hxr q0 q1 q2
          have q2 := HP7.out.cell 2
          simp only [List.getElem?_cons_zero, List.getElem?_cons_succ] at q2
          have hfew := hy.few
          go_wp2_with fail
          clear q2
          go_loopw [74] (fun ix wx => ∃ k : Nat, k ≤ y.fs.length ∧ ix = .int .i64 k ∧ w7.heap.size ≤ wx.heap.size ∧ Hid (Below w.heap.size w wx) ∧ Hid (∀ g, w.heap.size + 2 ≤ g → g < w7.heap.size → wx.heap[g]? = w7.heap[g]?) ∧ Hid (Row wx w.heap.size 36 [.slice A1 y.ty.sizes.length cap1, .slice A2 y.ty.cos.length cap2, .slice A3 y.fs.length cap3]) ∧ Hid (Row wx (w.heap.size + 1) 3 (rowV (fun j => ((sumC y a ts k (j : Int) : Nat) : Int)) y.ty.sizes.length))) (fun ix _ => y.fs.length - (intOf ix).toNat)
          case atStart => exact ⟨0, Nat.zero_le _, rfl, Nat.le_refl _, HB7.out, fun _ _ _ => rfl, HP7.out, by show Row _ _ _ _; simpa [sumC_zero] using HQ7.out⟩
          case round =>
            obtain ⟨k, hk, rfl, hsx, hbx, hmx, hpx, hqx⟩ := hrel
            obtain ⟨wx, rfl⟩ : ∃ u, u = wr := ⟨_, rfl⟩
            have hpl := hpx.out.lt
            have hql := hqx.out.lt
            by_cases hkl : k < y.fs.length
            · have hvx := HV.out.below hbx.out hB
              obtain ⟨fb, foff, B1, cb1, B2, cb2, rfl, hfb1, hfb2, k0, k1, k2, k3, _, _, _, _, hfa⟩ := hvx.2.at_ hkl
              have HFA := Lib.hid hfa.2.2.2.2.1
              have HVX := Lib.hid hvx
              obtain ⟨Wb, hWb⟩ : ∃ u, u = wx.alloc (.cells #[.string y.fs[k].name, .slice B1 y.fs[k].args.length cb1, .int .i64 y.fs[k].res, .slice B2 y.fs[k].table.length cb2] 111) := ⟨_, rfl⟩
              have hWbs : Wb.heap.size = wx.heap.size + 1 := by rw [hWb]; simp
              have HBb : Hid (Below wx.heap.size wx Wb) := by show Below _ _ _; rw [hWb]; exact (Below.refl _ _).alloc (Nat.le_refl _) _
              have hrf : Row Wb wx.heap.size 111 [.string y.fs[k].name, .slice B1 y.fs[k].args.length cb1, .int .i64 y.fs[k].res, .slice B2 y.fs[k].table.length cb2] := by rw [hWb]; exact Row.new _ _ _
              have HRF := Lib.hid hrf
              have d0 := hrf.cell 0
              have d1 := hrf.cell 1
              simp only [List.getElem?_cons_zero, List.getElem?_cons_succ] at d0 d1
              have hkI : (k : Int) < (y.fs.length : Int) := by omega
              rw [hWb] at d0 d1
              have HG : Hid (y.fs.getD k default = y.fs[k]) := getD_of hkl
              have hxe := hx1.out
              have HX1 := Lib.hid hxe
              clear hvx hfa hrf hx1
              by_cases he : y.fs[k].name = str [a]
              · have hnm : y.fs[k].name.toList = ((str L).extract 0 1).toList := by rw [HX1.out, he]
                by_cases hq2 : ((y.fs[k].args.length : Nat) : Int) = ts.length
                · have hal : y.fs[k].args.length = ts.length := by omega
                  have htest : ((y.fs[k].args.length : Int) != (ts.length : Int)) = false := by simp; omega
                  have hst : Hid (∀ j : Int, sumC y a ts (k + 1) j = capN (sumC y a ts k j + capN (prodN y.fs[k].args (ts.map (cntT y)) 0) * capN (waysOf y.ty y.fs[k].res j).length)) := fun j => sumC_hit hkl (by rw [HG.out]; exact ⟨he, hq2⟩) j
                  have HAL := Lib.hid hal
                  clear hxe he hq2 hal
                  go_wp2_with fail
                  go_quiet (fail)
                  rw [← hWb]
                  obtain ⟨Wd, hWd⟩ : ∃ u, u = Wb.drewN nq := ⟨_, rfl⟩
                  rw [← hWd]
                  have HBd : Hid (Below wx.heap.size wx Wd) := by show Below _ _ _; rw [hWd]; exact below_drewN HBb.out _
                  have hds : Wd.heap.size = wx.heap.size + 1 := by rw [hWd]; exact hWbs
                  have HRd : Hid (Row Wd wx.heap.size 111 [.string y.fs[k].name, .slice B1 y.fs[k].args.length cb1, .int .i64 y.fs[k].res, .slice B2 y.fs[k].table.length cb2]) := by show Row _ _ _ _; rw [hWd]; exact HRF.out
                  have HBw : Hid (Below w.heap.size w Wd) := hbx.out.trans (HBd.out.mono hbx.out.size)
                  have HPd : Hid (Row Wd w.heap.size 36 [.slice A1 y.ty.sizes.length cap1, .slice A2 y.ty.cos.length cap2, .slice (some ⟨fb, foff, none⟩) y.fs.length cap3]) := hpx.out.below HBd.out hpl
                  have HQd : Hid (Row Wd (w.heap.size + 1) 3 (rowV (fun j => ((sumC y a ts k (j : Int) : Nat) : Int)) y.ty.sizes.length)) := hqx.out.below HBd.out hql
                  have HMd : Hid (∀ g, w.heap.size + 2 ≤ g → g < w7.heap.size → Wd.heap[g]? = w7.heap[g]?) := fun g h1 h2 => (HBd.out.block g (by omega)).trans (hmx.out g h1 h2)
                  have HC := Lib.hid (l9Product_any lo hi (w.heap.size + 2) y ts y.fs[k].args (.string y.fs[k].name) (.slice B1 y.fs[k].args.length cb1) (.slice RA ts.length RC) y.fs[k].res (.slice B2 y.fs[k].table.length cb2) xs S Wd (HFA.out.keep fun b _ hb => HBd.out.block b (by have := hbx.out.size; omega)) (by have := hbx.out.size; omega) HAL.out hlen2 (fun z hz => by obtain ⟨i, hi, rfl⟩ := List.mem_iff_getElem.1 hz; exact (hy.each k hkl).args i hi)
                    (own_same HO7.out fun g h1 h2 => HMd.out g h1 h2) (fun i hi => by obtain ⟨x, h1, h2⟩ := HRD.out i hi; exact ⟨x, h1, h2.keep fun b hb => HMd.out b (HS7.out b hb).1 (HS7.out b hb).2.1⟩) (fun b hb => by have := (HS7.out b hb).2.1; omega))
                  have d0 := HRd.out.cell 0
                  have d1 := HRd.out.cell 1
                  have d2 := HRd.out.cell 2
                  have d3 := HRd.out.cell 3
                  simp only [List.getElem?_cons_zero, List.getElem?_cons_succ] at d0 d1 d2 d3
                  obtain ⟨PK, hPK⟩ : ∃ p, p = capN (prodN y.fs[k].args (ts.map (cntT y)) 0) := ⟨_, rfl⟩
                  have hPl : PK ≤ 151 := by rw [hPK]; exact capN_le _
                  rw [← hPK] at HC hst
                  clear hWb hWd hPK hnm htest
                  go_wp2_with fail
                  refine HC.out.mono ?_
                  clear HC d0 d1 d2 d3
                  rintro e w8 ⟨rfl, hb8⟩
                  have hs8 := hb8.size
                  have HB8 : Hid (Below w.heap.size w w8) := HBw.out.trans (hb8.mono HBw.out.size)
                  have HP8 : Hid (Row w8 w.heap.size 36 [.slice A1 y.ty.sizes.length cap1, .slice A2 y.ty.cos.length cap2, .slice (some ⟨fb, foff, none⟩) y.fs.length cap3]) := HPd.out.below hb8 (by omega)
                  have HQ8 : Hid (Row w8 (w.heap.size + 1) 3 (rowV (fun j => ((sumC y a ts k (j : Int) : Nat) : Int)) y.ty.sizes.length)) := HQd.out.below hb8 (by omega)
                  have HM8 : Hid (∀ g, w.heap.size + 2 ≤ g → g < w7.heap.size → w8.heap[g]? = w7.heap[g]?) := fun g h1 h2 => (hb8.block g (by omega)).trans (HMd.out g h1 h2)
                  have HR8 : Hid (Row w8 wx.heap.size 111 [.string y.fs[k].name, .slice B1 y.fs[k].args.length cb1, .int .i64 y.fs[k].res, .slice B2 y.fs[k].table.length cb2]) := HRd.out.below hb8 (by omega)
                  clear hb8
                  go_wp2_with fail
                  go_loopw [96] (fun ix wi => ∃ j : Nat, j ≤ y.ty.sizes.length ∧ ix = .int .i64 j ∧ w8.heap.size ≤ wi.heap.size ∧ Hid (Below w.heap.size w wi) ∧ Hid (∀ g, w.heap.size + 2 ≤ g → g < w7.heap.size → wi.heap[g]? = w7.heap[g]?) ∧ Hid (Row wi w.heap.size 36 [.slice A1 y.ty.sizes.length cap1, .slice A2 y.ty.cos.length cap2, .slice (some ⟨fb, foff, none⟩) y.fs.length cap3]) ∧ Hid (Row wi wx.heap.size 111 [.string y.fs[k].name, .slice B1 y.fs[k].args.length cb1, .int .i64 y.fs[k].res, .slice B2 y.fs[k].table.length cb2]) ∧ Hid (Row wi (w.heap.size + 1) 3 (rowV (fun i => if i < j then ((sumC y a ts (k + 1) (i : Int) : Nat) : Int) else ((sumC y a ts k (i : Int) : Nat) : Int)) y.ty.sizes.length))) (fun ix _ => y.ty.sizes.length - (intOf ix).toNat)
                  case atStart => exact ⟨0, Nat.zero_le _, rfl, Nat.le_refl _, HB8.out, HM8.out, HP8.out, HR8.out, by show Row _ _ _ _; simpa using HQ8.out⟩
                  case round =>
                    obtain ⟨j, hj, rfl, hsi, hbi, hmi, hpi, hri, hqi⟩ := hrel
                    obtain ⟨wi, rfl⟩ : ∃ u, u = wr := ⟨_, rfl⟩
                    by_cases hjl : j < y.ty.sizes.length
                    · have hjI : (j : Int) < (y.ty.sizes.length : Int) := by omega
                      have hpl9 := hpi.out.lt
                      have hql9 := hqi.out.lt
                      have hrl9 := hri.out.lt
                      have HLD : Hid (∀ u, Keep (w.heap.size + 1) wi u → u.cell? ⟨w.heap.size, 0, none⟩ = some (.slice A1 y.ty.sizes.length cap1) ∧ u.cell? ⟨w.heap.size, 1, none⟩ = some (.slice A2 y.ty.cos.length cap2) ∧ u.cell? ⟨wx.heap.size, 2, none⟩ = some (.int .i64 y.fs[k].res)) := fun u hu => by
                        have h1 := hpi.out.keep (hu.block hpl9 (by omega))
                        have h2 := hri.out.keep (hu.block hrl9 (by omega))
                        exact ⟨h1.cell 0, h1.cell 1, h2.cell 2⟩
                      obtain ⟨WN, hWN⟩ : ∃ n, n = (waysOf y.ty y.fs[k].res (j : Int)).length := ⟨_, rfl⟩
                      have HWY : Hid (∀ u, Below wi.heap.size wi u → Calls Tryz.prog 88 #[.agg #[.slice A1 y.ty.sizes.length cap1, .slice A2 y.ty.cos.length cap2], .int .i64 y.fs[k].res, .int .i64 (j : Int)] u fun e w' => ∃ OA OC, e = .returned (.slice OA WN OC) ∧ Below u.heap.size u w') := fun u hu => by
                        refine (l2Ways_any lo hi _ _ y.ty y.fs[k].res (j : Int) u (HV.out.below (hbi.out.trans (hu.mono (by omega))) hB).1 (by have := hu.size; omega) (typesB_at hy (hy.each k hkl).res ⟨by omega, hjI⟩)).mono ?_
                        rintro e w4 ⟨ov, rfl, hb4, xs9, S9, hov, -⟩
                        obtain ⟨OA, OC, rfl⟩ := own_slice' hov
                        exact ⟨OA, OC, by rw [hWN], hb4⟩
                      obtain ⟨SK, hSK⟩ : ∃ n, n = sumC y a ts k (j : Int) := ⟨_, rfl⟩
                      obtain ⟨MW, hMW⟩ : ∃ n, n = capN WN := ⟨_, rfl⟩
                      obtain ⟨QM, hQM⟩ : ∃ n, n = PK * MW := ⟨_, rfl⟩
                      obtain ⟨NV, hNV⟩ : ∃ n, n = capN (SK + QM) := ⟨_, rfl⟩
                      have HNV : Hid (sumC y a ts (k + 1) (j : Int) = NV) := by show _ = _; rw [hst.out, ← hSK, ← hWN, ← hMW, ← hQM, ← hNV]
                      have HOLD : Hid ((rowV (fun i => if i < j then ((sumC y a ts (k + 1) (i : Int) : Nat) : Int) else ((sumC y a ts k (i : Int) : Nat) : Int)) y.ty.sizes.length)[j]? = some (.int .i64 ((SK : Nat) : Int))) := by show _ = _; rw [rowV_at _ hjl, if_neg (by omega), hSK]
                      have hSK1 : SK ≤ 151 := by rw [hSK]; exact capN_le _
                      have hMW1 : MW ≤ 151 := by rw [hMW]; exact capN_le _
                      have hQM1 : QM ≤ 22801 := by rw [hQM]; exact Nat.mul_le_mul hPl hMW1
                      have hmw : min ((WN : Nat) : Int) 151 = ((MW : Nat) : Int) := by rw [hMW]; exact capI' _
                      have hwr : IntKind.i64.wrap (((PK : Nat) : Int) * ((MW : Nat) : Int)) = ((QM : Nat) : Int) := by
                        have e : ((PK : Nat) : Int) * ((MW : Nat) : Int) = ((QM : Nat) : Int) := by rw [hQM]; simp
                        rw [e]
                        exact wrapIn _ (by omega) (by omega)
                      have hmn : min (IntKind.i64.wrap (((SK : Nat) : Int) + ((QM : Nat) : Int))) 151 = ((NV : Nat) : Int) := by
                        rw [wrapIn _ (by omega) (by omega)]
                        have h := capI' (SK + QM)
                        rw [← hNV] at h
                        rw [← h]
                        simp
                      clear hWN hSK hMW hQM hNV
                      go_wp2_with fail
                      have HST : Hid (W26 wi ⟨w.heap.size + 1, j, none⟩ (.int .i64 ((NV : Nat) : Int)) WN undef 0 wi.drew) := (Below.refl _ _).drew
                      refine wp_region_inv (by kernel_rfl) (fun dn ac u => ∃ x99 x100 x101 x102 x103 x104 x105 x106 x107 x108 x109 x110 x111 x112 x113 x114 x115 x116 x117 x118 x119 y21, ac = ⟨List.toArray (.agg #[.slice A1 y.ty.sizes.length cap1, .slice A2 y.ty.cos.length cap2, .slice (some ⟨fb, foff, none⟩) y.fs.length cap3] :: .string (str L) :: .pointer (some ⟨w.heap.size, 0, none⟩) :: undef :: .slice none 0 0 :: .slice (some ⟨w.heap.size + 1, 0, none⟩) y.ty.sizes.length y.ty.sizes.length :: .int .i64 151 :: undef :: undef :: undef :: .slice RA ts.length RC :: undef :: u12 :: undef :: .pointer (some ⟨wx.heap.size, 0, none⟩) :: .int .i64 ((PK : Nat) : Int) :: .int .i64 ((j : Nat) : Int) :: .pointer (some ⟨w.heap.size, 0, none⟩) :: .pointer (some ⟨w.heap.size, 0, none⟩) :: .slice A1 y.ty.sizes.length cap1 :: .int .i64 ((y.ty.sizes.length : Nat) : Int) :: .slice (some ⟨w.heap.size + 1, 0, none⟩) y.ty.sizes.length y.ty.sizes.length :: .string (str L) :: .int .u8 40 :: .bool false :: undef :: undef :: undef :: undef :: undef :: undef :: undef :: undef :: undef :: undef :: undef :: undef :: undef :: undef :: undef :: undef :: undef :: undef :: undef :: undef :: undef :: undef :: undef :: undef :: undef :: undef :: undef :: undef :: undef :: undef :: undef :: .slice (some ⟨w.heap.size + 2, 0, none⟩) 0 0 :: .string (str L) :: .slice PA ts.length PC :: .int .i64 ((ts.length : Nat) : Int) :: .int .i64 ((ts.length : Nat) : Int) :: .bool false :: u62 :: u63 :: u64 :: u65 :: u66 :: u67 :: u68 :: u69 :: u70 :: .pointer (some ⟨w.heap.size, 2, none⟩) :: .slice (some ⟨fb, foff, none⟩) y.fs.length cap3 :: .int .i64 ((y.fs.length : Nat) : Int) :: .int .i64 ((k : Nat) : Int) :: .bool true :: .pointer (some ⟨fb, foff + k * 4, none⟩) :: .agg #[.string y.fs[k].name, .slice B1 y.fs[k].args.length cb1, .int .i64 y.fs[k].res, .slice B2 y.fs[k].table.length cb2] :: .pointer (some ⟨wx.heap.size, 0, none⟩) :: .string y.fs[k].name :: .string (str L) :: .string ((str L).extract 0 1) :: .bool false :: .bool false :: .pointer (some ⟨wx.heap.size, 1, none⟩) :: .slice B1 y.fs[k].args.length cb1 :: .int .i64 ((y.fs[k].args.length : Nat) : Int) :: .slice RA ts.length RC :: .int .i64 ((ts.length : Nat) : Int) :: .bool false :: .bool false :: .agg #[.string y.fs[k].name, .slice B1 y.fs[k].args.length cb1, .int .i64 y.fs[k].res, .slice B2 y.fs[k].table.length cb2] :: .slice RA ts.length RC :: .int .i64 ((PK : Nat) : Int) :: .slice (some ⟨w.heap.size + 1, 0, none⟩) y.ty.sizes.length y.ty.sizes.length :: .int .i64 ((y.ty.sizes.length : Nat) : Int) :: .int .i64 ((j : Nat) : Int) :: .bool true :: .int .i64 ((j : Nat) : Int) :: x99 :: x100 :: x101 :: x102 :: x103 :: x104 :: x105 :: x106 :: x107 :: x108 :: x109 :: x110 :: x111 :: x112 :: x113 :: x114 :: x115 :: x116 :: x117 :: x118 :: x119 :: u120 :: u121 :: undef :: []), []⟩ ∧ DetQ [fun v : Value => v = .slice (some ⟨w.heap.size + 1, 0, none⟩) y.ty.sizes.length y.ty.sizes.length, fun v : Value => v = .int .i64 ((j : Nat) : Int), fun v : Value => v = .slice (some ⟨w.heap.size + 1, 0, none⟩) y.ty.sizes.length y.ty.sizes.length, fun v : Value => v = .int .i64 ((j : Nat) : Int), fun v : Value => v = .pointer (some ⟨w.heap.size + 1, j, none⟩), fun v : Value => v = .int .i64 ((SK : Nat) : Int), fun v : Value => v = .int .i64 ((PK : Nat) : Int), fun v : Value => v = .pointer (some ⟨w.heap.size, 0, none⟩), fun v : Value => v = .agg #[.slice A1 y.ty.sizes.length cap1, .slice A2 y.ty.cos.length cap2], fun v : Value => v = .pointer (some ⟨wx.heap.size, 2, none⟩), fun v : Value => v = .int .i64 y.fs[k].res, fun v : Value => v = .int .i64 ((j : Nat) : Int), fun v : Value => True, fun v : Value => v = .int .i64 ((WN : Nat) : Int), fun v : Value => v = .int .i64 151, fun v : Value => v = .int .i64 ((MW : Nat) : Int), fun v : Value => v = .int .i64 ((QM : Nat) : Int), fun v : Value => v = .int .i64 (IntKind.i64.wrap (((SK : Nat) : Int) + ((QM : Nat) : Int))), fun v : Value => v = .int .i64 151, fun v : Value => v = .int .i64 ((NV : Nat) : Int), fun v : Value => v = .pointer (some ⟨w.heap.size + 1, j, none⟩), fun v : Value => True] dn [x99, x100, x101, x102, x103, x104, x105, x106, x107, x108, x109, x110, x111, x112, x113, x114, x115, x116, x117, x118, x119, y21] ∧ Ch dn [12, 13, 21] (W26 wi ⟨w.heap.size + 1, j, none⟩ (.int .i64 ((NV : Nat) : Int)) WN x111) u ∧ (dn 21 = true → dn 19 = true) ∧ (dn 19 = true → dn 17 = true) ∧ (dn 17 = true → dn 5 = true)) (of_decide_eq_true (by kernel_rfl)) ⟨_, _, _, _, _, _, _, _, _, _, _, _, _, _, _, _, _, _, _, _, _, .bool true, rfl, DetQ.start (by rfl), Ch.start (show (W26 wi ⟨w.heap.size + 1, j, none⟩ (.int .i64 ((NV : Nat) : Int)) WN _) 0 wi.drew from HST.out), (fun h => (by cases h)), (fun h => (by cases h)), (fun h => (by cases h))⟩ ?_ ?_
                      · rintro dn ac u i8 op8 hop hfi hdep ⟨x99, x100, x101, x102, x103, x104, x105, x106, x107, x108, x109, x110, x111, x112, x113, x114, x115, x116, x117, x118, x119, y21, rfl, hD, hC, hc0, hc1, hc2⟩
                        have hil : i8 < 22 := by have := (Array.getElem?_eq_some_iff.1 hop).1; simpa using this
                        obtain rfl | rfl | rfl | rfl | rfl | rfl | rfl | rfl | rfl | rfl | rfl | rfl | rfl | rfl | rfl | rfl | rfl | rfl | rfl | rfl | rfl | rfl : i8 = 0 ∨ i8 = 1 ∨ i8 = 2 ∨ i8 = 3 ∨ i8 = 4 ∨ i8 = 5 ∨ i8 = 6 ∨ i8 = 7 ∨ i8 = 8 ∨ i8 = 9 ∨ i8 = 10 ∨ i8 = 11 ∨ i8 = 12 ∨ i8 = 13 ∨ i8 = 14 ∨ i8 = 15 ∨ i8 = 16 ∨ i8 = 17 ∨ i8 = 18 ∨ i8 = 19 ∨ i8 = 20 ∨ i8 = 21 := by omega
                        all_goals
                          obtain rfl := Option.some.inj hop
                          refine wpOp_step hop fun K hK => ?_
                          simp [Region.binds] at hdep
                          clear hop
                        · refine det_yes rfl ?_
                          have HD := Lib.hid hD
                          have HC := Lib.hid hC
                          clear hD hC
                          unfold Oper.wp
                          go_simp
                          exact hK _ _ ⟨_, _, _, _, _, _, _, _, _, _, _, _, _, _, _, _, _, _, _, _, _, y21, rfl, HD.out.step 0 rfl rfl, HC.out.other 0 (by decide), (fun h => (by have h2 := hc0; have h3 := hfi; simp at h h2 ⊢; first | done | exact h2 h | exact Or.inr (h2 h) | simp [hdep] | (rcases h with h | h; · simp_all; · exact Or.inr (h2 h)) | simp_all)), (fun h => (by have h2 := hc1; have h3 := hfi; simp at h h2 ⊢; first | done | exact h2 h | exact Or.inr (h2 h) | simp [hdep] | (rcases h with h | h; · simp_all; · exact Or.inr (h2 h)) | simp_all)), (fun h => (by have h2 := hc2; have h3 := hfi; simp at h h2 ⊢; first | done | exact h2 h | exact Or.inr (h2 h) | simp [hdep] | (rcases h with h | h; · simp_all; · exact Or.inr (h2 h)) | simp_all))⟩
                        · refine det_yes rfl ?_
                          have HD := Lib.hid hD
                          have HC := Lib.hid hC
                          clear hD hC
                          unfold Oper.wp
                          go_simp
                          exact hK _ _ ⟨_, _, _, _, _, _, _, _, _, _, _, _, _, _, _, _, _, _, _, _, _, y21, rfl, HD.out.step 1 rfl rfl, HC.out.other 1 (by decide), (fun h => (by have h2 := hc0; have h3 := hfi; simp at h h2 ⊢; first | done | exact h2 h | exact Or.inr (h2 h) | simp [hdep] | (rcases h with h | h; · simp_all; · exact Or.inr (h2 h)) | simp_all)), (fun h => (by have h2 := hc1; have h3 := hfi; simp at h h2 ⊢; first | done | exact h2 h | exact Or.inr (h2 h) | simp [hdep] | (rcases h with h | h; · simp_all; · exact Or.inr (h2 h)) | simp_all)), (fun h => (by have h2 := hc2; have h3 := hfi; simp at h h2 ⊢; first | done | exact h2 h | exact Or.inr (h2 h) | simp [hdep] | (rcases h with h | h; · simp_all; · exact Or.inr (h2 h)) | simp_all))⟩
                        · refine det_yes rfl ?_
                          have HD := Lib.hid hD
                          have HC := Lib.hid hC
                          clear hD hC
                          unfold Oper.wp
                          go_simp
                          exact hK _ _ ⟨_, _, _, _, _, _, _, _, _, _, _, _, _, _, _, _, _, _, _, _, _, y21, rfl, HD.out.step 2 rfl rfl, HC.out.other 2 (by decide), (fun h => (by have h2 := hc0; have h3 := hfi; simp at h h2 ⊢; first | done | exact h2 h | exact Or.inr (h2 h) | simp [hdep] | (rcases h with h | h; · simp_all; · exact Or.inr (h2 h)) | simp_all)), (fun h => (by have h2 := hc1; have h3 := hfi; simp at h h2 ⊢; first | done | exact h2 h | exact Or.inr (h2 h) | simp [hdep] | (rcases h with h | h; · simp_all; · exact Or.inr (h2 h)) | simp_all)), (fun h => (by have h2 := hc2; have h3 := hfi; simp at h h2 ⊢; first | done | exact h2 h | exact Or.inr (h2 h) | simp [hdep] | (rcases h with h | h; · simp_all; · exact Or.inr (h2 h)) | simp_all))⟩
                        · refine det_yes rfl ?_
                          have HD := Lib.hid hD
                          have HC := Lib.hid hC
                          clear hD hC
                          unfold Oper.wp
                          go_simp
                          exact hK _ _ ⟨_, _, _, _, _, _, _, _, _, _, _, _, _, _, _, _, _, _, _, _, _, y21, rfl, HD.out.step 3 rfl rfl, HC.out.other 3 (by decide), (fun h => (by have h2 := hc0; have h3 := hfi; simp at h h2 ⊢; first | done | exact h2 h | exact Or.inr (h2 h) | simp [hdep] | (rcases h with h | h; · simp_all; · exact Or.inr (h2 h)) | simp_all)), (fun h => (by have h2 := hc1; have h3 := hfi; simp at h h2 ⊢; first | done | exact h2 h | exact Or.inr (h2 h) | simp [hdep] | (rcases h with h | h; · simp_all; · exact Or.inr (h2 h)) | simp_all)), (fun h => (by have h2 := hc2; have h3 := hfi; simp at h h2 ⊢; first | done | exact h2 h | exact Or.inr (h2 h) | simp [hdep] | (rcases h with h | h; · simp_all; · exact Or.inr (h2 h)) | simp_all))⟩
                        · obtain rfl : x101 = .slice (some ⟨w.heap.size + 1, 0, none⟩) y.ty.sizes.length y.ty.sizes.length := hD.get (P := fun v : Value => v = .slice (some ⟨w.heap.size + 1, 0, none⟩) y.ty.sizes.length y.ty.sizes.length) 2 (by simp [hdep]) rfl rfl
                          obtain rfl : x102 = .int .i64 ((j : Nat) : Int) := hD.get (P := fun v : Value => v = .int .i64 ((j : Nat) : Int)) 3 (by simp [hdep]) rfl rfl
                          refine det_yes rfl ?_
                          have HD := Lib.hid hD
                          have HC := Lib.hid hC
                          clear hD hC
                          unfold Oper.wp
                          go_simp
                          exact hK _ _ ⟨_, _, _, _, _, _, _, _, _, _, _, _, _, _, _, _, _, _, _, _, _, y21, rfl, HD.out.step 4 rfl rfl, HC.out.other 4 (by decide), (fun h => (by have h2 := hc0; have h3 := hfi; simp at h h2 ⊢; first | done | exact h2 h | exact Or.inr (h2 h) | simp [hdep] | (rcases h with h | h; · simp_all; · exact Or.inr (h2 h)) | simp_all)), (fun h => (by have h2 := hc1; have h3 := hfi; simp at h h2 ⊢; first | done | exact h2 h | exact Or.inr (h2 h) | simp [hdep] | (rcases h with h | h; · simp_all; · exact Or.inr (h2 h)) | simp_all)), (fun h => (by have h2 := hc2; have h3 := hfi; simp at h h2 ⊢; first | done | exact h2 h | exact Or.inr (h2 h) | simp [hdep] | (rcases h with h | h; · simp_all; · exact Or.inr (h2 h)) | simp_all))⟩
                        · obtain rfl : x103 = .pointer (some ⟨w.heap.size + 1, j, none⟩) := hD.get (P := fun v : Value => v = .pointer (some ⟨w.heap.size + 1, j, none⟩)) 4 (by simp [hdep]) rfl rfl
                          have hn : dn 21 = false := by
                            cases h : dn 21 with
                            | false => rfl
                            | true => have h := hc0 h; have h := hc1 h; have h := hc2 h; rw [hfi] at h; cases h
                          obtain ⟨j8, hj8, hW⟩ := hC.early 2 (by decide) hn
                          have hbu := W26.low hj8 hW
                          clear hW
                          have d1 := ((hqi.out.below hbu hqi.out.lt).cell j).trans HOLD.out
                          refine det_yes rfl ?_
                          have HD := Lib.hid hD
                          have HC := Lib.hid hC
                          clear hD hC
                          unfold Oper.wp
                          go_simp
                          exact hK _ _ ⟨_, _, _, _, _, _, _, _, _, _, _, _, _, _, _, _, _, _, _, _, _, y21, rfl, HD.out.step 5 rfl rfl, HC.out.other 5 (by decide), (fun h => (by have h2 := hc0; have h3 := hfi; simp at h h2 ⊢; first | done | exact h2 h | exact Or.inr (h2 h) | simp [hdep] | (rcases h with h | h; · simp_all; · exact Or.inr (h2 h)) | simp_all)), (fun h => (by have h2 := hc1; have h3 := hfi; simp at h h2 ⊢; first | done | exact h2 h | exact Or.inr (h2 h) | simp [hdep] | (rcases h with h | h; · simp_all; · exact Or.inr (h2 h)) | simp_all)), (fun h => (by have h2 := hc2; have h3 := hfi; simp at h h2 ⊢; first | done | exact h2 h | exact Or.inr (h2 h) | simp [hdep] | (rcases h with h | h; · simp_all; · exact Or.inr (h2 h)) | simp_all))⟩
                        · refine det_yes rfl ?_
                          have HD := Lib.hid hD
                          have HC := Lib.hid hC
                          clear hD hC
                          unfold Oper.wp
                          go_simp
                          exact hK _ _ ⟨_, _, _, _, _, _, _, _, _, _, _, _, _, _, _, _, _, _, _, _, _, y21, rfl, HD.out.step 6 rfl rfl, HC.out.other 6 (by decide), (fun h => (by have h2 := hc0; have h3 := hfi; simp at h h2 ⊢; first | done | exact h2 h | exact Or.inr (h2 h) | simp [hdep] | (rcases h with h | h; · simp_all; · exact Or.inr (h2 h)) | simp_all)), (fun h => (by have h2 := hc1; have h3 := hfi; simp at h h2 ⊢; first | done | exact h2 h | exact Or.inr (h2 h) | simp [hdep] | (rcases h with h | h; · simp_all; · exact Or.inr (h2 h)) | simp_all)), (fun h => (by have h2 := hc2; have h3 := hfi; simp at h h2 ⊢; first | done | exact h2 h | exact Or.inr (h2 h) | simp [hdep] | (rcases h with h | h; · simp_all; · exact Or.inr (h2 h)) | simp_all))⟩
                        · refine det_yes rfl ?_
                          have HD := Lib.hid hD
                          have HC := Lib.hid hC
                          clear hD hC
                          unfold Oper.wp
                          go_simp
                          exact hK _ _ ⟨_, _, _, _, _, _, _, _, _, _, _, _, _, _, _, _, _, _, _, _, _, y21, rfl, HD.out.step 7 rfl rfl, HC.out.other 7 (by decide), (fun h => (by have h2 := hc0; have h3 := hfi; simp at h h2 ⊢; first | done | exact h2 h | exact Or.inr (h2 h) | simp [hdep] | (rcases h with h | h; · simp_all; · exact Or.inr (h2 h)) | simp_all)), (fun h => (by have h2 := hc1; have h3 := hfi; simp at h h2 ⊢; first | done | exact h2 h | exact Or.inr (h2 h) | simp [hdep] | (rcases h with h | h; · simp_all; · exact Or.inr (h2 h)) | simp_all)), (fun h => (by have h2 := hc2; have h3 := hfi; simp at h h2 ⊢; first | done | exact h2 h | exact Or.inr (h2 h) | simp [hdep] | (rcases h with h | h; · simp_all; · exact Or.inr (h2 h)) | simp_all))⟩
                        · obtain rfl : x106 = .pointer (some ⟨w.heap.size, 0, none⟩) := hD.get (P := fun v : Value => v = .pointer (some ⟨w.heap.size, 0, none⟩)) 7 (by simp [hdep]) rfl rfl
                          obtain ⟨j8, hj8, -, hW⟩ := hC.ex
                          have hq := W26.keep (g := w.heap.size + 1) rfl hW
                          clear hW
                          obtain ⟨d1, d2, d3⟩ := HLD.out u hq
                          refine det_yes rfl ?_
                          have HD := Lib.hid hD
                          have HC := Lib.hid hC
                          clear hD hC
                          unfold Oper.wp
                          go_simp
                          exact hK _ _ ⟨_, _, _, _, _, _, _, _, _, _, _, _, _, _, _, _, _, _, _, _, _, y21, rfl, HD.out.step 8 rfl rfl, HC.out.other 8 (by decide), (fun h => (by have h2 := hc0; have h3 := hfi; simp at h h2 ⊢; first | done | exact h2 h | exact Or.inr (h2 h) | simp [hdep] | (rcases h with h | h; · simp_all; · exact Or.inr (h2 h)) | simp_all)), (fun h => (by have h2 := hc1; have h3 := hfi; simp at h h2 ⊢; first | done | exact h2 h | exact Or.inr (h2 h) | simp [hdep] | (rcases h with h | h; · simp_all; · exact Or.inr (h2 h)) | simp_all)), (fun h => (by have h2 := hc2; have h3 := hfi; simp at h h2 ⊢; first | done | exact h2 h | exact Or.inr (h2 h) | simp [hdep] | (rcases h with h | h; · simp_all; · exact Or.inr (h2 h)) | simp_all))⟩
                        · refine det_yes rfl ?_
                          have HD := Lib.hid hD
                          have HC := Lib.hid hC
                          clear hD hC
                          unfold Oper.wp
                          go_simp
                          exact hK _ _ ⟨_, _, _, _, _, _, _, _, _, _, _, _, _, _, _, _, _, _, _, _, _, y21, rfl, HD.out.step 9 rfl rfl, HC.out.other 9 (by decide), (fun h => (by have h2 := hc0; have h3 := hfi; simp at h h2 ⊢; first | done | exact h2 h | exact Or.inr (h2 h) | simp [hdep] | (rcases h with h | h; · simp_all; · exact Or.inr (h2 h)) | simp_all)), (fun h => (by have h2 := hc1; have h3 := hfi; simp at h h2 ⊢; first | done | exact h2 h | exact Or.inr (h2 h) | simp [hdep] | (rcases h with h | h; · simp_all; · exact Or.inr (h2 h)) | simp_all)), (fun h => (by have h2 := hc2; have h3 := hfi; simp at h h2 ⊢; first | done | exact h2 h | exact Or.inr (h2 h) | simp [hdep] | (rcases h with h | h; · simp_all; · exact Or.inr (h2 h)) | simp_all))⟩
                        · obtain rfl : x108 = .pointer (some ⟨wx.heap.size, 2, none⟩) := hD.get (P := fun v : Value => v = .pointer (some ⟨wx.heap.size, 2, none⟩)) 9 (by simp [hdep]) rfl rfl
                          obtain ⟨j8, hj8, -, hW⟩ := hC.ex
                          have hq := W26.keep (g := w.heap.size + 1) rfl hW
                          clear hW
                          obtain ⟨d1, d2, d3⟩ := HLD.out u hq
                          refine det_yes rfl ?_
                          have HD := Lib.hid hD
                          have HC := Lib.hid hC
                          clear hD hC
                          unfold Oper.wp
                          go_simp
                          exact hK _ _ ⟨_, _, _, _, _, _, _, _, _, _, _, _, _, _, _, _, _, _, _, _, _, y21, rfl, HD.out.step 10 rfl rfl, HC.out.other 10 (by decide), (fun h => (by have h2 := hc0; have h3 := hfi; simp at h h2 ⊢; first | done | exact h2 h | exact Or.inr (h2 h) | simp [hdep] | (rcases h with h | h; · simp_all; · exact Or.inr (h2 h)) | simp_all)), (fun h => (by have h2 := hc1; have h3 := hfi; simp at h h2 ⊢; first | done | exact h2 h | exact Or.inr (h2 h) | simp [hdep] | (rcases h with h | h; · simp_all; · exact Or.inr (h2 h)) | simp_all)), (fun h => (by have h2 := hc2; have h3 := hfi; simp at h h2 ⊢; first | done | exact h2 h | exact Or.inr (h2 h) | simp [hdep] | (rcases h with h | h; · simp_all; · exact Or.inr (h2 h)) | simp_all))⟩
                        · refine det_yes rfl ?_
                          have HD := Lib.hid hD
                          have HC := Lib.hid hC
                          clear hD hC
                          unfold Oper.wp
                          go_simp
                          exact hK _ _ ⟨_, _, _, _, _, _, _, _, _, _, _, _, _, _, _, _, _, _, _, _, _, y21, rfl, HD.out.step 11 rfl rfl, HC.out.other 11 (by decide), (fun h => (by have h2 := hc0; have h3 := hfi; simp at h h2 ⊢; first | done | exact h2 h | exact Or.inr (h2 h) | simp [hdep] | (rcases h with h | h; · simp_all; · exact Or.inr (h2 h)) | simp_all)), (fun h => (by have h2 := hc1; have h3 := hfi; simp at h h2 ⊢; first | done | exact h2 h | exact Or.inr (h2 h) | simp [hdep] | (rcases h with h | h; · simp_all; · exact Or.inr (h2 h)) | simp_all)), (fun h => (by have h2 := hc2; have h3 := hfi; simp at h h2 ⊢; first | done | exact h2 h | exact Or.inr (h2 h) | simp [hdep] | (rcases h with h | h; · simp_all; · exact Or.inr (h2 h)) | simp_all))⟩
                        · obtain rfl : x107 = .agg #[.slice A1 y.ty.sizes.length cap1, .slice A2 y.ty.cos.length cap2] := hD.get (P := fun v : Value => v = .agg #[.slice A1 y.ty.sizes.length cap1, .slice A2 y.ty.cos.length cap2]) 8 (by simp [hdep]) rfl rfl
                          obtain rfl : x109 = .int .i64 y.fs[k].res := hD.get (P := fun v : Value => v = .int .i64 y.fs[k].res) 10 (by simp [hdep]) rfl rfl
                          obtain rfl : x110 = .int .i64 ((j : Nat) : Int) := hD.get (P := fun v : Value => v = .int .i64 ((j : Nat) : Int)) 11 (by simp [hdep]) rfl rfl
                          have hW := hC.at_ 0 (by decide) hfi (by intro j9 e9 _; omega)
                          refine det_yes rfl ?_
                          have HD := Lib.hid hD
                          have HC := Lib.hid hC
                          clear hD hC
                          have hbu : Below wi.heap.size wi u := hW
                          clear hW
                          unfold Oper.wp
                          go_simp
                          refine (HWY.out u hbu).mono ?_
                          rintro e u2 ⟨OA, OC, rfl, hb8⟩
                          have HW2 : (W26 wi ⟨w.heap.size + 1, j, none⟩ (.int .i64 ((NV : Nat) : Int)) WN (.slice OA WN OC)) 1 u2 := ⟨hbu.trans (hb8.mono hbu.size), _, _, rfl⟩
                          exact hK _ _ ⟨_, _, _, _, _, _, _, _, _, _, _, _, _, _, _, _, _, _, _, _, _, y21, rfl, HD.out.step 12 rfl (by trivial), HC.out.next 0 (by decide) hfi (by intro j9 e9 _; omega) (by decide) HW2, (fun h => (by have h2 := hc0; have h3 := hfi; simp at h h2 ⊢; first | done | exact h2 h | exact Or.inr (h2 h) | simp [hdep] | (rcases h with h | h; · simp_all; · exact Or.inr (h2 h)) | simp_all)), (fun h => (by have h2 := hc1; have h3 := hfi; simp at h h2 ⊢; first | done | exact h2 h | exact Or.inr (h2 h) | simp [hdep] | (rcases h with h | h; · simp_all; · exact Or.inr (h2 h)) | simp_all)), (fun h => (by have h2 := hc2; have h3 := hfi; simp at h h2 ⊢; first | done | exact h2 h | exact Or.inr (h2 h) | simp [hdep] | (rcases h with h | h; · simp_all; · exact Or.inr (h2 h)) | simp_all))⟩
                        · have hW := hC.at_ 1 (by decide) hfi (by intro j9 e9 _; have f9 : j9 = 0 := (by omega); subst f9; simp [hdep])
                          refine det_yes rfl ?_
                          have HD := Lib.hid hD
                          have HC := Lib.hid hC
                          clear hD hC
                          obtain ⟨hbu, KA, KC, rfl⟩ := hW
                          unfold Oper.wp
                          go_simp
                          have HW2 : (W26 wi ⟨w.heap.size + 1, j, none⟩ (.int .i64 ((NV : Nat) : Int)) WN (.slice KA WN KC)) 2 u := hbu
                          exact hK _ _ ⟨_, _, _, _, _, _, _, _, _, _, _, _, _, _, _, _, _, _, _, _, _, y21, rfl, HD.out.step 13 rfl (by rfl), HC.out.next 1 (by decide) hfi (by intro j9 e9 _; have f9 : j9 = 0 := (by omega); subst f9; simp [hdep]) (by decide) HW2, (fun h => (by have h2 := hc0; have h3 := hfi; simp at h h2 ⊢; first | done | exact h2 h | exact Or.inr (h2 h) | simp [hdep] | (rcases h with h | h; · simp_all; · exact Or.inr (h2 h)) | simp_all)), (fun h => (by have h2 := hc1; have h3 := hfi; simp at h h2 ⊢; first | done | exact h2 h | exact Or.inr (h2 h) | simp [hdep] | (rcases h with h | h; · simp_all; · exact Or.inr (h2 h)) | simp_all)), (fun h => (by have h2 := hc2; have h3 := hfi; simp at h h2 ⊢; first | done | exact h2 h | exact Or.inr (h2 h) | simp [hdep] | (rcases h with h | h; · simp_all; · exact Or.inr (h2 h)) | simp_all))⟩
                        · refine det_yes rfl ?_
                          have HD := Lib.hid hD
                          have HC := Lib.hid hC
                          clear hD hC
                          unfold Oper.wp
                          go_simp
                          exact hK _ _ ⟨_, _, _, _, _, _, _, _, _, _, _, _, _, _, _, _, _, _, _, _, _, y21, rfl, HD.out.step 14 rfl rfl, HC.out.other 14 (by decide), (fun h => (by have h2 := hc0; have h3 := hfi; simp at h h2 ⊢; first | done | exact h2 h | exact Or.inr (h2 h) | simp [hdep] | (rcases h with h | h; · simp_all; · exact Or.inr (h2 h)) | simp_all)), (fun h => (by have h2 := hc1; have h3 := hfi; simp at h h2 ⊢; first | done | exact h2 h | exact Or.inr (h2 h) | simp [hdep] | (rcases h with h | h; · simp_all; · exact Or.inr (h2 h)) | simp_all)), (fun h => (by have h2 := hc2; have h3 := hfi; simp at h h2 ⊢; first | done | exact h2 h | exact Or.inr (h2 h) | simp [hdep] | (rcases h with h | h; · simp_all; · exact Or.inr (h2 h)) | simp_all))⟩
                        · obtain rfl : x112 = .int .i64 ((WN : Nat) : Int) := hD.get (P := fun v : Value => v = .int .i64 ((WN : Nat) : Int)) 13 (by simp [hdep]) rfl rfl
                          obtain rfl : x113 = .int .i64 151 := hD.get (P := fun v : Value => v = .int .i64 151) 14 (by simp [hdep]) rfl rfl
                          refine det_yes rfl ?_
                          have HD := Lib.hid hD
                          have HC := Lib.hid hC
                          clear hD hC
                          unfold Oper.wp
                          go_simp
                          exact hK _ _ ⟨_, _, _, _, _, _, _, _, _, _, _, _, _, _, _, _, _, _, _, _, _, y21, rfl, HD.out.step 15 rfl rfl, HC.out.other 15 (by decide), (fun h => (by have h2 := hc0; have h3 := hfi; simp at h h2 ⊢; first | done | exact h2 h | exact Or.inr (h2 h) | simp [hdep] | (rcases h with h | h; · simp_all; · exact Or.inr (h2 h)) | simp_all)), (fun h => (by have h2 := hc1; have h3 := hfi; simp at h h2 ⊢; first | done | exact h2 h | exact Or.inr (h2 h) | simp [hdep] | (rcases h with h | h; · simp_all; · exact Or.inr (h2 h)) | simp_all)), (fun h => (by have h2 := hc2; have h3 := hfi; simp at h h2 ⊢; first | done | exact h2 h | exact Or.inr (h2 h) | simp [hdep] | (rcases h with h | h; · simp_all; · exact Or.inr (h2 h)) | simp_all))⟩
                        · obtain rfl : x105 = .int .i64 ((PK : Nat) : Int) := hD.get (P := fun v : Value => v = .int .i64 ((PK : Nat) : Int)) 6 (by simp [hdep]) rfl rfl
                          obtain rfl : x114 = .int .i64 ((MW : Nat) : Int) := hD.get (P := fun v : Value => v = .int .i64 ((MW : Nat) : Int)) 15 (by simp [hdep]) rfl rfl
                          refine det_yes rfl ?_
                          have HD := Lib.hid hD
                          have HC := Lib.hid hC
                          clear hD hC
                          unfold Oper.wp
                          go_simp
                          exact hK _ _ ⟨_, _, _, _, _, _, _, _, _, _, _, _, _, _, _, _, _, _, _, _, _, y21, rfl, HD.out.step 16 rfl rfl, HC.out.other 16 (by decide), (fun h => (by have h2 := hc0; have h3 := hfi; simp at h h2 ⊢; first | done | exact h2 h | exact Or.inr (h2 h) | simp [hdep] | (rcases h with h | h; · simp_all; · exact Or.inr (h2 h)) | simp_all)), (fun h => (by have h2 := hc1; have h3 := hfi; simp at h h2 ⊢; first | done | exact h2 h | exact Or.inr (h2 h) | simp [hdep] | (rcases h with h | h; · simp_all; · exact Or.inr (h2 h)) | simp_all)), (fun h => (by have h2 := hc2; have h3 := hfi; simp at h h2 ⊢; first | done | exact h2 h | exact Or.inr (h2 h) | simp [hdep] | (rcases h with h | h; · simp_all; · exact Or.inr (h2 h)) | simp_all))⟩
                        · obtain rfl : x104 = .int .i64 ((SK : Nat) : Int) := hD.get (P := fun v : Value => v = .int .i64 ((SK : Nat) : Int)) 5 (by simp [hdep]) rfl rfl
                          obtain rfl : x115 = .int .i64 ((QM : Nat) : Int) := hD.get (P := fun v : Value => v = .int .i64 ((QM : Nat) : Int)) 16 (by simp [hdep]) rfl rfl
                          refine det_yes rfl ?_
                          have HD := Lib.hid hD
                          have HC := Lib.hid hC
                          clear hD hC
                          unfold Oper.wp
                          go_simp
                          exact hK _ _ ⟨_, _, _, _, _, _, _, _, _, _, _, _, _, _, _, _, _, _, _, _, _, y21, rfl, HD.out.step 17 rfl rfl, HC.out.other 17 (by decide), (fun h => (by have h2 := hc0; have h3 := hfi; simp at h h2 ⊢; first | done | exact h2 h | exact Or.inr (h2 h) | simp [hdep] | (rcases h with h | h; · simp_all; · exact Or.inr (h2 h)) | simp_all)), (fun h => (by have h2 := hc1; have h3 := hfi; simp at h h2 ⊢; first | done | exact h2 h | exact Or.inr (h2 h) | simp [hdep] | (rcases h with h | h; · simp_all; · exact Or.inr (h2 h)) | simp_all)), (fun h => (by have h2 := hc2; have h3 := hfi; simp at h h2 ⊢; first | done | exact h2 h | exact Or.inr (h2 h) | simp [hdep] | (rcases h with h | h; · simp_all; · exact Or.inr (h2 h)) | simp_all))⟩
                        · refine det_yes rfl ?_
                          have HD := Lib.hid hD
                          have HC := Lib.hid hC
                          clear hD hC
                          unfold Oper.wp
                          go_simp
                          exact hK _ _ ⟨_, _, _, _, _, _, _, _, _, _, _, _, _, _, _, _, _, _, _, _, _, y21, rfl, HD.out.step 18 rfl rfl, HC.out.other 18 (by decide), (fun h => (by have h2 := hc0; have h3 := hfi; simp at h h2 ⊢; first | done | exact h2 h | exact Or.inr (h2 h) | simp [hdep] | (rcases h with h | h; · simp_all; · exact Or.inr (h2 h)) | simp_all)), (fun h => (by have h2 := hc1; have h3 := hfi; simp at h h2 ⊢; first | done | exact h2 h | exact Or.inr (h2 h) | simp [hdep] | (rcases h with h | h; · simp_all; · exact Or.inr (h2 h)) | simp_all)), (fun h => (by have h2 := hc2; have h3 := hfi; simp at h h2 ⊢; first | done | exact h2 h | exact Or.inr (h2 h) | simp [hdep] | (rcases h with h | h; · simp_all; · exact Or.inr (h2 h)) | simp_all))⟩
                        · obtain rfl : x116 = .int .i64 (IntKind.i64.wrap (((SK : Nat) : Int) + ((QM : Nat) : Int))) := hD.get (P := fun v : Value => v = .int .i64 (IntKind.i64.wrap (((SK : Nat) : Int) + ((QM : Nat) : Int)))) 17 (by simp [hdep]) rfl rfl
                          obtain rfl : x117 = .int .i64 151 := hD.get (P := fun v : Value => v = .int .i64 151) 18 (by simp [hdep]) rfl rfl
                          refine det_yes rfl ?_
                          have HD := Lib.hid hD
                          have HC := Lib.hid hC
                          clear hD hC
                          unfold Oper.wp
                          go_simp
                          exact hK _ _ ⟨_, _, _, _, _, _, _, _, _, _, _, _, _, _, _, _, _, _, _, _, _, y21, rfl, HD.out.step 19 rfl rfl, HC.out.other 19 (by decide), (fun h => (by have h2 := hc0; have h3 := hfi; simp at h h2 ⊢; first | done | exact h2 h | exact Or.inr (h2 h) | simp [hdep] | (rcases h with h | h; · simp_all; · exact Or.inr (h2 h)) | simp_all)), (fun h => (by have h2 := hc1; have h3 := hfi; simp at h h2 ⊢; first | done | exact h2 h | exact Or.inr (h2 h) | simp [hdep] | (rcases h with h | h; · simp_all; · exact Or.inr (h2 h)) | simp_all)), (fun h => (by have h2 := hc2; have h3 := hfi; simp at h h2 ⊢; first | done | exact h2 h | exact Or.inr (h2 h) | simp [hdep] | (rcases h with h | h; · simp_all; · exact Or.inr (h2 h)) | simp_all))⟩
                        · obtain rfl : x99 = .slice (some ⟨w.heap.size + 1, 0, none⟩) y.ty.sizes.length y.ty.sizes.length := hD.get (P := fun v : Value => v = .slice (some ⟨w.heap.size + 1, 0, none⟩) y.ty.sizes.length y.ty.sizes.length) 0 (by simp [hdep]) rfl rfl
                          obtain rfl : x100 = .int .i64 ((j : Nat) : Int) := hD.get (P := fun v : Value => v = .int .i64 ((j : Nat) : Int)) 1 (by simp [hdep]) rfl rfl
                          refine det_yes rfl ?_
                          have HD := Lib.hid hD
                          have HC := Lib.hid hC
                          clear hD hC
                          unfold Oper.wp
                          go_simp
                          exact hK _ _ ⟨_, _, _, _, _, _, _, _, _, _, _, _, _, _, _, _, _, _, _, _, _, y21, rfl, HD.out.step 20 rfl rfl, HC.out.other 20 (by decide), (fun h => (by have h2 := hc0; have h3 := hfi; simp at h h2 ⊢; first | done | exact h2 h | exact Or.inr (h2 h) | simp [hdep] | (rcases h with h | h; · simp_all; · exact Or.inr (h2 h)) | simp_all)), (fun h => (by have h2 := hc1; have h3 := hfi; simp at h h2 ⊢; first | done | exact h2 h | exact Or.inr (h2 h) | simp [hdep] | (rcases h with h | h; · simp_all; · exact Or.inr (h2 h)) | simp_all)), (fun h => (by have h2 := hc2; have h3 := hfi; simp at h h2 ⊢; first | done | exact h2 h | exact Or.inr (h2 h) | simp [hdep] | (rcases h with h | h; · simp_all; · exact Or.inr (h2 h)) | simp_all))⟩
                        · obtain rfl : x119 = .pointer (some ⟨w.heap.size + 1, j, none⟩) := hD.get (P := fun v : Value => v = .pointer (some ⟨w.heap.size + 1, j, none⟩)) 20 (by simp [hdep]) rfl rfl
                          obtain rfl : x118 = .int .i64 ((NV : Nat) : Int) := hD.get (P := fun v : Value => v = .int .i64 ((NV : Nat) : Int)) 19 (by simp [hdep]) rfl rfl
                          have hW := hC.at_ 2 (by decide) hfi (by intro j9 e9 _; have f9 : j9 = 1 := (by omega); subst f9; simp [hdep])
                          refine det_yes rfl ?_
                          have HD := Lib.hid hD
                          have HC := Lib.hid hC
                          clear hD hC
                          have hbu : Below wi.heap.size wi u := hW
                          have hr8 := hqi.out.below hbu hqi.out.lt
                          have c7 := (hr8.cell j).trans HOLD.out
                          have f7 := hr8.frozen j
                          have HW2 : (W26 wi ⟨w.heap.size + 1, j, none⟩ (.int .i64 ((NV : Nat) : Int)) WN x111) 3 (u.setCell ⟨w.heap.size + 1, j, none⟩ (.int .i64 ((NV : Nat) : Int))) := ⟨u, hbu, rfl⟩
                          clear hW hr8
                          unfold Oper.wp
                          go_simp
                          exact hK _ _ ⟨_, _, _, _, _, _, _, _, _, _, _, _, _, _, _, _, _, _, _, _, _, .bool true, rfl, HD.out.step 21 rfl (by trivial), HC.out.next 2 (by decide) hfi (by intro j9 e9 _; have f9 : j9 = 1 := (by omega); subst f9; simp [hdep]) (by decide) HW2, (fun h => (by have h2 := hc0; have h3 := hfi; simp at h h2 ⊢; first | done | exact h2 h | exact Or.inr (h2 h) | simp [hdep] | (rcases h with h | h; · simp_all; · exact Or.inr (h2 h)) | simp_all)), (fun h => (by have h2 := hc1; have h3 := hfi; simp at h h2 ⊢; first | done | exact h2 h | exact Or.inr (h2 h) | simp [hdep] | (rcases h with h | h; · simp_all; · exact Or.inr (h2 h)) | simp_all)), (fun h => (by have h2 := hc2; have h3 := hfi; simp at h h2 ⊢; first | done | exact h2 h | exact Or.inr (h2 h) | simp [hdep] | (rcases h with h | h; · simp_all; · exact Or.inr (h2 h)) | simp_all))⟩
                      · rintro dn ac u hall ⟨x99, x100, x101, x102, x103, x104, x105, x106, x107, x108, x109, x110, x111, x112, x113, x114, x115, x116, x117, x118, x119, y21, rfl, hD, hC, hc0, hc1, hc2⟩
                        obtain rfl : x99 = .slice (some ⟨w.heap.size + 1, 0, none⟩) y.ty.sizes.length y.ty.sizes.length := hD.get (P := fun v : Value => v = .slice (some ⟨w.heap.size + 1, 0, none⟩) y.ty.sizes.length y.ty.sizes.length) 0 (hall 0 (by decide)) rfl rfl
                        obtain rfl : x100 = .int .i64 ((j : Nat) : Int) := hD.get (P := fun v : Value => v = .int .i64 ((j : Nat) : Int)) 1 (hall 1 (by decide)) rfl rfl
                        obtain rfl : x101 = .slice (some ⟨w.heap.size + 1, 0, none⟩) y.ty.sizes.length y.ty.sizes.length := hD.get (P := fun v : Value => v = .slice (some ⟨w.heap.size + 1, 0, none⟩) y.ty.sizes.length y.ty.sizes.length) 2 (hall 2 (by decide)) rfl rfl
                        obtain rfl : x102 = .int .i64 ((j : Nat) : Int) := hD.get (P := fun v : Value => v = .int .i64 ((j : Nat) : Int)) 3 (hall 3 (by decide)) rfl rfl
                        obtain rfl : x103 = .pointer (some ⟨w.heap.size + 1, j, none⟩) := hD.get (P := fun v : Value => v = .pointer (some ⟨w.heap.size + 1, j, none⟩)) 4 (hall 4 (by decide)) rfl rfl
                        obtain rfl : x104 = .int .i64 ((SK : Nat) : Int) := hD.get (P := fun v : Value => v = .int .i64 ((SK : Nat) : Int)) 5 (hall 5 (by decide)) rfl rfl
                        obtain rfl : x105 = .int .i64 ((PK : Nat) : Int) := hD.get (P := fun v : Value => v = .int .i64 ((PK : Nat) : Int)) 6 (hall 6 (by decide)) rfl rfl
                        obtain rfl : x106 = .pointer (some ⟨w.heap.size, 0, none⟩) := hD.get (P := fun v : Value => v = .pointer (some ⟨w.heap.size, 0, none⟩)) 7 (hall 7 (by decide)) rfl rfl
                        obtain rfl : x107 = .agg #[.slice A1 y.ty.sizes.length cap1, .slice A2 y.ty.cos.length cap2] := hD.get (P := fun v : Value => v = .agg #[.slice A1 y.ty.sizes.length cap1, .slice A2 y.ty.cos.length cap2]) 8 (hall 8 (by decide)) rfl rfl
                        obtain rfl : x108 = .pointer (some ⟨wx.heap.size, 2, none⟩) := hD.get (P := fun v : Value => v = .pointer (some ⟨wx.heap.size, 2, none⟩)) 9 (hall 9 (by decide)) rfl rfl
                        obtain rfl : x109 = .int .i64 y.fs[k].res := hD.get (P := fun v : Value => v = .int .i64 y.fs[k].res) 10 (hall 10 (by decide)) rfl rfl
                        obtain rfl : x110 = .int .i64 ((j : Nat) : Int) := hD.get (P := fun v : Value => v = .int .i64 ((j : Nat) : Int)) 11 (hall 11 (by decide)) rfl rfl
                        obtain rfl : x112 = .int .i64 ((WN : Nat) : Int) := hD.get (P := fun v : Value => v = .int .i64 ((WN : Nat) : Int)) 13 (hall 13 (by decide)) rfl rfl
                        obtain rfl : x113 = .int .i64 151 := hD.get (P := fun v : Value => v = .int .i64 151) 14 (hall 14 (by decide)) rfl rfl
                        obtain rfl : x114 = .int .i64 ((MW : Nat) : Int) := hD.get (P := fun v : Value => v = .int .i64 ((MW : Nat) : Int)) 15 (hall 15 (by decide)) rfl rfl
                        obtain rfl : x115 = .int .i64 ((QM : Nat) : Int) := hD.get (P := fun v : Value => v = .int .i64 ((QM : Nat) : Int)) 16 (hall 16 (by decide)) rfl rfl
                        obtain rfl : x116 = .int .i64 (IntKind.i64.wrap (((SK : Nat) : Int) + ((QM : Nat) : Int))) := hD.get (P := fun v : Value => v = .int .i64 (IntKind.i64.wrap (((SK : Nat) : Int) + ((QM : Nat) : Int)))) 17 (hall 17 (by decide)) rfl rfl
                        obtain rfl : x117 = .int .i64 151 := hD.get (P := fun v : Value => v = .int .i64 151) 18 (hall 18 (by decide)) rfl rfl
                        obtain rfl : x118 = .int .i64 ((NV : Nat) : Int) := hD.get (P := fun v : Value => v = .int .i64 ((NV : Nat) : Int)) 19 (hall 19 (by decide)) rfl rfl
                        obtain rfl : x119 = .pointer (some ⟨w.heap.size + 1, j, none⟩) := hD.get (P := fun v : Value => v = .pointer (some ⟨w.heap.size + 1, j, none⟩)) 20 (hall 20 (by decide)) rfl rfl
                        have hW := hC.all (by intro j9 h9; exact hall _ (by revert j9; decide))
                        clear hall hD hC hc0 hc1 hc2
                        obtain ⟨u0, hbu, rfl⟩ := hW
                        have HKU : Hid (Keep (w.heap.size + 1) wi (u0.setCell ⟨w.heap.size + 1, j, none⟩ (.int .i64 ((NV : Nat) : Int)))) := W26.keep (j := 3) (v := .slice none WN 0) (L := WN) (nv := .int .i64 ((NV : Nat) : Int)) (a := ⟨w.heap.size + 1, j, none⟩) (g := w.heap.size + 1) rfl ⟨u0, hbu, rfl⟩
                        have HRU : Hid (Row (u0.setCell ⟨w.heap.size + 1, j, none⟩ (.int .i64 ((NV : Nat) : Int))) (w.heap.size + 1) 3 (rowV (fun i => if i < j + 1 then ((sumC y a ts (k + 1) (i : Int) : Nat) : Int) else ((sumC y a ts k (i : Int) : Nat) : Int)) y.ty.sizes.length)) := by
                          have h := (hqi.out.below hbu hqi.out.lt).set_ j (.int .i64 ((NV : Nat) : Int))
                          rw [rowV_next (g := fun i => ((sumC y a ts (k + 1) (i : Int) : Nat) : Int)) (h := fun i => ((sumC y a ts k (i : Int) : Nat) : Int)) (by rw [HNV.out]) (fun i => rfl)] at h
                          exact h
                        clear hbu
                        generalize u0.setCell ⟨w.heap.size + 1, j, none⟩ (.int .i64 ((NV : Nat) : Int)) = u9 at HKU HRU ⊢
                        have hs9 := HKU.out.size
                        go_wp2
                        go_roundw
                        case rel => exact ⟨j + 1, by omega, by go_num, by omega, hbi.out.grown HKU.out.grown (by omega) (fun g e => by simp only [Option.some.injEq] at e; omega), fun g h1 h2 => (HKU.out.block (by omega) (by omega)).trans (hmi.out g h1 h2), hpi.out.keep (HKU.out.block hpi.out.lt (by omega)), hri.out.keep (HKU.out.block hri.out.lt (by omega)), HRU.out⟩
                        case measure => simp [intOf]; omega
                    · obtain rfl : j = y.ty.sizes.length := by omega
                      have HQ9 : Hid (Row wi (w.heap.size + 1) 3 (rowV (fun i => ((sumC y a ts (k + 1) (i : Int) : Nat) : Int)) y.ty.sizes.length)) := by
                        have h := hqi.out
                        rw [rowV_congr (g := fun i => ((sumC y a ts (k + 1) (i : Int) : Nat) : Int)) (fun i hi => if_pos hi)] at h
                        exact h
                      go_wp2
                      go_roundw
                      case rel => exact ⟨k + 1, by omega, by go_num, by omega, hbi.out, hmi.out, hpi.out, HQ9.out⟩
                      case measure => simp [intOf]; omega
                · have hst : Hid (∀ j : Int, sumC y a ts (k + 1) j = sumC y a ts k j) := fun j => sumC_miss (by rw [HG.out]; exact fun h => hq2 h.2) j
                  have htest : ((y.fs[k].args.length : Int) != (ts.length : Int)) = true := by simp; omega
                  clear hxe he
                  go_wp2_with fail
                  go_quiet (fail)
                  rw [← hWb]
                  have HBd : Hid (Below wx.heap.size wx (Wb.drewN nq)) := below_drewN HBb.out _
                  have hds : wx.heap.size ≤ (Wb.drewN nq).heap.size := HBd.out.size
                  have HBw : Hid (Below w.heap.size w (Wb.drewN nq)) := hbx.out.trans (HBd.out.mono hbx.out.size)
                  have HPd : Hid (Row (Wb.drewN nq) w.heap.size 36 [.slice A1 y.ty.sizes.length cap1, .slice A2 y.ty.cos.length cap2, .slice (some ⟨fb, foff, none⟩) y.fs.length cap3]) := hpx.out.below HBd.out hpl
                  have HQd : Hid (Row (Wb.drewN nq) (w.heap.size + 1) 3 (rowV (fun j => ((sumC y a ts (k + 1) (j : Int) : Nat) : Int)) y.ty.sizes.length)) := by
                    have h := hqx.out.below HBd.out hql
                    rw [rowV_congr (g := fun j => ((sumC y a ts (k + 1) (j : Int) : Nat) : Int)) (fun i _ => by rw [hst.out])] at h
                    exact h
                  have HMd : Hid (∀ g, w.heap.size + 2 ≤ g → g < w7.heap.size → (Wb.drewN nq).heap[g]? = w7.heap[g]?) := fun g h1 h2 => (HBd.out.block g (by omega)).trans (hmx.out g h1 h2)
                  clear d0 d1 hWb
                  go_wp2
                  go_roundw
                  case rel => exact ⟨k + 1, by omega, by go_num, by omega, HBw.out, HMd.out, HPd.out, HQd.out⟩
                  case measure => simp [intOf]; omega
              · have hnm : ¬ y.fs[k].name.toList = ((str L).extract 0 1).toList := fun h => he (by rw [bytes_eq h, HX1.out])
                have hst : Hid (∀ j : Int, sumC y a ts (k + 1) j = sumC y a ts k j) := fun j => sumC_miss (by rw [HG.out]; exact fun h => he h.1) j
                have hd : (y.fs[k].name.toList == ((str L).extract 0 1).toList) = false := beq_eq_false_iff_ne.2 hnm
                clear hxe he hnm
                go_wp2_with fail
                go_quiet (fail)
                rw [← hWb]
                have HBd : Hid (Below wx.heap.size wx (Wb.drewN nq)) := below_drewN HBb.out _
                have hds : wx.heap.size ≤ (Wb.drewN nq).heap.size := HBd.out.size
                have HBw : Hid (Below w.heap.size w (Wb.drewN nq)) := hbx.out.trans (HBd.out.mono hbx.out.size)
                have HPd : Hid (Row (Wb.drewN nq) w.heap.size 36 [.slice A1 y.ty.sizes.length cap1, .slice A2 y.ty.cos.length cap2, .slice (some ⟨fb, foff, none⟩) y.fs.length cap3]) := hpx.out.below HBd.out hpl
                have HQd : Hid (Row (Wb.drewN nq) (w.heap.size + 1) 3 (rowV (fun j => ((sumC y a ts (k + 1) (j : Int) : Nat) : Int)) y.ty.sizes.length)) := by
                  have h := hqx.out.below HBd.out hql
                  rw [rowV_congr (g := fun j => ((sumC y a ts (k + 1) (j : Int) : Nat) : Int)) (fun i _ => by rw [hst.out])] at h
                  exact h
                have HMd : Hid (∀ g, w.heap.size + 2 ≤ g → g < w7.heap.size → (Wb.drewN nq).heap[g]? = w7.heap[g]?) := fun g h1 h2 => (HBd.out.block g (by omega)).trans (hmx.out g h1 h2)
                clear d0 d1 hWb
                go_wp2
                go_roundw
                case rel => exact ⟨k + 1, by omega, by go_num, by omega, HBw.out, HMd.out, HPd.out, HQd.out⟩
                case measure => simp [intOf]; omega
            · obtain rfl : k = y.fs.length := by omega
              have HF : Hid (Row wx (w.heap.size + 1) 3 (rowV (fun i => ((cntT y t (i : Int) : Nat) : Int)) y.ty.sizes.length)) := by
                have h := hqx.out
                rw [rowV_congr (g := fun i => ((cntT y t (i : Int) : Nat) : Int)) (fun i _ => by rw [← HCNT.out]; unfold sumC namedV; rw [if_pos (syB_iff.2 hy)])] at h
                exact h
              clear hqx
              go_wp2
              try rw [Exit.noGoto_ret]
              refine bodyPost_ret (v := .slice (some ⟨w.heap.size + 1, 0, none⟩) y.ty.sizes.length y.ty.sizes.length) (by simp [results, Tryz.results50, go_sem]) rfl ?_
              exact ⟨_, rfl, hbx.out, row_ints HF.out (by omega) hn5 (by omega)⟩
end Go.Proofs.YtnmbjmocnafekaaGreatDoor

