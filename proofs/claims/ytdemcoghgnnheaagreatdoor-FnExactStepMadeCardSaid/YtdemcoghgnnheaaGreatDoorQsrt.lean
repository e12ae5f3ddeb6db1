/-
  The contract of the model's reader of explicit terms: term.
-/
import Derived.Test.YtdemcoghgnnheaaGreatDoorK5
namespace Go.Proofs.YtdemcoghgnnheaaGreatDoor
open Go.RowKit

theorem ixB_dig {y : Sy} (hy : SyOk y) {k v : Int} (h : hasV0 y.ty.sizes k v = true) : 0 ≤ k ∧ k ≤ 4 ∧ 0 ≤ v ∧ v ≤ 3 := by
  have hss := tyOk_sizes hy.ty
  obtain ⟨_, h5, h4⟩ := sizesOk_of hss
  unfold hasV0 at h
  simp only [Bool.and_eq_true] at h
  obtain ⟨h1, h2⟩ := h
  unfold ixB at h1 h2
  simp at h1 h2
  have hk : k.toNat < y.ty.sizes.length := by omega
  have h6 := h4 k.toNat hk
  rw [List.getElem?_eq_getElem hk] at h2
  simp at h2
  omega
theorem slice7 (s : ByteArray) (i j : Nat) (hij : i ≤ j) (hj : j ≤ s.size) (z y : Int) (hz : z = i) (hy : y = j) (w : World) : (Instr.slice 9 (.string s) (some (.int .i64 z)) (some (.int .i64 y)) none).run Tryz.prog w = .ok (.string (s.extract i j)) w := by
  subst hz; subst hy
  simp [Instr.slice, Instr.sliceBounds, Instr.sliceBound, asIntOf, run_underlying Tryz.underlying9, hij, hj]
theorem next7_bad (lo hi b : Nat) (sv cv fv : Value) (y : Sy) (L : List UInt8) (used : Int) (cal : Value) (w : World) (h : BadAt lo hi b sv cv fv y L used cal w) (hL : L.length ≤ 400) :
    Calls Tryz.prog 165 #[.pointer (some ⟨b, 0, none⟩)] w fun e w' => (∃ x : Int, e = .returned (.int .u8 x)) ∧ BadAt lo hi b sv cv fv y L used cal w' ∧ Keep b w w' := by
  obtain ⟨q, hq, h⟩ := h
  cases hcr : L.drop q with
  | nil => exact (next_no lo hi b sv cv fv y L q true used cal w h (drop_nil_of hcr)).mono fun e w' ⟨he, hs, hk⟩ => ⟨⟨_, he⟩, ⟨q, hq, hs⟩, hk⟩
  | cons c r => exact (next_yes lo hi b sv cv fv y L q true used cal c r w h hL hcr).mono fun e w' ⟨he, hs, hk⟩ => ⟨⟨_, he⟩, ⟨q + 1, (drop_cons_of hcr).1, hs⟩, hk⟩
theorem rdDigit_is {c : UInt8} {l : List UInt8} (h : isD c = true) : rdDigit (c :: l) = some (valD c, l) := by rw [rdDigit, if_pos h]
theorem rdDigit_not {c : UInt8} {l : List UInt8} (h : ¬ isD c = true) : rdDigit (c :: l) = none := by rw [rdDigit, if_neg h]
theorem rdVal_take {y : Sy} {c : UInt8} {l : List UInt8} (h : rdTake 58 l = none) : rdVal y (c :: l) = none := by
  unfold rdVal
  by_cases hc : isD c = true
  · rw [rdDigit_is hc]
    simp [h]
  · rw [rdDigit_not hc]
    rfl
theorem rdVal_end {y : Sy} {c : UInt8} {l : List UInt8} (h : rdTake 58 l = some []) : rdVal y (c :: l) = none := by
  unfold rdVal
  by_cases hc : isD c = true
  · rw [rdDigit_is hc]
    simp [h, rdDigit]
  · rw [rdDigit_not hc]
    rfl
theorem rdVal_two {y : Sy} (hy : SyOk y) {c d : UInt8} {l r : List UInt8} (h : rdTake 58 l = some (d :: r)) : rdVal y (c :: l) = if hasV0 y.ty.sizes ((c.toNat : Int) - 48) ((d.toNat : Int) - 48) = true then some (.lit ((c.toNat : Int) - 48) ((d.toNat : Int) - 48), r) else none := by
  unfold rdVal
  by_cases hv : hasV0 y.ty.sizes ((c.toNat : Int) - 48) ((d.toNat : Int) - 48) = true
  · obtain ⟨h1, h2, h3, h4⟩ := ixB_dig hy hv
    have hc : isD c = true := by unfold isD; simp; omega
    have hd : isD d = true := by unfold isD; simp; omega
    rw [if_pos hv, rdDigit_is hc]
    simp [h, rdDigit_is hd, valD, hv]
  · rw [if_neg hv]
    by_cases hc : isD c = true
    · by_cases hd : isD d = true
      · rw [rdDigit_is hc]
        simp [h, rdDigit_is hd, valD, hv]
      · rw [rdDigit_is hc]
        simp [h, rdDigit_not hd]
    · rw [rdDigit_not hc]
      rfl

set_option maxRecDepth 100000 in
set_option maxHeartbeats 8000000 in
theorem reads7 (lo hi b : Nat) (sv cv fv : Value) (y : Sy) (hy : SyOk y) (L : List UInt8) (hL : L.length ≤ 400) : ∀ f, Reads7 lo hi b sv cv fv y L f := by
  intro f
  induction f with
  | zero =>
    intro q used c cs w h ho hq hf hu0 hu hcs
    have HN := Lib.hid (next_no lo hi b sv cv fv y L q false used c w h (by omega))
    have hno : Hid (rdMk y 0 (L.drop q) = none) := rfl
    clear h ho
    go_enter Tryz.func130, Tryz.ntmps130
    go_wp2_with fail
    refine HN.out.mono ?_
    rintro e w1 ⟨rfl, hs1, hk1⟩
    have HS1 := Lib.hid hs1
    have HK1 := Lib.hid ((K2.refl b c w).keep hk1)
    obtain ⟨-, -, -, -, -, c5, -, -⟩ := hs1.cells
    clear hk1 hs1 HN
    go_wp2
    try rw [Exit.noGoto_ret]
    refine bodyPost_ret (v := .tuple #[.string ⟨#[]⟩, .int .i64 (-1)]) (by simp [results, Tryz.results130, go_sem]) rfl ?_
    exact ⟨.inr ⟨hno.out, _, _, used, c, rfl, ⟨q, hq, HS1.out⟩, Own2.refl _ _ _⟩, HK1.out⟩
  | succ f IH =>
    intro q used c cs w h ho hq hf hu0 hu hcs
    cases hcr : L.drop q with
    | nil =>
      have HN := Lib.hid (next_no lo hi b sv cv fv y L q false used c w h (drop_nil_of hcr))
      have hno : Hid (rdMk y (f + 1) [] = none) := rdMk_nil y _
      clear h ho
      go_enter Tryz.func130, Tryz.ntmps130
      go_wp2_with fail
      refine HN.out.mono ?_
      rintro e w1 ⟨rfl, hs1, hk1⟩
      have HS1 := Lib.hid hs1
      have HK1 := Lib.hid ((K2.refl b c w).keep hk1)
      obtain ⟨-, -, -, -, -, c5, -, -⟩ := hs1.cells
      clear hk1 hs1 HN
      go_wp2
      try rw [Exit.noGoto_ret]
      refine bodyPost_ret (v := .tuple #[.string ⟨#[]⟩, .int .i64 (-1)]) (by simp [results, Tryz.results130, go_sem]) rfl ?_
      exact ⟨.inr ⟨hno.out, _, _, used, c, rfl, ⟨q, hq, HS1.out⟩, Own2.refl _ _ _⟩, HK1.out⟩
    | cons d l =>
      obtain ⟨hql, hdr, -⟩ := drop_cons_of hcr
      have HN := Lib.hid (next_yes lo hi b sv cv fv y L q false used c d l w h hL hcr)
      have HO := Lib.hid ho
      have HI := Lib.hid IH
      have HCR := Lib.hid hcr
      have hdb : (d.toNat : Int) ≤ 255 := by have := UInt8.toNat_lt d; omega
      have hd35 := byte_eq d 35
      have hd64 := byte_eq d 64
      clear ho IH hcr
      by_cases h35 : d = 35
      · subst h35
        obtain ⟨CA, cap, rfl, hl3, hm3, _⟩ := h.sy.1.2.form
        have hblt := h.lt
        have hc8 : y.ty.cos.length ≤ 8 := by have h := hy.ty; simp only [tyOk, Bool.and_eq_true, decide_eq_true_eq] at h; exact h.1.2
        have hco : Hid (rdMk y (f + 1) (35 :: l) = (rdIx y.ty.cos.length l).bind fun p => (rdTake 40 p.2).bind fun r => (rdOf (rdMk y f) y (y.ty.cos.getD p.1 default).src r).bind fun q => (rdTake 41 q.2).map fun r => (.co p.1 q.1, r)) := by
          show _ = _
          rw [rdMk_co y f rfl]
          unfold rdCoM rdOpen
          rw [rdTake_cons]
          cases h1 : rdIx y.ty.cos.length l with
          | none => simp [h1]
          | some p =>
            cases h2 : rdTake 40 p.2 with
            | none => simp [h1, h2]
            | some r => simp [h1, h2]
        clear h hl3 hm3 hd35 hd64
        go_enter Tryz.func130, Tryz.ntmps130
        go_wp2_with fail
        refine HN.out.mono ?_
        rintro e w1 ⟨rfl, hs1, hk1⟩
        have HS1 := Lib.hid hs1
        have HK1 := Lib.hid ((K2.refl b c w).keep hk1)
        have HO1 := Lib.hid (own_keep HO.out hk1 (by omega))
        obtain ⟨-, c1, -, -, -, c5, -, -⟩ := hs1.cells
        clear hk1 hs1 HN HO
        go_wp2_with fail
        cases hix : rdIx y.ty.cos.length l with
        | none =>
          have hno : Hid (rdMk y (f + 1) (35 :: l) = none) := by show _ = _; rw [hco.out, hix]; rfl
          refine (digit7_no lo hi b _ _ _ y L (q + 1) used c y.ty.cos.length w1 HS1.out hL (by omega) hc8 (by rw [hdr]; exact hix)).mono ?_
          clear hix hco c1 c5
          rintro e w2 ⟨rfl, hb2, hk2⟩
          have HB2 : Hid (BadAt lo hi b sv (.slice CA y.ty.cos.length cap) fv y L used c w2) := hb2
          have HK2 := Lib.hid (HK1.out.keep hk2)
          clear hb2 hk2 HS1 HK1 HO1
          go_wp2_with fail
          refine (take7_bad lo hi b _ _ _ y L used c 40 w2 HB2.out hL).mono ?_
          rintro e w3 ⟨rfl, hb3, hk3⟩
          have HK3 := Lib.hid (HK2.out.keep hk3)
          have HB3 := Lib.hid hb3
          obtain ⟨q3, hq3, hs3⟩ := hb3
          obtain ⟨-, -, -, -, -, c5, -, -⟩ := hs3.cells
          clear hk3 hs3 HK2 HB2
          go_wp2
          try rw [Exit.noGoto_ret]
          refine bodyPost_ret (v := .tuple #[.string ⟨#[]⟩, .int .i64 (-1)]) (by simp [results, Tryz.results130, go_sem]) rfl ?_
          exact ⟨.inr ⟨hno.out, _, _, used, c, rfl, HB3.out, Own2.refl _ _ _⟩, HK3.out⟩
        | some p =>
          obtain ⟨i, r1⟩ := p
          have hif := (rdIx_eq hix).1
          have hi9 := (rdIx_eq hix).2.1
          have hgd : y.ty.cos.getD i default = y.ty.cos[i] := getD_get hif
          have hco1 : Hid (rdMk y (f + 1) (35 :: l) = (rdTake 40 r1).bind fun r => (rdOf (rdMk y f) y y.ty.cos[i].src r).bind fun q => (rdTake 41 q.2).map fun r => (.co i q.1, r)) := by show _ = _; rw [hco.out, hix, ← hgd]; rfl
          have hq2 : q + 2 ≤ L.length := by have h := congrArg List.length hdr; have h2 := rdIx_len hix; rw [List.length_drop] at h; omega
          refine (digit7_yes lo hi b _ _ _ y L (q + 1) used c y.ty.cos.length i r1 w1 HS1.out hL hc8 (by rw [hdr]; exact hix)).mono ?_
          clear hix hco c1 c5
          rintro e w2 ⟨rfl, hs2, hd2, hk2⟩
          have HS2 := Lib.hid hs2
          have HK2 := Lib.hid (HK1.out.keep hk2)
          have HO2 := Lib.hid (own_keep HO1.out hk2 (by omega))
          clear hs2 hk2 HS1 HK1 HO1
          go_wp2_with fail
          cases htk : rdTake 40 r1 with
          | none =>
            have hno : Hid (rdMk y (f + 1) (35 :: l) = none) := by show _ = _; rw [hco1.out, htk]; rfl
            refine (take7_no lo hi b _ _ _ y L (q + 2) used c 40 40 rfl (by decide) w2 HS2.out hL hq2 (by rw [hd2]; exact htk)).mono ?_
            clear htk hco1
            rintro e w3 ⟨rfl, hb3, hk3⟩
            have HK3 := Lib.hid (HK2.out.keep hk3)
            have HB3 := Lib.hid hb3
            obtain ⟨q3, hq3, hs3⟩ := hb3
            obtain ⟨-, -, -, -, -, c5, -, -⟩ := hs3.cells
            clear hk3 hs3 HK2 HS2
            go_wp2
            try rw [Exit.noGoto_ret]
            refine bodyPost_ret (v := .tuple #[.string ⟨#[]⟩, .int .i64 (-1)]) (by simp [results, Tryz.results130, go_sem]) rfl ?_
            exact ⟨.inr ⟨hno.out, _, _, used, c, rfl, HB3.out, Own2.refl _ _ _⟩, HK3.out⟩
          | some r2 =>
            have hco2 : Hid (rdMk y (f + 1) (35 :: l) = (rdOf (rdMk y f) y y.ty.cos[i].src r2).bind fun q => (rdTake 41 q.2).map fun r => (.co i q.1, r)) := by show _ = _; rw [hco1.out, htk]; rfl
            refine (take7_yes lo hi b _ _ _ y L (q + 2) used c 40 40 rfl r2 w2 HS2.out hL (by rw [hd2]; exact htk)).mono ?_
            clear htk hco1
            rintro e w3 ⟨rfl, hs3, hd3, hq3, hk3⟩
            have HS3 := Lib.hid hs3
            have HK3 := Lib.hid (HK2.out.keep hk3)
            have HO3 := Lib.hid (own_keep HO2.out hk3 (by omega))
            obtain ⟨-, -, -, -, -, c5, -, -⟩ := hs3.cells
            clear hs3 hk3 HS2 HK2 HO2
            go_wp2_with fail
            refine (HI.out (q + 2 + 1) used c cs w3 HS3.out HO3.out hq3 (by omega) hu0 (by omega) (by omega)).mono ?_
            rintro e w6 ⟨⟨m, r5, c6, hm, hok, htx, rfl, hs6, ho6, hat6⟩ | ⟨hm, s6, k6, u6, c6, rfl, hb6, hat6⟩, hk6⟩
            · rw [hd3] at hm
              have hsuf := drop_suffix htx
              have hln : (mkT m).length + r5.length + q + 3 = L.length := by
                have h1 := congrArg List.length htx
                rw [List.length_drop, List.length_append] at h1
                omega
              have hcl := coN_le m
              have HK6 := Lib.hid (HK3.out.trans (Own2.refl c w w3) hk6)
              have Hat6 := Lib.hid (Own2.trans (Own2.refl c w w3) HK3.out.size hat6 hk6.size)
              have HS6 := Lib.hid hs6
              have HO6 := Lib.hid ho6
              have hb6 := hs6.lt
              clear hk6 hat6 hs6 ho6 HS3 HK3 HO3 c5
              have hrd : Hid (rdMk y (f + 1) (35 :: l) = (if kindM y m = y.ty.cos[i].src then some (m, r5) else none).bind fun q => (rdTake 41 q.2).map fun r => (.co i q.1, r)) := by
                show _ = _
                rw [hco2.out]
                unfold rdOf
                rw [hm]
                rfl
              clear hm hco2
              go_wp2_with fail
              cases htk : rdTake 41 r5 with
              | none =>
                have hno : Hid (rdMk y (f + 1) (35 :: l) = none) := by
                  show _ = _
                  rw [hrd.out]
                  split <;> simp [htk]
                refine (take7_no lo hi b _ _ _ y L (L.length - r5.length) _ c6 41 41 rfl (by decide) w6 HS6.out hL (Nat.sub_le _ _) (by rw [hsuf.1]; exact htk)).mono ?_
                clear htk hrd
                rintro e w7 ⟨rfl, ⟨q7, hq7, hs7⟩, hk7⟩
                have HK7 := Lib.hid (HK6.out.keep hk7)
                have Hat7 := Lib.hid (Hat6.out.grow hk7.size)
                obtain ⟨-, -, -, -, -, c5, c6', -⟩ := hs7.cells
                have f5 := hs7.frozen 5
                have f6 := hs7.frozen 6
                have HS7 := Lib.hid hs7
                clear hs7 hk7 HS6 HO6 HK6 Hat6
                go_wp2
                try rw [Exit.noGoto_ret]
                refine bodyPost_ret (v := .tuple #[.string ⟨#[]⟩, .int .i64 (-1)]) (by simp [results, Tryz.results130, go_sem]) rfl ?_
                exact ⟨.inr ⟨hno.out, _, _, _, c6, rfl, ⟨q7, hq7, (HS7.out.setUsed _).setBad true⟩, Hat7.out.grow (by simp [World.setCell])⟩, (HK7.out.keep (Keep.set7 b 6 _ _)).keep (Keep.set7 b 5 _ _)⟩
              | some r6 =>
                have hl6 := rdTake_len htk
                refine (take7_yes lo hi b _ _ _ y L (L.length - r5.length) _ c6 41 41 rfl r6 w6 HS6.out hL (by rw [hsuf.1]; exact htk)).mono ?_
                rintro e w7 ⟨rfl, hs7, hd7, hq7, hk7⟩
                have eqa : L.length - r5.length + 1 = L.length - r6.length := by omega
                rw [eqa] at hs7
                have HK7 := Lib.hid (HK6.out.keep hk7)
                have Hat7 := Lib.hid (Hat6.out.grow hk7.size)
                have HO7 := Lib.hid (own_keep HO6.out hk7 (by omega))
                obtain ⟨-, c1, -, -, -, c5, c6', -⟩ := hs7.cells
                have f5 := hs7.frozen 5
                have f6 := hs7.frozen 6
                have HS7 := Lib.hid hs7
                obtain ⟨b4, off4, A2, cap2, rfl, hlo4, hhi4, k0, k1, k2, _, _, hi641, hi642, _⟩ := hs7.sy.1.2.at_ hif
                have hib := hs7.hib
                have hne4 : b ≠ b4 := by omega
                have hrd2 : Hid (rdMk y (f + 1) (35 :: l) = if kindM y m = y.ty.cos[i].src then some (.co i m, r6) else none) := by
                  show _ = _
                  rw [hrd.out]
                  split <;> simp [htk]
                clear hs7 hk7 HS6 HO6 HK6 Hat6 htk hrd eqa
                have Heu : Hid (used + (coN m : Int) + 1 = used + (coN (.co i m) : Int)) := by show _ = _; simp [coN]; omega
                obtain ⟨u8, hu8⟩ : ∃ u, u = w7.setCell ⟨b, 6, none⟩ (.int .i64 (used + (coN m : Int) + 1)) := ⟨_, rfl⟩
                have HS8 : Hid (Sr lo hi b sv (.slice (some ⟨b4, off4, none⟩) y.ty.cos.length cap) fv y L (L.length - r6.length) false (used + (coN m : Int) + 1) c6 u8) := by rw [hu8]; exact HS7.out.setUsed _
                have HK8 : Hid (K2 b c w u8) := by rw [hu8]; exact HK7.out.keep (Keep.set7 b 6 _ _)
                have HO8 : Hid (u8.ownsRow (b + 1) 3 1 c6 (cs ++ fnM m).length ((cs ++ fnM m).map (Value.int .i64))) := by rw [hu8]; exact own_keep HO7.out (Keep.set7 b 6 _ _) (by omega)
                have Hat8 : Hid (Own2 c c6 w u8) := by rw [hu8]; exact Hat7.out.grow (by simp [World.setCell])
                obtain ⟨-, d1, -, -, -, d5, -, -⟩ := HS8.out.cells
                have g5 := HS8.out.frozen 5
                have l0 : u8.cell? ⟨b4, off4 + i * 3, none⟩ = some (.int .i64 y.ty.cos[i].src) := by rw [hu8, World.cell?_setCell_far _ _ _ _ hne4]; exact k0
                have l1 : u8.cell? ⟨b4, off4 + i * 3 + 1, none⟩ = some (.int .i64 y.ty.cos[i].dst) := by rw [hu8, World.cell?_setCell_far _ _ _ _ hne4]; exact k1
                rw [hu8] at d1 d5 g5 l0 l1
                clear c1 c5 k0 k1 k2 HS7 HK7 HO7 Hat7
                by_cases hkind : kindM y m = y.ty.cos[i].src
                · have hfin : Hid (rdMk y (f + 1) (35 :: l) = some (.co i m, r6)) := by show _ = _; rw [hrd2.out, if_pos hkind]
                  have hall : Hid (MkOk y (.co i m) ∧ L.drop q = mkT (.co i m) ++ r6) := by
                    have h := hfin.out
                    rw [← HCR.out] at h
                    exact rdMk_eq y hy (f + 1) h
                  have hkk : Hid (kindM y (.co i m) = y.ty.cos[i].dst) := by show _ = _; show (y.ty.cos.getD i default).dst = _; rw [hgd]
                  have hbeq : (kindM y m != y.ty.cos[i].src) = false := by simp [hkind]
                  clear hrd2
                  go_wp2_with fail
                  rw [← hu8]
                  rw [← hu8] at d1 d5 g5 l0 l1
                  clear hu8
                  go_quiet (fail)
                  go_wp2
                  try rw [Exit.noGoto_ret]
                  refine bodyPost_ret (v := .tuple #[.string (str (tmT (erM y m))), .int .i64 y.ty.cos[i].dst]) (by simp [results, Tryz.results130, go_sem]) rfl ?_
                  refine ⟨.inl ⟨.co i m, r6, c6, hfin.out, hall.out.1, hall.out.2, by rw [hkk.out]; rfl, ?_, ownsRow_below HO8.out (below_drewN (Below.refl _ _) _) (Nat.le_refl _), Hat8.out⟩, HK8.out.under (below_drewN (Below.refl _ _) _)⟩
                  rw [← Heu.out]
                  exact HS8.out.keep fun _ _ => rfl
                · have hno : Hid (rdMk y (f + 1) (35 :: l) = none) := by show _ = _; rw [hrd2.out, if_neg hkind]
                  have hbeq : (kindM y m != y.ty.cos[i].src) = true := by simp [hkind]
                  clear hrd2
                  go_wp2_with fail
                  rw [← hu8]
                  try rw [Exit.noGoto_ret]
                  refine bodyPost_ret (v := .tuple #[.string ⟨#[]⟩, .int .i64 (-1)]) (by simp [results, Tryz.results130, go_sem]) rfl ?_
                  exact ⟨.inr ⟨hno.out, _, _, _, c6, rfl, ⟨_, Nat.sub_le _ _, HS8.out.setBad true⟩, Hat8.out.grow (by simp [World.setCell])⟩, HK8.out.keep (Keep.set7 b 5 _ _)⟩
            · rw [hd3] at hm
              have hno : Hid (rdMk y (f + 1) (35 :: l) = none) := by
                show _ = _
                rw [hco2.out]
                unfold rdOf
                rw [hm]
                rfl
              have HK6 := Lib.hid (HK3.out.trans (Own2.refl c w w3) hk6)
              have Hat6 := Lib.hid (Own2.trans (Own2.refl c w w3) HK3.out.size hat6 hk6.size)
              have HB6 := Lib.hid hb6
              clear hk6 hat6 hb6 HS3 HK3 HO3 c5 hm hco2
              go_wp2_with fail
              refine (take7_bad lo hi b _ _ _ y L u6 c6 41 w6 HB6.out hL).mono ?_
              rintro e w7 ⟨rfl, ⟨q7, hq7, hs7⟩, hk7⟩
              have HK7 := Lib.hid (HK6.out.keep hk7)
              have Hat7 := Lib.hid (Hat6.out.grow hk7.size)
              obtain ⟨-, -, -, -, -, c5, c6', -⟩ := hs7.cells
              have f5 := hs7.frozen 5
              have f6 := hs7.frozen 6
              have HS7 := Lib.hid hs7
              clear hs7 hk7 HK6 Hat6
              go_wp2
              try rw [Exit.noGoto_ret]
              refine bodyPost_ret (v := .tuple #[.string ⟨#[]⟩, .int .i64 (-1)]) (by simp [results, Tryz.results130, go_sem]) rfl ?_
              exact ⟨.inr ⟨hno.out, _, _, _, c6, rfl, ⟨q7, hq7, (HS7.out.setUsed _).setBad true⟩, Hat7.out.grow (by simp [World.setCell])⟩, (HK7.out.keep (Keep.set7 b 6 _ _)).keep (Keep.set7 b 5 _ _)⟩
      by_cases h64 : d = 64
      · subst h64
        have hrd : Hid (rdMk y (f + 1) (64 :: l) = rdApM (rdMk y f) y (64 :: l)) := rdMk_ap y f rfl rfl
        have HCALL : Hid (∀ w1 : World, Sr lo hi b sv cv fv y L (q + 1) false used c w1 → Keep b w w1 → Calls Tryz.prog 168 #[.pointer (some ⟨b, 0, none⟩)] w1 fun e w' => ReadPost7 lo hi b sv cv fv y L q used c cs (rdApM (rdMk y f) y (L.drop q)) w1 e w') := fun w1 hs1 hk1 =>
          call7_any lo hi b sv cv fv y hy L hL f HI.out q used c cs l w1 hs1 (own_keep HO.out hk1 (by omega)) HCR.out (by omega) hu0 hu hcs
        clear h HI HO hd35 hd64
        go_enter Tryz.func130, Tryz.ntmps130
        go_wp2_with fail
        refine HN.out.mono ?_
        rintro e w1 ⟨rfl, hs1, hk1⟩
        have HC1 := Lib.hid (HCALL.out w1 hs1 hk1)
        have HK1 := Lib.hid ((K2.refl b c w).keep hk1)
        obtain ⟨-, -, -, -, -, c5, -, -⟩ := hs1.cells
        clear hk1 hs1 HN HCALL
        go_wp2_with fail
        refine HC1.out.mono ?_
        rintro e w2 ⟨⟨m, r, c', hm, hok, htx, rfl, hs2, ho2, hat2⟩ | ⟨hm, s2, k2, u2, c', rfl, hb2, hat2⟩, hk2⟩
        · rw [HCR.out] at hm
          have HM : Hid (rdMk y (f + 1) (64 :: l) = some (m, r)) := by show _ = _; rw [hrd.out]; exact hm
          have HALL := Lib.hid (And.intro hok (And.intro htx (And.intro hs2 (And.intro ho2 (Own2.trans (Own2.refl c w w1) HK1.out.size hat2 hk2.size)))))
          have HK2 := Lib.hid (HK1.out.trans (Own2.refl c w w1) hk2)
          clear hm hok htx hs2 ho2 hat2 hk2 hrd
          go_wp2
          try rw [Exit.noGoto_ret]
          refine bodyPost_ret (v := .tuple #[.string (str (tmT (erM y m))), .int .i64 (kindM y m)]) (by simp [results, Tryz.results130, go_sem]) rfl ?_
          exact ⟨.inl ⟨m, r, c', HM.out, HALL.out.1, HALL.out.2.1, rfl, HALL.out.2.2.1, HALL.out.2.2.2.1, HALL.out.2.2.2.2⟩, HK2.out⟩
        · rw [HCR.out] at hm
          have HM : Hid (rdMk y (f + 1) (64 :: l) = none) := by show _ = _; rw [hrd.out]; exact hm
          have HB2 := Lib.hid hb2
          have Hat2 := Lib.hid (Own2.trans (Own2.refl c w w1) HK1.out.size hat2 hk2.size)
          have HK2 := Lib.hid (HK1.out.trans (Own2.refl c w w1) hk2)
          clear hm hb2 hat2 hk2 hrd
          go_wp2
          try rw [Exit.noGoto_ret]
          refine bodyPost_ret (v := .tuple #[.string s2, .int .i64 k2]) (by simp [results, Tryz.results130, go_sem]) rfl ?_
          exact ⟨.inr ⟨HM.out, s2, k2, u2, c', rfl, HB2.out, Hat2.out⟩, HK2.out⟩
      · have hrd : Hid (rdMk y (f + 1) (d :: l) = rdVal y (d :: l)) := rdMk_val y f (by simp [hasB, h35]) (by simp [hasB, h64])
        have hss := tyOk_sizes hy.ty
        have hn35 : ((d.toNat : Int) == 35) = false := by
          have : ¬ (d.toNat : Int) = 35 := fun e => h35 (UInt8.toNat_inj.1 (by have : (35 : UInt8).toNat = 35 := rfl; omega))
          simpa using this
        have hn64 : ((d.toNat : Int) == 64) = false := by
          have : ¬ (d.toNat : Int) = 64 := fun e => h64 (UInt8.toNat_inj.1 (by have : (64 : UInt8).toNat = 64 := rfl; omega))
          simpa using this
        have hnd35 : ¬ d.toNat = 35 := by simp at hn35; omega
        have hnd64 : ¬ d.toNat = 64 := by simp at hn64; omega
        clear h HI hd35 hd64
        go_enter Tryz.func130, Tryz.ntmps130
        go_wp2_with fail
        refine HN.out.mono ?_
        rintro e w1 ⟨rfl, hs1, hk1⟩
        have HS1 := Lib.hid hs1
        have HK1 := Lib.hid ((K2.refl b c w).keep hk1)
        have HO1 := Lib.hid (own_keep HO.out hk1 (by omega))
        obtain ⟨-, -, -, -, -, c5, -, -⟩ := hs1.cells
        clear hk1 hs1 HN HO
        go_wp2_with fail
        cases htk : rdTake 58 l with
        | none =>
          have hno : Hid (rdMk y (f + 1) (d :: l) = none) := by show _ = _; rw [hrd.out, rdVal_take htk]
          refine (take7_no lo hi b _ _ _ y L (q + 1) used c 58 58 rfl (by decide) w1 HS1.out hL (by omega) (by rw [hdr]; exact htk)).mono ?_
          clear htk hrd c5
          rintro e w2 ⟨rfl, hb2, hk2⟩
          have HK2 := Lib.hid (HK1.out.keep hk2)
          have HN2 := Lib.hid (next7_bad lo hi b _ _ _ y L used c w2 hb2 hL)
          clear hb2 hk2 HS1 HK1 HO1
          go_wp2_with fail
          refine HN2.out.mono ?_
          rintro e w3 ⟨⟨x, rfl⟩, hb3, hk3⟩
          have HK3 := Lib.hid (HK2.out.keep hk3)
          obtain ⟨q3, hq3, hs3⟩ := hb3
          obtain ⟨-, -, -, -, -, c5, -, -⟩ := hs3.cells
          have f5 := hs3.frozen 5
          have HS3 := Lib.hid hs3
          clear hk3 hs3 HK2 HN2
          go_wp2
          try rw [Exit.noGoto_ret]
          refine bodyPost_ret (v := .tuple #[.string ⟨#[]⟩, .int .i64 (-1)]) (by simp [results, Tryz.results130, go_sem]) rfl ?_
          exact ⟨.inr ⟨hno.out, _, _, used, c, rfl, ⟨q3, hq3, HS3.out.setBad true⟩, Own2.refl _ _ _⟩, HK3.out.keep (Keep.set7 b 5 _ _)⟩
        | some l2 =>
          refine (take7_yes lo hi b _ _ _ y L (q + 1) used c 58 58 rfl l2 w1 HS1.out hL (by rw [hdr]; exact htk)).mono ?_
          clear c5
          rintro e w2 ⟨rfl, hs2, hd2, hq2, hk2⟩
          have HS2 := Lib.hid hs2
          have HK2 := Lib.hid (HK1.out.keep hk2)
          have HO2 := Lib.hid (own_keep HO1.out hk2 (by omega))
          clear hs2 hk2 HS1 HK1 HO1
          go_wp2_with fail
          cases l2 with
          | nil =>
            have hno : Hid (rdMk y (f + 1) (d :: l) = none) := by show _ = _; rw [hrd.out, rdVal_end htk]
            refine (next_no lo hi b _ _ _ y L (q + 1 + 1) false used c w2 HS2.out (drop_nil_of hd2)).mono ?_
            clear htk hrd
            rintro e w3 ⟨rfl, hs3, hk3⟩
            have HK3 := Lib.hid (HK2.out.keep hk3)
            obtain ⟨-, -, -, -, -, c5, -, -⟩ := hs3.cells
            have f5 := hs3.frozen 5
            have HS3 := Lib.hid hs3
            clear hk3 hs3 HK2 HS2
            go_wp2
            try rw [Exit.noGoto_ret]
            refine bodyPost_ret (v := .tuple #[.string ⟨#[]⟩, .int .i64 (-1)]) (by simp [results, Tryz.results130, go_sem]) rfl ?_
            exact ⟨.inr ⟨hno.out, _, _, used, c, rfl, ⟨q + 1 + 1, hq2, HS3.out.setBad true⟩, Own2.refl _ _ _⟩, HK3.out.keep (Keep.set7 b 5 _ _)⟩
          | cons d2 l3 =>
            have hrd2 : Hid (rdMk y (f + 1) (d :: l) = if hasV0 y.ty.sizes ((d.toNat : Int) - 48) ((d2.toNat : Int) - 48) = true then some (.lit ((d.toNat : Int) - 48) ((d2.toNat : Int) - 48), l3) else none) := by show _ = _; rw [hrd.out, rdVal_two hy htk]
            have hd2b : (d2.toNat : Int) ≤ 255 := by have := UInt8.toNat_lt d2; omega
            have htk2 := rdTake_eq htk
            obtain ⟨hq3, hdr3, -⟩ := drop_cons_of hd2
            refine (next_yes lo hi b _ _ _ y L (q + 1 + 1) false used c d2 l3 w2 HS2.out hL hd2).mono ?_
            clear htk hrd
            rintro e w3 ⟨rfl, hs3, hk3⟩
            have HK3 := Lib.hid (HK2.out.keep hk3)
            have HO3 := Lib.hid (own_keep HO2.out hk3 (by omega))
            obtain ⟨c0, c1, -, c3, c4, c5, -, -⟩ := hs3.cells
            have HS3 := Lib.hid hs3
            clear hk3 hs3 HK2 HS2 HO2
            go_wp2_with fail
            refine (l1Has_any lo hi sv cv y.ty ((d.toNat : Int) - 48) ((d2.toNat : Int) - 48) w3 HS3.out.sy.1 (by have := HS3.out.hib; have := HS3.out.lt; omega) hss).mono ?_
            rintro e w4 ⟨rfl, hb4⟩
            have HS4 : Hid (Sr lo hi b sv cv fv y L (q + 1 + 1 + 1) false used c w4) := HS3.out.keep fun k hk => hb4.block k (by have := HS3.out.lt; omega)
            have HK4 := Lib.hid (HK3.out.under hb4)
            have HO4 := Lib.hid (ownsRow_below HO3.out hb4 (Nat.le_refl _))
            clear hb4 HS3 HK3 HO3 c0 c1 c3 c4 c5
            obtain ⟨-, -, -, c3, c4, c5, -, -⟩ := HS4.out.cells
            have f5 := HS4.out.frozen 5
            cases hv : hasV0 y.ty.sizes ((d.toNat : Int) - 48) ((d2.toNat : Int) - 48) with
            | false =>
              have hno : Hid (rdMk y (f + 1) (d :: l) = none) := by show _ = _; rw [hrd2.out, if_neg (by simp [hv])]
              clear hrd2 c3 c4 hv
              go_wp2
              try rw [Exit.noGoto_ret]
              refine bodyPost_ret (v := .tuple #[.string ⟨#[]⟩, .int .i64 (-1)]) (by simp [results, Tryz.results130, go_sem]) rfl ?_
              exact ⟨.inr ⟨hno.out, _, _, used, c, rfl, ⟨_, hq3, HS4.out.setBad true⟩, Own2.refl _ _ _⟩, HK4.out.keep (Keep.set7 b 5 _ _)⟩
            | true =>
              have hfin : Hid (rdMk y (f + 1) (d :: l) = some (.lit ((d.toNat : Int) - 48) ((d2.toNat : Int) - 48), l3)) := by show _ = _; rw [hrd2.out, if_pos hv]
              have hall : Hid (MkOk y (.lit ((d.toNat : Int) - 48) ((d2.toNat : Int) - 48)) ∧ L.drop q = mkT (.lit ((d.toNat : Int) - 48) ((d2.toNat : Int) - 48)) ++ l3) := by
                have h := hfin.out
                rw [← HCR.out] at h
                exact rdMk_eq y hy (f + 1) h
              have hl3 : L.length - l3.length = q + 1 + 1 + 1 := by
                have h := congrArg List.length hdr3
                rw [List.length_drop] at h
                omega
              have hsl : Hid ((str L).extract q (q + 3) = str (tmT (erM y (.lit ((d.toNat : Int) - 48) ((d2.toNat : Int) - 48))))) := by
                show _ = _
                have h := hall.out.2
                have e3 : mkT (.lit ((d.toNat : Int) - 48) ((d2.toNat : Int) - 48)) = tmT (erM y (.lit ((d.toNat : Int) - 48) ((d2.toNat : Int) - 48))) := rfl
                rw [← e3]
                apply ByteArray.ext
                have h2 : (L.drop q).take 3 = mkT (.lit ((d.toNat : Int) - 48) ((d2.toNat : Int) - 48)) := by rw [h]; simp [mkT, dg]
                simp [str, ByteArray.data_extract, List.extract_eq_take_drop]
                exact h2
              have hss2 : ∀ u : World, (Instr.slice 9 (.string (str L)) (some (.int .i64 (q : Int))) (some (.int .i64 ((q : Int) + 3))) none).run Tryz.prog u = .ok (.string (str (tmT (erM y (.lit ((d.toNat : Int) - 48) ((d2.toNat : Int) - 48)))))) u := fun u => by
                rw [slice7 (str L) q (q + 3) (by omega) (by rw [str_size]; omega) _ _ rfl (by omega) u, hsl.out]
              rw [show (((q + 1 + 1 + 1 : Nat)) : Int) = (q : Int) + 3 by omega] at c4
              clear hrd2 hv hsl
              go_wp2_with fail
              go_quiet (fail)
              go_wp2
              try rw [Exit.noGoto_ret]
              refine bodyPost_ret (v := .tuple #[.string (str (tmT (erM y (.lit ((d.toNat : Int) - 48) ((d2.toNat : Int) - 48))))), .int .i64 ((d.toNat : Int) - 48)]) (by simp [results, Tryz.results130, go_sem]) rfl ?_
              refine ⟨.inl ⟨_, l3, c, hfin.out, hall.out.1, hall.out.2, rfl, ?_, ?_, Own2.refl _ _ _⟩, HK4.out.under (below_drewN (Below.refl _ _) _)⟩
              · rw [hl3]
                simp only [coN, Int.natCast_zero, Int.add_zero]
                exact HS4.out.keep fun _ _ => rfl
              · simp only [fnM, List.append_nil]
                exact ownsRow_below HO4.out (below_drewN (Below.refl _ _) _) (Nat.le_refl _)
end Go.Proofs.YtdemcoghgnnheaaGreatDoor

