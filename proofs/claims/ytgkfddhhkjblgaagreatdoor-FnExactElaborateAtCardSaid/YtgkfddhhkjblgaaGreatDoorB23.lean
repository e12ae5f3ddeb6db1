/-
  The contract of the model's reader of explicit terms: term.
  The contracts of the model's l7Read, MadeType, CoercionsIn, FunctionsIn.
  The contract of the program's readMade, whose deferred call recovers.
-/
import Derived.Test.YtgkfddhhkjblgaaGreatDoorB22
import Derived.Test.YtgkfddhhkjblgaaGreatDoorB6
import Derived.Test.YtgkfddhhkjblgaaGreatDoorB8
import Derived.Test.YtgkfddhhkjblgaaGreatDoorB21
import Derived.Test.YtgkfddhhkjblgaaGreatDoorB7
import Derived.Defers
import Derived.Recover
namespace Go.Proofs.YtgkfddhhkjblgaaGreatDoor
open Go.RowKit

theorem ixB_dig {y : Sy} (hy : SyOk y) {k v : Int} (h : hasV0 y.ty.sizes k v = true) : 0 ≤ k ∧ k ≤ 4 ∧ 0 ≤ v ∧ v ≤ 3 := by
  have hss := tyOk_sizes hy.ty
  obtain ⟨_, h5, h4⟩ := sizesOk_of hss
  unfold hasV0 at h
  simp only [Bool.and_eq_true] at h
  obtain ⟨h1, h2⟩ := h
  unfold ixB at h1 h2
  simp at h1 h2
  have hk : k.toNat < y.ty.sizes.length := by omega
  have h6 := h4 k.toNat hk
  rw [List.getElem?_eq_getElem hk] at h2
  simp at h2
  omega
theorem slice7 (s : ByteArray) (i j : Nat) (hij : i ≤ j) (hj : j ≤ s.size) (z y : Int) (hz : z = i) (hy : y = j) (w : World) : (Instr.slice 9 (.string s) (some (.int .i64 z)) (some (.int .i64 y)) none).run Tryz.prog w = .ok (.string (s.extract i j)) w := by
  subst hz; subst hy
  simp [Instr.slice, Instr.sliceBounds, Instr.sliceBound, asIntOf, run_underlying Tryz.underlying9, hij, hj]
theorem next7_bad (lo hi b : Nat) (sv cv fv : Value) (y : Sy) (L : List UInt8) (used : Int) (cal : Value) (w : World) (h : BadAt lo hi b sv cv fv y L used cal w) (hL : L.length ≤ 400) :
    Calls Tryz.prog 144 #[.pointer (some ⟨b, 0, none⟩)] w fun e w' => (∃ x : Int, e = .returned (.int .u8 x)) ∧ BadAt lo hi b sv cv fv y L used cal w' ∧ Keep b w w' := by
  obtain ⟨q, hq, h⟩ := h
  cases hcr : L.drop q with
  | nil => exact (next_no lo hi b sv cv fv y L q true used cal w h (drop_nil_of hcr)).mono fun e w' ⟨he, hs, hk⟩ => ⟨⟨_, he⟩, ⟨q, hq, hs⟩, hk⟩
  | cons c r => exact (next_yes lo hi b sv cv fv y L q true used cal c r w h hL hcr).mono fun e w' ⟨he, hs, hk⟩ => ⟨⟨_, he⟩, ⟨q + 1, (drop_cons_of hcr).1, hs⟩, hk⟩
theorem rdDigit_is {c : UInt8} {l : List UInt8} (h : isD c = true) : rdDigit (c :: l) = some (valD c, l) := by rw [rdDigit, if_pos h]
theorem rdDigit_not {c : UInt8} {l : List UInt8} (h : ¬ isD c = true) : rdDigit (c :: l) = none := by rw [rdDigit, if_neg h]
theorem rdVal_take {y : Sy} {c : UInt8} {l : List UInt8} (h : rdTake 58 l = none) : rdVal y (c :: l) = none := by
  unfold rdVal
  by_cases hc : isD c = true
  · rw [rdDigit_is hc]
    simp [h]
  · rw [rdDigit_not hc]
    rfl
theorem rdVal_end {y : Sy} {c : UInt8} {l : List UInt8} (h : rdTake 58 l = some []) : rdVal y (c :: l) = none := by
  unfold rdVal
  by_cases hc : isD c = true
  · rw [rdDigit_is hc]
    simp [h, rdDigit]
  · rw [rdDigit_not hc]
    rfl
theorem rdVal_two {y : Sy} (hy : SyOk y) {c d : UInt8} {l r : List UInt8} (h : rdTake 58 l = some (d :: r)) : rdVal y (c :: l) = if hasV0 y.ty.sizes ((c.toNat : Int) - 48) ((d.toNat : Int) - 48) = true then some (.lit ((c.toNat : Int) - 48) ((d.toNat : Int) - 48), r) else none := by
  unfold rdVal
  by_cases hv : hasV0 y.ty.sizes ((c.toNat : Int) - 48) ((d.toNat : Int) - 48) = true
  · obtain ⟨h1, h2, h3, h4⟩ := ixB_dig hy hv
    have hc : isD c = true := by unfold isD; simp; omega
    have hd : isD d = true := by unfold isD; simp; omega
    rw [if_pos hv, rdDigit_is hc]
    simp [h, rdDigit_is hd, valD, hv]
  · rw [if_neg hv]
    by_cases hc : isD c = true
    · by_cases hd : isD d = true
      · rw [rdDigit_is hc]
        simp [h, rdDigit_is hd, valD, hv]
      · rw [rdDigit_is hc]
        simp [h, rdDigit_not hd]
    · rw [rdDigit_not hc]
      rfl

set_option maxRecDepth 100000 in
set_option maxHeartbeats 8000000 in
theorem reads7 (lo hi b : Nat) (sv cv fv : Value) (y : Sy) (hy : SyOk y) (L : List UInt8) (hL : L.length ≤ 400) : ∀ f, Reads7 lo hi b sv cv fv y L f := by
  intro f
  induction f with
  | zero =>
    intro q used c cs w h ho hq hf hu0 hu hcs
    have HN := Lib.hid (next_no lo hi b sv cv fv y L q false used c w h (by omega))
    have hno : Hid (rdMk y 0 (L.drop q) = none) := rfl
    clear h ho
    go_enter Tryz.func127, Tryz.ntmps127
    go_wp2_with fail
    refine HN.out.mono ?_
    rintro e w1 ⟨rfl, hs1, hk1⟩
    have HS1 := Lib.hid hs1
    have HK1 := Lib.hid ((K2.refl b c w).keep hk1)
    obtain ⟨-, -, -, -, -, c5, -, -⟩ := hs1.cells
    clear hk1 hs1 HN
    go_wp2
    try rw [Exit.noGoto_ret]
    refine bodyPost_ret (v := .tuple #[.string ⟨#[]⟩, .int .i64 (-1)]) (by simp [results, Tryz.results127, go_sem]) rfl ?_
    exact ⟨.inr ⟨hno.out, _, _, used, c, rfl, ⟨q, hq, HS1.out⟩, Own2.refl _ _ _⟩, HK1.out⟩
  | succ f IH =>
    intro q used c cs w h ho hq hf hu0 hu hcs
    cases hcr : L.drop q with
    | nil =>
      have HN := Lib.hid (next_no lo hi b sv cv fv y L q false used c w h (drop_nil_of hcr))
      have hno : Hid (rdMk y (f + 1) [] = none) := rdMk_nil y _
      clear h ho
      go_enter Tryz.func127, Tryz.ntmps127
      go_wp2_with fail
      refine HN.out.mono ?_
      rintro e w1 ⟨rfl, hs1, hk1⟩
      have HS1 := Lib.hid hs1
      have HK1 := Lib.hid ((K2.refl b c w).keep hk1)
      obtain ⟨-, -, -, -, -, c5, -, -⟩ := hs1.cells
      clear hk1 hs1 HN
      go_wp2
      try rw [Exit.noGoto_ret]
      refine bodyPost_ret (v := .tuple #[.string ⟨#[]⟩, .int .i64 (-1)]) (by simp [results, Tryz.results127, go_sem]) rfl ?_
      exact ⟨.inr ⟨hno.out, _, _, used, c, rfl, ⟨q, hq, HS1.out⟩, Own2.refl _ _ _⟩, HK1.out⟩
    | cons d l =>
      obtain ⟨hql, hdr, -⟩ := drop_cons_of hcr
      have HN := Lib.hid (next_yes lo hi b sv cv fv y L q false used c d l w h hL hcr)
      have HO := Lib.hid ho
      have HI := Lib.hid IH
      have HCR := Lib.hid hcr
      have hdb : (d.toNat : Int) ≤ 255 := by have := UInt8.toNat_lt d; omega
      have hd35 := byte_eq d 35
      have hd64 := byte_eq d 64
      clear ho IH hcr
      by_cases h35 : d = 35
      · subst h35
        obtain ⟨CA, cap, rfl, hl3, hm3, _⟩ := h.sy.1.2.form
        have hblt := h.lt
        have hc8 : y.ty.cos.length ≤ 8 := by have h := hy.ty; simp only [tyOk, Bool.and_eq_true, decide_eq_true_eq] at h; exact h.1.2
        have hco : Hid (rdMk y (f + 1) (35 :: l) = (rdIx y.ty.cos.length l).bind fun p => (rdTake 40 p.2).bind fun r => (rdOf (rdMk y f) y (y.ty.cos.getD p.1 default).src r).bind fun q => (rdTake 41 q.2).map fun r => (.co p.1 q.1, r)) := by
          show _ = _
          rw [rdMk_co y f rfl]
          unfold rdCoM rdOpen
          rw [rdTake_cons]
          cases h1 : rdIx y.ty.cos.length l with
          | none => simp [h1]
          | some p =>
            cases h2 : rdTake 40 p.2 with
            | none => simp [h1, h2]
            | some r => simp [h1, h2]
        clear h hl3 hm3 hd35 hd64
        go_enter Tryz.func127, Tryz.ntmps127
        go_wp2_with fail
        refine HN.out.mono ?_
        rintro e w1 ⟨rfl, hs1, hk1⟩
        have HS1 := Lib.hid hs1
        have HK1 := Lib.hid ((K2.refl b c w).keep hk1)
        have HO1 := Lib.hid (own_keep HO.out hk1 (by omega))
        obtain ⟨-, c1, -, -, -, c5, -, -⟩ := hs1.cells
        clear hk1 hs1 HN HO
        go_wp2_with fail
        cases hix : rdIx y.ty.cos.length l with
        | none =>
          have hno : Hid (rdMk y (f + 1) (35 :: l) = none) := by show _ = _; rw [hco.out, hix]; rfl
          refine (digit7_no lo hi b _ _ _ y L (q + 1) used c y.ty.cos.length w1 HS1.out hL (by omega) hc8 (by rw [hdr]; exact hix)).mono ?_
          clear hix hco c1 c5
          rintro e w2 ⟨rfl, hb2, hk2⟩
          have HB2 : Hid (BadAt lo hi b sv (.slice CA y.ty.cos.length cap) fv y L used c w2) := hb2
          have HK2 := Lib.hid (HK1.out.keep hk2)
          clear hb2 hk2 HS1 HK1 HO1
          go_wp2_with fail
          refine (take7_bad lo hi b _ _ _ y L used c 40 w2 HB2.out hL).mono ?_
          rintro e w3 ⟨rfl, hb3, hk3⟩
          have HK3 := Lib.hid (HK2.out.keep hk3)
          have HB3 := Lib.hid hb3
          obtain ⟨q3, hq3, hs3⟩ := hb3
          obtain ⟨-, -, -, -, -, c5, -, -⟩ := hs3.cells
          clear hk3 hs3 HK2 HB2
          go_wp2
          try rw [Exit.noGoto_ret]
          refine bodyPost_ret (v := .tuple #[.string ⟨#[]⟩, .int .i64 (-1)]) (by simp [results, Tryz.results127, go_sem]) rfl ?_
          exact ⟨.inr ⟨hno.out, _, _, used, c, rfl, HB3.out, Own2.refl _ _ _⟩, HK3.out⟩
        | some p =>
          obtain ⟨i, r1⟩ := p
          have hif := (rdIx_eq hix).1
          have hi9 := (rdIx_eq hix).2.1
          have hgd : y.ty.cos.getD i default = y.ty.cos[i] := getD_get hif
          have hco1 : Hid (rdMk y (f + 1) (35 :: l) = (rdTake 40 r1).bind fun r => (rdOf (rdMk y f) y y.ty.cos[i].src r).bind fun q => (rdTake 41 q.2).map fun r => (.co i q.1, r)) := by show _ = _; rw [hco.out, hix, ← hgd]; rfl
          have hq2 : q + 2 ≤ L.length := by have h := congrArg List.length hdr; have h2 := rdIx_len hix; rw [List.length_drop] at h; omega
          refine (digit7_yes lo hi b _ _ _ y L (q + 1) used c y.ty.cos.length i r1 w1 HS1.out hL hc8 (by rw [hdr]; exact hix)).mono ?_
          clear hix hco c1 c5
          rintro e w2 ⟨rfl, hs2, hd2, hk2⟩
          have HS2 := Lib.hid hs2
          have HK2 := Lib.hid (HK1.out.keep hk2)
          have HO2 := Lib.hid (own_keep HO1.out hk2 (by omega))
          clear hs2 hk2 HS1 HK1 HO1
          go_wp2_with fail
          cases htk : rdTake 40 r1 with
          | none =>
            have hno : Hid (rdMk y (f + 1) (35 :: l) = none) := by show _ = _; rw [hco1.out, htk]; rfl
            refine (take7_no lo hi b _ _ _ y L (q + 2) used c 40 40 rfl (by decide) w2 HS2.out hL hq2 (by rw [hd2]; exact htk)).mono ?_
            clear htk hco1
            rintro e w3 ⟨rfl, hb3, hk3⟩
            have HK3 := Lib.hid (HK2.out.keep hk3)
            have HB3 := Lib.hid hb3
            obtain ⟨q3, hq3, hs3⟩ := hb3
            obtain ⟨-, -, -, -, -, c5, -, -⟩ := hs3.cells
            clear hk3 hs3 HK2 HS2
            go_wp2
            try rw [Exit.noGoto_ret]
            refine bodyPost_ret (v := .tuple #[.string ⟨#[]⟩, .int .i64 (-1)]) (by simp [results, Tryz.results127, go_sem]) rfl ?_
            exact ⟨.inr ⟨hno.out, _, _, used, c, rfl, HB3.out, Own2.refl _ _ _⟩, HK3.out⟩
          | some r2 =>
            have hco2 : Hid (rdMk y (f + 1) (35 :: l) = (rdOf (rdMk y f) y y.ty.cos[i].src r2).bind fun q => (rdTake 41 q.2).map fun r => (.co i q.1, r)) := by show _ = _; rw [hco1.out, htk]; rfl
            refine (take7_yes lo hi b _ _ _ y L (q + 2) used c 40 40 rfl r2 w2 HS2.out hL (by rw [hd2]; exact htk)).mono ?_
            clear htk hco1
            rintro e w3 ⟨rfl, hs3, hd3, hq3, hk3⟩
            have HS3 := Lib.hid hs3
            have HK3 := Lib.hid (HK2.out.keep hk3)
            have HO3 := Lib.hid (own_keep HO2.out hk3 (by omega))
            obtain ⟨-, -, -, -, -, c5, -, -⟩ := hs3.cells
            clear hs3 hk3 HS2 HK2 HO2
            go_wp2_with fail
            refine (HI.out (q + 2 + 1) used c cs w3 HS3.out HO3.out hq3 (by omega) hu0 (by omega) (by omega)).mono ?_
            rintro e w6 ⟨⟨m, r5, c6, hm, hok, htx, rfl, hs6, ho6, hat6⟩ | ⟨hm, s6, k6, u6, c6, rfl, hb6, hat6⟩, hk6⟩
            · rw [hd3] at hm
              have hsuf := drop_suffix htx
              have hln : (mkT m).length + r5.length + q + 3 = L.length := by
                have h1 := congrArg List.length htx
                rw [List.length_drop, List.length_append] at h1
                omega
              have hcl := coN_le m
              have HK6 := Lib.hid (HK3.out.trans (Own2.refl c w w3) hk6)
              have Hat6 := Lib.hid (Own2.trans (Own2.refl c w w3) HK3.out.size hat6 hk6.size)
              have HS6 := Lib.hid hs6
              have HO6 := Lib.hid ho6
              have hb6 := hs6.lt
              clear hk6 hat6 hs6 ho6 HS3 HK3 HO3 c5
              have hrd : Hid (rdMk y (f + 1) (35 :: l) = (if kindM y m = y.ty.cos[i].src then some (m, r5) else none).bind fun q => (rdTake 41 q.2).map fun r => (.co i q.1, r)) := by
                show _ = _
                rw [hco2.out]
                unfold rdOf
                rw [hm]
                rfl
              clear hm hco2
              go_wp2_with fail
              cases htk : rdTake 41 r5 with
              | none =>
                have hno : Hid (rdMk y (f + 1) (35 :: l) = none) := by
                  show _ = _
                  rw [hrd.out]
                  split <;> simp [htk]
                refine (take7_no lo hi b _ _ _ y L (L.length - r5.length) _ c6 41 41 rfl (by decide) w6 HS6.out hL (Nat.sub_le _ _) (by rw [hsuf.1]; exact htk)).mono ?_
                clear htk hrd
                rintro e w7 ⟨rfl, ⟨q7, hq7, hs7⟩, hk7⟩
                have HK7 := Lib.hid (HK6.out.keep hk7)
                have Hat7 := Lib.hid (Hat6.out.grow hk7.size)
                obtain ⟨-, -, -, -, -, c5, c6', -⟩ := hs7.cells
                have f5 := hs7.frozen 5
                have f6 := hs7.frozen 6
                have HS7 := Lib.hid hs7
                clear hs7 hk7 HS6 HO6 HK6 Hat6
                go_wp2
                try rw [Exit.noGoto_ret]
                refine bodyPost_ret (v := .tuple #[.string ⟨#[]⟩, .int .i64 (-1)]) (by simp [results, Tryz.results127, go_sem]) rfl ?_
                exact ⟨.inr ⟨hno.out, _, _, _, c6, rfl, ⟨q7, hq7, (HS7.out.setUsed _).setBad true⟩, Hat7.out.grow (by simp [World.setCell])⟩, (HK7.out.keep (Keep.set7 b 6 _ _)).keep (Keep.set7 b 5 _ _)⟩
              | some r6 =>
                have hl6 := rdTake_len htk
                refine (take7_yes lo hi b _ _ _ y L (L.length - r5.length) _ c6 41 41 rfl r6 w6 HS6.out hL (by rw [hsuf.1]; exact htk)).mono ?_
                rintro e w7 ⟨rfl, hs7, hd7, hq7, hk7⟩
                have eqa : L.length - r5.length + 1 = L.length - r6.length := by omega
                rw [eqa] at hs7
                have HK7 := Lib.hid (HK6.out.keep hk7)
                have Hat7 := Lib.hid (Hat6.out.grow hk7.size)
                have HO7 := Lib.hid (own_keep HO6.out hk7 (by omega))
                obtain ⟨-, c1, -, -, -, c5, c6', -⟩ := hs7.cells
                have f5 := hs7.frozen 5
                have f6 := hs7.frozen 6
                have HS7 := Lib.hid hs7
                obtain ⟨b4, off4, A2, cap2, rfl, hlo4, hhi4, k0, k1, k2, _, _, hi641, hi642, _⟩ := hs7.sy.1.2.at_ hif
                have hib := hs7.hib
                have hne4 : b ≠ b4 := by omega
                have hrd2 : Hid (rdMk y (f + 1) (35 :: l) = if kindM y m = y.ty.cos[i].src then some (.co i m, r6) else none) := by
                  show _ = _
                  rw [hrd.out]
                  split <;> simp [htk]
                clear hs7 hk7 HS6 HO6 HK6 Hat6 htk hrd eqa
                have Heu : Hid (used + (coN m : Int) + 1 = used + (coN (.co i m) : Int)) := by show _ = _; simp [coN]; omega
                obtain ⟨u8, hu8⟩ : ∃ u, u = w7.setCell ⟨b, 6, none⟩ (.int .i64 (used + (coN m : Int) + 1)) := ⟨_, rfl⟩
                have HS8 : Hid (Sr lo hi b sv (.slice (some ⟨b4, off4, none⟩) y.ty.cos.length cap) fv y L (L.length - r6.length) false (used + (coN m : Int) + 1) c6 u8) := by rw [hu8]; exact HS7.out.setUsed _
                have HK8 : Hid (K2 b c w u8) := by rw [hu8]; exact HK7.out.keep (Keep.set7 b 6 _ _)
                have HO8 : Hid (u8.ownsRow (b + 1) 3 1 c6 (cs ++ fnM m).length ((cs ++ fnM m).map (Value.int .i64))) := by rw [hu8]; exact own_keep HO7.out (Keep.set7 b 6 _ _) (by omega)
                have Hat8 : Hid (Own2 c c6 w u8) := by rw [hu8]; exact Hat7.out.grow (by simp [World.setCell])
                obtain ⟨-, d1, -, -, -, d5, -, -⟩ := HS8.out.cells
                have g5 := HS8.out.frozen 5
                have l0 : u8.cell? ⟨b4, off4 + i * 3, none⟩ = some (.int .i64 y.ty.cos[i].src) := by rw [hu8, World.cell?_setCell_far _ _ _ _ hne4]; exact k0
                have l1 : u8.cell? ⟨b4, off4 + i * 3 + 1, none⟩ = some (.int .i64 y.ty.cos[i].dst) := by rw [hu8, World.cell?_setCell_far _ _ _ _ hne4]; exact k1
                rw [hu8] at d1 d5 g5 l0 l1
                clear c1 c5 k0 k1 k2 HS7 HK7 HO7 Hat7
                by_cases hkind : kindM y m = y.ty.cos[i].src
                · have hfin : Hid (rdMk y (f + 1) (35 :: l) = some (.co i m, r6)) := by show _ = _; rw [hrd2.out, if_pos hkind]
                  have hall : Hid (MkOk y (.co i m) ∧ L.drop q = mkT (.co i m) ++ r6) := by
                    have h := hfin.out
                    rw [← HCR.out] at h
                    exact rdMk_eq y hy (f + 1) h
                  have hkk : Hid (kindM y (.co i m) = y.ty.cos[i].dst) := by show _ = _; show (y.ty.cos.getD i default).dst = _; rw [hgd]
                  have hbeq : (kindM y m != y.ty.cos[i].src) = false := by simp [hkind]
                  clear hrd2
                  go_wp2_with fail
                  rw [← hu8]
                  rw [← hu8] at d1 d5 g5 l0 l1
                  clear hu8
                  go_quiet (fail)
                  go_wp2
                  try rw [Exit.noGoto_ret]
                  refine bodyPost_ret (v := .tuple #[.string (str (tmT (erM y m))), .int .i64 y.ty.cos[i].dst]) (by simp [results, Tryz.results127, go_sem]) rfl ?_
                  refine ⟨.inl ⟨.co i m, r6, c6, hfin.out, hall.out.1, hall.out.2, by rw [hkk.out]; rfl, ?_, ownsRow_below HO8.out (below_drewN (Below.refl _ _) _) (Nat.le_refl _), Hat8.out⟩, HK8.out.under (below_drewN (Below.refl _ _) _)⟩
                  rw [← Heu.out]
                  exact HS8.out.keep fun _ _ => rfl
                · have hno : Hid (rdMk y (f + 1) (35 :: l) = none) := by show _ = _; rw [hrd2.out, if_neg hkind]
                  have hbeq : (kindM y m != y.ty.cos[i].src) = true := by simp [hkind]
                  clear hrd2
                  go_wp2_with fail
                  rw [← hu8]
                  try rw [Exit.noGoto_ret]
                  refine bodyPost_ret (v := .tuple #[.string ⟨#[]⟩, .int .i64 (-1)]) (by simp [results, Tryz.results127, go_sem]) rfl ?_
                  exact ⟨.inr ⟨hno.out, _, _, _, c6, rfl, ⟨_, Nat.sub_le _ _, HS8.out.setBad true⟩, Hat8.out.grow (by simp [World.setCell])⟩, HK8.out.keep (Keep.set7 b 5 _ _)⟩
            · rw [hd3] at hm
              have hno : Hid (rdMk y (f + 1) (35 :: l) = none) := by
                show _ = _
                rw [hco2.out]
                unfold rdOf
                rw [hm]
                rfl
              have HK6 := Lib.hid (HK3.out.trans (Own2.refl c w w3) hk6)
              have Hat6 := Lib.hid (Own2.trans (Own2.refl c w w3) HK3.out.size hat6 hk6.size)
              have HB6 := Lib.hid hb6
              clear hk6 hat6 hb6 HS3 HK3 HO3 c5 hm hco2
              go_wp2_with fail
              refine (take7_bad lo hi b _ _ _ y L u6 c6 41 w6 HB6.out hL).mono ?_
              rintro e w7 ⟨rfl, ⟨q7, hq7, hs7⟩, hk7⟩
              have HK7 := Lib.hid (HK6.out.keep hk7)
              have Hat7 := Lib.hid (Hat6.out.grow hk7.size)
              obtain ⟨-, -, -, -, -, c5, c6', -⟩ := hs7.cells
              have f5 := hs7.frozen 5
              have f6 := hs7.frozen 6
              have HS7 := Lib.hid hs7
              clear hs7 hk7 HK6 Hat6
              go_wp2
              try rw [Exit.noGoto_ret]
              refine bodyPost_ret (v := .tuple #[.string ⟨#[]⟩, .int .i64 (-1)]) (by simp [results, Tryz.results127, go_sem]) rfl ?_
              exact ⟨.inr ⟨hno.out, _, _, _, c6, rfl, ⟨q7, hq7, (HS7.out.setUsed _).setBad true⟩, Hat7.out.grow (by simp [World.setCell])⟩, (HK7.out.keep (Keep.set7 b 6 _ _)).keep (Keep.set7 b 5 _ _)⟩
      by_cases h64 : d = 64
      · subst h64
        have hrd : Hid (rdMk y (f + 1) (64 :: l) = rdApM (rdMk y f) y (64 :: l)) := rdMk_ap y f rfl rfl
        have HCALL : Hid (∀ w1 : World, Sr lo hi b sv cv fv y L (q + 1) false used c w1 → Keep b w w1 → Calls Tryz.prog 147 #[.pointer (some ⟨b, 0, none⟩)] w1 fun e w' => ReadPost7 lo hi b sv cv fv y L q used c cs (rdApM (rdMk y f) y (L.drop q)) w1 e w') := fun w1 hs1 hk1 =>
          call7_any lo hi b sv cv fv y hy L hL f HI.out q used c cs l w1 hs1 (own_keep HO.out hk1 (by omega)) HCR.out (by omega) hu0 hu hcs
        clear h HI HO hd35 hd64
        go_enter Tryz.func127, Tryz.ntmps127
        go_wp2_with fail
        refine HN.out.mono ?_
        rintro e w1 ⟨rfl, hs1, hk1⟩
        have HC1 := Lib.hid (HCALL.out w1 hs1 hk1)
        have HK1 := Lib.hid ((K2.refl b c w).keep hk1)
        obtain ⟨-, -, -, -, -, c5, -, -⟩ := hs1.cells
        clear hk1 hs1 HN HCALL
        go_wp2_with fail
        refine HC1.out.mono ?_
        rintro e w2 ⟨⟨m, r, c', hm, hok, htx, rfl, hs2, ho2, hat2⟩ | ⟨hm, s2, k2, u2, c', rfl, hb2, hat2⟩, hk2⟩
        · rw [HCR.out] at hm
          have HM : Hid (rdMk y (f + 1) (64 :: l) = some (m, r)) := by show _ = _; rw [hrd.out]; exact hm
          have HALL := Lib.hid (And.intro hok (And.intro htx (And.intro hs2 (And.intro ho2 (Own2.trans (Own2.refl c w w1) HK1.out.size hat2 hk2.size)))))
          have HK2 := Lib.hid (HK1.out.trans (Own2.refl c w w1) hk2)
          clear hm hok htx hs2 ho2 hat2 hk2 hrd
          go_wp2
          try rw [Exit.noGoto_ret]
          refine bodyPost_ret (v := .tuple #[.string (str (tmT (erM y m))), .int .i64 (kindM y m)]) (by simp [results, Tryz.results127, go_sem]) rfl ?_
          exact ⟨.inl ⟨m, r, c', HM.out, HALL.out.1, HALL.out.2.1, rfl, HALL.out.2.2.1, HALL.out.2.2.2.1, HALL.out.2.2.2.2⟩, HK2.out⟩
        · rw [HCR.out] at hm
          have HM : Hid (rdMk y (f + 1) (64 :: l) = none) := by show _ = _; rw [hrd.out]; exact hm
          have HB2 := Lib.hid hb2
          have Hat2 := Lib.hid (Own2.trans (Own2.refl c w w1) HK1.out.size hat2 hk2.size)
          have HK2 := Lib.hid (HK1.out.trans (Own2.refl c w w1) hk2)
          clear hm hb2 hat2 hk2 hrd
          go_wp2
          try rw [Exit.noGoto_ret]
          refine bodyPost_ret (v := .tuple #[.string s2, .int .i64 k2]) (by simp [results, Tryz.results127, go_sem]) rfl ?_
          exact ⟨.inr ⟨HM.out, s2, k2, u2, c', rfl, HB2.out, Hat2.out⟩, HK2.out⟩
      · have hrd : Hid (rdMk y (f + 1) (d :: l) = rdVal y (d :: l)) := rdMk_val y f (by simp [hasB, h35]) (by simp [hasB, h64])
        have hss := tyOk_sizes hy.ty
        have hn35 : ((d.toNat : Int) == 35) = false := by
          have : ¬ (d.toNat : Int) = 35 := fun e => h35 (UInt8.toNat_inj.1 (by have : (35 : UInt8).toNat = 35 := rfl; omega))
          simpa using this
        have hn64 : ((d.toNat : Int) == 64) = false := by
          have : ¬ (d.toNat : Int) = 64 := fun e => h64 (UInt8.toNat_inj.1 (by have : (64 : UInt8).toNat = 64 := rfl; omega))
          simpa using this
        have hnd35 : ¬ d.toNat = 35 := by simp at hn35; omega
        have hnd64 : ¬ d.toNat = 64 := by simp at hn64; omega
        clear h HI hd35 hd64
        go_enter Tryz.func127, Tryz.ntmps127
        go_wp2_with fail
        refine HN.out.mono ?_
        rintro e w1 ⟨rfl, hs1, hk1⟩
        have HS1 := Lib.hid hs1
        have HK1 := Lib.hid ((K2.refl b c w).keep hk1)
        have HO1 := Lib.hid (own_keep HO.out hk1 (by omega))
        obtain ⟨-, -, -, -, -, c5, -, -⟩ := hs1.cells
        clear hk1 hs1 HN HO
        go_wp2_with fail
        cases htk : rdTake 58 l with
        | none =>
          have hno : Hid (rdMk y (f + 1) (d :: l) = none) := by show _ = _; rw [hrd.out, rdVal_take htk]
          refine (take7_no lo hi b _ _ _ y L (q + 1) used c 58 58 rfl (by decide) w1 HS1.out hL (by omega) (by rw [hdr]; exact htk)).mono ?_
          clear htk hrd c5
          rintro e w2 ⟨rfl, hb2, hk2⟩
          have HK2 := Lib.hid (HK1.out.keep hk2)
          have HN2 := Lib.hid (next7_bad lo hi b _ _ _ y L used c w2 hb2 hL)
          clear hb2 hk2 HS1 HK1 HO1
          go_wp2_with fail
          refine HN2.out.mono ?_
          rintro e w3 ⟨⟨x, rfl⟩, hb3, hk3⟩
          have HK3 := Lib.hid (HK2.out.keep hk3)
          obtain ⟨q3, hq3, hs3⟩ := hb3
          obtain ⟨-, -, -, -, -, c5, -, -⟩ := hs3.cells
          have f5 := hs3.frozen 5
          have HS3 := Lib.hid hs3
          clear hk3 hs3 HK2 HN2
          go_wp2
          try rw [Exit.noGoto_ret]
          refine bodyPost_ret (v := .tuple #[.string ⟨#[]⟩, .int .i64 (-1)]) (by simp [results, Tryz.results127, go_sem]) rfl ?_
          exact ⟨.inr ⟨hno.out, _, _, used, c, rfl, ⟨q3, hq3, HS3.out.setBad true⟩, Own2.refl _ _ _⟩, HK3.out.keep (Keep.set7 b 5 _ _)⟩
        | some l2 =>
          refine (take7_yes lo hi b _ _ _ y L (q + 1) used c 58 58 rfl l2 w1 HS1.out hL (by rw [hdr]; exact htk)).mono ?_
          clear c5
          rintro e w2 ⟨rfl, hs2, hd2, hq2, hk2⟩
          have HS2 := Lib.hid hs2
          have HK2 := Lib.hid (HK1.out.keep hk2)
          have HO2 := Lib.hid (own_keep HO1.out hk2 (by omega))
          clear hs2 hk2 HS1 HK1 HO1
          go_wp2_with fail
          cases l2 with
          | nil =>
            have hno : Hid (rdMk y (f + 1) (d :: l) = none) := by show _ = _; rw [hrd.out, rdVal_end htk]
            refine (next_no lo hi b _ _ _ y L (q + 1 + 1) false used c w2 HS2.out (drop_nil_of hd2)).mono ?_
            clear htk hrd
            rintro e w3 ⟨rfl, hs3, hk3⟩
            have HK3 := Lib.hid (HK2.out.keep hk3)
            obtain ⟨-, -, -, -, -, c5, -, -⟩ := hs3.cells
            have f5 := hs3.frozen 5
            have HS3 := Lib.hid hs3
            clear hk3 hs3 HK2 HS2
            go_wp2
            try rw [Exit.noGoto_ret]
            refine bodyPost_ret (v := .tuple #[.string ⟨#[]⟩, .int .i64 (-1)]) (by simp [results, Tryz.results127, go_sem]) rfl ?_
            exact ⟨.inr ⟨hno.out, _, _, used, c, rfl, ⟨q + 1 + 1, hq2, HS3.out.setBad true⟩, Own2.refl _ _ _⟩, HK3.out.keep (Keep.set7 b 5 _ _)⟩
          | cons d2 l3 =>
            have hrd2 : Hid (rdMk y (f + 1) (d :: l) = if hasV0 y.ty.sizes ((d.toNat : Int) - 48) ((d2.toNat : Int) - 48) = true then some (.lit ((d.toNat : Int) - 48) ((d2.toNat : Int) - 48), l3) else none) := by show _ = _; rw [hrd.out, rdVal_two hy htk]
            have hd2b : (d2.toNat : Int) ≤ 255 := by have := UInt8.toNat_lt d2; omega
            have htk2 := rdTake_eq htk
            obtain ⟨hq3, hdr3, -⟩ := drop_cons_of hd2
            refine (next_yes lo hi b _ _ _ y L (q + 1 + 1) false used c d2 l3 w2 HS2.out hL hd2).mono ?_
            clear htk hrd
            rintro e w3 ⟨rfl, hs3, hk3⟩
            have HK3 := Lib.hid (HK2.out.keep hk3)
            have HO3 := Lib.hid (own_keep HO2.out hk3 (by omega))
            obtain ⟨c0, c1, -, c3, c4, c5, -, -⟩ := hs3.cells
            have HS3 := Lib.hid hs3
            clear hk3 hs3 HK2 HS2 HO2
            go_wp2_with fail
            refine (l1Has_any lo hi sv cv y.ty ((d.toNat : Int) - 48) ((d2.toNat : Int) - 48) w3 HS3.out.sy.1 (by have := HS3.out.hib; have := HS3.out.lt; omega) hss).mono ?_
            rintro e w4 ⟨rfl, hb4⟩
            have HS4 : Hid (Sr lo hi b sv cv fv y L (q + 1 + 1 + 1) false used c w4) := HS3.out.keep fun k hk => hb4.block k (by have := HS3.out.lt; omega)
            have HK4 := Lib.hid (HK3.out.under hb4)
            have HO4 := Lib.hid (ownsRow_below HO3.out hb4 (Nat.le_refl _))
            clear hb4 HS3 HK3 HO3 c0 c1 c3 c4 c5
            obtain ⟨-, -, -, c3, c4, c5, -, -⟩ := HS4.out.cells
            have f5 := HS4.out.frozen 5
            cases hv : hasV0 y.ty.sizes ((d.toNat : Int) - 48) ((d2.toNat : Int) - 48) with
            | false =>
              have hno : Hid (rdMk y (f + 1) (d :: l) = none) := by show _ = _; rw [hrd2.out, if_neg (by simp [hv])]
              clear hrd2 c3 c4 hv
              go_wp2
              try rw [Exit.noGoto_ret]
              refine bodyPost_ret (v := .tuple #[.string ⟨#[]⟩, .int .i64 (-1)]) (by simp [results, Tryz.results127, go_sem]) rfl ?_
              exact ⟨.inr ⟨hno.out, _, _, used, c, rfl, ⟨_, hq3, HS4.out.setBad true⟩, Own2.refl _ _ _⟩, HK4.out.keep (Keep.set7 b 5 _ _)⟩
            | true =>
              have hfin : Hid (rdMk y (f + 1) (d :: l) = some (.lit ((d.toNat : Int) - 48) ((d2.toNat : Int) - 48), l3)) := by show _ = _; rw [hrd2.out, if_pos hv]
              have hall : Hid (MkOk y (.lit ((d.toNat : Int) - 48) ((d2.toNat : Int) - 48)) ∧ L.drop q = mkT (.lit ((d.toNat : Int) - 48) ((d2.toNat : Int) - 48)) ++ l3) := by
                have h := hfin.out
                rw [← HCR.out] at h
                exact rdMk_eq y hy (f + 1) h
              have hl3 : L.length - l3.length = q + 1 + 1 + 1 := by
                have h := congrArg List.length hdr3
                rw [List.length_drop] at h
                omega
              have hsl : Hid ((str L).extract q (q + 3) = str (tmT (erM y (.lit ((d.toNat : Int) - 48) ((d2.toNat : Int) - 48))))) := by
                show _ = _
                have h := hall.out.2
                have e3 : mkT (.lit ((d.toNat : Int) - 48) ((d2.toNat : Int) - 48)) = tmT (erM y (.lit ((d.toNat : Int) - 48) ((d2.toNat : Int) - 48))) := rfl
                rw [← e3]
                apply ByteArray.ext
                have h2 : (L.drop q).take 3 = mkT (.lit ((d.toNat : Int) - 48) ((d2.toNat : Int) - 48)) := by rw [h]; simp [mkT, dg]
                simp [str, ByteArray.data_extract, List.extract_eq_take_drop]
                exact h2
              have hss2 : ∀ u : World, (Instr.slice 9 (.string (str L)) (some (.int .i64 (q : Int))) (some (.int .i64 ((q : Int) + 3))) none).run Tryz.prog u = .ok (.string (str (tmT (erM y (.lit ((d.toNat : Int) - 48) ((d2.toNat : Int) - 48)))))) u := fun u => by
                rw [slice7 (str L) q (q + 3) (by omega) (by rw [str_size]; omega) _ _ rfl (by omega) u, hsl.out]
              rw [show (((q + 1 + 1 + 1 : Nat)) : Int) = (q : Int) + 3 by omega] at c4
              clear hrd2 hv hsl
              go_wp2_with fail
              go_quiet (fail)
              go_wp2
              try rw [Exit.noGoto_ret]
              refine bodyPost_ret (v := .tuple #[.string (str (tmT (erM y (.lit ((d.toNat : Int) - 48) ((d2.toNat : Int) - 48))))), .int .i64 ((d.toNat : Int) - 48)]) (by simp [results, Tryz.results127, go_sem]) rfl ?_
              refine ⟨.inl ⟨_, l3, c, hfin.out, hall.out.1, hall.out.2, rfl, ?_, ?_, Own2.refl _ _ _⟩, HK4.out.under (below_drewN (Below.refl _ _) _)⟩
              · rw [hl3]
                simp only [coN, Int.natCast_zero, Int.add_zero]
                exact HS4.out.keep fun _ _ => rfl
              · simp only [fnM, List.append_nil]
                exact ownsRow_below HO4.out (below_drewN (Below.refl _ _) _) (Nat.le_refl _)
end Go.Proofs.YtgkfddhhkjblgaaGreatDoor

namespace Go.Proofs.YtgkfddhhkjblgaaGreatDoor
open Go.RowKit

noncomputable def okM (y : Sy) (L : List UInt8) : Bool := (readM y L).isSome
noncomputable def kdM (y : Sy) (L : List UInt8) : Int := match readM y L with
  | some m => kindM y m
  | none => -1
noncomputable def txL (y : Sy) (L : List UInt8) : List UInt8 := match readM y L with
  | some m => tmT (erM y m)
  | none => []
noncomputable def cnM (y : Sy) (L : List UInt8) : Int := match readM y L with
  | some m => (coN m : Int)
  | none => -1
noncomputable def fnL (y : Sy) (L : List UInt8) : List Int := match readM y L with
  | some m => fnM m
  | none => []
theorem vals_some {y : Sy} {L : List UInt8} {m : Mk} (h : readM y L = some m) : okM y L = true ∧ kdM y L = kindM y m ∧ txL y L = tmT (erM y m) ∧ cnM y L = (coN m : Int) ∧ fnL y L = fnM m := by
  unfold okM kdM txL cnM fnL
  rw [h]
  exact ⟨rfl, rfl, rfl, rfl, rfl⟩
theorem vals_none {y : Sy} {L : List UInt8} (h : readM y L = none) : okM y L = false ∧ kdM y L = -1 ∧ txL y L = [] ∧ cnM y L = -1 ∧ fnL y L = [] := by
  unfold okM kdM txL cnM fnL
  rw [h]
  exact ⟨rfl, rfl, rfl, rfl, rfl⟩
theorem readM_yes {y : Sy} {L : List UInt8} {m : Mk} (hy : syB y = true) (hl : L.length ≤ 400) (h : rdMk y L.length L = some (m, [])) : readM y L = some m := by unfold readM parseM; rw [if_pos hy, if_pos hl, h]
theorem readM_rest {y : Sy} {L r : List UInt8} {m : Mk} (hr : r ≠ []) (h : rdMk y L.length L = some (m, r)) : readM y L = none := by
  unfold readM parseM
  rw [h]
  cases r with
  | nil => exact absurd rfl hr
  | cons c r =>
    split
    · split <;> rfl
    · rfl
theorem readM_no {y : Sy} {L : List UInt8} (h : rdMk y L.length L = none) : readM y L = none := by
  unfold readM parseM
  rw [h]
  split
  · split <;> rfl
  · rfl
theorem readM_bad {y : Sy} {L : List UInt8} (hy : syB y = false) : readM y L = none := by unfold readM; rw [if_neg (by simp [hy])]
theorem readM_long {y : Sy} {L : List UInt8} (hl : ¬ L.length ≤ 400) : readM y L = none := by
  unfold readM parseM
  rw [if_neg hl]
  split <;> rfl

theorem readM_len {y : Sy} {L : List UInt8} {m : Mk} (h : readM y L = some m) : (mkT m).length ≤ 400 := by
  unfold readM at h
  split at h
  · rename_i hy
    unfold parseM at h
    split at h
    · rename_i hl
      split at h
      · rename_i m2 hm
        injection h with h
        subst h
        have h2 := (rdMk_eq y (syB_iff.1 hy) _ hm).2
        have h3 := congrArg List.length h2
        rw [List.length_append] at h3
        omega
      · cases h
    · cases h
  · cases h
theorem own_at7 {w : World} {N : Nat} {t : TypeId} {A : Option Addr} {n n' cap : Nat} {xs : List Value} (h : w.ownsRow N t 1 (.slice A n' cap) n xs) : ∀ j, j < n → ∃ g, A = some ⟨g, 0, none⟩ ∧ w.cell? ⟨g, j, none⟩ = xs[j]? := by
  intro j hj
  obtain ⟨_, ⟨_, e⟩ | ⟨g, cap', cur, e, hg, hh, hc1, hc2, hcs, htake⟩⟩ := h
  · omega
  · injection e with e1 e2 e3
    subst e1; subst e2; subst e3
    refine ⟨g, rfl, ?_⟩
    have e : w.cell? ⟨g, j, none⟩ = cur[j]? := by simp [World.cell?, hh]
    rw [e]
    have e2 : cur[j]? = (cur.toList.take (n' * 1))[j]? := by
      rw [List.getElem?_take_of_lt (by omega)]
      simp
    rw [e2, htake]

def LPost7 (y : Sy) (L : List UInt8) (w : World) (e : Ending) (w' : World) : Prop :=
  (∃ b, e = .returned (.tuple #[.pointer (some ⟨b, 0, none⟩), .string (str (txL y L)), .int .i64 (kdM y L), .bool (okM y L)]) ∧ w.heap.size ≤ b ∧
    ∀ m, readM y L = some m → ∃ sv cv fv c, Row w' b 157 [sv, cv, fv, .string (str L), .int .i64 L.length, .bool false, .int .i64 (coN m), c] ∧ w'.ownsRow (b + 1) 3 1 c (fnM m).length ((fnM m).map (Value.int .i64)) ∧ MkOk y m) ∧ Below w.heap.size w w'

set_option maxRecDepth 100000 in
set_option maxHeartbeats 4000000 in
theorem l7Read_any (lo hi : Nat) (sv cv fv : Value) (y : Sy) (L : List UInt8) (w : World) (hv : SyAt w lo hi sv cv fv y) (hB : hi ≤ w.heap.size) :
    Calls Tryz.prog 100 #[.agg #[sv, cv, fv], .string (str L)] w fun e w' => LPost7 y L w e w' := by
  obtain ⟨A1, cap1, rfl, _, _, _⟩ := hv.1.1.form
  obtain ⟨A2, cap2, rfl, _, _, _⟩ := hv.1.2.form
  obtain ⟨A3, cap3, rfl, _, _, _⟩ := hv.2.form
  have Hv := Lib.hid hv
  have hsz := str_size L
  obtain ⟨sv, hsv⟩ : ∃ v, v = Value.slice A1 y.ty.sizes.length cap1 := ⟨_, rfl⟩
  obtain ⟨cv, hcv⟩ : ∃ v, v = Value.slice A2 y.ty.cos.length cap2 := ⟨_, rfl⟩
  obtain ⟨fv, hfv⟩ : ∃ v, v = Value.slice A3 y.fs.length cap3 := ⟨_, rfl⟩
  rw [← hsv, ← hcv, ← hfv] at Hv
  obtain ⟨w1, hw1⟩ : ∃ u, u = w.alloc (.cells #[.slice A1 y.ty.sizes.length cap1, .slice A2 y.ty.cos.length cap2, .slice A3 y.fs.length cap3] 37) := ⟨_, rfl⟩
  obtain ⟨w2, hw2⟩ : ∃ u, u = w1.alloc (.cells #[.slice A1 y.ty.sizes.length cap1, .slice A2 y.ty.cos.length cap2, .slice A3 y.fs.length cap3, .string (str L), .int .i64 0, .bool false, .int .i64 0, .slice none 0 0] 157) := ⟨_, rfl⟩
  have hs1 : w1.heap.size = w.heap.size + 1 := by rw [hw1, World.size_alloc]
  have hs2 : w2.heap.size = w.heap.size + 2 := by rw [hw2, World.size_alloc, hs1]
  have hb1 : Below w.heap.size w w1 := by rw [hw1]; exact (Below.refl _ _).alloc (Nat.le_refl _) _
  have hb2 : Below w.heap.size w w2 := by rw [hw2]; exact hb1.alloc (by omega) _
  have HR1 : Hid (Row w1 w.heap.size 37 [.slice A1 y.ty.sizes.length cap1, .slice A2 y.ty.cos.length cap2, .slice A3 y.fs.length cap3]) := by rw [hw1]; exact Row.new w _ _
  have HR2 : Hid (Row w2 w.heap.size 37 [.slice A1 y.ty.sizes.length cap1, .slice A2 y.ty.cos.length cap2, .slice A3 y.fs.length cap3]) := by rw [hw2]; exact HR1.out.alloc _
  have HS2 : Hid (Sr lo hi (w.heap.size + 1) sv cv fv y L 0 false 0 (.slice none 0 0) w2) := by
    refine ⟨?_, Hv.out.below hb2 hB, by omega⟩
    rw [hw2, ← hs1, hsv, hcv, hfv]
    exact Row.new w1 _ _
  have HB2 := Lib.hid hb2
  have p0 := HR1.out.cell 0
  have p1 := HR1.out.cell 1
  have p2 := HR1.out.cell 2
  have q0 := HR2.out.cell 0
  have q1 := HR2.out.cell 1
  have q2 := HR2.out.cell 2
  simp only [List.getElem?_cons_zero, List.getElem?_cons_succ] at p0 p1 p2 q0 q1 q2
  rw [hw1] at p0 p1 p2
  rw [hw2, hw1] at q0 q1 q2
  clear hv hb1 hb2
  go_enter Tryz.func100, Tryz.ntmps100
  go_wp2_with fail
  rw [← hw1, ← hw2]
  have hvv : SyAt w2 lo hi (.slice A1 y.ty.sizes.length cap1) (.slice A2 y.ty.cos.length cap2) (.slice A3 y.fs.length cap3) y := by rw [← hsv, ← hcv, ← hfv]; exact HS2.out.sy
  refine (specSysValid_any lo hi _ _ _ y w2 hvv (by omega)).mono ?_
  clear p0 p1 p2 q0 q1 q2 hvv
  rintro e w3 ⟨rfl, hb3⟩
  have HS3 : Hid (Sr lo hi (w.heap.size + 1) sv cv fv y L 0 false 0 (.slice none 0 0) w3) := HS2.out.keep fun k hk => hb3.block k (by omega)
  have HB3 := Lib.hid (HB2.out.trans (hb3.mono (by omega)))
  have hs3 := hb3.size
  clear hb3 HS2 HB2 hw1 hw2 hs1 HR1 HR2
  cases hy : syB y with
  | false =>
    obtain ⟨e1, e2, e3, -, -⟩ := vals_none (L := L) (readM_bad hy)
    have Hno := Lib.hid (readM_bad (L := L) hy)
    have E1 := Lib.hid e1
    have E2 := Lib.hid e2
    have E3 := Lib.hid e3
    clear e1 e2 e3 hy
    go_wp2
    try rw [Exit.noGoto_ret]
    refine bodyPost_ret (v := .tuple #[.pointer (some ⟨w.heap.size + 1, 0, none⟩), .string ⟨#[]⟩, .int .i64 (-1), .bool false]) (by simp [results, Tryz.results100, go_sem]) rfl ?_
    exact ⟨⟨w.heap.size + 1, by rw [E1.out, E2.out, E3.out]; rfl, by omega, fun m hm => by rw [Hno.out] at hm; cases hm⟩, HB3.out⟩
  | true =>
    have Hy := Lib.hid (syB_iff.1 hy)
    by_cases h400 : L.length ≤ 400
    case neg =>
      obtain ⟨e1, e2, e3, -, -⟩ := vals_none (y := y) (readM_long h400)
      have Hno := Lib.hid (readM_long (y := y) h400)
      have E1 := Lib.hid e1
      have E2 := Lib.hid e2
      have E3 := Lib.hid e3
      have h4 : (400 : Int) < (L.length : Int) := by omega
      clear e1 e2 e3 hy h400
      go_wp2
      try rw [Exit.noGoto_ret]
      refine bodyPost_ret (v := .tuple #[.pointer (some ⟨w.heap.size + 1, 0, none⟩), .string ⟨#[]⟩, .int .i64 (-1), .bool false]) (by simp [results, Tryz.results100, go_sem]) rfl ?_
      exact ⟨⟨w.heap.size + 1, by rw [E1.out, E2.out, E3.out]; rfl, by omega, fun m hm => by rw [Hno.out] at hm; cases hm⟩, HB3.out⟩
    have HSYB := Lib.hid hy
    have h4 : ¬ (400 : Int) < (L.length : Int) := by omega
    have HO3 : Hid (w3.ownsRow (w.heap.size + 1 + 1) 3 1 (.slice none 0 0) ([] : List Int).length (([] : List Int).map (Value.int .i64))) := ⟨by simp, .inl ⟨rfl, rfl⟩⟩
    clear hy
    go_wp2_with fail
    refine (reads7 lo hi (w.heap.size + 1) sv cv fv y Hy.out L h400 L.length 0 0 (.slice none 0 0) [] w3 HS3.out HO3.out (Nat.zero_le _) (by omega) (by omega) (by simp) (by simp)).mono ?_
    rintro e w4 ⟨⟨m, r, c', hm, hok, htx, rfl, hs4, ho4, hat4⟩ | ⟨hm, s4, k4, u4, c', rfl, hb4, hat4⟩, hk4⟩
    · have HB4 : Hid (Below w.heap.size w w4) := HB3.out.trans (hk4.below (by omega) (fun g hg => by cases hg) (by omega))
      rw [List.drop_zero] at hm htx
      obtain ⟨-, -, -, -, c4, c5, -, -⟩ := hs4.cells
      have HS4 := Lib.hid hs4
      have HO4 := Lib.hid ho4
      have HOK := Lib.hid hok
      clear hs4 ho4 hat4 hk4 HS3 HB3 HO3
      cases r with
      | nil =>
        have hrm := readM_yes HSYB.out h400 hm
        obtain ⟨e1, e2, e3, -, -⟩ := vals_some hrm
        have E1 := Lib.hid e1
        have E2 := Lib.hid e2
        have E3 := Lib.hid e3
        have HRM := Lib.hid hrm
        rw [List.length_nil, Nat.sub_zero] at c4
        have hbeq : ((L.length : Int) != (L.length : Int)) = false := by simp
        clear e1 e2 e3 hrm hm htx
        go_wp2
        try rw [Exit.noGoto_ret]
        refine bodyPost_ret (v := .tuple #[.pointer (some ⟨w.heap.size + 1, 0, none⟩), .string (str (tmT (erM y m))), .int .i64 (kindM y m), .bool true]) (by simp [results, Tryz.results100, go_sem]) rfl ?_
        refine ⟨⟨w.heap.size + 1, by rw [E1.out, E2.out, E3.out], by omega, fun m2 hm2 => ?_⟩, HB4.out⟩
        rw [HRM.out] at hm2
        injection hm2 with hm2
        subst hm2
        have h1 := HS4.out.row
        rw [List.length_nil, Nat.sub_zero, Int.zero_add] at h1
        exact ⟨sv, cv, fv, c', h1, by simpa using HO4.out, HOK.out⟩
      | cons c r =>
        have hrm := readM_rest (by simp) hm
        obtain ⟨e1, e2, e3, -, -⟩ := vals_none hrm
        have E1 := Lib.hid e1
        have E2 := Lib.hid e2
        have E3 := Lib.hid e3
        have HRM := Lib.hid hrm
        have hl : (c :: r).length ≤ L.length := by have h := congrArg List.length htx; rw [List.length_append] at h; omega
        simp only [List.length_cons] at hl c4
        obtain ⟨n4, hn4⟩ : ∃ n, n = L.length - (r.length + 1) := ⟨_, rfl⟩
        rw [← hn4] at c4
        have hne : ¬ n4 = L.length := by omega
        have hbeq : ((n4 : Int) != (L.length : Int)) = true := by simp; omega
        clear e1 e2 e3 hrm hm htx hn4
        go_wp2
        try rw [Exit.noGoto_ret]
        refine bodyPost_ret (v := .tuple #[.pointer (some ⟨w.heap.size + 1, 0, none⟩), .string ⟨#[]⟩, .int .i64 (-1), .bool false]) (by simp [results, Tryz.results100, go_sem]) rfl ?_
        exact ⟨⟨w.heap.size + 1, by rw [E1.out, E2.out, E3.out]; rfl, by omega, fun m2 hm2 => by rw [HRM.out] at hm2; cases hm2⟩, HB4.out⟩
    · have HB4 : Hid (Below w.heap.size w w4) := HB3.out.trans (hk4.below (by omega) (fun g hg => by cases hg) (by omega))
      rw [List.drop_zero] at hm
      have hrm := readM_no hm
      obtain ⟨e1, e2, e3, -, -⟩ := vals_none hrm
      have E1 := Lib.hid e1
      have E2 := Lib.hid e2
      have E3 := Lib.hid e3
      have HRM := Lib.hid hrm
      obtain ⟨q4, hq4, hs4⟩ := hb4
      obtain ⟨-, -, -, -, c4, c5, -, -⟩ := hs4.cells
      clear e1 e2 e3 hrm hm hs4 hk4 hat4
      go_wp2
      try rw [Exit.noGoto_ret]
      refine bodyPost_ret (v := .tuple #[.pointer (some ⟨w.heap.size + 1, 0, none⟩), .string ⟨#[]⟩, .int .i64 (-1), .bool false]) (by simp [results, Tryz.results100, go_sem]) rfl ?_
      exact ⟨⟨w.heap.size + 1, by rw [E1.out, E2.out, E3.out]; rfl, by omega, fun m2 hm2 => by rw [HRM.out] at hm2; cases hm2⟩, HB4.out⟩

set_option maxRecDepth 100000 in
set_option maxHeartbeats 1000000 in
theorem specCoIn_any (lo hi : Nat) (sv cv fv : Value) (y : Sy) (L : List UInt8) (w : World) (hv : SyAt w lo hi sv cv fv y) (hB : hi ≤ w.heap.size) :
    Calls Tryz.prog 58 #[.agg #[sv, cv, fv], .string (str L)] w fun e w' => e = .returned (.int .i64 (cnM y L)) ∧ Below w.heap.size w w' := by
  obtain ⟨A1, cap1, rfl, _, _, _⟩ := hv.1.1.form
  obtain ⟨A2, cap2, rfl, _, _, _⟩ := hv.1.2.form
  obtain ⟨A3, cap3, rfl, _, _, _⟩ := hv.2.form
  have hb1 : Below w.heap.size w (w.alloc (.cells #[.slice A1 y.ty.sizes.length cap1, .slice A2 y.ty.cos.length cap2, .slice A3 y.fs.length cap3] 37)) := (Below.refl _ _).alloc (Nat.le_refl _) _
  have HR := Lib.hid (l7Read_any lo hi _ _ _ y L _ (hv.below hb1 hB) (by rw [World.size_alloc]; omega))
  have HB1 := Lib.hid hb1
  clear hv hb1
  go_enter Tryz.func58, Tryz.ntmps58
  go_wp2_with fail
  refine HR.out.mono ?_
  rintro e w2 ⟨⟨b, rfl, _, hm⟩, hb2⟩
  have HB2 := Lib.hid (HB1.out.trans (hb2.mono (by rw [World.size_alloc]; omega)))
  clear hb2 HR HB1
  cases hr : readM y L with
  | none =>
    obtain ⟨e1, -, -, e4, -⟩ := vals_none hr
    rw [e1]
    have E4 := Lib.hid e4
    clear hm hr e1 e4
    go_wp2
    go_ret
    exact ⟨by rw [E4.out]; rfl, HB2.out⟩
  | some m =>
    obtain ⟨e1, -, -, e4, -⟩ := vals_some hr
    obtain ⟨sv, cv, fv, c, hrow, _, _⟩ := hm m hr
    have c6 := hrow.cell 6
    simp only [List.getElem?_cons_zero, List.getElem?_cons_succ] at c6
    rw [e1]
    have E4 := Lib.hid e4
    clear hm hr e1 e4 hrow
    go_wp2
    go_ret
    exact ⟨by rw [E4.out]; rfl, HB2.out⟩

end Go.Proofs.YtgkfddhhkjblgaaGreatDoor

namespace Go.Proofs.YtgkfddhhkjblgaaGreatDoor
open Go.RowKit

/-- What reading a whole text comes to. -/
def MadePost7 (y : Sy) (L : List UInt8) (w : World) (e : Ending) (w' : World) : Prop :=
  ((∃ m o, readM y L = some m ∧ MkOk y m ∧ e = .returned (.tuple #[o, .bool true]) ∧ MNodeAt w' w.heap.size m o) ∨ (readM y L = none ∧ e = .returned (.tuple #[.nilIface, .bool false]))) ∧ Below w.heap.size w w'

end Go.Proofs.YtgkfddhhkjblgaaGreatDoor

