/-
  The contract of IsRedundant, the model's.
-/
import Derived.Test.YtokklaoldgdkaaaSame
import Derived.Test.YtokklaoldgdkaaaAgr
import Derived.Test.YtokklaoldgdkaaaSapply
import Derived.Test.YtokklaoldgdkaaaRedf
namespace Go.Proofs.Ytokklaoldgdkaaa
open Go.RowKit
attribute [local go_sem] Oper.semAt_some

/-- Does a way, not the coercion by itself, make what it makes? -/
def redZ (t : Ty) (i : Nat) (c : Co) (z : List Int) : Bool := !(decide (z = [(i : Int)])) && decide (mapL t.cos z (t.sizes.getD c.src.toNat 0).toNat = c.map)

theorem red_yes {t : Ty} {i : Nat} {c : Co} {j : Nat} (hj : j < (waysOf t c.src c.dst).length) (h : redZ t i c (waysOf t c.src c.dst)[j] = true) : redB t i c = true := by
  unfold redB
  rw [List.any_eq_true]
  exact ⟨_, List.getElem_mem hj, h⟩
theorem red_no {t : Ty} {i : Nat} {c : Co} (h : ∀ k, ∀ (hk : k < (waysOf t c.src c.dst).length), k < (waysOf t c.src c.dst).length → redZ t i c (waysOf t c.src c.dst)[k] = false) : redB t i c = false := by
  cases e : redB t i c with
  | false => rfl
  | true =>
    unfold redB at e
    rw [List.any_eq_true] at e
    obtain ⟨z, hz, h2⟩ := e
    obtain ⟨k, hk, rfl⟩ := List.getElem_of_mem hz
    exact absurd (h k hk hk) (by unfold redZ; rw [h2]; simp)

set_option maxRecDepth 100000 in
set_option maxHeartbeats 4000000 in
theorem l3Redundant_any (lo hi : Nat) (sv cv : Value) (t : Ty) (i : Int) (w : World) (hv : TyAt w lo hi sv cv t) (hB : hi ≤ w.heap.size) (hok : hasC t i = true) :
    Calls Try.prog 73 #[.agg #[sv, cv], .int .i64 i] w fun e w' => e = .returned (.bool (redB t i.toNat (t.cos.getD i.toNat default))) ∧ Below w.heap.size w w' := by
  obtain ⟨A, cap, rfl, hl1, hm1, _⟩ := hv.1.form
  obtain ⟨B, bap, rfl, hl2, hm2, hc1⟩ := hv.2.form
  obtain ⟨hty, hi0, hi1, hlt⟩ := hasC_of hok
  have hco := coOk_of (hasC_co hok hlt)
  have hgd : t.cos.getD i.toNat default = t.cos[i.toNat] := getD_at hlt
  rw [hgd]
  have h3 : Below w.heap.size w (w.alloc (.cells #[.slice A t.sizes.length cap, .slice B t.cos.length bap] 30)) := by go_grown
  obtain ⟨b, off, A3, cap3, rfl, hlo, hhi, c0, c1, c2, h5, h6, hs, hd, hz⟩ := (hc1.below h3 hB).at_ hlt
  have htb : typesB t t.cos[i.toNat].src t.cos[i.toNat].dst = true := by
    unfold typesB
    rw [hty, ixB_yes hco.1 (by omega), ixB_yes (by omega) hco.2.2.1]; rfl
  generalize hcc : t.cos[i.toNat] = c at *
  have Hcc := Lib.hid hcc
  have Htb := Lib.hid htb
  have hz0 := hz.keep (w' := w) fun k h1 h2 => (h3.block k (by omega)).symm
  have Hz := Lib.hid hz0
  have Hv := Lib.hid hv
  have Hty := Lib.hid hty
  clear hv hc1 hz hz0 hok hgd htb hco hcc hty
  go_enter Try.func73, Try.ntmps73
  go_wp2_with fail
  have hb1 : Below w.heap.size w ((w.alloc (.cells #[.slice A t.sizes.length cap, .slice (some ⟨b, off, none⟩) t.cos.length bap] 30)).alloc (.cells #[.int .i64 c.src, .int .i64 c.dst, .slice A3 c.map.length cap3] 52)) := by go_grown
  have hr0 := (Row.new w 30 [.slice A t.sizes.length cap, .slice (some ⟨b, off, none⟩) t.cos.length bap]).alloc (.cells #[.int .i64 c.src, .int .i64 c.dst, .slice A3 c.map.length cap3] 52)
  have hr1 := Row.new (w.alloc (.cells #[.slice A t.sizes.length cap, .slice (some ⟨b, off, none⟩) t.cos.length bap] 30)) 52 [.int .i64 c.src, .int .i64 c.dst, .slice A3 c.map.length cap3]
  rw [World.size_alloc] at hr1
  refine (l2Ways_any lo hi _ _ t c.src c.dst _ (Hv.out.below hb1 hB) (by simp; omega) Htb.out).mono ?_
  rintro e w3 ⟨ov, rfl, hb3, hways⟩
  obtain ⟨O, oc, rfl, hom, hcell⟩ := hways.at_
  have Hcell := Lib.hid hcell
  have H3 := Lib.hid (hb1.trans (hb3.mono (by simp; omega)))
  have R0 := Lib.hid (hr0.below hb3 (by simp; omega))
  have R1 := Lib.hid (hr1.below hb3 (by simp))
  have hl3 := hb3.size
  simp only [World.size_alloc] at hl3 Hcell
  unfold maxLen at hom
  clear hb3 hways hcell hb1 hr0 hr1
  go_wp2
  go_loopw [20] (fun i' wr => ∃ j : Nat, j ≤ (waysOf t c.src c.dst).length ∧ i' = .int .i64 j ∧ Hid (Below w3.heap.size w3 wr) ∧ Hid (∀ k, ∀ (hk : k < (waysOf t c.src c.dst).length), k < j → redZ t i.toNat c (waysOf t c.src c.dst)[k] = false)) (fun i' _ => (waysOf t c.src c.dst).length - (intOf i').toNat)
  case atStart => exact ⟨0, Nat.zero_le _, rfl, Below.refl _ _, fun k _ h => absurd h (by omega)⟩
  case round =>
    obtain ⟨j, hj, rfl, hbr, hpre⟩ := hrel
    have hbs := hbr.out.size
    by_cases hltj : j < (waysOf t c.src c.dst).length
    · obtain ⟨g, A2, c2, rfl, hg0, hg1, cz, hat⟩ := Hcell.out j hltj
      obtain ⟨zj, ezj, czr, Hat, hwj⟩ : ∃ z, Hid (z = (waysOf t c.src c.dst)[j]) ∧ wr.cell? ⟨g, j, none⟩ = some (.slice A2 z.length c2) ∧ Hid (IntsAt wr (w.heap.size + 1 + 1) w3.heap.size (.slice A2 z.length c2) z) ∧ Hid (wayEnd t.cos c.src z = some c.dst) :=
        ⟨(waysOf t c.src c.dst)[j], Lib.hid rfl, (hbr.out.cell (p := ⟨g, j, none⟩) hg1).trans cz, hat.below hbr.out (Nat.le_refl _), waysOf_end (List.getElem_mem hltj)⟩
      clear cz hat
      have hsrc := Lib.hid (typesB_of Htb.out)
      have hwayB : Hid (wayB t c.src zj = true) := by show _ = true; unfold wayB; rw [Hty.out, ixB_yes hsrc.out.2.1 hsrc.out.2.2.1, hwj.out]; rfl
      have hwml := wayMapV_yes hwayB.out
      have Hbw := Lib.hid (H3.out.trans (hbr.out.mono (by omega)))
      have hcells : ∀ u, Below wr.heap.size wr u → u.cell? ⟨w.heap.size, 0, none⟩ = some (.slice A t.sizes.length cap) ∧ u.cell? ⟨w.heap.size, 1, none⟩ = some (.slice (some ⟨b, off, none⟩) t.cos.length bap) ∧ u.cell? ⟨w.heap.size + 1, 0, none⟩ = some (.int .i64 c.src) ∧ u.cell? ⟨w.heap.size + 1, 1, none⟩ = some (.int .i64 c.dst) ∧ u.cell? ⟨w.heap.size + 1, 2, none⟩ = some (.slice A3 c.map.length cap3) := fun u hu => by
        have r0 := (R0.out.below (hbr.out.trans (hu.mono hbs)) (by omega))
        have r1 := (R1.out.below (hbr.out.trans (hu.mono hbs)) (by omega))
        exact ⟨r0.cell 0, r0.cell 1, r1.cell 0, r1.cell 1, r1.cell 2⟩
      have hmap : ∀ u, Below wr.heap.size wr u → Calls Try.prog 110 #[.agg #[.slice A t.sizes.length cap, .slice (some ⟨b, off, none⟩) t.cos.length bap], .int .i64 c.src, .slice A2 zj.length c2] u fun e u2 => ∃ v, e = .returned v ∧ Below u.heap.size u u2 ∧ IntsAt u2 u.heap.size u2.heap.size v (wayMapV t c.src zj) := fun u hu =>
        (l2Map_any lo hi _ _ _ _ _ t c.src zj u (Hv.out.below (Hbw.out.trans (hu.mono Hbw.out.size)) hB) (by have := hu.size; have := Hbw.out.size; omega) (Hat.out.below hu hbs) (by have := hu.size; omega) hwayB.out).mono fun e u2 ⟨v, he, hb, ho⟩ => ⟨v, he, hb, ownsRow.intsAt ho (wayMapV_wf t c.src zj) (Nat.le_refl _) (Nat.le_refl _)⟩
      have hred : ¬ zj = [(i.toNat : Int)] → redZ t i.toNat c zj = decide (wayMapV t c.src zj = c.map) := fun h => by
        unfold redZ
        rw [decide_eq_false h, hwml]; rfl
      have Hcells := Lib.hid hcells
      have Hmap := Lib.hid hmap
      have Hred := Lib.hid hred
      have hiN : ((i.toNat : Nat) : Int) = i := by omega
      clear hcells hmap hwml hred
      by_cases hz1 : zj = [(i.toNat : Int)]
      · have hno : Hid (redZ t i.toNat c zj = false) := by show _ = false; unfold redZ; rw [decide_eq_true hz1]; rfl
        have hl1z : zj.length = 1 := by rw [hz1]; rfl
        obtain ⟨zb, zo, rfl, _, hzb, e0, hI⟩ := Hat.out.at_ (k := 0) (by omega)
        clear hI
        have hq : zj[0]'(by omega) = i := by simp [hz1, hiN]
        rw [hq] at e0
        have hpre2 : Hid (∀ k, ∀ (hk : k < (waysOf t c.src c.dst).length), k < j + 1 → redZ t i.toNat c (waysOf t c.src c.dst)[k] = false) := fun k hk h => by
          by_cases e : k = j
          · subst e; rw [← ezj.out]; exact hno.out
          · exact hpre.out k hk (by omega)
        have hlt1 : ((zj.length : Int) != 1) = false := by simp; omega
        have hne : (i != i) = false := by simp
        have Hcz : Hid (∀ u, Below wr.heap.size wr u → u.cell? ⟨zb, zo, none⟩ = some (.int .i64 i)) := fun u hu => (hu.cell (p := ⟨zb, zo, none⟩) (by dsimp only; omega)).trans e0
        have hpos1 : (0 : Int) < (zj.length : Int) := by omega
        have hpos2 : 0 < zj.length := by omega
        clear hq hz1 e0 hl1z
        go_wp2
        refine wp_region_inv (by kernel_rfl) (fun f x u => ∃ x24 x25 x26 x27 x28 x29 x30 x31 x32 x33 x34 x35 x36 x37 x38 x39 x40 x41 x42 x43, x = ⟨#[.agg #[.slice A t.sizes.length cap, .slice (some ⟨b, off, none⟩) t.cos.length bap], .int .i64 i, .pointer (some ⟨w.heap.size, 0, none⟩), undef, u4, .pointer (some ⟨w.heap.size + 1, 0, none⟩), undef, .slice (some ⟨zb, zo, none⟩) zj.length c2, .pointer (some ⟨w.heap.size, 1, none⟩), .slice (some ⟨b, off, none⟩) t.cos.length bap, .int .i64 i, .pointer (some ⟨b, off + i.toNat * 3, none⟩), .agg #[.int .i64 c.src, .int .i64 c.dst, .slice A3 c.map.length cap3], .agg #[.slice A t.sizes.length cap, .slice (some ⟨b, off, none⟩) t.cos.length bap], .pointer (some ⟨w.heap.size + 1, 0, none⟩), .int .i64 c.src, .pointer (some ⟨w.heap.size + 1, 1, none⟩), .int .i64 c.dst, .slice (some ⟨g, 0, none⟩) (waysOf t c.src c.dst).length oc, .int .i64 ((waysOf t c.src c.dst).length : Nat), .int .i64 (j : Nat), .bool true, .pointer (some ⟨g, j, none⟩), .slice (some ⟨zb, zo, none⟩) zj.length c2, x24, x25, x26, x27, x28, x29, x30, x31, x32, x33, x34, x35, x36, x37, x38, x39, x40, x41, x42, x43, u44], []⟩ ∧ RedF false wr (wayMapV t c.src zj) f x24 x25 x26 x27 x28 x29 x30 x31 x32 x33 x34 x35 x36 x37 x38 x39 x40 x41 x42 x43 (.slice (some ⟨zb, zo, none⟩) zj.length c2) (.int .i64 (zj.length : Nat)) (.bool false) (.bool false) (.slice (some ⟨zb, zo, none⟩) zj.length c2) (.pointer (some ⟨zb, zo, none⟩)) (.int .i64 i) (.int .i64 i) (.bool false) (.bool false) (.bool false) undef undef undef undef undef undef undef undef (.bool false) u) (of_decide_eq_true (by kernel_rfl)) ⟨_, _, _, _, _, _, _, _, _, _, _, _, _, _, _, _, _, _, _, _, rfl, ⟨(Below.refl _ _).drew, nofun, nofun, nofun, nofun, nofun, nofun, nofun, nofun, nofun, nofun, nofun, nofun, nofun, nofun, nofun, nofun, nofun, nofun, nofun, nofun⟩⟩ ?_ ?_
        · rintro f x u q o ho hfi hdep ⟨x24, x25, x26, x27, x28, x29, x30, x31, x32, x33, x34, x35, x36, x37, x38, x39, x40, x41, x42, x43, rfl, hF⟩
          have hil : q < 20 := by have := (Array.getElem?_eq_some_iff.1 ho).1; simpa using this
          obtain ⟨p0, p1, p2, p3, p4⟩ := Hcells.out u hF.wb
          have p5 := Hcz.out u hF.wb
          obtain rfl | rfl | rfl | rfl | rfl | rfl | rfl | rfl | rfl | rfl | rfl | rfl | rfl | rfl | rfl | rfl | rfl | rfl | rfl | rfl : q = 0 ∨ q = 1 ∨ q = 2 ∨ q = 3 ∨ q = 4 ∨ q = 5 ∨ q = 6 ∨ q = 7 ∨ q = 8 ∨ q = 9 ∨ q = 10 ∨ q = 11 ∨ q = 12 ∨ q = 13 ∨ q = 14 ∨ q = 15 ∨ q = 16 ∨ q = 17 ∨ q = 18 ∨ q = 19 := by omega
          all_goals
            obtain rfl := Option.some.inj ho
            refine wpOp_step ho fun K hK => ?_
            simp [Region.binds] at hdep
            clear ho
          · refine if_yes rfl ?_
            have HF := Lib.hid hF
            clear hF
            unfold Oper.wp
            go_simp
            exact hK _ _ ⟨_, _, _, _, _, _, _, _, _, _, _, _, _, _, _, _, _, _, _, _, rfl, HF.out.s0⟩
          · have d0 : f 0 = true := by simp [hdep]
            obtain rfl := hF.b0 d0
            refine if_yes rfl ?_
            have HF := Lib.hid hF
            clear hF
            unfold Oper.wp
            go_simp
            exact hK _ _ ⟨_, _, _, _, _, _, _, _, _, _, _, _, _, _, _, _, _, _, _, _, rfl, HF.out.s1⟩
          · have d1 : f 1 = true := by simp [hdep]
            obtain rfl := hF.b1 d1
            refine if_yes rfl ?_
            have HF := Lib.hid hF
            clear hF
            unfold Oper.wp
            go_simp
            exact hK _ _ ⟨_, _, _, _, _, _, _, _, _, _, _, _, _, _, _, _, _, _, _, _, rfl, HF.out.s2⟩
          · have d2 : f 2 = true := by simp [hdep]
            obtain rfl := hF.b2 d2
            refine if_yes rfl ?_
            have HF := Lib.hid hF
            clear hF
            unfold Oper.wp
            go_simp
            exact hK _ _ ⟨_, _, _, _, _, _, _, _, _, _, _, _, _, _, _, _, _, _, _, _, rfl, HF.out.s3⟩
          · have d3 : f 3 = true := by simp [hdep]
            obtain rfl := hF.b3 d3
            refine if_yes rfl ?_
            have HF := Lib.hid hF
            clear hF
            unfold Oper.wp
            go_simp
            exact hK _ _ ⟨_, _, _, _, _, _, _, _, _, _, _, _, _, _, _, _, _, _, _, _, rfl, HF.out.s4⟩
          · have d4 : f 4 = true := by simp [hdep]
            have d3 : f 3 = true := by simp [hdep]
            obtain rfl := hF.b4 d4
            obtain rfl := hF.b3 d3
            refine if_yes rfl ?_
            have HF := Lib.hid hF
            clear hF
            unfold Oper.wp
            go_simp
            exact hK _ _ ⟨_, _, _, _, _, _, _, _, _, _, _, _, _, _, _, _, _, _, _, _, rfl, HF.out.s5⟩
          · have d5 : f 5 = true := by simp [hdep]
            have d3 : f 3 = true := by simp [hdep]
            obtain rfl := hF.b5 d5
            obtain rfl := hF.b3 d3
            refine if_yes rfl ?_
            have HF := Lib.hid hF
            clear hF
            unfold Oper.wp
            go_simp
            exact hK _ _ ⟨_, _, _, _, _, _, _, _, _, _, _, _, _, _, _, _, _, _, _, _, rfl, HF.out.s6⟩
          · have d3 : f 3 = true := by simp [hdep]
            obtain rfl := hF.b3 d3
            refine if_yes rfl ?_
            have HF := Lib.hid hF
            clear hF
            unfold Oper.wp
            go_simp
            exact hK _ _ ⟨_, _, _, _, _, _, _, _, _, _, _, _, _, _, _, _, _, _, _, _, rfl, HF.out.s7⟩
          · have d6 : f 6 = true := by simp [hdep]
            have d7 : f 7 = true := by simp [hdep]
            have d3 : f 3 = true := by simp [hdep]
            obtain rfl := hF.b6 d6
            obtain rfl := hF.b7 d7
            obtain rfl := hF.b3 d3
            refine if_yes rfl ?_
            have HF := Lib.hid hF
            clear hF
            unfold Oper.wp
            go_simp
            exact hK _ _ ⟨_, _, _, _, _, _, _, _, _, _, _, _, _, _, _, _, _, _, _, _, rfl, HF.out.s8⟩
          · have d3 : f 3 = true := by simp [hdep]
            have d8 : f 8 = true := by simp [hdep]
            obtain rfl := hF.b3 d3
            obtain rfl := hF.b8 d8
            refine if_yes rfl ?_
            have HF := Lib.hid hF
            clear hF
            unfold Oper.wp
            go_simp
            exact hK _ _ ⟨_, _, _, _, _, _, _, _, _, _, _, _, _, _, _, _, _, _, _, _, rfl, HF.out.s9⟩
          · have d9 : f 9 = true := by simp [hdep]
            obtain rfl := hF.b9 d9
            refine if_yes rfl ?_
            have HF := Lib.hid hF
            clear hF
            unfold Oper.wp
            go_simp
            exact hK _ _ ⟨_, _, _, _, _, _, _, _, _, _, _, _, _, _, _, _, _, _, _, _, rfl, HF.out.s10⟩
          · have d10 : f 10 = true := by simp [hdep]
            obtain rfl := hF.b10 d10
            refine if_no rfl ?_
            exact hK _ _ ⟨_, _, _, _, _, _, _, _, _, _, _, _, _, _, _, _, _, _, _, _, rfl, hF.s11⟩
          · have d10 : f 10 = true := by simp [hdep]
            obtain rfl := hF.b10 d10
            refine if_no rfl ?_
            exact hK _ _ ⟨_, _, _, _, _, _, _, _, _, _, _, _, _, _, _, _, _, _, _, _, rfl, hF.s12⟩
          · have d10 : f 10 = true := by simp [hdep]
            obtain rfl := hF.b10 d10
            refine if_no rfl ?_
            exact hK _ _ ⟨_, _, _, _, _, _, _, _, _, _, _, _, _, _, _, _, _, _, _, _, rfl, hF.s13⟩
          · have d10 : f 10 = true := by simp [hdep]
            obtain rfl := hF.b10 d10
            refine if_no rfl ?_
            exact hK _ _ ⟨_, _, _, _, _, _, _, _, _, _, _, _, _, _, _, _, _, _, _, _, rfl, hF.s14⟩
          · have d10 : f 10 = true := by simp [hdep]
            obtain rfl := hF.b10 d10
            refine if_no rfl ?_
            exact hK _ _ ⟨_, _, _, _, _, _, _, _, _, _, _, _, _, _, _, _, _, _, _, _, rfl, hF.s15n rfl⟩
          · have d10 : f 10 = true := by simp [hdep]
            obtain rfl := hF.b10 d10
            refine if_no rfl ?_
            exact hK _ _ ⟨_, _, _, _, _, _, _, _, _, _, _, _, _, _, _, _, _, _, _, _, rfl, hF.s16⟩
          · have d10 : f 10 = true := by simp [hdep]
            obtain rfl := hF.b10 d10
            refine if_no rfl ?_
            exact hK _ _ ⟨_, _, _, _, _, _, _, _, _, _, _, _, _, _, _, _, _, _, _, _, rfl, hF.s17⟩
          · have d10 : f 10 = true := by simp [hdep]
            obtain rfl := hF.b10 d10
            refine if_no rfl ?_
            exact hK _ _ ⟨_, _, _, _, _, _, _, _, _, _, _, _, _, _, _, _, _, _, _, _, rfl, hF.s18 (Below.refl _ _)⟩
          · have d10 : f 10 = true := by simp [hdep]
            obtain rfl := hF.b10 d10
            have d18 : f 18 = true := by simp [hdep]
            obtain rfl := hF.b18 d18
            refine if_yes rfl ?_
            have HF := Lib.hid hF
            clear hF
            unfold Oper.wp
            go_simp
            exact hK _ _ ⟨_, _, _, _, _, _, _, _, _, _, _, _, _, _, _, _, _, _, _, _, rfl, HF.out.s19⟩
        · rintro f x u hall ⟨x24, x25, x26, x27, x28, x29, x30, x31, x32, x33, x34, x35, x36, x37, x38, x39, x40, x41, x42, x43, rfl, hF⟩
          obtain rfl := hF.b19 (hall 19 (by simp))
          have Hwb := Lib.hid (hbr.out.trans (hF.wb.mono hbs))
          clear hF hall
          go_wp2
          go_roundw
          case rel => exact ⟨j + 1, by omega, by go_num, Hwb, hpre2⟩
          case measure => simp [intOf]; omega
      have hz1l : ¬ (zj.length = 1 ∧ zj.getD 0 0 = i) := fun h => hz1 (by
        obtain ⟨h1, h2⟩ := h
        match zj, h1, h2 with
        | [q], _, h2 => simp only [List.getD_cons_zero] at h2; rw [h2, hiN])
      by_cases hl1z : zj.length = 1
      · obtain ⟨zb, zo, rfl, _, hzb, e0, hI⟩ := Hat.out.at_ (k := 0) (by omega)
        clear hI
        obtain ⟨zq, hzq⟩ : ∃ zq, zq = zj[0]'(by omega) := ⟨_, rfl⟩
        rw [← hzq] at e0
        have hne : (zq != i) = true := by
          have : ¬ zq = i := fun e => hz1l ⟨hl1z, by rw [List.getD_eq_getElem?_getD, List.getElem?_eq_getElem (by omega), ← hzq, e]; rfl⟩
          simpa using this
        have hlt1 : ((zj.length : Int) != 1) = false := by simp; omega
        have Hcz : Hid (∀ u, Below wr.heap.size wr u → u.cell? ⟨zb, zo, none⟩ = some (.int .i64 zq)) := fun u hu => (hu.cell (p := ⟨zb, zo, none⟩) (by dsimp only; omega)).trans e0
        have hpos1 : (0 : Int) < (zj.length : Int) := by omega
        have hpos2 : 0 < zj.length := by omega
        clear e0 hz1l hl1z hzq
        go_wp2
        refine wp_region_inv (by kernel_rfl) (fun f x u => ∃ x24 x25 x26 x27 x28 x29 x30 x31 x32 x33 x34 x35 x36 x37 x38 x39 x40 x41 x42 x43, x = ⟨#[.agg #[.slice A t.sizes.length cap, .slice (some ⟨b, off, none⟩) t.cos.length bap], .int .i64 i, .pointer (some ⟨w.heap.size, 0, none⟩), undef, u4, .pointer (some ⟨w.heap.size + 1, 0, none⟩), undef, .slice (some ⟨zb, zo, none⟩) zj.length c2, .pointer (some ⟨w.heap.size, 1, none⟩), .slice (some ⟨b, off, none⟩) t.cos.length bap, .int .i64 i, .pointer (some ⟨b, off + i.toNat * 3, none⟩), .agg #[.int .i64 c.src, .int .i64 c.dst, .slice A3 c.map.length cap3], .agg #[.slice A t.sizes.length cap, .slice (some ⟨b, off, none⟩) t.cos.length bap], .pointer (some ⟨w.heap.size + 1, 0, none⟩), .int .i64 c.src, .pointer (some ⟨w.heap.size + 1, 1, none⟩), .int .i64 c.dst, .slice (some ⟨g, 0, none⟩) (waysOf t c.src c.dst).length oc, .int .i64 ((waysOf t c.src c.dst).length : Nat), .int .i64 (j : Nat), .bool true, .pointer (some ⟨g, j, none⟩), .slice (some ⟨zb, zo, none⟩) zj.length c2, x24, x25, x26, x27, x28, x29, x30, x31, x32, x33, x34, x35, x36, x37, x38, x39, x40, x41, x42, x43, u44], []⟩ ∧ RedF true wr (wayMapV t c.src zj) f x24 x25 x26 x27 x28 x29 x30 x31 x32 x33 x34 x35 x36 x37 x38 x39 x40 x41 x42 x43 (.slice (some ⟨zb, zo, none⟩) zj.length c2) (.int .i64 (zj.length : Nat)) (.bool false) (.bool false) (.slice (some ⟨zb, zo, none⟩) zj.length c2) (.pointer (some ⟨zb, zo, none⟩)) (.int .i64 zq) (.int .i64 i) (.bool true) (.bool true) (.bool true) (.agg #[.slice A t.sizes.length cap, .slice (some ⟨b, off, none⟩) t.cos.length bap]) (.pointer (some ⟨w.heap.size + 1, 0, none⟩)) (.int .i64 c.src) (.slice (some ⟨zb, zo, none⟩) zj.length c2) undef (.pointer (some ⟨w.heap.size + 1, 2, none⟩)) (.slice A3 c.map.length cap3) (.bool (decide (wayMapV t c.src zj = c.map))) (.bool (decide (wayMapV t c.src zj = c.map))) u) (of_decide_eq_true (by kernel_rfl)) ⟨_, _, _, _, _, _, _, _, _, _, _, _, _, _, _, _, _, _, _, _, rfl, ⟨(Below.refl _ _).drew, nofun, nofun, nofun, nofun, nofun, nofun, nofun, nofun, nofun, nofun, nofun, nofun, nofun, nofun, nofun, nofun, nofun, nofun, nofun, nofun⟩⟩ ?_ ?_
        · rintro f x u q o ho hfi hdep ⟨x24, x25, x26, x27, x28, x29, x30, x31, x32, x33, x34, x35, x36, x37, x38, x39, x40, x41, x42, x43, rfl, hF⟩
          have hil : q < 20 := by have := (Array.getElem?_eq_some_iff.1 ho).1; simpa using this
          obtain ⟨p0, p1, p2, p3, p4⟩ := Hcells.out u hF.wb
          have p5 := Hcz.out u hF.wb
          obtain rfl | rfl | rfl | rfl | rfl | rfl | rfl | rfl | rfl | rfl | rfl | rfl | rfl | rfl | rfl | rfl | rfl | rfl | rfl | rfl : q = 0 ∨ q = 1 ∨ q = 2 ∨ q = 3 ∨ q = 4 ∨ q = 5 ∨ q = 6 ∨ q = 7 ∨ q = 8 ∨ q = 9 ∨ q = 10 ∨ q = 11 ∨ q = 12 ∨ q = 13 ∨ q = 14 ∨ q = 15 ∨ q = 16 ∨ q = 17 ∨ q = 18 ∨ q = 19 := by omega
          all_goals
            obtain rfl := Option.some.inj ho
            refine wpOp_step ho fun K hK => ?_
            simp [Region.binds] at hdep
            clear ho
          · refine if_yes rfl ?_
            have HF := Lib.hid hF
            clear hF
            unfold Oper.wp
            go_simp
            exact hK _ _ ⟨_, _, _, _, _, _, _, _, _, _, _, _, _, _, _, _, _, _, _, _, rfl, HF.out.s0⟩
          · have d0 : f 0 = true := by simp [hdep]
            obtain rfl := hF.b0 d0
            refine if_yes rfl ?_
            have HF := Lib.hid hF
            clear hF
            unfold Oper.wp
            go_simp
            exact hK _ _ ⟨_, _, _, _, _, _, _, _, _, _, _, _, _, _, _, _, _, _, _, _, rfl, HF.out.s1⟩
          · have d1 : f 1 = true := by simp [hdep]
            obtain rfl := hF.b1 d1
            refine if_yes rfl ?_
            have HF := Lib.hid hF
            clear hF
            unfold Oper.wp
            go_simp
            exact hK _ _ ⟨_, _, _, _, _, _, _, _, _, _, _, _, _, _, _, _, _, _, _, _, rfl, HF.out.s2⟩
          · have d2 : f 2 = true := by simp [hdep]
            obtain rfl := hF.b2 d2
            refine if_yes rfl ?_
            have HF := Lib.hid hF
            clear hF
            unfold Oper.wp
            go_simp
            exact hK _ _ ⟨_, _, _, _, _, _, _, _, _, _, _, _, _, _, _, _, _, _, _, _, rfl, HF.out.s3⟩
          · have d3 : f 3 = true := by simp [hdep]
            obtain rfl := hF.b3 d3
            refine if_yes rfl ?_
            have HF := Lib.hid hF
            clear hF
            unfold Oper.wp
            go_simp
            exact hK _ _ ⟨_, _, _, _, _, _, _, _, _, _, _, _, _, _, _, _, _, _, _, _, rfl, HF.out.s4⟩
          · have d4 : f 4 = true := by simp [hdep]
            have d3 : f 3 = true := by simp [hdep]
            obtain rfl := hF.b4 d4
            obtain rfl := hF.b3 d3
            refine if_yes rfl ?_
            have HF := Lib.hid hF
            clear hF
            unfold Oper.wp
            go_simp
            exact hK _ _ ⟨_, _, _, _, _, _, _, _, _, _, _, _, _, _, _, _, _, _, _, _, rfl, HF.out.s5⟩
          · have d5 : f 5 = true := by simp [hdep]
            have d3 : f 3 = true := by simp [hdep]
            obtain rfl := hF.b5 d5
            obtain rfl := hF.b3 d3
            refine if_yes rfl ?_
            have HF := Lib.hid hF
            clear hF
            unfold Oper.wp
            go_simp
            exact hK _ _ ⟨_, _, _, _, _, _, _, _, _, _, _, _, _, _, _, _, _, _, _, _, rfl, HF.out.s6⟩
          · have d3 : f 3 = true := by simp [hdep]
            obtain rfl := hF.b3 d3
            refine if_yes rfl ?_
            have HF := Lib.hid hF
            clear hF
            unfold Oper.wp
            go_simp
            exact hK _ _ ⟨_, _, _, _, _, _, _, _, _, _, _, _, _, _, _, _, _, _, _, _, rfl, HF.out.s7⟩
          · have d6 : f 6 = true := by simp [hdep]
            have d7 : f 7 = true := by simp [hdep]
            have d3 : f 3 = true := by simp [hdep]
            obtain rfl := hF.b6 d6
            obtain rfl := hF.b7 d7
            obtain rfl := hF.b3 d3
            refine if_yes rfl ?_
            have HF := Lib.hid hF
            clear hF
            unfold Oper.wp
            go_simp
            exact hK _ _ ⟨_, _, _, _, _, _, _, _, _, _, _, _, _, _, _, _, _, _, _, _, rfl, HF.out.s8⟩
          · have d3 : f 3 = true := by simp [hdep]
            have d8 : f 8 = true := by simp [hdep]
            obtain rfl := hF.b3 d3
            obtain rfl := hF.b8 d8
            refine if_yes rfl ?_
            have HF := Lib.hid hF
            clear hF
            unfold Oper.wp
            go_simp
            exact hK _ _ ⟨_, _, _, _, _, _, _, _, _, _, _, _, _, _, _, _, _, _, _, _, rfl, HF.out.s9⟩
          · have d9 : f 9 = true := by simp [hdep]
            obtain rfl := hF.b9 d9
            refine if_yes rfl ?_
            have HF := Lib.hid hF
            clear hF
            unfold Oper.wp
            go_simp
            exact hK _ _ ⟨_, _, _, _, _, _, _, _, _, _, _, _, _, _, _, _, _, _, _, _, rfl, HF.out.s10⟩
          · have d10 : f 10 = true := by simp [hdep]
            obtain rfl := hF.b10 d10
            refine if_yes rfl ?_
            have HF := Lib.hid hF
            clear hF
            unfold Oper.wp
            go_simp
            exact hK _ _ ⟨_, _, _, _, _, _, _, _, _, _, _, _, _, _, _, _, _, _, _, _, rfl, HF.out.s11⟩
          · have d10 : f 10 = true := by simp [hdep]
            obtain rfl := hF.b10 d10
            refine if_yes rfl ?_
            have HF := Lib.hid hF
            clear hF
            unfold Oper.wp
            go_simp
            exact hK _ _ ⟨_, _, _, _, _, _, _, _, _, _, _, _, _, _, _, _, _, _, _, _, rfl, HF.out.s12⟩
          · have d12 : f 12 = true := by simp [hdep]
            have d10 : f 10 = true := by simp [hdep]
            obtain rfl := hF.b12 d12
            obtain rfl := hF.b10 d10
            refine if_yes rfl ?_
            have HF := Lib.hid hF
            clear hF
            unfold Oper.wp
            go_simp
            exact hK _ _ ⟨_, _, _, _, _, _, _, _, _, _, _, _, _, _, _, _, _, _, _, _, rfl, HF.out.s13⟩
          · have d10 : f 10 = true := by simp [hdep]
            obtain rfl := hF.b10 d10
            refine if_yes rfl ?_
            have HF := Lib.hid hF
            clear hF
            unfold Oper.wp
            go_simp
            exact hK _ _ ⟨_, _, _, _, _, _, _, _, _, _, _, _, _, _, _, _, _, _, _, _, rfl, HF.out.s14⟩
          · have d11 : f 11 = true := by simp [hdep]
            have d13 : f 13 = true := by simp [hdep]
            have d14 : f 14 = true := by simp [hdep]
            have d10 : f 10 = true := by simp [hdep]
            obtain rfl := hF.b11 d11
            obtain rfl := hF.b13 d13
            obtain rfl := hF.b14 d14
            obtain rfl := hF.b10 d10
            refine if_yes rfl ?_
            have HF := Lib.hid hF
            clear hF
            unfold Oper.wp
            go_simp
            refine (Hmap.out u HF.out.wb).mono ?_
            rintro e u2 ⟨v9, rfl, hb9, hi9⟩
            obtain ⟨A9, c9, rfl, _, _, _⟩ := hi9.form
            exact hK _ _ ⟨_, _, _, _, _, _, _, _, _, _, _, _, _, _, _, _, _, _, _, _, rfl, HF.out.s15 hb9 hi9⟩
          · have d10 : f 10 = true := by simp [hdep]
            obtain rfl := hF.b10 d10
            refine if_yes rfl ?_
            have HF := Lib.hid hF
            clear hF
            unfold Oper.wp
            go_simp
            exact hK _ _ ⟨_, _, _, _, _, _, _, _, _, _, _, _, _, _, _, _, _, _, _, _, rfl, HF.out.s16⟩
          · have d16 : f 16 = true := by simp [hdep]
            have d10 : f 10 = true := by simp [hdep]
            obtain rfl := hF.b16 d16
            obtain rfl := hF.b10 d10
            refine if_yes rfl ?_
            have HF := Lib.hid hF
            clear hF
            unfold Oper.wp
            go_simp
            exact hK _ _ ⟨_, _, _, _, _, _, _, _, _, _, _, _, _, _, _, _, _, _, _, _, rfl, HF.out.s17⟩
          · have d15 : f 15 = true := by simp [hdep]
            have d17 : f 17 = true := by simp [hdep]
            have d10 : f 10 = true := by simp [hdep]
            obtain ⟨A9, c9, rfl, hi9⟩ := hF.b15 rfl d15
            obtain rfl := hF.b17 d17
            obtain rfl := hF.b10 d10
            refine if_yes rfl ?_
            have HF := Lib.hid hF
            have Hi9 := Lib.hid hi9
            clear hF hi9
            unfold Oper.wp
            go_simp
            refine (l3Same_any wr.heap.size u.heap.size lo hi _ _ (wayMapV t c.src zj) c.map u Hi9.out (Hz.out.below (Hbw.out.trans (HF.out.wb.mono Hbw.out.size)) hB) (Nat.le_refl _) (by have := HF.out.wb.size; have := Hbw.out.size; omega)).mono ?_
            rintro e u2 ⟨rfl, hb9⟩
            exact hK _ _ ⟨_, _, _, _, _, _, _, _, _, _, _, _, _, _, _, _, _, _, _, _, rfl, HF.out.s18 hb9⟩
          · have d10 : f 10 = true := by simp [hdep]
            have d18 : f 18 = true := by simp [hdep]
            obtain rfl := hF.b10 d10
            obtain rfl := hF.b18 d18
            refine if_yes rfl ?_
            have HF := Lib.hid hF
            clear hF
            unfold Oper.wp
            go_simp
            exact hK _ _ ⟨_, _, _, _, _, _, _, _, _, _, _, _, _, _, _, _, _, _, _, _, rfl, HF.out.s19⟩
        · rintro f x u hall ⟨x24, x25, x26, x27, x28, x29, x30, x31, x32, x33, x34, x35, x36, x37, x38, x39, x40, x41, x42, x43, rfl, hF⟩
          obtain rfl := hF.b19 (hall 19 (by simp))
          have Hwb := Lib.hid (hbr.out.trans (hF.wb.mono hbs))
          clear hF hall
          by_cases hsame : wayMapV t c.src zj = c.map
          · have hd : decide (wayMapV t c.src zj = c.map) = true := decide_eq_true hsame
            have hfin : Hid (redB t i.toNat c = true) := red_yes hltj (by rw [← ezj.out]; exact (Hred.out hz1).trans hd)
            rw [hd]
            clear hd hsame
            go_wp2
            go_ret
            exact ⟨ret_bool hfin.out.symm, H3.out.trans (Hwb.out.mono (by omega))⟩
          · have hd : decide (wayMapV t c.src zj = c.map) = false := decide_eq_false hsame
            have hpre2 : Hid (∀ k, ∀ (hk : k < (waysOf t c.src c.dst).length), k < j + 1 → redZ t i.toNat c (waysOf t c.src c.dst)[k] = false) := fun k hk h => by
              by_cases e : k = j
              · subst e; rw [← ezj.out]; exact (Hred.out hz1).trans hd
              · exact hpre.out k hk (by omega)
            rw [hd]
            clear hd hsame
            go_wp2
            go_roundw
            case rel => exact ⟨j + 1, by omega, by go_num, Hwb, hpre2⟩
            case measure => simp [intOf]; omega
      · have hlt1 : ((zj.length : Int) != 1) = true := by simp; omega
        clear hz1l
        go_wp2
        refine wp_region_inv (by kernel_rfl) (fun f x u => ∃ x24 x25 x26 x27 x28 x29 x30 x31 x32 x33 x34 x35 x36 x37 x38 x39 x40 x41 x42 x43, x = ⟨#[.agg #[.slice A t.sizes.length cap, .slice (some ⟨b, off, none⟩) t.cos.length bap], .int .i64 i, .pointer (some ⟨w.heap.size, 0, none⟩), undef, u4, .pointer (some ⟨w.heap.size + 1, 0, none⟩), undef, .slice A2 zj.length c2, .pointer (some ⟨w.heap.size, 1, none⟩), .slice (some ⟨b, off, none⟩) t.cos.length bap, .int .i64 i, .pointer (some ⟨b, off + i.toNat * 3, none⟩), .agg #[.int .i64 c.src, .int .i64 c.dst, .slice A3 c.map.length cap3], .agg #[.slice A t.sizes.length cap, .slice (some ⟨b, off, none⟩) t.cos.length bap], .pointer (some ⟨w.heap.size + 1, 0, none⟩), .int .i64 c.src, .pointer (some ⟨w.heap.size + 1, 1, none⟩), .int .i64 c.dst, .slice (some ⟨g, 0, none⟩) (waysOf t c.src c.dst).length oc, .int .i64 ((waysOf t c.src c.dst).length : Nat), .int .i64 (j : Nat), .bool true, .pointer (some ⟨g, j, none⟩), .slice A2 zj.length c2, x24, x25, x26, x27, x28, x29, x30, x31, x32, x33, x34, x35, x36, x37, x38, x39, x40, x41, x42, x43, u44], []⟩ ∧ RedF true wr (wayMapV t c.src zj) f x24 x25 x26 x27 x28 x29 x30 x31 x32 x33 x34 x35 x36 x37 x38 x39 x40 x41 x42 x43 (.slice A2 zj.length c2) (.int .i64 (zj.length : Nat)) (.bool true) (.bool true) undef undef undef undef undef (.bool true) (.bool true) (.agg #[.slice A t.sizes.length cap, .slice (some ⟨b, off, none⟩) t.cos.length bap]) (.pointer (some ⟨w.heap.size + 1, 0, none⟩)) (.int .i64 c.src) (.slice A2 zj.length c2) undef (.pointer (some ⟨w.heap.size + 1, 2, none⟩)) (.slice A3 c.map.length cap3) (.bool (decide (wayMapV t c.src zj = c.map))) (.bool (decide (wayMapV t c.src zj = c.map))) u) (of_decide_eq_true (by kernel_rfl)) ⟨_, _, _, _, _, _, _, _, _, _, _, _, _, _, _, _, _, _, _, _, rfl, ⟨(Below.refl _ _).drew, nofun, nofun, nofun, nofun, nofun, nofun, nofun, nofun, nofun, nofun, nofun, nofun, nofun, nofun, nofun, nofun, nofun, nofun, nofun, nofun⟩⟩ ?_ ?_
        · rintro f x u q o ho hfi hdep ⟨x24, x25, x26, x27, x28, x29, x30, x31, x32, x33, x34, x35, x36, x37, x38, x39, x40, x41, x42, x43, rfl, hF⟩
          have hil : q < 20 := by have := (Array.getElem?_eq_some_iff.1 ho).1; simpa using this
          obtain ⟨p0, p1, p2, p3, p4⟩ := Hcells.out u hF.wb
          obtain rfl | rfl | rfl | rfl | rfl | rfl | rfl | rfl | rfl | rfl | rfl | rfl | rfl | rfl | rfl | rfl | rfl | rfl | rfl | rfl : q = 0 ∨ q = 1 ∨ q = 2 ∨ q = 3 ∨ q = 4 ∨ q = 5 ∨ q = 6 ∨ q = 7 ∨ q = 8 ∨ q = 9 ∨ q = 10 ∨ q = 11 ∨ q = 12 ∨ q = 13 ∨ q = 14 ∨ q = 15 ∨ q = 16 ∨ q = 17 ∨ q = 18 ∨ q = 19 := by omega
          all_goals
            obtain rfl := Option.some.inj ho
            refine wpOp_step ho fun K hK => ?_
            simp [Region.binds] at hdep
            clear ho
          · refine if_yes rfl ?_
            have HF := Lib.hid hF
            clear hF
            unfold Oper.wp
            go_simp
            exact hK _ _ ⟨_, _, _, _, _, _, _, _, _, _, _, _, _, _, _, _, _, _, _, _, rfl, HF.out.s0⟩
          · have d0 : f 0 = true := by simp [hdep]
            obtain rfl := hF.b0 d0
            refine if_yes rfl ?_
            have HF := Lib.hid hF
            clear hF
            unfold Oper.wp
            go_simp
            exact hK _ _ ⟨_, _, _, _, _, _, _, _, _, _, _, _, _, _, _, _, _, _, _, _, rfl, HF.out.s1⟩
          · have d1 : f 1 = true := by simp [hdep]
            obtain rfl := hF.b1 d1
            refine if_yes rfl ?_
            have HF := Lib.hid hF
            clear hF
            unfold Oper.wp
            go_simp
            exact hK _ _ ⟨_, _, _, _, _, _, _, _, _, _, _, _, _, _, _, _, _, _, _, _, rfl, HF.out.s2⟩
          · have d2 : f 2 = true := by simp [hdep]
            obtain rfl := hF.b2 d2
            refine if_yes rfl ?_
            have HF := Lib.hid hF
            clear hF
            unfold Oper.wp
            go_simp
            exact hK _ _ ⟨_, _, _, _, _, _, _, _, _, _, _, _, _, _, _, _, _, _, _, _, rfl, HF.out.s3⟩
          · have d3 : f 3 = true := by simp [hdep]
            obtain rfl := hF.b3 d3
            refine if_no rfl ?_
            exact hK _ _ ⟨_, _, _, _, _, _, _, _, _, _, _, _, _, _, _, _, _, _, _, _, rfl, hF.s4⟩
          · have d4 : f 4 = true := by simp [hdep]
            have d3 : f 3 = true := by simp [hdep]
            obtain rfl := hF.b4 d4
            obtain rfl := hF.b3 d3
            refine if_no rfl ?_
            exact hK _ _ ⟨_, _, _, _, _, _, _, _, _, _, _, _, _, _, _, _, _, _, _, _, rfl, hF.s5⟩
          · have d5 : f 5 = true := by simp [hdep]
            have d3 : f 3 = true := by simp [hdep]
            obtain rfl := hF.b5 d5
            obtain rfl := hF.b3 d3
            refine if_no rfl ?_
            exact hK _ _ ⟨_, _, _, _, _, _, _, _, _, _, _, _, _, _, _, _, _, _, _, _, rfl, hF.s6⟩
          · have d3 : f 3 = true := by simp [hdep]
            obtain rfl := hF.b3 d3
            refine if_no rfl ?_
            exact hK _ _ ⟨_, _, _, _, _, _, _, _, _, _, _, _, _, _, _, _, _, _, _, _, rfl, hF.s7⟩
          · have d6 : f 6 = true := by simp [hdep]
            have d7 : f 7 = true := by simp [hdep]
            have d3 : f 3 = true := by simp [hdep]
            obtain rfl := hF.b6 d6
            obtain rfl := hF.b7 d7
            obtain rfl := hF.b3 d3
            refine if_no rfl ?_
            exact hK _ _ ⟨_, _, _, _, _, _, _, _, _, _, _, _, _, _, _, _, _, _, _, _, rfl, hF.s8⟩
          · have d3 : f 3 = true := by simp [hdep]
            have d8 : f 8 = true := by simp [hdep]
            obtain rfl := hF.b3 d3
            obtain rfl := hF.b8 d8
            refine if_yes rfl ?_
            have HF := Lib.hid hF
            clear hF
            unfold Oper.wp
            go_simp
            exact hK _ _ ⟨_, _, _, _, _, _, _, _, _, _, _, _, _, _, _, _, _, _, _, _, rfl, HF.out.s9⟩
          · have d9 : f 9 = true := by simp [hdep]
            obtain rfl := hF.b9 d9
            refine if_yes rfl ?_
            have HF := Lib.hid hF
            clear hF
            unfold Oper.wp
            go_simp
            exact hK _ _ ⟨_, _, _, _, _, _, _, _, _, _, _, _, _, _, _, _, _, _, _, _, rfl, HF.out.s10⟩
          · have d10 : f 10 = true := by simp [hdep]
            obtain rfl := hF.b10 d10
            refine if_yes rfl ?_
            have HF := Lib.hid hF
            clear hF
            unfold Oper.wp
            go_simp
            exact hK _ _ ⟨_, _, _, _, _, _, _, _, _, _, _, _, _, _, _, _, _, _, _, _, rfl, HF.out.s11⟩
          · have d10 : f 10 = true := by simp [hdep]
            obtain rfl := hF.b10 d10
            refine if_yes rfl ?_
            have HF := Lib.hid hF
            clear hF
            unfold Oper.wp
            go_simp
            exact hK _ _ ⟨_, _, _, _, _, _, _, _, _, _, _, _, _, _, _, _, _, _, _, _, rfl, HF.out.s12⟩
          · have d12 : f 12 = true := by simp [hdep]
            have d10 : f 10 = true := by simp [hdep]
            obtain rfl := hF.b12 d12
            obtain rfl := hF.b10 d10
            refine if_yes rfl ?_
            have HF := Lib.hid hF
            clear hF
            unfold Oper.wp
            go_simp
            exact hK _ _ ⟨_, _, _, _, _, _, _, _, _, _, _, _, _, _, _, _, _, _, _, _, rfl, HF.out.s13⟩
          · have d10 : f 10 = true := by simp [hdep]
            obtain rfl := hF.b10 d10
            refine if_yes rfl ?_
            have HF := Lib.hid hF
            clear hF
            unfold Oper.wp
            go_simp
            exact hK _ _ ⟨_, _, _, _, _, _, _, _, _, _, _, _, _, _, _, _, _, _, _, _, rfl, HF.out.s14⟩
          · have d11 : f 11 = true := by simp [hdep]
            have d13 : f 13 = true := by simp [hdep]
            have d14 : f 14 = true := by simp [hdep]
            have d10 : f 10 = true := by simp [hdep]
            obtain rfl := hF.b11 d11
            obtain rfl := hF.b13 d13
            obtain rfl := hF.b14 d14
            obtain rfl := hF.b10 d10
            refine if_yes rfl ?_
            have HF := Lib.hid hF
            clear hF
            unfold Oper.wp
            go_simp
            refine (Hmap.out u HF.out.wb).mono ?_
            rintro e u2 ⟨v9, rfl, hb9, hi9⟩
            obtain ⟨A9, c9, rfl, _, _, _⟩ := hi9.form
            exact hK _ _ ⟨_, _, _, _, _, _, _, _, _, _, _, _, _, _, _, _, _, _, _, _, rfl, HF.out.s15 hb9 hi9⟩
          · have d10 : f 10 = true := by simp [hdep]
            obtain rfl := hF.b10 d10
            refine if_yes rfl ?_
            have HF := Lib.hid hF
            clear hF
            unfold Oper.wp
            go_simp
            exact hK _ _ ⟨_, _, _, _, _, _, _, _, _, _, _, _, _, _, _, _, _, _, _, _, rfl, HF.out.s16⟩
          · have d16 : f 16 = true := by simp [hdep]
            have d10 : f 10 = true := by simp [hdep]
            obtain rfl := hF.b16 d16
            obtain rfl := hF.b10 d10
            refine if_yes rfl ?_
            have HF := Lib.hid hF
            clear hF
            unfold Oper.wp
            go_simp
            exact hK _ _ ⟨_, _, _, _, _, _, _, _, _, _, _, _, _, _, _, _, _, _, _, _, rfl, HF.out.s17⟩
          · have d15 : f 15 = true := by simp [hdep]
            have d17 : f 17 = true := by simp [hdep]
            have d10 : f 10 = true := by simp [hdep]
            obtain ⟨A9, c9, rfl, hi9⟩ := hF.b15 rfl d15
            obtain rfl := hF.b17 d17
            obtain rfl := hF.b10 d10
            refine if_yes rfl ?_
            have HF := Lib.hid hF
            have Hi9 := Lib.hid hi9
            clear hF hi9
            unfold Oper.wp
            go_simp
            refine (l3Same_any wr.heap.size u.heap.size lo hi _ _ (wayMapV t c.src zj) c.map u Hi9.out (Hz.out.below (Hbw.out.trans (HF.out.wb.mono Hbw.out.size)) hB) (Nat.le_refl _) (by have := HF.out.wb.size; have := Hbw.out.size; omega)).mono ?_
            rintro e u2 ⟨rfl, hb9⟩
            exact hK _ _ ⟨_, _, _, _, _, _, _, _, _, _, _, _, _, _, _, _, _, _, _, _, rfl, HF.out.s18 hb9⟩
          · have d10 : f 10 = true := by simp [hdep]
            have d18 : f 18 = true := by simp [hdep]
            obtain rfl := hF.b10 d10
            obtain rfl := hF.b18 d18
            refine if_yes rfl ?_
            have HF := Lib.hid hF
            clear hF
            unfold Oper.wp
            go_simp
            exact hK _ _ ⟨_, _, _, _, _, _, _, _, _, _, _, _, _, _, _, _, _, _, _, _, rfl, HF.out.s19⟩
        · rintro f x u hall ⟨x24, x25, x26, x27, x28, x29, x30, x31, x32, x33, x34, x35, x36, x37, x38, x39, x40, x41, x42, x43, rfl, hF⟩
          obtain rfl := hF.b19 (hall 19 (by simp))
          have Hwb := Lib.hid (hbr.out.trans (hF.wb.mono hbs))
          clear hF hall
          by_cases hsame : wayMapV t c.src zj = c.map
          · have hd : decide (wayMapV t c.src zj = c.map) = true := decide_eq_true hsame
            have hfin : Hid (redB t i.toNat c = true) := red_yes hltj (by rw [← ezj.out]; exact (Hred.out hz1).trans hd)
            rw [hd]
            clear hd hsame
            go_wp2
            go_ret
            exact ⟨ret_bool hfin.out.symm, H3.out.trans (Hwb.out.mono (by omega))⟩
          · have hd : decide (wayMapV t c.src zj = c.map) = false := decide_eq_false hsame
            have hpre2 : Hid (∀ k, ∀ (hk : k < (waysOf t c.src c.dst).length), k < j + 1 → redZ t i.toNat c (waysOf t c.src c.dst)[k] = false) := fun k hk h => by
              by_cases e : k = j
              · subst e; rw [← ezj.out]; exact (Hred.out hz1).trans hd
              · exact hpre.out k hk (by omega)
            rw [hd]
            clear hd hsame
            go_wp2
            go_roundw
            case rel => exact ⟨j + 1, by omega, by go_num, Hwb, hpre2⟩
            case measure => simp [intOf]; omega
    · obtain rfl : j = (waysOf t c.src c.dst).length := by omega
      have hno := Lib.hid (red_no hpre.out)
      go_wp2
      go_ret
      exact ⟨ret_bool hno.out.symm, H3.out.trans (hbr.out.mono (by omega))⟩
end Go.Proofs.Ytokklaoldgdkaaa
