/-
  The contract of the model's DropFunction.
-/
import Derived.Test.YtplncocfbajefaaD12
import Derived.Test.YtplncocfbajefaaD7
namespace Go.Proofs.Ytplncocfbajefaa
open Go.RowKit

theorem dropFu_yes {y : Sy} {i : Int} (h : hasFB y i = true) : dropFu y i = cutFu y i.toNat := by unfold dropFu; rw [if_pos h]
theorem dropFu_no {y : Sy} {i : Int} (h : hasFB y i = false) : dropFu y i = ⟨⟨[], []⟩, []⟩ := by unfold dropFu; rw [if_neg (by rw [h]; exact Bool.false_ne_true)]
theorem fusLen_all (fs : List Fu) : fusLen fs fs.length = (fs.map Fu.weight).sum := by unfold fusLen; rw [List.take_length]
theorem cutFu_bulk (y : Sy) (k : Nat) : (cutFu y k).bulk ≤ y.bulk := by
  have e : y.fs = y.fs.take k ++ y.fs.drop k := (List.take_append_drop k y.fs).symm
  have h1 : ((y.fs.drop (k + 1)).map Fu.weight).sum ≤ ((y.fs.drop k).map Fu.weight).sum := by
    cases h : y.fs.drop k with
    | nil =>
      have : y.fs.drop (k + 1) = [] := by rw [← List.drop_drop, h]; rfl
      rw [this]; simp
    | cons a r =>
      have : y.fs.drop (k + 1) = r := by rw [← List.drop_drop, h]; rfl
      rw [this]; simp
  have h2 : (y.fs.map Fu.weight).sum = ((y.fs.take k).map Fu.weight).sum + ((y.fs.drop k).map Fu.weight).sum := by
    conv => lhs; rw [e]
    rw [List.map_append, List.sum_append]
  unfold Sy.bulk
  rw [fusLen_all, fusLen_all]
  show y.ty.bulk + ((y.fs.take k ++ y.fs.drop (k + 1)).length + ((y.fs.take k ++ y.fs.drop (k + 1)).map Fu.weight).sum) ≤ _
  rw [List.map_append, List.sum_append, h2, List.length_append, List.length_take, List.length_drop]
  omega
theorem dropFu_bulk (y : Sy) (i : Int) : (dropFu y i).bulk ≤ 205 := by
  cases h : hasFB y i with
  | true =>
    rw [dropFu_yes h]
    have := cutFu_bulk y i.toNat
    have h1 : syB y = true := by unfold hasFB at h; simp only [Bool.and_eq_true] at h; exact h.1
    have := syB_bulk h1
    omega
  | false => rw [dropFu_no h]; simp [Sy.bulk, Ty.bulk, mapsLen, fusLen]

theorem syAt_zero (w : World) (lo hi : Nat) : SyAt w lo hi (.slice none 0 0) (.slice none 0 0) (.slice none 0 0) ⟨⟨[], []⟩, []⟩ :=
  ⟨⟨⟨none, 0, rfl, Nat.le_refl _, Nat.zero_le _, by simp, fun h => absurd h (by simp)⟩, none, 0, rfl, Nat.le_refl _, Nat.zero_le _, fun h => absurd h (by simp)⟩, none, 0, rfl, Nat.le_refl _, Nat.zero_le _, fun h => absurd h (by simp)⟩

set_option maxRecDepth 100000 in
set_option maxHeartbeats 4000000 in
theorem specRawDrop_any (lo hi : Nat) (sv cv fv : Value) (y : Sy) (i : Int) (w : World) (hv : SyAt w lo hi sv cv fv y) (hB : hi ≤ w.heap.size) (hbk : y.bulk ≤ 1048576) :
    Calls Try.prog 35 #[.agg #[sv, cv, fv], .int .i64 i] w fun e w' => ∃ v l q, e = .returned (.tuple #[.agg #[v, l, q], .bool (hasFB y i)]) ∧ Below w.heap.size w w' ∧ SyAt w' w.heap.size w'.heap.size v l q (dropFu y i) := by
  obtain ⟨A, cap, rfl, hl1, hm1, _⟩ := hv.1.1.form
  obtain ⟨B, bap, rfl, hl2, hm2, _⟩ := hv.1.2.form
  obtain ⟨Q, qap, rfl, hl3, hm3, _⟩ := hv.2.form
  have hn : y.fs.length ≤ 1048576 := by unfold Sy.bulk at hbk; omega
  have h3 : Below w.heap.size w ((w.alloc (.cells #[.slice A y.ty.sizes.length cap, .slice B y.ty.cos.length bap, .slice Q y.fs.length qap] 38)).alloc (.cells #[.slice none 0 0, .slice none 0 0, .slice none 0 0] 38)) := by go_grown
  have Hv := Lib.hid hv
  have H3 := Lib.hid h3
  clear hv h3
  go_enter Try.func35, Try.ntmps35
  go_wp2_with fail
  refine (ownSys_any lo hi _ _ _ y _ (Hv.out.below H3.out hB) (by simp; omega) hbk).mono ?_
  rintro e w1 ⟨v, l, q, rfl, hb1, hty1⟩
  obtain ⟨VA, VC, rfl, _, _, _⟩ := hty1.1.1.form
  obtain ⟨WA, WC, rfl, _, _, _⟩ := hty1.1.2.form
  obtain ⟨LA, LC, rfl, hLn, hLm, _⟩ := hty1.2.form
  have RT : Row w1 w.heap.size 38 [.slice A y.ty.sizes.length cap, .slice B y.ty.cos.length bap, .slice Q y.fs.length qap] :=
    ((Row.new w 38 [.slice A y.ty.sizes.length cap, .slice B y.ty.cos.length bap, .slice Q y.fs.length qap]).keep (Below.heap_alloc _ _ _ (by simp))).below hb1 (by simp; omega)
  have RR : Row w1 (w.heap.size + 1) 38 [.slice none 0 0, .slice none 0 0, .slice none 0 0] := by
    have h := Row.new (w.alloc (.cells #[.slice A y.ty.sizes.length cap, .slice B y.ty.cos.length bap, .slice Q y.fs.length qap] 38)) 38 [.slice none 0 0, .slice none 0 0, .slice none 0 0]
    rw [World.size_alloc] at h
    exact h.below hb1 (by simp)
  have hs1 : w.heap.size + 1 + 1 ≤ w1.heap.size := by have := hb1.size; simpa using this
  have hb1w : Below w.heap.size w w1 := H3.out.trans (hb1.mono (by simp; omega))
  simp only [World.size_alloc] at hty1
  have a0 := RT.cell 0
  have a1 := RT.cell 1
  have a2 := RT.cell 2
  have af0 := RT.frozen 0
  have af1 := RT.frozen 1
  have af2 := RT.frozen 2
  simp only [List.getElem?_cons_zero, List.getElem?_cons_succ] at a0 a1 a2
  have Hb1 := Lib.hid hb1w
  have Hty1 := Lib.hid hty1
  have HRT := Lib.hid RT
  have HRR := Lib.hid RR
  clear hb1 hty1 hb1w RT RR
  go_wp2_with fail
  obtain ⟨w2, hw2⟩ : ∃ u, u = ((w1.setCell ⟨w.heap.size, 0, none⟩ (.slice VA y.ty.sizes.length VC)).setCell ⟨w.heap.size, 1, none⟩ (.slice WA y.ty.cos.length WC)).setCell ⟨w.heap.size, 2, none⟩ (.slice LA y.fs.length LC) := ⟨_, rfl⟩
  rw [← hw2]
  have RT2 : Hid (Row w2 w.heap.size 38 [.slice VA y.ty.sizes.length VC, .slice WA y.ty.cos.length WC, .slice LA y.fs.length LC]) := by rw [hw2]; exact ((HRT.out.set_ 0 _).set_ 1 _).set_ 2 _
  have hk2 : ∀ k, k ≠ w.heap.size → w2.heap[k]? = w1.heap[k]? := fun k hk => by rw [hw2]; exact (Below.heap_setCell _ _ _ _ (by dsimp only; omega)).trans ((Below.heap_setCell _ _ _ _ (by dsimp only; omega)).trans (Below.heap_setCell _ _ _ _ (by dsimp only; omega)))
  have RR2 : Hid (Row w2 (w.heap.size + 1) 38 [.slice none 0 0, .slice none 0 0, .slice none 0 0]) := HRR.out.keep (hk2 _ (by omega))
  have Hb2 : Hid (Below w.heap.size w w2) := by rw [hw2]; exact ((Hb1.out.setCell (by dsimp only; omega) _).setCell (by dsimp only; omega) _).setCell (by dsimp only; omega) _
  have e2s : w2.heap.size = w1.heap.size := by rw [hw2]; simp [World.setCell]
  have Hty2 : Hid (SyAt w2 (w.heap.size + 1 + 1) w2.heap.size (.slice VA y.ty.sizes.length VC) (.slice WA y.ty.cos.length WC) (.slice LA y.fs.length LC) y) := by
    rw [e2s]
    exact Hty1.out.keep fun k hk1 _ => hk2 k (by omega)
  have hs2 : w.heap.size + 1 + 1 ≤ w2.heap.size := by omega
  clear hw2 hk2 e2s a0 a1 a2 af0 af1 af2 Hty1 Hb1 HRT HRR
  refine (l4Has_any _ _ _ _ _ y i _ Hty2.out (Nat.le_refl _)).mono ?_
  rintro e w3 ⟨rfl, hb3⟩
  have hs3 := hb3.size
  have RT3 := Lib.hid (RT2.out.below hb3 (by omega))
  have RR3 := Lib.hid (RR2.out.below hb3 (by omega))
  have Hty3 := Lib.hid (Hty2.out.below hb3 (Nat.le_refl _))
  have Hb3 := Lib.hid (Hb2.out.trans (hb3.mono (by omega)))
  clear hb3 RT2 RR2 Hty2 Hb2
  by_cases hok : hasFB y i = true
  · obtain ⟨_, hi0, hi1, hilt⟩ := hasFB_of hok
    obtain ⟨k, rfl⟩ := Int.eq_ofNat_of_zero_le hi0
    have hkl : k < y.fs.length := by simpa using hilt
    have hwo : dropFu y (k : Nat) = cutFu y k := by rw [dropFu_yes hok]; simp
    have Hwo := Lib.hid hwo
    have Hok := Lib.hid hok
    obtain ⟨b, off, A9, cap9, A8, cap8, e9, _⟩ := Hty3.out.2.at_ hkl
    skip
    subst e9
    obtain ⟨E, hE⟩ : ∃ E : Addr, (if LC = k + 1 then some (⟨b, off, none⟩ : Addr) else some ⟨b, off + (k + 1) * 4, none⟩) = some E := by
      by_cases h : LC = k + 1
      · exact ⟨_, if_pos h⟩
      · exact ⟨_, if_neg h⟩
    have Hta := Lib.hid (Hty3.out.2.take_ (Nat.le_of_lt hkl))
    have Hdr := Lib.hid (Hty3.out.2.drop_ (k := k + 1) hkl hE)
    have hlt_ : (y.fs.take k).length = k := by rw [List.length_take, Nat.min_eq_left (Nat.le_of_lt hkl)]
    have hld_ : (y.fs.drop (k + 1)).length = y.fs.length - (k + 1) := List.length_drop
    have Hlt_ := Lib.hid hlt_
    have Hld_ := Lib.hid hld_
    have HE := Lib.hid hE
    have hkc : k ≤ LC := by omega
    have hkc1 : k + 1 ≤ y.fs.length := by omega
    have hw1 : IntKind.i64.wrap ((k : Int) + 1) = (k : Int) + 1 := by rw [IntKind.wrap_i64]; omega
    rw [hok]
    clear hok hwo hlt_ hld_ hE hilt hi0 hi1
    go_wp2_with fail
    have hcf : ∀ {u : World}, Below w3.heap.size w3 u → (u.cell? ⟨w.heap.size, 0, none⟩ = some (.slice VA y.ty.sizes.length VC) ∧ u.cell? ⟨w.heap.size, 1, none⟩ = some (.slice WA y.ty.cos.length WC) ∧ u.cell? ⟨w.heap.size, 2, none⟩ = some (.slice (some ⟨b, off, none⟩) y.fs.length LC)) := fun hk =>
      ⟨(hk.cell (p := ⟨w.heap.size, 0, none⟩) (by dsimp only; omega)).trans (RT3.out.cell 0), (hk.cell (p := ⟨w.heap.size, 1, none⟩) (by dsimp only; omega)).trans (RT3.out.cell 1), (hk.cell (p := ⟨w.heap.size, 2, none⟩) (by dsimp only; omega)).trans (RT3.out.cell 2)⟩
    have Hcf : Hid (∀ {u : World}, Below w3.heap.size w3 u → (u.cell? ⟨w.heap.size, 0, none⟩ = some (.slice VA y.ty.sizes.length VC) ∧ u.cell? ⟨w.heap.size, 1, none⟩ = some (.slice WA y.ty.cos.length WC) ∧ u.cell? ⟨w.heap.size, 2, none⟩ = some (.slice (some ⟨b, off, none⟩) y.fs.length LC))) := @hcf
    clear hcf
    refine wp_region_inv (by kernel_rfl) (fun f x u => ∃ x14 x15 x16 x17 x18 x19 x20 x21 x22 x23 x24 x25 x6, x = ⟨#[.agg #[.slice A y.ty.sizes.length cap, .slice B y.ty.cos.length bap, .slice Q y.fs.length qap], .int .i64 ((k : Nat) : Int), .pointer (some ⟨w.heap.size, 0, none⟩), undef, .pointer (some ⟨w.heap.size + 1, 0, none⟩), .bool false, x6, .agg #[.slice A y.ty.sizes.length cap, .slice B y.ty.cos.length bap, .slice Q y.fs.length qap], .agg #[.slice VA y.ty.sizes.length VC, .slice WA y.ty.cos.length WC, .slice (some ⟨b, off, none⟩) y.fs.length LC], .agg #[.slice VA y.ty.sizes.length VC, .slice WA y.ty.cos.length WC, .slice (some ⟨b, off, none⟩) y.fs.length LC], .int .i64 ((k : Nat) : Int), .bool true, .bool false, undef, x14, x15, x16, x17, x18, x19, x20, x21, x22, x23, x24, x25, undef, undef, undef, undef], []⟩ ∧ WoG (w.heap.size + 1 + 1) w2.heap.size w3.heap.size w3 (y.fs.take k) (y.fs.drop (k + 1)) f x14 x15 x16 x17 x18 x19 x20 x21 x22 x23 x24 x25 x6 (.pointer (some ⟨w.heap.size, 2, none⟩)) (.slice (some ⟨b, off, none⟩) y.fs.length LC) (.int .i64 (k : Nat)) (.slice (some ⟨b, off, none⟩) k LC) (.pointer (some ⟨w.heap.size, 2, none⟩)) (.slice (some ⟨b, off, none⟩) y.fs.length LC) (.int .i64 (k : Nat)) (.int .i64 ((k : Nat) + 1)) (.slice (some E) (y.fs.length - (k + 1)) (LC - (k + 1))) u) (of_decide_eq_true (by kernel_rfl)) ⟨_, _, _, _, _, _, _, _, _, _, _, _, _, rfl, ⟨(Below.refl _ _).drew, nofun, nofun, nofun, nofun, nofun, nofun, nofun, nofun, nofun, nofun, nofun, nofun, nofun, nofun, nofun, nofun⟩⟩ ?_ ?_
    · rintro f x u q o ho hfi hdep ⟨x14, x15, x16, x17, x18, x19, x20, x21, x22, x23, x24, x25, x6, rfl, hF⟩
      have hil : q < 13 := by have := (Array.getElem?_eq_some_iff.1 ho).1; simpa using this
      have hsz := hF.bel.size
      obtain ⟨p0, p1, p2⟩ := Hcf.out hF.bel
      obtain rfl | rfl | rfl | rfl | rfl | rfl | rfl | rfl | rfl | rfl | rfl | rfl | rfl : q = 0 ∨ q = 1 ∨ q = 2 ∨ q = 3 ∨ q = 4 ∨ q = 5 ∨ q = 6 ∨ q = 7 ∨ q = 8 ∨ q = 9 ∨ q = 10 ∨ q = 11 ∨ q = 12 := by omega
      all_goals
        obtain rfl := Option.some.inj ho
        refine wpOp_step ho fun K hK => ?_
        simp [Region.binds] at hdep
        clear ho
      · refine if_stepF rfl ?_
        have HF := Lib.hid hF
        clear hF
        unfold Oper.wp
        go_simp
        exact hK _ _ ⟨_, _, _, _, _, _, _, _, _, _, _, _, _, rfl, HF.out.s0 hfi hsz ((Below.refl _ _).alloc (Nat.le_refl _) _) hsz (Row.new u 79 [])⟩
      · refine if_stepF rfl ?_
        have HF := Lib.hid hF
        clear hF
        unfold Oper.wp
        go_simp
        exact hK _ _ ⟨_, _, _, _, _, _, _, _, _, _, _, _, _, rfl, HF.out.s1⟩
      · have d1 : f 1 = true := by simp [hdep]
        obtain rfl := hF.b1 d1
        refine if_stepF rfl ?_
        have HF := Lib.hid hF
        clear hF
        unfold Oper.wp
        go_simp
        exact hK _ _ ⟨_, _, _, _, _, _, _, _, _, _, _, _, _, rfl, HF.out.s2⟩
      · refine if_stepF rfl ?_
        have HF := Lib.hid hF
        clear hF
        unfold Oper.wp
        go_simp
        exact hK _ _ ⟨_, _, _, _, _, _, _, _, _, _, _, _, _, rfl, HF.out.s3⟩
      · have d2 : f 2 = true := by simp [hdep]
        have d3 : f 3 = true := by simp [hdep]
        obtain rfl := hF.b2 d2
        obtain rfl := hF.b3 d3
        refine if_stepF rfl ?_
        have HF := Lib.hid hF
        clear hF
        unfold Oper.wp
        go_simp
        exact hK _ _ ⟨_, _, _, _, _, _, _, _, _, _, _, _, _, rfl, HF.out.s4⟩
      · have d0 : f 0 = true := by simp [hdep]
        have d4 : f 4 = true := by simp [hdep]
        obtain rfl := hF.b4 d4
        obtain ⟨p, hbN, rfl, hrow⟩ := hF.b0 d0 hfi
        refine step_append_fus rfl (.tmp 14) (.tmp 18) rfl w3.heap.size p rfl hbN hrow (w.heap.size + 1 + 1) w2.heap.size (some ⟨b, off, none⟩) k LC (y.fs.take k) rfl Hlt_.out.symm (by rw [Hlt_.out]; exact Hta.out.keep fun j _ hj => hF.bel.block j (by omega)) (by omega) hsz ?_
        intro VA5 VC5 u5 news hown5 hnews hgrow5
        have hF2 := hF.s5 (A := VA5) (c := VC5) d0 hfi hbN hs3 hsz hgrow5 (by rw [Hlt_.out]; exact hown5) hnews
        rw [Hlt_.out] at hF2
        exact hK _ _ ⟨_, _, _, _, _, _, _, _, _, _, _, _, _, rfl, hF2⟩
      · refine if_stepF rfl ?_
        have HF := Lib.hid hF
        clear hF
        unfold Oper.wp
        go_simp
        exact hK _ _ ⟨_, _, _, _, _, _, _, _, _, _, _, _, _, rfl, HF.out.s6⟩
      · have d6 : f 6 = true := by simp [hdep]
        obtain rfl := hF.b6 d6
        refine if_stepF rfl ?_
        have HF := Lib.hid hF
        clear hF
        unfold Oper.wp
        go_simp
        exact hK _ _ ⟨_, _, _, _, _, _, _, _, _, _, _, _, _, rfl, HF.out.s7⟩
      · refine if_stepF rfl ?_
        have HF := Lib.hid hF
        clear hF
        unfold Oper.wp
        go_simp
        exact hK _ _ ⟨_, _, _, _, _, _, _, _, _, _, _, _, _, rfl, HF.out.s8⟩
      · have d8 : f 8 = true := by simp [hdep]
        obtain rfl := hF.b8 d8
        refine if_stepF rfl ?_
        have HF := Lib.hid hF
        clear hF
        unfold Oper.wp
        go_simp
        exact hK _ _ ⟨_, _, _, _, _, _, _, _, _, _, _, _, _, rfl, HF.out.s9⟩
      · have d7 : f 7 = true := by simp [hdep]
        have d9 : f 9 = true := by simp [hdep]
        obtain rfl := hF.b7 d7
        obtain rfl := hF.b9 d9
        refine if_stepF rfl ?_
        have HF := Lib.hid hF
        clear hF
        unfold Oper.wp
        have hE := HE.out
        have hp0 : (0 : Int) ≤ (k : Int) + 1 := by omega
        have hp1 : (k : Int) + 1 ≤ (y.fs.length : Int) := by omega
        go_simp
        exact hK _ _ ⟨_, _, _, _, _, _, _, _, _, _, _, _, _, rfl, HF.out.s10⟩
      · have d5 : f 5 = true := by simp [hdep]
        have d10 : f 10 = true := by simp [hdep]
        obtain rfl := hF.b10 d10
        obtain ⟨A5, C5, news, rfl, hown, hnews⟩ := hF.b5 d5 hfi
        refine step_append_fus2 rfl (.tmp 19) (.tmp 24) rfl w3.heap.size _ _ news rfl hown (w.heap.size + 1 + 1) w2.heap.size (some E) (y.fs.length - (k + 1)) (LC - (k + 1)) (y.fs.drop (k + 1)) rfl Hld_.out.symm (by rw [Hld_.out]; exact Hdr.out.keep fun j _ hj => hF.bel.block j (by omega)) (by rw [Hlt_.out]; omega) hsz ?_
        intro VA5 VC5 u5 n2 hown5 hn2 hgrow5
        have hF2 := hF.s11 (A := VA5) (c := VC5) hfi d5 hs3 hsz rfl hown hgrow5 (by rw [Hld_.out]; exact hown5) hnews hn2
        rw [Hld_.out] at hF2
        exact hK _ _ ⟨_, _, _, _, _, _, _, _, _, _, _, _, _, rfl, hF2⟩
      · have d11 : f 11 = true := by simp [hdep]
        refine if_stepF rfl ?_
        have HF := Lib.hid hF
        clear hF
        unfold Oper.wp
        go_simp
        exact hK _ _ ⟨_, _, _, _, _, _, _, _, _, _, _, _, _, rfl, HF.out.s12 d11⟩
    · rintro f x u hall ⟨x14, x15, x16, x17, x18, x19, x20, x21, x22, x23, x24, x25, x6, rfl, hF⟩
      obtain rfl := hF.b12 (hall 12 (by decide))
      obtain ⟨A8, C8, news8, rfl, hown8, hnews8⟩ := hF.b11 (hall 11 (by decide))
      have hsz := hF.bel.size
      obtain ⟨p0, p1, p2⟩ := Hcf.out hF.bel
      have RRu := Lib.hid (RR3.out.below hF.bel (by omega))
      have Hbu := Lib.hid (Hb3.out.trans (hF.bel.mono (by omega)))
      have Htu := Lib.hid (Hty3.out.below hF.bel (by omega))
      have hlen : (y.fs.take k).length + (y.fs.drop (k + 1)).length = (y.fs.take k ++ y.fs.drop (k + 1)).length := List.length_append.symm
      rw [hlen] at hown8
      have Hout := Lib.hid (fusAt_news (L := w.heap.size + 1 + 1) hown8 hnews8 (by omega) (by omega) (by omega))
      rw [hlen]
      have r0 := RRu.out.cell 0
      have r1 := RRu.out.cell 1
      have r2 := RRu.out.cell 2
      have rf0 := RRu.out.frozen 0
      have rf1 := RRu.out.frozen 1
      have rf2 := RRu.out.frozen 2
      simp only [List.getElem?_cons_zero, List.getElem?_cons_succ] at r0 r1 r2
      clear hF hall hown8 hnews8
      go_wp2
      refine bodyPost_ret (v := .tuple #[.agg #[.slice VA y.ty.sizes.length VC, .slice WA y.ty.cos.length WC, .slice A8 (y.fs.take k ++ y.fs.drop (k + 1)).length C8], .bool true]) (by simp [results, Try.results35, go_sem, r0, r1, r2]) rfl ?_
      refine ⟨_, _, _, by rw [Hok.out], ((Hbu.out.setCell (by dsimp only; omega) _).setCell (by dsimp only; omega) _).setCell (by dsimp only; omega) _, ?_⟩
      rw [Hwo.out]
      have ht : SyAt u (w.heap.size + 1 + 1) u.heap.size (.slice VA y.ty.sizes.length VC) (.slice WA y.ty.cos.length WC) (.slice A8 (y.fs.take k ++ y.fs.drop (k + 1)).length C8) (cutFu y k) := ⟨Htu.out.1.more (by omega) (by omega), Hout.out⟩
      exact (ht.keep fun j hj1 _ => (Below.heap_setCell _ _ _ _ (by dsimp only; omega)).trans ((Below.heap_setCell _ _ _ _ (by dsimp only; omega)).trans (Below.heap_setCell _ _ _ _ (by dsimp only; omega)))).more (by omega) (by simp [World.setCell])
  · have hokf : hasFB y i = false := by simpa using hok
    have hwo : dropFu y i = ⟨⟨[], []⟩, []⟩ := dropFu_no hokf
    have Hwo := Lib.hid hwo
    have Hok := Lib.hid hokf
    have r0 := RR3.out.cell 0
    have r1 := RR3.out.cell 1
    have r2 := RR3.out.cell 2
    have rf0 := RR3.out.frozen 0
    have rf1 := RR3.out.frozen 1
    have rf2 := RR3.out.frozen 2
    simp only [List.getElem?_cons_zero, List.getElem?_cons_succ] at r0 r1 r2
    rw [hokf]
    clear hok hokf hwo
    go_wp2
    refine bodyPost_ret (v := .tuple #[.agg #[.slice none 0 0, .slice none 0 0, .slice none 0 0], .bool false]) (by simp [results, Try.results35, go_sem, r0, r1, r2]) rfl ?_
    refine ⟨_, _, _, by rw [Hok.out], ((Hb3.out.setCell (by dsimp only; omega) _).setCell (by dsimp only; omega) _).setCell (by dsimp only; omega) _, ?_⟩
    rw [Hwo.out]
    exact syAt_zero _ _ _

set_option maxRecDepth 100000 in
set_option maxHeartbeats 1000000 in
theorem specDrop_any (lo hi : Nat) (sv cv fv : Value) (y : Sy) (i : Int) (w : World) (hv : SyAt w lo hi sv cv fv y) (hB : hi ≤ w.heap.size) (hbk : y.bulk ≤ 1048576) :
    Calls Try.prog 16 #[.agg #[sv, cv, fv], .int .i64 i] w fun e w' => ∃ v l q, e = .returned (.tuple #[.agg #[v, l, q], .bool (hasFB y i)]) ∧ Below w.heap.size w w' ∧ SyAt w' w.heap.size w'.heap.size v l q (dropFu y i) := by
  obtain ⟨A, cap, rfl, hl1, hm1, _⟩ := hv.1.1.form
  obtain ⟨B, bap, rfl, hl2, hm2, _⟩ := hv.1.2.form
  obtain ⟨Q, qap, rfl, hl3, hm3, _⟩ := hv.2.form
  have h3 : Below w.heap.size w ((w.alloc (.cells #[.slice A y.ty.sizes.length cap, .slice B y.ty.cos.length bap, .slice Q y.fs.length qap] 38)).alloc (.cells #[.slice none 0 0, .slice none 0 0, .slice none 0 0] 38)) := by go_grown
  have hv3 := Lib.hid (hv.below h3 hB)
  have H3 := Lib.hid h3
  have Hb := Lib.hid (dropFu_bulk y i)
  clear hv h3
  go_enter Try.func16, Try.ntmps16
  go_wp2_with fail
  refine (specRawDrop_any lo hi _ _ _ y i _ hv3.out (by simp; omega) hbk).mono ?_
  rintro e w1 ⟨v, l, q, rfl, hb1, hty1⟩
  have H1 := Lib.hid (H3.out.trans (hb1.mono (by simp; omega)))
  obtain ⟨VA, VC, rfl, _, _, _⟩ := hty1.1.1.form
  obtain ⟨LA, LC, rfl, _, _, _⟩ := hty1.1.2.form
  obtain ⟨QA, QC, rfl, _, _, _⟩ := hty1.2.form
  have RR : Row w1 (w.heap.size + 1) 38 [.slice none 0 0, .slice none 0 0, .slice none 0 0] := by
    have h := Row.new (w.alloc (.cells #[.slice A y.ty.sizes.length cap, .slice B y.ty.cos.length bap, .slice Q y.fs.length qap] 38)) 38 [.slice none 0 0, .slice none 0 0, .slice none 0 0]
    rw [World.size_alloc] at h
    exact h.below hb1 (by simp)
  have hs1 : w.heap.size + 1 + 1 ≤ w1.heap.size := by have := hb1.size; simpa using this
  simp only [World.size_alloc] at hty1
  have Hty1 := Lib.hid hty1
  have RR1 := Lib.hid RR
  clear hb1 hty1 RR
  go_wp2_with fail
  have hbx : Below w1.heap.size w1 (w1.alloc (.cells #[.slice VA (dropFu y i).ty.sizes.length VC, .slice LA (dropFu y i).ty.cos.length LC, .slice QA (dropFu y i).fs.length QC] 38)) := (Below.refl _ _).alloc (Nat.le_refl _) _
  refine (ownSys_any _ _ _ _ _ (dropFu y i) _ (Hty1.out.below hbx (Nat.le_refl _)) (by simp) (Nat.le_trans Hb.out (by omega))).mono ?_
  rintro e w2 ⟨v', l', q', rfl, hb2, hty2⟩
  obtain ⟨VA2, VC2, rfl, _, _, _⟩ := hty2.1.1.form
  obtain ⟨LA2, LC2, rfl, _, _, _⟩ := hty2.1.2.form
  obtain ⟨QA2, QC2, rfl, _, _, _⟩ := hty2.2.form
  have hb12 := hbx.trans (hb2.mono (by simp))
  have hs2 := hb12.size
  have RR2 := Lib.hid (RR1.out.below hb12 (by omega))
  have H2 := Lib.hid (H1.out.trans (hb12.mono (by omega)))
  have Hty2 := Lib.hid (hty2.more (lo' := w.heap.size + 1 + 1) (hi' := w2.heap.size) (by simp; omega) (Nat.le_refl _))
  have r0 := RR2.out.cell 0
  have r1 := RR2.out.cell 1
  have r2 := RR2.out.cell 2
  have rf0 := RR2.out.frozen 0
  have rf1 := RR2.out.frozen 1
  have rf2 := RR2.out.frozen 2
  simp only [List.getElem?_cons_zero, List.getElem?_cons_succ] at r0 r1 r2
  clear hb2 hty2 hbx hb12
  go_wp2
  refine bodyPost_ret (v := .tuple #[.agg #[.slice VA2 (dropFu y i).ty.sizes.length VC2, .slice LA2 (dropFu y i).ty.cos.length LC2, .slice QA2 (dropFu y i).fs.length QC2], .bool (hasFB y i)]) (by simp [results, Try.results16, go_sem, r0, r1, r2]) rfl ?_
  exact ⟨_, _, _, rfl, ((H2.out.setCell (by dsimp only; omega) _).setCell (by dsimp only; omega) _).setCell (by dsimp only; omega) _, (Hty2.out.keep fun k hk1 _ => (Below.heap_setCell _ _ _ _ (by dsimp only; omega)).trans ((Below.heap_setCell _ _ _ _ (by dsimp only; omega)).trans (Below.heap_setCell _ _ _ _ (by dsimp only; omega)))).more (by omega) (by simp [World.setCell])⟩
end Go.Proofs.Ytplncocfbajefaa

