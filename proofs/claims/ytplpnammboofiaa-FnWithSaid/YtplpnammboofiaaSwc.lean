/-
  The contract of the model's WithoutCoercion.
-/
import Derived.Test.YtplpnammboofiaaWof
import Derived.Test.YtplpnammboofiaaSwith
import Derived.Test.YtplpnammboofiaaSapply
namespace Go.Proofs.Ytplpnammboofiaa
open Go.RowKit

set_option maxRecDepth 100000 in
set_option maxHeartbeats 4000000 in
theorem specRawCut_any (lo hi : Nat) (sv cv : Value) (t : Ty) (i : Int) (w : World) (hv : TyAt w lo hi sv cv t) (hB : hi ≤ w.heap.size) (hbk : t.bulk ≤ 1048576) :
    Calls Try.prog 46 #[.agg #[sv, cv], .int .i64 i] w fun e w' => ∃ v l, e = .returned (.tuple #[.agg #[v, l], .bool (hasC t i)]) ∧ Below w.heap.size w w' ∧ TyAt w' w.heap.size w'.heap.size v l (wout t i) := by
  obtain ⟨A, cap, rfl, hl1, hm1, _⟩ := hv.1.form
  obtain ⟨B, bap, rfl, hl2, hm2, _⟩ := hv.2.form
  have hn : t.cos.length ≤ 1048576 := by unfold Ty.bulk at hbk; omega
  have h3 : Below w.heap.size w ((w.alloc (.cells #[.slice A t.sizes.length cap, .slice B t.cos.length bap] 26)).alloc (.cells #[.slice none 0 0, .slice none 0 0] 26)) := by go_grown
  have Hwf := Lib.hid (CosAt.wf hv.2)
  have Hv := Lib.hid hv
  have H3 := Lib.hid h3
  clear hv h3
  go_enter Try.func46, Try.ntmps46
  go_wp2_with fail
  refine (ownTypes_any lo hi _ _ t _ (Hv.out.below H3.out hB) (by simp; omega) hbk).mono ?_
  rintro e w1 ⟨v, l, rfl, hb1, hty1⟩
  obtain ⟨VA, VC, rfl, _, _, _⟩ := hty1.1.form
  obtain ⟨LA, LC, rfl, hLn, hLm, _⟩ := hty1.2.form
  obtain ⟨hcl, hfr⟩ := bcell hb1
  have hs1 := hb1.size
  simp only [World.size_alloc] at hcl hfr hs1
  have a0 : w1.cell? ⟨w.heap.size, 0, none⟩ = some (.slice A t.sizes.length cap) := by rw [hcl _ _ (by omega)]; simp [go_sem]
  have a1 : w1.cell? ⟨w.heap.size, 1, none⟩ = some (.slice B t.cos.length bap) := by rw [hcl _ _ (by omega)]; simp [go_sem]
  have af0 : w1.frozen? ⟨w.heap.size, 0, none⟩ = false := by rw [hfr _ _ (by omega)]; simp [go_sem]
  have af1 : w1.frozen? ⟨w.heap.size, 1, none⟩ = false := by rw [hfr _ _ (by omega)]; simp [go_sem]
  have hb1w : Below w.heap.size w w1 := H3.out.trans (hb1.mono (by simp; omega))
  simp only [World.size_alloc] at hty1
  have hkT : w1.heap[w.heap.size]? = _ := hb1.block w.heap.size (by simp; omega)
  have hkR : w1.heap[w.heap.size + 1]? = _ := hb1.block (w.heap.size + 1) (by simp)
  have RT : Row w1 w.heap.size 26 [.slice A t.sizes.length cap, .slice B t.cos.length bap] := ((Row.new w _ [.slice A t.sizes.length cap, .slice B t.cos.length bap]).alloc _).keep hkT
  have RR : Row w1 (w.heap.size + 1) 26 [.slice none 0 0, .slice none 0 0] := by
    have := (Row.new (w.alloc (.cells #[.slice A t.sizes.length cap, .slice B t.cos.length bap] 26)) 26 [.slice none 0 0, .slice none 0 0])
    rw [World.size_alloc] at this
    exact this.keep hkR
  have Hb1 := Lib.hid hb1w
  have Hty1 := Lib.hid hty1
  have HRT := Lib.hid RT
  have HRR := Lib.hid RR
  clear hb1 hty1 hb1w RT RR hkT hkR hcl hfr
  go_wp2_with fail
  obtain ⟨w2, hw2⟩ : ∃ u, u = (w1.setCell ⟨w.heap.size, 0, none⟩ (.slice VA t.sizes.length VC)).setCell ⟨w.heap.size, 1, none⟩ (.slice LA t.cos.length LC) := ⟨_, rfl⟩
  rw [← hw2]
  have RT2 : Hid (Row w2 w.heap.size 26 [.slice VA t.sizes.length VC, .slice LA t.cos.length LC]) := by rw [hw2]; exact (HRT.out.set_ 0 _).set_ 1 _
  have RR2 : Hid (Row w2 (w.heap.size + 1) 26 [.slice none 0 0, .slice none 0 0]) := by rw [hw2]; exact (HRR.out.far (by dsimp only; omega) _).far (by dsimp only; omega) _
  have Hb2 : Hid (Below w.heap.size w w2) := by rw [hw2]; exact (Hb1.out.setCell (by dsimp only; omega) _).setCell (by dsimp only; omega) _
  have Hty2 : Hid (TyAt w2 (w.heap.size + 1 + 1) w2.heap.size (.slice VA t.sizes.length VC) (.slice LA t.cos.length LC) t) := by
    have e : w2.heap.size = w1.heap.size := by rw [hw2]; simp [World.setCell]
    rw [e]
    exact Hty1.out.keep fun k hk1 hk2 => by rw [hw2]; exact (Below.heap_setCell _ _ _ _ (by dsimp only; omega)).trans (Below.heap_setCell _ _ _ _ (by dsimp only; omega))
  have hs2 : w.heap.size + 1 + 1 ≤ w2.heap.size := by rw [hw2]; simp [World.setCell]; omega
  clear hw2 a0 a1 af0 af1 Hty1 Hb1 HRT HRR
  refine (l1Coercion_any _ _ _ _ t i _ Hty2.out (Nat.le_refl _)).mono ?_
  rintro e w3 ⟨rfl, hb3⟩
  have hs3 := hb3.size
  have RT3 := Lib.hid (RT2.out.below hb3 (by omega))
  have RR3 := Lib.hid (RR2.out.below hb3 (by omega))
  have Hty3 := Lib.hid (Hty2.out.below hb3 (Nat.le_refl _))
  have Hb3 := Lib.hid (Hb2.out.trans (hb3.mono (by omega)))
  clear hb3 RT2 RR2 Hty2 Hb2
  by_cases hok : hasC t i = true
  · obtain ⟨_, hi0, hi1, hilt⟩ := hasC_of hok
    obtain ⟨k, rfl⟩ := Int.eq_ofNat_of_zero_le hi0
    have hkl : k < t.cos.length := by simpa using hilt
    have hwo : wout t (k : Nat) = cutCo t k := by unfold wout; rw [if_pos hok]; simp
    have Hwo := Lib.hid hwo
    have Hok := Lib.hid hok
    obtain ⟨b, off, A9, cap9, e9, _⟩ := Hty3.out.2.at_ hkl
    skip
    subst e9
    obtain ⟨E, hE⟩ : ∃ E : Addr, (if LC = k + 1 then some (⟨b, off, none⟩ : Addr) else some ⟨b, off + (k + 1) * 3, none⟩) = some E := by
      by_cases h : LC = k + 1
      · exact ⟨_, if_pos h⟩
      · exact ⟨_, if_neg h⟩
    have Hta := Lib.hid (Hty3.out.2.take_ (Nat.le_of_lt hkl))
    have Hdr := Lib.hid (Hty3.out.2.drop_ (k := k + 1) hkl hE)
    have hlt_ : (t.cos.take k).length = k := by rw [List.length_take, Nat.min_eq_left (Nat.le_of_lt hkl)]
    have hld_ : (t.cos.drop (k + 1)).length = t.cos.length - (k + 1) := List.length_drop
    have Hlt_ := Lib.hid hlt_
    have Hld_ := Lib.hid hld_
    have HE := Lib.hid hE
    have hkc : k ≤ LC := by omega
    have hkc1 : k + 1 ≤ t.cos.length := by omega
    have hw1 : IntKind.i64.wrap ((k : Int) + 1) = (k : Int) + 1 := by rw [IntKind.wrap_i64]; omega
    rw [hok]
    clear hok hwo hlt_ hld_ hE hilt hi0 hi1
    go_wp2_with fail
    have hcf : ∀ {u : World}, Below w3.heap.size w3 u → (u.cell? ⟨w.heap.size, 0, none⟩ = some (.slice VA t.sizes.length VC) ∧ u.cell? ⟨w.heap.size, 1, none⟩ = some (.slice (some ⟨b, off, none⟩) t.cos.length LC)) := fun hk =>
      ⟨(hk.cell (p := ⟨w.heap.size, 0, none⟩) (by dsimp only; omega)).trans (RT3.out.cell 0), (hk.cell (p := ⟨w.heap.size, 1, none⟩) (by dsimp only; omega)).trans (RT3.out.cell 1)⟩
    have Hcf : Hid (∀ {u : World}, Below w3.heap.size w3 u → (u.cell? ⟨w.heap.size, 0, none⟩ = some (.slice VA t.sizes.length VC) ∧ u.cell? ⟨w.heap.size, 1, none⟩ = some (.slice (some ⟨b, off, none⟩) t.cos.length LC))) := @hcf
    clear hcf
    refine wp_region_inv (by kernel_rfl) (fun f x u => ∃ x14 x15 x16 x17 x18 x19 x20 x21 x22 x23 x24 x25 x6, x = ⟨#[.agg #[.slice A t.sizes.length cap, .slice B t.cos.length bap], .int .i64 (k : Nat), .pointer (some ⟨w.heap.size, 0, none⟩), undef, .pointer (some ⟨w.heap.size + 1, 0, none⟩), .bool false, x6, .agg #[.slice A t.sizes.length cap, .slice B t.cos.length bap], .agg #[.slice VA t.sizes.length VC, .slice (some ⟨b, off, none⟩) t.cos.length LC], .agg #[.slice VA t.sizes.length VC, .slice (some ⟨b, off, none⟩) t.cos.length LC], .int .i64 (k : Nat), .bool true, .bool false, undef, x14, x15, x16, x17, x18, x19, x20, x21, x22, x23, x24, x25, undef, undef, undef, undef], []⟩ ∧ WoF (w.heap.size + 1 + 1) w2.heap.size w3.heap.size w3 (t.cos.take k) (t.cos.drop (k + 1)) f x14 x15 x16 x17 x18 x19 x20 x21 x22 x23 x24 x25 x6 (.pointer (some ⟨w.heap.size, 1, none⟩)) (.slice (some ⟨b, off, none⟩) t.cos.length LC) (.int .i64 (k : Nat)) (.slice (some ⟨b, off, none⟩) k LC) (.pointer (some ⟨w.heap.size, 1, none⟩)) (.slice (some ⟨b, off, none⟩) t.cos.length LC) (.int .i64 (k : Nat)) (.int .i64 ((k : Nat) + 1)) (.slice (some E) (t.cos.length - (k + 1)) (LC - (k + 1))) u) (of_decide_eq_true (by kernel_rfl)) ⟨_, _, _, _, _, _, _, _, _, _, _, _, _, rfl, ⟨(Below.refl _ _).drew, nofun, nofun, nofun, nofun, nofun, nofun, nofun, nofun, nofun, nofun, nofun, nofun, nofun, nofun, nofun, nofun⟩⟩ ?_ ?_
    · rintro f x u q o ho hfi hdep ⟨x14, x15, x16, x17, x18, x19, x20, x21, x22, x23, x24, x25, x6, rfl, hF⟩
      have hil : q < 13 := by have := (Array.getElem?_eq_some_iff.1 ho).1; simpa using this
      have hsz := hF.bel.size
      obtain ⟨p0, p1⟩ := Hcf.out hF.bel
      obtain rfl | rfl | rfl | rfl | rfl | rfl | rfl | rfl | rfl | rfl | rfl | rfl | rfl : q = 0 ∨ q = 1 ∨ q = 2 ∨ q = 3 ∨ q = 4 ∨ q = 5 ∨ q = 6 ∨ q = 7 ∨ q = 8 ∨ q = 9 ∨ q = 10 ∨ q = 11 ∨ q = 12 := by omega
      all_goals
        obtain rfl := Option.some.inj ho
        refine wpOp_step ho fun K hK => ?_
        simp [Region.binds] at hdep
        clear ho
      · refine if_step rfl ?_
        have HF := Lib.hid hF
        clear hF
        unfold Oper.wp
        go_simp
        exact hK _ _ ⟨_, _, _, _, _, _, _, _, _, _, _, _, _, rfl, HF.out.s0 hfi hsz ((Below.refl _ _).alloc (Nat.le_refl _) _) hsz (Row.new u 28 [])⟩
      · refine if_step rfl ?_
        have HF := Lib.hid hF
        clear hF
        unfold Oper.wp
        go_simp
        exact hK _ _ ⟨_, _, _, _, _, _, _, _, _, _, _, _, _, rfl, HF.out.s1⟩
      · have d1 : f 1 = true := by simp [hdep]
        obtain rfl := hF.b1 d1
        refine if_step rfl ?_
        have HF := Lib.hid hF
        clear hF
        unfold Oper.wp
        go_simp
        exact hK _ _ ⟨_, _, _, _, _, _, _, _, _, _, _, _, _, rfl, HF.out.s2⟩
      · refine if_step rfl ?_
        have HF := Lib.hid hF
        clear hF
        unfold Oper.wp
        go_simp
        exact hK _ _ ⟨_, _, _, _, _, _, _, _, _, _, _, _, _, rfl, HF.out.s3⟩
      · have d2 : f 2 = true := by simp [hdep]
        have d3 : f 3 = true := by simp [hdep]
        obtain rfl := hF.b2 d2
        obtain rfl := hF.b3 d3
        refine if_step rfl ?_
        have HF := Lib.hid hF
        clear hF
        unfold Oper.wp
        go_simp
        exact hK _ _ ⟨_, _, _, _, _, _, _, _, _, _, _, _, _, rfl, HF.out.s4⟩
      · have d0 : f 0 = true := by simp [hdep]
        have d4 : f 4 = true := by simp [hdep]
        obtain rfl := hF.b4 d4
        obtain ⟨p, hbN, rfl, hrow⟩ := hF.b0 d0 hfi
        refine step_append_cos rfl (.tmp 14) (.tmp 18) rfl w3.heap.size p rfl hbN hrow (w.heap.size + 1 + 1) w2.heap.size (some ⟨b, off, none⟩) k LC (t.cos.take k) rfl Hlt_.out.symm (by rw [Hlt_.out]; exact Hta.out.keep fun j _ hj => hF.bel.block j (by omega)) (by omega) hsz ?_
        intro VA5 VC5 u5 news hown5 hnews hgrow5
        have hF2 := hF.s5 (A := VA5) (c := VC5) d0 hfi hbN hs3 hsz hgrow5 (by rw [Hlt_.out]; exact hown5) hnews
        rw [Hlt_.out] at hF2
        exact hK _ _ ⟨_, _, _, _, _, _, _, _, _, _, _, _, _, rfl, hF2⟩
      · refine if_step rfl ?_
        have HF := Lib.hid hF
        clear hF
        unfold Oper.wp
        go_simp
        exact hK _ _ ⟨_, _, _, _, _, _, _, _, _, _, _, _, _, rfl, HF.out.s6⟩
      · have d6 : f 6 = true := by simp [hdep]
        obtain rfl := hF.b6 d6
        refine if_step rfl ?_
        have HF := Lib.hid hF
        clear hF
        unfold Oper.wp
        go_simp
        exact hK _ _ ⟨_, _, _, _, _, _, _, _, _, _, _, _, _, rfl, HF.out.s7⟩
      · refine if_step rfl ?_
        have HF := Lib.hid hF
        clear hF
        unfold Oper.wp
        go_simp
        exact hK _ _ ⟨_, _, _, _, _, _, _, _, _, _, _, _, _, rfl, HF.out.s8⟩
      · have d8 : f 8 = true := by simp [hdep]
        obtain rfl := hF.b8 d8
        refine if_step rfl ?_
        have HF := Lib.hid hF
        clear hF
        unfold Oper.wp
        go_simp
        exact hK _ _ ⟨_, _, _, _, _, _, _, _, _, _, _, _, _, rfl, HF.out.s9⟩
      · have d7 : f 7 = true := by simp [hdep]
        have d9 : f 9 = true := by simp [hdep]
        obtain rfl := hF.b7 d7
        obtain rfl := hF.b9 d9
        refine if_step rfl ?_
        have HF := Lib.hid hF
        clear hF
        unfold Oper.wp
        have hE := HE.out
        have hp0 : (0 : Int) ≤ (k : Int) + 1 := by omega
        have hp1 : (k : Int) + 1 ≤ (t.cos.length : Int) := by omega
        go_simp
        exact hK _ _ ⟨_, _, _, _, _, _, _, _, _, _, _, _, _, rfl, HF.out.s10⟩
      · have d5 : f 5 = true := by simp [hdep]
        have d10 : f 10 = true := by simp [hdep]
        obtain rfl := hF.b10 d10
        obtain ⟨A5, C5, news, rfl, hown, hnews⟩ := hF.b5 d5 hfi
        refine step_append_cos2 rfl (.tmp 19) (.tmp 24) rfl w3.heap.size _ _ news rfl hown (w.heap.size + 1 + 1) w2.heap.size (some E) (t.cos.length - (k + 1)) (LC - (k + 1)) (t.cos.drop (k + 1)) rfl Hld_.out.symm (by rw [Hld_.out]; exact Hdr.out.keep fun j _ hj => hF.bel.block j (by omega)) (by rw [Hlt_.out]; omega) hsz ?_
        intro VA5 VC5 u5 n2 hown5 hn2 hgrow5
        have hF2 := hF.s11 (A := VA5) (c := VC5) hfi d5 hs3 hsz rfl hown hgrow5 (by rw [Hld_.out]; exact hown5) hnews hn2
        rw [Hld_.out] at hF2
        exact hK _ _ ⟨_, _, _, _, _, _, _, _, _, _, _, _, _, rfl, hF2⟩
      · have d11 : f 11 = true := by simp [hdep]
        refine if_step rfl ?_
        have HF := Lib.hid hF
        clear hF
        unfold Oper.wp
        go_simp
        exact hK _ _ ⟨_, _, _, _, _, _, _, _, _, _, _, _, _, rfl, HF.out.s12 d11⟩
    · rintro f x u hall ⟨x14, x15, x16, x17, x18, x19, x20, x21, x22, x23, x24, x25, x6, rfl, hF⟩
      obtain rfl := hF.b12 (hall 12 (by decide))
      obtain ⟨A8, C8, news8, rfl, hown8, hnews8⟩ := hF.b11 (hall 11 (by decide))
      have hsz := hF.bel.size
      obtain ⟨p0, p1⟩ := Hcf.out hF.bel
      have RRu := Lib.hid (RR3.out.below hF.bel (by omega))
      have Hbu := Lib.hid (Hb3.out.trans (hF.bel.mono (by omega)))
      have Htu := Lib.hid (Hty3.out.below hF.bel (by omega))
      have hlen : (t.cos.take k).length + (t.cos.drop (k + 1)).length = (t.cos.take k ++ t.cos.drop (k + 1)).length := List.length_append.symm
      rw [hlen] at hown8
      have Hout := Lib.hid (cosAt_news (L := w.heap.size + 1 + 1) hown8 hnews8 (fun j hj => by
        have hm : (t.cos.take k ++ t.cos.drop (k + 1)).getD j default ∈ t.cos := by
          rw [List.getD_eq_getElem?_getD, List.getElem?_eq_getElem hj, Option.getD_some]
          rcases List.mem_append.1 (List.getElem_mem hj) with h | h
          · exact List.mem_of_mem_take h
          · exact List.mem_of_mem_drop h
        obtain ⟨j2, hj2, e2⟩ := List.getElem_of_mem hm
        have := Hwf.out j2 hj2
        rw [List.getD_eq_getElem?_getD, List.getElem?_eq_getElem hj2, Option.getD_some, e2] at this
        exact ⟨this.1, this.2.1⟩) (by omega) (by omega) (by omega))
      rw [hlen]
      have r0 := RRu.out.cell 0
      have r1 := RRu.out.cell 1
      have rf0 := RRu.out.frozen 0
      have rf1 := RRu.out.frozen 1
      simp only [List.getElem?_cons_zero, List.getElem?_cons_succ] at r0 r1
      clear hF hall hown8 hnews8
      go_wp2
      refine bodyPost_ret (v := .tuple #[.agg #[.slice VA t.sizes.length VC, .slice A8 (t.cos.take k ++ t.cos.drop (k + 1)).length C8], .bool true]) (by simp [results, Try.results46, go_sem, r0, r1]) rfl ?_
      refine ⟨_, _, by rw [Hok.out], (Hbu.out.setCell (by dsimp only; omega) _).setCell (by dsimp only; omega) _, ?_⟩
      rw [Hwo.out]
      have ht : TyAt u (w.heap.size + 1 + 1) u.heap.size (.slice VA t.sizes.length VC) (.slice A8 (t.cos.take k ++ t.cos.drop (k + 1)).length C8) (cutCo t k) := ⟨Htu.out.1.more (by omega) (by omega), Hout.out⟩
      exact (ht.keep fun j hj1 _ => (Below.heap_setCell _ _ _ _ (by dsimp only; omega)).trans (Below.heap_setCell _ _ _ _ (by dsimp only; omega))).more (by omega) (by simp [World.setCell])
  · have hokf : hasC t i = false := by simpa using hok
    have hwo : wout t i = ⟨[], []⟩ := by unfold wout; rw [if_neg hok]
    have Hwo := Lib.hid hwo
    have Hok := Lib.hid hokf
    have r0 := RR3.out.cell 0
    have r1 := RR3.out.cell 1
    have rf0 := RR3.out.frozen 0
    have rf1 := RR3.out.frozen 1
    simp only [List.getElem?_cons_zero, List.getElem?_cons_succ] at r0 r1
    rw [hokf]
    clear hok hokf hwo
    go_wp2
    refine bodyPost_ret (v := .tuple #[.agg #[.slice none 0 0, .slice none 0 0], .bool false]) (by simp [results, Try.results46, go_sem, r0, r1]) rfl ?_
    refine ⟨_, _, by rw [Hok.out], (Hb3.out.setCell (by dsimp only; omega) _).setCell (by dsimp only; omega) _, ?_⟩
    rw [Hwo.out]
    exact ⟨⟨none, 0, rfl, Nat.le_refl _, Nat.zero_le _, by simp, fun h => absurd h (by simp)⟩, none, 0, rfl, Nat.le_refl _, Nat.zero_le _, fun h => absurd h (by simp)⟩
end Go.Proofs.Ytplpnammboofiaa
