/-
  The contract of AgreeAt, the model's.
-/
import Derived.Test.YtokklaoldgdkaaaCohd
import Derived.BigQuiet
import Derived.Deep.RegionWith
namespace Go.Proofs.Ytokklaoldgdkaaa
open Go.RowKit
attribute [local go_sem] Oper.semAt_some

/-- The k-th element of a list of lists. -/
theorem WaysAt.at_ {w : World} {base : Nat} {ov : Value} {zss : List (List Int)} (h : WaysAt w base ov zss) : ∃ (O : Option Addr) (oc : Nat), ov = .slice O zss.length oc ∧ zss.length ≤ maxLen ∧ ∀ j, ∀ (hj : j < zss.length), ∃ g A2 c2, O = some ⟨g, 0, none⟩ ∧ base ≤ g ∧ g < w.heap.size ∧ w.cell? ⟨g, j, none⟩ = some (.slice A2 zss[j].length c2) ∧ IntsAt w base w.heap.size (.slice A2 zss[j].length c2) zss[j] := by
  obtain ⟨xs, S, hown, hints, hS⟩ := h
  obtain ⟨OA, OC, rfl⟩ := owns_form hown
  refine ⟨OA, OC, rfl, ?_, ?_⟩
  · obtain ⟨_, ⟨e, h0⟩ | ⟨g, cap', cur, e, _, _, h1, h2, _⟩⟩ := hown
    · rw [h0]; exact Nat.zero_le _
    · omega
  intro j hj
  obtain ⟨x, hx, hz⟩ := hints j hj
  have hlt := owns_lt hown
  obtain ⟨_, ⟨_, h0⟩ | ⟨g, cap', cur, e, hrest⟩⟩ := hown
  · omega
  · simp only [Value.slice.injEq] at e
    obtain ⟨rfl, -, rfl⟩ := e
    have hc := World.ownsRow.cells (⟨‹_›, .inr ⟨g, OC, cur, rfl, hrest⟩⟩ : w.ownsRow _ 22 1 (.slice (some ⟨g, 0, none⟩) zss.length OC) zss.length xs) (g := g) rfl j x hx
    have hat := hz.at (lo := base) (hi := w.heap.size) fun b hb => ⟨(hS b hb).1, (hS b hb).2.1⟩
    obtain ⟨A2, c2, rfl, _, _, hat2⟩ := hat.form
    rw [Go.WideShapes.add_plain, Nat.zero_add] at hc
    exact ⟨g, A2, c2, rfl, (hlt g rfl).1, (hlt g rfl).2, hc, hat2⟩

theorem headD_get {l : List (List Int)} (h : 0 < l.length) : l.headD [] = l[0] := by
  cases l with
  | nil => simp at h
  | cons p q => rfl
theorem sameB_no {t : Ty} {a b v : Int} {j : Nat} (hj : j < (waysOf t a b).length) (h : ¬ goV t.cos v (waysOf t a b)[j] = goV t.cos v ((waysOf t a b).headD [])) : sameB t a b v = false := by
  cases e : sameB t a b v with
  | false => rfl
  | true =>
    unfold sameB at e
    rw [List.all_eq_true] at e
    exact absurd (eq_of_beq (e _ (List.getElem_mem hj))) h

set_option maxRecDepth 100000 in
set_option maxHeartbeats 4000000 in
theorem specAgree_any (lo hi : Nat) (sv cv : Value) (t : Ty) (a b v : Int) (w : World) (hv : TyAt w lo hi sv cv t) (hB : hi ≤ w.heap.size) :
    Calls Try.prog 31 #[.agg #[sv, cv], .int .i64 a, .int .i64 b, .int .i64 v] w fun e w' => e = .returned (.bool (agreeV t a b v)) ∧ Below w.heap.size w w' := by
  obtain ⟨A, cap, rfl, hl1, hm1, _⟩ := hv.1.form
  obtain ⟨B, bap, rfl, hl2, hm2, _⟩ := hv.2.form
  have h3 : Below w.heap.size w (w.alloc (.cells #[.slice A t.sizes.length cap, .slice B t.cos.length bap] 30)) := by go_grown
  have hv3 := Lib.hid (hv.below h3 hB)
  have Hv := Lib.hid hv
  clear hv
  go_enter Try.func31, Try.ntmps31
  go_wp2_with fail
  refine (l2Types_any lo hi _ _ t a b _ hv3.out (by simp; omega)).mono ?_
  rintro e w1 ⟨rfl, hb1⟩
  have H1 := Lib.hid (hb1.mono (by simp : w.heap.size + 1 ≤ _))
  obtain ⟨q0, q1, hl, _⟩ := box2 H1.out
  clear hb1
  by_cases htb : typesB t a b = true
  · have Htb := Lib.hid htb
    rw [htb]
    clear htb
    go_wp2_with fail
    refine (l1Has_any lo hi _ _ t a v _ (Hv.out.below (box2 H1.out).2.2.2 hB) (by omega) (tyOk_sizes (typesB_of Htb.out).1)).mono ?_
    rintro e w2 ⟨rfl, hb2⟩
    have H2 := Lib.hid (H1.out.trans (hb2.mono (by omega)))
    clear hb2 q0 q1
    obtain ⟨q0, q1, hl2, _⟩ := box2 H2.out
    by_cases hh : hasV0 t.sizes a v = true
    · have Hh := Lib.hid hh
      have hfin : Hid (agreeV t a b v = sameB t a b v) := by show _ = _; unfold agreeV; rw [Htb.out, hh]; rfl
      rw [hh]
      clear hh
      go_wp2_with fail
      refine (l2Ways_any lo hi _ _ t a b _ (Hv.out.below (box2 H2.out).2.2.2 hB) (by omega) Htb.out).mono ?_
      rintro e w3 ⟨ov, rfl, hb3, hways⟩
      have H3 := Lib.hid (H2.out.trans (hb3.mono (by omega)))
      obtain ⟨O, oc, rfl, hom, hcell⟩ := hways.at_
      have Hcell := Lib.hid hcell
      have hl3 := (box2 H3.out).2.2.1
      unfold maxLen at hom
      clear hb3 hways hcell q0 q1
      go_wp2
      go_loopw [30] (fun i wr => ∃ j : Nat, j ≤ (waysOf t a b).length ∧ i = .int .i64 j ∧ Hid (Below w3.heap.size w3 wr) ∧ Hid (∀ k, ∀ (hk : k < (waysOf t a b).length), k < j → goV t.cos v (waysOf t a b)[k] = goV t.cos v ((waysOf t a b).headD []))) (fun i _ => (waysOf t a b).length - (intOf i).toNat)
      case atStart => exact ⟨0, Nat.zero_le _, rfl, Below.refl _ _, fun k _ h => absurd h (by omega)⟩
      case round =>
        obtain ⟨j, hj, rfl, hbr, hpre⟩ := hrel
        have hbs := hbr.out.size
        by_cases hlt : j < (waysOf t a b).length
        · obtain ⟨g, A2, c2, rfl, hg0, hg1, cz, hat⟩ := Hcell.out j hlt
          obtain ⟨g', A0, c0, e0, _, _, cz0, hat0⟩ := Hcell.out 0 (by omega)
          simp only [Option.some.injEq, Addr.mk.injEq, and_true] at e0
          subst e0
          have H4 := Lib.hid (H3.out.trans (hbr.out.mono (by omega)))
          obtain ⟨zj, ezj, czr, Hat, hwj⟩ : ∃ z, Hid (z = (waysOf t a b)[j]) ∧ wr.cell? ⟨g, j, none⟩ = some (.slice A2 z.length c2) ∧ Hid (IntsAt wr w2.heap.size w3.heap.size (.slice A2 z.length c2) z) ∧ Hid ((wayEnd t.cos a z).isSome = true) :=
            ⟨(waysOf t a b)[j], Lib.hid rfl, (hbr.out.cell (p := ⟨g, j, none⟩) hg1).trans cz, hat.below hbr.out (Nat.le_refl _), by show _ = true; rw [waysOf_end (List.getElem_mem hlt)]; rfl⟩
          obtain ⟨z0, ez0, cz0r, Hat0, hw0⟩ : ∃ z, Hid (z = (waysOf t a b).headD []) ∧ wr.cell? ⟨g, 0, none⟩ = some (.slice A0 z.length c0) ∧ Hid (IntsAt wr w2.heap.size w3.heap.size (.slice A0 z.length c0) z) ∧ Hid ((wayEnd t.cos a z).isSome = true) :=
            ⟨(waysOf t a b)[0], Lib.hid (headD_get (by omega)).symm, (hbr.out.cell (p := ⟨g, 0, none⟩) hg1).trans cz0, hat0.below hbr.out (Nat.le_refl _), by show _ = true; rw [waysOf_end (List.getElem_mem (by omega))]; rfl⟩
          have k0 : ∀ x : InC (Below wr.heap.size wr), x.val.cell? ⟨w.heap.size, 0, none⟩ = some (.slice A t.sizes.length cap) := fun x => (box2 (H4.out.trans (x.inD.mono (box2 H4.out).2.2.1))).1
          have k1 : ∀ x : InC (Below wr.heap.size wr), x.val.cell? ⟨w.heap.size, 1, none⟩ = some (.slice B t.cos.length bap) := fun x => (box2 (H4.out.trans (x.inD.mono (box2 H4.out).2.2.1))).2.1
          have k2 : ∀ x : InC (Below wr.heap.size wr), x.val.cell? ⟨g, 0, none⟩ = some (.slice A0 z0.length c0) := fun x => (x.inD.cell (p := ⟨g, 0, none⟩) (by dsimp only; omega)).trans cz0r
          have hne : Nonempty (InC (Below wr.heap.size wr)) := ⟨⟨_, Below.refl _ _⟩⟩
          have hcj : ∀ x : InC (Below wr.heap.size wr), Calls Try.prog 83 #[.agg #[.slice A t.sizes.length cap, .slice B t.cos.length bap], .slice A2 zj.length c2, .int .i64 v] x.val fun e w' => e = .returned (.int .i64 (goV t.cos v zj)) ∧ ∃ y : InC (Below wr.heap.size wr), w' = y.val := fun x =>
            (l2Go_any lo hi _ _ _ _ _ t a v zj x.val (Hv.out.below ((box2 H4.out).2.2.2.trans (x.inD.mono (by omega))) hB) (by have := x.inD.size; omega) (Hat.out.below x.inD hbs) (by have := x.inD.size; omega) (typesB_of Htb.out).1 (valOf_hasV0.1 Hh.out) hwj.out).mono fun e w' ⟨he, hb⟩ => ⟨he, ⟨_, x.inD.trans (hb.mono x.inD.size)⟩, rfl⟩
          have hc0 : ∀ x : InC (Below wr.heap.size wr), Calls Try.prog 83 #[.agg #[.slice A t.sizes.length cap, .slice B t.cos.length bap], .slice A0 z0.length c0, .int .i64 v] x.val fun e w' => e = .returned (.int .i64 (goV t.cos v z0)) ∧ ∃ y : InC (Below wr.heap.size wr), w' = y.val := fun x =>
            (l2Go_any lo hi _ _ _ _ _ t a v z0 x.val (Hv.out.below ((box2 H4.out).2.2.2.trans (x.inD.mono (by omega))) hB) (by have := x.inD.size; omega) (Hat0.out.below x.inD hbs) (by have := x.inD.size; omega) (typesB_of Htb.out).1 (valOf_hasV0.1 Hh.out) hw0.out).mono fun e w' ⟨he, hb⟩ => ⟨he, ⟨_, x.inD.trans (hb.mono x.inD.size)⟩, rfl⟩
          have Hcj := Lib.hid hcj
          have Hc0 := Lib.hid hc0
          clear cz cz0 hat hat0 hcj hc0
          go_wp2_with fail
          refine wp_region_class (Below wr.heap.size wr) (by kernel_rfl) (by kernel_rfl) (Below.refl _ _).drew ?_
          repeat (go_big_quiet_step ((first
            | (go_at_call 83; rename_i x; with_reducible exact Hcj.out x)
            | (go_at_call 83; rename_i x; with_reducible exact Hc0.out x))))
          refine wpQuiet_nil ?_
          intro _ hw'
          obtain ⟨⟨w5, hb5⟩, rfl⟩ := hw'
          have Hb5 := Lib.hid (hbr.out.trans (hb5.mono hbs))
          clear hb5
          by_cases hne2 : goV t.cos v zj = goV t.cos v z0
          · have htest : (goV t.cos v zj != goV t.cos v z0) = false := by simpa using hne2
            have hpre2 : Hid (∀ k, ∀ (hk : k < (waysOf t a b).length), k < j + 1 → goV t.cos v (waysOf t a b)[k] = goV t.cos v ((waysOf t a b).headD [])) := fun k hk h => by
              by_cases e : k = j
              · subst e; rw [← ezj.out, ← ez0.out]; exact hne2
              · exact hpre.out k hk (by omega)
            clear hne2
            go_wp2
            go_roundw
            case rel => exact ⟨j + 1, by omega, by go_num, Hb5, hpre2⟩
            case measure => simp [intOf]; omega
          · have htest : (goV t.cos v zj != goV t.cos v z0) = true := by simpa using hne2
            have hno := Lib.hid (sameB_no hlt (v := v) (by rw [← ezj.out, ← ez0.out]; exact hne2))
            clear hne2
            go_wp2
            go_ret
            exact ⟨ret_bool (by rw [hfin.out, hno.out]), (box2 H3.out).2.2.2.trans (Hb5.out.mono (by omega))⟩
        · obtain rfl : j = (waysOf t a b).length := by omega
          have hyes : Hid (sameB t a b v = true) := by
            show _ = true
            unfold sameB
            rw [List.all_eq_true]
            intro z hz
            obtain ⟨k, hk, rfl⟩ := List.getElem_of_mem hz
            rw [hpre.out k hk hk]
            exact beq_self_eq_true _
          go_wp2
          go_ret
          exact ⟨ret_bool (by rw [hfin.out, hyes.out]), (box2 H3.out).2.2.2.trans (hbr.out.mono (by omega))⟩
    · have hfin : Hid (agreeV t a b v = false) := by show _ = _; unfold agreeV; rw [(by simpa using hh : hasV0 t.sizes a v = false)]; simp
      have hhf : hasV0 t.sizes a v = false := by simpa using hh
      rw [hhf]
      clear hh hhf
      go_wp2
      go_ret
      exact ⟨ret_bool hfin.out.symm, (box2 H2.out).2.2.2⟩
  · have hokf : typesB t a b = false := by simpa using htb
    have hfin : Hid (agreeV t a b v = false) := by show _ = _; unfold agreeV; rw [hokf, Bool.false_and]
    rw [hokf]
    clear htb hokf
    go_wp2
    go_ret
    exact ⟨ret_bool hfin.out.symm, (box2 H1.out).2.2.2⟩
end Go.Proofs.Ytokklaoldgdkaaa
