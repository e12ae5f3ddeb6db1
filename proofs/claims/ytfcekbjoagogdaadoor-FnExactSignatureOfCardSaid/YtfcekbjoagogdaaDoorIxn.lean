/-
  The contract of the program's indicesByName: a map from names to ascending indices.
-/
import Derived.Test.YtfcekbjoagogdaaDoorIxf
import Derived.Test.YtfcekbjoagogdaaDoorTo
import Derived.Maps.GroupsBeside
import Derived.Outline
import Derived.Handy
namespace Go.Proofs.YtfcekbjoagogdaaDoor
open Go.RowKit Go.Maps
open Go.ChangeShapes (lits)

theorem if_go {c : Bool} {A B : Prop} (h : c = true) (ha : A) : if c = true then A else B := by rw [if_pos h]; exact ha
theorem zeroInts (u : World) : (zeroValue 22).run Tryd.prog u = .ok (.slice none 0 0) u := by kernel_rfl
theorem groups_of_heap {w w' : World} {k e : TypeId} {base b n : Nat} {D : DataW Unit} (h : w.ownsGroups Tryd.prog k base e .i64 b n D) (hg : w.grownBy w' none) : w'.ownsGroups Tryd.prog k base e .i64 b n D :=
  h.kept hg (by simp) fun es clock _ x _ => by cases x.val.ownBlock <;> simp

set_option maxRecDepth 100000 in
set_option maxHeartbeats 4000000 in
theorem indicesByName_any (lo hi : Nat) (v : Value) (fs : List Fu) (w : World) (hv : FusAt w lo hi v fs) (hB : hi ≤ w.heap.size) (hlen : fs.length ≤ 1048576) :
    Calls Tryd.prog 110 #[v] w fun e w' => ∃ D : DataW Unit, e = .returned (.map (some w.heap.size)) ∧ Below w.heap.size w w' ∧ Grp fs fs.length D ∧ w'.ownsGroups Tryd.prog 9 (w.heap.size + 1) 3 .i64 w.heap.size fs.length D := by
  obtain ⟨F, cap, rfl, hl1, hm1, hv1⟩ := hv.form
  unfold maxLen at hm1
  have hmm := @run_makeMap Tryd.prog
  obtain ⟨i0, hi0, hz0, hz1, hz2⟩ := info_parts Tryd.infoInt
  have Hv := Lib.hid hv1
  clear hv hv1
  go_enter Tryd.func110, Tryd.ntmps110
  go_wp2
  go_loopw [9] (fun i wr => ∃ k : Nat, k ≤ fs.length ∧ i = .int .i64 k ∧ Hid (∃ D : DataW Unit, Grp fs k D ∧ wr.ownsGroups Tryd.prog 9 (w.heap.size + 1) 3 .i64 w.heap.size k D) ∧ Hid (Below w.heap.size w wr) ∧ w.heap.size + 1 ≤ wr.heap.size) (fun i _ => fs.length - (intOf i).toNat)
  case atStart => exact ⟨0, Nat.zero_le _, rfl, ⟨.map [], Grp.start fs, World.ownsGroups_made _ _ _ _ _⟩, (Below.refl _ _).alloc (Nat.le_refl _) _, by simp⟩
  case round =>
    obtain ⟨k, hk, rfl, hD, hb, hws⟩ := hrel
    by_cases hlt : k < fs.length
    · obtain ⟨b, off, A1, cap1, A2, cap2, rfl, hlo, hhi, c0, c1, c2, c3, _, _, _, _, hfu⟩ := (Hv.out.below hb.out hB).at_ hlt
      have hsn : Hid (fs[k].name.size ≤ maxLen) := hfu.2.2.1
      have hnm : Hid ((fs.getD k default).name = fs[k].name) := by show _ = _; rw [List.getD_eq_getElem?_getD, List.getElem?_eq_getElem hlt]; rfl
      clear hfu
      generalize fs[k].name = nm at *
      generalize fs[k].args.length = an at *
      generalize fs[k].table.length = tn at *
      generalize fs[k].res = rn at *
      go_wp2_with fail
      obtain ⟨D, hgrp, hown⟩ := hD.out
      obtain ⟨W, hW⟩ : ∃ W, W = (wr.alloc (.cells #[.string nm, .slice A1 an cap1, .int .i64 rn, .slice A2 tn cap2] 84)) := ⟨_, rfl⟩
      have hbox : Row W wr.heap.size 84 [.string nm, .slice A1 an cap1, .int .i64 rn, .slice A2 tn cap2] := by rw [hW]; exact Row.new wr _ _
      have hWs : wr.heap.size < W.heap.size := hbox.lt
      have hWb : Below w.heap.size w W := by rw [hW]; exact hb.out.alloc (by omega) _
      have hWo : W.drew.ownsGroups Tryd.prog 9 (w.heap.size + 1) 3 .i64 w.heap.size k D := by
        refine groups_of_heap hown ?_
        rw [hW]
        exact ⟨rfl, rfl, rfl, by show wr.heap.size ≤ (wr.alloc _).heap.size; simp, fun j hj _ => Below.heap_alloc wr _ j hj⟩
      rw [← hW]
      clear hW
      obtain ⟨v, zs, hlook, hat, hoi, hzl, hback⟩ := groups_look hWo lawStr Tryd.underlying136 zeroInts (by unfold maxLen; omega) (kN_key hsn.out)
      obtain ⟨hzs, hgrp2⟩ := hgrp.step hnm.out hsn.out hoi hat
      have hvB : v.ownBlock ≠ some w.heap.size := fun e => by have := (hoi.1.lt _ e).1; omega
      have hvP : v.ownBlock ≠ some wr.heap.size := fun e => by
        obtain ⟨_, ⟨rfl, _⟩ | ⟨g', cap', cur, rfl, _, hh, _⟩⟩ := hoi.1
        · simp [Value.ownBlock] at e
        · simp only [Value.ownBlock, Option.some.injEq] at e
          subst e
          have hb2 : W.drew.heap[wr.heap.size]? = _ := hbox
          rw [hb2] at hh
          simp only [Option.some.injEq, Obj.cells.injEq] at hh
          exact absurd hh.2.1 (by decide)
      have hvlt : ∀ g, v.ownBlock = some g → g < W.heap.size := fun g e => (hoi.1.lt g e).2
      have Hlook := Lib.hid hlook
      have Hoi := Lib.hid hoi
      have Hback := Lib.hid hback
      have Hgrp2 := Lib.hid hgrp2
      have Hbox := Lib.hid hbox
      have HWb := Lib.hid hWb
      have HvB := Lib.hid hvB
      have HvP := Lib.hid hvP
      have Hvlt := Lib.hid hvlt
      have HwfK : Hid ((Lit.int .i64 (k : Int)).wf = true) := WalkArith.wf_i64 (by omega)
      have Hi0 := Lib.hid hi0
      have Hz0 := Lib.hid hz0
      have Hz1 := Lib.hid hz1
      have Hz2 := Lib.hid hz2
      clear hlook hoi hback hgrp2 hbox hWb hvB hvP hvlt hWo hgrp hown hat hzs c0 c1 c2 c3 hD hb hi0 hz0 hz1 hz2
      refine wp_region_inv (by kernel_rfl) (fun f x u => ∃ x14 x15 x16 x17 x18 x19 x20 x21 x22 x23, x = ⟨#[.slice (some ⟨b, off, none⟩) fs.length cap, undef, .map none, .map (some w.heap.size), .int .i64 (k : Nat), .pointer (some ⟨wr.heap.size, 0, none⟩), .map (some w.heap.size), .slice (some ⟨b, off, none⟩) fs.length cap, .int .i64 (fs.length : Nat), .int .i64 (k : Nat), .bool true, .int .i64 (k : Nat), .pointer (some ⟨b, off + k * 4, none⟩), .agg #[.string nm, .slice A1 an cap1, .int .i64 rn, .slice A2 tn cap2], x14, x15, x16, x17, x18, x19, x20, x21, x22, x23, u24, undef], []⟩ ∧ IxF W.drew w.heap.size wr.heap.size k nm v zs (fun u => (∃ D : DataW Unit, Grp fs (k + 1) D ∧ u.ownsGroups Tryd.prog 9 (w.heap.size + 1) 3 .i64 w.heap.size (k + 1) D) ∧ Below w.heap.size w u) f x14 x15 x16 x17 x18 x19 x20 x21 x22 x23 u) (of_decide_eq_true (by kernel_rfl)) ⟨_, _, _, _, _, _, _, _, _, _, rfl, ⟨nofun, nofun, Nat.le_refl _, fun _ => ⟨rfl, rfl, rfl, Nat.le_refl _, fun _ _ _ => rfl⟩, nofun, nofun, nofun, nofun, nofun, nofun, nofun, nofun, nofun, nofun, nofun⟩⟩ ?_ ?_
      · rintro f x u q o ho hfi hdep ⟨x14, x15, x16, x17, x18, x19, x20, x21, x22, x23, rfl, hF⟩
        have hil : q < 11 := by have := (Array.getElem?_eq_some_iff.1 ho).1; simpa using this
        have h10 := hF.not10 hfi hil
        have hsz : W.heap.size ≤ u.heap.size := hF.size
        have cP : u.cell? ⟨wr.heap.size, 0, none⟩ = some (.string nm) := by
          have hb2 : u.heap[wr.heap.size]? = W.drew.heap[wr.heap.size]? := hF.block h10 hWs HvP.out
          exact (World.cell?_of_block (w := W.drew) hb2).trans (Hbox.out.cell 0)
        have hB : u.heap[w.heap.size]? = W.drew.heap[w.heap.size]? := hF.block h10 (by show _ < W.heap.size; omega) HvB.out
        have hlk := Hlook.out u hB
        clear hB
        obtain rfl | rfl | rfl | rfl | rfl | rfl | rfl | rfl | rfl | rfl | rfl : q = 0 ∨ q = 1 ∨ q = 2 ∨ q = 3 ∨ q = 4 ∨ q = 5 ∨ q = 6 ∨ q = 7 ∨ q = 8 ∨ q = 9 ∨ q = 10 := by omega
        all_goals
          obtain rfl := Option.some.inj ho
          refine wpOp_step ho fun K hK => ?_
          simp [Region.binds] at hdep
          clear ho
        · refine if_go rfl ?_
          have HF := Lib.hid hF
          clear hF
          unfold Oper.wp
          go_simp
          exact hK _ _ ⟨_, _, _, _, _, _, _, _, _, _, rfl, HF.out.s0 hfi⟩
        · refine if_go rfl ?_
          have HF := Lib.hid hF
          clear hF
          unfold Oper.wp
          go_simp
          exact hK _ _ ⟨_, _, _, _, _, _, _, _, _, _, rfl, HF.out.s1 hfi⟩
        · have d1 : f 1 = true := by simp [hdep]
          obtain rfl := hF.a1 d1
          refine if_go rfl ?_
          have HF := Lib.hid hF
          clear hF
          unfold Oper.wp
          go_simp
          exact hK _ _ ⟨_, _, _, _, _, _, _, _, _, _, rfl, HF.out.s2 hfi⟩
        · refine if_go rfl ?_
          have HF := Lib.hid hF
          clear hF
          unfold Oper.wp
          go_simp
          exact hK _ _ ⟨_, _, _, _, _, _, _, _, _, _, rfl, HF.out.s3 hfi⟩
        · refine if_go rfl ?_
          have HF := Lib.hid hF
          clear hF
          unfold Oper.wp
          go_simp
          exact hK _ _ ⟨_, _, _, _, _, _, _, _, _, _, rfl, HF.out.s4 hfi⟩
        · have d4 : f 4 = true := by simp [hdep]
          obtain rfl := hF.a4 d4
          refine if_go rfl ?_
          have HF := Lib.hid hF
          clear hF
          unfold Oper.wp
          go_simp
          exact hK _ _ ⟨_, _, _, _, _, _, _, _, _, _, rfl, HF.out.s5 hfi⟩
        · have d3 : f 3 = true := by simp [hdep]
          obtain rfl := hF.a3 d3
          have d5 : f 5 = true := by simp [hdep]
          obtain rfl := hF.a5 d5
          refine if_go rfl ?_
          have HF := Lib.hid hF
          clear hF
          unfold Oper.wp
          go_simp
          exact hK _ _ ⟨_, _, _, _, _, _, _, _, _, _, rfl, HF.out.s6 hfi⟩
        · refine if_go rfl ?_
          have HF := Lib.hid hF
          clear hF
          unfold Oper.wp
          go_simp
          exact hK _ _ ⟨_, _, _, _, _, _, _, _, _, _, rfl, HF.out.s7 hfi⟩
        · have d7 : f 7 = true := by simp [hdep]
          obtain rfl := hF.a7 d7
          refine if_go rfl ?_
          have HF := Lib.hid hF
          clear hF
          unfold Oper.wp
          go_simp
          exact hK _ _ ⟨_, _, _, _, _, _, _, _, _, _, rfl, HF.out.s8 hfi⟩
        · have d6 : f 6 = true := by simp [hdep]
          have d8 : f 8 = true := by simp [hdep]
          obtain rfl := hF.a6 d6
          obtain ⟨p, hp, rfl, hrow⟩ := hF.a8 d8 hfi
          have hpre := hF.pre hfi
          have hou : u.ownsInts (w.heap.size + 1) 3 .i64 x20 zs := Hoi.out.kept hpre (by cases x20.ownBlock <;> simp)
          refine step_append_lies u rfl (.tmp 20) (.tmp 22) 22 rfl (w.heap.size + 1) 3 i0 (.int .i64 0) 1 8 Tryd.underlying22 Hi0.out Hz0.out Hz1.out Hz2.out rfl (by decide) x20 zs.length _ rfl hou.1 ⟨p, 0, none⟩ 1 1 [.int .i64 (k : Int)] rfl rfl (World.news_of_block hrow) (by simp [Value.oneCell']) (by omega) (by unfold maxLen; omega) (by omega) (by omega) u.heap.size rfl ?_
          intro g cap' u' ho' hg' hloc' hlt'
          exact hK _ _ ⟨_, _, _, _, _, _, _, _, _, _, rfl, hF.s9 hfi d6 d8 hg' (hou.appended ho' HwfK.out) (hloc'.imp (fun e => e.symm) (fun e => by rw [e]; rfl))⟩
        · have hall : ∀ j, j < 10 → f j = true := fun j hj => by
            obtain rfl | rfl | rfl | rfl | rfl | rfl | rfl | rfl | rfl | rfl : j = 0 ∨ j = 1 ∨ j = 2 ∨ j = 3 ∨ j = 4 ∨ j = 5 ∨ j = 6 ∨ j = 7 ∨ j = 8 ∨ j = 9 := by omega
            all_goals simp [hdep]
          obtain rfl := hF.a0 (hall 0 (by omega))
          obtain rfl := hF.a2 (hall 2 (by omega))
          obtain ⟨hgr, hox, hlc⟩ := hF.post (hall 9 (by omega)) hfi
          obtain ⟨u2, hrun, hown2, hgr2⟩ := Hback.out u x23 (zs ++ [(k : Int)]) hgr hox (by simp; omega) hlc
          have hD2 := hox.datum_pos (H := Unit) (by simp)
          rw [hD2] at hown2
          have hfin : Hid ((∃ D : DataW Unit, Grp fs (k + 1) D ∧ u2.ownsGroups Tryd.prog 9 (w.heap.size + 1) 3 .i64 w.heap.size (k + 1) D) ∧ Below w.heap.size w u2) := by
            refine ⟨⟨_, Hgrp2.out, hown2⟩, ⟨hgr2.os.trans (hgr.os.trans HWb.out.os), hgr2.tape.trans (hgr.tape.trans HWb.out.tape), hgr2.output.trans (hgr.output.trans HWb.out.output), Nat.le_trans HWb.out.size (Nat.le_trans hgr.size hgr2.size), fun j hj => ?_⟩⟩
            have hjW : j < W.heap.size := Nat.lt_of_lt_of_le hj HWb.out.size
            exact (hgr2.block j (by omega) (by simp; omega)).trans ((hgr.block j hjW (fun e => by have := (Hoi.out.1.lt j e.symm).1; omega)).trans (HWb.out.block j hj))
          have hs2 := hgr2.size
          refine if_go rfl ?_
          have HF := Lib.hid hF
          clear hF hown2 hgr2 hgr hox hlc hD2 hlk
          unfold Oper.wp
          go_simp
          exact hK _ _ ⟨_, _, _, _, _, _, _, _, _, _, rfl, HF.out.s10 hall hs2 hfin.out⟩
      · rintro f x u hall ⟨x14, x15, x16, x17, x18, x19, x20, x21, x22, x23, rfl, hF⟩
        have hfin := Lib.hid (hF.fin (hall 10 (by simp)))
        have hus : w.heap.size + 1 ≤ u.heap.size := Nat.le_trans (by show _ ≤ W.heap.size; omega) hF.size
        clear hF hall
        go_wp2
        go_roundw
        case rel => exact ⟨k + 1, by omega, by go_num, hfin.out.1, hfin.out.2, hus⟩
        case measure => simp [intOf]; omega
    · obtain rfl : k = fs.length := by omega
      go_wp2
      go_ret
      obtain ⟨D, h1, h2⟩ := hD.out
      exact ⟨D, rfl, hb.out, h1, h2⟩
end Go.Proofs.YtfcekbjoagogdaaDoor
