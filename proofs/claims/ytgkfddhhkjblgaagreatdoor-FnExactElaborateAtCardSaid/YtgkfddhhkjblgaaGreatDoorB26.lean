/-
  The contract of leads.
  The contract of the program's IsBelow.
  The contract of NamedOf, the program's.
-/
import Derived.Test.YtgkfddhhkjblgaaGreatDoorB11
import Derived.Test.YtgkfddhhkjblgaaGreatDoorB25
import Derived.Test.YtgkfddhhkjblgaaGreatDoorB7
import Derived.Test.YtgkfddhhkjblgaaGreatDoorB9
namespace Go.Proofs.YtgkfddhhkjblgaaGreatDoor
open Go.RowKit
attribute [local go_sem] Oper.semAt_some

set_option maxRecDepth 100000 in
set_option maxHeartbeats 2000000 in
theorem leads_any (lo hi g : Nat) (sv cv : Value) (t : Ty) (a b : Int) (w : World) (hv : TyAt w lo hi sv cv t) (hB : hi ≤ w.heap.size) (hrow : Row w g 140 [sv, cv]) (htb : typesB t a b = true) :
    Calls Tryz.prog 99 #[.pointer (some ⟨g, 0, none⟩), .int .i64 a, .int .i64 b] w fun e w' => e = .returned (.bool (canB t a b)) ∧ Below w.heap.size w w' := by
  refine (callsIn_wide (n := 5)).1 ?_
  refine callsIn_of_wp_marks Tryz.func99 rfl trivial ?_ rfl
  simp only [Tryz.ntmps99, List.size_toArray, List.length_cons, List.length_nil, Nat.reduceAdd, Nat.reduceSub, Array.replicate_succ, Array.replicate_zero, List.push_toArray, List.append_toArray, List.nil_append, List.cons_append]
  gi_wp2_with (refine ⟨trivial, ?_⟩; gi_at_call 123; refine (callsIn_wide.2 (ways_any g a b _)).mono ?_; rintro e w' ⟨rfl, rfl⟩)
  obtain ⟨W0, hW0⟩ : ∃ u, u = (((w.alloc (.cells #[.bool false] 4)).alloc (.cells #[.pointer (some ⟨g, 0, none⟩)] 88)).alloc (.cells #[.int .i64 a] 3)).alloc (.cells #[.int .i64 b] 3) := ⟨_, rfl⟩
  rw [← hW0]
  have hs0 : W0.heap.size = w.heap.size + 4 := by rw [hW0]; simp
  have hb0 : Below w.heap.size w W0 := by rw [hW0]; go_grown
  have rf : Row W0 w.heap.size 4 [.bool false] := by rw [hW0]; exact (((Row.new w 4 [.bool false]).alloc _).alloc _).alloc _
  have r3 : Row W0 (w.heap.size + 1) 88 [.pointer (some ⟨g, 0, none⟩)] := by
    rw [hW0]
    have := Row.new (w.alloc (.cells #[.bool false] 4)) 88 [.pointer (some ⟨g, 0, none⟩)]
    rw [World.size_alloc] at this
    exact (this.alloc _).alloc _
  have r4 : Row W0 (w.heap.size + 1 + 1) 3 [.int .i64 a] := by
    rw [hW0]
    have := Row.new ((w.alloc (.cells #[.bool false] 4)).alloc (.cells #[.pointer (some ⟨g, 0, none⟩)] 88)) 3 [.int .i64 a]
    rw [World.size_alloc, World.size_alloc] at this
    exact this.alloc _
  have r5 : Row W0 (w.heap.size + 1 + 2) 3 [.int .i64 b] := by
    rw [hW0]
    have := Row.new (((w.alloc (.cells #[.bool false] 4)).alloc (.cells #[.pointer (some ⟨g, 0, none⟩)] 88)).alloc (.cells #[.int .i64 a] 3)) 3 [.int .i64 b]
    rw [World.size_alloc, World.size_alloc, World.size_alloc] at this
    exact this
  clear hW0
  refine range_law (fun v => { tmps := #[.pointer (some ⟨g, 0, none⟩), .int .i64 a, .int .i64 b, undef, undef, undef, .bool false, .pointer (some ⟨w.heap.size, 0, none⟩), .pointer (some ⟨g, 0, none⟩), .int .i64 a, .int .i64 b, .func (.func 140) #[] #[.pointer (some ⟨w.heap.size + 1, 0, none⟩), .pointer (some ⟨w.heap.size + 1 + 1, 0, none⟩), .pointer (some ⟨w.heap.size + 1 + 2, 0, none⟩)], v, undef], defers := [] }) (fun _ _ _ _ _ hK => wpIn_skip hK) (gf := 140) (lb := #[.pointer (some ⟨w.heap.size + 1, 0, none⟩), .pointer (some ⟨w.heap.size + 1 + 1, 0, none⟩), .pointer (some ⟨w.heap.size + 1 + 2, 0, none⟩)]) rfl (enters_of Tryz.func140 (by kernel_rfl) rfl)
    (fun k => k < w.heap.size) (fun k hk => by omega) (waysOf t a b)
    (fun s O A => s = [] ∧ Row A w.heap.size 4 [.bool false] ∧ ¬ O w.heap.size ∧ (∀ k, O k → w.heap.size ≤ k) ∧ Below w.heap.size w A)
    (fun c _ A => c = .exit 0 ∧ Row A w.heap.size 4 [.bool true] ∧ Below w.heap.size w A) ?istep ?igive ?iput ?ixput ?iter ?start ?body ?done ?stop
  case istep =>
    rintro s O A C row ⟨hs, hr, hn, hO, hb⟩ hgr hrw
    refine ⟨hs, hr.keep (hgr.block _ hr.lt (fun e => hn (hrw _ e.symm))), fun h => h.elim hn (fun h => by have := hr.lt; omega), fun k h => h.elim (hO k) (fun h => by have := hb.size; omega), hb.grown hgr hb.size (fun k e => hO k (hrw k e))⟩
  case igive =>
    rintro s O O' A ⟨hs, hr, hn, hO, hb⟩ hsub
    exact ⟨hs, hr, fun h => hn (hsub _ h), fun k h => hO k (hsub k h), hb⟩
  case iput =>
    rintro s O A k o' ⟨hs, hr, hn, hO, hb⟩ h1 h2
    exact ⟨hs, hr.keep (puts_keep (by omega)), hn, hO, hb.grown (grownBy_putObj' A k o') hb.size (fun q e => by simp only [Option.some.injEq] at e; omega)⟩
  case ixput =>
    rintro c s A k o' ⟨hc, hr, hb⟩ h1 h2
    exact ⟨hc, hr.keep (puts_keep (by omega)), hb.grown (grownBy_putObj' A k o') hb.size (fun q e => by simp only [Option.some.injEq] at e; omega)⟩
  case iter =>
    intro l J Jx W1 hC hb1 hJ
    have hbb := hb0.trans (hb1.mono (by omega))
    exact waysIter_any l g (w.heap.size + 1) (w.heap.size + 1 + 1) (w.heap.size + 1 + 2) _ J Jx t a b hC lo hi sv cv W1 htb hrow.lt (fun k _ hk => by omega) (fun k hk => by have := hbb.size; omega) (hrow.below hbb hrow.lt) (hv.below hbb hB)
      ((r3.below hb1 (by omega)).cell 0) ((r4.below hb1 (by omega)).cell 0) ((r5.below hb1 (by omega)).cell 0) hJ
  case start =>
    intro W1 hb1
    exact ⟨rfl, rf.below hb1 (by omega), fun h => h, fun k h => h.elim, hb0.trans (hb1.mono (by omega))⟩
  case body =>
    rintro l s v zs O A0 A m _ ⟨hs, hr0, hn, hO, hb00⟩ _ hbel _ _ _ hlt
    have hr := hr0.below hbel hr0.lt
    have hb := hb00.trans (hbel.mono hb00.size)
    have p0 : A.cell? ⟨w.heap.size, 0, none⟩ = some (.bool false) := hr.cell 0
    have pf : A.frozen? ⟨w.heap.size, 0, none⟩ = false := hr.frozen 0
    have hset := hr.set_ 0 (.bool true)
    have Hset := Lib.hid hset
    have Hb := Lib.hid hb
    clear hset hr hb
    gi_wp2
    refine ⟨⟨by simp [World.setCell], fun k hk hS => ?_⟩, rfl, Hset.out, Hb.out.setCell (Nat.le_refl _) _⟩
    exact heap_set_ne _ _ _ _ _ (by omega)
  case done =>
    rintro O' W' ⟨hs, hr, hn, hO, hb⟩ hK
    have hfin : canB t a b = false := by unfold canB; rw [hs]; rfl
    have p0 : W'.cell? ⟨w.heap.size, 0, none⟩ = some (.bool false) := hr.cell 0
    have Hb := Lib.hid hb
    have HK := Lib.hid hK
    clear hr hb hK
    gi_wp2
    refine ⟨by simp, .inl ⟨_, _, rfl, run_takeDeferred HK.out, ?_⟩⟩
    exact ⟨_, results_tmp rfl _ _ _, by rw [hfin]; rfl, Hb.out.grown (grownBy_putObj' W' _ _) Hb.out.size (fun q e => by simp only [Option.some.injEq] at e; omega)⟩
  case stop =>
    rintro c s' W' hpos ⟨rfl, hr, hb⟩ hK
    have hfin : canB t a b = true := by unfold canB; rw [decide_eq_true_eq]; exact hpos
    have p0 : W'.cell? ⟨w.heap.size, 0, none⟩ = some (.bool true) := hr.cell 0
    have Hb := Lib.hid hb
    have HK := Lib.hid hK
    clear hr hb hK
    gi_wp2
    refine ⟨by simp, .inl ⟨_, _, rfl, run_takeDeferred HK.out, ?_⟩⟩
    exact ⟨_, results_tmp rfl _ _ _, by rw [hfin]; rfl, Hb.out.grown (grownBy_putObj' W' _ _) Hb.out.size (fun q e => by simp only [Option.some.injEq] at e; omega)⟩
end Go.Proofs.YtgkfddhhkjblgaaGreatDoor

namespace Go.Proofs.YtgkfddhhkjblgaaGreatDoor
open Go.RowKit
attribute [local go_sem] Oper.semAt_some

set_option maxRecDepth 100000 in
set_option maxHeartbeats 4000000 in
theorem sysIsBelow_any (lo hi : Nat) (sv cv fv : Value) (y : Sy) (i k : Int) (w : World) (hv : SyAt w lo hi sv cv fv y) (hB : hi ≤ w.heap.size) (c1 : hasFB y i = true) (c2 : hasFB y k = true) :
    Calls Tryz.prog 200 #[.agg #[sv, cv, fv], .int .i64 i, .int .i64 k] w fun e w' => e = .returned (.bool (belowB y i k)) ∧ Below w.heap.size w w' := by
  obtain ⟨A, cap, rfl, hl1, hm1, hi1⟩ := hv.1.1.form
  obtain ⟨B, bap, rfl, hl2, hm2, hc1⟩ := hv.1.2.form
  obtain ⟨F, fap, rfl, hl3, hm3, hf1⟩ := hv.2.form
  unfold maxLen at hm3
  have h3 : Below w.heap.size w (w.alloc (.cells #[.slice A y.ty.sizes.length cap, .slice B y.ty.cos.length bap, .slice F y.fs.length fap] 37)) := by go_grown
  have Hty := Lib.hid hv.1
  have Hf := Lib.hid hf1
  have C1 := Lib.hid c1
  have C2 := Lib.hid c2
  clear hi1 hc1 hf1 hv c1 c2
  obtain ⟨hsy, hi0, hi1, hilt⟩ := hasFB_of C1.out
  obtain ⟨_, hk0, hk1, hklt⟩ := hasFB_of C2.out
  have Hsy := Lib.hid hsy
  clear hsy
  go_enter Tryz.func200, Tryz.ntmps200
  go_wp2_with fail
  obtain ⟨w2, hw2⟩ : ∃ w2, w2 = w.alloc (.cells #[.slice A y.ty.sizes.length cap, .slice B y.ty.cos.length bap, .slice F y.fs.length fap] 37) := ⟨_, rfl⟩
  have hrow : Row w2 w.heap.size 37 [.slice A y.ty.sizes.length cap, .slice B y.ty.cos.length bap, .slice F y.fs.length fap] := by rw [hw2]; exact Row.new _ _ _
  have HB2 : Hid (Below w.heap.size w w2) := by rw [hw2]; exact h3
  have hl2 := hrow.lt
  have p0 := hrow.cell 0
  have p1 := hrow.cell 1
  have p2 := hrow.cell 2
  simp only [List.getElem?_cons_zero, List.getElem?_cons_succ] at p0 p1 p2
  rw [← hw2]
  have Hp01 := Lib.hid (And.intro p0 p1)
  clear hw2 h3 hrow
  obtain ⟨b, off, A1, cap1, A2, cap2, rfl, _, hbh, d0, d1, d2, d3, _, _, _, _, hfi⟩ := (Hf.out.below HB2.out hB).at_ hilt
  obtain ⟨b', off', A3, cap3, A4, cap4, eF, _, _, e0, e1, e2, e3, _, _, _, _, hfk⟩ := (Hf.out.below HB2.out hB).at_ hklt
  obtain ⟨rfl, rfl⟩ : b = b' ∧ off = off' := by simpa using eF
  have Hfi := Lib.hid hfi
  have Hfk := Lib.hid hfk
  have hbW : b < w2.heap.size := by omega
  have Hcf : Hid (∀ u : World, Below w2.heap.size w2.drew u → u.cell? ⟨w.heap.size, 2, none⟩ = some (.slice (some ⟨b, off, none⟩) y.fs.length fap) ∧ u.cell? ⟨b, off + i.toNat * 4, none⟩ = some (.string y.fs[i.toNat].name) ∧ u.cell? ⟨b, off + i.toNat * 4 + 1, none⟩ = some (.slice A1 y.fs[i.toNat].args.length cap1) ∧ u.cell? ⟨b, off + i.toNat * 4 + 2, none⟩ = some (.int .i64 y.fs[i.toNat].res) ∧ u.cell? ⟨b, off + i.toNat * 4 + 3, none⟩ = some (.slice A2 y.fs[i.toNat].table.length cap2) ∧ u.cell? ⟨b, off + k.toNat * 4, none⟩ = some (.string y.fs[k.toNat].name) ∧ u.cell? ⟨b, off + k.toNat * 4 + 1, none⟩ = some (.slice A3 y.fs[k.toNat].args.length cap3) ∧ u.cell? ⟨b, off + k.toNat * 4 + 2, none⟩ = some (.int .i64 y.fs[k.toNat].res) ∧ u.cell? ⟨b, off + k.toNat * 4 + 3, none⟩ = some (.slice A4 y.fs[k.toNat].table.length cap4)) := fun u hu =>
    ⟨(hu.cell (p := ⟨w.heap.size, 2, none⟩) (by dsimp only; omega)).trans p2, (hu.cell (p := ⟨b, off + i.toNat * 4, none⟩) hbW).trans d0, (hu.cell (p := ⟨b, off + i.toNat * 4 + 1, none⟩) hbW).trans d1, (hu.cell (p := ⟨b, off + i.toNat * 4 + 2, none⟩) hbW).trans d2, (hu.cell (p := ⟨b, off + i.toNat * 4 + 3, none⟩) hbW).trans d3, (hu.cell (p := ⟨b, off + k.toNat * 4, none⟩) hbW).trans e0, (hu.cell (p := ⟨b, off + k.toNat * 4 + 1, none⟩) hbW).trans e1, (hu.cell (p := ⟨b, off + k.toNat * 4 + 2, none⟩) hbW).trans e2, (hu.cell (p := ⟨b, off + k.toNat * 4 + 3, none⟩) hbW).trans e3⟩
  clear d0 d1 d2 d3 e0 e1 e2 e3 hfi hfk eF p0 p1 p2
  refine wp_region_inv (by kernel_rfl) (fun f a u => ∃ x0 x1 x2 x3 x4 x5 x6 x7 x8 x9 y_ z_, a = ⟨#[.agg #[.slice A y.ty.sizes.length cap, .slice B y.ty.cos.length bap, .slice (some ⟨b, off, none⟩) y.fs.length fap], .int .i64 i, .int .i64 k, .pointer (some ⟨w.heap.size, 0, none⟩), undef, undef, .bool false, y_, z_, undef, undef, undef, x0, x1, x2, x3, x4, x5, x6, x7, x8, x9, undef, undef, undef, undef, undef, undef, undef, undef, undef, undef, undef, undef, undef, undef, undef, undef, undef, undef, undef, undef, undef, undef, undef, undef, undef, undef, undef, undef, undef, undef, undef, undef, undef, undef, undef, undef], []⟩ ∧ TwoF w2.drew w.heap.size (.slice (some ⟨b, off, none⟩) y.fs.length fap) (.int .i64 i) (.int .i64 k) (.pointer (some ⟨b, off + i.toNat * 4, none⟩)) (.pointer (some ⟨b, off + k.toNat * 4, none⟩)) (.agg #[.string y.fs[i.toNat].name, .slice A1 y.fs[i.toNat].args.length cap1, .int .i64 y.fs[i.toNat].res, .slice A2 y.fs[i.toNat].table.length cap2]) (.agg #[.string y.fs[k.toNat].name, .slice A3 y.fs[k.toNat].args.length cap3, .int .i64 y.fs[k.toNat].res, .slice A4 y.fs[k.toNat].table.length cap4]) [.string y.fs[i.toNat].name, .slice A1 y.fs[i.toNat].args.length cap1, .int .i64 y.fs[i.toNat].res, .slice A2 y.fs[i.toNat].table.length cap2] [.string y.fs[k.toNat].name, .slice A3 y.fs[k.toNat].args.length cap3, .int .i64 y.fs[k.toNat].res, .slice A4 y.fs[k.toNat].table.length cap4] f x0 x1 x2 x3 x4 x5 x6 x7 x8 x9 y_ z_ u) (of_decide_eq_true (by kernel_rfl)) ⟨_, _, _, _, _, _, _, _, _, _, _, _, rfl, ⟨Below.refl _ _, nofun, nofun, nofun, nofun, nofun, nofun, nofun, nofun, nofun, nofun, nofun, nofun, nofun, nofun, nofun, nofun, nofun⟩⟩ ?_ ?_
  · rintro f a u q o ho hfi hdep ⟨x0, x1, x2, x3, x4, x5, x6, x7, x8, x9, y_, z_, rfl, hF⟩
    have hil : q < 14 := by have := (Array.getElem?_eq_some_iff.1 ho).1; simpa using this
    obtain ⟨r0, r1, r2, r3, r4, t1, t2, t3, t4⟩ := Hcf.out u hF.bel
    obtain rfl | rfl | rfl | rfl | rfl | rfl | rfl | rfl | rfl | rfl | rfl | rfl | rfl | rfl : q = 0 ∨ q = 1 ∨ q = 2 ∨ q = 3 ∨ q = 4 ∨ q = 5 ∨ q = 6 ∨ q = 7 ∨ q = 8 ∨ q = 9 ∨ q = 10 ∨ q = 11 ∨ q = 12 ∨ q = 13 := by omega
    all_goals
      obtain rfl := Option.some.inj ho
      refine wpOp_step ho fun K hK => ?_
      simp [Region.binds] at hdep
      clear ho
    · refine if_yes rfl ?_
      have HF := Lib.hid hF
      clear hF
      unfold Oper.wp
      go_simp
      exact hK _ _ ⟨_, _, _, _, _, _, _, _, _, _, _, _, rfl, HF.out.s0⟩
    · have d0 : f 0 = true := by simp [hdep]
      obtain rfl := hF.a0 d0
      refine if_yes rfl ?_
      have HF := Lib.hid hF
      clear hF
      unfold Oper.wp
      go_simp
      exact hK _ _ ⟨_, _, _, _, _, _, _, _, _, _, _, _, rfl, HF.out.s1⟩
    · refine if_yes rfl ?_
      have HF := Lib.hid hF
      clear hF
      unfold Oper.wp
      go_simp
      exact hK _ _ ⟨_, _, _, _, _, _, _, _, _, _, _, _, rfl, HF.out.s2⟩
    · have d1 : f 1 = true := by simp [hdep]
      obtain rfl := hF.a1 d1
      have d2 : f 2 = true := by simp [hdep]
      obtain rfl := hF.a2 d2
      refine if_yes rfl ?_
      have HF := Lib.hid hF
      clear hF
      unfold Oper.wp
      go_simp
      exact hK _ _ ⟨_, _, _, _, _, _, _, _, _, _, _, _, rfl, HF.out.s3⟩
    · have d3 : f 3 = true := by simp [hdep]
      obtain rfl := hF.a3 d3
      refine if_yes rfl ?_
      have HF := Lib.hid hF
      clear hF
      unfold Oper.wp
      go_simp
      exact hK _ _ ⟨_, _, _, _, _, _, _, _, _, _, _, _, rfl, HF.out.s4⟩
    · refine if_yes rfl ?_
      have HF := Lib.hid hF
      clear hF
      unfold Oper.wp
      go_simp
      exact hK _ _ ⟨_, _, _, _, _, _, _, _, _, _, _, _, rfl, HF.out.s5⟩
    · have d5 : f 5 = true := by simp [hdep]
      obtain rfl := hF.a5 d5
      refine if_yes rfl ?_
      have HF := Lib.hid hF
      clear hF
      unfold Oper.wp
      go_simp
      exact hK _ _ ⟨_, _, _, _, _, _, _, _, _, _, _, _, rfl, HF.out.s6⟩
    · refine if_yes rfl ?_
      have HF := Lib.hid hF
      clear hF
      unfold Oper.wp
      go_simp
      exact hK _ _ ⟨_, _, _, _, _, _, _, _, _, _, _, _, rfl, HF.out.s7⟩
    · have d6 : f 6 = true := by simp [hdep]
      obtain rfl := hF.a6 d6
      have d7 : f 7 = true := by simp [hdep]
      obtain rfl := hF.a7 d7
      refine if_yes rfl ?_
      have HF := Lib.hid hF
      clear hF
      unfold Oper.wp
      go_simp
      exact hK _ _ ⟨_, _, _, _, _, _, _, _, _, _, _, _, rfl, HF.out.s8⟩
    · have d8 : f 8 = true := by simp [hdep]
      obtain rfl := hF.a8 d8
      refine if_yes rfl ?_
      have HF := Lib.hid hF
      clear hF
      unfold Oper.wp
      go_simp
      exact hK _ _ ⟨_, _, _, _, _, _, _, _, _, _, _, _, rfl, HF.out.s9⟩
    · refine if_yes rfl ?_
      have HF := Lib.hid hF
      clear hF
      unfold Oper.wp
      go_simp
      exact hK _ _ ⟨_, _, _, _, _, _, _, _, _, _, _, _, rfl, HF.out.s10 hfi⟩
    · refine if_yes rfl ?_
      have HF := Lib.hid hF
      clear hF
      unfold Oper.wp
      go_simp
      exact hK _ _ ⟨_, _, _, _, _, _, _, _, _, _, _, _, rfl, HF.out.s11 hfi⟩
    · have d10 : f 10 = true := by simp [hdep]
      have d4 : f 4 = true := by simp [hdep]
      obtain rfl := hF.a4 d4
      obtain ⟨p, hp, rfl, hrow⟩ := hF.b0 d10 hfi
      have m0 := hrow.cell 0
      have m1 := hrow.cell 1
      have m2 := hrow.cell 2
      have m3 := hrow.cell 3
      have n0 := hrow.frozen 0
      have n1 := hrow.frozen 1
      have n2 := hrow.frozen 2
      have n3 := hrow.frozen 3
      unfold zeroFu at m0 m1 m2 m3
      simp only [List.getElem?_cons_zero, List.getElem?_cons_succ] at m0 m1 m2 m3
      refine if_yes rfl ?_
      have HF := Lib.hid hF
      have Hrow := Lib.hid hrow
      clear hF hrow r0 r1 r2 r3 r4 t1 t2 t3 t4
      unfold Oper.wp
      go_simp
      exact hK _ _ ⟨_, _, _, _, _, _, _, _, _, _, _, _, rfl, HF.out.s12 d10 hp Hrow.out⟩
    · have d11 : f 11 = true := by simp [hdep]
      have d9 : f 9 = true := by simp [hdep]
      obtain rfl := hF.a9 d9
      obtain ⟨p, hp, rfl, hrow⟩ := hF.b1 d11 hfi
      have m0 := hrow.cell 0
      have m1 := hrow.cell 1
      have m2 := hrow.cell 2
      have m3 := hrow.cell 3
      have n0 := hrow.frozen 0
      have n1 := hrow.frozen 1
      have n2 := hrow.frozen 2
      have n3 := hrow.frozen 3
      unfold zeroFu at m0 m1 m2 m3
      simp only [List.getElem?_cons_zero, List.getElem?_cons_succ] at m0 m1 m2 m3
      refine if_yes rfl ?_
      have HF := Lib.hid hF
      have Hrow := Lib.hid hrow
      clear hF hrow r0 r1 r2 r3 r4 t1 t2 t3 t4
      unfold Oper.wp
      go_simp
      exact hK _ _ ⟨_, _, _, _, _, _, _, _, _, _, _, _, rfl, HF.out.s13 d11 hp Hrow.out⟩
  · rintro f a u hall ⟨x0, x1, x2, x3, x4, x5, x6, x7, x8, x9, y_, z_, rfl, hF⟩
    have g : ∀ j, j < 14 → f j = true := fun j hj => hall j (by simpa using hj)
    obtain rfl := hF.a0 (g 0 (by omega))
    obtain rfl := hF.a1 (g 1 (by omega))
    obtain rfl := hF.a2 (g 2 (by omega))
    obtain rfl := hF.a3 (g 3 (by omega))
    obtain rfl := hF.a4 (g 4 (by omega))
    obtain rfl := hF.a5 (g 5 (by omega))
    obtain rfl := hF.a6 (g 6 (by omega))
    obtain rfl := hF.a7 (g 7 (by omega))
    obtain rfl := hF.a8 (g 8 (by omega))
    obtain rfl := hF.a9 (g 9 (by omega))
    obtain ⟨p, hp, rfl, hrp⟩ := hF.b2 (g 12 (by omega))
    obtain ⟨q, hq, rfl, hrq⟩ := hF.b3 (g 13 (by omega))
    have hbu : Below w2.heap.size w2 u := ⟨hF.bel.os, hF.bel.tape, hF.bel.output, hF.bel.size, hF.bel.block⟩
    clear hF hall g
    have hbW2 : Below w.heap.size w u := HB2.out.trans (hbu.mono HB2.out.size)
    have r0 := (hbu.cell (p := ⟨w.heap.size, 0, none⟩) hl2).trans Hp01.out.1
    have r1 := (hbu.cell (p := ⟨w.heap.size, 1, none⟩) hl2).trans Hp01.out.2
    have s0 := hrp.cell 0
    have s1 := hrp.cell 1
    have t0 := hrq.cell 0
    have t1 := hrq.cell 1
    simp only [List.getElem?_cons_zero, List.getElem?_cons_succ] at s0 s1 t0 t1
    have hsu := hbu.size
    have Hai := Lib.hid (Hfi.out.2.2.2.2.1.below hbu (Nat.le_trans hB HB2.out.size))
    have Hak := Lib.hid (Hfk.out.2.2.2.2.1.below hbu (Nat.le_trans hB HB2.out.size))
    have HT := Lib.hid (Hty.out.below hbW2 hB)
    have HbW := Lib.hid hbW2
    have hBu : hi ≤ u.heap.size := Nat.le_trans hB hbW2.size
    have HgI : Hid (y.fs.getD i.toNat default = y.fs[i.toNat]) := getD_of hilt
    have HgK : Hid (y.fs.getD k.toNat default = y.fs[k.toNat]) := getD_of hklt
    have Hrp := Lib.hid hrp
    have Hrq := Lib.hid hrq
    have hql := hrq.lt
    have hpl := hrp.lt
    have hlu : w.heap.size < u.heap.size := Nat.lt_of_lt_of_le hl2 hsu
    clear hbu hbW2 hrp hrq hp hq
    have H : Hid (belowB y i k = true ↔ y.fs[i.toNat].name = y.fs[k.toNat].name ∧ FitsTo y.ty y.fs[i.toNat].args y.fs[k.toNat].args) := by
      show _ ↔ _
      rw [belowB_iff]
      unfold BelowP
      rw [HgI.out, HgK.out]
      exact ⟨fun h => h.2.2, fun h => ⟨C1.out, C2.out, h⟩⟩
    have Hno : Hid (¬ (y.fs[i.toNat].name = y.fs[k.toNat].name ∧ FitsTo y.ty y.fs[i.toNat].args y.fs[k.toNat].args) → belowB y i k = false) := fun h => by
      cases e : belowB y i k with
      | false => rfl
      | true => exact absurd (H.out.1 e) h
    by_cases he : y.fs[i.toNat].name = y.fs[k.toNat].name
    case neg =>
      have hnm : ¬ y.fs[i.toNat].name.toList = y.fs[k.toNat].name.toList := fun h => he (bytes_eq h)
      have hfin := Lib.hid (Hno.out fun h => he h.1)
      clear he
      go_wp2
      go_ret
      exact ⟨ret_bool hfin.out.symm, HbW.out⟩
    have hnm : y.fs[i.toNat].name.toList = y.fs[k.toNat].name.toList := by rw [he]
    have He := Lib.hid he
    clear he
    by_cases hlen : y.fs[i.toNat].args.length = y.fs[k.toNat].args.length
    case neg =>
      have hd : ((y.fs[i.toNat].args.length : Int) != (y.fs[k.toNat].args.length : Int)) = true := by simp; omega
      have hfin := Lib.hid (Hno.out fun h => hlen h.2.1)
      clear hlen
      go_wp2
      go_ret
      exact ⟨ret_bool hfin.out.symm, HbW.out⟩
    have hd : ((y.fs[i.toNat].args.length : Int) != (y.fs[k.toNat].args.length : Int)) = false := by simp [hlen]
    have Hlen := Lib.hid hlen
    have hsm : y.fs[k.toNat].args.length ≤ 2 := (Hsy.out.each _ hklt).few
    clear hlen
    go_wp2
    obtain ⟨wf, hwf⟩ : ∃ wf, wf = u.alloc (.cells #[.slice A y.ty.sizes.length cap, .slice B y.ty.cos.length bap] 140) := ⟨_, rfl⟩
    have hfr : Row wf u.heap.size 140 [.slice A y.ty.sizes.length cap, .slice B y.ty.cos.length bap] := by rw [hwf]; exact Row.new _ _ _
    have huf : Below u.heap.size u wf := by rw [hwf]; exact (Below.refl _ _).alloc (Nat.le_refl _) _
    rw [← hwf]
    have Hfr := Lib.hid hfr
    have Huf := Lib.hid huf
    have hfl := hfr.lt
    have Hufs := Lib.hid huf.size
    clear hwf hfr huf r0 r1 s0 s1 t0 t1 hd hnm
    go_loopw [43] (fun r wr => ∃ j : Nat, j ≤ y.fs[i.toNat].args.length ∧ r = .int .i64 j ∧ Hid (Below wf.heap.size wf wr) ∧ Hid (∀ n, n < j → canB y.ty (y.fs[i.toNat].args.getD n 0) (y.fs[k.toNat].args.getD n 0) = true)) (fun r _ => y.fs[i.toNat].args.length - (intOf r).toNat)
    case atStart => exact ⟨0, Nat.zero_le _, rfl, Below.refl _ _, fun n hn => absurd hn (by omega)⟩
    case round =>
      obtain ⟨j, hj, rfl, hbr, hok2⟩ := hrel
      have hsr := hbr.out.size
      have Hur : Hid (Below u.heap.size u wr) := Huf.out.trans (hbr.out.mono Hufs.out)
      have HWr : Hid (Below w.heap.size w wr) := HbW.out.trans (Hur.out.mono HbW.out.size)
      by_cases hjl : j < y.fs[i.toNat].args.length
      · have hjk : j < y.fs[k.toNat].args.length := by have := Hlen.out; omega
        have t1 := (Hrq.out.below Hur.out hql).cell 1
        simp only [List.getElem?_cons_zero, List.getElem?_cons_succ] at t1
        have hqw : q < wr.heap.size := Nat.lt_of_lt_of_le hql Hur.out.size
        obtain ⟨g1, o1, rfl, _, _, e1, _⟩ := (Hai.out.below Hur.out hBu).at_ hjl
        obtain ⟨g2, o2, rfl, _, _, e2, _⟩ := (Hak.out.below Hur.out hBu).at_ hjk
        have htb := Lib.hid (typesB_mk Hsy.out.ty ((Hsy.out.each _ hilt).args j hjl) ((Hsy.out.each _ hklt).args j hjk))
        have HTr := Lib.hid (HT.out.below Hur.out hBu)
        have Hrr := Lib.hid (Hfr.out.below hbr.out hfl)
        have hBr : hi ≤ wr.heap.size := Nat.le_trans hBu Hur.out.size
        have hg : Hid (canB y.ty (y.fs[i.toNat].args.getD j 0) (y.fs[k.toNat].args.getD j 0) = canB y.ty y.fs[i.toNat].args[j] y.fs[k.toNat].args[j]) := by show _ = _; rw [getD_of hjl, getD_of hjk]
        have hjI : (j : Int) < (y.fs[k.toNat].args.length : Int) := by omega
        by_cases hc : canB y.ty y.fs[i.toNat].args[j] y.fs[k.toNat].args[j] = true
        · have hok3 : Hid (∀ n, n < j + 1 → canB y.ty (y.fs[i.toNat].args.getD n 0) (y.fs[k.toNat].args.getD n 0) = true) := fun n hn => by
            by_cases e : n = j
            · subst e; rw [hg.out]; exact hc
            · exact hok2.out n (by omega)
          have Hc := Lib.hid hc
          clear hc
          go_wp2_with (go_at_call 99; refine (leads_any lo hi u.heap.size _ _ y.ty _ _ wr HTr.out hBr Hrr.out htb.out).mono ?_; rintro e w' ⟨rfl, hbx⟩; rw [Hc.out])
          go_roundw
          case rel => exact ⟨j + 1, by omega, by go_num, hbr.out.trans (hbx.mono hsr), hok3⟩
          case measure => simp [intOf]; omega
        · have hcf : Hid (canB y.ty y.fs[i.toNat].args[j] y.fs[k.toNat].args[j] = false) := by show _ = _; simpa using hc
          have hfin := Lib.hid (Hno.out fun h => hc (by rw [← hg.out]; exact h.2.2 j hjl))
          clear hc
          go_wp2_with (go_at_call 99; refine (leads_any lo hi u.heap.size _ _ y.ty _ _ wr HTr.out hBr Hrr.out htb.out).mono ?_; rintro e w' ⟨rfl, hbx⟩; rw [hcf.out])
          go_ret
          exact ⟨ret_bool hfin.out.symm, HWr.out.trans (hbx.mono HWr.out.size)⟩
      · obtain rfl : j = y.fs[i.toNat].args.length := by omega
        have hfin : Hid (belowB y i k = true) := H.out.2 ⟨He.out, Hlen.out, fun n hn => hok2.out n hn⟩
        go_wp2
        go_ret
        exact ⟨ret_bool hfin.out.symm, HWr.out⟩
end Go.Proofs.YtgkfddhhkjblgaaGreatDoor

namespace Go.Proofs.YtgkfddhhkjblgaaGreatDoor
open Go.RowKit Go.Maps

set_option maxRecDepth 100000 in
set_option maxHeartbeats 4000000 in
theorem implNamed_any (lo hi : Nat) (sv cv fv : Value) (y : Sy) (nm : ByteArray) (a : Int) (w : World) (hv : SyAt w lo hi sv cv fv y) (hB : hi ≤ w.heap.size) (hbk : y.bulk ≤ 1048576) (hnm : nm.size ≤ maxLen) :
    Calls Tryz.prog 96 #[.agg #[sv, cv, fv], .string nm, .int .i64 a] w fun e w' => ∃ v, e = .returned v ∧ Below w.heap.size w w' ∧ w'.ownsRow w.heap.size 3 1 v (namedV y nm a).length ((namedV y nm a).map (Value.int .i64)) := by
  obtain ⟨A, cap, rfl, hl1, hm1, hi1⟩ := hv.1.1.form
  obtain ⟨B, bap, rfl, hl2, hm2, hc1⟩ := hv.1.2.form
  obtain ⟨F, fap, rfl, hl3, hm3, hf1⟩ := hv.2.form
  unfold maxLen at hm3
  obtain ⟨i0, hi0, hz0, hz1, hz2⟩ := info_parts Tryz.infoInt
  have hn : y.fs.length ≤ 1048576 := by unfold Sy.bulk at hbk; omega
  have h3 : Below w.heap.size w (w.alloc (.cells #[.slice A y.ty.sizes.length cap, .slice B y.ty.cos.length bap, .slice F y.fs.length fap] 37)) := by go_grown
  have H1 := Lib.hid (Below.refl (w.heap.size + 1) (w.alloc (.cells #[.slice A y.ty.sizes.length cap, .slice B y.ty.cos.length bap, .slice F y.fs.length fap] 37)))
  have Hv := Lib.hid hv
  have Hf := Lib.hid hf1
  have Hnm := Lib.hid hnm
  clear hi1 hc1 hf1 hv hnm
  go_enter Tryz.func96, Tryz.ntmps96
  go_wp2_with fail
  refine (implSysValid_any lo hi _ _ _ y _ (Hv.out.below h3 hB) (by simp; omega)).mono ?_
  rintro e w1 ⟨rfl, hb1⟩
  have H2 := Lib.hid (H1.out.trans (hb1.mono (by simp)))
  obtain ⟨q0, q1, q2, hl, hB1⟩ := box3 H2.out
  have HB1 := Lib.hid hB1
  clear hb1 h3 hB1 H1
  by_cases hs : syB y = true
  case neg =>
    have hsf : syB y = false := by simpa using hs
    have hfin : Hid (namedV y nm a = []) := by show _ = _; unfold namedV; rw [if_neg hs]
    rw [hsf]
    clear hs
    go_wp2
    go_ret
    refine ⟨_, rfl, HB1.out, ?_⟩
    rw [hfin.out]
    exact World.ownsRow_nil _ _ _ _
  have hfin : Hid (namedV y nm a = nmT y.fs nm a y.fs.length) := by show _ = _; unfold namedV; rw [if_pos hs]
  rw [hs]
  clear hs
  go_wp2_with fail
  refine (indicesByName_any lo hi _ y.fs w1 (Hf.out.below HB1.out hB) (by omega) hn).mono ?_
  rintro e w3 ⟨D, rfl, hb3, hgrp, hown⟩
  have q2' := (hb3.cell (p := ⟨w.heap.size, 2, none⟩) hl).trans q2
  obtain ⟨v, zs, hlk0, hat, hoi, _, _⟩ := groups_look hown lawStr Tryz.underlying197 zeroInts (by unfold maxLen; omega) (kN_key Hnm.out)
  have hlk := hlk0 w3 rfl
  have hzs := hgrp.look Hnm.out hoi hat
  have hzi := ints_of_owns hoi
  obtain ⟨Z, zap, rfl, hlz, hmz, hz1'⟩ := hzi.form
  have Hzi := Lib.hid hz1'
  have Hzs := Lib.hid hzs
  have HB3 := Lib.hid (HB1.out.trans (hb3.mono HB1.out.size))
  have hl3 : w.heap.size < w3.heap.size := Nat.lt_of_lt_of_le hl hb3.size
  have Q2 := Lib.hid q2'
  have hzl : zs.length ≤ y.fs.length := by rw [hzs]; exact idxs_len _ _ _
  unfold maxLen at hmz
  clear hb3 hgrp hown hlk0 hat hoi hzi hz1' hzs q0 q1 q2 q2'
  go_wp2
  clear hlk
  go_loopw [7, 19] (fun l i wr => ∃ j : Nat, j ≤ zs.length ∧ i = .int .i64 j ∧ Hid (Below w3.heap.size w3 wr) ∧ Hid (wr.ownsRow w3.heap.size 3 1 l (withA y.fs a (zs.take j)).length ((withA y.fs a (zs.take j)).map (Value.int .i64)))) (fun _ i _ => zs.length - (intOf i).toNat)
  case atStart => exact ⟨0, Nat.zero_le _, rfl, Below.refl _ _, World.ownsRow_nil _ _ _ _⟩
  case round =>
    obtain ⟨j, hj, rfl, hb, hown⟩ := hrel
    have hbs := hb.out.size
    have HbW : Hid (Below w.heap.size w wr) := HB3.out.trans (hb.out.mono HB3.out.size)
    by_cases hlt : j < zs.length
    · obtain ⟨gz, oz, rfl, _, _, cz, _⟩ := (Hzi.out.below hb.out (Nat.le_refl _)).at_ hlt
      obtain ⟨i, hi', hni, ei⟩ := idxs_mem.1 (show zs[j] ∈ idxs y.fs y.fs.length nm by rw [← Hzs.out]; exact List.getElem_mem hlt)
      rw [ei] at cz
      have Hei := Lib.hid ei
      have p2 := (hb.out.cell (p := ⟨w.heap.size, 2, none⟩) hl3).trans Q2.out
      have hlw : w.heap.size < wr.heap.size := by omega
      obtain ⟨b, off, A1, cap1, A2, cap2, rfl, hlo, hhi, c0, c1, c2, c3, _, _, _, _, _⟩ := (Hf.out.below HbW.out hB).at_ hi'
      have hiI : (i : Int) < (y.fs.length : Int) := by omega
      have hle : (withA y.fs a (zs.take j)).length ≤ j := Nat.le_trans (withA_le _ _ _) (by rw [List.length_take]; omega)
      have hbw : b < wr.heap.size := by have := HbW.out.size; omega
      have Hg : Hid ((y.fs.getD zs[j].toNat default).args = y.fs[i].args) := by show _ = _; rw [Hei.out, Int.toNat_natCast, getD_of hi']
      clear ei hni c0 c2 c3
      by_cases hq : ((y.fs[i].args.length : Nat) : Int) = a
      · have hh := Lib.hid (withA_hit (fs := y.fs) (a := a) hlt (by rw [Hg.out]; exact hq))
        have htest : ((y.fs[i].args.length : Int) == a) = true := by simpa using hq
        clear hq
        go_wp2_with (at_builtin; refine wpList_append_own _ rfl (.tmp 32) (.tmp 34) 22 rfl w3.heap.size 3 i0 (.int .i64 0) 1 8 Tryz.underlying22 hi0 hz0 hz1 hz2 rfl (by decide) _ _ _ rfl (hown.out.alloc _) ⟨wr.heap.size, 0, none⟩ 1 1 [.int .i64 i] rfl rfl ?c1 ?c2 ?c3 ?c4 ?c5 ?_)
        case c1 =>
          intro n u hi
          match n, hi with
          | 0, hi => simp at hi; subst hi; simp [Addr.add]
        case c2 => intro u hu; simp at hu; subst hu; rfl
        case c3 => unfold maxLen; omega
        case c4 => omega
        case c5 => simp; omega
        intro v' w2 hown2 hgrow _
        have hb2 : Below w3.heap.size w3 w2 := (hb.out.alloc (by omega) _).grown hgrow (by simp; omega) (fun k hk => by
          obtain ⟨_, ⟨e, _⟩ | ⟨g, cap3, cur, e, hg, _⟩⟩ := hown.out
          · rw [e] at hk; simp [Value.ownBlock] at hk
          · rw [e] at hk; simp [Value.ownBlock] at hk; omega)
        have Hb2 := Lib.hid hb2
        have Hown2 := Lib.hid hown2
        clear hown2 hgrow hb2
        go_wp2
        go_roundw
        case rel => exact ⟨j + 1, by omega, by go_num, Hb2.out, ownsRow_cast Hown2.out (by rw [hh.out]; simp) (by rw [hh.out, Hei.out]; simp)⟩
        case measure => simp [intOf]; omega
      · have hh := Lib.hid (withA_miss (fs := y.fs) (a := a) hlt (by rw [Hg.out]; exact hq))
        have htest : ((y.fs[i].args.length : Int) == a) = false := by simpa using hq
        clear hq
        go_wp2
        go_roundw
        case rel => exact ⟨j + 1, by omega, by go_num, hb.out, by rw [hh.out]; exact hown.out⟩
        case measure => simp [intOf]; omega
    · obtain rfl : j = zs.length := by omega
      go_wp2
      go_ret
      refine ⟨_, rfl, HbW.out, ?_⟩
      have e : namedV y nm a = withA y.fs a (zs.take zs.length) := by rw [List.take_length, Hzs.out, withA_idxs, hfin.out]
      rw [e]
      exact ownsRow_base hown.out (by omega)
end Go.Proofs.YtgkfddhhkjblgaaGreatDoor

