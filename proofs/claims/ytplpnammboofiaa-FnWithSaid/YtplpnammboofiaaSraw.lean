/-
  The contract of the model's WithCoercion, whose parts may share memory.
-/
import Derived.Test.YtplpnammboofiaaSapp
import Derived.Test.YtplpnammboofiaaIwith
import Derived.Test.YtplpnammboofiaaSv
import Derived.Test.YtplpnammboofiaaRst
namespace Go.Proofs.Ytplpnammboofiaa
open Go.RowKit

theorem if_step {c : Bool} {A B : Prop} (h : c = true) (ha : A) : if c = true then A else B := by rw [if_pos h]; exact ha

theorem cosAt_more {u : World} {N lo hi L : Nat} {v z : Value} {cos : List Co} {c : Co} {news : List Value} (hown : u.ownsRow N 28 3 v (cos.length + 1) (news ++ [.int .i64 c.src, .int .i64 c.dst, z])) (hn : CosNews u lo hi news cos)
    (hwf : ∀ i, i < cos.length → I64 (cos.getD i default).src ∧ I64 (cos.getD i default).dst ∧ ∀ z ∈ (cos.getD i default).map, I64 z) (hs : I64 c.src) (hd : I64 c.dst) (hz : IntsAt u L u.heap.size z c.map) (hL1 : L ≤ lo) (hLN : L ≤ N) (hh : hi ≤ u.heap.size) : CosAt u L u.heap.size v (cos ++ [c]) := by
  have hlt := owns_lt hown
  obtain ⟨hlen, ⟨_, h0⟩ | ⟨g, cap, cur, rfl, hg, hh2, hc1, hc2, hcs, htake⟩⟩ := hown
  · omega
  obtain ⟨mv, hl, hnw⟩ := hn
  have hrow : Row u g 28 cur.toList := by unfold Row; simpa using hh2
  have cell : ∀ j, j < (cos.length + 1) * 3 → u.cell? ⟨g, j, none⟩ = (news ++ [.int .i64 c.src, .int .i64 c.dst, z])[j]? := by
    intro j hj
    rw [← htake, List.getElem?_take_of_lt hj]
    exact hrow.cell j
  refine ⟨some ⟨g, 0, none⟩, cap, by simp, by simpa using hc1, hc2, fun _ => ⟨g, 0, rfl, by omega, (hlt g rfl).2, fun k hk => ?_⟩⟩
  rw [Nat.zero_add]
  by_cases hkl : k < cos.length
  · obtain ⟨n0, n1, n2, n3⟩ := hnw k hkl
    have e : (cos ++ [c]).getD k default = cos[k] := by rw [List.getD_eq_getElem?_getD, List.getElem?_append_left hkl, List.getElem?_eq_getElem hkl]; rfl
    have e2 : cos.getD k default = cos[k] := by rw [List.getD_eq_getElem?_getD, List.getElem?_eq_getElem hkl]; rfl
    have hw := hwf k hkl
    rw [e2] at hw
    rw [e]
    refine ⟨.int .i64 cos[k].src, .int .i64 cos[k].dst, mv k, ?_, ?_, ?_, rfl, rfl, hw.1, hw.2.1, n3.more (by omega) hh⟩
    · rw [cell _ (by omega), List.getElem?_append_left (by omega), n0]
    · rw [cell _ (by omega), List.getElem?_append_left (by omega), n1]
    · rw [cell _ (by omega), List.getElem?_append_left (by omega), n2]
  · obtain rfl : k = cos.length := by simp at hk; omega
    have e : (cos ++ [c]).getD cos.length default = c := by rw [List.getD_eq_getElem?_getD]; simp
    rw [e]
    refine ⟨.int .i64 c.src, .int .i64 c.dst, z, ?_, ?_, ?_, rfl, rfl, hs, hd, hz⟩
    · rw [cell _ (by omega), List.getElem?_append_right (by omega), hl]; simp
    · rw [cell _ (by omega), List.getElem?_append_right (by omega), hl]; simp
    · rw [cell _ (by omega), List.getElem?_append_right (by omega), hl]; simp

set_option maxRecDepth 100000 in
set_option maxHeartbeats 4000000 in
theorem specRaw_any (lo hi : Nat) (sv cv x y z : Value) (t : Ty) (c : Co) (w : World) (hv : TyAt w lo hi sv cv t) (hc : CoAt w lo hi x y z c) (hB : hi ≤ w.heap.size) (hbk : t.bulk ≤ 1048576) (hlen : c.map.length ≤ 1048576) :
    Calls Try.prog 41 #[.agg #[sv, cv], .agg #[x, y, z]] w fun e w' => ∃ v l, e = .returned (.tuple #[.agg #[v, l], .bool (withOk t c)]) ∧ Below w.heap.size w w' ∧ TyAt w' w.heap.size w'.heap.size v l (withCo t c) := by
  obtain ⟨A, cap, rfl, hl1, hm1, _⟩ := hv.1.form
  obtain ⟨B, bap, rfl, hl2, hm2, _⟩ := hv.2.form
  obtain ⟨rfl, rfl, hs, hd, hcz⟩ := hc
  obtain ⟨A2, cap2, rfl, _, _, hcz⟩ := hcz.form
  have hwfc := Lib.hid (IntsAt.wf hcz)
  have hn : t.cos.length ≤ 1048576 := by unfold Ty.bulk at hbk; omega
  have h3 : Below w.heap.size w (((w.alloc (.cells #[.slice A t.sizes.length cap, .slice B t.cos.length bap] 26)).alloc (.cells #[.int .i64 c.src, .int .i64 c.dst, .slice A2 c.map.length cap2] 28)).alloc (.cells #[.slice none 0 0, .slice none 0 0] 26)) := by go_grown
  have Hv := Lib.hid hv
  have Hcz := Lib.hid hcz
  have H3 := Lib.hid h3
  clear hv hcz h3
  go_enter Try.func41, Try.ntmps41
  go_wp2_with fail
  refine (ownTypes_any lo hi _ _ t _ (Hv.out.below H3.out hB) (by simp; omega) hbk).mono ?_
  rintro e w1 ⟨v, l, rfl, hb1, hty1⟩
  obtain ⟨VA, VC, rfl, _, _, _⟩ := hty1.1.form
  obtain ⟨LA, LC, rfl, _, _, _⟩ := hty1.2.form
  obtain ⟨hcl, hfr⟩ := bcell hb1
  have hs1 := hb1.size
  simp only [World.size_alloc] at hcl hfr hs1
  have a0 : w1.cell? ⟨w.heap.size, 0, none⟩ = some (.slice A t.sizes.length cap) := by rw [hcl _ _ (by omega)]; simp [go_sem]
  have a1 : w1.cell? ⟨w.heap.size, 1, none⟩ = some (.slice B t.cos.length bap) := by rw [hcl _ _ (by omega)]; simp [go_sem]
  have af0 : w1.frozen? ⟨w.heap.size, 0, none⟩ = false := by rw [hfr _ _ (by omega)]; simp [go_sem]
  have af1 : w1.frozen? ⟨w.heap.size, 1, none⟩ = false := by rw [hfr _ _ (by omega)]; simp [go_sem]
  have b0 : w1.cell? ⟨w.heap.size + 1, 0, none⟩ = some (.int .i64 c.src) := by rw [hcl _ _ (by omega)]; simp [go_sem]
  have b1 : w1.cell? ⟨w.heap.size + 1, 1, none⟩ = some (.int .i64 c.dst) := by rw [hcl _ _ (by omega)]; simp [go_sem]
  have b2 : w1.cell? ⟨w.heap.size + 1, 2, none⟩ = some (.slice A2 c.map.length cap2) := by rw [hcl _ _ (by omega)]; simp [go_sem]
  have hb1w : Below w.heap.size w w1 := H3.out.trans (hb1.mono (by simp; omega))
  simp only [World.size_alloc] at hty1
  have hkT : w1.heap[w.heap.size]? = _ := hb1.block w.heap.size (by simp; omega)
  have hkC : w1.heap[w.heap.size + 1]? = _ := hb1.block (w.heap.size + 1) (by simp)
  have hkR : w1.heap[w.heap.size + 1 + 1]? = _ := hb1.block (w.heap.size + 1 + 1) (by simp)
  have RT : Row w1 w.heap.size 26 [.slice A t.sizes.length cap, .slice B t.cos.length bap] := (((Row.new w _ [.slice A t.sizes.length cap, .slice B t.cos.length bap]).alloc _).alloc _).keep hkT
  have RC : Row w1 (w.heap.size + 1) 28 [.int .i64 c.src, .int .i64 c.dst, .slice A2 c.map.length cap2] := by
    have := ((Row.new (w.alloc (.cells #[.slice A t.sizes.length cap, .slice B t.cos.length bap] 26)) 28 [.int .i64 c.src, .int .i64 c.dst, .slice A2 c.map.length cap2]).alloc (.cells #[.slice none 0 0, .slice none 0 0] 26))
    rw [World.size_alloc] at this
    exact this.keep hkC
  have RR : Row w1 (w.heap.size + 1 + 1) 26 [.slice none 0 0, .slice none 0 0] := by
    have := (Row.new ((w.alloc (.cells #[.slice A t.sizes.length cap, .slice B t.cos.length bap] 26)).alloc (.cells #[.int .i64 c.src, .int .i64 c.dst, .slice A2 c.map.length cap2] 28)) 26 [.slice none 0 0, .slice none 0 0])
    rw [World.size_alloc, World.size_alloc] at this
    exact this.keep hkR
  have Hb1 := Lib.hid hb1w
  have Hty1 := Lib.hid hty1
  have HRT := Lib.hid RT
  have HRC := Lib.hid RC
  have HRR := Lib.hid RR
  clear hb1 hty1 hb1w RT RC RR hkT hkC hkR hcl hfr
  go_wp2_with fail
  obtain ⟨w2, hw2⟩ : ∃ u, u = (w1.setCell ⟨w.heap.size, 0, none⟩ (.slice VA t.sizes.length VC)).setCell ⟨w.heap.size, 1, none⟩ (.slice LA t.cos.length LC) := ⟨_, rfl⟩
  rw [← hw2]
  have RT2 : Hid (Row w2 w.heap.size 26 [.slice VA t.sizes.length VC, .slice LA t.cos.length LC]) := by rw [hw2]; exact (HRT.out.set_ 0 _).set_ 1 _
  have RC2 : Hid (Row w2 (w.heap.size + 1) 28 [.int .i64 c.src, .int .i64 c.dst, .slice A2 c.map.length cap2]) := by rw [hw2]; exact (HRC.out.far (by dsimp only; omega) _).far (by dsimp only; omega) _
  have RR2 : Hid (Row w2 (w.heap.size + 1 + 1) 26 [.slice none 0 0, .slice none 0 0]) := by rw [hw2]; exact (HRR.out.far (by dsimp only; omega) _).far (by dsimp only; omega) _
  have Hb2 : Hid (Below w.heap.size w w2) := by rw [hw2]; exact (Hb1.out.setCell (by dsimp only; omega) _).setCell (by dsimp only; omega) _
  have Hty2 : Hid (TyAt w2 (w.heap.size + 1 + 1 + 1) w2.heap.size (.slice VA t.sizes.length VC) (.slice LA t.cos.length LC) t) := by
    have e : w2.heap.size = w1.heap.size := by rw [hw2]; simp [World.setCell]
    rw [e]
    exact Hty1.out.keep fun k hk1 hk2 => by rw [hw2]; exact (Below.heap_setCell _ _ _ _ (by dsimp only; omega)).trans (Below.heap_setCell _ _ _ _ (by dsimp only; omega))
  have hs2 : w.heap.size + 1 + 1 + 1 ≤ w2.heap.size := by rw [hw2]; simp [World.setCell]; omega
  clear hw2 a0 a1 af0 af1 b0 b1 b2 Hty1 Hb1 HRT HRC HRR
  refine (ownCo_any lo hi _ _ _ c _ ⟨rfl, rfl, hs, hd, Hcz.out.below Hb2.out hB⟩ (by omega) hlen).mono ?_
  rintro e w3 ⟨v3, rfl, hb3, hown3⟩
  obtain ⟨VA3, VC3, rfl⟩ := owns_form hown3
  have hs3 := hb3.size
  have RT3 := Lib.hid (RT2.out.below hb3 (by omega))
  have RC3 := Lib.hid (RC2.out.below hb3 (by omega))
  have RR3 := Lib.hid (RR2.out.below hb3 (by omega))
  have Hty3 := Lib.hid (Hty2.out.below hb3 (Nat.le_refl _))
  have Hb3 := Lib.hid (Hb2.out.trans (hb3.mono (by omega)))
  have Hi3 := Lib.hid (ownsRow.intsAt (lo := w2.heap.size) hown3 hwfc.out (Nat.le_refl _) (Nat.le_refl _))
  have m0 := RC3.out.cell 0
  have m1 := RC3.out.cell 1
  have m2 := RC3.out.cell 2
  have mf0 := RC3.out.frozen 0
  have mf1 := RC3.out.frozen 1
  have mf2 := RC3.out.frozen 2
  simp only [List.getElem?_cons_zero, List.getElem?_cons_succ] at m0 m1 m2
  clear hb3 hown3 RT2 RC2 RR2 Hty2 Hb2
  go_wp2_with fail
  obtain ⟨w4, hw4⟩ : ∃ u, u = ((w3.setCell ⟨w.heap.size + 1, 0, none⟩ (.int .i64 c.src)).setCell ⟨w.heap.size + 1, 1, none⟩ (.int .i64 c.dst)).setCell ⟨w.heap.size + 1, 2, none⟩ (.slice VA3 c.map.length VC3) := ⟨_, rfl⟩
  rw [← hw4]
  have RC4 : Hid (Row w4 (w.heap.size + 1) 28 [.int .i64 c.src, .int .i64 c.dst, .slice VA3 c.map.length VC3]) := by rw [hw4]; exact ((RC3.out.set_ 0 _).set_ 1 _).set_ 2 _
  have RT4 : Hid (Row w4 w.heap.size 26 [.slice VA t.sizes.length VC, .slice LA t.cos.length LC]) := by rw [hw4]; exact ((RT3.out.far (by dsimp only; omega) _).far (by dsimp only; omega) _).far (by dsimp only; omega) _
  have RR4 : Hid (Row w4 (w.heap.size + 1 + 1) 26 [.slice none 0 0, .slice none 0 0]) := by rw [hw4]; exact ((RR3.out.far (by dsimp only; omega) _).far (by dsimp only; omega) _).far (by dsimp only; omega) _
  have Hb4 : Hid (Below w.heap.size w w4) := by rw [hw4]; exact ((Hb3.out.setCell (by dsimp only; omega) _).setCell (by dsimp only; omega) _).setCell (by dsimp only; omega) _
  have hs4 : Hid (w4.heap.size = w3.heap.size) := by show _ = _; rw [hw4]; simp [World.setCell]
  have hlt4 : w.heap.size + 1 + 1 + 1 ≤ w4.heap.size := by have := hs4.out; omega
  have hk4 : ∀ k, w.heap.size + 1 < k → w4.heap[k]? = w3.heap[k]? := fun k hk => by rw [hw4]; exact ((Below.heap_setCell _ _ _ _ (by dsimp only; omega)).trans (Below.heap_setCell _ _ _ _ (by dsimp only; omega))).trans (Below.heap_setCell _ _ _ _ (by dsimp only; omega))
  have Hty4 := Lib.hid (Hty3.out.keep fun k hk1 _ => hk4 k (by omega))
  have Hi4 := Lib.hid (Hi3.out.keep fun k hk1 _ => hk4 k (by omega))
  clear hw4 m0 m1 m2 mf0 mf1 mf2 RC3 RT3 RR3 Hb3 Hty3 Hi3 hk4
  obtain ⟨i0, hi0, hz0, hz1, hz2⟩ := info_parts infoCoercionW
  have hk1 : ∀ k, k < w4.heap.size → (w4.drew.alloc (.cells #[] 28)).heap[k]? = w4.heap[k]? := fun k hk => Below.heap_alloc w4.drew _ k hk
  have K1 := Lib.hid hk1
  have hcf : ∀ {u : World}, (∀ k, k < w4.heap.size → u.heap[k]? = w4.heap[k]?) → (u.cell? ⟨w.heap.size, 0, none⟩ = some (.slice VA t.sizes.length VC) ∧ u.cell? ⟨w.heap.size, 1, none⟩ = some (.slice LA t.cos.length LC) ∧ u.cell? ⟨w.heap.size + 1, 0, none⟩ = some (.int .i64 c.src) ∧ u.cell? ⟨w.heap.size + 1, 1, none⟩ = some (.int .i64 c.dst) ∧ u.cell? ⟨w.heap.size + 1, 2, none⟩ = some (.slice VA3 c.map.length VC3)) := fun hk =>
    ⟨(World.cell?_of_block (w := w4) (hk w.heap.size (by omega))).trans (RT4.out.cell 0), (World.cell?_of_block (w := w4) (hk w.heap.size (by omega))).trans (RT4.out.cell 1), (World.cell?_of_block (w := w4) (hk (w.heap.size + 1) (by omega))).trans (RC4.out.cell 0), (World.cell?_of_block (w := w4) (hk (w.heap.size + 1) (by omega))).trans (RC4.out.cell 1), (World.cell?_of_block (w := w4) (hk (w.heap.size + 1) (by omega))).trans (RC4.out.cell 2)⟩
  have Hcf : Hid (∀ {u : World}, (∀ k, k < w4.heap.size → u.heap[k]? = w4.heap[k]?) → (u.cell? ⟨w.heap.size, 0, none⟩ = some (.slice VA t.sizes.length VC) ∧ u.cell? ⟨w.heap.size, 1, none⟩ = some (.slice LA t.cos.length LC) ∧ u.cell? ⟨w.heap.size + 1, 0, none⟩ = some (.int .i64 c.src) ∧ u.cell? ⟨w.heap.size + 1, 1, none⟩ = some (.int .i64 c.dst) ∧ u.cell? ⟨w.heap.size + 1, 2, none⟩ = some (.slice VA3 c.map.length VC3))) := @hcf
  have hcos := Lib.hid Hty4.out.2
  clear hk1
  have hinv : RFacts (w.heap.size + 1 + 1 + 1) w2.heap.size w4.heap.size w.heap.size w4 t.cos (.slice VA t.sizes.length VC) (.slice LA t.cos.length LC) (.int .i64 c.src) (.int .i64 c.dst) (.slice VA3 c.map.length VC3) (fun _ => false) undef undef undef undef undef undef undef undef undef undef undef w4.drew :=
    ⟨(Below.refl _ _).drew, nofun, nofun, nofun, nofun, nofun, nofun, nofun, nofun, nofun, nofun, nofun, nofun⟩
  refine wp_region_inv (by kernel_rfl) (fun f a u => ∃ x6 x11 x12 x13 x14 x15 x16 x17 x18 x19 x20, a = ⟨#[.agg #[.slice A t.sizes.length cap, .slice B t.cos.length bap], .agg #[.int .i64 c.src, .int .i64 c.dst, .slice A2 c.map.length cap2], .pointer (some ⟨w.heap.size, 0, none⟩), .pointer (some ⟨w.heap.size + 1, 0, none⟩), .pointer (some ⟨w.heap.size + 1 + 1, 0, none⟩), .bool false, x6, .agg #[.slice A t.sizes.length cap, .slice B t.cos.length bap], .agg #[.slice VA t.sizes.length VC, .slice LA t.cos.length LC], .agg #[.int .i64 c.src, .int .i64 c.dst, .slice A2 c.map.length cap2], .agg #[.int .i64 c.src, .int .i64 c.dst, .slice VA3 c.map.length VC3], x11, x12, x13, x14, x15, x16, x17, x18, x19, x20, undef, undef, undef, undef, undef, undef, undef, undef, undef, undef], []⟩ ∧ RFacts (w.heap.size + 1 + 1 + 1) w2.heap.size w4.heap.size w.heap.size w4 t.cos (.slice VA t.sizes.length VC) (.slice LA t.cos.length LC) (.int .i64 c.src) (.int .i64 c.dst) (.slice VA3 c.map.length VC3) f x6 x11 x12 x13 x14 x15 x16 x17 x18 x19 x20 u ∧ RCl f) (of_decide_eq_true (by kernel_rfl)) ⟨_, _, _, _, _, _, _, _, _, _, _, rfl, hinv, ⟨nofun, nofun, nofun, nofun⟩⟩ ?_ ?_
  · rintro f a u i o ho hfi hdep ⟨x6, x11, x12, x13, x14, x15, x16, x17, x18, x19, x20, rfl, hF, hC⟩
    have hil : i < 12 := by have := (Array.getElem?_eq_some_iff.1 ho).1; simpa using this
    have hsz := hF.bel.size
    obtain ⟨p0, p1, p2, p3, p4⟩ := Hcf.out (u := u) (fun k hk => hF.bel.block k hk)
    have HF := Lib.hid hF
    obtain rfl | rfl | rfl | rfl | rfl | rfl | rfl | rfl | rfl | rfl | rfl | rfl : i = 0 ∨ i = 1 ∨ i = 2 ∨ i = 3 ∨ i = 4 ∨ i = 5 ∨ i = 6 ∨ i = 7 ∨ i = 8 ∨ i = 9 ∨ i = 10 ∨ i = 11 := by omega
    all_goals
      obtain rfl := Option.some.inj ho
      refine wpOp_step ho fun K hK => ?_
      simp [Region.binds] at hdep
      clear ho
    · refine if_step rfl ?_
      clear hF
      unfold Oper.wp
      go_simp
      exact hK _ _ ⟨_, _, _, _, _, _, _, _, _, _, _, rfl, HF.out.s0, hC.u0⟩
    · obtain rfl := hF.a0 hdep
      refine if_step rfl ?_
      clear hF
      unfold Oper.wp
      go_simp
      exact hK _ _ ⟨_, _, _, _, _, _, _, _, _, _, _, rfl, HF.out.s1, hC.u1⟩
    · refine if_step rfl ?_
      clear hF
      unfold Oper.wp
      go_simp
      exact hK _ _ ⟨_, _, _, _, _, _, _, _, _, _, _, rfl, (HF.out.grow hsz (by have := hs4.out; omega) ((Below.refl _ _).alloc (Nat.le_refl _) _)).s2 hsz (Row.new u 28 []), hC.u2⟩
    · refine if_step rfl ?_
      clear hF
      unfold Oper.wp
      go_simp
      exact hK _ _ ⟨_, _, _, _, _, _, _, _, _, _, _, rfl, HF.out.s3, hC.u3⟩
    · obtain rfl := hF.a3 hdep
      refine if_step rfl ?_
      clear hF
      unfold Oper.wp
      go_simp
      exact hK _ _ ⟨_, _, _, _, _, _, _, _, _, _, _, rfl, HF.out.s4, hC.u4⟩
    · obtain ⟨b, hbN, rfl, hrow⟩ := hF.a2 hdep.1 hfi
      obtain rfl := hF.a4 hdep.2
      have hf8 := hC.n8 hfi
      refine step_append_cos rfl (.tmp 13) (.tmp 15) rfl w4.heap.size b rfl hbN hrow (w.heap.size + 1 + 1 + 1) w2.heap.size LA t.cos.length LC t.cos rfl rfl (hcos.out.keep fun k _ hk => hF.bel.block k (by have := hs4.out; omega)) hn hsz ?_
      intro VA5 VC5 u5 news hown5 hnews hgrow5
      exact hK _ _ ⟨_, _, _, _, _, _, _, _, _, _, _, rfl, hF.append1 hsz (by have := hs4.out; omega) hf8 (hC.nb hf8) (hC.n9 hf8) hbN hrow hgrow5 hown5 hnews, hC.u5⟩
    · refine if_step rfl ?_
      clear hF
      unfold Oper.wp
      go_simp
      exact hK _ _ ⟨_, _, _, _, _, _, _, _, _, _, _, rfl, HF.out.s6, hC.u6⟩
    · obtain rfl := hF.a6 hdep
      refine if_step rfl ?_
      clear hF
      unfold Oper.wp
      go_simp
      exact hK _ _ ⟨_, _, _, _, _, _, _, _, _, _, _, rfl, (HF.out.grow hsz (by have := hs4.out; omega) ((Below.refl _ _).alloc (Nat.le_refl _) _)).s7 hsz (Row.new u 28 [.int .i64 c.src, .int .i64 c.dst, .slice VA3 c.map.length VC3]), hC.u7⟩
    · obtain ⟨A5, C5, news, rfl, hown, hnews⟩ := hF.a5 hdep.1 hfi
      obtain ⟨p, hp, rfl, hrow⟩ := hF.a7 (by simp_all) hfi
      have hf5 : f 5 = true := hdep.1
      refine step_append_lies _ rfl (.tmp 16) (.tmp 18) 24 rfl w4.heap.size 28 i0 _ 3 40 Try.underlying24 hi0 hz0 hz1 hz2 rfl (by omega) _ t.cos.length news rfl hown ⟨p, 0, none⟩ 1 1 [.int .i64 c.src, .int .i64 c.dst, .slice VA3 c.map.length VC3] rfl rfl (fun j v hv => by rw [Go.WideShapes.add_plain, Nat.zero_add, hrow.cell]; exact hv) (by intro v hv; simp at hv; rcases hv with rfl | rfl | rfl <;> rfl) (by omega) (by unfold maxLen; omega) (by omega) hsz _ rfl ?_
      intro g cap8 u8 hown8 hgrow8 hat8 hlt8
      exact hK _ _ ⟨_, _, _, _, _, _, _, _, _, _, _, rfl, hF.append2 hsz (by have := hs4.out; omega) (hC.nb hfi) (hC.n9 hfi) hf5 hown hgrow8 hown8 hnews, hC.u8 hf5⟩
    · obtain rfl := hF.a1 hdep.1
      have hf8 : f 8 = true := by simp_all
      obtain ⟨A8, C8, news8, rfl, _, _⟩ := hF.a8 hf8
      refine if_step rfl ?_
      clear hF
      unfold Oper.wp
      go_simp
      exact hK _ _ ⟨_, _, _, _, _, _, _, _, _, _, _, rfl, HF.out.s9, hC.u9 hf8⟩
    · refine if_step rfl ?_
      clear hF
      unfold Oper.wp
      go_simp
      exact hK _ _ ⟨_, _, _, _, _, _, _, _, _, _, _, rfl, (HF.out.grow hsz (by have := hs4.out; omega) ((Below.refl _ _).alloc (Nat.le_refl _) _)).s10 hsz (Row.new u 26 [.slice none 0 0, .slice none 0 0]) (hC.nb' hfi), hC.u10⟩
    · obtain ⟨h10, h9, h8, _, _, _, _, _, h5, _⟩ := hdep
      obtain ⟨q, hq, rfl, hrow⟩ := hF.a10 h10 hfi
      obtain rfl := hF.a9 h9
      obtain ⟨A8, C8, news8, rfl, _, _⟩ := hF.a8 h8
      have r0 := hrow.cell 0
      have r1 := hrow.cell 1
      have rf0 := hrow.frozen 0
      have rf1 := hrow.frozen 1
      simp only [List.getElem?_cons_zero, List.getElem?_cons_succ] at r0 r1
      refine if_step rfl ?_
      have Hrow := Lib.hid hrow
      clear hF hrow
      unfold Oper.wp
      go_simp
      exact hK _ _ ⟨_, _, _, _, _, _, _, _, _, _, _, rfl, HF.out.s11 hsz (by have := hs4.out; omega) h5 h8 hq Hrow.out, hC.u11 h8 h10⟩
  · rintro f a u hall ⟨x6, x11, x12, x13, x14, x15, x16, x17, x18, x19, x20, rfl, hF, hC⟩
    obtain rfl := hF.a0 (hall 0 (by decide))
    obtain ⟨A8, C8, news8, rfl, hown8, hnews8⟩ := hF.a8 (hall 8 (by decide))
    obtain ⟨q, hq, rfl, hrow⟩ := hF.a11 (hall 11 (by decide))
    have hsz := hF.bel.size
    obtain ⟨p0, p1, p2, p3, p4⟩ := Hcf.out (u := u) (fun k hk => hF.bel.block k hk)
    have RRu := Lib.hid (RR4.out.below hF.bel (by omega))
    have Hrow := Lib.hid hrow
    have Hbu := Lib.hid (Hb4.out.trans (hF.bel.mono (by omega)))
    have Htu := Lib.hid (Hty4.out.below hF.bel (by have := hs4.out; omega))
    have Hiu := Lib.hid ((Hi4.out.below hF.bel (by have := hs4.out; omega)).more (lo' := w.heap.size + 1 + 1 + 1) (hi' := u.heap.size) (by omega) (by have := hs4.out; omega))
    have Hout := Lib.hid (cosAt_more (L := w.heap.size + 1 + 1 + 1) hown8 hnews8 (CosAt.wf hcos.out) hs hd Hiu.out (by omega) (by omega) (by have := hs4.out; omega))
    have Htu2 := Lib.hid (show TyAt u (w.heap.size + 1 + 1 + 1) u.heap.size (.slice VA t.sizes.length VC) (.slice A8 (t.cos.length + 1) C8) (addCo t c) from ⟨Htu.out.1.more (by omega) (by have := hs4.out; omega), Hout.out⟩)
    clear hF hrow hC hall hown8 hnews8
    go_wp2_with fail
    refine (specValid_any _ _ _ _ t _ Htu.out (by have := hs4.out; omega)).mono ?_
    rintro e v1 ⟨rfl, hbv1⟩
    have hsv1 := hbv1.size
    have RRv1 := Lib.hid (RRu.out.below hbv1 (by omega))
    have Rqv1 := Lib.hid (Hrow.out.below hbv1 Hrow.out.lt)
    have Hbv1 := Lib.hid (Hbu.out.trans (hbv1.mono (by omega)))
    have Htv1 := Lib.hid (Htu2.out.below hbv1 (Nat.le_refl _))
    have r0 := RRv1.out.cell 0
    have r1 := RRv1.out.cell 1
    have rf0 := RRv1.out.frozen 0
    have rf1 := RRv1.out.frozen 1
    have o0 := Rqv1.out.cell 0
    have o1 := Rqv1.out.cell 1
    simp only [List.getElem?_cons_zero, List.getElem?_cons_succ] at r0 r1 o0 o1
    clear hbv1 p0 p1 p2 p3 p4
    have hnil : ∀ (u : World) (l h : Nat), TyAt u l h (.slice none 0 0) (.slice none 0 0) ⟨[], []⟩ := fun u l h => ⟨⟨none, 0, rfl, Nat.le_refl _, Nat.zero_le _, by simp, fun h => absurd h (by simp)⟩, none, 0, rfl, Nat.le_refl _, Nat.zero_le _, fun h => absurd h (by simp)⟩
    have Hnil := Lib.hid hnil
    clear hnil
    by_cases hok : tyOk t = true
    · have Hok := Lib.hid hok
      rw [hok]
      clear hok
      go_wp2_with fail
      refine (specValid_any _ _ _ _ (addCo t c) _ Htv1.out (by omega)).mono ?_
      rintro e v2 ⟨rfl, hbv2⟩
      have RRv2 := Lib.hid (RRv1.out.below hbv2 (by omega))
      have Rqv2 := Lib.hid (Rqv1.out.below hbv2 Rqv1.out.lt)
      have Hbv2 := Lib.hid (Hbv1.out.trans (hbv2.mono (by omega)))
      have Htv2 := Lib.hid (Htv1.out.below hbv2 (by omega))
      have hsv2 := hbv2.size
      have m0 := RRv2.out.cell 0
      have m1 := RRv2.out.cell 1
      have mf0 := RRv2.out.frozen 0
      have mf1 := RRv2.out.frozen 1
      have n0 := Rqv2.out.cell 0
      have n1 := Rqv2.out.cell 1
      simp only [List.getElem?_cons_zero, List.getElem?_cons_succ] at m0 m1 n0 n1
      clear hbv2 r0 r1 rf0 rf1 o0 o1
      by_cases hok2 : tyOk (addCo t c) = true
      · have hfin : withOk t c = true := by unfold withOk; rw [Hok.out, hok2]; rfl
        have Hfin := Lib.hid hfin
        rw [hok2]
        clear hok2 hfin
        go_wp2
        refine bodyPost_ret (v := .tuple #[.agg #[.slice VA t.sizes.length VC, .slice A8 (t.cos.length + 1) C8], .bool true]) (by simp [results, Try.results41, go_sem, m0, m1]) rfl ?_
        refine ⟨_, _, by rw [Hfin.out], (Hbv2.out.setCell (by dsimp only; omega) _).setCell (by dsimp only; omega) _, ?_⟩
        have e1 : withCo t c = addCo t c := by unfold withCo; rw [Hfin.out]; rfl
        rw [e1]
        exact (Htv2.out.keep fun k hk1 _ => (Below.heap_setCell _ _ _ _ (by dsimp only; omega)).trans (Below.heap_setCell _ _ _ _ (by dsimp only; omega))).more (by omega) (by simp [World.setCell]; omega)
      · have hokf2 : tyOk (addCo t c) = false := by simpa using hok2
        have hfin : withOk t c = false := by unfold withOk; rw [hokf2]; simp
        have Hfin := Lib.hid hfin
        rw [hokf2]
        clear hok2 hokf2 hfin
        go_wp2
        refine bodyPost_ret (v := .tuple #[.agg #[.slice none 0 0, .slice none 0 0], .bool false]) (by simp [results, Try.results41, go_sem, m0, m1]) rfl ?_
        refine ⟨_, _, by rw [Hfin.out], (Hbv2.out.setCell (by dsimp only; omega) _).setCell (by dsimp only; omega) _, ?_⟩
        have e1 : withCo t c = ⟨[], []⟩ := by unfold withCo; rw [Hfin.out]; rfl
        rw [e1]
        exact Hnil.out _ _ _
    · have hokf : tyOk t = false := by simpa using hok
      have hfin : withOk t c = false := by unfold withOk; rw [hokf]; rfl
      have Hfin := Lib.hid hfin
      rw [hokf]
      clear hok hokf hfin
      go_wp2
      refine bodyPost_ret (v := .tuple #[.agg #[.slice none 0 0, .slice none 0 0], .bool false]) (by simp [results, Try.results41, go_sem, r0, r1]) rfl ?_
      refine ⟨_, _, by rw [Hfin.out], (Hbv1.out.setCell (by dsimp only; omega) _).setCell (by dsimp only; omega) _, ?_⟩
      have e1 : withCo t c = ⟨[], []⟩ := by unfold withCo; rw [Hfin.out]; rfl
      rw [e1]
      exact Hnil.out _ _ _
end Go.Proofs.Ytplpnammboofiaa
