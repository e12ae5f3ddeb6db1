/-
  The contract of the program's ownSystem: a copy of a system that has names of its own too.
-/
import Derived.Test.YtplncocfbajefaaD8
import Derived.Test.YtplncocfbajefaaD12
namespace Go.Proofs.Ytplncocfbajefaa
open Go.RowKit

theorem heap_set_same {w : World} {g o : Nat} {t : TypeId} {ys : List Value} {v : Value} (hr : Row w g t ys) (h : ys[o]? = some v) (k : Nat) : (w.setCell ⟨g, o, none⟩ v).heap[k]? = w.heap[k]? := by
  by_cases e : k = g
  · subst e
    have h1 := hr.set_ o v
    have h2 : ys.set o v = ys := by
      obtain ⟨hl, rfl⟩ := List.getElem?_eq_some_iff.1 h
      exact List.set_getElem_self hl
    rw [h2] at h1
    unfold Row at hr h1
    rw [hr, h1]
  · exact Below.heap_setCell _ _ _ _ e
theorem Below.set_same {B : Nat} {u w : World} {g o : Nat} {t : TypeId} {ys : List Value} {v : Value} (hb : Below B u w) (hr : Row w g t ys) (h : ys[o]? = some v) : Below B u (w.setCell ⟨g, o, none⟩ v) :=
  ⟨hb.os, hb.tape, hb.output, Nat.le_trans hb.size (Nat.le_of_eq (by simp [World.setCell])), fun k hk => (heap_set_same hr h k).trans (hb.block k hk)⟩

set_option maxRecDepth 100000 in
set_option maxHeartbeats 4000000 in
theorem ownSystem_any (lo hi : Nat) (sv cv fv : Value) (y : Sy) (w : World) (hv : SyAt w lo hi sv cv fv y) (hB : hi ≤ w.heap.size) (hbk : y.bulk ≤ 1048576) :
    Calls Try.prog 48 #[.agg #[sv, cv, fv]] w fun e w' => ∃ v l q, e = .returned (.agg #[v, l, q]) ∧ Below w.heap.size w w' ∧ SyOwned w' (w.heap.size + 1 + 1) v l q y := by
  obtain ⟨A, cap, rfl, hl1, hm1, _⟩ := hv.1.1.form
  obtain ⟨B, bap, rfl, hl2, hm2, _⟩ := hv.1.2.form
  obtain ⟨Q, qap, rfl, hl3, hm3, _⟩ := hv.2.form
  unfold maxLen at hm3
  have hn : y.fs.length ≤ 1048576 := by unfold Sy.bulk at hbk; omega
  have hnm : Hid (∀ j, ∀ (hj : j < y.fs.length), (y.fs.getD j default).name.size ≤ 1048576) := fun j hj => by
    have h := y.fu_le j hj
    unfold Fu.weight at h
    rw [List.getD_eq_getElem?_getD, List.getElem?_eq_getElem hj, Option.getD_some]
    omega
  have h3 : Below w.heap.size w ((w.alloc (.cells #[.slice A y.ty.sizes.length cap, .slice B y.ty.cos.length bap, .slice Q y.fs.length qap] 38)).alloc (.cells #[.slice none 0 0, .slice none 0 0, .slice none 0 0] 38)) := by go_grown
  have Hv := Lib.hid hv
  have H3 := Lib.hid h3
  clear hv h3
  go_enter Try.func48, Try.ntmps48
  go_wp2_with fail
  refine (copySystem_any lo hi _ _ _ y _ (Hv.out.below H3.out hB) (by simp; omega) hbk).mono ?_
  rintro e w1 ⟨v, l, q, rfl, hb1, hown⟩
  have H1 := Lib.hid (H3.out.trans (hb1.mono (by simp; omega)))
  have RR : Row w1 (w.heap.size + 1) 38 [.slice none 0 0, .slice none 0 0, .slice none 0 0] := by
    have h := Row.new (w.alloc (.cells #[.slice A y.ty.sizes.length cap, .slice B y.ty.cos.length bap, .slice Q y.fs.length qap] 38)) 38 [.slice none 0 0, .slice none 0 0, .slice none 0 0]
    rw [World.size_alloc] at h
    exact h.below hb1 (by simp)
  have hs1 : w.heap.size + 1 + 1 ≤ w1.heap.size := by have := hb1.size; simpa using this
  simp only [World.size_alloc] at hown
  have hown' : SyOwned w1 (w.heap.size + 1 + 1) v l q y := hown.lower (by omega)
  obtain ⟨bb, u, bq, hbb, hbu, htys, hkeep, hubq, hbqw, xs, m, mv, how, hmo⟩ := id hown
  have hvf : ∃ A B, v = .slice A y.ty.sizes.length B := by
    obtain ⟨C, _, h, _⟩ := htys
    exact owns_form h
  have hlf : ∃ A B, l = .slice A y.ty.cos.length B := by
    obtain ⟨C, _, _, _, _, _, _, h, _⟩ := htys
    exact owns_form h
  obtain ⟨VA, VC, rfl⟩ := hvf
  obtain ⟨WA, WC, rfl⟩ := hlf
  have hqf : ∃ LA LC, q = .slice LA y.fs.length LC := owns_form how
  obtain ⟨LA, LC, rfl⟩ := hqf
  have Hown := Lib.hid hown'
  have How := Lib.hid how
  have Hmo := Lib.hid hmo
  have HRR := Lib.hid RR
  clear hb1 RR hown hown' htys hkeep how hmo hbb hbu hubq
  go_wp2
  obtain ⟨w2, hw2⟩ : ∃ u, u = w1.alloc (.cells #[.slice VA y.ty.sizes.length VC, .slice WA y.ty.cos.length WC, .slice LA y.fs.length LC] 38) := ⟨_, rfl⟩
  rw [← hw2]
  have RO2 : Hid (Row w2 w1.heap.size 38 [.slice VA y.ty.sizes.length VC, .slice WA y.ty.cos.length WC, .slice LA y.fs.length LC]) := by rw [hw2]; exact Row.new w1 38 _
  have hb12 : Below w1.heap.size w1 w2 := by rw [hw2]; exact (Below.refl _ _).alloc (Nat.le_refl _) _
  have hs2 : w1.heap.size < w2.heap.size := by rw [hw2]; simp
  have RR2 := Lib.hid (HRR.out.below hb12 (by omega))
  have H2 := Lib.hid (H1.out.trans (hb12.mono (by omega)))
  have Hown2 := Lib.hid (Hown.out.keep (Nat.le_of_lt hs2) fun g _ hg => hb12.block g hg)
  have How2 := Lib.hid (ownsRow_keep How.out fun g _ hg => hb12.block g hg)
  clear hw2 hb12 HRR Hown How H1
  go_loopw [4, 5, 11] (fun _ _ i wr => ∃ j : Nat, j ≤ y.fs.length ∧ i = .int .i64 j ∧ Hid (Below w2.heap.size w2 wr)) (fun _ _ i _ => y.fs.length - (intOf i).toNat)
  case atStart => exact ⟨0, Nat.zero_le _, rfl, Lib.hid (Below.refl _ _)⟩
  case round =>
    obtain ⟨j, hj, rfl, hb⟩ := hrel
    have hro := RO2.out.below hb.out hs2
    have g0 := hro.cell 0
    have g1 := hro.cell 1
    have g2 := hro.cell 2
    simp only [List.getElem?_cons_zero, List.getElem?_cons_succ] at g0 g1 g2
    have Hro := Lib.hid hro
    clear hro
    by_cases hlt : j < y.fs.length
    · have hnj := hnm.out j hlt
      have howr := ownsRow_keep How2.out (w' := wr) fun g _ hg => hb.out.block g hg
      obtain ⟨hxl, ⟨_, h0⟩ | ⟨g, c9, cur, e9, hg, hh, hc1, hc2, hcs, htake⟩⟩ := howr
      · omega
      injection e9 with e1 e2 e3
      subst e1 e3
      have hr : Row wr g 79 cur.toList := by unfold Row; simpa using hh
      obtain ⟨x0, x1, x2, x3⟩ := Hmo.out.cells j hlt
      have hgl : g < w2.heap.size := (owns_lt How2.out g rfl).2
      have hxc : ∀ k u, xs[k]? = some u → cur.toList[k]? = some u := fun k u hk => by
        rw [← htake] at hk
        have hl := (List.getElem?_eq_some_iff.1 hk).1
        rw [List.length_take] at hl
        rwa [List.getElem?_take_of_lt (by omega)] at hk
      have X0 := hxc _ _ x0
      have c0 := (hr.cell (j * 4)).trans X0
      have c1 := (hr.cell (j * 4 + 1)).trans (hxc _ _ x1)
      have c2 := (hr.cell (j * 4 + 2)).trans (hxc _ _ x2)
      have c3 := (hr.cell (j * 4 + 3)).trans (hxc _ _ x3)
      obtain ⟨A1, cap1, e1, -⟩ := Hmo.out.own j false hlt
      obtain ⟨A2, cap2, e2, -⟩ := Hmo.out.own j true hlt
      rw [e1] at c1
      rw [e2] at c3
      have cf0 := hr.frozen (j * 4)
      have hlc : y.fs.length ≤ LC := hc1
      generalize hnme : (y.fs.getD j default).name = nm at *
      generalize (y.fs.getD j default).res = rs at *
      generalize ((y.fs.getD j default).zs false).length = n1 at *
      generalize ((y.fs.getD j default).zs true).length = n2 at *
      have Hr := Lib.hid hr
      have HX0 := Lib.hid X0
      have hjw : IntKind.i64.wrap ((j : Int) + 1) = (j : Int) + 1 := by rw [IntKind.wrap_i64]; omega
      clear hr hxc x0 x1 x2 x3 X0 hh hc1 hc2 hcs htake hxl e1 e2 hg hnme
      go_wp2_with fail
      obtain ⟨W0, hW0⟩ : ∃ u, u = wr.alloc (.cells #[.string nm, .slice A1 n1 cap1, .int .i64 rs, .slice A2 n2 cap2] 79) := ⟨_, rfl⟩
      rw [← hW0]
      have HW0 : Hid (Below w2.heap.size wr W0 ∧ wr.heap.size < W0.heap.size) := by
        rw [hW0]
        exact ⟨(Below.refl _ _).alloc hb.out.size _, by simp⟩
      have HF0 : Hid (Row W0 wr.heap.size 79 [.string nm, .slice A1 n1 cap1, .int .i64 rs, .slice A2 n2 cap2]) := by rw [hW0]; exact Row.new wr 79 _
      have HR0 : Hid (Row W0 g 79 cur.toList) := by rw [hW0]; exact Hr.out.alloc _
      have HO0 : Hid (Row W0 w1.heap.size 38 [.slice VA y.ty.sizes.length VC, .slice WA y.ty.cos.length WC, .slice (some ⟨g, 0, none⟩) y.fs.length LC]) := by rw [hW0]; exact Hro.out.alloc _
      have HLD : Hid (∀ u, Below W0.heap.size W0 u → u.cell? ⟨w1.heap.size, 2, none⟩ = some (.slice (some ⟨g, 0, none⟩) y.fs.length LC) ∧ u.cell? ⟨wr.heap.size, 0, none⟩ = some (.string nm) ∧ (u.cell? ⟨g, j * 4, none⟩ = some (.string nm)) ∧ u.frozen? ⟨g, j * 4, none⟩ = false ∧ Row u g 79 cur.toList) := fun u hu => by
        have r1 := HO0.out.below hu HO0.out.lt
        have r2 := HF0.out.below hu HF0.out.lt
        have r3 := HR0.out.below hu HR0.out.lt
        exact ⟨r1.cell 2, r2.cell 0, (r3.cell _).trans HX0.out, r3.frozen _, r3⟩
      have HWd : Hid (Below W0.heap.size W0 W0.drew) := (Below.refl _ _).drew
      clear hW0 g0 g1 g2 c0 c1 c2 c3 cf0
      refine wp_region_inv (by kernel_rfl) (fun dn ac u => ∃ x16 x17 x18 x19 x20 x21 x22 x23 y8, ac = ⟨List.toArray (.agg #[.slice A y.ty.sizes.length cap, .slice B y.ty.cos.length bap, .slice Q y.fs.length qap] :: .pointer (some ⟨w.heap.size, 0, none⟩) :: .pointer (some ⟨w.heap.size + 1, 0, none⟩) :: .pointer (some ⟨w1.heap.size, 0, none⟩) :: .int .i64 ((j : Nat) : Int) :: .pointer (some ⟨wr.heap.size, 0, none⟩) :: .agg #[.slice A y.ty.sizes.length cap, .slice B y.ty.cos.length bap, .slice Q y.fs.length qap] :: .agg #[.slice VA y.ty.sizes.length VC, .slice WA y.ty.cos.length WC, .slice (some ⟨g, 0, none⟩) y.fs.length LC] :: .pointer (some ⟨w1.heap.size, 2, none⟩) :: .slice (some ⟨g, 0, none⟩) y.fs.length LC :: .int .i64 ((y.fs.length : Nat) : Int) :: .int .i64 ((j : Nat) : Int) :: .bool true :: .int .i64 ((j : Nat) : Int) :: .pointer (some ⟨g, j * 4, none⟩) :: .agg #[.string nm, .slice A1 n1 cap1, .int .i64 rs, .slice A2 n2 cap2] :: x16 :: x17 :: x18 :: x19 :: x20 :: x21 :: x22 :: x23 :: u24 :: undef :: []), []⟩ ∧ DetQ [fun v : Value => v = .pointer (some ⟨w1.heap.size, 2, none⟩), fun v : Value => v = .slice (some ⟨g, 0, none⟩) y.fs.length LC, fun v : Value => v = .int .i64 ((j : Nat) : Int), fun v : Value => v = .pointer (some ⟨wr.heap.size, 0, none⟩), fun v : Value => v = .string nm, fun v : Value => v = .string nm, fun v : Value => v = .pointer (some ⟨g, j * 4, none⟩), fun v : Value => v = .pointer (some ⟨g, j * 4, none⟩), fun v : Value => True] dn [x16, x17, x18, x19, x20, x21, x22, x23, y8] ∧ Ch dn [5, 8] (fun _ u => Below W0.heap.size W0 u) u ∧ True) (of_decide_eq_true (by kernel_rfl)) ⟨_, _, _, _, _, _, _, _, .bool true, rfl, DetQ.start (by rfl), Ch.start HWd.out, trivial⟩ ?_ ?_
      · rintro dn ac u i8 op8 hop hfi hdep ⟨x16, x17, x18, x19, x20, x21, x22, x23, y8, rfl, hD, hC, -⟩
        have hil : i8 < 9 := by have := (Array.getElem?_eq_some_iff.1 hop).1; simpa using this
        obtain rfl | rfl | rfl | rfl | rfl | rfl | rfl | rfl | rfl : i8 = 0 ∨ i8 = 1 ∨ i8 = 2 ∨ i8 = 3 ∨ i8 = 4 ∨ i8 = 5 ∨ i8 = 6 ∨ i8 = 7 ∨ i8 = 8 := by omega
        all_goals
          obtain rfl := Option.some.inj hop
          refine wpOp_step hop fun K hK => ?_
          simp [Region.binds] at hdep
          clear hop
        · refine det_yes rfl ?_
          have HD := Lib.hid hD
          have HC := Lib.hid hC
          clear hD hC
          unfold Oper.wp
          go_simp
          exact hK _ _ ⟨_, _, _, _, _, _, _, _, y8, rfl, HD.out.step 0 rfl rfl, HC.out.other 0 (by decide), trivial⟩
        · obtain rfl : x16 = .pointer (some ⟨w1.heap.size, 2, none⟩) := hD.get (P := fun v : Value => v = .pointer (some ⟨w1.heap.size, 2, none⟩)) 0 (by simp [hdep]) rfl rfl
          obtain ⟨j8, hj8, -, hW⟩ := hC.ex
          have hbu : Below W0.heap.size W0 u := hW
          clear hW
          obtain ⟨d1, d2, d3, d4, -⟩ := HLD.out u hbu
          refine det_yes rfl ?_
          have HD := Lib.hid hD
          have HC := Lib.hid hC
          clear hD hC
          unfold Oper.wp
          go_simp
          exact hK _ _ ⟨_, _, _, _, _, _, _, _, y8, rfl, HD.out.step 1 rfl rfl, HC.out.other 1 (by decide), trivial⟩
        · refine det_yes rfl ?_
          have HD := Lib.hid hD
          have HC := Lib.hid hC
          clear hD hC
          unfold Oper.wp
          go_simp
          exact hK _ _ ⟨_, _, _, _, _, _, _, _, y8, rfl, HD.out.step 2 rfl rfl, HC.out.other 2 (by decide), trivial⟩
        · refine det_yes rfl ?_
          have HD := Lib.hid hD
          have HC := Lib.hid hC
          clear hD hC
          unfold Oper.wp
          go_simp
          exact hK _ _ ⟨_, _, _, _, _, _, _, _, y8, rfl, HD.out.step 3 rfl rfl, HC.out.other 3 (by decide), trivial⟩
        · obtain rfl : x19 = .pointer (some ⟨wr.heap.size, 0, none⟩) := hD.get (P := fun v : Value => v = .pointer (some ⟨wr.heap.size, 0, none⟩)) 3 (by simp [hdep]) rfl rfl
          obtain ⟨j8, hj8, -, hW⟩ := hC.ex
          have hbu : Below W0.heap.size W0 u := hW
          clear hW
          obtain ⟨d1, d2, d3, d4, -⟩ := HLD.out u hbu
          refine det_yes rfl ?_
          have HD := Lib.hid hD
          have HC := Lib.hid hC
          clear hD hC
          unfold Oper.wp
          go_simp
          exact hK _ _ ⟨_, _, _, _, _, _, _, _, y8, rfl, HD.out.step 4 rfl rfl, HC.out.other 4 (by decide), trivial⟩
        · obtain rfl : x20 = .string nm := hD.get (P := fun v : Value => v = .string nm) 4 (by simp [hdep]) rfl rfl
          have hW := hC.at_ 0 (by decide) hfi (by intro j9 e9 _; omega)
          refine det_yes rfl ?_
          have HD := Lib.hid hD
          have HC := Lib.hid hC
          clear hD hC
          have hbu : Below W0.heap.size W0 u := hW
          clear hW
          unfold Oper.wp
          go_simp
          refine (cloneS_any nm _ hnj).mono ?_
          rintro e u2 ⟨rfl, hb8⟩
          have HW2 : (fun _ u => Below W0.heap.size W0 u) 1 u2 := hbu.trans (hb8.mono hbu.size)
          exact hK _ _ ⟨_, _, _, _, _, _, _, _, y8, rfl, HD.out.step 5 rfl (by rfl), HC.out.next 0 (by decide) hfi (by intro j9 e9 _; omega) (by decide) HW2, trivial⟩
        · obtain rfl : x17 = .slice (some ⟨g, 0, none⟩) y.fs.length LC := hD.get (P := fun v : Value => v = .slice (some ⟨g, 0, none⟩) y.fs.length LC) 1 (by simp [hdep]) rfl rfl
          obtain rfl : x18 = .int .i64 ((j : Nat) : Int) := hD.get (P := fun v : Value => v = .int .i64 ((j : Nat) : Int)) 2 (by simp [hdep]) rfl rfl
          refine det_yes rfl ?_
          have HD := Lib.hid hD
          have HC := Lib.hid hC
          clear hD hC
          unfold Oper.wp
          go_simp
          exact hK _ _ ⟨_, _, _, _, _, _, _, _, y8, rfl, HD.out.step 6 rfl rfl, HC.out.other 6 (by decide), trivial⟩
        · obtain rfl : x22 = .pointer (some ⟨g, j * 4, none⟩) := hD.get (P := fun v : Value => v = .pointer (some ⟨g, j * 4, none⟩)) 6 (by simp [hdep]) rfl rfl
          refine det_yes rfl ?_
          have HD := Lib.hid hD
          have HC := Lib.hid hC
          clear hD hC
          unfold Oper.wp
          go_simp
          exact hK _ _ ⟨_, _, _, _, _, _, _, _, y8, rfl, HD.out.step 7 rfl rfl, HC.out.other 7 (by decide), trivial⟩
        · obtain rfl : x23 = .pointer (some ⟨g, j * 4, none⟩) := hD.get (P := fun v : Value => v = .pointer (some ⟨g, j * 4, none⟩)) 7 (by simp [hdep]) rfl rfl
          obtain rfl : x21 = .string nm := hD.get (P := fun v : Value => v = .string nm) 5 (by simp [hdep]) rfl rfl
          have hW := hC.at_ 1 (by decide) hfi (by intro j9 e9 _; have f9 : j9 = 0 := (by omega); subst f9; simp [hdep])
          refine det_yes rfl ?_
          have HD := Lib.hid hD
          have HC := Lib.hid hC
          clear hD hC
          have hbu : Below W0.heap.size W0 u := hW
          clear hW
          obtain ⟨d1, d2, d3, d4, d5⟩ := HLD.out u hbu
          unfold Oper.wp
          go_simp
          have HW2 : (fun _ u => Below W0.heap.size W0 u) 2 (u.setCell ⟨g, j * 4, none⟩ (.string nm)) := Below.set_same hbu d5 HX0.out
          exact hK _ _ ⟨_, _, _, _, _, _, _, _, .bool true, rfl, HD.out.step 8 rfl (by trivial), HC.out.next 1 (by decide) hfi (by intro j9 e9 _; have f9 : j9 = 0 := (by omega); subst f9; simp [hdep]) (by decide) HW2, trivial⟩
      · rintro dn ac u hall ⟨x16, x17, x18, x19, x20, x21, x22, x23, y8, rfl, hD, hC, -⟩
        obtain rfl : x16 = .pointer (some ⟨w1.heap.size, 2, none⟩) := hD.get (P := fun v : Value => v = .pointer (some ⟨w1.heap.size, 2, none⟩)) 0 (hall 0 (by decide)) rfl rfl
        obtain rfl : x17 = .slice (some ⟨g, 0, none⟩) y.fs.length LC := hD.get (P := fun v : Value => v = .slice (some ⟨g, 0, none⟩) y.fs.length LC) 1 (hall 1 (by decide)) rfl rfl
        obtain rfl : x18 = .int .i64 ((j : Nat) : Int) := hD.get (P := fun v : Value => v = .int .i64 ((j : Nat) : Int)) 2 (hall 2 (by decide)) rfl rfl
        obtain rfl : x19 = .pointer (some ⟨wr.heap.size, 0, none⟩) := hD.get (P := fun v : Value => v = .pointer (some ⟨wr.heap.size, 0, none⟩)) 3 (hall 3 (by decide)) rfl rfl
        obtain rfl : x20 = .string nm := hD.get (P := fun v : Value => v = .string nm) 4 (hall 4 (by decide)) rfl rfl
        obtain rfl : x21 = .string nm := hD.get (P := fun v : Value => v = .string nm) 5 (hall 5 (by decide)) rfl rfl
        obtain rfl : x22 = .pointer (some ⟨g, j * 4, none⟩) := hD.get (P := fun v : Value => v = .pointer (some ⟨g, j * 4, none⟩)) 6 (hall 6 (by decide)) rfl rfl
        obtain rfl : x23 = .pointer (some ⟨g, j * 4, none⟩) := hD.get (P := fun v : Value => v = .pointer (some ⟨g, j * 4, none⟩)) 7 (hall 7 (by decide)) rfl rfl
        have hW := hC.all (by intro j9 h9; exact hall _ (by revert j9; decide))
        clear hall hD hC
        have hbf : Below w2.heap.size w2 u := hb.out.trans ((HW0.out.1).trans ((show Below W0.heap.size W0 u from hW).mono (by have := HW0.out.1.size; have := hb.out.size; omega)))
        have HBF := Lib.hid hbf
        clear hW hbf
        go_wp2
        go_roundw
        case rel => exact ⟨j + 1, by omega, by go_num, Lib.hid HBF.out⟩
        case measure => simp [intOf]; omega
    · obtain rfl : j = y.fs.length := by omega
      have hrr := RR2.out.below hb.out (by omega)
      have r0 := hrr.cell 0
      have r1 := hrr.cell 1
      have r2 := hrr.cell 2
      have rf0 := hrr.frozen 0
      have rf1 := hrr.frozen 1
      have rf2 := hrr.frozen 2
      simp only [List.getElem?_cons_zero, List.getElem?_cons_succ] at r0 r1 r2
      have HF := Lib.hid (H2.out.trans (hb.out.mono (by have := H2.out.size; omega)))
      have HO := Lib.hid (Hown2.out.keep hb.out.size fun g _ hg => hb.out.block g hg)
      have hsr := hb.out.size
      clear hrr
      go_wp2
      refine bodyPost_ret (v := .agg #[.slice VA y.ty.sizes.length VC, .slice WA y.ty.cos.length WC, .slice LA y.fs.length LC]) (by simp [results, Try.results48, go_sem, r0, r1, r2]) rfl ?_
      refine ⟨_, _, _, rfl, ((HF.out.setCell (by dsimp only; omega) _).setCell (by dsimp only; omega) _).setCell (by dsimp only; omega) _, HO.out.keep (by simp [World.setCell]) fun g hg _ => ?_⟩
      exact (Below.heap_setCell _ _ _ _ (by dsimp only; omega)).trans ((Below.heap_setCell _ _ _ _ (by dsimp only; omega)).trans (Below.heap_setCell _ _ _ _ (by dsimp only; omega)))
end Go.Proofs.Ytplncocfbajefaa

