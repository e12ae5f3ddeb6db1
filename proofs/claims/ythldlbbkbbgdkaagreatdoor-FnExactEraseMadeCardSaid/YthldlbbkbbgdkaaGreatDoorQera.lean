/-
  The program's erased: what an explicit term leaves, as a term node.
-/
import Derived.Test.YthldlbbkbbgdkaaGreatDoorQmrz
import Derived.Test.YthldlbbkbbgdkaaGreatDoorZ2
namespace Go.Proofs.YthldlbbkbbgdkaaGreatDoor
open Go.RowKit Go.Shelf

/-- A term that was made in an earlier world; its rows are not the row of ps. -/
def TIn (w : World) (B : Nat) (ps : Value) (m : Tm) (v : Value) : Prop :=
  ∃ wa Bm, B ≤ Bm ∧ NodeAt wa Bm m v ∧ wa.heap.size ≤ w.heap.size ∧ ∀ j, Bm ≤ j → j < wa.heap.size → w.heap[j]? = wa.heap[j]? ∧ ps.ownBlock ≠ some j
def TIns (w : World) (B : Nat) (ps : Value) : List Tm → List Value → Prop
  | [], [] => True
  | m :: ms, v :: vs => TIn w B ps m v ∧ TIns w B ps ms vs
  | _, _ => False
theorem TIn.node {w : World} {B : Nat} {ps : Value} {m : Tm} {v : Value} (h : TIn w B ps m v) : NodeAt w B m v := by
  obtain ⟨wa, Bm, hB, hn, _, hs⟩ := h
  exact (hn.same fun g hg hw => (hs g hg hw).1).base hB
theorem TIn.keep {w w' : World} {B : Nat} {ps ps' : Value} {m : Tm} {v : Value} (h : TIn w B ps m v) (hsz : w.heap.size ≤ w'.heap.size) (hk : ∀ j, B ≤ j → j < w.heap.size → ps.ownBlock ≠ some j → w'.heap[j]? = w.heap[j]?) (hp : ps'.ownBlock = ps.ownBlock ∨ ∃ g, ps'.ownBlock = some g ∧ w.heap.size ≤ g) : TIn w' B ps' m v := by
  obtain ⟨wa, Bm, hB, hn, hw, hs⟩ := h
  refine ⟨wa, Bm, hB, hn, by omega, fun j hj hj2 => ?_⟩
  obtain ⟨h1, h2⟩ := hs j hj hj2
  refine ⟨(hk j (by omega) (by omega) h2).trans h1, ?_⟩
  rcases hp with e | ⟨g, e, hg⟩
  · rw [e]; exact h2
  · rw [e]; intro e2; injection e2 with e2; omega
theorem TIns.keep {w w' : World} {B : Nat} {ps ps' : Value} (hsz : w.heap.size ≤ w'.heap.size) (hk : ∀ j, B ≤ j → j < w.heap.size → ps.ownBlock ≠ some j → w'.heap[j]? = w.heap[j]?) (hp : ps'.ownBlock = ps.ownBlock ∨ ∃ g, ps'.ownBlock = some g ∧ w.heap.size ≤ g) : ∀ {ms : List Tm} {vs : List Value}, TIns w B ps ms vs → TIns w' B ps' ms vs
  | [], [], _ => trivial
  | _ :: _, _ :: _, ⟨h, g⟩ => ⟨h.keep hsz hk hp, g.keep hsz hk hp⟩
theorem TIns.snoc {w : World} {B : Nat} {ps : Value} {m : Tm} {v : Value} (ht : TIn w B ps m v) : ∀ {ms : List Tm} {vs : List Value}, TIns w B ps ms vs → TIns w B ps (ms ++ [m]) (vs ++ [v])
  | [], [], _ => ⟨ht, trivial⟩
  | _ :: _, _ :: _, ⟨h, g⟩ => ⟨h, g.snoc ht⟩
theorem TIns.nodes {w : World} {B : Nat} {ps : Value} : ∀ {ms : List Tm} {vs : List Value}, TIns w B ps ms vs → NodesAt w B ms vs
  | [], [], _ => trivial
  | _ :: _, _ :: _, ⟨h, g⟩ => ⟨h.node, g.nodes⟩

/-- A method of a node, by the type that it has. -/
def Meth (nm : String) (T : TypeId) (x : Value) (f : FuncId) : Prop :=
  (∀ u : World, (Go.method 459 T x nm).run Tryz.prog u = .ok (f, x) u) ∧ (∀ u : World, (Go.nilAhead 459 T x nm).run Tryz.prog u = .ok (some false) u) ∧ (∀ (args : Array Value) (u : World), (callFunc f args).run Tryz.prog u = .ok (.enter f args) u)

set_option maxRecDepth 100000 in
set_option maxHeartbeats 1000000 in
theorem eraseLit_any (k v : Int) (sv cv fv : Value) (w : World) :
    Calls Tryz.prog 285 #[.agg #[.int .i64 k, .int .i64 v], .agg #[sv, cv, fv]] w fun e w' => e = .returned (.iface 201 (.agg #[.int .i64 k, .int .i64 v])) ∧ Below w.heap.size w w' := by
  have HB : Hid (Below w.heap.size w ((w.alloc (.cells #[.int .i64 k, .int .i64 v] 201)).alloc (.cells #[sv, cv, fv] 37))) := ((Below.refl _ _).alloc (Nat.le_refl _) _).alloc (by simp) _
  have r0 := (Row.new w 201 [.int .i64 k, .int .i64 v]).alloc (.cells #[sv, cv, fv] 37)
  have m0 := r0.cell 0
  have m1 := r0.cell 1
  simp only [List.getElem?_cons_zero, List.getElem?_cons_succ] at m0 m1
  clear r0
  go_enter Tryz.func285, Tryz.ntmps285
  go_wp2
  go_ret
  exact ⟨rfl, HB.out⟩

/-- What erasing a node comes to, in all worlds behind the one in which it was read. -/
def Erases (y : Sy) (t : Tm) (o : Value) (w : World) : Prop :=
  ∃ T x f, o = .iface T x ∧ Meth "loop.example/overloads/impl.erased" T x f ∧ ∀ lo hi sv cv fv u, SyAt u lo hi sv cv fv y → hi ≤ u.heap.size → Below w.heap.size w u →
    Calls Tryz.prog f #[x, .agg #[sv, cv, fv]] u fun e w' => ∃ v, e = .returned v ∧ NodeAt w' u.heap.size t v ∧ Below u.heap.size u w'

set_option maxRecDepth 100000 in
set_option maxHeartbeats 1000000 in
theorem eraseCo_any (lo hi : Nat) (i : Int) (o sv cv fv : Value) (y : Sy) (t : Tm) (w0 w : World) (hE : Erases y t o w0) (hv : SyAt w lo hi sv cv fv y) (hB : hi ≤ w.heap.size) (hb : Below w0.heap.size w0 w) :
    Calls Tryz.prog 279 #[.agg #[.int .i64 i, o], .agg #[sv, cv, fv]] w fun e w' => ∃ v, e = .returned v ∧ NodeAt w' w.heap.size t v ∧ Below w.heap.size w w' := by
  obtain ⟨A1, cap1, rfl, _, _, _⟩ := hv.1.1.form
  obtain ⟨A2, cap2, rfl, _, _, _⟩ := hv.1.2.form
  obtain ⟨A3, cap3, rfl, _, _, _⟩ := hv.2.form
  obtain ⟨T, x, f, rfl, ⟨hmeth, hnil, hent⟩, hcall⟩ := hE
  have hb1 : Below w.heap.size w ((w.alloc (.cells #[.int .i64 i, .iface T x] 173)).alloc (.cells #[.slice A1 y.ty.sizes.length cap1, .slice A2 y.ty.cos.length cap2, .slice A3 y.fs.length cap3] 37)) := ((Below.refl _ _).alloc (Nat.le_refl _) _).alloc (by simp) _
  have HC := Lib.hid (hcall lo hi _ _ _ _ (hv.below hb1 hB) (by simp; omega) (hb.trans (hb1.mono hb.size)))
  have r0 := (Row.new w 173 [.int .i64 i, .iface T x]).alloc (.cells #[.slice A1 y.ty.sizes.length cap1, .slice A2 y.ty.cos.length cap2, .slice A3 y.fs.length cap3] 37)
  have r1 := Row.new (w.alloc (.cells #[.int .i64 i, .iface T x] 173)) 37 [.slice A1 y.ty.sizes.length cap1, .slice A2 y.ty.cos.length cap2, .slice A3 y.fs.length cap3]
  rw [World.size_alloc] at r1
  have m1 := r0.cell 1
  have q0 := r1.cell 0
  have q1 := r1.cell 1
  have q2 := r1.cell 2
  simp only [List.getElem?_cons_zero, List.getElem?_cons_succ] at m1 q0 q1 q2
  have HB1 := Lib.hid hb1
  clear hb1 hcall hv hb r0 r1
  go_enter Tryz.func279, Tryz.ntmps279
  go_wp2_with fail
  refine HC.out.mono ?_
  rintro e w2 ⟨v, rfl, hno, hb2⟩
  have HN : Hid (NodeAt w2 w.heap.size t v) := hno.base (by simp; omega)
  have HB2 := Lib.hid (HB1.out.trans (hb2.mono HB1.out.size))
  clear hno hb2
  go_wp2
  go_ret
  exact ⟨_, rfl, HN.out, HB2.out⟩

def ErFact (t : Tm) (wd : World) (v : Value) (u : World) : Prop := NodeAt u wd.heap.size t v ∧ Below wd.heap.size wd u

set_option maxRecDepth 100000 in
set_option maxHeartbeats 8000000 in
theorem eraseAp_any (lo hi : Nat) (i : Nat) (sv cv fv ps : Value) (y : Sy) (hy : SyOk y) (ts : List Mk) (ws : List Value) (B : Nat) (w0 w : World) (hif : i < y.fs.length) (h2 : ts.length ≤ 2) (hown : w0.ownsRow B 82 1 ps ts.length ws) (hE : ∀ k (h : k < ts.length), ∃ o, ws[k]? = some o ∧ Erases y (erM y ts[k]) o w0) (hv : SyAt w lo hi sv cv fv y) (hB : hi ≤ w.heap.size) (hb : Below w0.heap.size w0 w) :
    Calls Tryz.prog 282 #[.agg #[.int .i64 i, ps], .agg #[sv, cv, fv]] w fun e w' => ∃ v, e = .returned v ∧ NodeAt w' w.heap.size (mkCall (nmOf y i) (ts.map (erM y))) v ∧ Below w.heap.size w w' := by
  obtain ⟨A1, cap1, rfl, _, _, _⟩ := hv.1.1.form
  obtain ⟨A2, cap2, rfl, _, _, _⟩ := hv.1.2.form
  obtain ⟨A3, cap3, rfl, _, _, _⟩ := hv.2.form
  obtain ⟨fb, foff, A5, cap5, A6, cap6, rfl, _, _, k0, k9⟩ := hv.2.at_ hif
  clear k9
  obtain ⟨hnm, -⟩ := nmOf_name hy hif
  rw [hnm] at k0
  obtain ⟨nm, hnm2⟩ : ∃ nm, nm = nmOf y i := ⟨_, rfl⟩
  rw [← hnm2] at k0 ⊢
  clear hnm2
  obtain ⟨PA, PC, rfl⟩ := own_lt0 hown
  have h21 : Below w.heap.size w ((w.alloc (.cells #[.int .i64 i, .slice PA ts.length PC] 176)).alloc (.cells #[.slice A1 y.ty.sizes.length cap1, .slice A2 y.ty.cos.length cap2, .slice (some ⟨fb, foff, none⟩) y.fs.length cap3] 37)) := ((Below.refl _ _).alloc (Nat.le_refl _) _).alloc (by simp) _
  obtain ⟨w4, hw4⟩ : ∃ u, u = ((w.alloc (.cells #[.int .i64 i, .slice PA ts.length PC] 176)).alloc (.cells #[.slice A1 y.ty.sizes.length cap1, .slice A2 y.ty.cos.length cap2, .slice (some ⟨fb, foff, none⟩) y.fs.length cap3] 37)).alloc (.cells #[.string (str [nm]), .slice none 0 0] 110) := ⟨_, rfl⟩
  have HB4 : Hid (Below w.heap.size w w4) := by show Below _ _ _; rw [hw4]; exact h21.alloc (by simp; omega) _
  have hs4 : w4.heap.size = w.heap.size + 3 := by rw [hw4]; simp
  have hr0 := (Row.new w 176 [.int .i64 i, .slice PA ts.length PC]).alloc (.cells #[.slice A1 y.ty.sizes.length cap1, .slice A2 y.ty.cos.length cap2, .slice (some ⟨fb, foff, none⟩) y.fs.length cap3] 37)
  have hr1 := Row.new (w.alloc (.cells #[.int .i64 i, .slice PA ts.length PC] 176)) 37 [.slice A1 y.ty.sizes.length cap1, .slice A2 y.ty.cos.length cap2, .slice (some ⟨fb, foff, none⟩) y.fs.length cap3]
  have hr2 := Row.new ((w.alloc (.cells #[.int .i64 i, .slice PA ts.length PC] 176)).alloc (.cells #[.slice A1 y.ty.sizes.length cap1, .slice A2 y.ty.cos.length cap2, .slice (some ⟨fb, foff, none⟩) y.fs.length cap3] 37)) 110 [.string (str [nm]), .slice none 0 0]
  simp only [World.size_alloc] at hr1 hr2
  have p0 := hr0.cell 0
  have p2 := hr1.cell 2
  simp only [List.getElem?_cons_zero, List.getElem?_cons_succ] at p0 p2
  have R4 : Hid (Row w4 w.heap.size 176 [.int .i64 i, .slice PA ts.length PC]) := by show Row _ _ _ _; rw [hw4]; exact hr0.alloc _
  have S4 : Hid (Row w4 (w.heap.size + 1) 37 [.slice A1 y.ty.sizes.length cap1, .slice A2 y.ty.cos.length cap2, .slice (some ⟨fb, foff, none⟩) y.fs.length cap3]) := by show Row _ _ _ _; rw [hw4]; exact hr1.alloc _
  have V4 : Hid (Row w4 (w.heap.size + 2) 110 [.string (str [nm]), .slice none 0 0]) := by show Row _ _ _ _; rw [hw4]; exact hr2
  have k2 := (World.cell?_of_block (w := w) (h21.block fb (World.block_lt_of_cell? _ _ k0))).trans k0
  have m1 := R4.out.cell 1
  simp only [List.getElem?_cons_zero, List.getElem?_cons_succ] at m1
  rw [hw4] at m1
  have HV := Lib.hid hv
  have HE := Lib.hid hE
  have HO := Lib.hid hown
  have HB0 := Lib.hid hb
  have h0s := hb.size
  obtain ⟨i0, hi0, hz0, hz1, hz2⟩ := info_parts (show (Tryz.prog.info? 86).map (fun i => (i.zero, i.size, i.bytes)) = some (some .nilIface, 1, 16) by kernel_rfl)
  clear h21 hr0 hr1 hr2 hv hE hown hb k0 hnm
  go_enter Tryz.func282, Tryz.ntmps282
  go_wp2_with fail
  rw [← hw4]
  clear hw4 p0 p2 k2 m1
  obtain ⟨b5, hb5⟩ : ∃ b5, b5 = w.heap.size + 1 + 1 := ⟨_, rfl⟩
  rw [← hb5]
  have V4 : Hid (Row w4 b5 110 [.string (str [nm]), .slice none 0 0]) := by show Row _ _ _ _; rw [hb5]; exact V4.out
  have hb5l : w.heap.size + 2 ≤ b5 := by omega
  have hb5u : b5 ≤ w.heap.size + 2 := by omega
  clear hb5
  go_loopw [19] (fun ix wr => ∃ (k : Nat) (ms : List Tm) (QS : Value) (vs : List Value), k ≤ ts.length ∧ ix = .int .i64 k ∧ Hid (ms = (ts.take k).map (erM y)) ∧ Hid (Below w.heap.size w wr) ∧ Hid (w4.heap.size ≤ wr.heap.size ∧ ∀ j, j < w4.heap.size → j ≠ b5 → wr.heap[j]? = w4.heap[j]?) ∧ Hid (Row wr b5 110 [.string (str [nm]), QS]) ∧ Hid (wr.ownsRow w4.heap.size 86 1 QS ms.length vs) ∧ Hid (TIns wr w4.heap.size QS ms vs)) (fun ix _ => ts.length - (intOf ix).toNat)
  case atStart => exact ⟨0, [], .slice none 0 0, [], Nat.zero_le _, rfl, rfl, HB4.out, ⟨Nat.le_refl _, fun _ _ _ => rfl⟩, V4.out, ⟨by simp, .inl ⟨rfl, rfl⟩⟩, trivial⟩
  case round =>
    obtain ⟨k, ms, QS, vs, hk, rfl, hml, HBr, HK4r, HVr, HOr, HIr⟩ := hrel
    have hwr := HK4r.out.1
    have R4r : Hid (Row wr w.heap.size 176 [.int .i64 i, .slice PA ts.length PC]) := R4.out.keep (HK4r.out.2 _ (by omega) (by omega))
    have S4r : Hid (Row wr (w.heap.size + 1) 37 [.slice A1 y.ty.sizes.length cap1, .slice A2 y.ty.cos.length cap2, .slice (some ⟨fb, foff, none⟩) y.fs.length cap3]) := S4.out.keep (HK4r.out.2 _ (by omega) (by omega))
    clear HB4 V4
    obtain ⟨QA, QC, rfl⟩ := own_slice9 HOr.out
    by_cases hkl : k < ts.length
    · obtain ⟨g, hPA, hcell⟩ := own_at7 HO.out k hkl
      obtain ⟨o, ho, T, x, f, rfl, hM, hcall⟩ := HE.out k hkl
      have hgw : g < w0.heap.size := World.block_lt_of_cell? _ _ (hcell.trans ho)
      have hck : wr.cell? ⟨g, k, none⟩ = some (.iface T x) := (World.cell?_of_block (w := w) (HBr.out.block g (by omega))).trans ((World.cell?_of_block (w := w0) (HB0.out.block g hgw)).trans (hcell.trans ho))
      subst hPA
      have hmlen : ms.length = k := by rw [hml.out]; simp; omega
      have HML := Lib.hid hmlen
      have hk2 : k < 2 := by omega
      have q0 := S4r.out.cell 0
      have q1 := S4r.out.cell 1
      have q2 := S4r.out.cell 2
      simp only [List.getElem?_cons_zero, List.getElem?_cons_succ] at q0 q1 q2
      have HCL : Hid (Calls Tryz.prog f #[x, .agg #[.slice A1 y.ty.sizes.length cap1, .slice A2 y.ty.cos.length cap2, .slice (some ⟨fb, foff, none⟩) y.fs.length cap3]] wr.drew fun e w' => ∃ v, e = .returned v ∧ ErFact (erM y ts[k]) wr.drew v w' ∧ Below wr.drew.heap.size wr.drew w') := by
        have hbd : Below w.heap.size w wr.drew := ⟨HBr.out.os, HBr.out.tape, HBr.out.output, HBr.out.size, HBr.out.block⟩
        refine (hcall lo hi _ _ _ wr.drew (HV.out.below hbd hB) (Nat.le_trans hB hbd.size) (HB0.out.trans (hbd.mono HB0.out.size))).mono ?_
        rintro e w' ⟨v, rfl, hno, hb⟩
        exact ⟨v, rfl, ⟨hno, hb⟩, hb⟩
      obtain ⟨hmeth, hnil, hent⟩ := hM
      clear hmlen hcell ho hcall
      go_wp2_with fail
      have d0 : wr.drew.cell? ⟨w.heap.size + 1, 0, none⟩ = some (.slice A1 y.ty.sizes.length cap1) := q0
      have d1 : wr.drew.cell? ⟨w.heap.size + 1, 1, none⟩ = some (.slice A2 y.ty.cos.length cap2) := q1
      have d2 : wr.drew.cell? ⟨w.heap.size + 1, 2, none⟩ = some (.slice (some ⟨fb, foff, none⟩) y.fs.length cap3) := q2
      have HLD : Hid (∀ (x27 x28 x29 : Value) (j : Nat) (u : World), j ≤ 2 → WAp wr.drew (ErFact (erM y ts[k]) wr.drew) w4.heap.size 86 (.slice QA ms.length QC) ms.length vs ⟨b5, 1, none⟩ x27 x28 x29 j u → u.cell? ⟨b5, 1, none⟩ = some (.slice QA ms.length QC)) := fun x27 x28 x29 j u hj hW => by
        have hc : ∀ u1, Below wr.drew.heap.size wr.drew u1 → Row u1 b5 110 [.string (str [nm]), (.slice QA ms.length QC)] := fun u1 hk => HVr.out.keep (hk.block _ (show b5 < wr.heap.size by omega))
        match j, hj, hW with
        | 0, _, hW =>
          have hu : u = wr.drew := hW
          rw [hu]
          exact Row.cell HVr.out 1
        | 1, _, hW =>
          obtain ⟨hno, hk⟩ := hW
          exact (hc u hk).cell 1
        | 2, _, hW =>
          obtain ⟨u1, ⟨hno, hk⟩, hu, _⟩ := hW
          rw [hu]
          exact ((hc u1 hk).alloc _).cell 1
      clear q0 q1 q2
      refine wp_region_inv (by kernel_rfl) (fun dn ac u => ∃ x23 x24 x25 x26 x27 x28 x29 x30 y8, ac = ⟨List.toArray (.agg #[.int .i64 i, .slice (some ⟨g, 0, none⟩) ts.length PC] :: .agg #[.slice A1 y.ty.sizes.length cap1, .slice A2 y.ty.cos.length cap2, .slice (some ⟨fb, foff, none⟩) y.fs.length cap3] :: .pointer (some ⟨w.heap.size, 0, none⟩) :: .pointer (some ⟨w.heap.size + 1, 0, none⟩) :: .nilIface :: .pointer (some ⟨b5, 0, none⟩) :: undef :: .iface T x :: .pointer (some ⟨w.heap.size + 1, 2, none⟩) :: .slice (some ⟨fb, foff, none⟩) y.fs.length cap3 :: .pointer (some ⟨w.heap.size, 0, none⟩) :: .int .i64 i :: .pointer (some ⟨fb, foff + i * 4, none⟩) :: .pointer (some ⟨fb, foff + i * 4, none⟩) :: .string (str [nm]) :: .agg #[.string (str [nm]), .slice none 0 0] :: .pointer (some ⟨w.heap.size, 1, none⟩) :: .slice (some ⟨g, 0, none⟩) ts.length PC :: .int .i64 ts.length :: .int .i64 k :: .bool true :: .pointer (some ⟨g, k, none⟩) :: .iface T x :: x23 :: x24 :: x25 :: x26 :: x27 :: x28 :: x29 :: x30 :: u31 :: undef :: undef :: []), []⟩ ∧ DetQ [fun v : Value => v = .pointer (some ⟨b5, 1, none⟩), fun v : Value => v = .slice QA ms.length QC, fun v : Value => v = .iface T x, fun v : Value => v = .agg #[.slice A1 y.ty.sizes.length cap1, .slice A2 y.ty.cos.length cap2, .slice (some ⟨fb, foff, none⟩) y.fs.length cap3], fun v : Value => True, fun v : Value => True, fun v : Value => True, fun v : Value => v = .pointer (some ⟨b5, 1, none⟩), fun v : Value => True] dn [x23, x24, x25, x26, x27, x28, x29, x30, y8] ∧ Ch dn [4, 5, 6, 8] (WAp wr.drew (ErFact (erM y ts[k]) wr.drew) w4.heap.size 86 (.slice QA ms.length QC) ms.length vs ⟨b5, 1, none⟩ x27 x28 x29) u ∧ (dn 6 = true → dn 1 = true) ∧ (dn 4 = true → dn 3 = true)) (of_decide_eq_true (by kernel_rfl)) ⟨_, _, _, _, _, _, _, _, .bool true, rfl, DetQ.start (by rfl), Ch.start rfl, (fun h => (by cases h)), (fun h => (by cases h))⟩ ?_ ?_
      · rintro dn ac u i8 op8 hop hfi hdep ⟨x23, x24, x25, x26, x27, x28, x29, x30, y8, rfl, hD, hC, hc0, hc1⟩
        have hil : i8 < 9 := by have := (Array.getElem?_eq_some_iff.1 hop).1; simpa using this
        obtain rfl | rfl | rfl | rfl | rfl | rfl | rfl | rfl | rfl : i8 = 0 ∨ i8 = 1 ∨ i8 = 2 ∨ i8 = 3 ∨ i8 = 4 ∨ i8 = 5 ∨ i8 = 6 ∨ i8 = 7 ∨ i8 = 8 := by omega
        all_goals
          obtain rfl := Option.some.inj hop
          refine wpOp_step hop fun K hK => ?_
          simp [Region.binds] at hdep
          clear hop
        · refine det_yes rfl ?_
          have HD := Lib.hid hD
          have HC := Lib.hid hC
          clear hD hC
          unfold Oper.wp
          go_simp
          exact hK _ _ ⟨_, _, _, _, _, _, _, _, y8, rfl, HD.out.step 0 rfl rfl, HC.out.other 0 (by decide), (fun h => (by have h2 := hc0; have h3 := hfi; simp at h h2 ⊢; first | done | exact h2 h | exact Or.inr (h2 h) | simp [hdep] | (rcases h with h | h; · simp_all; · exact Or.inr (h2 h)) | simp_all)), (fun h => (by have h2 := hc1; have h3 := hfi; simp at h h2 ⊢; first | done | exact h2 h | exact Or.inr (h2 h) | simp [hdep] | (rcases h with h | h; · simp_all; · exact Or.inr (h2 h)) | simp_all))⟩
        · obtain rfl : x23 = .pointer (some ⟨b5, 1, none⟩) := hD.get (P := fun v : Value => v = .pointer (some ⟨b5, 1, none⟩)) 0 (by simp [hdep]) rfl rfl
          have hn : dn 6 = false := by
            cases h : dn 6 with
            | false => rfl
            | true => have h := hc0 h; rw [hfi] at h; cases h
          obtain ⟨j8, hj8, hW⟩ := hC.early 2 (by decide) hn
          have HLC : u.cell? ⟨b5, 1, none⟩ = some (.slice QA ms.length QC) := HLD.out _ _ _ j8 u hj8 hW
          clear hW
          refine det_yes rfl ?_
          have HD := Lib.hid hD
          have HC := Lib.hid hC
          clear hD hC
          unfold Oper.wp
          go_simp
          exact hK _ _ ⟨_, _, _, _, _, _, _, _, y8, rfl, HD.out.step 1 rfl rfl, HC.out.other 1 (by decide), (fun h => (by have h2 := hc0; have h3 := hfi; simp at h h2 ⊢; first | done | exact h2 h | exact Or.inr (h2 h) | simp [hdep] | (rcases h with h | h; · simp_all; · exact Or.inr (h2 h)) | simp_all)), (fun h => (by have h2 := hc1; have h3 := hfi; simp at h h2 ⊢; first | done | exact h2 h | exact Or.inr (h2 h) | simp [hdep] | (rcases h with h | h; · simp_all; · exact Or.inr (h2 h)) | simp_all))⟩
        · refine det_yes rfl ?_
          have HD := Lib.hid hD
          have HC := Lib.hid hC
          clear hD hC
          unfold Oper.wp
          go_simp
          exact hK _ _ ⟨_, _, _, _, _, _, _, _, y8, rfl, HD.out.step 2 rfl rfl, HC.out.other 2 (by decide), (fun h => (by have h2 := hc0; have h3 := hfi; simp at h h2 ⊢; first | done | exact h2 h | exact Or.inr (h2 h) | simp [hdep] | (rcases h with h | h; · simp_all; · exact Or.inr (h2 h)) | simp_all)), (fun h => (by have h2 := hc1; have h3 := hfi; simp at h h2 ⊢; first | done | exact h2 h | exact Or.inr (h2 h) | simp [hdep] | (rcases h with h | h; · simp_all; · exact Or.inr (h2 h)) | simp_all))⟩
        · have hn : dn 4 = false := by
            cases h : dn 4 with
            | false => rfl
            | true => have h := hc1 h; rw [hfi] at h; cases h
          obtain ⟨j8, hj8, hW⟩ := hC.early 0 (by decide) hn
          obtain rfl : j8 = 0 := by omega
          have hu : u = wr.drew := hW
          subst hu
          clear hW
          refine det_yes rfl ?_
          have HD := Lib.hid hD
          have HC := Lib.hid hC
          clear hD hC
          unfold Oper.wp
          go_simp
          exact hK _ _ ⟨_, _, _, _, _, _, _, _, y8, rfl, HD.out.step 3 rfl rfl, HC.out.other 3 (by decide), (fun h => (by have h2 := hc0; have h3 := hfi; simp at h h2 ⊢; first | done | exact h2 h | exact Or.inr (h2 h) | simp [hdep] | (rcases h with h | h; · simp_all; · exact Or.inr (h2 h)) | simp_all)), (fun h => (by have h2 := hc1; have h3 := hfi; simp at h h2 ⊢; first | done | exact h2 h | exact Or.inr (h2 h) | simp [hdep] | (rcases h with h | h; · simp_all; · exact Or.inr (h2 h)) | simp_all))⟩
        · obtain rfl : x25 = .iface T x := hD.get (P := fun v : Value => v = .iface T x) 2 (by simp [hdep]) rfl rfl
          obtain rfl : x26 = .agg #[.slice A1 y.ty.sizes.length cap1, .slice A2 y.ty.cos.length cap2, .slice (some ⟨fb, foff, none⟩) y.fs.length cap3] := hD.get (P := fun v : Value => v = .agg #[.slice A1 y.ty.sizes.length cap1, .slice A2 y.ty.cos.length cap2, .slice (some ⟨fb, foff, none⟩) y.fs.length cap3]) 3 (by simp [hdep]) rfl rfl
          have hW := hC.at_ 0 (by decide) hfi (by intro j9 e9 _; omega)
          refine det_yes rfl ?_
          have HD := Lib.hid hD
          have HC := Lib.hid hC
          clear hD hC
          have hu : u = wr.drew := hW
          subst hu
          clear hW
          unfold Oper.wp
          go_simp
          refine HCL.out.mono ?_
          rintro e u2 ⟨v, rfl, hC9, hb9⟩
          have HW2 : WAp wr.drew (ErFact (erM y ts[k]) wr.drew) w4.heap.size 86 (.slice QA ms.length QC) ms.length vs ⟨b5, 1, none⟩ v x28 x29 1 u2 := hC9
          exact hK _ _ ⟨_, _, _, _, _, _, _, _, y8, rfl, HD.out.step 4 rfl (by trivial), HC.out.next 0 (by decide) hfi (by intro j9 e9 _; omega) (by decide) HW2, (fun h => (by have h2 := hc0; have h3 := hfi; simp at h h2 ⊢; first | done | exact h2 h | exact Or.inr (h2 h) | simp [hdep] | (rcases h with h | h; · simp_all; · exact Or.inr (h2 h)) | simp_all)), (fun h => (by have h2 := hc1; have h3 := hfi; simp at h h2 ⊢; first | done | exact h2 h | exact Or.inr (h2 h) | simp [hdep] | (rcases h with h | h; · simp_all; · exact Or.inr (h2 h)) | simp_all))⟩
        · have hW := hC.at_ 1 (by decide) hfi (by intro j9 e9 _; have f9 : j9 = 0 := (by omega); subst f9; simp [hdep])
          refine det_yes rfl ?_
          have HD := Lib.hid hD
          have HC := Lib.hid hC
          clear hD hC
          obtain ⟨hno, hk⟩ := hW
          obtain ⟨T9, x9, rfl⟩ := hno.form
          have HW2 : WAp wr.drew (ErFact (erM y ts[k]) wr.drew) w4.heap.size 86 (.slice QA ms.length QC) ms.length vs ⟨b5, 1, none⟩ (.iface T9 x9) (.slice (some ⟨u.heap.size, 0, none⟩) 1 1) x29 2 (u.alloc (.cells #[.iface T9 x9] 86)) := ⟨u, ⟨hno, hk⟩, rfl, rfl⟩
          have HWW := Lib.hid HW2
          clear HW2 hno hk
          unfold Oper.wp
          go_simp
          have HW2 := HWW.out
          exact hK _ _ ⟨_, _, _, _, _, _, _, _, y8, rfl, HD.out.step 5 rfl (by trivial), HC.out.next 1 (by decide) hfi (by intro j9 e9 _; have f9 : j9 = 0 := (by omega); subst f9; simp [hdep]) (by decide) HW2, (fun h => (by have h2 := hc0; have h3 := hfi; simp at h h2 ⊢; first | done | exact h2 h | exact Or.inr (h2 h) | simp [hdep] | (rcases h with h | h; · simp_all; · exact Or.inr (h2 h)) | simp_all)), (fun h => (by have h2 := hc1; have h3 := hfi; simp at h h2 ⊢; first | done | exact h2 h | exact Or.inr (h2 h) | simp [hdep] | (rcases h with h | h; · simp_all; · exact Or.inr (h2 h)) | simp_all))⟩
        · obtain rfl : x24 = .slice QA ms.length QC := hD.get (P := fun v : Value => v = .slice QA ms.length QC) 1 (by simp [hdep]) rfl rfl
          have hW := hC.at_ 2 (by decide) hfi (by intro j9 e9 _; have f9 : j9 = 1 := (by omega); subst f9; simp [hdep])
          have HD := Lib.hid hD
          have HC := Lib.hid hC
          clear hD hC
          obtain ⟨u1, hC1, rfl, rfl⟩ := hW
          obtain ⟨hno, hk⟩ := hC1
          obtain ⟨T9, x9, rfl⟩ := hno.form
          have hsz : wr.heap.size ≤ u1.heap.size := hk.size
          have hown1 : (u1.alloc (.cells #[.iface T9 x9] 86)).ownsRow w4.heap.size 86 1 (.slice QA ms.length QC) ms.length vs := own_same7 HOr.out (fun g hg hw => (((Below.refl _ _).alloc (Nat.le_refl _) _).block g (Nat.lt_of_lt_of_le hw hsz)).trans (hk.block g (show g < wr.heap.size from hw)))
          have hcell : (u1.alloc (.cells #[.iface T9 x9] 86)).cell? ⟨u1.heap.size, 0, none⟩ = some (.iface T9 x9) := (Row.new u1 86 [.iface T9 x9]).cell 0
          have hmlv := HML.out
          refine step_push rfl (.tmp 24) (.tmp 28) 108 rfl i0 .nilIface 16 Tryz.underlying108 hi0 hz0 hz1 hz2 rfl rfl hown1 ⟨u1.heap.size, 0, none⟩ 1 (.iface T9 x9) rfl hcell rfl (by unfold maxLen; omega) (by omega) (by rw [World.size_alloc]; omega) ?_
          intro v9 w9 hpu
          have HW2 : WAp wr.drew (ErFact (erM y ts[k]) wr.drew) w4.heap.size 86 (.slice QA ms.length QC) ms.length vs ⟨b5, 1, none⟩ (.iface T9 x9) (.slice (some ⟨u1.heap.size, 0, none⟩) 1 1) v9 3 w9 := ⟨u1, ⟨hno, hk⟩, hpu⟩
          exact hK _ _ ⟨_, _, _, _, _, _, _, _, y8, rfl, HD.out.step 6 rfl (by trivial), HC.out.next 2 (by decide) hfi (by intro j9 e9 _; have f9 : j9 = 1 := (by omega); subst f9; simp [hdep]) (by decide) HW2, (fun h => (by have h2 := hc0; have h3 := hfi; simp at h h2 ⊢; first | done | exact h2 h | exact Or.inr (h2 h) | simp [hdep] | (rcases h with h | h; · simp_all; · exact Or.inr (h2 h)) | simp_all)), (fun h => (by have h2 := hc1; have h3 := hfi; simp at h h2 ⊢; first | done | exact h2 h | exact Or.inr (h2 h) | simp [hdep] | (rcases h with h | h; · simp_all; · exact Or.inr (h2 h)) | simp_all))⟩
        · refine det_yes rfl ?_
          have HD := Lib.hid hD
          have HC := Lib.hid hC
          clear hD hC
          unfold Oper.wp
          go_simp
          exact hK _ _ ⟨_, _, _, _, _, _, _, _, y8, rfl, HD.out.step 7 rfl rfl, HC.out.other 7 (by decide), (fun h => (by have h2 := hc0; have h3 := hfi; simp at h h2 ⊢; first | done | exact h2 h | exact Or.inr (h2 h) | simp [hdep] | (rcases h with h | h; · simp_all; · exact Or.inr (h2 h)) | simp_all)), (fun h => (by have h2 := hc1; have h3 := hfi; simp at h h2 ⊢; first | done | exact h2 h | exact Or.inr (h2 h) | simp [hdep] | (rcases h with h | h; · simp_all; · exact Or.inr (h2 h)) | simp_all))⟩
        · obtain rfl : x30 = .pointer (some ⟨b5, 1, none⟩) := hD.get (P := fun v : Value => v = .pointer (some ⟨b5, 1, none⟩)) 7 (by simp [hdep]) rfl rfl
          have hW := hC.at_ 3 (by decide) hfi (by intro j9 e9 _; have f9 : j9 = 2 := (by omega); subst f9; simp [hdep])
          refine det_yes rfl ?_
          have HD := Lib.hid hD
          have HC := Lib.hid hC
          clear hD hC
          obtain ⟨u1, hC1, hpu⟩ := hW
          obtain ⟨hno, hk⟩ := hC1
          obtain ⟨g9, c9, rfl⟩ := hpu.form
          have hsz : wr.heap.size ≤ u1.heap.size := hk.size
          have hpg := own_lt9 HOr.out
          have hblk : ∀ j, j < w4.heap.size → u.heap[j]? = u1.heap[j]? := fun j hj => (hpu.grown.block j (by rw [World.size_alloc]; omega) (fun e => by have := (hpg j e.symm).1; omega)).trans (((Below.refl _ _).alloc (Nat.le_refl _) (.cells #[x27] 86)).block j (by omega))
          have hrw : Row u b5 110 [.string (str [nm]), (.slice QA ms.length QC)] := (HVr.out.keep (w' := u1) (hk.block _ (show b5 < wr.heap.size by omega))).keep (hblk _ (by omega))
          have q9 := hrw.cell 1
          have g9f := hrw.frozen 1
          simp only [List.getElem?_cons_zero, List.getElem?_cons_succ] at q9
          have HW2 : WAp wr.drew (ErFact (erM y ts[k]) wr.drew) w4.heap.size 86 (.slice QA ms.length QC) ms.length vs ⟨b5, 1, none⟩ x27 x28 (.slice (some ⟨g9, 0, none⟩) (ms.length + 1) c9) 4 (u.setCell ⟨b5, 1, none⟩ (.slice (some ⟨g9, 0, none⟩) (ms.length + 1) c9)) := ⟨u, u1, ⟨hno, hk⟩, hpu, rfl⟩
          have HWW := Lib.hid HW2
          clear HW2 hno hk hrw hblk hpg hpu
          unfold Oper.wp
          go_simp
          have HW2 := HWW.out
          exact hK _ _ ⟨_, _, _, _, _, _, _, _, .bool true, rfl, HD.out.step 8 rfl (by trivial), HC.out.next 3 (by decide) hfi (by intro j9 e9 _; have f9 : j9 = 2 := (by omega); subst f9; simp [hdep]) (by decide) HW2, (fun h => (by have h2 := hc0; have h3 := hfi; simp at h h2 ⊢; first | done | exact h2 h | exact Or.inr (h2 h) | simp [hdep] | (rcases h with h | h; · simp_all; · exact Or.inr (h2 h)) | simp_all)), (fun h => (by have h2 := hc1; have h3 := hfi; simp at h h2 ⊢; first | done | exact h2 h | exact Or.inr (h2 h) | simp [hdep] | (rcases h with h | h; · simp_all; · exact Or.inr (h2 h)) | simp_all))⟩
      · rintro dn ac u hall ⟨x23, x24, x25, x26, x27, x28, x29, x30, y8, rfl, hD, hC, hc0, hc1⟩
        obtain rfl : x23 = .pointer (some ⟨b5, 1, none⟩) := hD.get (P := fun v : Value => v = .pointer (some ⟨b5, 1, none⟩)) 0 (hall 0 (by decide)) rfl rfl
        obtain rfl : x24 = .slice QA ms.length QC := hD.get (P := fun v : Value => v = .slice QA ms.length QC) 1 (hall 1 (by decide)) rfl rfl
        obtain rfl : x25 = .iface T x := hD.get (P := fun v : Value => v = .iface T x) 2 (hall 2 (by decide)) rfl rfl
        obtain rfl : x26 = .agg #[.slice A1 y.ty.sizes.length cap1, .slice A2 y.ty.cos.length cap2, .slice (some ⟨fb, foff, none⟩) y.fs.length cap3] := hD.get (P := fun v : Value => v = .agg #[.slice A1 y.ty.sizes.length cap1, .slice A2 y.ty.cos.length cap2, .slice (some ⟨fb, foff, none⟩) y.fs.length cap3]) 3 (hall 3 (by decide)) rfl rfl
        obtain rfl : x30 = .pointer (some ⟨b5, 1, none⟩) := hD.get (P := fun v : Value => v = .pointer (some ⟨b5, 1, none⟩)) 7 (hall 7 (by decide)) rfl rfl
        have hW := hC.all (by intro j9 h9; exact hall _ (by revert j9; decide))
        clear hall hD hC hc0 hc1
        obtain ⟨u3, u1, ⟨hno, hk⟩, hpu, hu⟩ := hW
        obtain ⟨T9, x9, rfl⟩ := hno.form
        obtain ⟨g9, c9, rfl⟩ := hpu.form
        have hsz : wr.heap.size ≤ u1.heap.size := hk.size
        have hno9 : NodeAt u1 wr.heap.size (erM y ts[k]) (.iface T9 x9) := hno
        have hk9 : ∀ j, j < wr.heap.size → u1.heap[j]? = wr.heap[j]? := fun j hj => hk.block j hj
        have hpg : ∀ g, (Value.slice QA ms.length QC).ownBlock = some g → w4.heap.size ≤ g ∧ g < wr.heap.size := own_lt9 HOr.out
        have hs3' : u1.heap.size + 1 ≤ u3.heap.size := by have := hpu.grown.size; simpa using this
        have h31 : ∀ j, j < u1.heap.size → (Value.slice QA ms.length QC).ownBlock ≠ some j → u3.heap[j]? = u1.heap[j]? := fun j hj hne => (hpu.grown.block j (by rw [World.size_alloc]; omega) (fun e => hne e.symm)).trans (((Below.refl _ _).alloc (Nat.le_refl _) (.cells #[.iface T9 x9] 86)).block j hj)
        have hu3 : ∀ j, j ≠ b5 → u.heap[j]? = u3.heap[j]? := fun j hj => by rw [hu]; exact Below.heap_setCell _ _ _ _ hj
        have hlow : ∀ j, j < w4.heap.size → j ≠ b5 → u.heap[j]? = u1.heap[j]? := fun j hj hne => (hu3 j hne).trans (h31 j (by omega) fun e => by have := (hpg j e).1; omega)
        have hus : u.heap.size = u3.heap.size := by rw [hu]; simp [World.setCell]
        have HBu : Hid (Below w.heap.size w u) := ⟨by rw [hu]; exact hpu.grown.os.trans (hk.os.trans HBr.out.os), by rw [hu]; exact hpu.grown.tape.trans (hk.tape.trans HBr.out.tape), by rw [hu]; exact hpu.grown.output.trans (hk.output.trans HBr.out.output), by rw [hus]; have := HBr.out.size; omega, fun j hj => (hlow j (by omega) (by omega)).trans ((hk9 j (by omega)).trans (HBr.out.block j hj))⟩
        have HK4u : Hid (w4.heap.size ≤ u.heap.size ∧ ∀ j, j < w4.heap.size → j ≠ b5 → u.heap[j]? = w4.heap[j]?) := ⟨by rw [hus]; omega, fun j hj hne => (hlow j hj hne).trans ((hk9 j (by omega)).trans (HK4r.out.2 j hj hne))⟩
        have hv3 : Row u3 b5 110 [.string (str [nm]), .slice QA ms.length QC] := (HVr.out.keep (w' := u1) (hk9 _ (by omega))).keep (h31 _ (by omega) fun e => by have := (hpg _ e).1; omega)
        have HVu : Hid (Row u b5 110 [.string (str [nm]), .slice (some ⟨g9, 0, none⟩) (ms.length + 1) c9]) := by rw [hu]; exact hv3.set_ 1 _
        have HOu : Hid (u.ownsRow w4.heap.size 86 1 (.slice (some ⟨g9, 0, none⟩) (ms.length + 1) c9) (ms ++ [erM y ts[k]]).length (vs ++ [.iface T9 x9])) := by
          refine ownsRow_cast (own_same7 hpu.own fun g hg _ => hu3 g (by omega)) (by simp) rfl
        have HIu : Hid (TIns u w4.heap.size (.slice (some ⟨g9, 0, none⟩) (ms.length + 1) c9) (ms ++ [erM y ts[k]]) (vs ++ [.iface T9 x9])) := by
          have hp : (Value.slice (some ⟨g9, 0, none⟩) (ms.length + 1) c9).ownBlock = (Value.slice QA ms.length QC).ownBlock ∨ ∃ g, (Value.slice (some ⟨g9, 0, none⟩) (ms.length + 1) c9).ownBlock = some g ∧ wr.heap.size ≤ g := by
            rcases hpu.at_ with e | ⟨g, e, h1, h2⟩
            · exact .inl e
            · exact .inr ⟨g, e, by rw [World.size_alloc] at h1; omega⟩
          have h1 := HIr.out.keep (w' := u) (ps' := .slice (some ⟨g9, 0, none⟩) (ms.length + 1) c9) (by rw [hus]; omega) (fun j hj hj2 hne => (hu3 j (by omega)).trans ((h31 j (by omega) hne).trans (hk9 j hj2))) hp
          refine h1.snoc ⟨u1, wr.heap.size, by omega, hno9, by rw [hus]; omega, fun j hj hj2 => ⟨(hu3 j (by omega)).trans (h31 j hj2 fun e => by have := (hpg j e).2; omega), ?_⟩⟩
          rcases hpu.at_ with e | ⟨g, e, h1, h2⟩
          · rw [e]; intro e2; have := (hpg j e2).2; omega
          · rw [e]; intro e2; injection e2 with e2; rw [World.size_alloc] at h1; omega
        have hml2 : Hid (ms ++ [erM y ts[k]] = (ts.take (k + 1)).map (erM y)) := by show _ = _; rw [hml.out, List.take_succ_eq_append_getElem hkl, List.map_append]; rfl
        clear hno hk hpu hu hk9 hsz hno9 hpg hs3' h31 hu3 hlow hus hv3 hmeth hnil hent
        go_wp2
        go_roundw
        case rel => exact ⟨k + 1, ms ++ [erM y ts[k]], Value.slice (some ⟨g9, 0, none⟩) (ms.length + 1) c9, vs ++ [Value.iface T9 x9], by omega, by go_num, hml2.out, HBu.out, HK4u.out, HVu.out, HOu.out, HIu.out⟩
        case measure => simp [intOf]; omega
    · have hke : k = ts.length := by omega
      have hfin : Hid (ts.map (erM y) = ms) := by show _ = _; rw [hml.out, hke, List.take_of_length_le (Nat.le_refl _)]
      have hml2 : Hid (ms.length ≤ 2) := by show _ ≤ _; rw [← hfin.out]; simpa using h2
      have HNr : Hid (NodesAt wr w4.heap.size ms vs) := HIr.out.nodes
      have c0 := HVr.out.cell 0
      have c1 := HVr.out.cell 1
      simp only [List.getElem?_cons_zero, List.getElem?_cons_succ] at c0 c1
      clear hml HIr
      go_wp2
      go_ret
      exact ⟨_, rfl, by rw [hfin.out]; exact (NodeAt.mk hml2.out HOr.out HNr.out).base (by omega), HBr.out⟩

end Go.Proofs.YthldlbbkbbgdkaaGreatDoor

