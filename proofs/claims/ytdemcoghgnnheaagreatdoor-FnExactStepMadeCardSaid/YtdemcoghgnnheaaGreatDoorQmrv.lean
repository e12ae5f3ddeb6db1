/-
  The contracts of the program's reader of explicit terms: applied, made.
-/
import Derived.Test.YtdemcoghgnnheaaGreatDoorK11
import Derived.Test.YtdemcoghgnnheaaGreatDoorK5
namespace Go.Proofs.YtdemcoghgnnheaaGreatDoor
open Go.RowKit

theorem Mr.low {lo hi n : Nat} {a : Addr} {sv cv fv : Value} {y : Sy} {b : Nat} {l : List UInt8} {w w' : World} (h : Mr lo hi n a sv cv fv y b l w) (hk : ∀ j, j ≤ b → w'.heap[j]? = w.heap[j]?) : Mr lo hi n a sv cv fv y b l w' :=
  ⟨h.row.keep (hk b (Nat.le_refl _)), h.sy.keep fun j _ hj => hk j (by have := h.hib; omega), ⟨h.ev.1, (World.cell?_of_block (w := w) (hk _ (by have := h.nb; have := h.ev.1; dsimp only; omega))).trans h.ev.2⟩, h.hib, h.nb⟩

/-- A node that was made in an earlier world; its rows are not the row of ps. -/
def MIn (w : World) (B : Nat) (ps : Value) (m : Mk) (v : Value) : Prop :=
  ∃ wa Bm, B ≤ Bm ∧ MNodeAt wa Bm m v ∧ wa.heap.size ≤ w.heap.size ∧ ∀ j, Bm ≤ j → j < wa.heap.size → w.heap[j]? = wa.heap[j]? ∧ ps.ownBlock ≠ some j
def MIns (w : World) (B : Nat) (ps : Value) : List Mk → List Value → Prop
  | [], [] => True
  | m :: ms, v :: vs => MIn w B ps m v ∧ MIns w B ps ms vs
  | _, _ => False
theorem MIn.node {w : World} {B : Nat} {ps : Value} {m : Mk} {v : Value} (h : MIn w B ps m v) : MNodeAt w B m v := by
  obtain ⟨wa, Bm, hB, hn, _, hs⟩ := h
  exact (hn.same fun g hg hw => (hs g hg hw).1).base hB
theorem MIn.keep {w w' : World} {B : Nat} {ps ps' : Value} {m : Mk} {v : Value} (h : MIn w B ps m v) (hsz : w.heap.size ≤ w'.heap.size) (hk : ∀ j, B ≤ j → j < w.heap.size → ps.ownBlock ≠ some j → w'.heap[j]? = w.heap[j]?) (hp : ps'.ownBlock = ps.ownBlock ∨ ∃ g, ps'.ownBlock = some g ∧ w.heap.size ≤ g) : MIn w' B ps' m v := by
  obtain ⟨wa, Bm, hB, hn, hw, hs⟩ := h
  refine ⟨wa, Bm, hB, hn, by omega, fun j hj hj2 => ?_⟩
  obtain ⟨h1, h2⟩ := hs j hj hj2
  refine ⟨(hk j (by omega) (by omega) h2).trans h1, ?_⟩
  rcases hp with e | ⟨g, e, hg⟩
  · rw [e]; exact h2
  · rw [e]; intro e2; injection e2 with e2; omega
theorem MIns.keep {w w' : World} {B : Nat} {ps ps' : Value} (hsz : w.heap.size ≤ w'.heap.size) (hk : ∀ j, B ≤ j → j < w.heap.size → ps.ownBlock ≠ some j → w'.heap[j]? = w.heap[j]?) (hp : ps'.ownBlock = ps.ownBlock ∨ ∃ g, ps'.ownBlock = some g ∧ w.heap.size ≤ g) : ∀ {ms : List Mk} {vs : List Value}, MIns w B ps ms vs → MIns w' B ps' ms vs
  | [], [], _ => trivial
  | _ :: _, _ :: _, ⟨h, g⟩ => ⟨h.keep hsz hk hp, g.keep hsz hk hp⟩
theorem MIns.snoc {w : World} {B : Nat} {ps : Value} {m : Mk} {v : Value} (ht : MIn w B ps m v) : ∀ {ms : List Mk} {vs : List Value}, MIns w B ps ms vs → MIns w B ps (ms ++ [m]) (vs ++ [v])
  | [], [], _ => ⟨ht, trivial⟩
  | _ :: _, _ :: _, ⟨h, g⟩ => ⟨h, g.snoc ht⟩
theorem MIns.nodes {w : World} {B : Nat} {ps : Value} : ∀ {ms : List Mk} {vs : List Value}, MIns w B ps ms vs → MNodesAt w B ms vs
  | [], [], _ => trivial
  | _ :: _, _ :: _, ⟨h, g⟩ => ⟨h.node, g.nodes⟩

/-- What holds behind each operation of the region that reads an argument and appends it. -/
def WAp (wd : World) (C : Value → World → Prop) (base : Nat) (e : TypeId) (ps : Value) (n : Nat) (vs : List Value) (A : Addr) (x41 x42 x43 : Value) : Nat → World → Prop
  | 0, u => u = wd
  | 1, u => C x41 u
  | 2, u => ∃ u1, C x41 u1 ∧ u = u1.alloc (.cells #[x41] e) ∧ x42 = .slice (some ⟨u1.heap.size, 0, none⟩) 1 1
  | 3, u => ∃ u1, C x41 u1 ∧ Pushed (u1.alloc (.cells #[x41] e)) u base e ps x43 n vs x41
  | _ + 4, u => ∃ u3 u1, C x41 u1 ∧ Pushed (u1.alloc (.cells #[x41] e)) u3 base e ps x43 n vs x41 ∧ u = u3.setCell A x43

theorem own_lt9 {w : World} {N : Nat} {t : TypeId} {v : Value} {n : Nat} {xs : List Value} (h : w.ownsRow N t 1 v n xs) : ∀ g, v.ownBlock = some g → N ≤ g ∧ g < w.heap.size := by
  obtain ⟨_, ⟨e, _⟩ | ⟨g, cap3, cur, e, hg, hh, _⟩⟩ := h
  · intro g' hg'
    rw [e] at hg'
    cases hg'
  · intro g' hg'
    rw [e] at hg'
    simp [Value.ownBlock] at hg'
    subst hg'
    refine ⟨hg, ?_⟩
    rcases Nat.lt_or_ge g w.heap.size with h' | h'
    · exact h'
    · rw [Array.getElem?_eq_none h'] at hh; cases hh
theorem own_slice9 {w : World} {N : Nat} {t : TypeId} {v : Value} {n : Nat} {xs : List Value} (h : w.ownsRow N t 1 v n xs) : ∃ A c, v = .slice A n c := by
  obtain ⟨_, ⟨rfl, rfl⟩ | ⟨g, cap3, cur, rfl, _⟩⟩ := h
  · exact ⟨_, _, rfl⟩
  · exact ⟨_, _, rfl⟩

def ApPost (lo hi n : Nat) (a : Addr) (sv cv fv : Value) (y : Sy) (b : Nat) (o : Option (Mk × List UInt8)) (w : World) (e : Ending) (w' : World) : Prop :=
  ((∃ m r x, o = some (m, r) ∧ MkOk y m ∧ e = .returned x ∧ MNodeAt w' w.heap.size m (.iface 202 x) ∧ Mr lo hi n a sv cv fv y b r w') ∨ (o = none ∧ e = boom a)) ∧ Keep b w w'

set_option maxRecDepth 100000 in
set_option maxHeartbeats 8000000 in
theorem applied_any (lo hi n : Nat) (a : Addr) (sv cv fv : Value) (y : Sy) (hy : SyOk y) (b f : Nat) (IH : MadeReads lo hi n a sv cv fv y b f) (l : List UInt8) (h64 : hasB 35 l = false) (h64' : hasB 64 l = true) (w : World) (h : Mr lo hi n a sv cv fv y b l w) (hf : l.length ≤ f + 1) (hm : l.length ≤ 1048576) :
    Calls Tryz.prog 133 #[.pointer (some ⟨b, 0, none⟩)] w fun e w' => ApPost lo hi n a sv cv fv y b (rdApM (rdMk y f) y l) w e w' := by
  have hblt := h.lt
  obtain ⟨A2, cap2, rfl, _, _, _⟩ := h.sy.2.form
  have HI := Lib.hid IH
  obtain ⟨w1, hw1⟩ : ∃ u, u = (w.alloc (.cells #[.int .i64 0, .slice none 0 0] 202)).alloc (.cells #[.int .i64 0, .slice none 0 0] 202) := ⟨_, rfl⟩
  have hb1 : Below w.heap.size w w1 := by rw [hw1]; exact ((Below.refl _ _).alloc (Nat.le_refl _) _).alloc (by simp) _
  have hs1 : w1.heap.size = w.heap.size + 2 := by rw [hw1]; simp
  have HM1 := Lib.hid (h.under hb1)
  have HK1 := Lib.hid ((Keep.refl b w).of_below hb1)
  have R1 : Hid (Row w1 w.heap.size 202 [.int .i64 0, .slice none 0 0]) := by rw [hw1]; exact (Row.new w _ _).alloc _
  have V1 : Hid (Row w1 (w.heap.size + 1) 202 [.int .i64 0, .slice none 0 0]) := by show Row _ _ _ _; rw [hw1]; have h := Row.new (w.alloc (.cells #[.int .i64 0, .slice none 0 0] 202)) 202 [.int .i64 0, .slice none 0 0]; rw [World.size_alloc] at h; exact h
  obtain ⟨-, -, c3⟩ := HM1.out.cells
  rw [hw1] at c3
  clear h IH hb1
  go_enter Tryz.func133, Tryz.ntmps133
  go_wp2_with fail
  rw [← hw1]
  refine (opening_any lo hi n a _ _ _ y b l 64 64 rfl y.fs.length w1 HM1.out hm).mono ?_
  clear c3 hw1
  rintro e w2 ⟨⟨i, r1, hop, rfl, hmr2⟩ | ⟨hop, rfl⟩, hk2⟩
  · have hif := (rdOpen_eq hop).1
    have hi9 := (rdOpen_eq hop).2.1
    have hl1 : r1.length + 3 = l.length := by rw [(rdOpen_eq hop).2.2]; simp [dg]
    have hco1 : Hid (rdApM (rdMk y f) y l = (rdTo (rdMk y f) y y.fs[i].args y.fs[i].args.length r1).bind fun q => (rdTake 41 q.2).map fun r => (mkA i q.1, r)) := by
      show _ = _
      unfold rdApM
      rw [hop]
      simp only [Option.bind_some, getD_get hif]
    have hs2 := hk2.size
    have HK2 := Lib.hid (HK1.out.trans hk2)
    have R2 := Lib.hid (Row.kept' R1.out hk2 (by omega))
    have V2 := Lib.hid (Row.kept' V1.out hk2 (by omega))
    have v0 := V2.out.cell 0
    have f0 := V2.out.frozen 0
    simp only [List.getElem?_cons_zero] at v0
    have HM2 := Lib.hid hmr2
    have hneb : w.heap.size + 1 ≠ b := by omega
    have hfew := (hy.each i hif).few
    clear hop hk2 hmr2 HM1 HK1 R1 V1
    go_wp2_with fail
    obtain ⟨w3, hw3⟩ : ∃ u, u = w2.setCell ⟨w.heap.size + 1, 0, none⟩ (.int .i64 i) := ⟨_, rfl⟩
    rw [← hw3]
    have HM3 : Hid (Mr lo hi n a sv cv (.slice A2 y.fs.length cap2) y b r1 w3) := by rw [hw3]; exact HM2.out.seto (p := ⟨w.heap.size + 1, 0, none⟩) (by show b < w.heap.size + 1; omega) _
    have V3 : Hid (Row w3 (w.heap.size + 1) 202 [.int .i64 i, .slice none 0 0]) := by rw [hw3]; exact V2.out.set_ 0 _
    have R3 : Hid (Row w3 w.heap.size 202 [.int .i64 0, .slice none 0 0]) := by rw [hw3]; exact R2.out.far (by show w.heap.size ≠ w.heap.size + 1; omega) _
    have HK3 : Hid (Keep b w w3) := by rw [hw3]; exact HK2.out.seto' (by show w.heap.size ≤ w.heap.size + 1; omega) _
    have hs3 : w.heap.size + 1 < w3.heap.size := V3.out.lt
    clear hw3 HM2 V2 R2 HK2 v0 f0
    obtain ⟨fb, foff, A1, cap1, A4, cap4, rfl, _, _, _, k1, _, _, _, hcm1, _, _, hfa⟩ := HM3.out.sy.2.at_ hif
    have HIA := Lib.hid hfa.2.2.2.2.1
    have e3 : w3.cell? ⟨b, 3, none⟩ = some (.slice (some ⟨fb, foff, none⟩) y.fs.length cap2) := HM3.out.cells.2.2
    have e0 : w3.cell? ⟨w.heap.size + 1, 0, none⟩ = some (.int .i64 i) := V3.out.cell 0
    clear hfa
    go_quiet (fail)
    obtain ⟨w4, hw4⟩ : ∃ u, u = w3.drewN nq := ⟨_, rfl⟩
    rw [← hw4]
    have HM4 : Hid (Mr lo hi n a sv cv (.slice (some ⟨fb, foff, none⟩) y.fs.length cap2) y b r1 w4) := by rw [hw4]; exact ⟨HM3.out.row, HM3.out.sy, HM3.out.ev, HM3.out.hib, HM3.out.nb⟩
    have V4 : Hid (Row w4 (w.heap.size + 1) 202 [.int .i64 i, .slice none 0 0]) := by rw [hw4]; exact V3.out
    have R4 : Hid (Row w4 w.heap.size 202 [.int .i64 0, .slice none 0 0]) := by rw [hw4]; exact R3.out
    have HK4 : Hid (Keep b w w4) := by rw [hw4]; exact HK3.out.of_below (below_drewN (Below.refl _ _) _)
    have HIA4 : Hid (IntsAt w4 lo hi (.slice A1 y.fs[i].args.length cap1) y.fs[i].args) := by rw [hw4]; exact HIA.out
    have hs4 : w.heap.size + 1 < w4.heap.size := V4.out.lt
    have hargs : ∀ z ∈ y.fs[i].args, I64 z := by obtain ⟨_, _, _, _, _, h, _⟩ := HIA4.out; exact h
    obtain ⟨i0, hi0, hz0, hz1, hz2⟩ := info_parts (show (Tryz.prog.info? 66).map (fun i => (i.zero, i.size, i.bytes)) = some (some .nilIface, 1, 16) by kernel_rfl)
    unfold maxLen at hcm1
    clear hw4 HM3 V3 R3 HK3 HIA e3 e0 k1
    go_wp2_with fail
    go_loopw [26] (fun ix wr => ∃ (k : Nat) (ms : List Mk) (r3 : List UInt8) (ps : Value) (vs : List Value), k ≤ y.fs[i].args.length ∧ ix = .int .i64 k ∧ Hid (ms.length = k) ∧ r3.length + 3 ≤ l.length ∧ Hid (rdTo (rdMk y f) y y.fs[i].args k r1 = some (ms, r3)) ∧ Hid (Mr lo hi n a sv cv (.slice (some ⟨fb, foff, none⟩) y.fs.length cap2) y b r3 wr) ∧ Hid (Keep b w wr) ∧ Hid (w4.heap.size ≤ wr.heap.size ∧ ∀ j, j < b → wr.heap[j]? = w4.heap[j]?) ∧ Hid (Row wr (w.heap.size + 1) 202 [.int .i64 i, ps]) ∧ Hid (Row wr w.heap.size 202 [.int .i64 0, .slice none 0 0]) ∧ Hid (wr.ownsRow w4.heap.size 66 1 ps ms.length vs) ∧ Hid (MIns wr w4.heap.size ps ms vs) ∧ Hid (∀ m ∈ ms, MkOk y m)) (fun ix _ => y.fs[i].args.length - (intOf ix).toNat)
    case atStart => exact ⟨0, [], r1, .slice none 0 0, [], Nat.zero_le _, rfl, rfl, by omega, rfl, HM4.out, HK4.out, ⟨Nat.le_refl _, fun _ _ => rfl⟩, V4.out, R4.out, ⟨by simp, .inl ⟨rfl, rfl⟩⟩, trivial, fun m hm => by cases hm⟩
    case round =>
      obtain ⟨k, ms, r3, ps, vs, hk, rfl, hml, hr3, hrd0, HMr, HKr, HKr4, HVr, HRr, HOr, HIr, hmsok⟩ := hrel
      clear HM4 HK4 V4 R4
      have hwr := HKr4.out.1
      obtain ⟨PA, PC, rfl⟩ := own_slice9 HOr.out
      by_cases hkl : k < y.fs[i].args.length
      · obtain ⟨b3, off3, rfl, _, _, a3, i3⟩ := (show IntsAt wr lo hi (.slice A1 y.fs[i].args.length cap1) y.fs[i].args from HIA4.out.keep fun j _ hj => HKr4.out.2 j (by have := HMr.out.hib; omega)).at_ hkl
        by_cases hk0 : k = 0
        · subst hk0
          have hrd : Hid (rdTo (rdMk y f) y y.fs[i].args (0 + 1) r1 = (rdOf (rdMk y f) y y.fs[i].args[0] r3).map fun q => (ms ++ [q.1], q.2)) := by
            show _ = _
            rw [rdTo, hrd0.out, getD_get hkl]
            simp
          rw [Nat.add_zero] at a3
          clear i3 hrd0
          go_wp2_with fail
          have HMd : Hid (Mr lo hi n a sv cv (.slice (some ⟨fb, foff, none⟩) y.fs.length cap2) y b r3 wr.drew) := ⟨HMr.out.row, HMr.out.sy, HMr.out.ev, HMr.out.hib, HMr.out.nb⟩
          have HLD : Hid (∀ (x41 x42 x43 : Value) (j : Nat) (u : World), j ≤ 2 → WAp wr.drew (CoFact lo hi n a sv cv (.slice (some ⟨fb, foff, none⟩) y.fs.length cap2) y b (rdOf (rdMk y f) y y.fs[i].args[0] r3) wr.drew) w4.heap.size 66 (.slice PA ms.length PC) ms.length vs ⟨w.heap.size + 1, 1, none⟩ x41 x42 x43 j u → u.cell? ⟨w.heap.size + 1, 1, none⟩ = some (.slice PA ms.length PC)) := fun x41 x42 x43 j u hj hW => by
            have hc : ∀ u1, Keep b wr.drew u1 → Row u1 (w.heap.size + 1) 202 [.int .i64 i, (.slice PA ms.length PC)] := fun u1 hk => Row.kept' (show Row wr.drew _ _ _ from HVr.out) hk hneb
            match j, hj, hW with
            | 0, _, hW =>
              have hu : u = wr.drew := hW
              rw [hu]
              exact Row.cell HVr.out 1
            | 1, _, hW =>
              obtain ⟨m, r, hm, hok, hno, hmr, hk⟩ := hW
              exact (hc u hk).cell 1
            | 2, _, hW =>
              obtain ⟨u1, ⟨m, r, hm, hok, hno, hmr, hk⟩, hu, _⟩ := hW
              rw [hu]
              exact ((hc u1 hk).alloc _).cell 1
          refine wp_region_inv (by kernel_rfl) (fun dn ac u => ∃ x37 x38 x39 x40 x41 x42 x43 x44 y8, ac = ⟨List.toArray (.pointer (some ⟨b, 0, none⟩) :: undef :: .pointer (some ⟨w.heap.size, 0, none⟩) :: .pointer (some ⟨w.heap.size + 1, 0, none⟩) :: .int .i64 ((0 : Nat) : Int) :: .int .i64 y.fs[i].args[0] :: .pointer (some ⟨b, 0, none⟩) :: .pointer (some ⟨b, 0, none⟩) :: .pointer (some ⟨b, 0, none⟩) :: .pointer (some ⟨b, 1, none⟩) :: .pointer (some ⟨b, 3, none⟩) :: .slice (some ⟨fb, foff, none⟩) y.fs.length cap2 :: .int .i64 y.fs.length :: .int .i64 i :: .pointer (some ⟨w.heap.size + 1, 0, none⟩) :: .pointer (some ⟨b, 0, none⟩) :: .pointer (some ⟨b, 0, none⟩) :: .pointer (some ⟨b, 1, none⟩) :: .pointer (some ⟨b, 3, none⟩) :: .slice (some ⟨fb, foff, none⟩) y.fs.length cap2 :: .pointer (some ⟨w.heap.size + 1, 0, none⟩) :: .int .i64 i :: .pointer (some ⟨fb, foff + i * 4, none⟩) :: .pointer (some ⟨fb, foff + i * 4 + 1, none⟩) :: .slice (some ⟨b3, off3, none⟩) y.fs[i].args.length cap1 :: .int .i64 y.fs[i].args.length :: .int .i64 ((0 : Nat) : Int) :: .bool true :: .int .i64 ((0 : Nat) : Int) :: .pointer (some ⟨b3, off3, none⟩) :: .int .i64 y.fs[i].args[0] :: .int .i64 ((0 : Nat) : Int) :: .bool false :: u33 :: u34 :: u35 :: u36 :: x37 :: x38 :: x39 :: x40 :: x41 :: x42 :: x43 :: x44 :: u45 :: undef :: undef :: undef :: undef :: undef :: []), []⟩ ∧ DetQ [fun v : Value => v = .pointer (some ⟨w.heap.size + 1, 1, none⟩), fun v : Value => v = .slice PA ms.length PC, fun v : Value => v = .pointer (some ⟨b, 0, none⟩), fun v : Value => v = .int .i64 y.fs[i].args[0], fun v : Value => True, fun v : Value => True, fun v : Value => True, fun v : Value => v = .pointer (some ⟨w.heap.size + 1, 1, none⟩), fun v : Value => True] dn [x37, x38, x39, x40, x41, x42, x43, x44, y8] ∧ Ch dn [4, 5, 6, 8] (WAp wr.drew (CoFact lo hi n a sv cv (.slice (some ⟨fb, foff, none⟩) y.fs.length cap2) y b (rdOf (rdMk y f) y y.fs[i].args[0] r3) wr.drew) w4.heap.size 66 (.slice PA ms.length PC) ms.length vs ⟨w.heap.size + 1, 1, none⟩ x41 x42 x43) u ∧ (dn 6 = true → dn 1 = true)) (of_decide_eq_true (by kernel_rfl)) ⟨_, _, _, _, _, _, _, _, .bool true, rfl, DetQ.start (by rfl), Ch.start rfl, (fun h => (by cases h))⟩ ?_ ?_
          · rintro dn ac u i8 op8 hop hfi hdep ⟨x37, x38, x39, x40, x41, x42, x43, x44, y8, rfl, hD, hC, hc0⟩
            have hil : i8 < 9 := by have := (Array.getElem?_eq_some_iff.1 hop).1; simpa using this
            obtain rfl | rfl | rfl | rfl | rfl | rfl | rfl | rfl | rfl : i8 = 0 ∨ i8 = 1 ∨ i8 = 2 ∨ i8 = 3 ∨ i8 = 4 ∨ i8 = 5 ∨ i8 = 6 ∨ i8 = 7 ∨ i8 = 8 := by omega
            all_goals
              obtain rfl := Option.some.inj hop
              refine wpOp_step hop fun K hK => ?_
              simp [Region.binds] at hdep
              clear hop
            · refine det_yes rfl ?_
              have HD := Lib.hid hD
              have HC := Lib.hid hC
              clear hD hC
              unfold Oper.wp
              go_simp
              exact hK _ _ ⟨_, _, _, _, _, _, _, _, y8, rfl, HD.out.step 0 rfl rfl, HC.out.other 0 (by decide), (fun h => (by have h2 := hc0; have h3 := hfi; simp at h h2 ⊢; first | done | exact h2 h | exact Or.inr (h2 h) | simp [hdep] | (rcases h with h | h; · simp_all; · exact Or.inr (h2 h)) | simp_all))⟩
            · obtain rfl : x37 = .pointer (some ⟨w.heap.size + 1, 1, none⟩) := hD.get (P := fun v : Value => v = .pointer (some ⟨w.heap.size + 1, 1, none⟩)) 0 (by simp [hdep]) rfl rfl
              have hn : dn 6 = false := by
                cases h : dn 6 with
                | false => rfl
                | true => have h := hc0 h; rw [hfi] at h; cases h
              obtain ⟨j8, hj8, hW⟩ := hC.early 2 (by decide) hn
              have HLC : u.cell? ⟨w.heap.size + 1, 1, none⟩ = some (.slice PA ms.length PC) := HLD.out _ _ _ j8 u hj8 hW
              clear hW
              refine det_yes rfl ?_
              have HD := Lib.hid hD
              have HC := Lib.hid hC
              clear hD hC
              unfold Oper.wp
              go_simp
              exact hK _ _ ⟨_, _, _, _, _, _, _, _, y8, rfl, HD.out.step 1 rfl rfl, HC.out.other 1 (by decide), (fun h => (by have h2 := hc0; have h3 := hfi; simp at h h2 ⊢; first | done | exact h2 h | exact Or.inr (h2 h) | simp [hdep] | (rcases h with h | h; · simp_all; · exact Or.inr (h2 h)) | simp_all))⟩
            · refine det_yes rfl ?_
              have HD := Lib.hid hD
              have HC := Lib.hid hC
              clear hD hC
              unfold Oper.wp
              go_simp
              exact hK _ _ ⟨_, _, _, _, _, _, _, _, y8, rfl, HD.out.step 2 rfl rfl, HC.out.other 2 (by decide), (fun h => (by have h2 := hc0; have h3 := hfi; simp at h h2 ⊢; first | done | exact h2 h | exact Or.inr (h2 h) | simp [hdep] | (rcases h with h | h; · simp_all; · exact Or.inr (h2 h)) | simp_all))⟩
            · refine det_yes rfl ?_
              have HD := Lib.hid hD
              have HC := Lib.hid hC
              clear hD hC
              unfold Oper.wp
              go_simp
              exact hK _ _ ⟨_, _, _, _, _, _, _, _, y8, rfl, HD.out.step 3 rfl rfl, HC.out.other 3 (by decide), (fun h => (by have h2 := hc0; have h3 := hfi; simp at h h2 ⊢; first | done | exact h2 h | exact Or.inr (h2 h) | simp [hdep] | (rcases h with h | h; · simp_all; · exact Or.inr (h2 h)) | simp_all))⟩
            · obtain rfl : x39 = .pointer (some ⟨b, 0, none⟩) := hD.get (P := fun v : Value => v = .pointer (some ⟨b, 0, none⟩)) 2 (by simp [hdep]) rfl rfl
              obtain rfl : x40 = .int .i64 y.fs[i].args[0] := hD.get (P := fun v : Value => v = .int .i64 y.fs[i].args[0]) 3 (by simp [hdep]) rfl rfl
              have hW := hC.at_ 0 (by decide) hfi (by intro j9 e9 _; omega)
              refine det_yes rfl ?_
              have HD := Lib.hid hD
              have HC := Lib.hid hC
              clear hD hC
              have hu : u = wr.drew := hW
              subst hu
              clear hW
              unfold Oper.wp
              go_simp
              refine (madeOf_any lo hi n a _ _ _ y b f HI.out y.fs[i].args[0] r3 wr.drew HMd.out (by omega) (by omega)).mono ?_
              rintro e u2 ⟨⟨m, r, v, hm, hok, rfl, hno, hmr⟩ | ⟨hm, rfl⟩, hk⟩
              · have HW2 : WAp wr.drew (CoFact lo hi n a sv cv (.slice (some ⟨fb, foff, none⟩) y.fs.length cap2) y b (rdOf (rdMk y f) y y.fs[i].args[0] r3) wr.drew) w4.heap.size 66 (.slice PA ms.length PC) ms.length vs ⟨w.heap.size + 1, 1, none⟩ v x42 x43 1 u2 := ⟨m, r, hm, hok, hno, hmr, hk⟩
                exact hK _ _ ⟨_, _, _, _, _, _, _, _, y8, rfl, HD.out.step 4 rfl (by trivial), HC.out.next 0 (by decide) hfi (by intro j9 e9 _; omega) (by decide) HW2, (fun h => (by have h2 := hc0; have h3 := hfi; simp at h h2 ⊢; first | done | exact h2 h | exact Or.inr (h2 h) | simp [hdep] | (rcases h with h | h; · simp_all; · exact Or.inr (h2 h)) | simp_all))⟩
              · have hno : rdApM (rdMk y f) y l = none := by rw [hco1.out, rdTo_none (k := 0 + 1) (by rw [hrd.out, hm]; rfl) _ (by omega)]; rfl
                have hk9 : Keep b wr u2 := ⟨⟨hk.grown.os, hk.grown.tape, hk.grown.output, hk.grown.size, hk.grown.block⟩⟩
                have HF := Lib.hid (And.intro hno (HKr.out.trans hk9))
                clear hno hk9 hm hk HD HC
                go_wp2
                exact ⟨rfl, .inr ⟨HF.out.1, rfl⟩, HF.out.2⟩
            · have hW := hC.at_ 1 (by decide) hfi (by intro j9 e9 _; have f9 : j9 = 0 := (by omega); subst f9; simp [hdep])
              refine det_yes rfl ?_
              have HD := Lib.hid hD
              have HC := Lib.hid hC
              clear hD hC
              obtain ⟨m, r, hm, hok, hno, hmr, hk⟩ := hW
              obtain ⟨T, x, rfl⟩ := hno.form
              have HW2 : WAp wr.drew (CoFact lo hi n a sv cv (.slice (some ⟨fb, foff, none⟩) y.fs.length cap2) y b (rdOf (rdMk y f) y y.fs[i].args[0] r3) wr.drew) w4.heap.size 66 (.slice PA ms.length PC) ms.length vs ⟨w.heap.size + 1, 1, none⟩ (.iface T x) (.slice (some ⟨u.heap.size, 0, none⟩) 1 1) x43 2 (u.alloc (.cells #[.iface T x] 66)) := ⟨u, ⟨m, r, hm, hok, hno, hmr, hk⟩, rfl, rfl⟩
              have HWW := Lib.hid HW2
              clear HW2 hm hok hno hmr hk
              unfold Oper.wp
              go_simp
              have HW2 := HWW.out
              exact hK _ _ ⟨_, _, _, _, _, _, _, _, y8, rfl, HD.out.step 5 rfl (by trivial), HC.out.next 1 (by decide) hfi (by intro j9 e9 _; have f9 : j9 = 0 := (by omega); subst f9; simp [hdep]) (by decide) HW2, (fun h => (by have h2 := hc0; have h3 := hfi; simp at h h2 ⊢; first | done | exact h2 h | exact Or.inr (h2 h) | simp [hdep] | (rcases h with h | h; · simp_all; · exact Or.inr (h2 h)) | simp_all))⟩
            · obtain rfl : x38 = .slice PA ms.length PC := hD.get (P := fun v : Value => v = .slice PA ms.length PC) 1 (by simp [hdep]) rfl rfl
              have hW := hC.at_ 2 (by decide) hfi (by intro j9 e9 _; have f9 : j9 = 1 := (by omega); subst f9; simp [hdep])
              have HD := Lib.hid hD
              have HC := Lib.hid hC
              clear hD hC
              obtain ⟨u1, hC1, rfl, rfl⟩ := hW
              obtain ⟨m, r, hm, hok, hno, hmr, hk⟩ := hC1
              obtain ⟨T, x, rfl⟩ := hno.form
              have hsz : wr.heap.size ≤ u1.heap.size := hk.size
              have hown1 : (u1.alloc (.cells #[.iface T x] 66)).ownsRow w4.heap.size 66 1 (.slice PA ms.length PC) ms.length vs := own_same7 HOr.out (fun g hg hw => (((Below.refl _ _).alloc (Nat.le_refl _) _).block g (Nat.lt_of_lt_of_le hw hsz)).trans (hk.block (show g < wr.heap.size from hw) (by omega)))
              have hcell : (u1.alloc (.cells #[.iface T x] 66)).cell? ⟨u1.heap.size, 0, none⟩ = some (.iface T x) := (Row.new u1 66 [.iface T x]).cell 0
              have hmlv := hml.out
              refine step_push rfl (.tmp 38) (.tmp 42) 147 rfl i0 .nilIface 16 Tryz.underlying147 hi0 hz0 hz1 hz2 rfl rfl hown1 ⟨u1.heap.size, 0, none⟩ 1 (.iface T x) rfl hcell rfl (by unfold maxLen; omega) (by omega) (by rw [World.size_alloc]; omega) ?_
              intro v9 w9 hpu
              have HW2 : WAp wr.drew (CoFact lo hi n a sv cv (.slice (some ⟨fb, foff, none⟩) y.fs.length cap2) y b (rdOf (rdMk y f) y y.fs[i].args[0] r3) wr.drew) w4.heap.size 66 (.slice PA ms.length PC) ms.length vs ⟨w.heap.size + 1, 1, none⟩ (.iface T x) (.slice (some ⟨u1.heap.size, 0, none⟩) 1 1) v9 3 w9 := ⟨u1, ⟨m, r, hm, hok, hno, hmr, hk⟩, hpu⟩
              exact hK _ _ ⟨_, _, _, _, _, _, _, _, y8, rfl, HD.out.step 6 rfl (by trivial), HC.out.next 2 (by decide) hfi (by intro j9 e9 _; have f9 : j9 = 1 := (by omega); subst f9; simp [hdep]) (by decide) HW2, (fun h => (by have h2 := hc0; have h3 := hfi; simp at h h2 ⊢; first | done | exact h2 h | exact Or.inr (h2 h) | simp [hdep] | (rcases h with h | h; · simp_all; · exact Or.inr (h2 h)) | simp_all))⟩
            · refine det_yes rfl ?_
              have HD := Lib.hid hD
              have HC := Lib.hid hC
              clear hD hC
              unfold Oper.wp
              go_simp
              exact hK _ _ ⟨_, _, _, _, _, _, _, _, y8, rfl, HD.out.step 7 rfl rfl, HC.out.other 7 (by decide), (fun h => (by have h2 := hc0; have h3 := hfi; simp at h h2 ⊢; first | done | exact h2 h | exact Or.inr (h2 h) | simp [hdep] | (rcases h with h | h; · simp_all; · exact Or.inr (h2 h)) | simp_all))⟩
            · obtain rfl : x44 = .pointer (some ⟨w.heap.size + 1, 1, none⟩) := hD.get (P := fun v : Value => v = .pointer (some ⟨w.heap.size + 1, 1, none⟩)) 7 (by simp [hdep]) rfl rfl
              have hW := hC.at_ 3 (by decide) hfi (by intro j9 e9 _; have f9 : j9 = 2 := (by omega); subst f9; simp [hdep])
              refine det_yes rfl ?_
              have HD := Lib.hid hD
              have HC := Lib.hid hC
              clear hD hC
              obtain ⟨u1, hC1, hpu⟩ := hW
              obtain ⟨m, r, hm, hok, hno, hmr, hk⟩ := hC1
              obtain ⟨g9, c9, rfl⟩ := hpu.form
              have hsz : wr.heap.size ≤ u1.heap.size := hk.size
              have hpg := own_lt9 HOr.out
              have hblk : ∀ j, j < w4.heap.size → u.heap[j]? = u1.heap[j]? := fun j hj => (hpu.grown.block j (by rw [World.size_alloc]; omega) (fun e => by have := (hpg j e.symm).1; omega)).trans (((Below.refl _ _).alloc (Nat.le_refl _) (.cells #[x41] 66)).block j (by omega))
              have hrw : Row u (w.heap.size + 1) 202 [.int .i64 i, (.slice PA ms.length PC)] := (Row.kept' (show Row wr.drew _ _ _ from HVr.out) hk hneb).keep (hblk _ hs4)
              have q1 := hrw.cell 1
              have g1 := hrw.frozen 1
              simp only [List.getElem?_cons_zero, List.getElem?_cons_succ] at q1
              have HW2 : WAp wr.drew (CoFact lo hi n a sv cv (.slice (some ⟨fb, foff, none⟩) y.fs.length cap2) y b (rdOf (rdMk y f) y y.fs[i].args[0] r3) wr.drew) w4.heap.size 66 (.slice PA ms.length PC) ms.length vs ⟨w.heap.size + 1, 1, none⟩ x41 x42 (.slice (some ⟨g9, 0, none⟩) (ms.length + 1) c9) 4 (u.setCell ⟨w.heap.size + 1, 1, none⟩ (.slice (some ⟨g9, 0, none⟩) (ms.length + 1) c9)) := ⟨u, u1, ⟨m, r, hm, hok, hno, hmr, hk⟩, hpu, rfl⟩
              have HWW := Lib.hid HW2
              clear HW2 hm hok hno hmr hk hrw hblk hpg hpu
              unfold Oper.wp
              go_simp
              have HW2 := HWW.out
              exact hK _ _ ⟨_, _, _, _, _, _, _, _, .bool true, rfl, HD.out.step 8 rfl (by trivial), HC.out.next 3 (by decide) hfi (by intro j9 e9 _; have f9 : j9 = 2 := (by omega); subst f9; simp [hdep]) (by decide) HW2, (fun h => (by have h2 := hc0; have h3 := hfi; simp at h h2 ⊢; first | done | exact h2 h | exact Or.inr (h2 h) | simp [hdep] | (rcases h with h | h; · simp_all; · exact Or.inr (h2 h)) | simp_all))⟩
          · rintro dn ac u hall ⟨x37, x38, x39, x40, x41, x42, x43, x44, y8, rfl, hD, hC, hc0⟩
            obtain rfl : x37 = .pointer (some ⟨w.heap.size + 1, 1, none⟩) := hD.get (P := fun v : Value => v = .pointer (some ⟨w.heap.size + 1, 1, none⟩)) 0 (hall 0 (by decide)) rfl rfl
            obtain rfl : x38 = .slice PA ms.length PC := hD.get (P := fun v : Value => v = .slice PA ms.length PC) 1 (hall 1 (by decide)) rfl rfl
            obtain rfl : x39 = .pointer (some ⟨b, 0, none⟩) := hD.get (P := fun v : Value => v = .pointer (some ⟨b, 0, none⟩)) 2 (hall 2 (by decide)) rfl rfl
            obtain rfl : x40 = .int .i64 y.fs[i].args[0] := hD.get (P := fun v : Value => v = .int .i64 y.fs[i].args[0]) 3 (hall 3 (by decide)) rfl rfl
            obtain rfl : x44 = .pointer (some ⟨w.heap.size + 1, 1, none⟩) := hD.get (P := fun v : Value => v = .pointer (some ⟨w.heap.size + 1, 1, none⟩)) 7 (hall 7 (by decide)) rfl rfl
            have hW := hC.all (by intro j9 h9; exact hall _ (by revert j9; decide))
            clear hall hD hC hc0
            obtain ⟨u3, u1, ⟨m, r9, hm, hok, hno, hmr, hk⟩, hpu, hu⟩ := hW
            obtain ⟨T, x, rfl⟩ := hno.form
            obtain ⟨g9, c9, rfl⟩ := hpu.form
            have hk9 : Keep b wr u1 := ⟨⟨hk.grown.os, hk.grown.tape, hk.grown.output, hk.grown.size, hk.grown.block⟩⟩
            have hsz : wr.heap.size ≤ u1.heap.size := hk9.size
            have hno9 : MNodeAt u1 wr.heap.size m (.iface T x) := hno
            have hpg : ∀ g, (Value.slice PA ms.length PC).ownBlock = some g → w4.heap.size ≤ g ∧ g < wr.heap.size := own_lt9 HOr.out
            have hs3' : u1.heap.size + 1 ≤ u3.heap.size := by have := hpu.grown.size; simpa using this
            have h31 : ∀ j, j < u1.heap.size → (Value.slice PA ms.length PC).ownBlock ≠ some j → u3.heap[j]? = u1.heap[j]? := fun j hj hne => (hpu.grown.block j (by rw [World.size_alloc]; omega) (fun e => hne e.symm)).trans (((Below.refl _ _).alloc (Nat.le_refl _) (.cells #[.iface T x] 66)).block j hj)
            have hu3 : ∀ j, j ≠ w.heap.size + 1 → u.heap[j]? = u3.heap[j]? := fun j hj => by rw [hu]; exact Below.heap_setCell _ _ _ _ hj
            have hlow : ∀ j, j < w4.heap.size → j ≠ w.heap.size + 1 → u.heap[j]? = u1.heap[j]? := fun j hj hne => (hu3 j hne).trans (h31 j (by omega) fun e => by have := (hpg j e).1; omega)
            have hus : u.heap.size = u3.heap.size := by rw [hu]; simp [World.setCell]
            have HMu : Hid (Mr lo hi n a sv cv (.slice (some ⟨fb, foff, none⟩) y.fs.length cap2) y b r9 u) := hmr.low fun j hj => hlow j (by omega) (by omega)
            have HKu : Hid (Keep b w u) := ⟨⟨by rw [hu]; exact hpu.grown.os.trans (hk9.grown.os.trans HKr.out.grown.os), by rw [hu]; exact hpu.grown.tape.trans (hk9.grown.tape.trans HKr.out.grown.tape), by rw [hu]; exact hpu.grown.output.trans (hk9.grown.output.trans HKr.out.grown.output), by rw [hus]; have := HKr.out.size; omega, fun j hj hb => (hlow j (by omega) (by omega)).trans ((hk9.trans (Keep.refl _ _)).grown.block j (by have := HKr.out.size; omega) hb |>.trans (HKr.out.grown.block j hj hb))⟩⟩
            have HK4u : Hid (w4.heap.size ≤ u.heap.size ∧ ∀ j, j < b → u.heap[j]? = w4.heap[j]?) := ⟨by rw [hus]; omega, fun j hj => (hlow j (by omega) (by omega)).trans ((hk9.block (by omega) (by omega)).trans (HKr4.out.2 j hj))⟩
            have hv3 : Row u3 (w.heap.size + 1) 202 [.int .i64 i, .slice PA ms.length PC] := (Row.kept' HVr.out hk9 hneb).keep (h31 _ (by omega) fun e => by have := (hpg _ e).1; omega)
            have HVu : Hid (Row u (w.heap.size + 1) 202 [.int .i64 i, .slice (some ⟨g9, 0, none⟩) (ms.length + 1) c9]) := by rw [hu]; exact hv3.set_ 1 _
            have HRu : Hid (Row u w.heap.size 202 [.int .i64 0, .slice none 0 0]) := (Row.kept' HRr.out hk9 (by omega)).keep (hlow _ (by omega) (by omega))
            have HOu : Hid (u.ownsRow w4.heap.size 66 1 (.slice (some ⟨g9, 0, none⟩) (ms.length + 1) c9) (ms ++ [m]).length (vs ++ [.iface T x])) := by
              refine ownsRow_cast (own_same7 hpu.own fun g hg _ => hu3 g (by omega)) (by simp) rfl
            have HIu : Hid (MIns u w4.heap.size (.slice (some ⟨g9, 0, none⟩) (ms.length + 1) c9) (ms ++ [m]) (vs ++ [.iface T x])) := by
              have hp : (Value.slice (some ⟨g9, 0, none⟩) (ms.length + 1) c9).ownBlock = (Value.slice PA ms.length PC).ownBlock ∨ ∃ g, (Value.slice (some ⟨g9, 0, none⟩) (ms.length + 1) c9).ownBlock = some g ∧ wr.heap.size ≤ g := by
                rcases hpu.at_ with e | ⟨g, e, h1, h2⟩
                · exact .inl e
                · exact .inr ⟨g, e, by rw [World.size_alloc] at h1; omega⟩
              have h1 := HIr.out.keep (w' := u) (ps' := .slice (some ⟨g9, 0, none⟩) (ms.length + 1) c9) (by rw [hus]; omega) (fun j hj hj2 hne => (hu3 j (by omega)).trans ((h31 j (by omega) hne).trans (hk9.block hj2 (by omega)))) hp
              refine h1.snoc ⟨u1, wr.heap.size, by omega, hno9, by rw [hus]; omega, fun j hj hj2 => ⟨(hu3 j (by omega)).trans (h31 j hj2 fun e => by have := (hpg j e).2; omega), ?_⟩⟩
              rcases hpu.at_ with e | ⟨g, e, h1, h2⟩
              · rw [e]; intro e2; have := (hpg j e2).2; omega
              · rw [e]; intro e2; injection e2 with e2; rw [World.size_alloc] at h1; omega
            have hrd2 : Hid (rdTo (rdMk y f) y y.fs[i].args (0 + 1) r1 = some (ms ++ [m], r9)) := by show _ = _; rw [hrd.out, hm]; rfl
            have hl9 : r9.length + 3 ≤ l.length := by have h := rdMk_len hy (rdOf_eq hm).1; omega
            have hall : Hid (∀ m' ∈ ms ++ [m], MkOk y m') := fun m' hm' => by
              rcases List.mem_append.1 hm' with h | h
              · exact hmsok.out m' h
              · simp at h; subst h; exact hok
            have hml2 : Hid ((ms ++ [m]).length = 0 + 1) := by show _ = _; simp [hml.out]
            clear hm hok hno hmr hk hpu hu hk9 hsz hno9 hpg hs3' h31 hu3 hlow hus hv3
            go_wp2
            go_roundw
            case rel => exact ⟨0 + 1, ms ++ [m], r9, Value.slice (some ⟨g9, 0, none⟩) (ms.length + 1) c9, vs ++ [Value.iface T x], by omega, by go_num, hml2.out, hl9, hrd2.out, HMu.out, HKu.out, HK4u.out, HVu.out, HRu.out, HOu.out, HIu.out, hall.out⟩
            case measure => simp [intOf]; omega
        · have hk1 : (0 : Int) < k := by omega
          cases htk : rdTake 44 r3 with
          | none =>
            have hno : Hid (rdApM (rdMk y f) y l = none) := by show _ = _; rw [hco1.out, rdTo_none (k := k + 1) (by rw [rdTo, hrd0.out]; simp [hk0, htk]) _ (by omega)]; rfl
            clear hrd0 hco1
            go_wp2_with fail
            refine (takeM_no b r3 44 44 rfl htk n a wr HMr.out.row HMr.out.ev).mono ?_
            clear htk
            rintro e w6 ⟨rfl, rfl⟩
            go_wp2
            exact ⟨rfl, .inr ⟨hno.out, rfl⟩, HKr.out⟩
          | some r4 =>
            have hrd : Hid (rdTo (rdMk y f) y y.fs[i].args (k + 1) r1 = (rdOf (rdMk y f) y y.fs[i].args[k] r4).map fun q => (ms ++ [q.1], q.2)) := by
              show _ = _
              rw [rdTo, hrd0.out, getD_get hkl]
              simp [hk0, htk]
            have hr4 : r4.length + 1 = r3.length := by rw [rdTake_eq htk]; rfl
            clear hrd0
            go_wp2_with fail
            refine (takeM_yes b r3 r4 44 44 rfl htk wr HMr.out.row (by omega)).mono ?_
            clear htk
            rintro e wa ⟨rfl, hk4, ht4⟩
            have hwa := hk4.size
            have hb4 := HMr.out.lt
            have HMa := Lib.hid (HMr.out.go hk4 ht4)
            have HKa := Lib.hid (HKr.out.trans hk4)
            have HK4a : Hid (w4.heap.size ≤ wa.heap.size ∧ ∀ j, j < b → wa.heap[j]? = w4.heap[j]?) := ⟨by omega, fun j hj => (hk4.block (by omega) (by omega)).trans (HKr4.out.2 j hj)⟩
            have HVa := Lib.hid (Row.kept' HVr.out hk4 hneb)
            have HRa := Lib.hid (Row.kept' HRr.out hk4 (by omega))
            have HOa : Hid (wa.ownsRow w4.heap.size 66 1 (.slice PA ms.length PC) ms.length vs) := own_same7 HOr.out fun g hg hw => hk4.block hw (by omega)
            have HIa : Hid (MIns wa w4.heap.size (.slice PA ms.length PC) ms vs) := HIr.out.keep hwa (fun j hj hj2 _ => hk4.block hj2 (by omega)) (.inl rfl)
            clear hk4 ht4 HMr HKr HKr4 HVr HRr HOr HIr i3
            have hr3 : r4.length + 3 ≤ l.length := by omega
            have hwr := HK4a.out.1
            go_wp2_with fail
            have HMd : Hid (Mr lo hi n a sv cv (.slice (some ⟨fb, foff, none⟩) y.fs.length cap2) y b r4 wa.drew) := ⟨HMa.out.row, HMa.out.sy, HMa.out.ev, HMa.out.hib, HMa.out.nb⟩
            have HLD : Hid (∀ (x41 x42 x43 : Value) (j : Nat) (u : World), j ≤ 2 → WAp wa.drew (CoFact lo hi n a sv cv (.slice (some ⟨fb, foff, none⟩) y.fs.length cap2) y b (rdOf (rdMk y f) y y.fs[i].args[k] r4) wa.drew) w4.heap.size 66 (.slice PA ms.length PC) ms.length vs ⟨w.heap.size + 1, 1, none⟩ x41 x42 x43 j u → u.cell? ⟨w.heap.size + 1, 1, none⟩ = some (.slice PA ms.length PC)) := fun x41 x42 x43 j u hj hW => by
              have hc : ∀ u1, Keep b wa.drew u1 → Row u1 (w.heap.size + 1) 202 [.int .i64 i, (.slice PA ms.length PC)] := fun u1 hk => Row.kept' (show Row wa.drew _ _ _ from HVa.out) hk hneb
              match j, hj, hW with
              | 0, _, hW =>
                have hu : u = wa.drew := hW
                rw [hu]
                exact Row.cell HVa.out 1
              | 1, _, hW =>
                obtain ⟨m, r, hm, hok, hno, hmr, hk⟩ := hW
                exact (hc u hk).cell 1
              | 2, _, hW =>
                obtain ⟨u1, ⟨m, r, hm, hok, hno, hmr, hk⟩, hu, _⟩ := hW
                rw [hu]
                exact ((hc u1 hk).alloc _).cell 1
            refine wp_region_inv (by kernel_rfl) (fun dn ac u => ∃ x37 x38 x39 x40 x41 x42 x43 x44 y8, ac = ⟨List.toArray (.pointer (some ⟨b, 0, none⟩) :: undef :: .pointer (some ⟨w.heap.size, 0, none⟩) :: .pointer (some ⟨w.heap.size + 1, 0, none⟩) :: .int .i64 ((k : Nat) : Int) :: .int .i64 y.fs[i].args[k] :: .pointer (some ⟨b, 0, none⟩) :: .pointer (some ⟨b, 0, none⟩) :: .pointer (some ⟨b, 0, none⟩) :: .pointer (some ⟨b, 1, none⟩) :: .pointer (some ⟨b, 3, none⟩) :: .slice (some ⟨fb, foff, none⟩) y.fs.length cap2 :: .int .i64 y.fs.length :: .int .i64 i :: .pointer (some ⟨w.heap.size + 1, 0, none⟩) :: .pointer (some ⟨b, 0, none⟩) :: .pointer (some ⟨b, 0, none⟩) :: .pointer (some ⟨b, 1, none⟩) :: .pointer (some ⟨b, 3, none⟩) :: .slice (some ⟨fb, foff, none⟩) y.fs.length cap2 :: .pointer (some ⟨w.heap.size + 1, 0, none⟩) :: .int .i64 i :: .pointer (some ⟨fb, foff + i * 4, none⟩) :: .pointer (some ⟨fb, foff + i * 4 + 1, none⟩) :: .slice (some ⟨b3, off3, none⟩) y.fs[i].args.length cap1 :: .int .i64 y.fs[i].args.length :: .int .i64 ((k : Nat) : Int) :: .bool true :: .int .i64 ((k : Nat) : Int) :: .pointer (some ⟨b3, off3 + k, none⟩) :: .int .i64 y.fs[i].args[k] :: .int .i64 ((k : Nat) : Int) :: .bool true :: .pointer (some ⟨b, 0, none⟩) :: .pointer (some ⟨b, 0, none⟩) :: .pointer (some ⟨b, 0, none⟩) :: .tuple #[] :: x37 :: x38 :: x39 :: x40 :: x41 :: x42 :: x43 :: x44 :: u45 :: undef :: undef :: undef :: undef :: undef :: []), []⟩ ∧ DetQ [fun v : Value => v = .pointer (some ⟨w.heap.size + 1, 1, none⟩), fun v : Value => v = .slice PA ms.length PC, fun v : Value => v = .pointer (some ⟨b, 0, none⟩), fun v : Value => v = .int .i64 y.fs[i].args[k], fun v : Value => True, fun v : Value => True, fun v : Value => True, fun v : Value => v = .pointer (some ⟨w.heap.size + 1, 1, none⟩), fun v : Value => True] dn [x37, x38, x39, x40, x41, x42, x43, x44, y8] ∧ Ch dn [4, 5, 6, 8] (WAp wa.drew (CoFact lo hi n a sv cv (.slice (some ⟨fb, foff, none⟩) y.fs.length cap2) y b (rdOf (rdMk y f) y y.fs[i].args[k] r4) wa.drew) w4.heap.size 66 (.slice PA ms.length PC) ms.length vs ⟨w.heap.size + 1, 1, none⟩ x41 x42 x43) u ∧ (dn 6 = true → dn 1 = true)) (of_decide_eq_true (by kernel_rfl)) ⟨_, _, _, _, _, _, _, _, .bool true, rfl, DetQ.start (by rfl), Ch.start rfl, (fun h => (by cases h))⟩ ?_ ?_
            · rintro dn ac u i8 op8 hop hfi hdep ⟨x37, x38, x39, x40, x41, x42, x43, x44, y8, rfl, hD, hC, hc0⟩
              have hil : i8 < 9 := by have := (Array.getElem?_eq_some_iff.1 hop).1; simpa using this
              obtain rfl | rfl | rfl | rfl | rfl | rfl | rfl | rfl | rfl : i8 = 0 ∨ i8 = 1 ∨ i8 = 2 ∨ i8 = 3 ∨ i8 = 4 ∨ i8 = 5 ∨ i8 = 6 ∨ i8 = 7 ∨ i8 = 8 := by omega
              all_goals
                obtain rfl := Option.some.inj hop
                refine wpOp_step hop fun K hK => ?_
                simp [Region.binds] at hdep
                clear hop
              · refine det_yes rfl ?_
                have HD := Lib.hid hD
                have HC := Lib.hid hC
                clear hD hC
                unfold Oper.wp
                go_simp
                exact hK _ _ ⟨_, _, _, _, _, _, _, _, y8, rfl, HD.out.step 0 rfl rfl, HC.out.other 0 (by decide), (fun h => (by have h2 := hc0; have h3 := hfi; simp at h h2 ⊢; first | done | exact h2 h | exact Or.inr (h2 h) | simp [hdep] | (rcases h with h | h; · simp_all; · exact Or.inr (h2 h)) | simp_all))⟩
              · obtain rfl : x37 = .pointer (some ⟨w.heap.size + 1, 1, none⟩) := hD.get (P := fun v : Value => v = .pointer (some ⟨w.heap.size + 1, 1, none⟩)) 0 (by simp [hdep]) rfl rfl
                have hn : dn 6 = false := by
                  cases h : dn 6 with
                  | false => rfl
                  | true => have h := hc0 h; rw [hfi] at h; cases h
                obtain ⟨j8, hj8, hW⟩ := hC.early 2 (by decide) hn
                have HLC : u.cell? ⟨w.heap.size + 1, 1, none⟩ = some (.slice PA ms.length PC) := HLD.out _ _ _ j8 u hj8 hW
                clear hW
                refine det_yes rfl ?_
                have HD := Lib.hid hD
                have HC := Lib.hid hC
                clear hD hC
                unfold Oper.wp
                go_simp
                exact hK _ _ ⟨_, _, _, _, _, _, _, _, y8, rfl, HD.out.step 1 rfl rfl, HC.out.other 1 (by decide), (fun h => (by have h2 := hc0; have h3 := hfi; simp at h h2 ⊢; first | done | exact h2 h | exact Or.inr (h2 h) | simp [hdep] | (rcases h with h | h; · simp_all; · exact Or.inr (h2 h)) | simp_all))⟩
              · refine det_yes rfl ?_
                have HD := Lib.hid hD
                have HC := Lib.hid hC
                clear hD hC
                unfold Oper.wp
                go_simp
                exact hK _ _ ⟨_, _, _, _, _, _, _, _, y8, rfl, HD.out.step 2 rfl rfl, HC.out.other 2 (by decide), (fun h => (by have h2 := hc0; have h3 := hfi; simp at h h2 ⊢; first | done | exact h2 h | exact Or.inr (h2 h) | simp [hdep] | (rcases h with h | h; · simp_all; · exact Or.inr (h2 h)) | simp_all))⟩
              · refine det_yes rfl ?_
                have HD := Lib.hid hD
                have HC := Lib.hid hC
                clear hD hC
                unfold Oper.wp
                go_simp
                exact hK _ _ ⟨_, _, _, _, _, _, _, _, y8, rfl, HD.out.step 3 rfl rfl, HC.out.other 3 (by decide), (fun h => (by have h2 := hc0; have h3 := hfi; simp at h h2 ⊢; first | done | exact h2 h | exact Or.inr (h2 h) | simp [hdep] | (rcases h with h | h; · simp_all; · exact Or.inr (h2 h)) | simp_all))⟩
              · obtain rfl : x39 = .pointer (some ⟨b, 0, none⟩) := hD.get (P := fun v : Value => v = .pointer (some ⟨b, 0, none⟩)) 2 (by simp [hdep]) rfl rfl
                obtain rfl : x40 = .int .i64 y.fs[i].args[k] := hD.get (P := fun v : Value => v = .int .i64 y.fs[i].args[k]) 3 (by simp [hdep]) rfl rfl
                have hW := hC.at_ 0 (by decide) hfi (by intro j9 e9 _; omega)
                refine det_yes rfl ?_
                have HD := Lib.hid hD
                have HC := Lib.hid hC
                clear hD hC
                have hu : u = wa.drew := hW
                subst hu
                clear hW
                unfold Oper.wp
                go_simp
                refine (madeOf_any lo hi n a _ _ _ y b f HI.out y.fs[i].args[k] r4 wa.drew HMd.out (by omega) (by omega)).mono ?_
                rintro e u2 ⟨⟨m, r, v, hm, hok, rfl, hno, hmr⟩ | ⟨hm, rfl⟩, hk⟩
                · have HW2 : WAp wa.drew (CoFact lo hi n a sv cv (.slice (some ⟨fb, foff, none⟩) y.fs.length cap2) y b (rdOf (rdMk y f) y y.fs[i].args[k] r4) wa.drew) w4.heap.size 66 (.slice PA ms.length PC) ms.length vs ⟨w.heap.size + 1, 1, none⟩ v x42 x43 1 u2 := ⟨m, r, hm, hok, hno, hmr, hk⟩
                  exact hK _ _ ⟨_, _, _, _, _, _, _, _, y8, rfl, HD.out.step 4 rfl (by trivial), HC.out.next 0 (by decide) hfi (by intro j9 e9 _; omega) (by decide) HW2, (fun h => (by have h2 := hc0; have h3 := hfi; simp at h h2 ⊢; first | done | exact h2 h | exact Or.inr (h2 h) | simp [hdep] | (rcases h with h | h; · simp_all; · exact Or.inr (h2 h)) | simp_all))⟩
                · have hno : rdApM (rdMk y f) y l = none := by rw [hco1.out, rdTo_none (k := k + 1) (by rw [hrd.out, hm]; rfl) _ (by omega)]; rfl
                  have hk9 : Keep b wa u2 := ⟨⟨hk.grown.os, hk.grown.tape, hk.grown.output, hk.grown.size, hk.grown.block⟩⟩
                  have HF := Lib.hid (And.intro hno (HKa.out.trans hk9))
                  clear hno hk9 hm hk HD HC
                  go_wp2
                  exact ⟨rfl, .inr ⟨HF.out.1, rfl⟩, HF.out.2⟩
              · have hW := hC.at_ 1 (by decide) hfi (by intro j9 e9 _; have f9 : j9 = 0 := (by omega); subst f9; simp [hdep])
                refine det_yes rfl ?_
                have HD := Lib.hid hD
                have HC := Lib.hid hC
                clear hD hC
                obtain ⟨m, r, hm, hok, hno, hmr, hk⟩ := hW
                obtain ⟨T, x, rfl⟩ := hno.form
                have HW2 : WAp wa.drew (CoFact lo hi n a sv cv (.slice (some ⟨fb, foff, none⟩) y.fs.length cap2) y b (rdOf (rdMk y f) y y.fs[i].args[k] r4) wa.drew) w4.heap.size 66 (.slice PA ms.length PC) ms.length vs ⟨w.heap.size + 1, 1, none⟩ (.iface T x) (.slice (some ⟨u.heap.size, 0, none⟩) 1 1) x43 2 (u.alloc (.cells #[.iface T x] 66)) := ⟨u, ⟨m, r, hm, hok, hno, hmr, hk⟩, rfl, rfl⟩
                have HWW := Lib.hid HW2
                clear HW2 hm hok hno hmr hk
                unfold Oper.wp
                go_simp
                have HW2 := HWW.out
                exact hK _ _ ⟨_, _, _, _, _, _, _, _, y8, rfl, HD.out.step 5 rfl (by trivial), HC.out.next 1 (by decide) hfi (by intro j9 e9 _; have f9 : j9 = 0 := (by omega); subst f9; simp [hdep]) (by decide) HW2, (fun h => (by have h2 := hc0; have h3 := hfi; simp at h h2 ⊢; first | done | exact h2 h | exact Or.inr (h2 h) | simp [hdep] | (rcases h with h | h; · simp_all; · exact Or.inr (h2 h)) | simp_all))⟩
              · obtain rfl : x38 = .slice PA ms.length PC := hD.get (P := fun v : Value => v = .slice PA ms.length PC) 1 (by simp [hdep]) rfl rfl
                have hW := hC.at_ 2 (by decide) hfi (by intro j9 e9 _; have f9 : j9 = 1 := (by omega); subst f9; simp [hdep])
                have HD := Lib.hid hD
                have HC := Lib.hid hC
                clear hD hC
                obtain ⟨u1, hC1, rfl, rfl⟩ := hW
                obtain ⟨m, r, hm, hok, hno, hmr, hk⟩ := hC1
                obtain ⟨T, x, rfl⟩ := hno.form
                have hsz : wa.heap.size ≤ u1.heap.size := hk.size
                have hown1 : (u1.alloc (.cells #[.iface T x] 66)).ownsRow w4.heap.size 66 1 (.slice PA ms.length PC) ms.length vs := own_same7 HOa.out (fun g hg hw => (((Below.refl _ _).alloc (Nat.le_refl _) _).block g (Nat.lt_of_lt_of_le hw hsz)).trans (hk.block (show g < wa.heap.size from hw) (by omega)))
                have hcell : (u1.alloc (.cells #[.iface T x] 66)).cell? ⟨u1.heap.size, 0, none⟩ = some (.iface T x) := (Row.new u1 66 [.iface T x]).cell 0
                have hmlv := hml.out
                refine step_push rfl (.tmp 38) (.tmp 42) 147 rfl i0 .nilIface 16 Tryz.underlying147 hi0 hz0 hz1 hz2 rfl rfl hown1 ⟨u1.heap.size, 0, none⟩ 1 (.iface T x) rfl hcell rfl (by unfold maxLen; omega) (by omega) (by rw [World.size_alloc]; omega) ?_
                intro v9 w9 hpu
                have HW2 : WAp wa.drew (CoFact lo hi n a sv cv (.slice (some ⟨fb, foff, none⟩) y.fs.length cap2) y b (rdOf (rdMk y f) y y.fs[i].args[k] r4) wa.drew) w4.heap.size 66 (.slice PA ms.length PC) ms.length vs ⟨w.heap.size + 1, 1, none⟩ (.iface T x) (.slice (some ⟨u1.heap.size, 0, none⟩) 1 1) v9 3 w9 := ⟨u1, ⟨m, r, hm, hok, hno, hmr, hk⟩, hpu⟩
                exact hK _ _ ⟨_, _, _, _, _, _, _, _, y8, rfl, HD.out.step 6 rfl (by trivial), HC.out.next 2 (by decide) hfi (by intro j9 e9 _; have f9 : j9 = 1 := (by omega); subst f9; simp [hdep]) (by decide) HW2, (fun h => (by have h2 := hc0; have h3 := hfi; simp at h h2 ⊢; first | done | exact h2 h | exact Or.inr (h2 h) | simp [hdep] | (rcases h with h | h; · simp_all; · exact Or.inr (h2 h)) | simp_all))⟩
              · refine det_yes rfl ?_
                have HD := Lib.hid hD
                have HC := Lib.hid hC
                clear hD hC
                unfold Oper.wp
                go_simp
                exact hK _ _ ⟨_, _, _, _, _, _, _, _, y8, rfl, HD.out.step 7 rfl rfl, HC.out.other 7 (by decide), (fun h => (by have h2 := hc0; have h3 := hfi; simp at h h2 ⊢; first | done | exact h2 h | exact Or.inr (h2 h) | simp [hdep] | (rcases h with h | h; · simp_all; · exact Or.inr (h2 h)) | simp_all))⟩
              · obtain rfl : x44 = .pointer (some ⟨w.heap.size + 1, 1, none⟩) := hD.get (P := fun v : Value => v = .pointer (some ⟨w.heap.size + 1, 1, none⟩)) 7 (by simp [hdep]) rfl rfl
                have hW := hC.at_ 3 (by decide) hfi (by intro j9 e9 _; have f9 : j9 = 2 := (by omega); subst f9; simp [hdep])
                refine det_yes rfl ?_
                have HD := Lib.hid hD
                have HC := Lib.hid hC
                clear hD hC
                obtain ⟨u1, hC1, hpu⟩ := hW
                obtain ⟨m, r, hm, hok, hno, hmr, hk⟩ := hC1
                obtain ⟨g9, c9, rfl⟩ := hpu.form
                have hsz : wa.heap.size ≤ u1.heap.size := hk.size
                have hpg := own_lt9 HOa.out
                have hblk : ∀ j, j < w4.heap.size → u.heap[j]? = u1.heap[j]? := fun j hj => (hpu.grown.block j (by rw [World.size_alloc]; omega) (fun e => by have := (hpg j e.symm).1; omega)).trans (((Below.refl _ _).alloc (Nat.le_refl _) (.cells #[x41] 66)).block j (by omega))
                have hrw : Row u (w.heap.size + 1) 202 [.int .i64 i, (.slice PA ms.length PC)] := (Row.kept' (show Row wa.drew _ _ _ from HVa.out) hk hneb).keep (hblk _ hs4)
                have q1 := hrw.cell 1
                have g1 := hrw.frozen 1
                simp only [List.getElem?_cons_zero, List.getElem?_cons_succ] at q1
                have HW2 : WAp wa.drew (CoFact lo hi n a sv cv (.slice (some ⟨fb, foff, none⟩) y.fs.length cap2) y b (rdOf (rdMk y f) y y.fs[i].args[k] r4) wa.drew) w4.heap.size 66 (.slice PA ms.length PC) ms.length vs ⟨w.heap.size + 1, 1, none⟩ x41 x42 (.slice (some ⟨g9, 0, none⟩) (ms.length + 1) c9) 4 (u.setCell ⟨w.heap.size + 1, 1, none⟩ (.slice (some ⟨g9, 0, none⟩) (ms.length + 1) c9)) := ⟨u, u1, ⟨m, r, hm, hok, hno, hmr, hk⟩, hpu, rfl⟩
                have HWW := Lib.hid HW2
                clear HW2 hm hok hno hmr hk hrw hblk hpg hpu
                unfold Oper.wp
                go_simp
                have HW2 := HWW.out
                exact hK _ _ ⟨_, _, _, _, _, _, _, _, .bool true, rfl, HD.out.step 8 rfl (by trivial), HC.out.next 3 (by decide) hfi (by intro j9 e9 _; have f9 : j9 = 2 := (by omega); subst f9; simp [hdep]) (by decide) HW2, (fun h => (by have h2 := hc0; have h3 := hfi; simp at h h2 ⊢; first | done | exact h2 h | exact Or.inr (h2 h) | simp [hdep] | (rcases h with h | h; · simp_all; · exact Or.inr (h2 h)) | simp_all))⟩
            · rintro dn ac u hall ⟨x37, x38, x39, x40, x41, x42, x43, x44, y8, rfl, hD, hC, hc0⟩
              obtain rfl : x37 = .pointer (some ⟨w.heap.size + 1, 1, none⟩) := hD.get (P := fun v : Value => v = .pointer (some ⟨w.heap.size + 1, 1, none⟩)) 0 (hall 0 (by decide)) rfl rfl
              obtain rfl : x38 = .slice PA ms.length PC := hD.get (P := fun v : Value => v = .slice PA ms.length PC) 1 (hall 1 (by decide)) rfl rfl
              obtain rfl : x39 = .pointer (some ⟨b, 0, none⟩) := hD.get (P := fun v : Value => v = .pointer (some ⟨b, 0, none⟩)) 2 (hall 2 (by decide)) rfl rfl
              obtain rfl : x40 = .int .i64 y.fs[i].args[k] := hD.get (P := fun v : Value => v = .int .i64 y.fs[i].args[k]) 3 (hall 3 (by decide)) rfl rfl
              obtain rfl : x44 = .pointer (some ⟨w.heap.size + 1, 1, none⟩) := hD.get (P := fun v : Value => v = .pointer (some ⟨w.heap.size + 1, 1, none⟩)) 7 (hall 7 (by decide)) rfl rfl
              have hW := hC.all (by intro j9 h9; exact hall _ (by revert j9; decide))
              clear hall hD hC hc0
              obtain ⟨u3, u1, ⟨m, r9, hm, hok, hno, hmr, hk⟩, hpu, hu⟩ := hW
              obtain ⟨T, x, rfl⟩ := hno.form
              obtain ⟨g9, c9, rfl⟩ := hpu.form
              have hk9 : Keep b wa u1 := ⟨⟨hk.grown.os, hk.grown.tape, hk.grown.output, hk.grown.size, hk.grown.block⟩⟩
              have hsz : wa.heap.size ≤ u1.heap.size := hk9.size
              have hno9 : MNodeAt u1 wa.heap.size m (.iface T x) := hno
              have hpg : ∀ g, (Value.slice PA ms.length PC).ownBlock = some g → w4.heap.size ≤ g ∧ g < wa.heap.size := own_lt9 HOa.out
              have hs3' : u1.heap.size + 1 ≤ u3.heap.size := by have := hpu.grown.size; simpa using this
              have h31 : ∀ j, j < u1.heap.size → (Value.slice PA ms.length PC).ownBlock ≠ some j → u3.heap[j]? = u1.heap[j]? := fun j hj hne => (hpu.grown.block j (by rw [World.size_alloc]; omega) (fun e => hne e.symm)).trans (((Below.refl _ _).alloc (Nat.le_refl _) (.cells #[.iface T x] 66)).block j hj)
              have hu3 : ∀ j, j ≠ w.heap.size + 1 → u.heap[j]? = u3.heap[j]? := fun j hj => by rw [hu]; exact Below.heap_setCell _ _ _ _ hj
              have hlow : ∀ j, j < w4.heap.size → j ≠ w.heap.size + 1 → u.heap[j]? = u1.heap[j]? := fun j hj hne => (hu3 j hne).trans (h31 j (by omega) fun e => by have := (hpg j e).1; omega)
              have hus : u.heap.size = u3.heap.size := by rw [hu]; simp [World.setCell]
              have HMu : Hid (Mr lo hi n a sv cv (.slice (some ⟨fb, foff, none⟩) y.fs.length cap2) y b r9 u) := hmr.low fun j hj => hlow j (by omega) (by omega)
              have HKu : Hid (Keep b w u) := ⟨⟨by rw [hu]; exact hpu.grown.os.trans (hk9.grown.os.trans HKa.out.grown.os), by rw [hu]; exact hpu.grown.tape.trans (hk9.grown.tape.trans HKa.out.grown.tape), by rw [hu]; exact hpu.grown.output.trans (hk9.grown.output.trans HKa.out.grown.output), by rw [hus]; have := HKa.out.size; omega, fun j hj hb => (hlow j (by omega) (by omega)).trans ((hk9.trans (Keep.refl _ _)).grown.block j (by have := HKa.out.size; omega) hb |>.trans (HKa.out.grown.block j hj hb))⟩⟩
              have HK4u : Hid (w4.heap.size ≤ u.heap.size ∧ ∀ j, j < b → u.heap[j]? = w4.heap[j]?) := ⟨by rw [hus]; omega, fun j hj => (hlow j (by omega) (by omega)).trans ((hk9.block (by omega) (by omega)).trans (HK4a.out.2 j hj))⟩
              have hv3 : Row u3 (w.heap.size + 1) 202 [.int .i64 i, .slice PA ms.length PC] := (Row.kept' HVa.out hk9 hneb).keep (h31 _ (by omega) fun e => by have := (hpg _ e).1; omega)
              have HVu : Hid (Row u (w.heap.size + 1) 202 [.int .i64 i, .slice (some ⟨g9, 0, none⟩) (ms.length + 1) c9]) := by rw [hu]; exact hv3.set_ 1 _
              have HRu : Hid (Row u w.heap.size 202 [.int .i64 0, .slice none 0 0]) := (Row.kept' HRa.out hk9 (by omega)).keep (hlow _ (by omega) (by omega))
              have HOu : Hid (u.ownsRow w4.heap.size 66 1 (.slice (some ⟨g9, 0, none⟩) (ms.length + 1) c9) (ms ++ [m]).length (vs ++ [.iface T x])) := by
                refine ownsRow_cast (own_same7 hpu.own fun g hg _ => hu3 g (by omega)) (by simp) rfl
              have HIu : Hid (MIns u w4.heap.size (.slice (some ⟨g9, 0, none⟩) (ms.length + 1) c9) (ms ++ [m]) (vs ++ [.iface T x])) := by
                have hp : (Value.slice (some ⟨g9, 0, none⟩) (ms.length + 1) c9).ownBlock = (Value.slice PA ms.length PC).ownBlock ∨ ∃ g, (Value.slice (some ⟨g9, 0, none⟩) (ms.length + 1) c9).ownBlock = some g ∧ wa.heap.size ≤ g := by
                  rcases hpu.at_ with e | ⟨g, e, h1, h2⟩
                  · exact .inl e
                  · exact .inr ⟨g, e, by rw [World.size_alloc] at h1; omega⟩
                have h1 := HIa.out.keep (w' := u) (ps' := .slice (some ⟨g9, 0, none⟩) (ms.length + 1) c9) (by rw [hus]; omega) (fun j hj hj2 hne => (hu3 j (by omega)).trans ((h31 j (by omega) hne).trans (hk9.block hj2 (by omega)))) hp
                refine h1.snoc ⟨u1, wa.heap.size, by omega, hno9, by rw [hus]; omega, fun j hj hj2 => ⟨(hu3 j (by omega)).trans (h31 j hj2 fun e => by have := (hpg j e).2; omega), ?_⟩⟩
                rcases hpu.at_ with e | ⟨g, e, h1, h2⟩
                · rw [e]; intro e2; have := (hpg j e2).2; omega
                · rw [e]; intro e2; injection e2 with e2; rw [World.size_alloc] at h1; omega
              have hrd2 : Hid (rdTo (rdMk y f) y y.fs[i].args (k + 1) r1 = some (ms ++ [m], r9)) := by show _ = _; rw [hrd.out, hm]; rfl
              have hl9 : r9.length + 3 ≤ l.length := by have h := rdMk_len hy (rdOf_eq hm).1; omega
              have hall : Hid (∀ m' ∈ ms ++ [m], MkOk y m') := fun m' hm' => by
                rcases List.mem_append.1 hm' with h | h
                · exact hmsok.out m' h
                · simp at h; subst h; exact hok
              have hml2 : Hid ((ms ++ [m]).length = k + 1) := by show _ = _; simp [hml.out]
              clear hm hok hno hmr hk hpu hu hk9 hsz hno9 hpg hs3' h31 hu3 hlow hus hv3
              go_wp2
              go_roundw
              case rel => exact ⟨k + 1, ms ++ [m], r9, Value.slice (some ⟨g9, 0, none⟩) (ms.length + 1) c9, vs ++ [Value.iface T x], by omega, by go_num, hml2.out, hl9, hrd2.out, HMu.out, HKu.out, HK4u.out, HVu.out, HRu.out, HOu.out, HIu.out, hall.out⟩
              case measure => simp [intOf]; omega
      · have hke : k = y.fs[i].args.length := by omega
        have hco2 : Hid (rdApM (rdMk y f) y l = (rdTake 41 r3).map fun r => (mkA i ms, r)) := by show _ = _; rw [hco1.out, ← hke, hrd0.out]; rfl
        have hms2 : Hid (ms.length ≤ 2) := by show _ ≤ _; have := hml.out; omega
        clear hrd0 hco1 hml
        go_wp2_with fail
        cases htk : rdTake 41 r3 with
        | none =>
          have hno : Hid (rdApM (rdMk y f) y l = none) := by show _ = _; rw [hco2.out, htk]; rfl
          refine (takeM_no b r3 41 41 rfl htk n a wr HMr.out.row HMr.out.ev).mono ?_
          clear htk hco2
          rintro e w6 ⟨rfl, rfl⟩
          go_wp2
          exact ⟨rfl, .inr ⟨hno.out, rfl⟩, HKr.out⟩
        | some r2 =>
          have hfin : Hid (rdApM (rdMk y f) y l = some (mkA i ms, r2)) := by show _ = _; rw [hco2.out, htk]; rfl
          have hok : Hid (MkOk y (mkA i ms)) := (rdMk_eq y hy (f + 1) (by rw [rdMk_ap y f h64 h64']; exact hfin.out)).1
          refine (takeM_yes b r3 r2 41 41 rfl htk wr HMr.out.row (by omega)).mono ?_
          clear htk hco2
          rintro e w5 ⟨rfl, hk4, ht4⟩
          have hb4 := HMr.out.lt
          have HM5 := Lib.hid (HMr.out.go hk4 ht4)
          have HK5 := Lib.hid (HKr.out.trans hk4)
          have R5 := Lib.hid (Row.kept' HRr.out hk4 (by omega))
          have V5 := Lib.hid (Row.kept' HVr.out hk4 hneb)
          have HO5 : Hid (w5.ownsRow w4.heap.size 66 1 (.slice PA ms.length PC) ms.length vs) := own_same7 HOr.out fun g hg hw => hk4.block hw (by omega)
          have HI5 : Hid (MNodesAt w5 w4.heap.size ms vs) := MNodesAt.same (fun g hg hw => hk4.block hw (by omega)) HIr.out.nodes
          have m0 := V5.out.cell 0
          have m1 := V5.out.cell 1
          have p0 := R5.out.cell 0
          have p1 := R5.out.cell 1
          have f0 := R5.out.frozen 0
          have f1 := R5.out.frozen 1
          simp only [List.getElem?_cons_zero, List.getElem?_cons_succ] at m0 m1 p0 p1
          clear hk4 ht4 HMr HKr HKr4 HVr HRr HOr HIr
          go_wp2
          obtain ⟨u5, hu5⟩ : ∃ u, u = (w5.setCell ⟨w.heap.size, 0, none⟩ (.int .i64 i)).setCell ⟨w.heap.size, 1, none⟩ (.slice PA ms.length PC) := ⟨_, rfl⟩
          rw [← hu5]
          have R6 : Hid (Row u5 w.heap.size 202 [.int .i64 i, .slice PA ms.length PC]) := by rw [hu5]; exact (R5.out.set_ 0 _).set_ 1 _
          have HK6 : Hid (Keep b w u5) := by rw [hu5]; exact (HK5.out.seto' (Nat.le_refl _) _).seto' (Nat.le_refl _) _
          have HM6 : Hid (Mr lo hi n a sv cv (.slice (some ⟨fb, foff, none⟩) y.fs.length cap2) y b r2 u5) := by rw [hu5]; exact (HM5.out.seto (p := ⟨w.heap.size, 0, none⟩) hblt _).seto (p := ⟨w.heap.size, 1, none⟩) hblt _
          have hsame : ∀ g, w4.heap.size ≤ g → g < w5.heap.size → u5.heap[g]? = w5.heap[g]? := fun g hg _ => by
            rw [hu5]
            exact (Below.heap_setCell _ _ _ _ (by show g ≠ w.heap.size; omega)).trans (Below.heap_setCell _ _ _ _ (by show g ≠ w.heap.size; omega))
          have HN6 : Hid (MNodeAt u5 w4.heap.size (mkA i ms) (.iface 202 (.agg #[.int .i64 i, .slice PA ms.length PC]))) := MNodeAt.mk hms2.out (own_same7 HO5.out hsame) (HI5.out.same hsame)
          have d0 := R6.out.cell 0
          have d1 := R6.out.cell 1
          simp only [List.getElem?_cons_zero, List.getElem?_cons_succ] at d0 d1
          clear hu5 hsame
          refine bodyPost_ret (v := .agg #[.int .i64 i, .slice PA ms.length PC]) (by simp [results, Tryz.results133, go_sem, d0, d1]) rfl ?_
          exact ⟨.inl ⟨mkA i ms, r2, _, hfin.out, hok.out, rfl, HN6.out.base (by omega), HM6.out⟩, HK6.out⟩
  · have hno : Hid (rdApM (rdMk y f) y l = none) := by show _ = _; unfold rdApM; rw [hop]; rfl
    have HK2 := Lib.hid (HK1.out.trans hk2)
    clear hop hk2 HM1 HK1 R1 V1
    go_wp2
    exact ⟨rfl, .inr ⟨hno.out, rfl⟩, HK2.out⟩
end Go.Proofs.YtdemcoghgnnheaaGreatDoor

