/-
  The contract of the program's steps: an iterator within itself over the parts of an explicit term.
-/
import Derived.Test.YtdemcoghgnnheaaGreatDoorK13
import Derived.Test.YtdemcoghgnnheaaGreatDoorK9
namespace Go.Proofs.YtdemcoghgnnheaaGreatDoor
open Go.RowKit
attribute [local go_sem] Oper.semAt_some

set_option maxRecDepth 100000 in
set_option maxHeartbeats 1000000 in
theorem steps_any (A1 A2 A3 : Option Addr) (n1 n2 n3 c1 c2 c3 : Nat) (T : TypeId) (x : Value) (w : World) :
    Calls Tryz.prog 59 #[.agg #[.slice A1 n1 c1, .slice A2 n2 c2, .slice A3 n3 c3], .iface T x] w fun e w' => e = .returned (.func (.func 97) #[] #[.pointer (some ⟨w.heap.size + 1, 0, none⟩), .pointer (some ⟨w.heap.size, 0, none⟩)]) ∧
      (w.alloc (.cells #[.slice A1 n1 c1, .slice A2 n2 c2, .slice A3 n3 c3] 37)).alloc (.cells #[.iface T x] 66) = w' := by
  have hmf : ∀ (fn : Fn) (first cap : Array Value) (w : World), (Instr.makeFunc fn first cap).run Tryz.prog w = .ok (.func fn first cap) w := fun _ _ _ _ => rfl
  go_enter Tryz.func59, Tryz.ntmps59
  go_wp2
  go_ret
  exact ⟨rfl, rfl⟩

/-- What the iterator over the parts of an explicit term does, whoever takes them. -/
def Iters (_lo _hi B : Nat) (sv cv fv : Value) (y : Sy) (w0 : World) (f : Nat) : Prop :=
  ∀ (m : Mk) (o : Value), (mkT m).length ≤ f → MkOk y m → MNodeAt w0 B m o → ∀ (l : Nat) (T : Nat → Prop) (J Jx : List Mk → (Nat → Prop) → World → Prop) (p1 p2 : Nat) (w : World), Cli y w0 B (itM m) l T J Jx → Below w0.heap.size w0 w → (∀ k, k < w0.heap.size → T k) → T p1 → T p2 → (∀ k, T k → k < w.heap.size) → Row w p1 66 [o] → Row w p2 37 [sv, cv, fv] → J [] (fun _ => False) w →
    Calls Tryz.prog 97 #[.func (.yield l) #[] #[], .pointer (some ⟨p1, 0, none⟩), .pointer (some ⟨p2, 0, none⟩)] w fun e w' => (∃ v, e = .returned v) ∧ ((∃ O', J (itM m) O' w') ∨ (∃ s' O', Jx s' O' w'))

set_option maxRecDepth 100000 in
set_option maxHeartbeats 4000000 in
theorem iters8 (lo hi B : Nat) (sv cv fv : Value) (y : Sy) (hy : SyOk y) (w0 : World) (hsy : SyAt w0 lo hi sv cv fv y) (hhi : hi ≤ w0.heap.size) : ∀ f, f ≤ 1000 → Iters lo hi B sv cv fv y w0 f := by
  intro f
  induction f with
  | zero => intro _ m o h; exact absurd h (by cases m <;> simp [mkT, dg])
  | succ f IH =>
    intro hf1 m o hf hok hnod l T J Jx p1 p2 w hC hbw hT0 hT1 hT2 hTw hp1 hp2 hJ
    have HI := Lib.hid (IH (by omega))
    obtain ⟨A1, cap1, rfl, _, _, _⟩ := hsy.1.1.form
    obtain ⟨A2, cap2, rfl, _, _, _⟩ := hsy.1.2.form
    obtain ⟨A3, cap3, rfl, _, _, _⟩ := hsy.2.form
    have HS := Lib.hid hsy
    have HN := Lib.hid hnod
    have HC := Lib.hid hC
    have HT0 := Lib.hid hT0
    have HTw := Lib.hid hTw
    have HP1 := Lib.hid hp1
    have HP2 := Lib.hid hp2
    have HJ := Lib.hid hJ
    have HBW := Lib.hid hbw
    have hbs := hbw.size
    obtain ⟨TT, xx, rfl⟩ := hnod.form
    have hb3 : Below w.heap.size w (w.alloc (.cells #[.func (.yield l) #[] #[]] 146)) := (Below.refl _ _).alloc (Nat.le_refl _) _
    have q1 := (hp1.alloc (.cells #[.func (.yield l) #[] #[]] 146)).cell 0
    simp only [List.getElem?_cons_zero] at q1
    have HR := Lib.hid (rwi_any m B (.iface TT xx) w0 (w.alloc (.cells #[.func (.yield l) #[] #[]] 146)) hnod (hbw.trans (hb3.mono hbs)))
    have HB3 := Lib.hid hb3
    have hlen := itM_len m
    have hlen3 : (mkT m).length ≤ 1000 := by omega
    clear hsy hnod hC hT0 hTw hp1 hp2 hJ hbw IH hb3
    refine (callsIn_wide (n := 9)).1 ?_
    refine callsIn_of_wp_marks Tryz.func97 rfl trivial (wpIn_wide.2 ?_) rfl
    simp only [Tryz.ntmps97, List.size_toArray, List.length_cons, List.length_nil, Nat.reduceAdd, Nat.reduceSub, Array.replicate_succ, Array.replicate_zero, List.push_toArray, List.append_toArray, List.nil_append, List.cons_append]
    go_wp2_with fail
    refine HR.out.mono ?_
    rintro e w1 ⟨RA, rc, vs, rfl, hb1, hnv, hrw⟩
    have hsz1 := hb1.size
    rw [World.size_alloc] at hsz1
    have hb01 : Below w.heap.size w w1 := HB3.out.trans (hb1.mono (by rw [World.size_alloc]; omega))
    have HSt : Hid (St T J y w w1.heap.size w.heap.size (.func (.yield l) #[] #[]) RA vs (inM m) [] 0 (fun b => w.heap.size ≤ b ∧ b < w1.heap.size) [] (.slice none 0 0) w1) := by
      refine ⟨HC.out.give _ _ _ _ (HC.out.step _ _ _ _ HJ.out (kept_of hb01)) (fun b hb => .inr hb), fun b hb => hb, kept_of hb01, ?_, ⟨Nat.le_refl _, by omega⟩, by omega, fun j hj => ?_, World.ownsRow_nil _ _ _ _, fun b hb => (by simp [Value.ownBlock] at hb), List.nodup_nil, fun d hd => (by cases hd), Nat.le_refl _⟩
      · exact (Row.new w 146 [.func (.yield l) #[] #[]]).keep (hb1.block _ (by rw [World.size_alloc]; omega))
      · obtain ⟨g, e1, e2, h3⟩ := hrw j hj
        rw [World.size_alloc] at h3
        rcases h3 with h3 | h3
        · exact ⟨g, e1, e2, .inl (HT0.out g h3), by omega⟩
        · exact ⟨g, e1, e2, .inr ⟨by omega, h3.2⟩, h3.2⟩
    have Hnv := Lib.hid hnv
    have hin2 := inM_two m
    obtain ⟨i0, hi0, hz0, hz1, hz2⟩ := info_parts (show (Tryz.prog.info? 3).map (fun i => (i.zero, i.size, i.bytes)) = some (some (.int .i64 0), 1, 8) by kernel_rfl)
    have hMw : Hid (w.heap.size ≤ w1.heap.size) := by show _ ≤ _; omega
    clear hb1 hb01 hnv hrw HR HB3 q1
    generalize hM : w1.heap.size = M at HSt hMw
    go_wp2_with fail
    refine wp_loop (fun a' wr => ∃ (k : Nat) (ix vv u6 u7 u15 u16 u17 u18 u19 u20 u29 u30 u31 u32 u33 : Value) (s : List Mk) (O : Nat → Prop) (dl : List Nat), k ≤ (inM m).length ∧ ix = .int .i64 k ∧ s = (((inM m).take k).map itM).flatten ∧ Hid (St T J y w M w.heap.size (.func (.yield l) #[] #[]) RA vs (inM m) s k O dl vv wr) ∧ a' = { tmps := #[.func (.yield l) #[] #[], .pointer (some ⟨p1, 0, none⟩), .pointer (some ⟨p2, 0, none⟩), .pointer (some ⟨w.heap.size, 0, none⟩), vv, undef, u6, u7, undef, undef, undef, .iface TT xx, .slice RA (inM m).length rc, .int .i64 (inM m).length, ix, u15, u16, u17, u18, u19, u20, undef, undef, undef, undef, undef, undef, undef, undef, u29, u30, u31, u32, u33, undef, undef, undef, undef, undef, undef, undef, undef, undef], defers := mkD dl }) (fun a' _ => (inM m).length - (intOf (a'.tmps.getD 14 undef)).toNat) ?_ ?_
    · refine ⟨0, .int .i64 0, .slice none 0 0, undef, undef, undef, undef, undef, undef, undef, undef, undef, undef, undef, undef, undef, [], _, [], Nat.zero_le _, rfl, rfl, HSt.out, ?_⟩
      rfl
    clear HSt
    rintro a' wr ⟨k, ix, vv, u6, u7, u15, u16, u17, u18, u19, u20, u29, u30, u31, u32, u33, s, O, dl, hk, rfl, hs, hSt, rfl⟩
    dsimp only
    have hwr := hSt.out.kp.size
    have hR2 : Row wr p2 37 [.slice A1 y.ty.sizes.length cap1, .slice A2 y.ty.cos.length cap2, .slice A3 y.fs.length cap3] := HP2.out.keep (hSt.out.kp.block p2 (HTw.out p2 hT2) hT2)
    have hR1 : Row wr p1 66 [.iface TT xx] := HP1.out.keep (hSt.out.kp.block p1 (HTw.out p1 hT1) hT1)
    have HBr : Hid (Below w0.heap.size w0 wr) := HBW.out.trans (kept_below hSt.out.kp (fun k hk => HT0.out k hk) hbs)
    by_cases hkl : k < (inM m).length
    · obtain ⟨g, rfl, hcell, hg, hgM⟩ := hSt.out.rw k hkl
      obtain ⟨v, hv, hnp⟩ := Hnv.out.at k hkl
      obtain ⟨T2, x2, rfl⟩ := hnp.form
      rw [hv] at hcell
      have hpl := inM_len (List.getElem_mem hkl)
      have hpok := inM_ok hok (List.getElem_mem hkl)
      obtain ⟨W2, hW2⟩ : ∃ u, u = ((wr.alloc (.cells #[.int .i64 0] 3)).alloc (.cells #[.slice A1 y.ty.sizes.length cap1, .slice A2 y.ty.cos.length cap2, .slice A3 y.fs.length cap3] 37)).alloc (.cells #[.iface T2 x2] 66) := ⟨_, rfl⟩
      have hd2 : W2.heap.size = wr.heap.size + 3 := by rw [hW2]; simp
      have hb2 : Below wr.heap.size wr W2 := by rw [hW2]; go_grown
      have r7 : Row W2 wr.heap.size 3 [.int .i64 0] := by rw [hW2]; exact ((Row.new wr _ _).alloc _).alloc _
      have r8 : Row W2 (wr.heap.size + 1) 37 [.slice A1 y.ty.sizes.length cap1, .slice A2 y.ty.cos.length cap2, .slice A3 y.fs.length cap3] := by
        rw [hW2]
        have h := Row.new (wr.alloc (.cells #[.int .i64 0] 3)) 37 [.slice A1 y.ty.sizes.length cap1, .slice A2 y.ty.cos.length cap2, .slice A3 y.fs.length cap3]
        rw [World.size_alloc] at h
        exact h.alloc _
      have r9 : Row W2 (wr.heap.size + 1 + 1) 66 [.iface T2 x2] := by
        rw [hW2]
        have h := Row.new ((wr.alloc (.cells #[.int .i64 0] 3)).alloc (.cells #[.slice A1 y.ty.sizes.length cap1, .slice A2 y.ty.cos.length cap2, .slice A3 y.fs.length cap3] 37)) 66 [.iface T2 x2]
        rw [World.size_alloc, World.size_alloc] at h
        exact h
      have hSt2 := hSt.out.mine HC.out hb2 HTw.out
      obtain ⟨O2, hO2⟩ : ∃ O2 : Nat → Prop, O2 = fun b => O b ∨ (wr.heap.size ≤ b ∧ b < W2.heap.size) := ⟨_, rfl⟩
      rw [← hO2] at hSt2
      have HO2 : Hid (∀ b, O2 b ↔ O b ∨ (wr.heap.size ≤ b ∧ b < W2.heap.size)) := fun b => by rw [hO2]
      have HSt2 := Lib.hid hSt2
      have HR7 := Lib.hid r7
      have HR8 := Lib.hid r8
      have HR9 := Lib.hid r9
      have HB2 := Lib.hid hb2
      have HNP := Lib.hid hnp
      have hv0 := (hR2.alloc (.cells #[.int .i64 0] 3)).cell 0
      have hv1 := (hR2.alloc (.cells #[.int .i64 0] 3)).cell 1
      have hv2 := (hR2.alloc (.cells #[.int .i64 0] 3)).cell 2
      simp only [List.getElem?_cons_zero, List.getElem?_cons_succ] at hv0 hv1 hv2
      have HSA := Lib.hid (steps_any A1 A2 A3 y.ty.sizes.length y.ty.cos.length y.fs.length cap1 cap2 cap3 T2 x2 (wr.alloc (.cells #[.int .i64 0] 3)))
      rw [World.size_alloc] at HSA
      clear hSt2 r7 r8 r9 hb2 hnp hR1 hR2 hO2 hv
      go_wp2_with fail
      refine HSA.out.mono ?_
      rintro e wx ⟨rfl, rfl⟩
      clear HSA hv0 hv1 hv2 hcell
      go_wp2_with fail
      rw [← hW2]
      clear hW2
      have hTd : ∀ b, (T b ∨ O2 b) → b < W2.heap.size := fun b hb => hb.elim (fun h => by have := HTw.out b h; omega) (fun h => (HSt2.out.lo b h).2)
      have hlT : ¬ T wr.heap.size := fun h => by have := HTw.out _ h; omega
      have hlb : wr.heap.size < W2.heap.size := by omega
      have hO2b : O2 wr.heap.size := (HO2.out _).2 (.inr ⟨Nat.le_refl _, hlb⟩)
      refine wpIn_wide.1 (range2_law (n := 9) (y := y) (w0 := w0) (B := B) (fun v1 v2 => { tmps := #[.func (.yield l) #[] #[], .pointer (some ⟨p1, 0, none⟩), .pointer (some ⟨p2, 0, none⟩), .pointer (some ⟨w.heap.size, 0, none⟩), vv, undef, .iface T2 x2, .pointer (some ⟨wr.heap.size, 0, none⟩), v1, v2, undef, .iface TT xx, .slice (some ⟨g, 0, none⟩) (inM m).length rc, .int .i64 (inM m).length, .int .i64 k, .bool true, .pointer (some ⟨g, k, none⟩), .iface T2 x2, .agg #[.slice A1 y.ty.sizes.length cap1, .slice A2 y.ty.cos.length cap2, .slice A3 y.fs.length cap3], .iface T2 x2, .func (.func 97) #[] #[.pointer (some ⟨wr.heap.size + 1 + 1, 0, none⟩), .pointer (some ⟨wr.heap.size + 1, 0, none⟩)], v1, v2, undef, undef, undef, undef, undef, undef, u29, u30, u31, u32, u33, undef, undef, undef, undef, undef, undef, undef, undef, undef], defers := [] }) ?asg (gf := 97) (lb := #[.pointer (some ⟨wr.heap.size + 1 + 1, 0, none⟩), .pointer (some ⟨wr.heap.size + 1, 0, none⟩)]) rfl (enters_of Tryz.func97 (by kernel_rfl) rfl) (fun b => (T b ∨ O2 b) ∧ b ≠ wr.heap.size) (fun b hb => hTd b hb.1) (itM (inM m)[k]) (fun s' O' A' => InI T J y s O2 wr.heap.size W2.heap.size W2 s' O' A') (fun c _ O' A' => InX Jx O2 wr.heap.size W2.heap.size W2 c O' A')
        (fun s' O' A' C' h _ _ _ hk => h.step HC.out hTd hlb hk) (fun s' O' O'' A' h hs => h.give HC.out hs) (fun s' O' A' k' o' h h1 h2 => h.put HC.out hTd hlb o' h1 h2) (fun c s' O' A' C' h _ _ hz hk => h.step HC.out hTd hz hk) (fun c s' O' O'' A' h hs => h.give HC.out hs) (fun c s' O' A' k' o' h h1 h2 => h.put HC.out hTd o' h1 h2)
        ?iter (fun W1 hb1 hs1 => InI.start HC.out rfl hTd HSt2.out.j HR7.out hb1 hs1) ?body (by omega) ?done ?stop)
      case asg =>
        intro l' v1 v2 W m' K hK
        gi_wp2
        exact hK
      case iter =>
        intro l' J' Jx' W1 hcl hb1 hJ1
        have hs1 := hb1.size
        exact HI.out (inM m)[k] (.iface T2 x2) (by omega) hpok HNP.out l' _ J' Jx' (wr.heap.size + 1 + 1) (wr.heap.size + 1) W1 hcl ((HBr.out.trans (HB2.out.mono HBr.out.size)).trans (hb1.mono (by omega))) (fun b hb => ⟨.inl (HT0.out b hb), by omega⟩) ⟨.inr ((HO2.out _).2 (.inr (by omega))), by omega⟩ ⟨.inr ((HO2.out _).2 (.inr (by omega))), by omega⟩ (fun b hb => by have := hTd b hb.1; omega) (HR9.out.below hb1 (by omega)) (HR8.out.below hb1 (by omega)) hJ1
      case body =>
        rintro l' s' p o O' A' m' hI hpok' hnp' hbA hlen' n0 n1 hz
        have hdd : ∀ k : Nat, ((Fence.wide.inRound l').depth.isSome = true → 1 ≤ k) := fun k h => by simp [Fence.wide, Fence.inRound] at h
        have r3 : Row A' w.heap.size 146 [.func (.yield l) #[] #[]] := HSt2.out.row.keep (hI.kp.block _ HSt2.out.row.lt ⟨.inr HSt2.out.o3, by have := HSt2.out.l3; have := hSt.out.mm; omega⟩)
        have c3 := r3.cell 0
        simp only [List.getElem?_cons_zero] at c3
        obtain ⟨fn, tmps, assign, body, hy, hR⟩ := HC.out.round (s ++ s') p o _ A' hI.j hpok' hnp' hbA (by obtain ⟨t, ht⟩ := hlen'; exact ⟨t ++ (((inM m).drop (k + 1)).map itM).flatten ++ [m], by rw [itM_in, flat_split itM hkl, ← hs, ht]; simp⟩) (m' - 1)
        have HII := Lib.hid hI
        obtain ⟨T9, x9, rfl⟩ := hnp'.form
        clear r3 hI hnp' hbA hpok'
        gi_wp2
        refine ⟨hdd _, RoundIn.mono (F := Fence.wide.inRound l') hR ?_⟩
        rintro e C (⟨rfl, hkC, hjC⟩ | ⟨rfl, hkC, hjC⟩)
        · have hN := HII.out.next HC.out hO2b hlT hlb hkC hjC
          have hrow : Row C wr.heap.size 3 [.int .i64 (lastV y s')] := HII.out.row.keep (hkC.block _ HII.out.row.lt (.inl (.inl hO2b)))
          have cl := hrow.cell 0
          have clf := hrow.frozen 0
          simp only [List.getElem?_cons_zero] at cl
          have HNN := Lib.hid hN
          clear hN hrow hkC hjC hy hR c3
          gi_wp2
          exact ⟨HNN.out.2, HNN.out.1⟩
        · have hN := HII.out.nextX hkC hjC
          have HNN := Lib.hid hN
          clear hN hkC hjC hy hR c3
          gi_wp2
          exact ⟨HNN.out.2, HNN.out.1⟩
      case done =>
        intro O' W' hI hdef
        have hkW : Kept (fun b => O b ∨ T b) wr W' := kept_trans (kept_of HB2.out) (kept_sub hI.kp fun b hb hS => hS.elim (fun h => ⟨.inr ((HO2.out b).2 (.inl h)), by have := (hSt.out.lo b h).2; omega⟩) (fun h => ⟨.inl h, by have := HTw.out b h; omega⟩))
        have hSt3 := (hSt.out.move (O' := fun b => O2 b ∨ O' b ∨ b = W2.heap.size ∨ b = W2.heap.size + 1) hkW HTw.out (fun b h => .inl ((HO2.out b).2 (.inl h))) (fun b h => by
          have hz := hI.sz
          rcases h with h | h | h
          · have := HSt2.out.lo b h; omega
          · have := hI.lo b h; omega
          · omega) hI.j).mark (d := W2.heap.size) (.inr (.inr (.inl rfl))) (fun h => by have := (hSt.out.lo _ (hSt.out.df _ h).1).2; omega) hdef
        have HSt3 := Lib.hid hSt3
        have cl := hI.row.cell 0
        rw [lastV_it] at cl
        simp only [List.getElem?_cons_zero] at cl
        have hs3 := hSt3.kp.size
        have hmm3 := hSt3.mm
        have hs' := flat_succ itM hkl
        rw [← hs] at hs'
        have Hs' := Lib.hid hs'
        obtain ⟨XS, hXS⟩ : ∃ XS, XS = (((inM m).take k).map (valM y)).map (Value.int .i64) := ⟨_, rfl⟩
        have HOW : Hid (W'.ownsRow M 3 1 vv k XS) := by show World.ownsRow _ _ _ _ _ _ _; rw [hXS]; exact hSt3.own
        have HXS := Lib.hid hXS
        clear hkW hSt3 hI hdef hSt hs' hs hXS hd2
        go_wp2_with (at_builtin; refine wpList_push rfl (.tmp 29) (.tmp 31) 22 rfl i0 (.int .i64 0) 8 Tryz.underlying22 hi0 hz0 hz1 hz2 rfl rfl (HOW.out.alloc _) ⟨W'.heap.size, 0, none⟩ 1 (.int .i64 (valM y (inM m)[k])) rfl (by simp [go_sem]) rfl (by unfold maxLen; omega) (by omega) (by simp; omega) ?_)
        intro v5 w5 hp
        rw [HXS.out] at hp
        have HSt5 := Lib.hid (HSt3.out.push HC.out hkl ((Below.refl _ _).alloc (Nat.le_refl _) _) HTw.out hp)
        clear hp
        go_wp2
        refine ⟨⟨k + 1, _, v5, _, _, _, _, _, _, _, _, _, _, _, _, _, s ++ itM (inM m)[k], _, W2.heap.size :: dl, by omega, ?_, Hs'.out.symm, HSt5.out, rfl⟩, ?_⟩
        · go_num
        simp [intOf]
        omega
      case stop =>
        intro c s' O' W' hX hdef
        obtain rfl := hX.ret
        have hkW : Kept O wr W' := kept_trans (kept_of HB2.out) (kept_sub hX.kp fun b hb h => ⟨(HO2.out b).2 (.inl h), by have := (hSt.out.lo b h).2; omega⟩)
        have HFin : Hid (Fin8 J Jx (itM m) (fun b => O2 b ∨ O' b ∨ b = W2.heap.size ∨ b = W2.heap.size + 1) W') := by
          obtain ⟨s3, hj⟩ := hX.j
          exact .inr ⟨s3, _, fun b h => h, hj⟩
        have Hnd : Hid ((W2.heap.size :: dl).Nodup) := List.nodup_cons.2 ⟨fun h => by have := (hSt.out.lo _ (hSt.out.df _ h).1).2; omega, hSt.out.nd⟩
        have Hdf : Hid (∀ d ∈ W2.heap.size :: dl, (fun b => O2 b ∨ O' b ∨ b = W2.heap.size ∨ b = W2.heap.size + 1) d ∧ W'.heap[d]? = some (.deferred (some []))) := fun d hd => by
          rcases List.mem_cons.1 hd with e | e
          · subst e; exact ⟨.inr (.inr (.inl rfl)), hdef⟩
          · have h := hSt.out.df d e
            exact ⟨.inl ((HO2.out d).2 (.inl h.1)), (hkW.block d (hSt.out.lo d h.1).2 h.1).trans h.2⟩
        clear hX hdef hkW hSt hs hd2 HI HR7 HR8 HR9 HSt2
        refine wpIn_wide.2 ?_
        go_wp2
        exact leaves8 (F := Fence.wide) (n := 9) (fun b => O2 b ∨ O' b ∨ b = W2.heap.size ∨ b = W2.heap.size + 1) (fun u d hd hG => hG.put HC.out hd _) (fun u hG => ⟨_, results_none rfl _ _ _, ⟨_, rfl⟩, hG.out⟩) (W2.heap.size :: dl) W' Hnd.out Hdf.out HFin.out
    · have hke : k = (inM m).length := by omega
      have hse : s = ((inM m).map itM).flatten := by rw [hs, List.take_of_length_le (by omega)]
      have hlen4 : ∃ t, itM m = s ++ m :: t := ⟨[], by rw [itM_in, hse]⟩
      subst hke
      have EV := evaluator_any lo hi B _ _ _ y hy m hok _ w0 wr HN.out (HS.out.below HBr.out hhi) (Nat.le_trans hhi HBr.out.size)
      have HEV := Lib.hid EV
      have v0 := hR2.cell 0
      have v1 := hR2.cell 1
      have v2 := hR2.cell 2
      have v3 := hR1.cell 0
      simp only [List.getElem?_cons_zero, List.getElem?_cons_succ] at v0 v1 v2 v3
      have HR1 := Lib.hid hR1
      have hki : ¬ (((inM m).length : Int) < ((inM m).length : Int)) := by omega
      clear EV hR1 hR2 hkl hk hs
      go_wp2_with fail
      refine HEV.out.mono ?_
      rintro e wE ⟨ev, rfl, hev, hbE⟩
      obtain ⟨fid, first, cap, rfl, hent, hcall⟩ := hev
      have HBE := Lib.hid hbE
      have HCL := Lib.hid hcall
      have HENT := Lib.hid hent
      clear hbE hcall hent HEV v0 v1 v2 v3
      go_wp2_with fail
      have hro8 : Fence.wide.round = none := rfl
      have hdd : ∀ k : Nat, (Fence.wide.depth.isSome = true → 1 ≤ k) := fun k h => by simp [Fence.wide] at h
      have HLD : Hid (∀ (j : Nat) (u : World), j ≤ 1 → (WTwo wE (fun u => Below wr.heap.size wE u) (fun u => Fin8 J Jx (itM m) O u ∧ ∀ d ∈ dl, u.heap[d]? = some (.deferred (some [])))) j u → u.cell? ⟨w.heap.size, 0, none⟩ = some (.func (.yield l) #[] #[]) ∧ u.cell? ⟨p1, 0, none⟩ = some (.iface TT xx)) := fun j u hj hW => by
        have hu : Below wr.heap.size wr u := by
          match j, hj, hW with
          | 0, _, hW =>
            obtain ⟨n8, rfl⟩ := hW
            exact below_drewN HBE.out _
          | 1, _, hW => exact HBE.out.trans hW
        exact ⟨(hSt.out.row.below hu hSt.out.row.lt).cell 0, (HR1.out.below hu HR1.out.lt).cell 0⟩
      have HCV : Hid (∀ q : Nat, Calls Tryz.prog fid (first ++ #[vv] ++ cap) (wE.drewN q) fun e w' => e = .returned (.int .i64 (valM y m)) ∧ Below wr.heap.size wE w') := fun q => HCL.out q vv M (by
        have h := hSt.out.own
        rw [List.take_length] at h
        exact ownsRow_keep1 h fun b hb => HBE.out.block b (hSt.out.lo b (hSt.out.oo b hb)).2)
      have HRO : Hid (∀ u : World, Below wr.heap.size wE u → YieldAt Fence.wide (9 - 1) Tryz.prog l #[.iface TT xx, .int .i64 (valM y m)] u fun e C => (∃ bv : Bool, e = .returned (.bool bv)) ∧ Fin8 J Jx (itM m) O C ∧ ∀ d ∈ dl, C.heap[d]? = some (.deferred (some []))) := fun u hu => by
        have hwu : Below wr.heap.size wr u := HBE.out.trans hu
        have hS := hSt.out.mine HC.out hwu HTw.out
        have hit : s ++ [m] = itM m := by rw [hse, ← itM_in]
        refine (HC.out.round s m _ _ u hS.j hok HN.out (HBr.out.trans (hwu.mono HBr.out.size)) hlen4 (9 - 1)).mono ?_
        rintro e C h
        rw [hit] at h
        rcases h with ⟨rfl, hk, hj⟩ | ⟨rfl, hk, hj⟩
        · exact ⟨⟨_, rfl⟩, .inl ⟨_, fun b hb => .inl hb, hj⟩, fun d hd => (hk.block d (hS.lo d (hS.df d hd).1).2 (.inl (hS.df d hd).1)).trans (hS.df d hd).2⟩
        · exact ⟨⟨_, rfl⟩, .inr ⟨_, _, fun b hb => .inl hb, hj⟩, fun d hd => (hk.block d (hS.lo d (hS.df d hd).1).2 (hS.df d hd).1).trans (hS.df d hd).2⟩
      refine wpIn_wide.1 (wpIn_region_inv (n := 9) (by kernel_rfl) (fun dn ac u => ∃ x37 x38 x39 x40 x41 x42, ac = ⟨List.toArray (.func (.yield l) #[] #[] :: .pointer (some ⟨p1, 0, none⟩) :: .pointer (some ⟨p2, 0, none⟩) :: .pointer (some ⟨w.heap.size, 0, none⟩) :: vv :: undef :: u6 :: u7 :: undef :: undef :: .func (.func fid) first cap :: .iface TT xx :: .slice RA (inM m).length rc :: .int .i64 (inM m).length :: .int .i64 (inM m).length :: .bool false :: u16 :: u17 :: u18 :: u19 :: u20 :: undef :: undef :: undef :: undef :: undef :: undef :: undef :: undef :: u29 :: u30 :: u31 :: u32 :: u33 :: .agg #[.slice A1 y.ty.sizes.length cap1, .slice A2 y.ty.cos.length cap2, .slice A3 y.fs.length cap3] :: .iface TT xx :: .func (.func fid) first cap :: x37 :: x38 :: x39 :: x40 :: x41 :: x42 :: []), mkD dl⟩ ∧ DetQ [fun v : Value => v = .func (.yield l) #[] #[], fun v : Value => v = .iface TT xx, fun v : Value => v = .func (.func fid) first cap, fun v : Value => v = vv, fun v : Value => v = .int .i64 (valM y m), fun v : Value => True] dn [x37, x38, x39, x40, x41, x42] ∧ Ch dn [4, 5] (WTwo wE (fun u => Below wr.heap.size wE u) (fun u => Fin8 J Jx (itM m) O u ∧ ∀ d ∈ dl, u.heap[d]? = some (.deferred (some [])))) u ∧ (dn 5 = true → dn 0 = true) ∧ (dn 5 = true → dn 1 = true)) (of_decide_eq_true (by kernel_rfl)) ⟨_, _, _, _, _, _, rfl, DetQ.start (by rfl), Ch.start ⟨1, rfl⟩, (fun h => (by cases h)), (fun h => (by cases h))⟩ ?_ ?_)
      · rintro dn ac u i8 op8 hop hfi hdep ⟨x37, x38, x39, x40, x41, x42, rfl, hD, hC, hc0, hc1⟩
        have hil : i8 < 6 := by have := (Array.getElem?_eq_some_iff.1 hop).1; simpa using this
        obtain rfl | rfl | rfl | rfl | rfl | rfl : i8 = 0 ∨ i8 = 1 ∨ i8 = 2 ∨ i8 = 3 ∨ i8 = 4 ∨ i8 = 5 := by omega
        all_goals
          obtain rfl := Option.some.inj hop
          refine wpOpIn_step8 hop fun K hK => ?_
          simp [Region.binds] at hdep
          clear hop
        · have hn : dn 5 = false := by
            cases h : dn 5 with
            | false => rfl
            | true => have h := hc0 h; rw [hfi] at h; cases h
          obtain ⟨j8, hj8, hW⟩ := hC.early 1 (by decide) hn
          have d1 := (HLD.out j8 u hj8 hW).1
          refine det_yes rfl ?_
          have HD := Lib.hid hD
          have HC := Lib.hid hC
          clear hD hC
          unfold Oper.wpIn
          refine ⟨fun _ _ => trivial, ?_⟩
          rw [hro8, Oper.semAt_none]
          go_simp
          exact hK _ _ ⟨_, _, _, _, _, _, rfl, HD.out.step 0 rfl rfl, HC.out.other 0 (by decide), (fun h => (by have h2 := hc0; have h3 := hfi; simp at h h2 ⊢; first | done | exact h2 h | exact Or.inr (h2 h) | simp [hdep] | (rcases h with h | h; · simp_all; · exact Or.inr (h2 h)) | simp_all)), (fun h => (by have h2 := hc1; have h3 := hfi; simp at h h2 ⊢; first | done | exact h2 h | exact Or.inr (h2 h) | simp [hdep] | (rcases h with h | h; · simp_all; · exact Or.inr (h2 h)) | simp_all))⟩
        · have hn : dn 5 = false := by
            cases h : dn 5 with
            | false => rfl
            | true => have h := hc1 h; rw [hfi] at h; cases h
          obtain ⟨j8, hj8, hW⟩ := hC.early 1 (by decide) hn
          have d1 := (HLD.out j8 u hj8 hW).2
          refine det_yes rfl ?_
          have HD := Lib.hid hD
          have HC := Lib.hid hC
          clear hD hC
          unfold Oper.wpIn
          refine ⟨fun _ _ => trivial, ?_⟩
          rw [hro8, Oper.semAt_none]
          go_simp
          exact hK _ _ ⟨_, _, _, _, _, _, rfl, HD.out.step 1 rfl rfl, HC.out.other 1 (by decide), (fun h => (by have h2 := hc0; have h3 := hfi; simp at h h2 ⊢; first | done | exact h2 h | exact Or.inr (h2 h) | simp [hdep] | (rcases h with h | h; · simp_all; · exact Or.inr (h2 h)) | simp_all)), (fun h => (by have h2 := hc1; have h3 := hfi; simp at h h2 ⊢; first | done | exact h2 h | exact Or.inr (h2 h) | simp [hdep] | (rcases h with h | h; · simp_all; · exact Or.inr (h2 h)) | simp_all))⟩
        · refine det_yes rfl ?_
          have HD := Lib.hid hD
          have HC := Lib.hid hC
          clear hD hC
          unfold Oper.wpIn
          refine ⟨fun _ _ => trivial, ?_⟩
          rw [hro8, Oper.semAt_none]
          go_simp
          exact hK _ _ ⟨_, _, _, _, _, _, rfl, HD.out.step 2 rfl rfl, HC.out.other 2 (by decide), (fun h => (by have h2 := hc0; have h3 := hfi; simp at h h2 ⊢; first | done | exact h2 h | exact Or.inr (h2 h) | simp [hdep] | (rcases h with h | h; · simp_all; · exact Or.inr (h2 h)) | simp_all)), (fun h => (by have h2 := hc1; have h3 := hfi; simp at h h2 ⊢; first | done | exact h2 h | exact Or.inr (h2 h) | simp [hdep] | (rcases h with h | h; · simp_all; · exact Or.inr (h2 h)) | simp_all))⟩
        · refine det_yes rfl ?_
          have HD := Lib.hid hD
          have HC := Lib.hid hC
          clear hD hC
          unfold Oper.wpIn
          refine ⟨fun _ _ => trivial, ?_⟩
          rw [hro8, Oper.semAt_none]
          go_simp
          exact hK _ _ ⟨_, _, _, _, _, _, rfl, HD.out.step 3 rfl rfl, HC.out.other 3 (by decide), (fun h => (by have h2 := hc0; have h3 := hfi; simp at h h2 ⊢; first | done | exact h2 h | exact Or.inr (h2 h) | simp [hdep] | (rcases h with h | h; · simp_all; · exact Or.inr (h2 h)) | simp_all)), (fun h => (by have h2 := hc1; have h3 := hfi; simp at h h2 ⊢; first | done | exact h2 h | exact Or.inr (h2 h) | simp [hdep] | (rcases h with h | h; · simp_all; · exact Or.inr (h2 h)) | simp_all))⟩
        · obtain rfl : x39 = .func (.func fid) first cap := hD.get (P := fun v : Value => v = .func (.func fid) first cap) 2 (by simp [hdep]) rfl rfl
          obtain rfl : x40 = vv := hD.get (P := fun v : Value => v = vv) 3 (by simp [hdep]) rfl rfl
          have hW := hC.at_ 0 (by decide) hfi (by intro j9 e9 _; omega)
          refine det_yes rfl ?_
          have HD := Lib.hid hD
          have HC := Lib.hid hC
          clear hD hC
          obtain ⟨n8, rfl⟩ := hW
          have hent := HENT.out
          unfold Oper.wpIn
          refine ⟨fun _ _ => trivial, ?_⟩
          rw [hro8, Oper.semAt_none]
          go_simp
          refine (callsIn_wide.2 (HCV.out n8)).mono ?_
          rintro e u2 ⟨rfl, hb8⟩
          have HW2 : (WTwo wE (fun u => Below wr.heap.size wE u) (fun u => Fin8 J Jx (itM m) O u ∧ ∀ d ∈ dl, u.heap[d]? = some (.deferred (some [])))) 1 u2 := hb8
          exact hK _ _ ⟨_, _, _, _, _, _, rfl, HD.out.step 4 rfl (by rfl), HC.out.next 0 (by decide) hfi (by intro j9 e9 _; omega) (by decide) HW2, (fun h => (by have h2 := hc0; have h3 := hfi; simp at h h2 ⊢; first | done | exact h2 h | exact Or.inr (h2 h) | simp [hdep] | (rcases h with h | h; · simp_all; · exact Or.inr (h2 h)) | simp_all)), (fun h => (by have h2 := hc1; have h3 := hfi; simp at h h2 ⊢; first | done | exact h2 h | exact Or.inr (h2 h) | simp [hdep] | (rcases h with h | h; · simp_all; · exact Or.inr (h2 h)) | simp_all))⟩
        · obtain rfl : x37 = .func (.yield l) #[] #[] := hD.get (P := fun v : Value => v = .func (.yield l) #[] #[]) 0 (by simp [hdep]) rfl rfl
          obtain rfl : x38 = .iface TT xx := hD.get (P := fun v : Value => v = .iface TT xx) 1 (by simp [hdep]) rfl rfl
          obtain rfl : x41 = .int .i64 (valM y m) := hD.get (P := fun v : Value => v = .int .i64 (valM y m)) 4 (by simp [hdep]) rfl rfl
          have hW := hC.at_ 1 (by decide) hfi (by intro j9 e9 _; have f9 : j9 = 0 := (by omega); subst f9; simp [hdep])
          refine det_yes rfl ?_
          have HD := Lib.hid hD
          have HC := Lib.hid hC
          clear hD hC
          have hbu : Below wr.heap.size wE u := hW
          obtain ⟨fn, tmps, assign, body, hy, hR⟩ := HRO.out u hbu
          clear hW
          unfold Oper.wpIn
          refine ⟨fun _ _ => trivial, ?_⟩
          rw [hro8, Oper.semAt_none]
          go_simp
          refine RoundIn.mono hR ?_
          rintro e u2 ⟨⟨bv, rfl⟩, hfin⟩
          have HW2 : (WTwo wE (fun u => Below wr.heap.size wE u) (fun u => Fin8 J Jx (itM m) O u ∧ ∀ d ∈ dl, u.heap[d]? = some (.deferred (some [])))) 2 u2 := hfin
          exact hK _ _ ⟨_, _, _, _, _, _, rfl, HD.out.step 5 rfl (by trivial), HC.out.next 1 (by decide) hfi (by intro j9 e9 _; have f9 : j9 = 0 := (by omega); subst f9; simp [hdep]) (by decide) HW2, (fun h => (by have h2 := hc0; have h3 := hfi; simp at h h2 ⊢; first | done | exact h2 h | exact Or.inr (h2 h) | simp [hdep] | (rcases h with h | h; · simp_all; · exact Or.inr (h2 h)) | simp_all)), (fun h => (by have h2 := hc1; have h3 := hfi; simp at h h2 ⊢; first | done | exact h2 h | exact Or.inr (h2 h) | simp [hdep] | (rcases h with h | h; · simp_all; · exact Or.inr (h2 h)) | simp_all))⟩
      · rintro dn ac u hall ⟨x37, x38, x39, x40, x41, x42, rfl, hD, hC, hc0, hc1⟩
        obtain rfl : x37 = .func (.yield l) #[] #[] := hD.get (P := fun v : Value => v = .func (.yield l) #[] #[]) 0 (hall 0 (by decide)) rfl rfl
        obtain rfl : x38 = .iface TT xx := hD.get (P := fun v : Value => v = .iface TT xx) 1 (hall 1 (by decide)) rfl rfl
        obtain rfl : x39 = .func (.func fid) first cap := hD.get (P := fun v : Value => v = .func (.func fid) first cap) 2 (hall 2 (by decide)) rfl rfl
        obtain rfl : x40 = vv := hD.get (P := fun v : Value => v = vv) 3 (hall 3 (by decide)) rfl rfl
        obtain rfl : x41 = .int .i64 (valM y m) := hD.get (P := fun v : Value => v = .int .i64 (valM y m)) 4 (hall 4 (by decide)) rfl rfl
        have hW := hC.all (by intro j9 h9; exact hall _ (by revert j9; decide))
        clear hall hD hC hc0 hc1
        have HFin : Hid (Fin8 J Jx (itM m) O u ∧ ∀ d ∈ dl, u.heap[d]? = some (.deferred (some []))) := hW
        clear hW
        exact leaves8 (F := Fence.wide) (n := 9) (fun b => O b) (fun u d hd hG => hG.put HC.out hd _) (fun u hG => ⟨_, results_none rfl _ _ _, ⟨_, rfl⟩, hG.out⟩) dl u hSt.out.nd (fun d hd => ⟨(hSt.out.df d hd).1, HFin.out.2 d hd⟩) HFin.out.1
end Go.Proofs.YtdemcoghgnnheaaGreatDoor

