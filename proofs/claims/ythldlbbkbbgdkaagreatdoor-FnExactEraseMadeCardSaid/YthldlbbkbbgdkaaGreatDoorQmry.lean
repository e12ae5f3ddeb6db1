/-
  The contract of the program's readMade, whose deferred call recovers.
-/
import Derived.Test.YthldlbbkbbgdkaaGreatDoorQmrx
import Derived.Test.YthldlbbkbbgdkaaGreatDoorQsrl
import Derived.Test.YthldlbbkbbgdkaaGreatDoorK8
import Derived.Defers
import Derived.Recover
namespace Go.Proofs.YthldlbbkbbgdkaaGreatDoor
open Go.RowKit

theorem catchM_panicking (u : TypeId) (pv : Value) (older : List PanicEntry) (w : World) :
    CallsD Tryz.prog 92 #[] (.panicking ({ v := .iface u pv, recovered := false } :: older)) w fun e u' w' =>
      e = .returned (.tuple #[]) ∧ u' = .panicking ({ v := .iface u pv, recovered := true } :: older) ∧ w' = w := by
  refine callsD_of_wpS Tryz.func92 rfl fun c₀ cs hu => ?_
  apply wpS_region
  simp [wpOpsS, go_sem, recoverD, hu, Tryz.ntmps92, bodyPostS, results, Tryz.results92]
theorem catchM_idle (w : World) :
    CallsD Tryz.prog 92 #[] .returning w fun e u' w' => e = .returned (.tuple #[]) ∧ u' = .returning ∧ w' = w := by
  refine callsD_of_wpS Tryz.func92 rfl fun c₀ cs hu => ?_
  apply wpS_region
  cases c₀
  simp_all [wpOpsS, go_sem, recoverD, Tryz.ntmps92, bodyPostS, results, Tryz.results92]

/-- What reading a whole text comes to. -/
def MadePost7 (y : Sy) (L : List UInt8) (w : World) (e : Ending) (w' : World) : Prop :=
  ((∃ m o, readM y L = some m ∧ MkOk y m ∧ e = .returned (.tuple #[o, .bool true]) ∧ MNodeAt w' w.heap.size m o) ∨ (readM y L = none ∧ e = .returned (.tuple #[.nilIface, .bool false]))) ∧ Below w.heap.size w w'

set_option maxRecDepth 100000 in
set_option maxHeartbeats 4000000 in
theorem readMade_any (lo hi n : Nat) (a : Addr) (sv cv fv : Value) (y : Sy) (L : List UInt8) (w : World) (hv : SyAt w lo hi sv cv fv y) (hB : hi ≤ w.heap.size) (he : Ev w n a) (hn : n ≤ w.heap.size) (hm : L.length ≤ 1048576) :
    Calls Tryz.prog 49 #[.agg #[sv, cv, fv], .string (str L)] w fun e w' => MadePost7 y L w e w' := by
  have hsz := str_size L
  obtain ⟨A1, cap1, rfl, _, _, _⟩ := hv.1.1.form
  obtain ⟨A2, cap2, rfl, _, _, _⟩ := hv.1.2.form
  obtain ⟨A3, cap3, rfl, _, _, _⟩ := hv.2.form
  obtain ⟨w1, hw1⟩ : ∃ u, u = w.alloc (.cells #[.slice A1 y.ty.sizes.length cap1, .slice A2 y.ty.cos.length cap2, .slice A3 y.fs.length cap3] 37) := ⟨_, rfl⟩
  have hb1 : Below w.heap.size w w1 := by rw [hw1]; exact (Below.refl _ _).alloc (Nat.le_refl _) _
  have hs1 : w1.heap.size = w.heap.size + 1 := by rw [hw1, World.size_alloc]
  have HR1 : Hid (Row w1 w.heap.size 37 [.slice A1 y.ty.sizes.length cap1, .slice A2 y.ty.cos.length cap2, .slice A3 y.fs.length cap3]) := by rw [hw1]; exact Row.new w _ _
  have p0 := HR1.out.cell 0
  have p1 := HR1.out.cell 1
  have p2 := HR1.out.cell 2
  simp only [List.getElem?_cons_zero, List.getElem?_cons_succ] at p0 p1 p2
  rw [hw1] at p0 p1 p2
  have HV0 := Lib.hid hv
  have HE0 := Lib.hid he
  have HB1 := Lib.hid hb1
  clear hv he hb1
  go_enter_defers Tryz.func49, Tryz.ntmps49
  go_wp2_with fail
  rw [← hw1]
  refine (implSysValid_any lo hi _ _ _ y w1 (HV0.out.below HB1.out hB) (by omega)).mono ?_
  clear p0 p1 p2 hw1
  rintro e w2 ⟨rfl, hb2⟩
  have hs2 := hb2.size
  have HR2 : Hid (Row w2 w.heap.size 37 [.slice A1 y.ty.sizes.length cap1, .slice A2 y.ty.cos.length cap2, .slice A3 y.fs.length cap3]) := HR1.out.keep (hb2.block _ (by omega))
  have HB2 := Lib.hid (HB1.out.trans (hb2.mono (by omega)))
  clear hb2 HR1 HB1
  cases hy : syB y with
  | false =>
    have hp := Lib.hid (readM_bad (L := L) hy)
    clear hy
    go_wp2
    simp [bodyPostD, Leaves, results, Tryz.results49, go_sem]
    exact ⟨.inr ⟨hp.out, rfl⟩, HB2.out⟩
  | true =>
    have Hy := Lib.hid hy
    by_cases h400 : L.length ≤ 400
    case neg =>
      have hp := Lib.hid (readM_long (y := y) h400)
      have h4 : (400 : Int) < (L.length : Int) := by omega
      clear hy h400
      go_wp2
      simp [bodyPostD, Leaves, results, Tryz.results49, go_sem]
      exact ⟨.inr ⟨hp.out, rfl⟩, HB2.out⟩
    have h4 : ¬ (400 : Int) < (L.length : Int) := by omega
    have q0 := HR2.out.cell 0
    have q1 := HR2.out.cell 1
    have q2 := HR2.out.cell 2
    simp only [List.getElem?_cons_zero, List.getElem?_cons_succ] at q0 q1 q2
    obtain ⟨w3, hw3⟩ : ∃ u, u = w2.alloc (.cells #[.string (str L), .slice A1 y.ty.sizes.length cap1, .slice A2 y.ty.cos.length cap2, .slice A3 y.fs.length cap3] 154) := ⟨_, rfl⟩
    have hb3 : Below w.heap.size w w3 := by rw [hw3]; exact HB2.out.alloc (by omega) _
    have hs3 : w3.heap.size = w2.heap.size + 1 := by rw [hw3, World.size_alloc]
    have HM3 : Hid (Mr lo hi n a (.slice A1 y.ty.sizes.length cap1) (.slice A2 y.ty.cos.length cap2) (.slice A3 y.fs.length cap3) y w2.heap.size L w3) := by
      refine ⟨?_, HV0.out.below hb3 hB, HE0.out.keep (b := w.heap.size) ((Keep.refl _ _).of_below hb3) hn, by omega, by omega⟩
      rw [hw3]
      exact Row.new w2 _ _
    have HB3 := Lib.hid hb3
    clear hy hb3 HR2 HB2
    go_wp2_with fail
    rw [← hw3]
    refine (made_reads lo hi n a _ _ _ y (syB_iff.1 Hy.out) w2.heap.size L.length L w3 HM3.out (Nat.le_refl _) hm).mono ?_
    clear q0 q1 q2 hw3
    rintro e w4 ⟨⟨m, r, o, hr, hok, rfl, hnod, hmr⟩ | ⟨hr, rfl⟩, hk1⟩
    · have HB4 : Hid (Below w.heap.size w w4) := HB3.out.trans (hk1.below (by omega) (by omega))
      have HN : Hid (MNodeAt w4 w.heap.size m o) := hnod.base (by omega)
      have HX := Lib.hid hmr
      have HOK := Lib.hid hok
      clear hk1 hnod hmr hok HB3 HM3
      cases r with
      | nil =>
        have hp := Lib.hid (readM_yes Hy.out h400 hr)
        clear hr
        go_wp2_with fail
        refine (endM_yes w2.heap.size w4 HX.out.row).mono ?_
        rintro e w5 ⟨rfl, rfl⟩
        go_wp2
        refine leaves_cons (f := 92) (args := #[]) (by simp) (by simp [go_sem]) ?_
        refine (catchM_idle _).mono ?_
        rintro e u' w'' ⟨rfl, rfl, rfl⟩
        simp [Leaves, settle, results, Tryz.results49, go_sem]
        exact ⟨.inl ⟨m, o, hp.out, HOK.out, rfl, HN.out⟩, HB4.out⟩
      | cons c r =>
        have hp := Lib.hid (readM_rest (by simp) hr)
        clear hr
        go_wp2_with fail
        refine (endM_no w2.heap.size (c :: r) (by simp) n a w4 HX.out.row HX.out.ev).mono ?_
        rintro e w5 ⟨rfl, rfl⟩
        go_wp2
        refine leaves_cons (f := 92) (args := #[]) (by simp) (by simp [go_sem]) ?_
        refine (catchM_panicking _ _ _ _).mono ?_
        rintro e u' w'' ⟨rfl, rfl, rfl⟩
        simp [Leaves, settle, results, Tryz.results49, go_sem]
        exact ⟨.inr ⟨hp.out, rfl⟩, HB4.out⟩
    · have HB4 : Hid (Below w.heap.size w w4) := HB3.out.trans (hk1.below (by omega) (by omega))
      have hp := Lib.hid (readM_no hr)
      clear hk1 hr HB3 HM3
      go_wp2
      refine leaves_cons (f := 92) (args := #[]) (by simp) (by simp [go_sem]) ?_
      refine (catchM_panicking _ _ _ _).mono ?_
      rintro e u' w'' ⟨rfl, rfl, rfl⟩
      simp [Leaves, settle, results, Tryz.results49, go_sem]
      exact ⟨.inr ⟨hp.out, rfl⟩, HB4.out⟩
end Go.Proofs.YthldlbbkbbgdkaaGreatDoor

