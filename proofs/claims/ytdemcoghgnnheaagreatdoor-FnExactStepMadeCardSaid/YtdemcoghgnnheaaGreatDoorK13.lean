/-
  The contract of the program's readMade, whose deferred call recovers.
  The contracts of the program's MadeType, coercionsIn, CoercionsIn.
  The contracts of the program's rightWithin and evaluator: what lies right within an explicit term, and what gives its value.
  The iterator over the parts of an explicit term on its way: what it has, and what its loops leave.
  A region that draws its order, inside a fence, by an invariant over what has been done: one obligation for each operation.
-/
import Derived.Test.YtdemcoghgnnheaaGreatDoorQmrx
import Derived.Test.YtdemcoghgnnheaaGreatDoorK6
import Derived.Test.YtdemcoghgnnheaaGreatDoorK7
import Derived.Defers
import Derived.Recover
import Derived.Test.YtdemcoghgnnheaaGreatDoorK8
import Derived.Test.YtdemcoghgnnheaaGreatDoorK5
import Derived.Test.YtdemcoghgnnheaaGreatDoorK10
import Derived.OrdersIn
namespace Go.Proofs.YtdemcoghgnnheaaGreatDoor
open Go.RowKit

theorem catchM_panicking (u : TypeId) (pv : Value) (older : List PanicEntry) (w : World) :
    CallsD Tryz.prog 93 #[] (.panicking ({ v := .iface u pv, recovered := false } :: older)) w fun e u' w' =>
      e = .returned (.tuple #[]) ∧ u' = .panicking ({ v := .iface u pv, recovered := true } :: older) ∧ w' = w := by
  refine callsD_of_wpS Tryz.func93 rfl fun c₀ cs hu => ?_
  apply wpS_region
  simp [wpOpsS, go_sem, recoverD, hu, Tryz.ntmps93, bodyPostS, results, Tryz.results93]
theorem catchM_idle (w : World) :
    CallsD Tryz.prog 93 #[] .returning w fun e u' w' => e = .returned (.tuple #[]) ∧ u' = .returning ∧ w' = w := by
  refine callsD_of_wpS Tryz.func93 rfl fun c₀ cs hu => ?_
  apply wpS_region
  cases c₀
  simp_all [wpOpsS, go_sem, recoverD, Tryz.ntmps93, bodyPostS, results, Tryz.results93]

/-- What reading a whole text comes to. -/
def MadePost7 (y : Sy) (L : List UInt8) (w : World) (e : Ending) (w' : World) : Prop :=
  ((∃ m o, readM y L = some m ∧ MkOk y m ∧ e = .returned (.tuple #[o, .bool true]) ∧ MNodeAt w' w.heap.size m o) ∨ (readM y L = none ∧ e = .returned (.tuple #[.nilIface, .bool false]))) ∧ Below w.heap.size w w'

set_option maxRecDepth 100000 in
set_option maxHeartbeats 4000000 in
theorem readMade_any (lo hi n : Nat) (a : Addr) (sv cv fv : Value) (y : Sy) (L : List UInt8) (w : World) (hv : SyAt w lo hi sv cv fv y) (hB : hi ≤ w.heap.size) (he : Ev w n a) (hn : n ≤ w.heap.size) (hm : L.length ≤ 1048576) :
    Calls Tryz.prog 57 #[.agg #[sv, cv, fv], .string (str L)] w fun e w' => MadePost7 y L w e w' := by
  have hsz := str_size L
  obtain ⟨A1, cap1, rfl, _, _, _⟩ := hv.1.1.form
  obtain ⟨A2, cap2, rfl, _, _, _⟩ := hv.1.2.form
  obtain ⟨A3, cap3, rfl, _, _, _⟩ := hv.2.form
  obtain ⟨w1, hw1⟩ : ∃ u, u = w.alloc (.cells #[.slice A1 y.ty.sizes.length cap1, .slice A2 y.ty.cos.length cap2, .slice A3 y.fs.length cap3] 37) := ⟨_, rfl⟩
  have hb1 : Below w.heap.size w w1 := by rw [hw1]; exact (Below.refl _ _).alloc (Nat.le_refl _) _
  have hs1 : w1.heap.size = w.heap.size + 1 := by rw [hw1, World.size_alloc]
  have HR1 : Hid (Row w1 w.heap.size 37 [.slice A1 y.ty.sizes.length cap1, .slice A2 y.ty.cos.length cap2, .slice A3 y.fs.length cap3]) := by rw [hw1]; exact Row.new w _ _
  have p0 := HR1.out.cell 0
  have p1 := HR1.out.cell 1
  have p2 := HR1.out.cell 2
  simp only [List.getElem?_cons_zero, List.getElem?_cons_succ] at p0 p1 p2
  rw [hw1] at p0 p1 p2
  have HV0 := Lib.hid hv
  have HE0 := Lib.hid he
  have HB1 := Lib.hid hb1
  clear hv he hb1
  go_enter_defers Tryz.func57, Tryz.ntmps57
  go_wp2_with fail
  rw [← hw1]
  refine (implSysValid_any lo hi _ _ _ y w1 (HV0.out.below HB1.out hB) (by omega)).mono ?_
  clear p0 p1 p2 hw1
  rintro e w2 ⟨rfl, hb2⟩
  have hs2 := hb2.size
  have HR2 : Hid (Row w2 w.heap.size 37 [.slice A1 y.ty.sizes.length cap1, .slice A2 y.ty.cos.length cap2, .slice A3 y.fs.length cap3]) := HR1.out.keep (hb2.block _ (by omega))
  have HB2 := Lib.hid (HB1.out.trans (hb2.mono (by omega)))
  clear hb2 HR1 HB1
  cases hy : syB y with
  | false =>
    have hp := Lib.hid (readM_bad (L := L) hy)
    clear hy
    go_wp2
    simp [bodyPostD, Leaves, results, Tryz.results57, go_sem]
    exact ⟨.inr ⟨hp.out, rfl⟩, HB2.out⟩
  | true =>
    have Hy := Lib.hid hy
    by_cases h400 : L.length ≤ 400
    case neg =>
      have hp := Lib.hid (readM_long (y := y) h400)
      have h4 : (400 : Int) < (L.length : Int) := by omega
      clear hy h400
      go_wp2
      simp [bodyPostD, Leaves, results, Tryz.results57, go_sem]
      exact ⟨.inr ⟨hp.out, rfl⟩, HB2.out⟩
    have h4 : ¬ (400 : Int) < (L.length : Int) := by omega
    have q0 := HR2.out.cell 0
    have q1 := HR2.out.cell 1
    have q2 := HR2.out.cell 2
    simp only [List.getElem?_cons_zero, List.getElem?_cons_succ] at q0 q1 q2
    obtain ⟨w3, hw3⟩ : ∃ u, u = w2.alloc (.cells #[.string (str L), .slice A1 y.ty.sizes.length cap1, .slice A2 y.ty.cos.length cap2, .slice A3 y.fs.length cap3] 143) := ⟨_, rfl⟩
    have hb3 : Below w.heap.size w w3 := by rw [hw3]; exact HB2.out.alloc (by omega) _
    have hs3 : w3.heap.size = w2.heap.size + 1 := by rw [hw3, World.size_alloc]
    have HM3 : Hid (Mr lo hi n a (.slice A1 y.ty.sizes.length cap1) (.slice A2 y.ty.cos.length cap2) (.slice A3 y.fs.length cap3) y w2.heap.size L w3) := by
      refine ⟨?_, HV0.out.below hb3 hB, HE0.out.keep (b := w.heap.size) ((Keep.refl _ _).of_below hb3) hn, by omega, by omega⟩
      rw [hw3]
      exact Row.new w2 _ _
    have HB3 := Lib.hid hb3
    clear hy hb3 HR2 HB2
    go_wp2_with fail
    rw [← hw3]
    refine (made_reads lo hi n a _ _ _ y (syB_iff.1 Hy.out) w2.heap.size L.length L w3 HM3.out (Nat.le_refl _) hm).mono ?_
    clear q0 q1 q2 hw3
    rintro e w4 ⟨⟨m, r, o, hr, hok, rfl, hnod, hmr⟩ | ⟨hr, rfl⟩, hk1⟩
    · have HB4 : Hid (Below w.heap.size w w4) := HB3.out.trans (hk1.below (by omega) (by omega))
      have HN : Hid (MNodeAt w4 w.heap.size m o) := hnod.base (by omega)
      have HX := Lib.hid hmr
      have HOK := Lib.hid hok
      clear hk1 hnod hmr hok HB3 HM3
      cases r with
      | nil =>
        have hp := Lib.hid (readM_yes Hy.out h400 hr)
        clear hr
        go_wp2_with fail
        refine (endM_yes w2.heap.size w4 HX.out.row).mono ?_
        rintro e w5 ⟨rfl, rfl⟩
        go_wp2
        refine leaves_cons (f := 93) (args := #[]) (by simp) (by simp [go_sem]) ?_
        refine (catchM_idle _).mono ?_
        rintro e u' w'' ⟨rfl, rfl, rfl⟩
        simp [Leaves, settle, results, Tryz.results57, go_sem]
        exact ⟨.inl ⟨m, o, hp.out, HOK.out, rfl, HN.out⟩, HB4.out⟩
      | cons c r =>
        have hp := Lib.hid (readM_rest (by simp) hr)
        clear hr
        go_wp2_with fail
        refine (endM_no w2.heap.size (c :: r) (by simp) n a w4 HX.out.row HX.out.ev).mono ?_
        rintro e w5 ⟨rfl, rfl⟩
        go_wp2
        refine leaves_cons (f := 93) (args := #[]) (by simp) (by simp [go_sem]) ?_
        refine (catchM_panicking _ _ _ _).mono ?_
        rintro e u' w'' ⟨rfl, rfl, rfl⟩
        simp [Leaves, settle, results, Tryz.results57, go_sem]
        exact ⟨.inr ⟨hp.out, rfl⟩, HB4.out⟩
    · have HB4 : Hid (Below w.heap.size w w4) := HB3.out.trans (hk1.below (by omega) (by omega))
      have hp := Lib.hid (readM_no hr)
      clear hk1 hr HB3 HM3
      go_wp2
      refine leaves_cons (f := 93) (args := #[]) (by simp) (by simp [go_sem]) ?_
      refine (catchM_panicking _ _ _ _).mono ?_
      rintro e u' w'' ⟨rfl, rfl, rfl⟩
      simp [Leaves, settle, results, Tryz.results57, go_sem]
      exact ⟨.inr ⟨hp.out, rfl⟩, HB4.out⟩
end Go.Proofs.YtdemcoghgnnheaaGreatDoor

namespace Go.Proofs.YtdemcoghgnnheaaGreatDoor
open Go.RowKit

def isApM : Mk → Bool
  | .a0 _ => true
  | .a1 _ _ => true
  | .a2 _ _ _ => true
  | _ => false
def partsM : Mk → List Mk
  | .a1 _ m => [m]
  | .a2 _ m p => [m, p]
  | _ => []
def ixM : Mk → Nat
  | .a0 i => i
  | .a1 i _ => i
  | .a2 i _ _ => i
  | _ => 0
theorem MNodeAt.open {w : World} {B : Nat} {m : Mk} {o : Value} (h : MNodeAt w B m o) (ha : isApM m = true) : ∃ ps vs, o = .iface 202 (.agg #[.int .i64 (ixM m), ps]) ∧ w.ownsRow B 66 1 ps (partsM m).length vs ∧ MNodesAt w B (partsM m) vs := by
  match m, ha, h with
  | .a0 i, _, ⟨ps, e, h⟩ => exact ⟨ps, [], e, h, trivial⟩
  | .a1 i m, _, ⟨ps, v, e, h, g⟩ => exact ⟨ps, [v], e, h, g, trivial⟩
  | .a2 i m p, _, ⟨ps, v, v2, e, h, g, g2⟩ => exact ⟨ps, [v, v2], e, h, g, g2, trivial⟩
theorem partsM_two (m : Mk) : (partsM m).length ≤ 2 := by cases m <;> simp [partsM]
theorem partsM_len {m p : Mk} (h : p ∈ partsM m) : (mkT p).length + 3 ≤ (mkT m).length := by
  match m, h with
  | .a1 i m, h => simp [partsM] at h; subst h; simp [mkT, dg]
  | .a2 i m q, h =>
    simp [partsM] at h
    rcases h with h | h
    · subst h; simp [mkT, dg] <;> omega
    · subst h; simp [mkT, dg] <;> omega
theorem coN_sum {m : Mk} (ha : isApM m = true) : coN m = ((partsM m).map coN).sum := by
  match m, ha with
  | .a0 i, _ => rfl
  | .a1 i m, _ => simp [coN, partsM]
  | .a2 i m p, _ => simp [coN, partsM]
theorem MNodesAt.at {w : World} {B : Nat} : ∀ {ts : List Mk} {vs : List Value}, MNodesAt w B ts vs → ∀ i, ∀ (h1 : i < ts.length), ∃ v, vs[i]? = some v ∧ MNodeAt w B ts[i] v
  | t :: ts, v :: vs, ⟨h, g⟩, i, h1 => by
    cases i with
    | zero => exact ⟨v, rfl, h⟩
    | succ i => exact g.at i (by simpa using h1)
theorem sum_le9 : ∀ (l : List Nat) (k : Nat), (l.take k).sum ≤ l.sum
  | [], k => by simp
  | a :: l, 0 => by simp
  | a :: l, k + 1 => by have := sum_le9 l k; simp only [List.take_succ_cons, List.sum_cons]; omega
theorem own_lt0 {w : World} {N : Nat} {t : TypeId} {v : Value} {n : Nat} {xs : List Value} (h : w.ownsRow N t 1 v n xs) : ∃ A c, v = .slice A n c := by
  obtain ⟨_, ⟨rfl, rfl⟩ | ⟨g, cap3, cur, rfl, _⟩⟩ := h
  · exact ⟨_, _, rfl⟩
  · exact ⟨_, _, rfl⟩

theorem asKK (x : Value) (w : World) : (Instr.typeAssert (.iface 193 x) 66 193 true).run Tryz.prog w = .ok (.tuple #[x, .bool true]) w := by
  simp [Instr.typeAssert, run_underlying Tryz.underlying193]
theorem asLK (x : Value) (w : World) : (Instr.typeAssert (.iface 89 x) 66 193 true).run Tryz.prog w = .ok (.tuple #[.agg #[.int .i64 0, .nilIface], .bool false]) w := by
  simp [Instr.typeAssert, run_underlying Tryz.underlying193, Tryz.zeroValue193]
theorem asAK (x : Value) (w : World) : (Instr.typeAssert (.iface 202 x) 66 193 true).run Tryz.prog w = .ok (.tuple #[.agg #[.int .i64 0, .nilIface], .bool false]) w := by
  simp [Instr.typeAssert, run_underlying Tryz.underlying193, Tryz.zeroValue193]
theorem asAA (x : Value) (w : World) : (Instr.typeAssert (.iface 202 x) 66 202 true).run Tryz.prog w = .ok (.tuple #[x, .bool true]) w := by
  simp [Instr.typeAssert, run_underlying Tryz.underlying202]
theorem asLA (x : Value) (w : World) : (Instr.typeAssert (.iface 89 x) 66 202 true).run Tryz.prog w = .ok (.tuple #[.agg #[.int .i64 0, .slice none 0 0], .bool false]) w := by
  simp [Instr.typeAssert, run_underlying Tryz.underlying202, Tryz.zeroValue202]

end Go.Proofs.YtdemcoghgnnheaaGreatDoor

namespace Go.Proofs.YtdemcoghgnnheaaGreatDoor
open Go.RowKit

theorem inM_ap {m : Mk} (h : isApM m = true) : inM m = partsM m := by cases m <;> first | rfl | cases h
theorem valM_ap {y : Sy} {m : Mk} (h : isApM m = true) : valM y m = fcallV y (ixM m) ((inM m).map (valM y)) := by cases m <;> first | rfl | cases h
theorem inT_ap {y : Sy} (hy : SyOk y) {m : Mk} (h : isApM m = true) (hok : MkOk y m) : ∃ hi : ixM m < y.fs.length, InT (tsOf y.ty.sizes y.fs[ixM m].args) ((inM m).map (valM y)) := by
  cases m with
  | lit k v => cases h
  | co i m => cases h
  | a0 i => exact inT_ok hy (ms := []) (by simp) hok
  | a1 i m => exact inT_ok hy (ms := [m]) (by simp) hok
  | a2 i m p => exact inT_ok hy (ms := [m, p]) (by simp) hok
theorem asLL (x : Value) (w : World) : (Instr.typeAssert (.iface 89 x) 66 89 true).run Tryz.prog w = .ok (.tuple #[x, .bool true]) w := by
  simp [Instr.typeAssert, run_underlying Tryz.underlying89]

set_option maxRecDepth 100000 in
set_option maxHeartbeats 2000000 in
theorem rwi_any (m : Mk) (B : Nat) (o : Value) (w0 w : World) (hnod : MNodeAt w0 B m o) (hb : Below w0.heap.size w0 w) :
    Calls Tryz.prog 98 #[o] w fun e w' => ∃ A cap vs, e = .returned (.slice A (inM m).length cap) ∧ Below w.heap.size w w' ∧ MNodesAt w0 B (inM m) vs ∧ ∀ j, j < (inM m).length → ∃ g, A = some ⟨g, 0, none⟩ ∧ w'.cell? ⟨g, j, none⟩ = vs[j]? ∧ (g < w0.heap.size ∨ (w.heap.size ≤ g ∧ g < w'.heap.size)) := by
  have fK := asKK
  have fL := asLK
  have fA := asAK
  have gA := asAA
  have gL := asLA
  cases hc : isApM m with
  | false =>
    match m, hc, hnod with
    | .lit k v, _, hnod =>
      have e : o = .iface 89 (.agg #[.int .i64 k, .int .i64 v]) := hnod
      subst e
      clear hnod
      go_enter Tryz.func98, Tryz.ntmps98
      go_wp2
      go_ret
      exact ⟨none, 0, [], rfl, Below.refl _ _, trivial, fun j hj => absurd hj (by simp [inM])⟩
    | .co i m, _, ⟨v, e, hv⟩ =>
      subst e
      have hb0 : Below w.heap.size w ((w.alloc (.cells #[.int .i64 i, v] 193)).alloc (.cells #[v] 66)) := ((Below.refl _ _).alloc (Nat.le_refl _) _).alloc (by simp) _
      have HB0 := Lib.hid hb0
      have HV := Lib.hid hv
      obtain ⟨T, x, rfl⟩ := hv.form
      have m1 := (Row.new w 193 [.int .i64 i, .iface T x]).cell 1
      have r2 := Row.new (w.alloc (.cells #[.int .i64 i, .iface T x] 193)) 66 [.iface T x]
      rw [World.size_alloc] at r2
      have HR2 := Lib.hid r2
      simp only [List.getElem?_cons_zero, List.getElem?_cons_succ] at m1
      clear hv hb0 r2
      go_enter Tryz.func98, Tryz.ntmps98
      go_wp2
      go_ret
      refine ⟨some ⟨w.heap.size + 1, 0, none⟩, 1, [.iface T x], rfl, HB0.out, ⟨HV.out, trivial⟩, fun j hj => ?_⟩
      have hj1 : j < 1 := hj
      obtain rfl : j = 0 := by omega
      exact ⟨_, rfl, HR2.out.cell 0, .inr ⟨by omega, by simp⟩⟩
  | true =>
    obtain ⟨ps, vs, rfl, hown, hnods⟩ := hnod.open hc
    obtain ⟨PA, PC, rfl⟩ := own_lt0 hown
    rw [inM_ap hc]
    have Hown := Lib.hid hown
    have Hnods := Lib.hid hnods
    have hb0 : Below w.heap.size w (w.alloc (.cells #[.int .i64 (ixM m), .slice PA (partsM m).length PC] 202)) := (Below.refl _ _).alloc (Nat.le_refl _) _
    have HB0 := Lib.hid hb0
    have HBW := Lib.hid hb
    have r2 := Row.new w 202 [.int .i64 (ixM m), .slice PA (partsM m).length PC]
    have m1 := r2.cell 1
    simp only [List.getElem?_cons_zero, List.getElem?_cons_succ] at m1
    clear hown hnods hnod hc hb0 r2 hb
    go_enter Tryz.func98, Tryz.ntmps98
    go_wp2
    go_ret
    refine ⟨PA, PC, vs, rfl, HB0.out, Hnods.out, fun j hj => ?_⟩
    obtain ⟨g, e, hcell⟩ := own_at7 Hown.out j hj
    have hvs := Hnods.out.len
    have hjv : j < vs.length := by omega
    have hgw : g < w0.heap.size := World.block_lt_of_cell? _ _ (hcell.trans (List.getElem?_eq_getElem hjv))
    exact ⟨g, e, (World.cell?_of_block (w := w) (HB0.out.block g (Nat.lt_of_lt_of_le hgw HBW.out.size))).trans ((World.cell?_of_block (w := w0) (HBW.out.block g hgw)).trans hcell), .inl hgw⟩

/-- A function value that gives the value of an explicit term for the values of what is right within it; it was made in the world wE, in memory from N1 on. -/
def EvAt (y : Sy) (m : Mk) (N1 : Nat) (v : Value) (wE : World) : Prop :=
  ∃ fid first cap, v = .func (.func fid) first cap ∧ (∀ (args : Array Value) (u : World), (callFunc fid args).run Tryz.prog u = .ok (.enter fid args) u) ∧
    ∀ (q : Nat) (vv : Value) (B2 : Nat), wE.ownsRow B2 3 1 vv (inM m).length (((inM m).map (valM y)).map (Value.int .i64)) → Calls Tryz.prog fid (first ++ #[vv] ++ cap) (wE.drewN q) fun e w' => e = .returned (.int .i64 (valM y m)) ∧ Below N1 wE w'

set_option maxRecDepth 100000 in
set_option maxHeartbeats 1000000 in
theorem evLit_any (b : Nat) (v : Int) (vv : Value) (w : World) (hc : w.cell? ⟨b, 0, none⟩ = some (.int .i64 v)) :
    Calls Tryz.prog 141 #[vv, .pointer (some ⟨b, 0, none⟩)] w fun e w' => e = .returned (.int .i64 v) ∧ w = w' := by
  go_enter Tryz.func141, Tryz.ntmps141
  go_wp2
  go_ret
  exact ⟨rfl, rfl⟩

/-- What holds of the world while nothing has turned it, and behind that. -/
def WOne (w1 : World) (P : World → Prop) : Nat → World → Prop
  | 0, u => ∃ n : Nat, u = w1.drewN n
  | _ + 1, u => P u

set_option maxRecDepth 100000 in
set_option maxHeartbeats 4000000 in
theorem evCo_any (lo hi g b : Nat) (a0 b0 y5 z0 z1 z2 z3 : Value) (A : Option Addr) (cap : Nat) (zs : List Int) (a8 : Int) (B2 : Nat) (vv : Value) (w w1 : World) (q : Nat) (hwq : w = w1.drewN q)
    (hr : Row w1 g 258 [a0, b0, .slice A zs.length cap, .int .u32 0, .int .i32 0, y5, z0, z1, z2, z3]) (hz : IntsAt w1 lo hi (.slice A zs.length cap) zs) (hB : hi ≤ g) (hn : zs.length ≤ 4) (hpos : 0 < zs.length)
    (hc : w1.cell? ⟨b, 0, none⟩ = some (.pointer (some ⟨g, 0, none⟩))) (ho : w1.ownsRow B2 3 1 vv 1 [.int .i64 a8]) :
    Calls Tryz.prog 138 #[vv, .pointer (some ⟨b, 0, none⟩)] w fun e w' => e = .returned (.int .i64 (lookOf zs a8)) ∧ Kept (· ≠ g) w1 w' := by
  obtain ⟨V, vc, rfl⟩ := own_lt0 ho
  obtain ⟨gv, rfl, hcv⟩ := own_at7 ho 0 (by omega)
  simp only [List.getElem?_cons_zero] at hcv
  have HR := Lib.hid hr
  have HZ := Lib.hid hz
  have Hc := Lib.hid hc
  have Hcv := Lib.hid hcv
  have HO : Hid (∀ n : Nat, Calls Tryz.prog 139 #[.pointer (some ⟨g, 0, none⟩), .int .i64 a8] (w1.drewN n) fun e w' => e = .returned (.int .i64 (lookOf zs a8)) ∧ Kept (· ≠ g) w1 w') := fun n =>
    (of_first lo hi g a0 b0 y5 z0 z1 z2 z3 A cap zs a8 (w1.drewN n) (hr.keep rfl) (hz.keep fun _ _ _ => rfl) hB hn hpos).mono fun e w' ⟨he, hk, _⟩ => ⟨he, ⟨hk.os, hk.tape, hk.output, hk.size, hk.block⟩⟩
  have c1 : ∀ n : Nat, (w1.drewN n).cell? ⟨b, 0, none⟩ = some (.pointer (some ⟨g, 0, none⟩)) := fun n => hc
  have c2 : ∀ n : Nat, (w1.drewN n).cell? ⟨gv, 0, none⟩ = some (.int .i64 a8) := fun n => hcv
  subst hwq
  clear hr hz ho hc hcv
  go_enter Tryz.func138, Tryz.ntmps138
  go_wp2_with fail
  refine wp_region_inv (by kernel_rfl) (fun dn ac u => ∃ x4 x5 x6 x7 x8 x3, ac = ⟨List.toArray (.slice (some ⟨gv, 0, none⟩) 1 vc :: .pointer (some ⟨b, 0, none⟩) :: undef :: x3 :: x4 :: x5 :: x6 :: x7 :: x8 :: []), []⟩ ∧ DetQ [fun v : Value => v = .pointer (some ⟨g, 0, none⟩), fun v : Value => v = .slice (some ⟨gv, 0, none⟩) 1 vc, fun v : Value => v = .pointer (some ⟨gv, 0, none⟩), fun v : Value => v = .int .i64 a8, fun v : Value => v = .int .i64 (lookOf zs a8), fun v : Value => v = .int .i64 (lookOf zs a8)] dn [x4, x5, x6, x7, x8, x3] ∧ Ch dn [4] (WOne w1 (Kept (· ≠ g) w1)) u ∧ (dn 4 = true → dn 0 = true) ∧ (dn 4 = true → dn 3 = true)) (of_decide_eq_true (by kernel_rfl)) ⟨_, _, _, _, _, .int .i64 0, rfl, DetQ.start (by rfl), Ch.start ⟨q + 1, rfl⟩, (fun h => (by cases h)), (fun h => (by cases h))⟩ ?_ ?_
  · rintro dn ac u i8 op8 hop hfi hdep ⟨x4, x5, x6, x7, x8, x3, rfl, hD, hC, hc0, hc1⟩
    have hil : i8 < 6 := by have := (Array.getElem?_eq_some_iff.1 hop).1; simpa using this
    obtain rfl | rfl | rfl | rfl | rfl | rfl : i8 = 0 ∨ i8 = 1 ∨ i8 = 2 ∨ i8 = 3 ∨ i8 = 4 ∨ i8 = 5 := by omega
    all_goals
      obtain rfl := Option.some.inj hop
      refine wpOp_step hop fun K hK => ?_
      simp [Region.binds] at hdep
      clear hop
    · have hn : dn 4 = false := by
        cases h : dn 4 with
        | false => rfl
        | true => have h := hc0 h; rw [hfi] at h; cases h
      obtain ⟨j8, hj8, hW⟩ := hC.early 0 (by decide) hn
      obtain rfl : j8 = 0 := by omega
      obtain ⟨n8, rfl⟩ := hW
      have d1 := c1 n8
      refine det_yes rfl ?_
      have HD := Lib.hid hD
      have HC := Lib.hid hC
      clear hD hC
      unfold Oper.wp
      go_simp
      exact hK _ _ ⟨_, _, _, _, _, _, rfl, HD.out.step 0 rfl rfl, HC.out.other 0 (by decide), (fun h => (by have h2 := hc0; have h3 := hfi; simp at h h2 ⊢; first | done | exact h2 h | exact Or.inr (h2 h) | simp [hdep] | (rcases h with h | h; · simp_all; · exact Or.inr (h2 h)) | simp_all)), (fun h => (by have h2 := hc1; have h3 := hfi; simp at h h2 ⊢; first | done | exact h2 h | exact Or.inr (h2 h) | simp [hdep] | (rcases h with h | h; · simp_all; · exact Or.inr (h2 h)) | simp_all))⟩
    · refine det_yes rfl ?_
      have HD := Lib.hid hD
      have HC := Lib.hid hC
      clear hD hC
      unfold Oper.wp
      go_simp
      exact hK _ _ ⟨_, _, _, _, _, _, rfl, HD.out.step 1 rfl rfl, HC.out.other 1 (by decide), (fun h => (by have h2 := hc0; have h3 := hfi; simp at h h2 ⊢; first | done | exact h2 h | exact Or.inr (h2 h) | simp [hdep] | (rcases h with h | h; · simp_all; · exact Or.inr (h2 h)) | simp_all)), (fun h => (by have h2 := hc1; have h3 := hfi; simp at h h2 ⊢; first | done | exact h2 h | exact Or.inr (h2 h) | simp [hdep] | (rcases h with h | h; · simp_all; · exact Or.inr (h2 h)) | simp_all))⟩
    · obtain rfl : x5 = .slice (some ⟨gv, 0, none⟩) 1 vc := hD.get (P := fun v : Value => v = .slice (some ⟨gv, 0, none⟩) 1 vc) 1 (by simp [hdep]) rfl rfl
      refine det_yes rfl ?_
      have HD := Lib.hid hD
      have HC := Lib.hid hC
      clear hD hC
      unfold Oper.wp
      go_simp
      exact hK _ _ ⟨_, _, _, _, _, _, rfl, HD.out.step 2 rfl rfl, HC.out.other 2 (by decide), (fun h => (by have h2 := hc0; have h3 := hfi; simp at h h2 ⊢; first | done | exact h2 h | exact Or.inr (h2 h) | simp [hdep] | (rcases h with h | h; · simp_all; · exact Or.inr (h2 h)) | simp_all)), (fun h => (by have h2 := hc1; have h3 := hfi; simp at h h2 ⊢; first | done | exact h2 h | exact Or.inr (h2 h) | simp [hdep] | (rcases h with h | h; · simp_all; · exact Or.inr (h2 h)) | simp_all))⟩
    · obtain rfl : x6 = .pointer (some ⟨gv, 0, none⟩) := hD.get (P := fun v : Value => v = .pointer (some ⟨gv, 0, none⟩)) 2 (by simp [hdep]) rfl rfl
      have hn : dn 4 = false := by
        cases h : dn 4 with
        | false => rfl
        | true => have h := hc1 h; rw [hfi] at h; cases h
      obtain ⟨j8, hj8, hW⟩ := hC.early 0 (by decide) hn
      obtain rfl : j8 = 0 := by omega
      obtain ⟨n8, rfl⟩ := hW
      have d1 := c2 n8
      refine det_yes rfl ?_
      have HD := Lib.hid hD
      have HC := Lib.hid hC
      clear hD hC
      unfold Oper.wp
      go_simp
      exact hK _ _ ⟨_, _, _, _, _, _, rfl, HD.out.step 3 rfl rfl, HC.out.other 3 (by decide), (fun h => (by have h2 := hc0; have h3 := hfi; simp at h h2 ⊢; first | done | exact h2 h | exact Or.inr (h2 h) | simp [hdep] | (rcases h with h | h; · simp_all; · exact Or.inr (h2 h)) | simp_all)), (fun h => (by have h2 := hc1; have h3 := hfi; simp at h h2 ⊢; first | done | exact h2 h | exact Or.inr (h2 h) | simp [hdep] | (rcases h with h | h; · simp_all; · exact Or.inr (h2 h)) | simp_all))⟩
    · obtain rfl : x4 = .pointer (some ⟨g, 0, none⟩) := hD.get (P := fun v : Value => v = .pointer (some ⟨g, 0, none⟩)) 0 (by simp [hdep]) rfl rfl
      obtain rfl : x7 = .int .i64 a8 := hD.get (P := fun v : Value => v = .int .i64 a8) 3 (by simp [hdep]) rfl rfl
      have hW := hC.at_ 0 (by decide) hfi (by intro j9 e9 _; omega)
      refine det_yes rfl ?_
      have HD := Lib.hid hD
      have HC := Lib.hid hC
      clear hD hC
      obtain ⟨n8, rfl⟩ := hW
      unfold Oper.wp
      go_simp
      refine (HO.out n8).mono ?_
      rintro e u2 ⟨rfl, hk8⟩
      have HW2 : WOne w1 (Kept (· ≠ g) w1) 1 u2 := hk8
      exact hK _ _ ⟨_, _, _, _, _, _, rfl, HD.out.step 4 rfl (by rfl), HC.out.next 0 (by decide) hfi (by intro j9 e9 _; omega) (by decide) HW2, (fun h => (by have h2 := hc0; have h3 := hfi; simp at h h2 ⊢; first | done | exact h2 h | exact Or.inr (h2 h) | simp [hdep] | (rcases h with h | h; · simp_all; · exact Or.inr (h2 h)) | simp_all)), (fun h => (by have h2 := hc1; have h3 := hfi; simp at h h2 ⊢; first | done | exact h2 h | exact Or.inr (h2 h) | simp [hdep] | (rcases h with h | h; · simp_all; · exact Or.inr (h2 h)) | simp_all))⟩
    · obtain rfl : x8 = .int .i64 (lookOf zs a8) := hD.get (P := fun v : Value => v = .int .i64 (lookOf zs a8)) 4 (by simp [hdep]) rfl rfl
      refine det_yes rfl ?_
      have HD := Lib.hid hD
      have HC := Lib.hid hC
      clear hD hC
      unfold Oper.wp
      go_simp
      exact hK _ _ ⟨_, _, _, _, _, _, rfl, HD.out.step 5 rfl rfl, HC.out.other 5 (by decide), (fun h => (by have h2 := hc0; have h3 := hfi; simp at h h2 ⊢; first | done | exact h2 h | exact Or.inr (h2 h) | simp [hdep] | (rcases h with h | h; · simp_all; · exact Or.inr (h2 h)) | simp_all)), (fun h => (by have h2 := hc1; have h3 := hfi; simp at h h2 ⊢; first | done | exact h2 h | exact Or.inr (h2 h) | simp [hdep] | (rcases h with h | h; · simp_all; · exact Or.inr (h2 h)) | simp_all))⟩
  · rintro dn ac u hall ⟨x4, x5, x6, x7, x8, x3, rfl, hD, hC, hc0, hc1⟩
    obtain rfl : x4 = .pointer (some ⟨g, 0, none⟩) := hD.get (P := fun v : Value => v = .pointer (some ⟨g, 0, none⟩)) 0 (hall 0 (by decide)) rfl rfl
    obtain rfl : x5 = .slice (some ⟨gv, 0, none⟩) 1 vc := hD.get (P := fun v : Value => v = .slice (some ⟨gv, 0, none⟩) 1 vc) 1 (hall 1 (by decide)) rfl rfl
    obtain rfl : x6 = .pointer (some ⟨gv, 0, none⟩) := hD.get (P := fun v : Value => v = .pointer (some ⟨gv, 0, none⟩)) 2 (hall 2 (by decide)) rfl rfl
    obtain rfl : x7 = .int .i64 a8 := hD.get (P := fun v : Value => v = .int .i64 a8) 3 (hall 3 (by decide)) rfl rfl
    obtain rfl : x8 = .int .i64 (lookOf zs a8) := hD.get (P := fun v : Value => v = .int .i64 (lookOf zs a8)) 4 (hall 4 (by decide)) rfl rfl
    obtain rfl : x3 = .int .i64 (lookOf zs a8) := hD.get (P := fun v : Value => v = .int .i64 (lookOf zs a8)) 5 (hall 5 (by decide)) rfl rfl
    have hW := hC.all (by intro j9 h9; exact hall _ (by revert j9; decide))
    clear hall hD hC hc0 hc1
    have HK8 : Hid (Kept (· ≠ g) w1 u) := hW
    clear hW
    go_wp2
    go_ret
    exact ⟨rfl, HK8.out⟩

set_option maxRecDepth 100000 in
set_option maxHeartbeats 4000000 in
theorem evaluator_any (lo hi B : Nat) (sv cv fv : Value) (y : Sy) (hy : SyOk y) (m : Mk) (hok : MkOk y m) (o : Value) (w0 w : World) (hnod : MNodeAt w0 B m o) (hv : SyAt w lo hi sv cv fv y) (hB : hi ≤ w.heap.size) :
    Calls Tryz.prog 99 #[.agg #[sv, cv, fv], o] w fun e w' => ∃ v, e = .returned v ∧ EvAt y m w.heap.size v w' ∧ Below w.heap.size w w' := by
  have hmf : ∀ (fn : Fn) (first cap : Array Value) (w : World), (Instr.makeFunc fn first cap).run Tryz.prog w = .ok (.func fn first cap) w := fun _ _ _ _ => rfl
  have fK := asKK
  have fL := asLK
  have fA := asAK
  have gA := asAA
  have gL := asLA
  have hLL := asLL
  obtain ⟨A1, cap1, rfl, _, _, _⟩ := hv.1.1.form
  obtain ⟨A2, cap2, rfl, _, _, _⟩ := hv.1.2.form
  obtain ⟨A3, cap3, rfl, _, _, _⟩ := hv.2.form
  have hb1 : Below w.heap.size w (w.alloc (.cells #[.slice A1 y.ty.sizes.length cap1, .slice A2 y.ty.cos.length cap2, .slice A3 y.fs.length cap3] 37)) := (Below.refl _ _).alloc (Nat.le_refl _) _
  have hb2 : Below w.heap.size w ((w.alloc (.cells #[.slice A1 y.ty.sizes.length cap1, .slice A2 y.ty.cos.length cap2, .slice A3 y.fs.length cap3] 37)).alloc (.cells #[.int .i64 0] 3)) := hb1.alloc (by simp) _
  have rS := Row.new w 37 [.slice A1 y.ty.sizes.length cap1, .slice A2 y.ty.cos.length cap2, .slice A3 y.fs.length cap3]
  have rI := Row.new (w.alloc (.cells #[.slice A1 y.ty.sizes.length cap1, .slice A2 y.ty.cos.length cap2, .slice A3 y.fs.length cap3] 37)) 3 [.int .i64 0]
  rw [World.size_alloc] at rI
  obtain ⟨w2, hw2⟩ : ∃ u, u = (w.alloc (.cells #[.slice A1 y.ty.sizes.length cap1, .slice A2 y.ty.cos.length cap2, .slice A3 y.fs.length cap3] 37)).alloc (.cells #[.int .i64 0] 3) := ⟨_, rfl⟩
  have hs2 : w2.heap.size = w.heap.size + 2 := by rw [hw2]; simp
  have HS2 : Hid (Row w2 w.heap.size 37 [.slice A1 y.ty.sizes.length cap1, .slice A2 y.ty.cos.length cap2, .slice A3 y.fs.length cap3]) := by show Row _ _ _ _; rw [hw2]; exact rS.alloc _
  have HI2 : Hid (Row w2 (w.heap.size + 1) 3 [.int .i64 0]) := by show Row _ _ _ _; rw [hw2]; exact rI
  have HB2 : Hid (Below w.heap.size w w2) := by show Below _ _ _; rw [hw2]; exact hb2
  have HV2 : Hid (SyAt w2 lo hi (.slice A1 y.ty.sizes.length cap1) (.slice A2 y.ty.cos.length cap2) (.slice A3 y.fs.length cap3) y) := hv.below HB2.out hB
  clear hb1 hb2 rS rI hv
  cases hc : isApM m with
  | false =>
    match m, hc, hnod with
    | .lit k v, _, hnod =>
      have e : o = .iface 89 (.agg #[.int .i64 k, .int .i64 v]) := hnod
      subst e
      clear hnod
      obtain ⟨W, hW⟩ : ∃ W, W = ((w.alloc (.cells #[.slice A1 y.ty.sizes.length cap1, .slice A2 y.ty.cos.length cap2, .slice A3 y.fs.length cap3] 37)).alloc (.cells #[.int .i64 v] 3)).alloc (.cells #[.int .i64 k, .int .i64 v] 89) := ⟨_, rfl⟩
      have HK3 : Hid (Below w.heap.size w W) := by show Below _ _ _; rw [hW]; go_grown
      have rL := Row.new w2 89 [.int .i64 k, .int .i64 v]
      have m1 := rL.cell 1
      have i0 := (HI2.out.alloc (.cells #[.int .i64 k, .int .i64 v] 89)).cell 0
      have if0 := (HI2.out.alloc (.cells #[.int .i64 k, .int .i64 v] 89)).frozen 0
      have HC3 : Hid (W.cell? ⟨w.heap.size + 1, 0, none⟩ = some (.int .i64 v)) := by
        show _ = _
        rw [hW]
        have h := Row.new (w.alloc (.cells #[.slice A1 y.ty.sizes.length cap1, .slice A2 y.ty.cos.length cap2, .slice A3 y.fs.length cap3] 37)) 3 [.int .i64 v]
        rw [World.size_alloc] at h
        exact (h.alloc _).cell 0
      simp only [List.getElem?_cons_zero, List.getElem?_cons_succ] at m1 i0
      rw [hs2] at m1
      clear rL
      rw [hw2] at m1 i0 if0
      rw [hW] at HK3 HC3
      clear HS2 HI2 HB2 HV2 hs2 hw2 hW
      go_enter Tryz.func99, Tryz.ntmps99
      go_wp2
      go_ret
      refine ⟨_, rfl, ⟨141, #[], #[.pointer (some ⟨w.heap.size + 1, 0, none⟩)], rfl, enters_of Tryz.func141 (by kernel_rfl) rfl, fun q vv B2 _ => ?_⟩, HK3.out⟩
      have HQ : ∀ u : World, u.cell? ⟨w.heap.size + 1, 0, none⟩ = some (.int .i64 v) → (u.drewN q).cell? ⟨w.heap.size + 1, 0, none⟩ = some (.int .i64 v) := fun _ h => h
      refine (evLit_any (w.heap.size + 1) v vv _ (HQ _ HC3.out)).mono ?_
      rintro e w' ⟨rfl, rfl⟩
      exact ⟨rfl, below_drewN (Below.refl _ _) _⟩
    | .co i m, _, ⟨v, e, hv⟩ =>
      subst e
      obtain ⟨hi', hi9, hmok, hkind⟩ := hok
      have hco := coOk_of (tyOk_at hy.ty hi')
      have hsz := sizesOk_of (tyOk_sizes hy.ty)
      obtain ⟨b, off, A4, cap4, rfl, _, _, c0, c1, c2, _, _, _, _, hz⟩ := HV2.out.1.2.at_ hi'
      have hsrc : y.ty.cos[i].src.toNat < y.ty.sizes.length := by omega
      have hsr := hsz.2.2 _ hsrc
      have hml := hco.2.2.2.1
      rw [getD_get hsrc] at hml
      have hn4 : y.ty.cos[i].map.length ≤ 4 := by omega
      have hpos : 0 < y.ty.cos[i].map.length := by omega
      have hval : Hid (valM y (.co i m) = lookOf y.ty.cos[i].map (valM y m)) := by show lookOf (y.ty.cos.getD i default).map (valM y m) = _; rw [getD_get hi']
      obtain ⟨w3, hw3⟩ : ∃ u, u = w2.alloc (.cells #[.int .i64 i, v] 193) := ⟨_, rfl⟩
      have hs3 : w3.heap.size = w.heap.size + 3 := by rw [hw3, World.size_alloc, hs2]
      have HB3 : Hid (Below w.heap.size w w3) := by show Below _ _ _; rw [hw3]; exact HB2.out.alloc (by omega) _
      have HS3 := HS2.out.alloc (.cells #[.int .i64 i, v] 193)
      have q1 := HS3.cell 1
      have rC := Row.new w2 193 [.int .i64 i, v]
      have m0 := rC.cell 0
      simp only [List.getElem?_cons_zero, List.getElem?_cons_succ] at m0 q1
      have hbw : b < w2.heap.size := World.block_lt_of_cell? _ _ c0
      have d0 : w3.cell? ⟨b, off + i * 3, none⟩ = some (.int .i64 y.ty.cos[i].src) := by rw [hw3]; exact (World.cell?_of_block (w := w2) (Below.heap_alloc _ _ _ hbw)).trans c0
      have d1 : w3.cell? ⟨b, off + i * 3 + 1, none⟩ = some (.int .i64 y.ty.cos[i].dst) := by rw [hw3]; exact (World.cell?_of_block (w := w2) (Below.heap_alloc _ _ _ hbw)).trans c1
      have d2 : w3.cell? ⟨b, off + i * 3 + 2, none⟩ = some (.slice A4 y.ty.cos[i].map.length cap4) := by rw [hw3]; exact (World.cell?_of_block (w := w2) (Below.heap_alloc _ _ _ hbw)).trans c2
      have hb23 : Below w2.heap.size w2 w3 := by rw [hw3]; exact (Below.refl _ _).alloc (Nat.le_refl _) _
      have HZ3 := Lib.hid (hz.below hb23 (by omega))
      rw [← hw3] at q1 m0
      rw [hs2] at m0
      obtain ⟨w4, hw4⟩ : ∃ u, u = (w3.alloc (.cells #[.int .i64 y.ty.cos[i].src, .int .i64 y.ty.cos[i].dst, .slice A4 y.ty.cos[i].map.length cap4] 138)).alloc (.cells [.int .i64 y.ty.cos[i].src, .int .i64 y.ty.cos[i].dst, .slice A4 y.ty.cos[i].map.length cap4, .int .u32 0, .int .i32 0, .int .u32 0, .int .i64 0, .int .i64 0, .int .i64 0, .int .i64 0].toArray 258) := ⟨_, rfl⟩
      have hs4 : w4.heap.size = w.heap.size + 5 := by rw [hw4]; simp [hs3]
      have hb34 : Below w3.heap.size w3 w4 := by rw [hw4]; go_grown
      have rT := Row.new (w3.alloc (.cells #[.int .i64 y.ty.cos[i].src, .int .i64 y.ty.cos[i].dst, .slice A4 y.ty.cos[i].map.length cap4] 138)) 258 [.int .i64 y.ty.cos[i].src, .int .i64 y.ty.cos[i].dst, .slice A4 y.ty.cos[i].map.length cap4, .int .u32 0, .int .i32 0, .int .u32 0, .int .i64 0, .int .i64 0, .int .i64 0, .int .i64 0]
      rw [World.size_alloc, hs3, ← hw4] at rT
      obtain ⟨w5, hw5⟩ : ∃ u, u = w4.alloc (.cells #[.pointer (some ⟨w.heap.size + 4, 0, none⟩)] 208) := ⟨_, rfl⟩
      have hb45 : Below w4.heap.size w4 w5 := by rw [hw5]; exact (Below.refl _ _).alloc (Nat.le_refl _) _
      have HB5 : Hid (Below w.heap.size w w5) := (HB3.out.trans (hb34.mono HB3.out.size)).trans (hb45.mono (by omega))
      have HT5 : Hid (Row w5 (w.heap.size + 4) 258 [.int .i64 y.ty.cos[i].src, .int .i64 y.ty.cos[i].dst, .slice A4 y.ty.cos[i].map.length cap4, .int .u32 0, .int .i32 0, .int .u32 0, .int .i64 0, .int .i64 0, .int .i64 0, .int .i64 0]) := rT.below hb45 (by omega)
      have HP5 : Hid (Row w5 (w.heap.size + 5) 208 [.pointer (some ⟨w.heap.size + 4, 0, none⟩)]) := by
        have h := Row.new w4 208 [.pointer (some ⟨w.heap.size + 4, 0, none⟩)]
        rw [hs4, ← hw5] at h
        exact h
      have HZ5 := Lib.hid ((HZ3.out.below hb34 (by omega)).below hb45 (by omega))
      have IM := images_any (.int .i64 y.ty.cos[i].src) (.int .i64 y.ty.cos[i].dst) (.slice A4 y.ty.cos[i].map.length cap4) w3
      rw [← hw4, hs3] at IM
      have HIM : Hid (Calls Tryz.prog 137 #[.agg #[.int .i64 y.ty.cos[i].src, .int .i64 y.ty.cos[i].dst, .slice A4 y.ty.cos[i].map.length cap4]] w3 fun e w' => e = .returned (.pointer (some ⟨w.heap.size + 4, 0, none⟩)) ∧ w4 = w') := IM
      have hil : (i : Int) < (y.ty.cos.length : Int) := by omega
      have hv64 := (valM_small hy hmok).2.2
      rw [hw3, hw2] at q1 m0 d0 d1 d2 HIM
      rw [hw5] at HB5 HT5 HP5 HZ5
      obtain ⟨T, x, rfl⟩ := hv.form
      clear hv hco hsz hsr hml c0 c1 c2 hz rC HS3 hb23 hb34 hb45 rT HZ3 HB3 HB2 HS2 HI2 HV2 IM hw5 hw2 hw3 hw4 hs2 hs3
      go_enter Tryz.func99, Tryz.ntmps99
      go_wp2_with fail
      refine HIM.out.mono ?_
      rintro e wx ⟨rfl, rfl⟩
      clear HIM q1 m0 d0 d1 d2
      go_wp2
      go_ret
      refine ⟨_, rfl, ⟨138, #[], #[.pointer (some ⟨w.heap.size + 5, 0, none⟩)], rfl, enters_of Tryz.func138 (by kernel_rfl) rfl, fun q vv B2 ho => ?_⟩, HB5.out⟩
      refine (evCo_any lo hi (w.heap.size + 4) (w.heap.size + 5) _ _ _ _ _ _ _ A4 cap4 y.ty.cos[i].map (valM y m) B2 vv _ _ q rfl HT5.out HZ5.out (by omega) hn4 hpos (HP5.out.cell 0) ho).mono ?_
      rintro e w' ⟨rfl, hk⟩
      exact ⟨by rw [hval.out], hk.below (by have := HB5.out.size; omega) (fun k hk' => by omega)⟩
  | true =>
    obtain ⟨ps, vs, rfl, hown, hnods⟩ := hnod.open hc
    obtain ⟨hi', hin⟩ := inT_ap hy hc hok
    have hfb := hasFB_yes hy hi'
    have hval := valM_ap (y := y) hc
    have hfo := hy.each _ hi'
    obtain ⟨PA, PC, rfl⟩ := own_lt0 hown
    obtain ⟨w3, hw3⟩ : ∃ u, u = w2.alloc (.cells #[.int .i64 (ixM m), .slice PA (partsM m).length PC] 202) := ⟨_, rfl⟩
    have hs3 : w3.heap.size = w.heap.size + 3 := by rw [hw3, World.size_alloc, hs2]
    have hb23 : Below w2.heap.size w2 w3 := by rw [hw3]; exact (Below.refl _ _).alloc (Nat.le_refl _) _
    have HB3 : Hid (Below w.heap.size w w3) := HB2.out.trans (hb23.mono (by omega))
    have HV3 := HV2.out.below hb23 (by omega)
    have HCL := Lib.hid (caller_any lo hi _ _ _ y (ixM m) w3 HV3 (by omega) hfb)
    have HS3 := HS2.out.alloc (.cells #[.int .i64 (ixM m), .slice PA (partsM m).length PC] 202)
    have q0 := HS3.cell 0
    have q1 := HS3.cell 1
    have q2 := HS3.cell 2
    have rC := Row.new w2 202 [.int .i64 (ixM m), .slice PA (partsM m).length PC]
    have m0 := rC.cell 0
    simp only [List.getElem?_cons_zero, List.getElem?_cons_succ] at m0 q0 q1 q2
    rw [hs2] at m0
    rw [hw2] at q0 q1 q2 m0
    rw [hw3, hw2] at HCL
    have Hfo := Lib.hid hfo
    have Hin := Lib.hid hin
    have Hfb := Lib.hid hfb
    have Hval := Lib.hid hval
    clear hown hnods hnod rC HS3 HV3 hb23 HV2 HS2 HI2 HB2 hfo hin hfb hval
    go_enter Tryz.func99, Tryz.ntmps99
    go_wp2_with fail
    refine HCL.out.mono ?_
    rw [← hw2, ← hw3]
    rintro e w4 ⟨tv, rv, rfl, hb4, ht4, hr4⟩
    have HB4 := Lib.hid (HB3.out.trans (hb4.mono (by omega)))
    have HT4 := Lib.hid ht4
    have HR4 := Lib.hid hr4
    have hs34 := hb4.size
    clear hb4 ht4 hr4 HCL q0 q1 q2 m0
    go_wp2
    go_ret
    refine ⟨_, rfl, ⟨175, #[.agg #[tv, rv]], #[], rfl, enters_of Tryz.func175 (by kernel_rfl) rfl, fun q vv B2 ho => ?_⟩, HB4.out⟩
    have hg : y.fs.getD (ixM m : Int).toNat default = y.fs[ixM m] := by rw [Int.toNat_natCast]; exact getD_get hi'
    have hT := HT4.out
    have hR := HR4.out
    rw [hg] at hT hR
    have hlen : (inM m).length = ((inM m).map (valM y)).length := by simp
    rw [hlen] at ho
    have hvs : ∀ z ∈ (inM m).map (valM y), I64 z := fun z hz => by
      obtain ⟨p, hp, rfl⟩ := List.mem_map.1 hz
      exact (valM_small hy (inM_ok hok hp)).2.2
    have hiv := ownsRow.intsAt (lo := 0) (hi := w4.heap.size) ho hvs (Nat.zero_le _) (Nat.le_refl _)
    refine (result_any _ _ lo hi 0 w4.heap.size tv rv vv _ _ _ (w4.drewN q) (hT.keep fun _ _ _ => rfl) (hR.keep fun _ _ _ => rfl) (hiv.keep fun _ _ _ => rfl) (Nat.le_refl _) (Nat.le_trans hB HB4.out.size) (Nat.le_refl _) (by rw [tsOf_len]; exact Hfo.out.few) (tsOf_bound (tyOk_sizes hy.ty) Hfo.out.args) (by rw [tsOf_len, prodTo_cells _ _ _ (Nat.le_refl _)]; exact Hfo.out.len)).mono ?_
    rintro e w' ⟨rfl, hb⟩
    refine ⟨?_, ⟨hb.os, hb.tape, hb.output, hb.size, fun k hk => hb.block k (Nat.lt_of_lt_of_le hk HB4.out.size)⟩⟩
    rw [Hval.out, fcallV_yes Hfb.out, hg]
end Go.Proofs.YtdemcoghgnnheaaGreatDoor

namespace Go.Proofs.YtdemcoghgnnheaaGreatDoor
open Go.RowKit

/-- The marks of loops over functions that have ended. -/
def mkD (dl : List Nat) : List Deferred := dl.map fun d => { target := .collected d, args := #[] }

theorem own_not {A : World} {base n b : Nat} {e : TypeId} {v : Value} {xs : List Value} {o : Obj} (h : A.ownsRow base e 1 v n xs) (hv : v.ownBlock = some b) (ho : A.heap[b]? = some o) (hn : ∀ c t f, o ≠ .cells c t f) : False := by
  obtain ⟨_, ⟨rfl, _⟩ | ⟨g', cap, cur, rfl, hb, hh, _⟩⟩ := h
  · simp [Value.ownBlock] at hv
  · simp only [Value.ownBlock, Option.some.injEq] at hv
    subst hv
    rw [hh] at ho
    simp only [Option.some.injEq] at ho
    exact hn _ _ _ ho.symm

theorem leaves8 {F : Fence} {n : Nat} {P : Program} {fn : Func} {tmps : Array Value} {R : Ending → World → Prop} {G : World → Prop} (D : Nat → Prop) (hG : ∀ u d, D d → G u → G (u.putObj d (.deferred none)))
    (hbase : ∀ u, G u → LeavesIn F n P fn tmps R [] .returning u) : ∀ (dl : List Nat) (u : World), dl.Nodup → (∀ d ∈ dl, D d ∧ u.heap[d]? = some (.deferred (some []))) → G u → LeavesInM F n P fn tmps R (mkD dl) .returning u
  | [], u, _, _, hu => hbase u hu
  | d :: dl, u, hn, hd, hu => by
    obtain ⟨h1, h2⟩ := hd d (by simp)
    refine ⟨by simp, .inl ⟨d, _, rfl, run_takeDeferred h2, ?_⟩⟩
    refine leaves8 D hG hbase dl _ (List.nodup_cons.1 hn).2 (fun d' hd' => ⟨(hd d' (by simp [hd'])).1, (puts8 ?_).trans (hd d' (by simp [hd'])).2⟩) (hG u d h1 hu)
    intro e
    exact (List.nodup_cons.1 hn).1 (e ▸ hd')

/-- The iterator on its way: w: where it began; s: what it has yielded; k: how many of the parts ps it has run; O: what it owns. -/
structure St (T : Nat → Prop) (J : List Mk → (Nat → Prop) → World → Prop) (y : Sy) (w : World) (M p3 : Nat) (yv : Value) (A : Option Addr) (vs : List Value) (ps : List Mk) (s : List Mk) (k : Nat) (O : Nat → Prop) (dl : List Nat) (vv : Value) (u : World) : Prop where
  j : J s O u
  lo : ∀ b, O b → w.heap.size ≤ b ∧ b < u.heap.size
  kp : Kept T w u
  row : Row u p3 146 [yv]
  o3 : O p3
  l3 : p3 < M
  rw : ∀ j, j < ps.length → ∃ g, A = some ⟨g, 0, none⟩ ∧ u.cell? ⟨g, j, none⟩ = vs[j]? ∧ (T g ∨ O g) ∧ g < M
  own : u.ownsRow M 3 1 vv k (((ps.take k).map (valM y)).map (Value.int .i64))
  oo : ∀ b, vv.ownBlock = some b → O b
  nd : dl.Nodup
  df : ∀ d ∈ dl, O d ∧ u.heap[d]? = some (.deferred (some []))
  mm : M ≤ u.heap.size
section
variable {T : Nat → Prop} {J Jx : List Mk → (Nat → Prop) → World → Prop} {y : Sy} {w0 w u u' : World} {B l M p3 : Nat} {NN : List Mk} {yv : Value} {A : Option Addr} {vs : List Value} {ps s s' : List Mk} {k : Nat} {O O' : Nat → Prop} {dl : List Nat} {vv : Value}

/-- Where nothing of its own and of T has turned. -/
theorem St.move (h : St T J y w M p3 yv A vs ps s k O dl vv u) (hk : Kept (fun b => O b ∨ T b) u u') (_hT : ∀ b, T b → b < w.heap.size) (hsub : ∀ b, O b → O' b) (hlo : ∀ b, O' b → w.heap.size ≤ b ∧ b < u'.heap.size) (hj : J s' O' u') : St T J y w M p3 yv A vs ps s' k O' dl vv u' := by
  have hs := h.kp.size
  have hs2 := hk.size
  refine ⟨hj, hlo, kept_trans h.kp ⟨hk.os, hk.tape, hk.output, hk.size, fun b hb ht => hk.block b hb (.inr ht)⟩, h.row.keep (hk.block p3 h.row.lt (.inl h.o3)), hsub _ h.o3, h.l3, fun j hj => ?_, ?_, fun b hb => hsub b (h.oo b hb), h.nd, fun d hd => ⟨hsub d (h.df d hd).1, (hk.block d (h.lo d (h.df d hd).1).2 (.inl (h.df d hd).1)).trans (h.df d hd).2⟩, by have := h.mm; omega⟩
  · obtain ⟨g, e, hc, ht, hg⟩ := h.rw j hj
    have hgu : g < u.heap.size := by have := h.mm; omega
    exact ⟨g, e, (World.cell?_of_block (w := u) (hk.block g hgu (ht.elim .inr .inl))).trans hc, ht.elim .inl (fun h => .inr (hsub g h)), hg⟩
  · exact ownsRow_keep1 h.own fun b hb => hk.block b (h.lo b (h.oo b hb)).2 (.inl (h.oo b hb))
/-- New blocks of its own. -/
theorem St.mine (hC : Cli y w0 B NN l T J Jx) (h : St T J y w M p3 yv A vs ps s k O dl vv u) (hb : Below u.heap.size u u') (hT : ∀ b, T b → b < w.heap.size) : St T J y w M p3 yv A vs ps s k (fun b => O b ∨ (u.heap.size ≤ b ∧ b < u'.heap.size)) dl vv u' := by
  have hs := hb.size
  have hs2 := h.kp.size
  exact h.move (kept_of hb) hT (fun b h => .inl h) (fun b h' => h'.elim (fun h2 => ⟨(h.lo b h2).1, by have := (h.lo b h2).2; omega⟩) (fun h2 => ⟨by omega, h2.2⟩)) (hC.step _ _ _ _ h.j (kept_of hb))
/-- Another loop has ended. -/
theorem St.mark (h : St T J y w M p3 yv A vs ps s k O dl vv u) {d : Nat} (hd : O d) (hn : d ∉ dl) (hh : u.heap[d]? = some (.deferred (some []))) : St T J y w M p3 yv A vs ps s k O (d :: dl) vv u :=
  ⟨h.j, h.lo, h.kp, h.row, h.o3, h.l3, h.rw, h.own, h.oo, List.nodup_cons.2 ⟨hn, h.nd⟩, fun d' hd' => by
    rcases List.mem_cons.1 hd' with e | e
    · subst e; exact ⟨hd, hh⟩
    · exact h.df d' e, h.mm⟩
/-- The value of one part more has been put into the row. -/
theorem St.push (hC : Cli y w0 B NN l T J Jx) (h : St T J y w M p3 yv A vs ps s k O dl vv u) {u1 u2 : World} {v5 : Value} (hkl : k < ps.length) (hb : Below u.heap.size u u1) (hT : ∀ b, T b → b < w.heap.size)
    (hp : Pushed u1 u2 M 3 vv v5 k (((ps.take k).map (valM y)).map (Value.int .i64)) (.int .i64 (valM y ps[k]))) : St T J y w M p3 yv A vs ps s (k + 1) (fun b => O b ∨ (u.heap.size ≤ b ∧ b < u2.heap.size)) dl v5 u2 := by
  have hs := hb.size
  have hs1 := hp.grown.size
  have hs2 := h.kp.size
  have hmm := h.mm
  have hvl : ∀ b, vv.ownBlock = some b → M ≤ b ∧ b < u.heap.size := fun b hb' => ⟨(owns_lt h.own b hb').1, (h.lo b (h.oo b hb')).2⟩
  have hblk : ∀ b, b < u.heap.size → vv.ownBlock ≠ some b → u2.heap[b]? = u.heap[b]? := fun b hbl hne => (hp.grown.block b (by omega) (fun e => hne e.symm)).trans (hb.block b hbl)
  have hkO : Kept (fun b => ¬ O b) u u2 := ⟨hp.grown.os.trans hb.os, hp.grown.tape.trans hb.tape, hp.grown.output.trans hb.output, by omega, fun b hbl hn => hblk b hbl fun e => hn (h.oo b e)⟩
  refine ⟨hC.step _ _ _ _ h.j hkO, fun b h' => h'.elim (fun h2 => ⟨(h.lo b h2).1, by have := (h.lo b h2).2; omega⟩) (fun h2 => ⟨by omega, h2.2⟩), ?_, h.row.keep (hblk p3 h.row.lt fun e => by have := (hvl p3 e).1; have := h.l3; omega), .inl h.o3, h.l3, fun j hj => ?_, ?_, fun b hb' => ?_, h.nd, fun d hd => ⟨.inl (h.df d hd).1, (hblk d (h.lo d (h.df d hd).1).2 fun e => own_not h.own e (h.df d hd).2 (fun _ _ _ h => by cases h)).trans (h.df d hd).2⟩, by omega⟩
  · exact ⟨hkO.os.trans h.kp.os, hkO.tape.trans h.kp.tape, hkO.output.trans h.kp.output, by omega, fun b hbl ht => (hkO.block b (by omega) fun ho => by have := (h.lo b ho).1; have := hT b ht; omega).trans (h.kp.block b hbl ht)⟩
  · obtain ⟨g, e, hc, ht, hg⟩ := h.rw j hj
    exact ⟨g, e, (World.cell?_of_block (w := u) (hblk g (by omega) fun e2 => by have := (hvl g e2).1; omega)).trans hc, ht.elim .inl (fun h => .inr (.inl h)), hg⟩
  · have e : ((ps.take (k + 1)).map (valM y)).map (Value.int .i64) = ((ps.take k).map (valM y)).map (Value.int .i64) ++ [.int .i64 (valM y ps[k])] := by
      rw [List.take_succ_eq_append_getElem hkl, List.map_append, List.map_append]
      rfl
    rw [e]
    exact hp.own
  · rcases hp.at_ with e | ⟨g, e, h1, h2⟩
    · exact .inl (h.oo b (by rw [← e]; exact hb'))
    · rw [e] at hb'
      simp only [Option.some.injEq] at hb'
      subst hb'
      exact .inr ⟨by omega, h2⟩
end

/-- The value of the part that came last. -/
noncomputable def lastV (y : Sy) (s : List Mk) : Int := match s.getLast? with
  | some m => valM y m
  | none => 0
theorem lastV_snoc (y : Sy) (s : List Mk) (m : Mk) : lastV y (s ++ [m]) = valM y m := by unfold lastV; simp
theorem lastV_it (y : Sy) (m : Mk) : lastV y (itM m) = valM y m := by rw [itM_in, lastV_snoc]


theorem flat_len {α β : Type} (f : α → List β) {ps : List α} {k : Nat} (hk : k < ps.length) : (((ps.take k).map f).flatten).length + (f ps[k]).length ≤ ((ps.map f).flatten).length := by
  have e : ps = ps.take k ++ ps[k] :: ps.drop (k + 1) := by rw [List.getElem_cons_drop, List.take_append_drop]
  have h : ((ps.map f).flatten).length = (((ps.take k ++ ps[k] :: ps.drop (k + 1)).map f).flatten).length := by rw [← e]
  rw [h]
  simp only [List.map_append, List.map_cons, List.flatten_append, List.flatten_cons, List.length_append]
  omega
theorem flat_split {α β : Type} (f : α → List β) {ps : List α} {k : Nat} (hk : k < ps.length) : (ps.map f).flatten = ((ps.take k).map f).flatten ++ (f ps[k] ++ ((ps.drop (k + 1)).map f).flatten) := by
  have e : ps = ps.take k ++ ps[k] :: ps.drop (k + 1) := by rw [List.getElem_cons_drop, List.take_append_drop]
  have h : (ps.map f).flatten = ((ps.take k ++ ps[k] :: ps.drop (k + 1)).map f).flatten := by rw [← e]
  rw [h]
  simp only [List.map_append, List.map_cons, List.flatten_append, List.flatten_cons]
theorem flat_succ {α β : Type} (f : α → List β) {ps : List α} {k : Nat} (hk : k < ps.length) : ((ps.take (k + 1)).map f).flatten = ((ps.take k).map f).flatten ++ f ps[k] := by
  rw [List.take_succ_eq_append_getElem hk, List.map_append, List.flatten_append]
  simp only [List.map_cons, List.map_nil, List.flatten_cons, List.flatten_nil, List.append_nil]
/-- What holds in the loop over the parts within a part: s0 had come before it began, in the world W2; the value that came last stands in block lb. -/
structure InI (T : Nat → Prop) (J : List Mk → (Nat → Prop) → World → Prop) (y : Sy) (s0 : List Mk) (O2 : Nat → Prop) (lb d : Nat) (W2 : World) (s : List Mk) (O : Nat → Prop) (A : World) : Prop where
  j : J (s0 ++ s) (fun b => O2 b ∨ O b ∨ b = d ∨ b = d + 1) A
  lo : ∀ b, O b → d ≤ b ∧ b < A.heap.size
  sz : d + 1 < A.heap.size
  row : Row A lb 3 [.int .i64 (lastV y s)]
  kp : Kept (fun b => (T b ∨ O2 b) ∧ b ≠ lb) W2 A
structure InX (Jx : List Mk → (Nat → Prop) → World → Prop) (O2 : Nat → Prop) (lb d : Nat) (W2 : World) (c : Code) (O : Nat → Prop) (A : World) : Prop where
  ret : c = .ret
  j : ∃ s', Jx s' (fun b => O2 b ∨ O b ∨ b = d ∨ b = d + 1) A
  lo : ∀ b, O b → d ≤ b
  kp : Kept (fun b => O2 b ∧ b ≠ lb) W2 A
section
variable {y : Sy} {w0 W2 A C : World} {B l lb d : Nat} {NN : List Mk} {T : Nat → Prop} {J Jx : List Mk → (Nat → Prop) → World → Prop} {s0 s : List Mk} {O2 O O' : Nat → Prop} {c : Code}
theorem InI.step (hC : Cli y w0 B NN l T J Jx) (hd : ∀ b, (T b ∨ O2 b) → b < d) (hlb : lb < d) (h : InI T J y s0 O2 lb d W2 s O A) (hk : Kept (fun k => ¬ O k) A C) : InI T J y s0 O2 lb d W2 s (fun k => O k ∨ (A.heap.size ≤ k ∧ k < C.heap.size)) C := by
  have hs := hk.size
  have hz := h.sz
  refine ⟨hC.give _ _ _ _ (hC.step _ _ _ _ h.j (kept_sub hk fun k _ hn ho => hn (.inr (.inl ho)))) fun k hk' => ?_, fun b hb => hb.elim (fun h1 => ⟨(h.lo b h1).1, by have := (h.lo b h1).2; omega⟩) (fun h1 => ⟨by omega, h1.2⟩), by omega, h.row.keep (hk.block lb h.row.lt fun ho => by have := (h.lo lb ho).1; omega), kept_trans h.kp (kept_sub hk fun k _ hS ho => by have := (h.lo k ho).1; have := hd k hS.1; omega)⟩
  rcases hk' with h1 | (h1 | h1) | h1
  · exact .inl (.inl h1)
  · exact .inl (.inr (.inl h1))
  · exact .inr h1
  · exact .inl (.inr (.inr h1))
theorem InI.give (hC : Cli y w0 B NN l T J Jx) (h : InI T J y s0 O2 lb d W2 s O A) (hs : ∀ k, O' k → O k) : InI T J y s0 O2 lb d W2 s O' A :=
  ⟨hC.give _ _ _ _ h.j fun k hk => hk.elim .inl fun h1 => h1.elim (fun h2 => .inr (.inl (hs k h2))) fun h2 => .inr (.inr h2), fun b hb => h.lo b (hs b hb), h.sz, h.row, h.kp⟩
theorem InI.put (hC : Cli y w0 B NN l T J Jx) (hd : ∀ b, (T b ∨ O2 b) → b < d) (hlb : lb < d) (h : InI T J y s0 O2 lb d W2 s O A) {k : Nat} (o : Obj) (h1 : d ≤ k) (h2 : k ≤ d + 1) : InI T J y s0 O2 lb d W2 s O (A.putObj k o) := by
  have hk2 : k = d ∨ k = d + 1 := by omega
  exact ⟨hC.give _ _ _ _ (hC.step _ _ _ _ h.j (kept_put fun hn => hn (.inr (.inr hk2)))) fun k hk => .inl hk, fun b hb => by simpa using h.lo b hb, by simpa using h.sz, h.row.keep (puts8 (by omega)), kept_trans h.kp (kept_put fun hS => by have := hd k hS.1; omega)⟩
theorem InX.step (hC : Cli y w0 B NN l T J Jx) (hd : ∀ b, (T b ∨ O2 b) → b < d) (h : InX Jx O2 lb d W2 c O A) (hz : d + 1 < A.heap.size) (hk : Kept (fun k => ¬ O k) A C) : InX Jx O2 lb d W2 c (fun k => O k ∨ (A.heap.size ≤ k ∧ k < C.heap.size)) C := by
  obtain ⟨s', hj⟩ := h.j
  refine ⟨h.ret, ⟨s', hC.givex _ _ _ _ (hC.stepx _ _ _ _ hj (kept_sub hk fun k _ hn ho => hn (.inr (.inl ho)))) fun k hk' => ?_⟩, fun b hb => hb.elim (h.lo b) (fun h1 => by omega), kept_trans h.kp (kept_sub hk fun k _ hS ho => by have := h.lo k ho; have := hd k (.inr hS.1); omega)⟩
  rcases hk' with h1 | (h1 | h1) | h1
  · exact .inl (.inl h1)
  · exact .inl (.inr (.inl h1))
  · exact .inr h1
  · exact .inl (.inr (.inr h1))
theorem InX.give (hC : Cli y w0 B NN l T J Jx) (h : InX Jx O2 lb d W2 c O A) (hs : ∀ k, O' k → O k) : InX Jx O2 lb d W2 c O' A := by
  obtain ⟨s', hj⟩ := h.j
  exact ⟨h.ret, ⟨s', hC.givex _ _ _ _ hj fun k hk => hk.elim .inl fun h1 => h1.elim (fun h2 => .inr (.inl (hs k h2))) fun h2 => .inr (.inr h2)⟩, fun b hb => h.lo b (hs b hb), h.kp⟩
theorem InX.put (hC : Cli y w0 B NN l T J Jx) (hd : ∀ b, (T b ∨ O2 b) → b < d) (h : InX Jx O2 lb d W2 c O A) {k : Nat} (o : Obj) (h1 : d ≤ k) (h2 : k ≤ d + 1) : InX Jx O2 lb d W2 c O (A.putObj k o) := by
  obtain ⟨s', hj⟩ := h.j
  have hk2 : k = d ∨ k = d + 1 := by omega
  exact ⟨h.ret, ⟨s', hC.givex _ _ _ _ (hC.stepx _ _ _ _ hj (kept_put fun hn => hn (.inr (.inr hk2)))) fun k hk => .inl hk⟩, h.lo, kept_trans h.kp (kept_put fun hS => by have := hd k (.inr hS.1); omega)⟩
theorem InI.start (hC : Cli y w0 B NN l T J Jx) (hW : W2.heap.size = d) (hd : ∀ b, (T b ∨ O2 b) → b < d) (hj : J s0 O2 W2) (hr : Row W2 lb 3 [.int .i64 0]) (hb : Below W2.heap.size W2 C) (hs : C.heap.size = W2.heap.size + 2) : InI T J y s0 O2 lb d W2 [] (fun _ => False) C := by
  subst hW
  refine ⟨?_, fun b h => h.elim, by omega, hr.below hb hr.lt, kept_of hb⟩
  rw [List.append_nil]
  exact hC.give _ _ _ _ (hC.step _ _ _ _ hj (kept_of hb)) fun k hk => hk.elim .inl fun h1 => h1.elim (fun h2 => h2.elim) fun h2 => .inr (by omega)
/-- One part more has come, and its value has been put down. -/
theorem InI.next {p : Mk} (hC : Cli y w0 B NN l T J Jx) (h2 : O2 lb) (hlT : ¬ T lb) (hlb : lb < d) (h : InI T J y s0 O2 lb d W2 s O A) (hk : Kept (fun b => (O2 b ∨ O b ∨ b = d ∨ b = d + 1) ∨ T b) A C) (hj : J ((s0 ++ s) ++ [p]) (fun b => O2 b ∨ O b ∨ b = d ∨ b = d + 1) C) :
    InI T J y s0 O2 lb d W2 (s ++ [p]) O (C.setCell ⟨lb, 0, none⟩ (.int .i64 (valM y p))) ∧ Kept (fun k => O k ∨ ((T k ∨ O2 k) ∧ k ≠ lb) ∨ k = d ∨ k = d + 1) A (C.setCell ⟨lb, 0, none⟩ (.int .i64 (valM y p))) := by
  have hs := hk.size
  have hz := h.sz
  have hC1 : ∀ S : Nat → Prop, ¬ S lb → Kept S C (C.setCell ⟨lb, 0, none⟩ (.int .i64 (valM y p))) := fun S hS => ⟨rfl, rfl, rfl, by simp [World.setCell], fun k _ hk' => Below.heap_setCell _ _ _ _ fun e => hS (by have e' : k = lb := e; subst e'; exact hk')⟩
  have hrow : Row C lb 3 [.int .i64 (lastV y s)] := h.row.keep (hk.block lb h.row.lt (.inl (.inl h2)))
  refine ⟨⟨?_, fun b hb => ⟨(h.lo b hb).1, by have := (h.lo b hb).2; simp [World.setCell]; omega⟩, by simp [World.setCell]; omega, ?_, kept_trans h.kp (kept_trans (kept_sub hk fun k _ hS => hS.1.elim .inr fun h3 => .inl (.inl h3)) (hC1 _ fun hS => hS.2 rfl))⟩, kept_trans (kept_sub hk fun k _ hS => ?_) (hC1 _ fun hS => ?_)⟩
  · rw [← List.append_assoc]
    exact hC.give _ _ _ _ (hC.step _ _ _ _ hj (hC1 _ fun hn => hn (.inl h2))) fun k hk => .inl hk
  · rw [lastV_snoc]
    exact hrow.set_ 0 _
  · rcases hS with h3 | ⟨h3 | h3, _⟩ | h3
    · exact .inl (.inr (.inl h3))
    · exact .inr h3
    · exact .inl (.inl h3)
    · exact .inl (.inr (.inr h3))
  · rcases hS with h3 | ⟨_, h3⟩ | h3
    · have := (h.lo lb h3).1; omega
    · exact h3 rfl
    · omega
/-- One part more has come, and no other one is wanted. -/
theorem InI.nextX {p : Mk} (h : InI T J y s0 O2 lb d W2 s O A) (hk : Kept (fun b => O2 b ∨ O b ∨ b = d ∨ b = d + 1) A C) (hj : Jx ((s0 ++ s) ++ [p]) (fun b => O2 b ∨ O b ∨ b = d ∨ b = d + 1) C) :
    InX Jx O2 lb d W2 .ret O C ∧ Kept (fun k => O k ∨ k = d ∨ k = d + 1) A C :=
  ⟨⟨rfl, ⟨_, hj⟩, fun b hb => (h.lo b hb).1, kept_trans (kept_sub h.kp fun _k _ hS => ⟨.inr hS.1, hS.2⟩) (kept_sub hk fun _k _ hS => .inl hS.1)⟩, kept_sub hk fun _k _ hS => .inr hS⟩
end

/-- What holds of the world while nothing has turned it, behind a first operation, behind a second one. -/
def WTwo (w1 : World) (P1 P2 : World → Prop) : Nat → World → Prop
  | 0, u => ∃ n : Nat, u = w1.drewN n
  | 1, u => P1 u
  | _ + 2, u => P2 u
/-- What is left when it comes to its end. -/
def Fin8 (J Jx : List Mk → (Nat → Prop) → World → Prop) (s : List Mk) (O : Nat → Prop) (u : World) : Prop := (∃ O', (∀ b, O b → O' b) ∧ J s O' u) ∨ (∃ s' O', (∀ b, O b → O' b) ∧ Jx s' O' u)
theorem Fin8.put {y : Sy} {w0 : World} {B l : Nat} {NN : List Mk} {T : Nat → Prop} {J Jx : List Mk → (Nat → Prop) → World → Prop} {s : List Mk} {O : Nat → Prop} {u : World} (hC : Cli y w0 B NN l T J Jx) {d : Nat} (hd : O d) (o : Obj) (h : Fin8 J Jx s O u) : Fin8 J Jx s O (u.putObj d o) := by
  rcases h with ⟨O', hs, hj⟩ | ⟨s', O', hs, hj⟩
  · exact .inl ⟨O', hs, hC.give _ _ _ _ (hC.step _ _ _ _ hj (kept_put fun h => h (hs d hd))) fun b h => .inl h⟩
  · exact .inr ⟨s', O', hs, hC.givex _ _ _ _ (hC.stepx _ _ _ _ hj (kept_put fun h => h (hs d hd))) fun b h => .inl h⟩
theorem Fin8.out {J Jx : List Mk → (Nat → Prop) → World → Prop} {s : List Mk} {O : Nat → Prop} {u : World} (h : Fin8 J Jx s O u) : (∃ O', J s O' u) ∨ (∃ s' O', Jx s' O' u) := by
  rcases h with ⟨O', _, hj⟩ | ⟨s', O', _, hj⟩
  · exact .inl ⟨O', hj⟩
  · exact .inr ⟨s', O', hj⟩
end Go.Proofs.YtdemcoghgnnheaaGreatDoor

namespace Go.Proofs.YtdemcoghgnnheaaGreatDoor
open Go.RowKit

section
variable {F : Fence} {n : Nat} {P : Program} {ops : Array Oper} {Q : Exit → Act → World → Prop}
theorem wpOpIn_step8 {i : Nat} {o : Oper} {K : Act → World → Prop} {a : Act} {w : World} (ho : ops[i]? = some o)
    (h : ∀ K' : Act → World → Prop, (∀ a w, K a w → K' a w) → if Region.wanted o (yielded ops a.tmps) = true then o.wpIn F n P a w K' Q else (∀ f, o.about P w a.eval = some f → F.fn f) ∧ K' (a.put o.dst undef) w) : wpOpIn F n P ops Q i K a w := by
  unfold wpOpIn
  rw [ho]
  exact h K fun _ _ h => h

theorem wpAnyIn_inv (Inv : (Nat → Bool) → Act → World → Prop) (hd : ∀ i, ∀ (h : i < ops.size), ∀ e ∈ ops[i].after, Region.binds .any e = true → e.on < i)
    (hstep : ∀ (f : Nat → Bool) a w i o, ops[i]? = some o → f i = false → (∀ e ∈ o.after, Region.binds .any e = true → f e.on = true) → Inv f a w → wpOpIn F n P ops Q i (Inv fun k => decide (k = i) || f k) a w)
    (hend : ∀ f a w, (∀ k, k < ops.size → f k = true) → Inv f a w → Q .normal a w) :
    ∀ (fuel : Nat) (listed : Array Bool) (a : Act) (w : World), listed.size = ops.size → openCount listed.toList ≤ fuel → Inv (fun k => listed.getD k false) a w → wpAnyIn F n P .any ops Q fuel listed a w := by
  intro fuel
  induction fuel with
  | zero =>
    intro listed a w hs hf hI
    have hall := openCount_zero listed.toList (by omega)
    have hr : Region.ready .any ops listed = [] := by
      rw [List.eq_nil_iff_forall_not_mem]
      intro i hi
      obtain ⟨h1, h2, _⟩ := ready_of hi
      have hl : i < listed.size := by omega
      have h3 : listed[i] = false := by simpa [Array.getD, hl] using h2
      have h4 := hall listed[i] (by simp)
      rw [h3] at h4
      cases h4
    exact ⟨hr, hend _ a w (all_done hs hd hr) hI⟩
  | succ fuel ih =>
    intro listed a w hs hf hI
    refine ⟨fun hr => hend _ a w (all_done hs hd hr) hI, fun i hi => ?_⟩
    obtain ⟨h1, h2, o, ho, h3⟩ := ready_of hi
    have hl : i < listed.size := by omega
    have h4 : listed[i] = false := by simpa [Array.getD, hl] using h2
    refine wpOpIn_mono (fun a' w' hI' => ih (listed.setIfInBounds i true) a' w' (by simpa using hs) ?_ ?_) (hstep _ a w i o ho (by simp [Array.getD, hl, h4]) h3 hI)
    · have := openCount_set listed.toList i (by simp [hl, h4])
      simp only [Array.toList_setIfInBounds]
      omega
    · have e : (fun k => decide (k = i) || listed.getD k false) = fun k => (listed.setIfInBounds i true).getD k false := by
        funext k
        by_cases hk : k = i
        · subst hk
          simp [Array.getD, hl]
        · have hk' : ¬ i = k := fun h => hk h.symm
          by_cases hkl : k < listed.size
          · simp [Array.getD, hk, hk', hkl]
          · simp [Array.getD, hk, hkl]
      rw [← e]
      exact hI'

/-- A region that draws its order, by an invariant over what has been done. -/
theorem wpIn_region_inv {id : Nat} {a : Act} {w : World} (hm : P.follows .mixedOrders = true) (Inv : (Nat → Bool) → Act → World → Prop) (hd : ∀ i, ∀ (h : i < ops.size), ∀ e ∈ ops[i].after, Region.binds .any e = true → e.on < i)
    (h0 : Inv (fun _ => false) a w.drew)
    (hstep : ∀ (f : Nat → Bool) a w i o, ops[i]? = some o → f i = false → (∀ e ∈ o.after, Region.binds .any e = true → f e.on = true) → Inv f a w → wpOpIn F n P ops Q i (Inv fun k => decide (k = i) || f k) a w)
    (hend : ∀ f a w, (∀ k, k < ops.size → f k = true) → Inv f a w → Q .normal a w) : (Code.region id ops true).wpIn F n P Q a w := by
  refine wpIn_region_any hm (wpAnyIn_inv Inv hd hstep hend _ _ a _ (by simp) ?_ ?_)
  · have key : ∀ q, openCount (List.replicate q false) = q := by
      intro q
      induction q with
      | zero => rfl
      | succ q ih => simp only [List.replicate_succ, openCount, ih]; simp; omega
    rw [Array.toList_replicate, key]
    exact Nat.le_refl _
  · have e : (fun k => (Array.replicate ops.size false).getD k false) = fun _ => false := by
      funext k
      by_cases hk : k < ops.size
      · simp [Array.getD, hk]
      · simp [Array.getD, hk]
    rw [e]
    exact h0
end
end Go.Proofs.YtdemcoghgnnheaaGreatDoor

