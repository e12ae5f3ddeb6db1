/-
  The two errors of the choice in memory; the contracts of errors.Is for them.
  The contracts of the model's l5Below, l5Resolve, ResolveCall and ResolveByCost.
  The contracts of the program's rules, of choose for both, and of withWord.
  The contracts of ResolveCall, ResolveByCost and RulesAgree.
  What the package's two errors read as when the call begins; a world in which they read so.
-/
import Derived.Test.YtbblhjdcpmahkaaGreatDoorK1
import Derived.Test.YtbblhjdcpmahkaaGreatDoorRows
import Derived.WalkKit
import Derived.LaidEql
import Derived.Stop.Asserts
import Derived.RowKitTokens
import Derived.Test.YtbblhjdcpmahkaaGreatDoorK8
import Derived.Test.YtbblhjdcpmahkaaGreatDoorK5
import Derived.WalkMore
import Derived.BigQuiet
import Derived.Test.YtbblhjdcpmahkaaGreatDoorK9
import Derived.Deep.LoopGhost
import Derived.Deep.RegionHeld3
import Derived.Test.YtbblhjdcpmahkaaGreatDoorK10
import Derived.ProofKit
import Derived.Stop.LaidErr
import Derived.Stop.LaidTwo
import Derived.LaidHandle
import Derived.MakeChecks
import Derived.WalkSmall
namespace Go.Proofs.YtbblhjdcpmahkaaGreatDoor
open Go.RowKit Go.Extern.Stop Go.Stop Go.Extern

theorem isTypeOf (v : Value) (w : World) : (Extern.ReflectliteType.typeOf #[.iface 165 v]).run Tryz.prog w = .ok (.iface 119 (.agg #[.pointer (some ⟨2, 165, none⟩)])) w := by kernel_rfl
theorem callComparable (w : World) : (callFunc 128 #[.agg #[.pointer (some ⟨2, 165, none⟩)]]).run Tryz.prog w = .ok (.value (.bool true)) w := by kernel_rfl
theorem isMethodComparable (v : Value) (w : World) : (Go.method 302 119 v "Comparable").run Tryz.prog w = .ok (128, v) w := by kernel_rfl
theorem isComp : (Tryz.prog.info? 165).map (·.comparable) = some true := by kernel_rfl
theorem isSize : (Tryz.prog.info? 190).map (·.size) = some 1 := by kernel_rfl
theorem noIsE (v : Value) (xT : TypeId) (w : World) : (Instr.typeAssert (.iface 165 v) xT 121 true).run Tryz.prog w = .ok (.tuple #[.nilIface, .bool false]) w := run_typeAssert_lacksB Tryz.underlying121 (by kernel_rfl) (by kernel_rfl) v xT w
theorem noUnwrapE (v : Value) (xT : TypeId) (w : World) : (Instr.typeAssert (.iface 165 v) xT 124 true).run Tryz.prog w = .ok (.tuple #[.nilIface, .bool false]) w := run_typeAssert_lacksB Tryz.underlying124 (by kernel_rfl) (by kernel_rfl) v xT w
theorem noUnwrapsE (v : Value) (xT : TypeId) (w : World) : (Instr.typeAssert (.iface 165 v) xT 126 true).run Tryz.prog w = .ok (.tuple #[.nilIface, .bool false]) w := run_typeAssert_lacksB Tryz.underlying126 (by kernel_rfl) (by kernel_rfl) v xT w

set_option maxRecDepth 100000 in
set_option maxHeartbeats 2000000 in
/-- errors.Is(x, x), x a pointer to an errors.errorString. -/
theorem is_same (a : Addr) (w : World) :
    Calls Tryz.prog 41 #[.iface 165 (.pointer (some a)), .iface 165 (.pointer (some a))] w fun e w' => e = .returned (.bool true) ∧ w = w' := by
  obtain ⟨i, hi, hcmp⟩ := Option.map_eq_some_iff.1 isComp
  obtain ⟨j, hj, hjs⟩ := Option.map_eq_some_iff.1 isSize
  have h8 := @run_callFunc_extern Tryz.prog 55 _ Extern.ReflectliteType.typeOf Tryz.func55 (by kernel_rfl) (by kernel_rfl) (by kernel_rfl) (by kernel_rfl)
  have h32 := callComparable
  have tT := isTypeOf
  have mR := isMethodComparable
  have heq := run_eql_iface_ptr_same (P := Tryz.prog) w a Tryz.underlying51 Tryz.underlying165 hi hcmp hj
  go_enter Tryz.func41, Tryz.ntmps41
  go_wp2
  refine wp_loop_rounds 1 ?_
  rw [rounds_succ]
  go_wp2
  go_ret
  exact ⟨rfl, rfl⟩

set_option maxRecDepth 100000 in
set_option maxHeartbeats 2000000 in
/-- errors.Is(nil, x). -/
theorem is_nil (b : Addr) (w : World) :
    Calls Tryz.prog 41 #[.nilIface, .iface 165 (.pointer (some b))] w fun e w' => e = .returned (.bool false) ∧ w = w' := by
  have hn := run_eql_iface_nil_left (P := Tryz.prog) w 165 (.pointer (some b)) Tryz.underlying51
  go_enter Tryz.func41, Tryz.ntmps41
  go_wp2
  go_ret
  exact ⟨rfl, rfl⟩

set_option maxRecDepth 100000 in
set_option maxHeartbeats 2000000 in
/-- errors.Is(x, y), two different pointers to errors.errorString: neither has Is nor Unwrap: false. -/
theorem is_other (a b : Addr) (ca cb : Array Value) (ta tb : TypeId) (w : World) (hne : a ≠ b) (ha : w.heap[a.block]? = some (.cells ca ta (0, 0))) (hb : w.heap[b.block]? = some (.cells cb tb (0, 0))) :
    Calls Tryz.prog 41 #[.iface 165 (.pointer (some a)), .iface 165 (.pointer (some b))] w fun e w' => e = .returned (.bool false) ∧ w = w' := by
  obtain ⟨i, hi, hcmp⟩ := Option.map_eq_some_iff.1 isComp
  obtain ⟨j, hj, hjs⟩ := Option.map_eq_some_iff.1 isSize
  have h8 := @run_callFunc_extern Tryz.prog 55 _ Extern.ReflectliteType.typeOf Tryz.func55 (by kernel_rfl) (by kernel_rfl) (by kernel_rfl) (by kernel_rfl)
  have h32 := callComparable
  have tT := isTypeOf
  have mR := isMethodComparable
  have nE := noIsE
  have uE := noUnwrapE
  have vE := noUnwrapsE
  have heq := run_eql_iface_ptr_other (P := Tryz.prog) w Tryz.underlying51 Tryz.underlying165 hi hcmp hj (by rw [hjs]; decide) hne ha hb
  go_enter Tryz.func41, Tryz.ntmps41
  go_wp2
  refine wp_loop_rounds 1 ?_
  rw [rounds_succ]
  go_wp2
  go_ret
  exact ⟨rfl, rfl⟩

/-- The package's two errors lie below n: two different pointers. -/
structure Errs (w : World) (n : Nat) (a0 a1 : Addr) : Prop where
  low : 1 < n
  g0 : w.cell? ⟨0, 0, none⟩ = some (.iface 165 (.pointer (some a0)))
  g1 : w.cell? ⟨1, 0, none⟩ = some (.iface 165 (.pointer (some a1)))
  ne : a0 ≠ a1
  l0 : a0.block < n
  l1 : a1.block < n
  b0 : ∃ c t, w.heap[a0.block]? = some (.cells c t (0, 0))
  b1 : ∃ c t, w.heap[a1.block]? = some (.cells c t (0, 0))
theorem Errs.below {w w' : World} {n B : Nat} {a0 a1 : Addr} (h : Errs w n a0 a1) (hb : Below B w w') (hn : n ≤ B) : Errs w' n a0 a1 := by
  have hl := h.low
  have h0 := h.l0
  have h1 := h.l1
  refine ⟨hl, (hb.cell (p := ⟨0, 0, none⟩) (by show 0 < B; omega)).trans h.g0, (hb.cell (p := ⟨1, 0, none⟩) (by show 1 < B; omega)).trans h.g1, h.ne, h0, h1, ?_, ?_⟩
  · obtain ⟨c, t, e⟩ := h.b0
    exact ⟨c, t, (hb.block _ (by omega)).trans e⟩
  · obtain ⟨c, t, e⟩ := h.b1
    exact ⟨c, t, (hb.block _ (by omega)).trans e⟩
end Go.Proofs.YtbblhjdcpmahkaaGreatDoor

namespace Go.Proofs.YtbblhjdcpmahkaaGreatDoor
open Go.RowKit
attribute [local go_sem] Oper.semAt_some

/-- Some numbers are functions of a system. -/
def FnsIn (y : Sy) (L : List Int) : Prop := ∀ m, ∀ (hm : m < L.length), ∃ i : Nat, L[m] = (i : Int) ∧ i < y.fs.length
theorem fnsIn_applic (y : Sy) (nm : ByteArray) (ks : List Int) : FnsIn y (applicV y nm ks) := fun m hm => by
  obtain ⟨_, i, e, hi, _⟩ := applicV_at hm
  exact ⟨i, e, hi⟩

set_option maxRecDepth 100000 in
set_option maxHeartbeats 4000000 in
theorem l5Below_any (lo hi lo' hi' : Nat) (sv cv fv lv : Value) (y : Sy) (i : Nat) (L : List Int) (w : World) (hv : SyAt w lo hi sv cv fv y) (hL : IntsAt w lo' hi' lv L) (hB : hi ≤ w.heap.size) (hB' : hi' ≤ w.heap.size) (hsy : SyOk y) (hil : i < y.fs.length) (hfn : FnsIn y L) :
    Calls Tryz.prog 38 #[.agg #[sv, cv, fv], .int .i64 i, lv] w fun e w' => e = .returned (.bool (chiefB (ltB y) L i)) ∧ Below w.heap.size w w' := by
  obtain ⟨A, cap, rfl, hl1, hm1, hi1⟩ := hv.1.1.form
  obtain ⟨B, bap, rfl, hl2, hm2, hc1⟩ := hv.1.2.form
  obtain ⟨F, fap, rfl, hl3, hm3, hf1⟩ := hv.2.form
  obtain ⟨K, kap, rfl, hlk, hmk, hk1⟩ := hL.form
  unfold maxLen at hm3 hmk
  have HT := Lib.hid (show TyAt w lo hi (.slice A y.ty.sizes.length cap) (.slice B y.ty.cos.length bap) y.ty from ⟨hi1, hc1⟩)
  have Hf := Lib.hid hf1
  have Hk := Lib.hid hk1
  have Hsy := Lib.hid hsy
  have Hfn := Lib.hid hfn
  have H1 := Lib.hid (Below.refl (w.heap.size + 1) (w.alloc (.cells #[.slice A y.ty.sizes.length cap, .slice B y.ty.cos.length bap, .slice F y.fs.length fap] 37)))
  clear hi1 hc1 hf1 hk1 hL hv hsy hfn
  go_enter Tryz.func38, Tryz.ntmps38
  go_wp2
  go_loopw [11] (fun p wr => ∃ k : Nat, k ≤ L.length ∧ p = .int .i64 k ∧ Hid (Below (w.heap.size + 1) (w.alloc (.cells #[.slice A y.ty.sizes.length cap, .slice B y.ty.cos.length bap, .slice F y.fs.length fap] 37)) wr) ∧ Hid (∀ j, j < k → ∀ (hj : j < L.length), ltB y i L[j] = true)) (fun p _ => L.length - (intOf p).toNat)
  case atStart => exact ⟨0, Nat.zero_le _, rfl, H1.out, fun j hj => absurd hj (by omega)⟩
  case round =>
    obtain ⟨k, hk, rfl, hb, hall⟩ := hrel
    obtain ⟨q0, q1, q2, hl, hB1⟩ := box3 hb.out
    have HB1 := Lib.hid hB1
    clear hB1
    by_cases hlt : k < L.length
    · obtain ⟨im, em, him⟩ := Hfn.out k hlt
      obtain ⟨b, off, A1, cap1, A2, cap2, rfl, hlo, hhi, _, d1, _, _, _, _, _, _, hfi⟩ := (Hf.out.below HB1.out hB).at_ hil
      obtain ⟨b', off', A3, cap3, A4, cap4, eF, _, _, _, f1, _, _, _, _, _, _, hfm⟩ := (Hf.out.below HB1.out hB).at_ him
      obtain ⟨rfl, rfl⟩ : b = b' ∧ off = off' := by simpa using eF
      obtain ⟨b9, off9, e9, _, _, c9, _⟩ := (Hk.out.below HB1.out hB').at_ hlt
      obtain rfl := e9
      rw [em] at c9
      have Em := Lib.hid em
      have himI : (im : Int) < (y.fs.length : Int) := by omega
      have hilI : (i : Int) < (y.fs.length : Int) := by omega
      have hwh : hi ≤ wr.heap.size := by omega
      have k0 : ∀ z : InC (Below wr.heap.size wr), z.val.cell? ⟨w.heap.size, 0, none⟩ = some (.slice A y.ty.sizes.length cap) := fun z => (z.inD.cell (p := ⟨w.heap.size, 0, none⟩) hl).trans q0
      have k1 : ∀ z : InC (Below wr.heap.size wr), z.val.cell? ⟨w.heap.size, 1, none⟩ = some (.slice B y.ty.cos.length bap) := fun z => (z.inD.cell (p := ⟨w.heap.size, 1, none⟩) hl).trans q1
      have k2 : ∀ z : InC (Below wr.heap.size wr), z.val.cell? ⟨w.heap.size, 2, none⟩ = some (.slice (some ⟨b, off, none⟩) y.fs.length fap) := fun z => (z.inD.cell (p := ⟨w.heap.size, 2, none⟩) hl).trans q2
      have k3 : ∀ z : InC (Below wr.heap.size wr), z.val.cell? ⟨b, off + i * 4 + 1, none⟩ = some (.slice A1 y.fs[i].args.length cap1) := fun z => (z.inD.cell (p := ⟨b, off + i * 4 + 1, none⟩) (by show b < wr.heap.size; omega)).trans d1
      have k4 : ∀ z : InC (Below wr.heap.size wr), z.val.cell? ⟨b, off + im * 4 + 1, none⟩ = some (.slice A3 y.fs[im].args.length cap3) := fun z => (z.inD.cell (p := ⟨b, off + im * 4 + 1, none⟩) (by show b < wr.heap.size; omega)).trans f1
      have Hfi := Lib.hid hfi.2.2.2.2.1
      have Hfm := Lib.hid hfm.2.2.2.2.1
      have Hks2 := Lib.hid (fun z : InC (Below wr.heap.size wr) => l4Fits_any lo hi lo hi lo hi _ _ _ _ y.ty y.fs[i].args y.fs[im].args z.val (HT.out.below (HB1.out.trans (z.inD.mono (by omega))) hB) (Hfi.out.below z.inD hwh) (Hfm.out.below z.inD hwh) (by have := z.inD.size; omega) (by have := z.inD.size; omega) (by have := z.inD.size; omega) Hsy.out.ty (Hsy.out.each i hil).args (Hsy.out.each im him).args)
      have hneC : Nonempty (InC (Below wr.heap.size wr)) := ⟨⟨wr, Below.refl _ _⟩⟩
      have hfe : Hid (ltB y i L[k] = fitsToB y.ty y.fs[i].args y.fs[im].args) := by show _ = _; unfold ltB; rw [Em.out, argsOf_at him, argsOf_at hil]
      have hself : Hid (fitsToB y.ty y.fs[i].args y.fs[im].args = false → L[k] ≠ (i : Int)) := fun h e => by
        rw [← hfe.out, e] at h
        unfold ltB at h
        rw [fits_self] at h
        cases h
      clear hfi hfm d1 f1 q0 q1 q2 eF em
      by_cases hc : fitsToB y.ty y.fs[i].args y.fs[im].args = true
      · have Hc := Lib.hid hc
        have hall2 : Hid (∀ j, j < k + 1 → ∀ (hj : j < L.length), ltB y i L[j] = true) := fun j hj hjl => by
          by_cases e : j = k
          · subst e; rw [hfe.out]; exact hc
          · exact hall.out j (by omega) hjl
        clear hc
        go_wp2_with fail
        refine wp_region_class (Below wr.heap.size wr) (by kernel_rfl) (by kernel_rfl) ((Below.refl _ _).drew) ?_
        repeat (go_big_quiet_step ((go_at_call 53; rename_i z; exact (Hks2.out z).mono fun e w' ⟨he, hbx⟩ => ⟨by rw [he, Hc.out], ⟨_, z.inD.trans (hbx.mono z.inD.size)⟩, rfl⟩)))
        refine wpQuiet_nil ?_
        intro w4 hw'
        have hb4 : Hid (Below (w.heap.size + 1) (w.alloc (.cells #[.slice A y.ty.sizes.length cap, .slice B y.ty.cos.length bap, .slice (some ⟨b, off, none⟩) y.fs.length fap] 37)) w4) := by obtain ⟨z, rfl⟩ := hw'; exact hb.out.trans (z.inD.mono (by omega))
        clear hw'
        go_wp2
        go_roundw
        case rel => exact ⟨k + 1, by omega, by go_num, hb4.out, hall2⟩
        case measure => simp [intOf]; omega
      · have hcf := Lib.hid (show fitsToB y.ty y.fs[i].args y.fs[im].args = false by simpa using hc)
        have hfin := Lib.hid (chiefB_no (lt := ltB y) (i := (i : Int)) hlt (hself.out hcf.out) (by rw [hfe.out]; exact hcf.out))
        clear hc
        go_wp2_with fail
        refine wp_region_class (Below wr.heap.size wr) (by kernel_rfl) (by kernel_rfl) ((Below.refl _ _).drew) ?_
        repeat (go_big_quiet_step ((go_at_call 53; rename_i z; exact (Hks2.out z).mono fun e w' ⟨he, hbx⟩ => ⟨by rw [he, hcf.out], ⟨_, z.inD.trans (hbx.mono z.inD.size)⟩, rfl⟩)))
        refine wpQuiet_nil ?_
        intro w4 hw'
        have hb4 : Hid (Below w.heap.size w w4) := by obtain ⟨z, rfl⟩ := hw'; exact HB1.out.trans (z.inD.mono (by omega))
        clear hw'
        go_wp2
        go_ret
        exact ⟨ret_bool hfin.out.symm, hb4.out⟩
    · obtain rfl : k = L.length := by omega
      have hfin := Lib.hid (chiefB_yes (lt := ltB y) (L := L) (i := (i : Int)) fun m hm _ => hall.out m hm hm)
      go_wp2
      go_ret
      exact ⟨ret_bool hfin.out.symm, HB1.out⟩

set_option maxRecDepth 100000 in
set_option maxHeartbeats 4000000 in
theorem l5Resolve_any (lo hi lo' hi' : Nat) (sv cv fv kv : Value) (y : Sy) (nm : ByteArray) (ks : List Int) (w : World) (hv : SyAt w lo hi sv cv fv y) (hk : IntsAt w lo' hi' kv ks) (hB : hi ≤ w.heap.size) (hB' : hi' ≤ w.heap.size) (hbk : y.bulk ≤ 1048576) (hok : kindsB y ks = true) :
    Calls Tryz.prog 20 #[.agg #[sv, cv, fv], .string nm, kv] w fun e w' => e = .returned (.tuple #[.int .i64 (pickI (ltB y) (applicV y nm ks)), .string (pickW (ltB y) (applicV y nm ks))]) ∧ Below w.heap.size w w' := by
  obtain ⟨A, cap, rfl, hl1, hm1, hi1⟩ := hv.1.1.form
  obtain ⟨B, bap, rfl, hl2, hm2, hc1⟩ := hv.1.2.form
  obtain ⟨F, fap, rfl, hl3, hm3, hf1⟩ := hv.2.form
  obtain ⟨K, kap, rfl, hlk, hmk, hk1⟩ := hk.form
  unfold maxLen at hm3
  have hn : y.fs.length ≤ 1048576 := by unfold Sy.bulk at hbk; omega
  have Hv := Lib.hid hv
  have Hk := Lib.hid hk1
  have Hsy := Lib.hid (kindsB_of hok).1
  have H3 := Lib.hid (show Below w.heap.size w (w.alloc (.cells #[.slice A y.ty.sizes.length cap, .slice B y.ty.cos.length bap, .slice F y.fs.length fap] 37)) by go_grown)
  have H1 := Lib.hid (Below.refl (w.heap.size + 1) (w.alloc (.cells #[.slice A y.ty.sizes.length cap, .slice B y.ty.cos.length bap, .slice F y.fs.length fap] 37)))
  have hLle := applicV_le y nm ks
  have hLwf := applicV_wf y nm ks hbk
  have Hfn := Lib.hid (fnsIn_applic y nm ks)
  have Hok := Lib.hid hok
  clear hi1 hc1 hf1 hk1 hk hv hok
  go_enter Tryz.func20, Tryz.ntmps20
  go_wp2_with fail
  refine (l5Applicable_any lo hi lo' hi' _ _ _ _ y nm ks _ (Hv.out.below H3.out hB) (Hk.out.below H3.out hB') (by simp; omega) (by simp; omega) hbk Hok.out).mono ?_
  rintro e wL ⟨v, rfl, hbL, hown⟩
  simp only [World.size_alloc] at hbL hown
  obtain ⟨L, hLe⟩ : ∃ L, L = applicV y nm ks := ⟨_, rfl⟩
  rw [← hLe] at hLle hLwf Hfn hown
  have HLe := Lib.hid hLe
  clear hLe
  have hbi := Lib.hid (ownsRow.intsAt (lo := w.heap.size + 1) (hi := wL.heap.size) (show wL.ownsRow (w.heap.size + 1) 3 1 _ L.length (L.map (Value.int .i64)) from hown) hLwf (Nat.le_refl _) (Nat.le_refl _))
  obtain ⟨OA, OC, rfl⟩ := owns_form hown
  have Hbi := hbi
  have hb := Lib.hid (H1.out.trans (hbL.mono (by omega)))
  have hLs : w.heap.size + 1 ≤ wL.heap.size := by have := hbL.size; simp at this; omega
  clear hLwf hbL hown
  go_wp2
  go_loopw [17] (fun p wr => ∃ j : Nat, j ≤ L.length ∧ p = .int .i64 j ∧ Hid (Below wL.heap.size wL wr) ∧ Hid (∀ m, m < j → ∀ (hm : m < L.length), chiefB (ltB y) L L[m] = false)) (fun p _ => L.length - (intOf p).toNat)
  case atStart => exact ⟨0, Nat.zero_le _, rfl, Below.refl _ _, fun j hj => absurd hj (by omega)⟩
  case round =>
    obtain ⟨j, hj, rfl, hbx, hno⟩ := hrel
    have hsx := hbx.out.size
    obtain ⟨q0, q1, q2, hlr, hb0⟩ := box3 (hb.out.trans (hbx.out.mono hLs))
    have Hb0 := Lib.hid hb0
    clear hb0
    by_cases hlt : j < L.length
    · have Hbix := Lib.hid (Hbi.out.below hbx.out (Nat.le_refl _))
      obtain ⟨ij, ej, hij⟩ := Hfn.out j hlt
      obtain ⟨b8, off8, rfl, _, _, c8, _⟩ := Hbix.out.at_ hlt
      rw [ej] at c8
      have Ej := Lib.hid ej
      clear ej
      go_wp2_with fail
      refine (l5Below_any lo hi (w.heap.size + 1) wL.heap.size _ _ _ _ y ij L _ (Hv.out.below Hb0.out hB) Hbix.out (by omega) (by omega) Hsy.out hij Hfn.out).mono ?_
      rintro e w4 ⟨rfl, hb4⟩
      have Hb4 := Lib.hid hb4
      clear hb4
      by_cases hc : chiefB (ltB y) L (ij : Int) = true
      · have hp := Lib.hid (pick_at (lt := ltB y) hlt hno.out (by rw [Ej.out]; exact hc))
        rw [hc]
        clear hc
        go_wp2
        refine bodyPost_ret (v := .tuple #[.int .i64 ij, .string wOne]) (by simp [results, Tryz.results20, go_sem, wOne]) rfl ?_
        exact ⟨by rw [← HLe.out, hp.out.1, hp.out.2, Ej.out], Hb0.out.trans (Hb4.out.mono (by omega))⟩
      · have hcf : chiefB (ltB y) L (ij : Int) = false := by simpa using hc
        have hno2 : Hid (∀ m, m < j + 1 → ∀ (hm : m < L.length), chiefB (ltB y) L L[m] = false) := fun m h1 hm => by
          by_cases e : m = j
          · subst e; rw [Ej.out]; exact hcf
          · exact hno.out m (by omega) hm
        have hbx2 := Lib.hid (hbx.out.trans (Hb4.out.mono hsx))
        rw [hcf]
        clear hc hcf
        go_wp2
        go_roundw
        case rel => exact ⟨j + 1, by omega, by go_num, hbx2.out, hno2⟩
        case measure => simp [intOf]; omega
    · obtain rfl : j = L.length := by omega
      by_cases h0 : 0 < L.length
      · have hp := Lib.hid (pick_many (lt := ltB y) (L := L) (fun e => by rw [e] at h0; simp at h0) fun m hm => hno.out m hm hm)
        go_wp2
        refine bodyPost_ret (v := .tuple #[.int .i64 (-1), .string wMany]) (by simp [results, Tryz.results20, go_sem, wMany]) rfl ?_
        exact ⟨by rw [← HLe.out, hp.out.1, hp.out.2], Hb0.out⟩
      · have hL0 : L = [] := by
          cases L with
          | nil => rfl
          | cons x l => simp at h0
        have hp := Lib.hid (show pickI (ltB y) L = -1 ∧ pickW (ltB y) L = wNone by rw [hL0]; exact pick_nil _)
        clear hL0
        go_wp2
        refine bodyPost_ret (v := .tuple #[.int .i64 (-1), .string wNone]) (by simp [results, Tryz.results20, go_sem, wNone]) rfl ?_
        exact ⟨by rw [← HLe.out, hp.out.1, hp.out.2], Hb0.out⟩

set_option maxRecDepth 100000 in
set_option maxHeartbeats 4000000 in
theorem specResolve_any (lo hi lo' hi' : Nat) (sv cv fv kv : Value) (y : Sy) (nm : ByteArray) (ks : List Int) (w : World) (hv : SyAt w lo hi sv cv fv y) (hk : IntsAt w lo' hi' kv ks) (hB : hi ≤ w.heap.size) (hB' : hi' ≤ w.heap.size) (hbk : y.bulk ≤ 1048576) :
    Calls Tryz.prog 7 #[.agg #[sv, cv, fv], .string nm, kv] w fun e w' => e = .returned (.tuple #[.int .i64 (pickI (ltB y) (applicV y nm ks)), .string (pickW (ltB y) (applicV y nm ks))]) ∧ Below w.heap.size w w' := by
  obtain ⟨A, cap, rfl, hl1, hm1, hi1⟩ := hv.1.1.form
  obtain ⟨B, bap, rfl, hl2, hm2, hc1⟩ := hv.1.2.form
  obtain ⟨F, fap, rfl, hl3, hm3, hf1⟩ := hv.2.form
  obtain ⟨K, kap, rfl, hlk, hmk, hk1⟩ := hk.form
  have h3 : Below w.heap.size w (w.alloc (.cells #[.slice A y.ty.sizes.length cap, .slice B y.ty.cos.length bap, .slice F y.fs.length fap] 37)) := by go_grown
  have H1 := Lib.hid (Below.refl (w.heap.size + 1) (w.alloc (.cells #[.slice A y.ty.sizes.length cap, .slice B y.ty.cos.length bap, .slice F y.fs.length fap] 37)))
  have Hv := Lib.hid hv
  have Hk := Lib.hid hk1
  have H3 := Lib.hid h3
  clear hi1 hc1 hf1 hk1 hk hv h3
  go_enter Tryz.func7, Tryz.ntmps7
  go_wp2_with fail
  refine (l5Kinds_any lo hi lo' hi' _ _ _ _ y ks _ (Hv.out.below H3.out hB) (Hk.out.below H3.out hB') (by simp; omega) (by simp; omega)).mono ?_
  rintro e w1 ⟨rfl, hb1⟩
  have H2 := Lib.hid (H1.out.trans (hb1.mono (by simp)))
  obtain ⟨q0, q1, q2, hl, hB1⟩ := box3 H2.out
  have HB1 := Lib.hid hB1
  clear hb1 hB1 H1
  by_cases hok : kindsB y ks = true
  · have Hok := Lib.hid hok
    rw [hok]
    clear hok
    go_wp2_with fail
    refine (l5Resolve_any lo hi lo' hi' _ _ _ _ y nm ks _ (Hv.out.below HB1.out hB) (Hk.out.below HB1.out hB') (by omega) (by omega) hbk Hok.out).mono ?_
    rintro e w2 ⟨rfl, hb2⟩
    have Hb2 := Lib.hid (HB1.out.trans (hb2.mono (by omega)))
    clear hb2
    go_wp2
    refine bodyPost_ret (v := .tuple #[.int .i64 (pickI (ltB y) (applicV y nm ks)), .string (pickW (ltB y) (applicV y nm ks))]) (by simp [results, Tryz.results7, go_sem]) rfl ?_
    exact ⟨rfl, Hb2.out⟩
  · have hf : kindsB y ks = false := by simpa using hok
    have he := Lib.hid (applicV_bad (nm := nm) hf)
    rw [hf]
    clear hok
    go_wp2
    refine bodyPost_ret (v := .tuple #[.int .i64 (-1), .string wNone]) (by simp [results, Tryz.results7, go_sem, wNone]) rfl ?_
    exact ⟨by rw [he.out]; rfl, HB1.out⟩

theorem bestOf_times (c : Int → Int) (l : List Int) : (bestOf c l).times ≤ l.length := by
  have h := bestIs c l.length l rfl
  rcases h.count with h1 | h1
  · rw [h1]; exact List.length_filter_le _ _
  · rw [h.nil.2 h1]; omega
theorem bestOf_cost {c : Int → Int} {l : List Int} {n : Int} (hc : ∀ k ∈ l, 0 ≤ c k ∧ c k ≤ n) (hn : 0 ≤ n) : 0 ≤ (bestOf c l).cost ∧ (bestOf c l).cost ≤ n := by
  have h := bestIs c l.length l rfl
  by_cases e : l = []
  · subst e; exact ⟨Int.le_refl _, hn⟩
  · have := hc _ (h.mem e).1
    rw [(h.mem e).2] at this
    exact this

set_option maxRecDepth 100000 in
set_option maxHeartbeats 4000000 in
theorem specByCost_any (lo hi lo' hi' : Nat) (sv cv fv kv : Value) (y : Sy) (nm : ByteArray) (ks : List Int) (w : World) (hv : SyAt w lo hi sv cv fv y) (hk : IntsAt w lo' hi' kv ks) (hB : hi ≤ w.heap.size) (hB' : hi' ≤ w.heap.size) (hbk : y.bulk ≤ 1048576) :
    Calls Tryz.prog 13 #[.agg #[sv, cv, fv], .string nm, kv] w fun e w' => e = .returned (.tuple #[.int .i64 (pickI (ltC y ks) (applicV y nm ks)), .string (pickW (ltC y ks) (applicV y nm ks))]) ∧ Below w.heap.size w w' := by
  obtain ⟨A, cap, rfl, hl1, hm1, hi1⟩ := hv.1.1.form
  obtain ⟨B, bap, rfl, hl2, hm2, hc1⟩ := hv.1.2.form
  obtain ⟨F, fap, rfl, hl3, hm3, hf1⟩ := hv.2.form
  obtain ⟨K, kap, rfl, hlk, hmk, hk1⟩ := hk.form
  unfold maxLen at hm3
  have hn : y.fs.length ≤ 1048576 := by unfold Sy.bulk at hbk; omega
  have Hv := Lib.hid hv
  have Hk := Lib.hid hk1
  have H3 := Lib.hid (show Below w.heap.size w (w.alloc (.cells #[.slice A y.ty.sizes.length cap, .slice B y.ty.cos.length bap, .slice F y.fs.length fap] 37)) by go_grown)
  have H1 := Lib.hid (Below.refl (w.heap.size + 1) (w.alloc (.cells #[.slice A y.ty.sizes.length cap, .slice B y.ty.cos.length bap, .slice F y.fs.length fap] 37)))
  have hLle := applicV_le y nm ks
  have hLwf := applicV_wf y nm ks hbk
  have hLat : Hid (∀ m, ∀ (hm : m < (applicV y nm ks).length), SyOk y ∧ ∃ i : Nat, (applicV y nm ks)[m] = (i : Int) ∧ ∃ hi : i < y.fs.length, y.fs[i].name = nm ∧ ApTo y.ty ks y.fs[i].args) := fun m hm => applicV_at hm
  have hbest : Hid _ := best_pick (c := costOf y ks) (applicV_nodup y nm ks)
  have hcb : Hid (∀ k ∈ applicV y nm ks, 0 ≤ costOf y ks k ∧ costOf y ks k ≤ 5242880) := fun k hk => by
    obtain ⟨hs, i, hi, _, ha, _⟩ := applicV_mem.1 hk
    rw [getD_of hi] at ha
    exact costOf_bd y ks k (by rw [ha.1]; have := (hs.each i hi).few; omega)
  clear hi1 hc1 hf1 hk1 hk hv
  go_enter Tryz.func13, Tryz.ntmps13
  go_wp2_with fail
  refine (specApplic_any lo hi lo' hi' _ _ _ _ y nm ks _ (Hv.out.below H3.out hB) (Hk.out.below H3.out hB') (by simp; omega) (by simp; omega) hbk).mono ?_
  rintro e wL ⟨v, rfl, hbL, hown⟩
  simp only [World.size_alloc] at hbL hown
  obtain ⟨L, hLe⟩ : ∃ L, L = applicV y nm ks := ⟨_, rfl⟩
  rw [← hLe] at hLle hLwf hLat hbest hcb hown
  have HLe := Lib.hid hLe
  clear hLe
  have hbi := Lib.hid (ownsRow.intsAt (lo := w.heap.size + 1) (hi := wL.heap.size) (show wL.ownsRow (w.heap.size + 1) 3 1 _ L.length (L.map (Value.int .i64)) from hown) hLwf (Nat.le_refl _) (Nat.le_refl _))
  obtain ⟨OA, OC, rfl⟩ := owns_form hown
  have Hbi := hbi
  have hb := Lib.hid (H1.out.trans (hbL.mono (by omega)))
  have hLs : w.heap.size + 1 ≤ wL.heap.size := by have := hbL.size; simp at this; omega
  clear hLwf hbL hown
  go_wp2
  go_loopw [8, 9, 10, 19] (fun pb pc pt p wr => ∃ (j : Nat) (bst : Best), j ≤ L.length ∧ p = .int .i64 j ∧ pb = .int .i64 bst.best ∧ pc = .int .i64 bst.cost ∧ pt = .int .i64 (bst.times : Nat) ∧ Hid (bst = bestOf (costOf y ks) (L.take j)) ∧ Hid (Below wL.heap.size wL wr)) (fun _ _ _ p _ => L.length - (intOf p).toNat)
  case atStart => exact ⟨0, ⟨-1, 0, 0⟩, Nat.zero_le _, rfl, rfl, rfl, rfl, by show _ = _; rw [List.take_zero]; rfl, Below.refl _ _⟩
  case round =>
    obtain ⟨j, bst, hj, rfl, rfl, rfl, rfl, hbst, hbx⟩ := hrel
    have hsx := hbx.out.size
    obtain ⟨q0, q1, q2, hlr, hb0⟩ := box3 (hb.out.trans (hbx.out.mono hLs))
    have Hb0 := Lib.hid hb0
    have htm : bst.times ≤ j := by rw [hbst.out]; exact Nat.le_trans (bestOf_times _ _) (by rw [List.length_take]; omega)
    have hco : 0 ≤ bst.cost ∧ bst.cost ≤ 5242880 := by rw [hbst.out]; exact bestOf_cost (fun k hk => hcb.out k (List.mem_of_mem_take hk)) (by omega)
    obtain ⟨hco0, hco1⟩ := hco
    clear hb0
    by_cases hlt : j < L.length
    · have Hbix := Lib.hid (Hbi.out.below hbx.out (Nat.le_refl _))
      obtain ⟨hsy, ij, ej, hij, hnj, hapj⟩ := hLat.out j hlt
      obtain ⟨b8, off8, rfl, _, _, c8, _⟩ := Hbix.out.at_ hlt
      rw [ej] at c8
      obtain ⟨hc0, hc1⟩ := hcb.out _ (List.getElem_mem hlt)
      rw [ej] at hc0 hc1
      have hnext : Hid (bestOf (costOf y ks) (L.take (j + 1)) = bestStep (costOf y ks) bst (ij : Int)) := by
        show _ = _
        rw [List.take_succ_eq_append_getElem hlt, bestOf_snoc, ← hbst.out, ej]
      have Hap := Lib.hid hapj
      have hfew : ks.length ≤ 2 := by rw [hapj.1]; exact (hsy.each ij hij).few
      clear ej hnj hapj hsy
      go_wp2_with fail
      refine (l5Cost_any lo hi lo' hi' _ _ _ _ y ij ks _ (Hv.out.below Hb0.out hB) (Hk.out.below Hb0.out hB') (by omega) (by omega) hij Hap.out hfew).mono ?_
      rintro e w4 ⟨rfl, hb4⟩
      have hbx2 := Lib.hid (hbx.out.trans (hb4.mono hsx))
      clear hb4
      by_cases h0 : bst.times = 0
      · have hn1 : Hid ((⟨(ij : Int), costOf y ks ij, 1⟩ : Best) = bestOf (costOf y ks) (L.take (j + 1))) := by show _ = _; rw [hnext.out]; unfold bestStep; rw [if_pos (.inl h0)]
        have ht : ((bst.times : Int) == 0) = true := by rw [h0]; rfl
        clear h0
        go_wp2
        go_roundw
        case rel => exact ⟨j + 1, ⟨(ij : Int), costOf y ks ij, 1⟩, by omega, by go_num, rfl, rfl, rfl, hn1.out, hbx2.out⟩
        case measure => simp [intOf]; omega
      · have ht : ((bst.times : Int) == 0) = false := by simp; omega
        by_cases h1 : costOf y ks (ij : Int) < bst.cost
        · have hn1 : Hid ((⟨(ij : Int), costOf y ks ij, 1⟩ : Best) = bestOf (costOf y ks) (L.take (j + 1))) := by show _ = _; rw [hnext.out]; unfold bestStep; rw [if_pos (.inr h1)]
          have ht1 : decide (costOf y ks (ij : Int) < bst.cost) = true := by simpa using h1
          clear h0 h1
          go_wp2
          go_roundw
          case rel => exact ⟨j + 1, ⟨(ij : Int), costOf y ks ij, 1⟩, by omega, by go_num, rfl, rfl, rfl, hn1.out, hbx2.out⟩
          case measure => simp [intOf]; omega
        · have ht1 : decide (costOf y ks (ij : Int) < bst.cost) = false := by simpa using h1
          by_cases h2 : costOf y ks (ij : Int) = bst.cost
          · have hn1 : Hid ((⟨bst.best, bst.cost, bst.times + 1⟩ : Best) = bestOf (costOf y ks) (L.take (j + 1))) := by show _ = _; rw [hnext.out]; unfold bestStep; rw [if_neg (fun h => h.elim h0 h1), if_pos h2]
            have ht2 : (costOf y ks (ij : Int) == bst.cost) = true := by simpa using h2
            clear h0 h1 h2
            go_wp2
            go_roundw
            case rel => exact ⟨j + 1, ⟨bst.best, bst.cost, bst.times + 1⟩, by omega, by go_num, rfl, rfl, by go_num, hn1.out, hbx2.out⟩
            case measure => simp [intOf]; omega
          · have hn1 : Hid (bst = bestOf (costOf y ks) (L.take (j + 1))) := by show _ = _; rw [hnext.out]; unfold bestStep; rw [if_neg (fun h => h.elim h0 h1), if_neg h2]
            have ht2 : (costOf y ks (ij : Int) == bst.cost) = false := by simpa using h2
            clear h0 h1 h2
            go_wp2
            go_roundw
            case rel => exact ⟨j + 1, bst, by omega, by go_num, rfl, rfl, rfl, hn1.out, hbx2.out⟩
            case measure => simp [intOf]; omega
    · obtain rfl : j = L.length := by omega
      rw [List.take_length] at hbst
      obtain ⟨p0, p1, p2⟩ := hbest.out
      rw [← hbst.out] at p0 p1 p2
      by_cases h0 : bst.times = 0
      · have ht : ((bst.times : Int) == 0) = true := by rw [h0]; rfl
        have hp := Lib.hid (show pickI (ltC y ks) L = -1 ∧ pickW (ltC y ks) L = wNone by rw [p0 h0]; exact pick_nil _)
        clear h0 p0 p1 p2
        go_wp2
        refine bodyPost_ret (v := .tuple #[.int .i64 (-1), .string wNone]) (by simp [results, Tryz.results13, go_sem, wNone]) rfl ?_
        exact ⟨by rw [← HLe.out, hp.out.1, hp.out.2], Hb0.out⟩
      · have ht : ((bst.times : Int) == 0) = false := by simp; omega
        by_cases h1 : bst.times = 1
        · have ht1 : ((bst.times : Int) == 1) = true := by rw [h1]; rfl
          have hp : Hid (pickI (ltC y ks) L = bst.best ∧ pickW (ltC y ks) L = wOne) := p1 h1
          clear h0 h1 p0 p1 p2
          go_wp2
          refine bodyPost_ret (v := .tuple #[.int .i64 bst.best, .string wOne]) (by simp [results, Tryz.results13, go_sem, wOne]) rfl ?_
          exact ⟨by rw [← HLe.out, hp.out.1, hp.out.2], Hb0.out⟩
        · have ht1 : ((bst.times : Int) == 1) = false := by simp; omega
          have hp : Hid (pickI (ltC y ks) L = -1 ∧ pickW (ltC y ks) L = wMany) := p2 (by omega)
          clear h0 h1 p0 p1 p2
          go_wp2
          refine bodyPost_ret (v := .tuple #[.int .i64 (-1), .string wMany]) (by simp [results, Tryz.results13, go_sem, wMany]) rfl ?_
          exact ⟨by rw [← HLe.out, hp.out.1, hp.out.2], Hb0.out⟩
end Go.Proofs.YtbblhjdcpmahkaaGreatDoor

namespace Go.Proofs.YtbblhjdcpmahkaaGreatDoor
open Go.RowKit Go.Maps

/-- The error that stands for a word. -/
def errOf (a0 a1 : Addr) (s : ByteArray) : Value := if s = wOne then .nilIface else if s = wNone then .iface 165 (.pointer (some a0)) else .iface 165 (.pointer (some a1))
theorem errOf_one (a0 a1 : Addr) : errOf a0 a1 wOne = .nilIface := rfl
theorem errOf_none (a0 a1 : Addr) : errOf a0 a1 wNone = .iface 165 (.pointer (some a0)) := rfl
theorem errOf_many (a0 a1 : Addr) : errOf a0 a1 wMany = .iface 165 (.pointer (some a1)) := rfl

set_option maxRecDepth 100000 in
set_option maxHeartbeats 2000000 in
theorem withWord_any (i : Int) (s : ByteArray) (hs : s = wOne ∨ s = wNone ∨ s = wMany) (n : Nat) (a0 a1 : Addr) (w : World) (hE : Errs w n a0 a1) :
    Calls Tryz.prog 23 #[.int .i64 i, errOf a0 a1 s] w fun e w' => e = .returned (.tuple #[.int .i64 i, .string s]) ∧ w = w' := by
  obtain ⟨c0, t0, b0⟩ := hE.b0
  obtain ⟨c1, t1, b1⟩ := hE.b1
  have g0 := hE.g0
  have g1 := hE.g1
  have Hne := Lib.hid hE.ne
  have B0 := Lib.hid b0
  have B1 := Lib.hid b1
  clear b0 b1 hE
  rcases hs with rfl | rfl | rfl
  · rw [errOf_one]
    go_enter Tryz.func23, Tryz.ntmps23
    go_wp2_with (go_at_call 41; refine (is_nil _ _).mono ?_; rintro e w' ⟨rfl, rfl⟩)
    refine bodyPost_ret (v := .tuple #[.int .i64 i, .string wOne]) (by simp [results, Tryz.results23, go_sem, wOne]) rfl ?_
    exact ⟨rfl, rfl⟩
  · rw [errOf_none]
    go_enter Tryz.func23, Tryz.ntmps23
    go_wp2_with (go_at_call 41; refine (is_same _ _).mono ?_; rintro e w' ⟨rfl, rfl⟩)
    refine bodyPost_ret (v := .tuple #[.int .i64 i, .string wNone]) (by simp [results, Tryz.results23, go_sem, wNone]) rfl ?_
    exact ⟨rfl, rfl⟩
  · rw [errOf_many]
    go_enter Tryz.func23, Tryz.ntmps23
    go_wp2_with fail
    refine (is_other a1 a0 _ _ _ _ _ Hne.out.symm B1.out B0.out).mono ?_
    rintro e w' ⟨rfl, rfl⟩
    go_wp2_with fail
    refine (is_same _ _).mono ?_
    rintro e w' ⟨rfl, rfl⟩
    go_wp2
    refine bodyPost_ret (v := .tuple #[.int .i64 i, .string wMany]) (by simp [results, Tryz.results23, go_sem, wMany]) rfl ?_
    exact ⟨rfl, rfl⟩

/-- Some numbers are functions of one name. -/
def NamedIn (y : Sy) (nm : ByteArray) (L : List Int) : Prop := ∀ m, ∀ (hm : m < L.length), ∃ i : Nat, L[m] = (i : Int) ∧ ∃ hi : i < y.fs.length, y.fs[i].name = nm
theorem namedIn_applic (y : Sy) (nm : ByteArray) (ks : List Int) : NamedIn y nm (applicV y nm ks) := fun m hm => by
  obtain ⟨_, i, e, hi, hn, _⟩ := applicV_at hm
  exact ⟨i, e, hi, hn⟩

set_option maxRecDepth 100000 in
set_option maxHeartbeats 2000000 in
theorem belowRule_any (lo hi : Nat) (sv cv fv : Value) (y : Sy) (i k : Nat) (w : World) (hv : SyAt w lo hi sv cv fv y) (hB : hi ≤ w.heap.size) (hsy : SyOk y) (hil : i < y.fs.length) (hkl : k < y.fs.length) (hn : y.fs[i].name = y.fs[k].name) :
    Calls Tryz.prog 120 #[.agg #[sv, cv, fv], .int .i64 i, .int .i64 k] w fun e w' => e = .returned (.bool (ltB y i k)) ∧ Below w.heap.size w w' := by
  obtain ⟨A, cap, rfl, hl1, hm1, hi1⟩ := hv.1.1.form
  obtain ⟨B, bap, rfl, hl2, hm2, hc1⟩ := hv.1.2.form
  obtain ⟨F, fap, rfl, hl3, hm3, hf1⟩ := hv.2.form
  obtain ⟨f1, f2, f3⟩ := below_fits hsy hil hkl hn
  have h3 : Below w.heap.size w (w.alloc (.cells #[.slice A y.ty.sizes.length cap, .slice B y.ty.cos.length bap, .slice F y.fs.length fap] 55)) := by go_grown
  have Hv := Lib.hid (hv.below h3 hB)
  have H3 := Lib.hid h3
  have F3 : Hid (belowB y (i : Int) (k : Int) = ltB y i k) := f3
  clear hi1 hc1 hf1 hv h3 f3
  go_enter Tryz.func120, Tryz.ntmps120
  go_wp2_with fail
  refine (sysIsBelow_any lo hi _ _ _ y i k _ Hv.out (by simp; omega) f1 f2).mono ?_
  rintro e w1 ⟨rfl, hb1⟩
  rw [F3.out]
  have Hb1 := Lib.hid (H3.out.trans (hb1.mono (by simp)))
  clear hb1
  go_wp2
  go_ret
  exact ⟨rfl, Hb1.out⟩

set_option maxRecDepth 100000 in
set_option maxHeartbeats 2000000 in
theorem costRule_any (b n : Nat) (y : Sy) (ks L : List Int) (D : DataW Unit) (i k : Nat) (w : World) (hO : w.ownsMap Tryz.prog 3 (plainElem Tryz.prog 3) b n D) (hC : Cst y ks L D) (hi : (i : Int) ∈ L) (hk : (k : Int) ∈ L) (hi64 : I64 (i : Int)) (hk64 : I64 (k : Int)) :
    Calls Tryz.prog 122 #[.agg #[.map (some b)], .int .i64 i, .int .i64 k] w fun e w' => e = .returned (.bool (ltC y ks i k)) ∧ Below w.heap.size w w' := by
  have look : ∀ z : Int, z ∈ L → I64 z → (Instr.lookup 60 (.map (some b)) (.int .i64 z) false).run Tryz.prog (w.alloc (.cells #[.map (some b)] 63)) = .ok (.int .i64 (costOf y ks z)) (w.alloc (.cells #[.map (some b)] 63)) := fun z hz hz64 => by
    obtain ⟨c, hr, hat, _⟩ := (hO.alloc (.cells #[.map (some b)] 63)).lookup_int keyInt Tryz.underlying60 Tryz.underlying3 (by kernel_rfl) (keyOf_int_mk Tryz.underlying3 (wfInt hz64))
    rw [hC.at_ z hz] at hat
    simp at hat
    rw [hr, hat]
  have l1 := look i hi hi64
  have l2 := look k hk hk64
  have h3 : Below w.heap.size w (w.alloc (.cells #[.map (some b)] 63)) := by go_grown
  have H3 := Lib.hid h3
  clear look hO hC h3
  go_enter Tryz.func122, Tryz.ntmps122
  go_wp2
  go_ret
  exact ⟨rfl, H3.out⟩

set_option maxRecDepth 100000 in
set_option maxHeartbeats 4000000 in
theorem chooseB_any (lo' hi' n : Nat) (lo hi : Nat) (sv cv fv : Value) (y : Sy) (nm : ByteArray) (lv : Value) (L : List Int) (a0 a1 : Addr) (w : World) (hv : SyAt w lo hi sv cv fv y) (hB : hi ≤ w.heap.size) (hsy : L ≠ [] → SyOk y) (hat : NamedIn y nm L) (hL : IntsAt w lo' hi' lv L) (hB' : hi' ≤ w.heap.size) (hE : Errs w n a0 a1) (hnw : n ≤ w.heap.size) :
    Calls Tryz.prog 24 #[.iface 55 (.agg #[sv, cv, fv]), lv] w fun e w' => e = .returned (.tuple #[.int .i64 (pickI (ltB y) L), errOf a0 a1 (pickW (ltB y) L)]) ∧ Below w.heap.size w w' := by
  obtain ⟨K, kap, rfl, hlk, hmk, hk1⟩ := hL.form
  unfold maxLen at hmk
  have hmeth : ∀ u : World, (Go.method 302 55 (.agg #[sv, cv, fv]) "loop.example/overloads/impl.isBefore").run Tryz.prog u = .ok (120, (.agg #[sv, cv, fv])) u := fun u => by kernel_rfl
  have Hk := Lib.hid hk1
  have HE := Lib.hid hE
  have g0 := hE.g0
  have Hv := Lib.hid hv
  have Hsy0 := Lib.hid hsy
  have Hat := Lib.hid hat
  clear hv hsy hat
  clear hk1 hL hE
  by_cases h0 : 0 < L.length
  case neg =>
    have hL0 : L = [] := by
      cases L with
      | nil => rfl
      | cons x l => simp at h0
    have hp := Lib.hid (show pickI (ltB y) L = -1 ∧ errOf a0 a1 (pickW (ltB y) L) = .iface 165 (.pointer (some a0)) by rw [hL0]; exact ⟨rfl, rfl⟩)
    clear hL0
    go_enter Tryz.func24, Tryz.ntmps24
    go_wp2
    go_step3
    go_wp2_with fail
    go_quiet (fail)
    go_wp2
    try rw [Exit.noGoto_ret]
    refine bodyPost_ret (v := .tuple #[.int .i64 (-1), .iface 165 (.pointer (some a0))]) (by simp [results, Tryz.results24, go_sem]) rfl ?_
    exact ⟨by rw [hp.out.1, hp.out.2], below_drewN (Below.refl _ _) _⟩
  have hl0 : ((L.length : Int) == 0) = false := by rw [beq_eq_false_iff_ne]; omega
  clear g0
  have Hsy := Lib.hid (Hsy0.out fun e => by rw [e] at h0; simp at h0)
  go_enter Tryz.func24, Tryz.ntmps24
  go_wp2
  go_step3
  go_wp2
  go_step3
  go_wp2
  go_loopg [16] L.length (fun gk i wx => ∃ j : Nat, j + gk = L.length ∧ i = .int .i64 j ∧ Hid (Below w.heap.size w wx) ∧ Hid (∀ m, m < j → ∀ (hm : m < L.length), chiefB (ltB y) L L[m] = false))
  case atStart => exact ⟨0, by omega, rfl, Below.refl _ _, fun m h => absurd h (by omega)⟩
  case round =>
    obtain ⟨j, hjg, rfl, hbx, hno⟩ := hrel
    obtain ⟨wx, rfl⟩ : ∃ u, u = wr := ⟨_, rfl⟩
    have hsx := hbx.out.size
    cases gk with
    | zero =>
      obtain rfl : j = L.length := by omega
      have hp := Lib.hid (show pickI (ltB y) L = -1 ∧ errOf a0 a1 (pickW (ltB y) L) = .iface 165 (.pointer (some a1)) by
        obtain ⟨e1, e2⟩ := pick_many (lt := ltB y) (L := L) (fun e => by rw [e] at h0; simp at h0) fun m hm => hno.out m hm hm
        rw [e2]
        exact ⟨e1, rfl⟩)
      have g1 := (HE.out.below hbx.out hnw).g1
      go_wp2_with fail
      go_quiet (fail)
      go_wp2
      try rw [Exit.noGoto_ret]
      refine bodyPost_ret (v := .tuple #[.int .i64 (-1), .iface 165 (.pointer (some a1))]) (by simp [results, Tryz.results24, go_sem]) rfl ?_
      exact ⟨by rw [hp.out.1, hp.out.2], below_drewN hbx.out _⟩
    | succ g2 =>
      have hlt : j < L.length := by omega
      have Hbix := Lib.hid (Hk.out.below hbx.out hB')
      obtain ⟨ij, ej, hij1, hij2⟩ := Hat.out j hlt
      obtain ⟨b8, off8, rfl, _, _, c8, i8⟩ := Hbix.out.at_ hlt
      have Hmj := Lib.hid (show (ij : Int) ∈ L by rw [← ej]; exact List.getElem_mem hlt)
      rw [ej] at c8 i8
      have Ej := Lib.hid ej
      have I8 := Lib.hid i8
      have Hij2 := Lib.hid hij2
      clear ej i8 hij2
      go_wp2
      go_loopg [22] L.length (fun gi i wy => ∃ m : Nat, m + gi = L.length ∧ i = .int .i64 m ∧ Hid (Below wx.heap.size wx wy) ∧ Hid (∀ q, ∀ (hq : q < L.length), q < m → L[q] ≠ (ij : Int) → ltB y (ij : Int) L[q] = true))
      case atStart => exact ⟨0, by omega, rfl, Below.refl _ _, fun q _ h => absurd h (by omega)⟩
      case round =>
        obtain ⟨m, hmg, rfl, hby, hall⟩ := hrel
        obtain ⟨wy, rfl⟩ : ∃ u, u = wr := ⟨_, rfl⟩
        have Hbxy := Lib.hid (hbx.out.trans (hby.out.mono hsx))
        have hsy := hby.out.size
        cases gk with
        | zero =>
          obtain rfl : m = L.length := by omega
          have hp := Lib.hid (show pickI (ltB y) L = (ij : Int) ∧ errOf a0 a1 (pickW (ltB y) L) = .nilIface by
            obtain ⟨e1, e2⟩ := pick_at (lt := ltB y) hlt hno.out (by rw [Ej.out]; exact chiefB_yes fun q hq hne => hall.out q hq hq hne)
            rw [e2, e1, Ej.out]
            exact ⟨rfl, rfl⟩)
          go_wp2
          try rw [Exit.noGoto_ret]
          refine bodyPost_ret (v := .tuple #[.int .i64 (ij : Nat), .nilIface]) (by simp [results, Tryz.results24, go_sem]) rfl ?_
          exact ⟨by rw [hp.out.1, hp.out.2], Hbxy.out⟩
        | succ g3 =>
          have hmt : m < L.length := by omega
          have Hbiy := Lib.hid (Hk.out.below Hbxy.out hB')
          obtain ⟨im, em, him1, him2⟩ := Hat.out m hmt
          obtain ⟨b9, off9, e9, _, _, c9, i9⟩ := Hbiy.out.at_ hmt
          injection e9 with e9
          injection e9 with e91 e92
          subst e91
          subst e92
          have Hmm := Lib.hid (show (im : Int) ∈ L by rw [← em]; exact List.getElem_mem hmt)
          rw [em] at c9 i9
          have Em := Lib.hid em
          have I9 := Lib.hid i9
          have Him2 := Lib.hid him2
          clear em i9 him2
          by_cases hne : im = ij
          · have htest : ((im : Int) != (ij : Int)) = false := by rw [hne]; simp
            have hall2 : Hid (∀ q, ∀ (hq : q < L.length), q < m + 1 → L[q] ≠ (ij : Int) → ltB y (ij : Int) L[q] = true) := fun q hq h h2 => by
              by_cases e : q = m
              · subst e; exact absurd (by rw [Em.out, hne]) h2
              · exact hall.out q hq (by omega) h2
            clear hne
            go_wp2
            go_roundg g3
            case measure => omega
            case rel => exact ⟨m + 1, by omega, by go_num, hby, hall2⟩
          · have htest : ((im : Int) != (ij : Int)) = true := by simp; omega
            have hne2 : L[m] ≠ (ij : Int) := by rw [Em.out]; omega
            go_wp2_with fail
            refine (belowRule_any lo hi _ _ _ y ij im _ (Hv.out.below Hbxy.out hB) (by omega) Hsy.out hij1 him1 (Hij2.out.trans Him2.out.symm)).mono ?_
            rintro e w4 ⟨rfl, hb4⟩
            have Hb4 := Lib.hid hb4
            have hs4 := hb4.size
            clear hb4
            by_cases hc : ltB y (ij : Int) (im : Int) = true
            · have hall2 : Hid (∀ q, ∀ (hq : q < L.length), q < m + 1 → L[q] ≠ (ij : Int) → ltB y (ij : Int) L[q] = true) := fun q hq h h2 => by
                by_cases e : q = m
                · subst e; rw [Em.out]; exact hc
                · exact hall.out q hq (by omega) h2
              have hby4 := Lib.hid (hby.out.trans (Hb4.out.mono hsy))
              rw [hc]
              clear hc hne hne2
              go_wp2
              go_roundg g3
              case measure => omega
              case rel => exact ⟨m + 1, by omega, by go_num, hby4, hall2⟩
            · have hcf : ltB y (ij : Int) (im : Int) = false := by simpa using hc
              have hno2 : Hid (∀ q, q < j + 1 → ∀ (hq : q < L.length), chiefB (ltB y) L L[q] = false) := fun q h1 hq => by
                by_cases e : q = j
                · subst e; rw [Ej.out]; exact chiefB_no hmt hne2 (by rw [Em.out]; exact hcf)
                · exact hno.out q (by omega) hq
              have hb5 := Lib.hid (Hbxy.out.trans (Hb4.out.mono (by omega)))
              rw [hcf]
              clear hc hcf hne hne2
              go_wp2
              go_roundg g2
              case measure => omega
              case rel => exact ⟨j + 1, by omega, by go_num, hb5, hno2⟩

set_option maxRecDepth 100000 in
set_option maxHeartbeats 4000000 in
theorem chooseC_any (lo' hi' n : Nat) (b nn : Nat) (D : DataW Unit) (y : Sy) (ks : List Int) (nm : ByteArray) (lv : Value) (L : List Int) (a0 a1 : Addr) (w : World) (hO : w.ownsMap Tryz.prog 3 (plainElem Tryz.prog 3) b nn D) (hC : Cst y ks L D) (hat : NamedIn y nm L) (hL : IntsAt w lo' hi' lv L) (hB' : hi' ≤ w.heap.size) (hE : Errs w n a0 a1) (hnw : n ≤ w.heap.size) :
    Calls Tryz.prog 24 #[.iface 63 (.agg #[.map (some b)]), lv] w fun e w' => e = .returned (.tuple #[.int .i64 (pickI (ltC y ks) L), errOf a0 a1 (pickW (ltC y ks) L)]) ∧ Below w.heap.size w w' := by
  obtain ⟨K, kap, rfl, hlk, hmk, hk1⟩ := hL.form
  unfold maxLen at hmk
  have hmeth : ∀ u : World, (Go.method 302 63 (.agg #[.map (some b)]) "loop.example/overloads/impl.isBefore").run Tryz.prog u = .ok (122, (.agg #[.map (some b)])) u := fun u => by kernel_rfl
  have Hk := Lib.hid hk1
  have HE := Lib.hid hE
  have g0 := hE.g0
  have HO := Lib.hid hO
  have HC := Lib.hid hC
  have Hat := Lib.hid hat
  clear hO hC hat
  clear hk1 hL hE
  by_cases h0 : 0 < L.length
  case neg =>
    have hL0 : L = [] := by
      cases L with
      | nil => rfl
      | cons x l => simp at h0
    have hp := Lib.hid (show pickI (ltC y ks) L = -1 ∧ errOf a0 a1 (pickW (ltC y ks) L) = .iface 165 (.pointer (some a0)) by rw [hL0]; exact ⟨rfl, rfl⟩)
    clear hL0
    go_enter Tryz.func24, Tryz.ntmps24
    go_wp2
    go_step3
    go_wp2_with fail
    go_quiet (fail)
    go_wp2
    try rw [Exit.noGoto_ret]
    refine bodyPost_ret (v := .tuple #[.int .i64 (-1), .iface 165 (.pointer (some a0))]) (by simp [results, Tryz.results24, go_sem]) rfl ?_
    exact ⟨by rw [hp.out.1, hp.out.2], below_drewN (Below.refl _ _) _⟩
  have hl0 : ((L.length : Int) == 0) = false := by rw [beq_eq_false_iff_ne]; omega
  clear g0
  go_enter Tryz.func24, Tryz.ntmps24
  go_wp2
  go_step3
  go_wp2
  go_step3
  go_wp2
  go_loopg [16] L.length (fun gk i wx => ∃ j : Nat, j + gk = L.length ∧ i = .int .i64 j ∧ Hid (Below w.heap.size w wx) ∧ Hid (∀ m, m < j → ∀ (hm : m < L.length), chiefB (ltC y ks) L L[m] = false))
  case atStart => exact ⟨0, by omega, rfl, Below.refl _ _, fun m h => absurd h (by omega)⟩
  case round =>
    obtain ⟨j, hjg, rfl, hbx, hno⟩ := hrel
    obtain ⟨wx, rfl⟩ : ∃ u, u = wr := ⟨_, rfl⟩
    have hsx := hbx.out.size
    cases gk with
    | zero =>
      obtain rfl : j = L.length := by omega
      have hp := Lib.hid (show pickI (ltC y ks) L = -1 ∧ errOf a0 a1 (pickW (ltC y ks) L) = .iface 165 (.pointer (some a1)) by
        obtain ⟨e1, e2⟩ := pick_many (lt := ltC y ks) (L := L) (fun e => by rw [e] at h0; simp at h0) fun m hm => hno.out m hm hm
        rw [e2]
        exact ⟨e1, rfl⟩)
      have g1 := (HE.out.below hbx.out hnw).g1
      go_wp2_with fail
      go_quiet (fail)
      go_wp2
      try rw [Exit.noGoto_ret]
      refine bodyPost_ret (v := .tuple #[.int .i64 (-1), .iface 165 (.pointer (some a1))]) (by simp [results, Tryz.results24, go_sem]) rfl ?_
      exact ⟨by rw [hp.out.1, hp.out.2], below_drewN hbx.out _⟩
    | succ g2 =>
      have hlt : j < L.length := by omega
      have Hbix := Lib.hid (Hk.out.below hbx.out hB')
      obtain ⟨ij, ej, hij1, hij2⟩ := Hat.out j hlt
      obtain ⟨b8, off8, rfl, _, _, c8, i8⟩ := Hbix.out.at_ hlt
      have Hmj := Lib.hid (show (ij : Int) ∈ L by rw [← ej]; exact List.getElem_mem hlt)
      rw [ej] at c8 i8
      have Ej := Lib.hid ej
      have I8 := Lib.hid i8
      have Hij2 := Lib.hid hij2
      clear ej i8 hij2
      go_wp2
      go_loopg [22] L.length (fun gi i wy => ∃ m : Nat, m + gi = L.length ∧ i = .int .i64 m ∧ Hid (Below wx.heap.size wx wy) ∧ Hid (∀ q, ∀ (hq : q < L.length), q < m → L[q] ≠ (ij : Int) → ltC y ks (ij : Int) L[q] = true))
      case atStart => exact ⟨0, by omega, rfl, Below.refl _ _, fun q _ h => absurd h (by omega)⟩
      case round =>
        obtain ⟨m, hmg, rfl, hby, hall⟩ := hrel
        obtain ⟨wy, rfl⟩ : ∃ u, u = wr := ⟨_, rfl⟩
        have Hbxy := Lib.hid (hbx.out.trans (hby.out.mono hsx))
        have hsy := hby.out.size
        cases gk with
        | zero =>
          obtain rfl : m = L.length := by omega
          have hp := Lib.hid (show pickI (ltC y ks) L = (ij : Int) ∧ errOf a0 a1 (pickW (ltC y ks) L) = .nilIface by
            obtain ⟨e1, e2⟩ := pick_at (lt := ltC y ks) hlt hno.out (by rw [Ej.out]; exact chiefB_yes fun q hq hne => hall.out q hq hq hne)
            rw [e2, e1, Ej.out]
            exact ⟨rfl, rfl⟩)
          go_wp2
          try rw [Exit.noGoto_ret]
          refine bodyPost_ret (v := .tuple #[.int .i64 (ij : Nat), .nilIface]) (by simp [results, Tryz.results24, go_sem]) rfl ?_
          exact ⟨by rw [hp.out.1, hp.out.2], Hbxy.out⟩
        | succ g3 =>
          have hmt : m < L.length := by omega
          have Hbiy := Lib.hid (Hk.out.below Hbxy.out hB')
          obtain ⟨im, em, him1, him2⟩ := Hat.out m hmt
          obtain ⟨b9, off9, e9, _, _, c9, i9⟩ := Hbiy.out.at_ hmt
          injection e9 with e9
          injection e9 with e91 e92
          subst e91
          subst e92
          have Hmm := Lib.hid (show (im : Int) ∈ L by rw [← em]; exact List.getElem_mem hmt)
          rw [em] at c9 i9
          have Em := Lib.hid em
          have I9 := Lib.hid i9
          have Him2 := Lib.hid him2
          clear em i9 him2
          by_cases hne : im = ij
          · have htest : ((im : Int) != (ij : Int)) = false := by rw [hne]; simp
            have hall2 : Hid (∀ q, ∀ (hq : q < L.length), q < m + 1 → L[q] ≠ (ij : Int) → ltC y ks (ij : Int) L[q] = true) := fun q hq h h2 => by
              by_cases e : q = m
              · subst e; exact absurd (by rw [Em.out, hne]) h2
              · exact hall.out q hq (by omega) h2
            clear hne
            go_wp2
            go_roundg g3
            case measure => omega
            case rel => exact ⟨m + 1, by omega, by go_num, hby, hall2⟩
          · have htest : ((im : Int) != (ij : Int)) = true := by simp; omega
            have hne2 : L[m] ≠ (ij : Int) := by rw [Em.out]; omega
            go_wp2_with fail
            refine (costRule_any b nn y ks L D ij im _ (HO.out.kept (row := none) ⟨Hbxy.out.os, Hbxy.out.tape, Hbxy.out.output, Hbxy.out.size, fun k hk _ => Hbxy.out.block k hk⟩ (by simp)) HC.out Hmj.out Hmm.out I8.out I9.out).mono ?_
            rintro e w4 ⟨rfl, hb4⟩
            have Hb4 := Lib.hid hb4
            have hs4 := hb4.size
            clear hb4
            by_cases hc : ltC y ks (ij : Int) (im : Int) = true
            · have hall2 : Hid (∀ q, ∀ (hq : q < L.length), q < m + 1 → L[q] ≠ (ij : Int) → ltC y ks (ij : Int) L[q] = true) := fun q hq h h2 => by
                by_cases e : q = m
                · subst e; rw [Em.out]; exact hc
                · exact hall.out q hq (by omega) h2
              have hby4 := Lib.hid (hby.out.trans (Hb4.out.mono hsy))
              rw [hc]
              clear hc hne hne2
              go_wp2
              go_roundg g3
              case measure => omega
              case rel => exact ⟨m + 1, by omega, by go_num, hby4, hall2⟩
            · have hcf : ltC y ks (ij : Int) (im : Int) = false := by simpa using hc
              have hno2 : Hid (∀ q, q < j + 1 → ∀ (hq : q < L.length), chiefB (ltC y ks) L L[q] = false) := fun q h1 hq => by
                by_cases e : q = j
                · subst e; rw [Ej.out]; exact chiefB_no hmt hne2 (by rw [Em.out]; exact hcf)
                · exact hno.out q (by omega) hq
              have hb5 := Lib.hid (Hbxy.out.trans (Hb4.out.mono (by omega)))
              rw [hcf]
              clear hc hcf hne hne2
              go_wp2
              go_roundg g2
              case measure => omega
              case rel => exact ⟨j + 1, by omega, by go_num, hb5, hno2⟩
end Go.Proofs.YtbblhjdcpmahkaaGreatDoor

namespace Go.Proofs.YtbblhjdcpmahkaaGreatDoor
open Go.RowKit Go.Maps

theorem pickW_words (lt : Int → Int → Bool) (L : List Int) : pickW lt L = wOne ∨ pickW lt L = wNone ∨ pickW lt L = wMany := by
  unfold pickW
  split
  · exact .inl rfl
  · split
    · exact .inr (.inl rfl)
    · exact .inr (.inr rfl)
theorem applicV_sy {y : Sy} {nm : ByteArray} {ks : List Int} (h : applicV y nm ks ≠ []) : SyOk y := by
  cases e : applicV y nm ks with
  | nil => exact absurd e h
  | cons z l => exact (applicV_mem.1 (show z ∈ applicV y nm ks by rw [e]; simp)).1

set_option maxRecDepth 100000 in
set_option maxHeartbeats 4000000 in
theorem implResolve_any (lo hi lo' hi' n : Nat) (sv cv fv kv : Value) (y : Sy) (nm : ByteArray) (ks : List Int) (a0 a1 : Addr) (w : World) (hv : SyAt w lo hi sv cv fv y) (hk : IntsAt w lo' hi' kv ks) (hB : hi ≤ w.heap.size) (hB' : hi' ≤ w.heap.size) (hbk : y.bulk ≤ 1048576) (hnm : nm.size ≤ maxLen) (hE : Errs w n a0 a1) (hnw : n ≤ w.heap.size) :
    Calls Tryz.prog 10 #[.agg #[sv, cv, fv], .string nm, kv] w fun e w' => e = .returned (.tuple #[.int .i64 (pickI (ltB y) (applicV y nm ks)), .string (pickW (ltB y) (applicV y nm ks))]) ∧ Below w.heap.size w w' := by
  obtain ⟨A, cap, rfl, hl1, hm1, hi1⟩ := hv.1.1.form
  obtain ⟨B, bap, rfl, hl2, hm2, hc1⟩ := hv.1.2.form
  obtain ⟨F, fap, rfl, hl3, hm3, hf1⟩ := hv.2.form
  obtain ⟨K, kap, rfl, hlk, hmk, hk1⟩ := hk.form
  have h3 : Below w.heap.size w (w.alloc (.cells #[.slice A y.ty.sizes.length cap, .slice B y.ty.cos.length bap, .slice F y.fs.length fap] 37)) := by go_grown
  have Hv := Lib.hid hv
  have Hk := Lib.hid hk1
  have H3 := Lib.hid h3
  have HE := Lib.hid (hE.below h3 hnw)
  have Hnm := Lib.hid hnm
  have hLwf := applicV_wf y nm ks hbk
  have HLwf := Lib.hid hLwf
  have Hat := Lib.hid (namedIn_applic y nm ks)
  have Hsy := Lib.hid (applicV_sy (y := y) (nm := nm) (ks := ks))
  have Hww := Lib.hid (pickW_words (ltB y) (applicV y nm ks))
  obtain ⟨W0, hW0⟩ : ∃ W0, W0 = w.alloc (.cells #[.slice A y.ty.sizes.length cap, .slice B y.ty.cos.length bap, .slice F y.fs.length fap] 37) := ⟨_, rfl⟩
  have hrow : Row W0 w.heap.size 37 [.slice A y.ty.sizes.length cap, .slice B y.ty.cos.length bap, .slice F y.fs.length fap] := by rw [hW0]; exact Row.new _ _ _
  have HE0 : Hid (Errs W0 n a0 a1) := by rw [hW0]; exact HE.out
  have Hb0 : Hid (Below w.heap.size w W0) := by rw [hW0]; exact H3.out
  have hs0 : w.heap.size < W0.heap.size := hrow.lt
  have q0 := hrow.cell 0
  have q1 := hrow.cell 1
  have q2 := hrow.cell 2
  simp only [List.getElem?_cons_zero, List.getElem?_cons_succ] at q0 q1 q2
  have K1 : Hid (W0.drew.cell? ⟨w.heap.size, 0, none⟩ = some (.slice A y.ty.sizes.length cap) ∧ W0.drew.cell? ⟨w.heap.size, 1, none⟩ = some (.slice B y.ty.cos.length bap) ∧ W0.drew.cell? ⟨w.heap.size, 2, none⟩ = some (.slice F y.fs.length fap)) := ⟨q0, q1, q2⟩
  have HnW := Lib.hid (show n ≤ W0.heap.size by omega)
  have hB1 : hi ≤ W0.heap.size := by omega
  have hB2 : hi' ≤ W0.heap.size := by omega
  clear hi1 hc1 hf1 hk1 hk hv h3 hnm hE hLwf HE hrow q0 q1 q2
  go_enter Tryz.func10, Tryz.ntmps10
  go_wp2_with fail
  rw [← hW0]
  clear hW0
  go_region_held3 (fun w' => w'.cell? ⟨w.heap.size, 0, none⟩ = some (.slice A y.ty.sizes.length cap) ∧ w'.cell? ⟨w.heap.size, 1, none⟩ = some (.slice B y.ty.cos.length bap) ∧ w'.cell? ⟨w.heap.size, 2, none⟩ = some (.slice F y.fs.length fap))
    (first | exact K1.out | exact K2.out | exact K3.out)
    (first
      | (go_at_call 25
         refine (implApplic_any lo hi lo' hi' _ _ _ _ y nm ks W0.drew (Hv.out.below Hb0.out.drew hB) (Hk.out.below Hb0.out.drew hB') hB1 hB2 hbk Hnm.out).mono ?_
         rintro e w8 ⟨v, rfl, hb8, hown8⟩
         have K2 : Hid (w8.cell? ⟨w.heap.size, 0, none⟩ = some (.slice A y.ty.sizes.length cap) ∧ w8.cell? ⟨w.heap.size, 1, none⟩ = some (.slice B y.ty.cos.length bap) ∧ w8.cell? ⟨w.heap.size, 2, none⟩ = some (.slice F y.fs.length fap)) := ⟨(hb8.cell (p := ⟨w.heap.size, 0, none⟩) hs0).trans K1.out.1, (hb8.cell (p := ⟨w.heap.size, 1, none⟩) hs0).trans K1.out.2.1, (hb8.cell (p := ⟨w.heap.size, 2, none⟩) hs0).trans K1.out.2.2⟩
         have Hi8 := Lib.hid (ownsRow.intsAt (lo := W0.heap.size) (hi := w8.heap.size) hown8 HLwf.out (Nat.le_refl _) (Nat.le_refl _))
         have Hb8 := Lib.hid (Hb0.out.drew.trans (hb8.mono (B' := w.heap.size) (Nat.le_of_lt hs0)))
         have HE8 := Lib.hid (HE0.out.below (((Below.refl W0.heap.size W0).drew).trans hb8) HnW.out)
         have hs8 : W0.heap.size ≤ w8.heap.size := hb8.size
         obtain ⟨OA, OC, rfl⟩ := owns_form hown8
         clear hb8 hown8)
      | (go_at_call 24
         refine (chooseB_any W0.heap.size w8.heap.size n lo hi _ _ _ y nm _ _ a0 a1 w8 (Hv.out.below Hb8.out hB) (Nat.le_trans hB1 hs8) Hsy.out Hat.out Hi8.out (Nat.le_refl _) HE8.out (Nat.le_trans HnW.out hs8)).mono ?_
         rintro e w9 ⟨rfl, hb9⟩
         have hs08 : w.heap.size < w8.heap.size := Nat.lt_of_lt_of_le hs0 hs8
         have K3 : Hid (w9.cell? ⟨w.heap.size, 0, none⟩ = some (.slice A y.ty.sizes.length cap) ∧ w9.cell? ⟨w.heap.size, 1, none⟩ = some (.slice B y.ty.cos.length bap) ∧ w9.cell? ⟨w.heap.size, 2, none⟩ = some (.slice F y.fs.length fap)) := ⟨(hb9.cell (p := ⟨w.heap.size, 0, none⟩) hs08).trans K2.out.1, (hb9.cell (p := ⟨w.heap.size, 1, none⟩) hs08).trans K2.out.2.1, (hb9.cell (p := ⟨w.heap.size, 2, none⟩) hs08).trans K2.out.2.2⟩
         have Hb9 := Lib.hid (Hb8.out.trans (hb9.mono (Nat.le_of_lt hs08)))
         have HE9 := Lib.hid (HE8.out.below hb9 (Nat.le_trans HnW.out hs8))
         clear hb9)
      | (go_at_call 23
         refine (withWord_any _ _ Hww.out n a0 a1 _ HE9.out).mono ?_
         rintro e w' ⟨rfl, rfl⟩))
  go_wp2
  refine bodyPost_ret (v := .tuple #[.int .i64 (pickI (ltB y) (applicV y nm ks)), .string (pickW (ltB y) (applicV y nm ks))]) (by simp [results, Tryz.results10, go_sem]) rfl ?_
  exact ⟨rfl, Hb9.out⟩

set_option maxRecDepth 100000 in
set_option maxHeartbeats 4000000 in
theorem implByCost_any (lo hi lo' hi' n : Nat) (sv cv fv kv : Value) (y : Sy) (nm : ByteArray) (ks : List Int) (a0 a1 : Addr) (w : World) (hv : SyAt w lo hi sv cv fv y) (hk : IntsAt w lo' hi' kv ks) (hB : hi ≤ w.heap.size) (hB' : hi' ≤ w.heap.size) (hbk : y.bulk ≤ 1048576) (hnm : nm.size ≤ maxLen) (hE : Errs w n a0 a1) (hnw : n ≤ w.heap.size) :
    Calls Tryz.prog 14 #[.agg #[sv, cv, fv], .string nm, kv] w fun e w' => e = .returned (.tuple #[.int .i64 (pickI (ltC y ks) (applicV y nm ks)), .string (pickW (ltC y ks) (applicV y nm ks))]) ∧ Below w.heap.size w w' := by
  obtain ⟨A, cap, rfl, hl1, hm1, hi1⟩ := hv.1.1.form
  obtain ⟨B, bap, rfl, hl2, hm2, hc1⟩ := hv.1.2.form
  obtain ⟨F, fap, rfl, hl3, hm3, hf1⟩ := hv.2.form
  obtain ⟨K, kap, rfl, hlk, hmk, hk1⟩ := hk.form
  have h3 : Below w.heap.size w (w.alloc (.cells #[.slice A y.ty.sizes.length cap, .slice B y.ty.cos.length bap, .slice F y.fs.length fap] 37)) := by go_grown
  have Hv := Lib.hid hv
  have Hk := Lib.hid hk1
  have H3 := Lib.hid h3
  have HE := Lib.hid hE
  have Hnm := Lib.hid hnm
  have HLwf := Lib.hid (applicV_wf y nm ks hbk)
  have Hat := Lib.hid (namedIn_applic y nm ks)
  have Hww := Lib.hid (pickW_words (ltC y ks) (applicV y nm ks))
  clear hi1 hc1 hf1 hk1 hk hv h3 hnm hE
  go_enter Tryz.func14, Tryz.ntmps14
  go_wp2_with fail
  refine (costsOfCall_any lo hi lo' hi' _ _ _ _ y nm ks _ (Hv.out.below H3.out hB) (Hk.out.below H3.out hB') (by simp; omega) (by simp; omega) hbk Hnm.out).mono ?_
  rintro e w1 ⟨b, nn, D, rfl, hlb, hnn, hb1, hC, hO⟩
  have Hb1 := Lib.hid (H3.out.trans (hb1.mono (by simp)))
  have HC := Lib.hid hC
  have HO := Lib.hid hO
  have hs1 : w.heap.size ≤ w1.heap.size := by have := hb1.size; simp at this; omega
  clear hb1 hC hO
  go_wp2_with fail
  refine (indicesIn_any b nn y ks _ D _ HO.out HC.out (applicV_asc y nm ks) hnn).mono ?_
  rintro e w2 ⟨v, rfl, hb2, hown⟩
  have Hb2 := Lib.hid (Hb1.out.trans (hb2.mono hs1))
  have HO2 := Lib.hid (HO.out.kept (row := none) ⟨hb2.os, hb2.tape, hb2.output, hb2.size, fun k hk _ => hb2.block k hk⟩ (by simp))
  have Hi2 := Lib.hid (ownsRow.intsAt (lo := w1.heap.size) (hi := w2.heap.size) hown HLwf.out (Nat.le_refl _) (Nat.le_refl _))
  have hs2 : w1.heap.size ≤ w2.heap.size := hb2.size
  obtain ⟨OA, OC, rfl⟩ := owns_form hown
  clear hb2 hown
  go_wp2_with fail
  refine (chooseC_any w1.heap.size w2.heap.size n b nn D y ks nm _ _ a0 a1 w2 HO2.out HC.out Hat.out Hi2.out (Nat.le_refl _) (HE.out.below Hb2.out hnw) (by omega)).mono ?_
  rintro e w3 ⟨rfl, hb3⟩
  have Hb3 := Lib.hid (Hb2.out.trans (hb3.mono (by omega)))
  clear hb3
  go_wp2_with fail
  refine (withWord_any _ _ Hww.out n a0 a1 _ (HE.out.below Hb3.out hnw)).mono ?_
  rintro e w' ⟨rfl, rfl⟩
  go_wp2
  refine bodyPost_ret (v := .tuple #[.int .i64 (pickI (ltC y ks) (applicV y nm ks)), .string (pickW (ltC y ks) (applicV y nm ks))]) (by simp [results, Tryz.results14, go_sem]) rfl ?_
  exact ⟨rfl, Hb3.out⟩

/-- Do both rules choose the same? -/
noncomputable def agreeB (y : Sy) (nm : ByteArray) (ks : List Int) : Bool := decide (pickI (ltB y) (applicV y nm ks) = pickI (ltC y ks) (applicV y nm ks)) && decide (pickW (ltB y) (applicV y nm ks) = pickW (ltC y ks) (applicV y nm ks))

set_option maxRecDepth 100000 in
set_option maxHeartbeats 4000000 in
theorem implAgree_any (lo hi lo' hi' n : Nat) (sv cv fv kv : Value) (y : Sy) (nm : ByteArray) (ks : List Int) (a0 a1 : Addr) (w : World) (hv : SyAt w lo hi sv cv fv y) (hk : IntsAt w lo' hi' kv ks) (hB : hi ≤ w.heap.size) (hB' : hi' ≤ w.heap.size) (hbk : y.bulk ≤ 1048576) (hnm : nm.size ≤ maxLen) (hE : Errs w n a0 a1) (hnw : n ≤ w.heap.size) :
    Calls Tryz.prog 16 #[.agg #[sv, cv, fv], .string nm, kv] w fun e w' => e = .returned (.bool (agreeB y nm ks)) ∧ Below w.heap.size w w' := by
  obtain ⟨A, cap, rfl, hl1, hm1, hi1⟩ := hv.1.1.form
  obtain ⟨B, bap, rfl, hl2, hm2, hc1⟩ := hv.1.2.form
  obtain ⟨F, fap, rfl, hl3, hm3, hf1⟩ := hv.2.form
  obtain ⟨K, kap, rfl, hlk, hmk, hk1⟩ := hk.form
  have h3 : Below w.heap.size w (w.alloc (.cells #[.slice A y.ty.sizes.length cap, .slice B y.ty.cos.length bap, .slice F y.fs.length fap] 37)) := by go_grown
  have Hv := Lib.hid hv
  have Hk := Lib.hid hk1
  have H3 := Lib.hid h3
  have HE := Lib.hid hE
  have Hnm := Lib.hid hnm
  clear hnm hE
  have H1 := Lib.hid (Below.refl (w.heap.size + 1) (w.alloc (.cells #[.slice A y.ty.sizes.length cap, .slice B y.ty.cos.length bap, .slice F y.fs.length fap] 37)))
  have Hag : Hid (agreeB y nm ks = (decide (pickI (ltB y) (applicV y nm ks) = pickI (ltC y ks) (applicV y nm ks)) && decide (pickW (ltB y) (applicV y nm ks) = pickW (ltC y ks) (applicV y nm ks)))) := rfl
  clear hi1 hc1 hf1 hk1 hk hv h3
  go_enter Tryz.func16, Tryz.ntmps16
  go_wp2_with fail
  refine (implResolve_any lo hi lo' hi' n _ _ _ _ y nm ks a0 a1 _ (Hv.out.below H3.out hB) (Hk.out.below H3.out hB') (by simp; omega) (by simp; omega) hbk Hnm.out (HE.out.below H3.out hnw) (by simp; omega)).mono ?_
  rintro e w1 ⟨rfl, hb1⟩
  have H2 := Lib.hid (H1.out.trans (hb1.mono (by simp)))
  obtain ⟨q0, q1, q2, hl, hB1⟩ := box3 H2.out
  have HB1 := Lib.hid hB1
  clear hb1 hB1 H1
  go_wp2_with fail
  refine (implByCost_any lo hi lo' hi' n _ _ _ _ y nm ks a0 a1 _ (Hv.out.below HB1.out hB) (Hk.out.below HB1.out hB') (by omega) (by omega) hbk Hnm.out (HE.out.below HB1.out hnw) (by omega)).mono ?_
  rintro e w2 ⟨rfl, hb2⟩
  have Hb2 := Lib.hid (HB1.out.trans (hb2.mono (by omega)))
  clear hb2 q0 q1 q2
  generalize pickI (ltB y) (applicV y nm ks) = i at *
  generalize pickI (ltC y ks) (applicV y nm ks) = k at *
  generalize pickW (ltB y) (applicV y nm ks) = s at *
  generalize pickW (ltC y ks) (applicV y nm ks) = u at *
  by_cases h1 : i = k
  · have ht : (i == k) = true := by simpa using h1
    by_cases h2 : s = u
    · have ht2 : s.toList = u.toList := by rw [h2]
      have hfin : Hid (agreeB y nm ks = true) := by show _ = _; rw [Hag.out, h1, h2]; simp
      clear h1 h2
      go_wp2
      go_ret
      exact ⟨ret_bool hfin.out.symm, Hb2.out⟩
    · have ht2 : ¬ s.toList = u.toList := fun h => h2 (bytes_eq h)
      have hfin : Hid (agreeB y nm ks = false) := by show _ = _; rw [Hag.out]; simp [h2]
      clear h1 h2
      go_wp2
      go_ret
      exact ⟨ret_bool (by rw [hfin.out, beq_eq_false_iff_ne]; exact ht2), Hb2.out⟩
  · have ht : (i == k) = false := by simpa using h1
    have hfin : Hid (agreeB y nm ks = false) := by show _ = _; rw [Hag.out]; simp [h1]
    clear h1
    go_wp2
    go_ret
    exact ⟨ret_bool hfin.out.symm, Hb2.out⟩

set_option maxRecDepth 100000 in
set_option maxHeartbeats 4000000 in
theorem specAgree_any (lo hi lo' hi' : Nat) (sv cv fv kv : Value) (y : Sy) (nm : ByteArray) (ks : List Int) (w : World) (hv : SyAt w lo hi sv cv fv y) (hk : IntsAt w lo' hi' kv ks) (hB : hi ≤ w.heap.size) (hB' : hi' ≤ w.heap.size) (hbk : y.bulk ≤ 1048576) :
    Calls Tryz.prog 15 #[.agg #[sv, cv, fv], .string nm, kv] w fun e w' => e = .returned (.bool (agreeB y nm ks)) ∧ Below w.heap.size w w' := by
  obtain ⟨A, cap, rfl, hl1, hm1, hi1⟩ := hv.1.1.form
  obtain ⟨B, bap, rfl, hl2, hm2, hc1⟩ := hv.1.2.form
  obtain ⟨F, fap, rfl, hl3, hm3, hf1⟩ := hv.2.form
  obtain ⟨K, kap, rfl, hlk, hmk, hk1⟩ := hk.form
  have h3 : Below w.heap.size w (w.alloc (.cells #[.slice A y.ty.sizes.length cap, .slice B y.ty.cos.length bap, .slice F y.fs.length fap] 37)) := by go_grown
  have Hv := Lib.hid hv
  have Hk := Lib.hid hk1
  have H3 := Lib.hid h3
  have H1 := Lib.hid (Below.refl (w.heap.size + 1) (w.alloc (.cells #[.slice A y.ty.sizes.length cap, .slice B y.ty.cos.length bap, .slice F y.fs.length fap] 37)))
  have Hag : Hid (agreeB y nm ks = (decide (pickI (ltB y) (applicV y nm ks) = pickI (ltC y ks) (applicV y nm ks)) && decide (pickW (ltB y) (applicV y nm ks) = pickW (ltC y ks) (applicV y nm ks)))) := rfl
  clear hi1 hc1 hf1 hk1 hk hv h3
  go_enter Tryz.func15, Tryz.ntmps15
  go_wp2_with fail
  refine (specResolve_any lo hi lo' hi' _ _ _ _ y nm ks _ (Hv.out.below H3.out hB) (Hk.out.below H3.out hB') (by simp; omega) (by simp; omega) hbk).mono ?_
  rintro e w1 ⟨rfl, hb1⟩
  have H2 := Lib.hid (H1.out.trans (hb1.mono (by simp)))
  obtain ⟨q0, q1, q2, hl, hB1⟩ := box3 H2.out
  have HB1 := Lib.hid hB1
  clear hb1 hB1 H1
  go_wp2_with fail
  refine (specByCost_any lo hi lo' hi' _ _ _ _ y nm ks _ (Hv.out.below HB1.out hB) (Hk.out.below HB1.out hB') (by omega) (by omega) hbk).mono ?_
  rintro e w2 ⟨rfl, hb2⟩
  have Hb2 := Lib.hid (HB1.out.trans (hb2.mono (by omega)))
  clear hb2 q0 q1 q2
  generalize pickI (ltB y) (applicV y nm ks) = i at *
  generalize pickI (ltC y ks) (applicV y nm ks) = k at *
  generalize pickW (ltB y) (applicV y nm ks) = s at *
  generalize pickW (ltC y ks) (applicV y nm ks) = u at *
  by_cases h1 : i = k
  · have ht : (i == k) = true := by simpa using h1
    by_cases h2 : s = u
    · have ht2 : s.toList = u.toList := by rw [h2]
      have hfin : Hid (agreeB y nm ks = true) := by show _ = _; rw [Hag.out, h1, h2]; simp
      clear h1 h2
      go_wp2
      go_ret
      exact ⟨ret_bool hfin.out.symm, Hb2.out⟩
    · have ht2 : ¬ s.toList = u.toList := fun h => h2 (bytes_eq h)
      have hfin : Hid (agreeB y nm ks = false) := by show _ = _; rw [Hag.out]; simp [h2]
      clear h1 h2
      go_wp2
      go_ret
      exact ⟨ret_bool (by rw [hfin.out, beq_eq_false_iff_ne]; exact ht2), Hb2.out⟩
  · have ht : (i == k) = false := by simpa using h1
    have hfin : Hid (agreeB y nm ks = false) := by show _ = _; rw [Hag.out]; simp [h1]
    clear h1
    go_wp2
    go_ret
    exact ⟨ret_bool hfin.out.symm, Hb2.out⟩
end Go.Proofs.YtbblhjdcpmahkaaGreatDoor

namespace Go.Proofs.YtbblhjdcpmahkaaGreatDoor
open Go.ChangeShapes Go.WideShapes Go.ChangeAt Go.RowKit
open Go.Extern.Stop Go.Stop Go.Extern

abbrev noneS : ByteArray := { data := #[110, 111, 32, 102, 117, 110, 99, 116, 105, 111, 110, 32, 105, 115, 32, 97, 112, 112, 108, 105, 99, 97, 98, 108, 101] }
abbrev manyS : ByteArray := { data := #[110, 111, 32, 102, 117, 110, 99, 116, 105, 111, 110, 32, 105, 115, 32, 98, 101, 102, 111, 114, 101, 32, 97, 108, 108, 32, 111, 116, 104, 101, 114, 115] }
noncomputable def low : Nat := (World.holding Tryz.prog default ⟨#[], #[], []⟩).heap.size
noncomputable def laidWorld (os : Os) : World :=
  let w0 := World.holding Tryz.prog os ⟨#[.cells #[.string noneS] 190, .cells #[.string manyS] 190], #[], []⟩
  { w0 with heap := (w0.heap.modify 0 fun
      | .cells _ t frozen => .cells #[.iface 165 (.pointer (some ⟨low, 0, none⟩))] t frozen
      | o => o).modify 1 fun
      | .cells _ t frozen => .cells #[.iface 165 (.pointer (some ⟨low + 1, 0, none⟩))] t frozen
      | o => o }
theorem laid_met (os : Os) (args : Array Value) : laidMet Tryz.prog Rows.fnExactResolveCallRow.laid ((laidWorld os).forCall (fun _ _ => 0) ⟨#[], args, []⟩).memory :=
  laidMet_of_run (ps := [.cell 0 0, .cell low 0, .cell 1 0, .cell (low + 1) 0]) 8 (by kernel_rfl) (by kernel_rfl) (by kernel_rfl)
theorem laid_metH (os : Os) (args : Array Value) : laidMetH Tryz.prog Rows.fnExactResolveCallRow.laid ((laidWorld os).forCall (fun _ _ => 0) ⟨#[], args, []⟩).memory := laid_met os args

theorem star : "*" ++ "errors.errorString" = "*errors.errorString" := by decide
theorem rowE (u : TypeId) (h : Tryz.prog.typeName? 3 u = some "*errors.errorString") : u = 165 :=
  typeName_ptr_named (nm := "errors.errorString") (by rw [star]; kernel_rfl) (by kernel_rfl) (by decide) u (by rw [star]; exact h)
theorem cellsE : Tryz.prog.cellsOf 190 = 1 := by kernel_rfl
theorem cellsS : Tryz.prog.cellsOf 9 = 1 := by kernel_rfl

/-- What the condition gives a walk, and how the two variables read behind it. -/
theorem errs_of_laid {H : Type} (enc : TypeId × Value → H) {W : World} (h : laidMetH Tryz.prog Rows.fnExactResolveCallRow.laid W) :
    ∃ (n : Nat) (a0 a1 : Addr), n ≤ W.heap.size ∧ Errs W n a0 a1 ∧ ∀ W' : World, Below W.heap.size W W' → ∀ sp : Nat → Bool,
      DataW.TrodVars enc Tryz.prog W' sp Rows.fnExactResolveCallSpec.vars [tok enc (.iface 165 (.pointer (some a0))), tok enc (.iface 165 (.pointer (some a1)))] [.cell 0 0, .cell 1 0] := by
  have hL : laidMet Tryz.prog Rows.fnExactResolveCallRow.laid W := h
  obtain ⟨a0, a1, s0, s1, c0, c1, t0, t1, hv0, hv1, hc0, hs0, hz0, hc1, hs1, hz1, hne, hb0, hb1⟩ := laid_sentinels2 (ti := 51) (g0 := 0) (g1 := 1) hL (by kernel_rfl) (by kernel_rfl) (by kernel_rfl) (by kernel_rfl) Tryz.underlying51 rowE Tryz.underlying165 Tryz.underlying190 rfl rfl Tryz.underlying9 cellsE cellsS
  have k0 : W.cell? ⟨0, 0, none⟩ = some (.iface 165 (.pointer (some a0))) := by simpa using World.var?_cell (g := 0) (by kernel_rfl) hv0 0
  have k1 : W.cell? ⟨1, 0, none⟩ = some (.iface 165 (.pointer (some a1))) := by simpa using World.var?_cell (g := 1) (by kernel_rfl) hv1 0
  have l0 := World.block_lt_of_cell? _ _ k0
  have l1 := World.block_lt_of_cell? _ _ k1
  have m0 : a0.block < W.heap.size := by
    rcases Nat.lt_or_ge a0.block W.heap.size with h' | h'
    · exact h'
    · rw [Array.getElem?_eq_none h'] at hb0; cases hb0
  have m1 : a1.block < W.heap.size := by
    rcases Nat.lt_or_ge a1.block W.heap.size with h' | h'
    · exact h'
    · rw [Array.getElem?_eq_none h'] at hb1; cases hb1
  simp only at l0 l1
  refine ⟨W.heap.size, a0, a1, Nat.le_refl _, ⟨by omega, k0, k1, hne, m0, m1, ⟨c0, t0, hb0⟩, ⟨c1, t1, hb1⟩⟩, fun W' hb sp => ?_⟩
  exact vars_read2 enc (by kernel_rfl) (by kernel_rfl) Tryz.underlying51 (var?_below hb (g := 0) (by kernel_rfl) l0 hv0) trivial (by kernel_rfl) (by kernel_rfl) Tryz.underlying51 (var?_below hb (g := 1) (by kernel_rfl) l1 hv1) trivial sp
end Go.Proofs.YtbblhjdcpmahkaaGreatDoor

