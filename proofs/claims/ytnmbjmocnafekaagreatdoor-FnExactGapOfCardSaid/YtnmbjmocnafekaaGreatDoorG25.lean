/-
  The contract of the program's firstGap: whether there is a call that is not regular.
  The contract of the program's IsRegular.
  A slice of slices, in new memory, that reads as lists of numbers: below, and with one more.
  A text cut at every sign: as data; the contract of the model's l13Cut.
-/
import Derived.Test.YtnmbjmocnafekaaGreatDoorG14
import Derived.Test.YtnmbjmocnafekaaGreatDoorG24
import Derived.Test.YtnmbjmocnafekaaGreatDoorG13
import Derived.Test.YtnmbjmocnafekaaGreatDoorG16
import Derived.Test.YtnmbjmocnafekaaGreatDoorG17
import Derived.Test.YtnmbjmocnafekaaGreatDoorG6
import Derived.Test.YtnmbjmocnafekaaGreatDoorG4
import Derived.Test.YtnmbjmocnafekaaGreatDoorG12
namespace Go.Proofs.YtnmbjmocnafekaaGreatDoor
open Go.RowKit
attribute [local go_sem] Oper.semAt_some

/-- All calls of the names of a system are regular. -/
noncomputable def regL (y : Sy) (ms : List (List UInt8 × List Int)) : Bool := ms.all fun p => regB y (str p.1) p.2
theorem callsL_in {t : Nat} {names : List (List UInt8)} {p : List UInt8 × List Int} : p ∈ callsL t names ↔ p.1 ∈ names ∧ ∃ n, n < 3 ∧ p.2 ∈ rowsL (List.replicate n (t : Int)) := by
  unfold callsL callsN kindsL
  constructor
  · intro h
    obtain ⟨l, hl, hp⟩ := List.mem_flatten.1 h
    obtain ⟨nm, hnm, rfl⟩ := List.mem_map.1 hl
    obtain ⟨l2, hl2, hp2⟩ := List.mem_flatten.1 hp
    obtain ⟨n, hn, rfl⟩ := List.mem_map.1 hl2
    obtain ⟨r, hr, rfl⟩ := List.mem_map.1 hp2
    exact ⟨hnm, n, List.mem_range.1 hn, hr⟩
  · rintro ⟨h1, n, hn, hr⟩
    exact List.mem_flatten.2 ⟨_, List.mem_map.2 ⟨p.1, h1, rfl⟩, List.mem_flatten.2 ⟨_, List.mem_map.2 ⟨n, List.mem_range.2 hn, rfl⟩, List.mem_map.2 ⟨p.2, hr, rfl⟩⟩⟩
/-- While no gap has come. -/
structure GpI (y : Sy) (W : World) (s : List (List UInt8 × List Int)) (O : Nat → Prop) (A : World) : Prop where
  bel : Below W.heap.size W A
  reg : ∀ p ∈ s, regB y (str p.1) p.2 = true
  lo : ∀ b, O b → W.heap.size ≤ b
/-- A gap has come. -/
structure GpX (y : Sy) (W : World) (fb : Nat) (full : List (List UInt8 × List Int)) (c : Code) (O : Nat → Prop) (A : World) : Prop where
  out : c = .exit 0
  kp : Kept (fun b => b < W.heap.size ∧ b ≠ fb) W A
  row : ∃ x, Row A fb 65 [.iface 76 x]
  gap : ∃ p ∈ full, regB y (str p.1) p.2 = false
  lo : ∀ b, O b → W.heap.size ≤ b
section
variable {y : Sy} {W A C : World} {fb : Nat} {full s : List (List UInt8 × List Int)} {O O' : Nat → Prop} {c : Code}
theorem GpI.step (h : GpI y W s O A) (hk : Kept (fun k => ¬ O k) A C) : GpI y W s (fun k => O k ∨ (A.heap.size ≤ k ∧ k < C.heap.size)) C := by
  have hs := h.bel.size
  exact ⟨h.bel.trans (kept_below hk (fun k hk' ho => by have := h.lo k ho; omega) hs), h.reg, fun b hb => hb.elim (h.lo b) fun h2 => by omega⟩
theorem GpI.give (h : GpI y W s O A) (hs : ∀ k, O' k → O k) : GpI y W s O' A := ⟨h.bel, h.reg, fun b hb => h.lo b (hs b hb)⟩
theorem GpI.put (h : GpI y W s O A) {k : Nat} (o : Obj) (hk : W.heap.size ≤ k) : GpI y W s O (A.putObj k o) :=
  ⟨h.bel.trans ⟨rfl, rfl, rfl, by simp, fun j hj => puts8 (by omega)⟩, h.reg, h.lo⟩
theorem GpX.step (h : GpX y W fb full c O A) (hf : fb < W.heap.size) (hk : Kept (fun k => ¬ O k) A C) : GpX y W fb full c (fun k => O k ∨ (A.heap.size ≤ k ∧ k < C.heap.size)) C := by
  have hs := h.kp.size
  obtain ⟨x, hr⟩ := h.row
  exact ⟨h.out, kept_trans h.kp (kept_sub hk fun k _ hS ho => by have := h.lo k ho; omega), ⟨x, hr.keep (hk.block fb (by omega) fun ho => by have := h.lo fb ho; omega)⟩, h.gap, fun b hb => hb.elim (h.lo b) fun h2 => by omega⟩
theorem GpX.give (h : GpX y W fb full c O A) (hs : ∀ k, O' k → O k) : GpX y W fb full c O' A := ⟨h.out, h.kp, h.row, h.gap, fun b hb => h.lo b (hs b hb)⟩
theorem GpX.put (h : GpX y W fb full c O A) (hf : fb < W.heap.size) {k : Nat} (o : Obj) (hk : W.heap.size ≤ k) : GpX y W fb full c O (A.putObj k o) := by
  obtain ⟨x, hr⟩ := h.row
  exact ⟨h.out, kept_trans h.kp (kept_put fun hS => by omega), ⟨x, hr.keep (puts8 (by omega))⟩, h.gap, h.lo⟩
end

set_option maxRecDepth 100000 in
set_option maxHeartbeats 4000000 in
theorem firstGap_any (lo hi n : Nat) (sv cv fv : Value) (y : Sy) (hy : SyOk y) (hbk : y.bulk ≤ 1048576) (a0 a1 : Addr) (w : World) (hv : SyAt w lo hi sv cv fv y) (hB : hi ≤ w.heap.size) (hE : Errs w n a0 a1) (hnw : n ≤ w.heap.size) :
    Calls Tryz.prog 40 #[.agg #[sv, cv, fv]] w fun e w' => (e = .returned .nilIface ∧ regL y (callsL y.ty.sizes.length (namesY y)) = true ∨ ∃ x, e = .returned (.iface 76 x) ∧ regL y (callsL y.ty.sizes.length (namesY y)) = false) ∧ Below w.heap.size w w' := by
  obtain ⟨A1, cap1, rfl, _, _, _⟩ := hv.1.1.form
  obtain ⟨A2, cap2, rfl, _, _, _⟩ := hv.1.2.form
  obtain ⟨A3, cap3, rfl, _, _, _⟩ := hv.2.form
  obtain ⟨W1, hW1⟩ : ∃ u, u = (w.alloc (.cells #[.slice A1 y.ty.sizes.length cap1, .slice A2 y.ty.cos.length cap2, .slice A3 y.fs.length cap3] 36)).alloc (.cells #[.nilIface] 65) := ⟨_, rfl⟩
  have h1s : W1.heap.size = w.heap.size + 2 := by rw [hW1]; simp
  have hb1 : Below w.heap.size w W1 := by rw [hW1]; exact ((Below.refl _ _).alloc (Nat.le_refl _) _).alloc (by simp) _
  have r1 : Row W1 w.heap.size 36 [.slice A1 y.ty.sizes.length cap1, .slice A2 y.ty.cos.length cap2, .slice A3 y.fs.length cap3] := by rw [hW1]; exact (Row.new _ _ _).alloc _
  have rf1 : Row W1 (w.heap.size + 1) 65 [.nilIface] := by
    rw [hW1]
    have h := Row.new (w.alloc (.cells #[.slice A1 y.ty.sizes.length cap1, .slice A2 y.ty.cos.length cap2, .slice A3 y.fs.length cap3] 36)) 65 [.nilIface]
    rw [World.size_alloc] at h
    exact h
  obtain ⟨W2, hW2⟩ : ∃ u, u = W1.alloc (.cells #[.slice A1 y.ty.sizes.length cap1, .slice A2 y.ty.cos.length cap2, .slice A3 y.fs.length cap3] 36) := ⟨_, rfl⟩
  have h2s : W2.heap.size = w.heap.size + 3 := by rw [hW2]; simp [h1s]
  have hb12 : Below W1.heap.size W1 W2 := by rw [hW2]; exact (Below.refl _ _).alloc (Nat.le_refl _) _
  have HB2 : Hid (Below w.heap.size w W2) := hb1.trans (hb12.mono (by omega))
  have HR2 : Hid (Row W2 w.heap.size 36 [.slice A1 y.ty.sizes.length cap1, .slice A2 y.ty.cos.length cap2, .slice A3 y.fs.length cap3]) := r1.below hb12 (by omega)
  have HF2 : Hid (Row W2 (w.heap.size + 1) 65 [.nilIface]) := rf1.below hb12 (by omega)
  have HC2 : Hid (Row W2 (w.heap.size + 2) 36 [.slice A1 y.ty.sizes.length cap1, .slice A2 y.ty.cos.length cap2, .slice A3 y.fs.length cap3]) := by
    show Row _ _ _ _
    rw [hW2, ← h1s]
    exact Row.new _ _ _
  have HCA := Lib.hid (calls_any A1 A2 A3 y.ty.sizes.length y.ty.cos.length y.fs.length cap1 cap2 cap3 W1)
  rw [h1s, ← hW2] at HCA
  have q0 := r1.cell 0
  have q1 := r1.cell 1
  have q2 := r1.cell 2
  simp only [List.getElem?_cons_zero, List.getElem?_cons_succ] at q0 q1 q2
  rw [hW1] at q0 q1 q2
  have HV := Lib.hid hv
  have HE := Lib.hid hE
  have HIT := Lib.hid (callsIter_any lo hi (.slice A1 y.ty.sizes.length cap1) (.slice A2 y.ty.cos.length cap2) (.slice A3 y.fs.length cap3) y hy hbk)
  obtain ⟨full, hfull⟩ : ∃ ms, ms = callsL y.ty.sizes.length (namesY y) := ⟨_, rfl⟩
  have hfm : ∀ p ∈ full, (str p.1).size ≤ 1048576 := fun p hp => by
    rw [hfull] at hp
    obtain ⟨i, hi, e⟩ := namesY_mem.1 (callsL_in.1 hp).1
    rw [← e]
    obtain ⟨b, e2, _⟩ := (hy.each i hi).name
    rw [e2]
    show (1 : Nat) ≤ 1048576
    omega
  rw [← hfull] at HIT ⊢
  have HFM := Lib.hid hfm
  clear hv hE hb1 r1 rf1 hb12 hfull hfm hW2
  refine (callsIn_wide (n := 9)).1 ?_
  refine callsIn_of_wp_marks Tryz.func40 rfl trivial (wpIn_wide.2 ?_) rfl
  simp only [Tryz.ntmps40, List.size_toArray, List.length_cons, List.length_nil, Nat.reduceAdd, Nat.reduceSub, Array.replicate_succ, Array.replicate_zero, List.push_toArray, List.append_toArray, List.nil_append, List.cons_append]
  go_wp2_with fail
  rw [← hW1]
  refine HCA.out.mono ?_
  clear hW1 HCA q0 q1 q2
  rintro e wx ⟨rfl, rfl⟩
  go_wp2_with fail
  refine wpIn_wide.1 (rangeG_law (n := 9) (R := CallG (W2.heap.size + 2)) (fun vs => { tmps := #[.agg #[.slice A1 y.ty.sizes.length cap1, .slice A2 y.ty.cos.length cap2, .slice A3 y.fs.length cap3], .pointer (some ⟨w.heap.size, 0, none⟩), .nilIface, .pointer (some ⟨w.heap.size + 1, 0, none⟩), vs.getD 0 undef, vs.getD 1 undef, .agg #[.slice A1 y.ty.sizes.length cap1, .slice A2 y.ty.cos.length cap2, .slice A3 y.fs.length cap3], .func (.func 112) #[] #[.pointer (some ⟨w.heap.size + 2, 0, none⟩)], vs.getD 0 undef, vs.getD 1 undef, undef, undef, undef, undef, undef, undef, undef, undef, undef, undef, undef], defers := [] }) (fun m O A vs k o' lp h hl => h.put hl) (fun m O A vs h => h.size) ?asg (gf := 112) (lb := #[.pointer (some ⟨w.heap.size + 2, 0, none⟩)]) rfl (enters_of Tryz.func112 (by kernel_rfl) rfl) (fun b => b < W2.heap.size) (fun b hb => hb) full (GpI y W2) (fun c _ => GpX y W2 (w.heap.size + 1) full c)
    (fun s' O' A' C' h _ _ _ hk => h.step hk) (fun s' O' O'' A' h hs => h.give hs) (fun s' O' A' k' o' h h1 h2 => h.put o' h1) (fun c s' O' A' C' h _ _ hz hk => h.step (by omega) hk) (fun c s' O' O'' A' h hs => h.give hs) (fun c s' O' A' k' o' h h1 h2 => h.put (by omega) o' h1)
    ?iter (fun W3 hb3 hs3 => ⟨hb3, fun p hp => (by cases hp), fun b h => h.elim⟩) ?body ?done ?stop)
  case asg =>
    rintro l' m9 O9 vs W m' K ⟨v, rfl, -⟩ hK
    gi_wp2
    exact hK
  case iter =>
    intro l' J' Jx' W3 hcl hb3 hW3s hJ3
    refine HIT.out l' (fun b => b < W2.heap.size) J' Jx' (w.heap.size + 2) W3 (hcl.sub fun m O A vs h => ?_) (by omega) (fun b hb => by omega) (HC2.out.below hb3 (by omega)) (HV.out.below (HB2.out.trans (hb3.mono (by omega))) hB) (by omega) hJ3
    obtain ⟨v, h1, h3, h4, h5⟩ := h
    exact ⟨v, h1, ownsRow_lower h3 (by omega), h4, h5⟩
  case body =>
    rintro l' s' p vs O' A' m' hI ⟨v, rfl, hvo, hv64, hvO⟩ ⟨tt, htt⟩ n0 n1 hz
    have hAs := hI.bel.size
    have hwA : Below w.heap.size w A' := HB2.out.trans (hI.bel.mono (by omega))
    obtain ⟨gv, hgo, hgl⟩ := OwnI.of_owns hvo
    have hvi := hgo.ints (lo := W2.heap.size) (hi := A'.heap.size) hv64 (fun h => by have := hgl h; omega)
    have hps := HFM.out p (by rw [htt]; simp)
    have HG := Lib.hid (isGap_any lo hi W2.heap.size A'.heap.size n _ _ _ v y (str p.1) p.2 a0 a1 A' (HV.out.below hwA hB) hvi (by omega) (Nat.le_refl _) hbk (by unfold maxLen; omega) hy (HE.out.below hwA hnw) (by omega))
    obtain ⟨PA, PC, rfl⟩ := owns_form hvo
    have rs := HR2.out.below hI.bel (by omega)
    have rf := HF2.out.below hI.bel (by omega)
    have q0 := rs.cell 0
    have q1 := rs.cell 1
    have q2 := rs.cell 2
    simp only [List.getElem?_cons_zero, List.getElem?_cons_succ] at q0 q1 q2
    have HRF := Lib.hid rf
    have HII := Lib.hid hI
    have HTT := Lib.hid htt
    clear hI hvo hv64 hvO hgo hgl hvi rs rf htt n0 n1 hwA
    rw [show (#[.string (str p.1), .slice PA p.2.length PC] : Array Value).getD 0 undef = .string (str p.1) from rfl, show (#[.string (str p.1), .slice PA p.2.length PC] : Array Value).getD 1 undef = .slice PA p.2.length PC from rfl]
    obtain ⟨RG, hRG⟩ : ∃ b, b = regB y (str p.1) p.2 := ⟨_, rfl⟩
    rw [← hRG] at HG
    have HRG := Lib.hid hRG
    clear hRG
    gi_wp2_with fail
    refine ⟨trivial, fun h => by simp [Fence.wide] at h, (CallsIn.inRound l' (callsIn_wide.2 HG.out)).mono ?_⟩
    clear HG q0 q1 q2
    rintro e C ⟨rfl, hb5⟩
    have hs5 := hb5.size
    cases RG with
    | true =>
      have HN : Hid (GpI y W2 (s' ++ [p]) O' C) := ⟨HII.out.bel.trans (hb5.mono hAs), fun q hq => (List.mem_append.1 hq).elim (HII.out.reg q) (fun h => by rw [List.mem_singleton.1 h, HRG.out]), HII.out.lo⟩
      have HK : Hid (Kept (fun k => O' k ∨ k < W2.heap.size ∨ k = W2.heap.size ∨ k = W2.heap.size + 1) A' C) := kept_of hb5
      clear hb5
      gi_wp2
      exact ⟨HK.out, HN.out⟩
    | false =>
      have HCL := Lib.hid (cloneS_any (str p.1) C hps)
      have HB5 := Lib.hid hb5
      clear hb5
      gi_wp2_with fail
      refine ⟨trivial, fun h => by simp [Fence.wide] at h, (CallsIn.inRound l' (callsIn_wide.2 HCL.out)).mono ?_⟩
      clear HCL
      rintro e C1 ⟨rfl, hb6⟩
      have hb7 : Below A'.heap.size A' C1 := HB5.out.trans (hb6.mono hs5)
      have rf7 := HRF.out.below hb7 (by omega)
      have c7 := rf7.cell 0
      have f7 := rf7.frozen 0
      simp only [List.getElem?_cons_zero] at c7
      have HN : Hid (GpX y W2 (w.heap.size + 1) full (.exit 0) O' (C1.setCell ⟨w.heap.size + 1, 0, none⟩ (.iface 76 (.agg #[.string (str p.1), .slice PA p.2.length PC])))) :=
        ⟨rfl, kept_trans (kept_of HII.out.bel) (kept_trans (kept_of hb7) ⟨rfl, rfl, rfl, by simp [World.setCell], fun k _ hk => Below.heap_setCell _ _ _ _ (fun e => hk.2 e)⟩), ⟨_, rf7.set_ 0 _⟩, ⟨p, by rw [HTT.out]; simp, HRG.out.symm⟩, HII.out.lo⟩
      have HK : Hid (Kept (fun k => O' k ∨ k = W2.heap.size ∨ k = W2.heap.size + 1) A' (C1.setCell ⟨w.heap.size + 1, 0, none⟩ (.iface 76 (.agg #[.string (str p.1), .slice PA p.2.length PC])))) :=
        kept_trans (kept_of hb7) ⟨rfl, rfl, rfl, by simp [World.setCell], fun k _ hk => Below.heap_setCell _ _ _ _ (fun e => by
          have e' : k = w.heap.size + 1 := e
          rcases hk with h | h | h
          · have := HII.out.lo k h; omega
          · omega
          · omega)⟩
      clear hb6 hb7 rf7
      gi_wp2
      exact ⟨HK.out, HN.out⟩
  case done =>
    intro O9 W' hI hdef
    have rf := HF2.out.below hI.bel (by omega)
    have c7 := rf.cell 0
    simp only [List.getElem?_cons_zero] at c7
    have HRG : Hid (regL y full = true) := List.all_eq_true.2 fun p hp => hI.reg p hp
    have HBW : Hid (Below w.heap.size w W') := HB2.out.trans (hI.bel.mono (by omega))
    have HDF := Lib.hid hdef
    clear hI rf hdef
    go_wp2
    refine ⟨by simp, .inl ⟨_, _, rfl, run_takeDeferred HDF.out, ?_⟩⟩
    refine ⟨.nilIface, by simp [results, Tryz.results40, go_sem], .inl ⟨rfl, HRG.out⟩, ?_⟩
    exact HBW.out.trans ⟨rfl, rfl, rfl, by simp, fun j hj => puts8 (by omega)⟩
  case stop =>
    intro c s9 O9 W' hX hdef
    obtain rfl := hX.out
    obtain ⟨x, rf⟩ := hX.row
    have c7 := rf.cell 0
    simp only [List.getElem?_cons_zero] at c7
    have HRG : Hid (regL y full = false) := by
      obtain ⟨p, hp, hg⟩ := hX.gap
      show _ = _
      cases h : regL y full with
      | false => rfl
      | true => rw [List.all_eq_true.1 h p hp] at hg; cases hg
    have HBW : Hid (Below w.heap.size w W') := HB2.out.trans (kept_below hX.kp (fun k hk => ⟨by omega, by omega⟩) (by omega))
    have HDF := Lib.hid hdef
    clear hX rf hdef
    refine wpIn_wide.2 ?_
    go_wp2
    refine ⟨by simp, .inl ⟨_, _, rfl, run_takeDeferred HDF.out, ?_⟩⟩
    refine ⟨.iface 76 x, by simp [results, Tryz.results40, go_sem], .inr ⟨x, rfl, HRG.out⟩, ?_⟩
    exact HBW.out.trans ⟨rfl, rfl, rfl, by simp, fun j hj => puts8 (by omega)⟩
end Go.Proofs.YtnmbjmocnafekaaGreatDoor

namespace Go.Proofs.YtnmbjmocnafekaaGreatDoor
open Go.RowKit

/-- A system is regular, as the program finds it. -/
noncomputable def isReg (y : Sy) : Bool := syB y && regL y (callsL y.ty.sizes.length (namesY y))

set_option maxRecDepth 100000 in
set_option maxHeartbeats 1000000 in
theorem faultOf_any (lo hi n : Nat) (sv cv fv : Value) (y : Sy) (hbk : y.bulk ≤ 1048576) (a0 a1 ai : Addr) (w : World) (hv : SyAt w lo hi sv cv fv y) (hB : hi ≤ w.heap.size) (hE : Errs w n a0 a1) (hnw : n ≤ w.heap.size) (hgi : 0 < n) (hci : w.cell? ⟨0, 0, none⟩ = some (.iface 314 (.pointer (some ai)))) :
    Calls Tryz.prog 39 #[.agg #[sv, cv, fv], .func (.func 40) #[] #[]] w fun e w' => (e = .returned .nilIface ∧ isReg y = true ∨ ∃ T x, e = .returned (.iface T x) ∧ isReg y = false) ∧ Below w.heap.size w w' := by
  obtain ⟨A1, cap1, rfl, _, _, _⟩ := hv.1.1.form
  obtain ⟨A2, cap2, rfl, _, _, _⟩ := hv.1.2.form
  obtain ⟨A3, cap3, rfl, _, _, _⟩ := hv.2.form
  obtain ⟨W1, hW1⟩ : ∃ u, u = w.alloc (.cells #[.slice A1 y.ty.sizes.length cap1, .slice A2 y.ty.cos.length cap2, .slice A3 y.fs.length cap3] 36) := ⟨_, rfl⟩
  have hb1 : Below w.heap.size w W1 := by rw [hW1]; exact (Below.refl _ _).alloc (Nat.le_refl _) _
  have r1 : Row W1 w.heap.size 36 [.slice A1 y.ty.sizes.length cap1, .slice A2 y.ty.cos.length cap2, .slice A3 y.fs.length cap3] := by rw [hW1]; exact Row.new _ _ _
  have hs1 := hb1.size
  have HS := Lib.hid (implSysValid_any lo hi _ _ _ y W1 (hv.below hb1 hB) (by omega))
  have HV := Lib.hid hv
  have HE := Lib.hid hE
  have HB1 := Lib.hid hb1
  have HR1 := Lib.hid r1
  have HCI := Lib.hid hci
  have p0 := r1.cell 0
  have p1 := r1.cell 1
  have p2 := r1.cell 2
  simp only [List.getElem?_cons_zero, List.getElem?_cons_succ] at p0 p1 p2
  rw [hW1] at p0 p1 p2
  clear hv hb1 r1 hE hci
  go_enter Tryz.func39, Tryz.ntmps39
  go_wp2_with fail
  rw [← hW1]
  refine HS.out.mono ?_
  clear hW1 HS p0 p1 p2
  rintro e w2 ⟨rfl, hb2⟩
  have hs2 := hb2.size
  have hwb : Below w.heap.size w w2 := HB1.out.trans (hb2.mono hs1)
  have HB2 := Lib.hid hwb
  have hr2 := HR1.out.below hb2 HR1.out.lt
  have p0 := hr2.cell 0
  have p1 := hr2.cell 1
  have p2 := hr2.cell 2
  simp only [List.getElem?_cons_zero, List.getElem?_cons_succ] at p0 p1 p2
  have g0 : w2.cell? ⟨0, 0, none⟩ = some (.iface 314 (.pointer (some ai))) := (World.cell?_of_block (w := w) (hwb.block _ (by show 0 < w.heap.size; omega))).trans HCI.out
  clear hb2 hwb hr2
  cases hs : syB y with
  | false =>
    have HIR : Hid (isReg y = false) := by show _ = _; unfold isReg; rw [hs]; rfl
    go_wp2
    go_ret
    exact ⟨.inr ⟨_, _, rfl, HIR.out⟩, HB2.out⟩
  | true =>
    have hyok := syB_iff.1 hs
    have HFG := Lib.hid (firstGap_any lo hi n _ _ _ y hyok hbk a0 a1 w2 (HV.out.below HB2.out hB) (by have := HB2.out.size; omega) (HE.out.below HB2.out hnw) (by have := HB2.out.size; omega))
    have HIR : Hid (isReg y = regL y (callsL y.ty.sizes.length (namesY y))) := by show _ = _; unfold isReg; rw [hs]; rfl
    go_wp2_with fail
    refine HFG.out.mono ?_
    clear HFG p0 p1 p2 g0
    rintro e w3 ⟨⟨rfl, hg⟩ | ⟨x, rfl, hg⟩, hb3⟩
    · have HB3 : Hid (Below w.heap.size w w3) := HB2.out.trans (hb3.mono HB2.out.size)
      have HG : Hid (isReg y = true) := by show _ = _; rw [HIR.out, hg]
      clear hg hb3
      go_wp2
      go_ret
      exact ⟨.inl ⟨rfl, HG.out⟩, HB3.out⟩
    · have HB3 : Hid (Below w.heap.size w w3) := HB2.out.trans (hb3.mono HB2.out.size)
      have HG : Hid (isReg y = false) := by show _ = _; rw [HIR.out, hg]
      clear hg hb3
      go_wp2
      go_ret
      exact ⟨.inr ⟨_, _, rfl, HG.out⟩, HB3.out⟩

set_option maxRecDepth 100000 in
set_option maxHeartbeats 1000000 in
theorem implIsRegular_any (lo hi n : Nat) (sv cv fv : Value) (y : Sy) (hbk : y.bulk ≤ 1048576) (a0 a1 ai : Addr) (w : World) (hv : SyAt w lo hi sv cv fv y) (hB : hi ≤ w.heap.size) (hE : Errs w n a0 a1) (hnw : n ≤ w.heap.size) (hgi : 0 < n) (hci : w.cell? ⟨0, 0, none⟩ = some (.iface 314 (.pointer (some ai)))) :
    Calls Tryz.prog 12 #[.agg #[sv, cv, fv]] w fun e w' => e = .returned (.bool (isReg y)) ∧ Below w.heap.size w w' := by
  obtain ⟨A1, cap1, rfl, _, _, _⟩ := hv.1.1.form
  obtain ⟨A2, cap2, rfl, _, _, _⟩ := hv.1.2.form
  obtain ⟨A3, cap3, rfl, _, _, _⟩ := hv.2.form
  obtain ⟨W1, hW1⟩ : ∃ u, u = w.alloc (.cells #[.slice A1 y.ty.sizes.length cap1, .slice A2 y.ty.cos.length cap2, .slice A3 y.fs.length cap3] 36) := ⟨_, rfl⟩
  have hb1 : Below w.heap.size w W1 := by rw [hW1]; exact (Below.refl _ _).alloc (Nat.le_refl _) _
  have r1 : Row W1 w.heap.size 36 [.slice A1 y.ty.sizes.length cap1, .slice A2 y.ty.cos.length cap2, .slice A3 y.fs.length cap3] := by rw [hW1]; exact Row.new _ _ _
  have hs1 := hb1.size
  have HF := Lib.hid (faultOf_any lo hi n _ _ _ y hbk a0 a1 ai W1 (hv.below hb1 hB) (by omega) (hE.below hb1 hnw) (by omega) hgi ((World.cell?_of_block (w := w) (hb1.block _ (by show 0 < w.heap.size; omega))).trans hci))
  have HB1 := Lib.hid hb1
  have p0 := r1.cell 0
  have p1 := r1.cell 1
  have p2 := r1.cell 2
  simp only [List.getElem?_cons_zero, List.getElem?_cons_succ] at p0 p1 p2
  rw [hW1] at p0 p1 p2
  clear hv hb1 r1 hE hci
  go_enter Tryz.func12, Tryz.ntmps12
  go_wp2_with fail
  rw [← hW1]
  refine HF.out.mono ?_
  clear hW1 HF p0 p1 p2
  rintro e w2 ⟨⟨rfl, hg⟩ | ⟨T, x, rfl, hg⟩, hb2⟩
  · have HB2 : Hid (Below w.heap.size w w2) := HB1.out.trans (hb2.mono hs1)
    have HG := Lib.hid hg
    clear hg hb2
    go_wp2
    go_ret
    exact ⟨by rw [HG.out]; rfl, HB2.out⟩
  · have HB2 : Hid (Below w.heap.size w w2) := HB1.out.trans (hb2.mono hs1)
    have HG := Lib.hid hg
    clear hg hb2
    go_wp2
    go_ret
    exact ⟨by rw [HG.out]; rfl, HB2.out⟩
end Go.Proofs.YtnmbjmocnafekaaGreatDoor

namespace Go.Proofs.YtnmbjmocnafekaaGreatDoor
open Go.RowKit

theorem WaysAt.below {w w' : World} {base : Nat} {p : Value} {zss : List (List Int)} (h : WaysAt w base p zss) (hb : Below w.heap.size w w') : WaysAt w' base p zss := by
  obtain ⟨xs, S, ho, hr, hS⟩ := h
  refine ⟨xs, S, ownsRow_below ho hb (Nat.le_refl _), fun i hi => ?_, fun b hSb => ?_⟩
  · obtain ⟨x, hx, hin⟩ := hr i hi
    exact ⟨x, hx, hin.keep fun b hSb => hb.block b (hS b hSb).2.1⟩
  · obtain ⟨h1, h2, h3⟩ := hS b hSb
    exact ⟨h1, Nat.lt_of_lt_of_le h2 hb.size, h3⟩
theorem rows_push {w w1 w2 : World} {base : Nat} {p p' x : Value} {zss : List (List Int)} {z : List Int} {xs : List Value} {S : Nat → Prop} (o : Obj) (ho : w.ownsRow base 22 1 p zss.length xs) (hr : ∀ i, ∀ (h : i < zss.length), ∃ x, xs[i]? = some x ∧ IntsIn w S x zss[i]) (hS : ∀ b, S b → base ≤ b ∧ b < w.heap.size ∧ some b ≠ p.ownBlock)
    (hb1 : Below w.heap.size w w1) (hx : IntsAt w1 w.heap.size w1.heap.size x z) (hp : Pushed (w1.alloc o) w2 base 22 p p' zss.length xs x) (hbase : base ≤ w.heap.size) : WaysAt w2 base p' (zss ++ [z]) := by
  have hs1 := hb1.size
  have hs2 := hp.grown.size
  rw [World.size_alloc] at hs2
  have hal : ∀ b, b < w1.heap.size → (w1.alloc o).heap[b]? = w1.heap[b]? := fun b hb => ((Below.refl w1.heap.size w1).alloc (Nat.le_refl _) o).block b hb
  have hpl := owns_lt ho
  have hkeep : ∀ b, b < w1.heap.size → some b ≠ p.ownBlock → w2.heap[b]? = w1.heap[b]? := fun b hb hne => (hp.grown.block b (by rw [World.size_alloc]; omega) hne).trans (hal b hb)
  have hnew : ∀ b, w.heap.size ≤ b → some b ≠ p.ownBlock := fun b hb e => by have := (hpl b e.symm).2; omega
  have hlen : xs.length = zss.length := by have := ho.1; omega
  refine ⟨xs ++ [x], fun b => S b ∨ (w.heap.size ≤ b ∧ b < w1.heap.size), ownsRow_cast hp.own (by simp) rfl, fun i hi => ?_, fun b hb => ?_⟩
  · rw [List.length_append, List.length_singleton] at hi
    by_cases hin : i < zss.length
    · obtain ⟨u, hu, hI⟩ := hr i hin
      refine ⟨u, by rw [List.getElem?_append_left (by omega)]; exact hu, ?_⟩
      rw [List.getElem_append_left hin]
      exact (hI.keep fun b hSb => (hkeep b (Nat.lt_of_lt_of_le (hS b hSb).2.1 hs1) (hS b hSb).2.2).trans (hb1.block b (hS b hSb).2.1)).more fun b h => .inl h
    · obtain rfl : i = zss.length := by omega
      refine ⟨x, by rw [← hlen]; simp, ?_⟩
      rw [List.getElem_append_right (Nat.le_refl _)]
      simp only [Nat.sub_self, List.getElem_cons_zero]
      obtain ⟨A, cap, e, h1, h2, h3, h4⟩ := hx
      refine ⟨A, cap, e, h1, h2, h3, fun h0 => ?_⟩
      obtain ⟨b, off, hA, hb1', hb2', hc⟩ := h4 h0
      exact ⟨b, off, hA, .inr ⟨hb1', hb2'⟩, fun k hk => (World.cell?_of_block (w := w1) (hkeep b hb2' (hnew b hb1'))).trans (hc k hk)⟩
  · have hlt : base ≤ b ∧ b < w1.heap.size ∧ some b ≠ p.ownBlock := by
      rcases hb with hb | hb
      · obtain ⟨h1, h2, h3⟩ := hS b hb
        exact ⟨h1, by omega, h3⟩
      · exact ⟨by omega, hb.2, hnew b hb.1⟩
    refine ⟨hlt.1, by omega, fun e => ?_⟩
    rcases hp.at_ with h | ⟨g, h, hg, _⟩
    · exact hlt.2.2 (e.trans h)
    · rw [h] at e
      injection e with e
      rw [World.size_alloc] at hg
      omega
theorem waysAt_nil {w : World} {base g : Nat} (h : w.ownsRow base 22 1 (.slice (some ⟨g, 0, none⟩) 0 0) 0 []) : WaysAt w base (.slice (some ⟨g, 0, none⟩) 0 0) [] :=
  ⟨[], fun _ => False, h, fun i hi => absurd hi (by simp), fun _ h => h.elim⟩
end Go.Proofs.YtnmbjmocnafekaaGreatDoor

namespace Go.Proofs.YtnmbjmocnafekaaGreatDoor
open Go.RowKit

/-- A text cut at every c. -/
def glue (p : List UInt8) : List (List UInt8) → List (List UInt8)
  | [] => [p]
  | h :: t => (p ++ h) :: t
def cutL (c : UInt8) : List UInt8 → List (List UInt8)
  | [] => [[]]
  | x :: l => if x = c then [] :: cutL c l else glue [x] (cutL c l)
theorem glue_nil {x : List (List UInt8)} (h : x ≠ []) : glue [] x = x := by
  cases x with
  | nil => exact absurd rfl h
  | cons h t => rfl
theorem glue_glue (p q : List UInt8) (x : List (List UInt8)) : glue p (glue q x) = glue (p ++ q) x := by
  cases x with
  | nil => rfl
  | cons h t => simp [glue, List.append_assoc]
theorem cutL_ne (c : UInt8) (l : List UInt8) : cutL c l ≠ [] := by
  cases l with
  | nil => simp [cutL]
  | cons x l =>
    simp only [cutL]
    split
    · simp
    · cases h : cutL c l <;> simp [glue]
/-- The piece from one place to another. -/
def sub (l : List UInt8) (f i : Nat) : List UInt8 := (l.drop f).take (i - f)
theorem sub_self (l : List UInt8) (i : Nat) : sub l i i = [] := by simp [sub]
theorem sub_succ {l : List UInt8} {f i : Nat} (hf : f ≤ i) (hi : i < l.length) : sub l f (i + 1) = sub l f i ++ [l[i]] := by
  unfold sub
  have e : i + 1 - f = (i - f) + 1 := by omega
  rw [e, List.take_succ_eq_append_getElem (by rw [List.length_drop]; omega)]
  congr 1
  simp
  congr 1
  omega
theorem str_sub (l : List UInt8) (f i : Nat) : (str l).extract f i = str (sub l f i) := by
  apply ByteArray.ext
  simp [str, sub, ByteArray.data_extract, List.extract_eq_take_drop]
/-- What the loop keeps, at place i, with the pieces that are done, and the place at which the last one begins. -/
def CutAt (c : UInt8) (l : List UInt8) (done : List (List UInt8)) (f i : Nat) : Prop := f ≤ i ∧ cutL c l = done ++ glue (sub l f i) (cutL c (l.drop i))
theorem CutAt.start (c : UInt8) (l : List UInt8) : CutAt c l [] 0 0 := ⟨Nat.le_refl _, by rw [sub_self, List.drop_zero, glue_nil (cutL_ne c l)]; rfl⟩
theorem CutAt.go {c : UInt8} {l : List UInt8} {done : List (List UInt8)} {f i : Nat} (h : CutAt c l done f i) (hi : i < l.length) (hne : l[i] ≠ c) : CutAt c l done f (i + 1) := by
  refine ⟨by have := h.1; omega, ?_⟩
  rw [h.2, List.drop_eq_getElem_cons hi, cutL, if_neg hne, glue_glue, sub_succ h.1 hi]
theorem CutAt.hit {c : UInt8} {l : List UInt8} {done : List (List UInt8)} {f i : Nat} (h : CutAt c l done f i) (hi : i < l.length) (he : l[i] = c) : CutAt c l (done ++ [sub l f i]) (i + 1) (i + 1) := by
  refine ⟨Nat.le_refl _, ?_⟩
  rw [h.2, List.drop_eq_getElem_cons hi, cutL, if_pos he, sub_self, glue_nil (cutL_ne _ _)]
  simp [glue]
theorem CutAt.last {c : UInt8} {l : List UInt8} {done : List (List UInt8)} {f : Nat} (h : CutAt c l done f l.length) : cutL c l = done ++ [sub l f l.length] := by
  rw [h.2, List.drop_length]
  simp [cutL, glue]
theorem cut_byte (l : List UInt8) (i : Nat) (_hi : i < l.length) (h : i < (str l).size) : (str l)[i]'h = l[i]'_hi := by
  show (str l).data[i] = l[i]
  simp [str]
  first | rfl | skip
theorem cut_eq (c s : UInt8) : ((c.toNat : Int) == (s.toNat : Int)) = decide (c = s) := by
  by_cases h : c = s
  · subst h; simp
  · have : ¬ (c.toNat : Int) = (s.toNat : Int) := fun e => h (UInt8.toNat_inj.1 (by omega))
    simp [h, this]

end Go.Proofs.YtnmbjmocnafekaaGreatDoor

