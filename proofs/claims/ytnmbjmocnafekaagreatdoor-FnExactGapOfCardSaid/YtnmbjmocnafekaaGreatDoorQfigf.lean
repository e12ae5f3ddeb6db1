/-
  The contract of the program's firstGap: which call is the first that is not regular, and its row.
  The first call that is not regular, as the program and as the model look for it: the same.
-/
import Derived.Test.YtnmbjmocnafekaaGreatDoorG25
import Derived.Test.YtnmbjmocnafekaaGreatDoorG29
namespace Go.Proofs.YtnmbjmocnafekaaGreatDoor
open Go.RowKit
attribute [local go_sem] Oper.semAt_some

/-- A gap has come: the first. -/
structure GpF (y : Sy) (W : World) (fb : Nat) (full : List (List UInt8 × List Int)) (c : Code) (O : Nat → Prop) (A : World) : Prop where
  out : c = .exit 0
  kp : Kept (fun b => b < W.heap.size ∧ b ≠ fb) W A
  gap : ∃ s p t v, full = s ++ p :: t ∧ (∀ q ∈ s, regB y (str q.1) q.2 = true) ∧ regB y (str p.1) p.2 = false ∧ Row A fb 65 [.iface 76 (.agg #[.string (str p.1), v])] ∧ A.ownsRow (W.heap.size + 2) 3 1 v p.2.length (p.2.map (Value.int .i64)) ∧ (∀ z ∈ p.2, I64 z) ∧ ∀ b, v.ownBlock = some b → ¬ O b
  lo : ∀ b, O b → W.heap.size ≤ b
section
variable {y : Sy} {W A C : World} {fb : Nat} {full s : List (List UInt8 × List Int)} {O O' : Nat → Prop} {c : Code}
theorem GpF.step (h : GpF y W fb full c O A) (hf : fb < W.heap.size) (hk : Kept (fun k => ¬ O k) A C) : GpF y W fb full c (fun k => O k ∨ (A.heap.size ≤ k ∧ k < C.heap.size)) C := by
  have hs := h.kp.size
  obtain ⟨s, p, t, v, h1, h2, h3, hr, ho, h6, hn⟩ := h.gap
  exact ⟨h.out, kept_trans h.kp (kept_sub hk fun k _ hS ho => by have := h.lo k ho; omega), ⟨s, p, t, v, h1, h2, h3, hr.keep (hk.block fb (by omega) fun ho => by have := h.lo fb ho; omega), ownsRow_keep1 ho (fun g hg => hk.block g (owns_lt ho g hg).2 (hn g hg)), h6, fun b hb => by
    have := (owns_lt ho b hb).2
    rintro (h7 | h7)
    · exact hn b hb h7
    · omega⟩, fun b hb => hb.elim (h.lo b) fun h2 => by omega⟩
theorem GpF.give (h : GpF y W fb full c O A) (hs : ∀ k, O' k → O k) : GpF y W fb full c O' A := by
  obtain ⟨s, p, t, v, h1, h2, h3, hr, ho, h6, hn⟩ := h.gap
  exact ⟨h.out, h.kp, ⟨s, p, t, v, h1, h2, h3, hr, ho, h6, fun b hb h7 => hn b hb (hs b h7)⟩, fun b hb => h.lo b (hs b hb)⟩
theorem GpF.put (h : GpF y W fb full c O A) (hf : fb < W.heap.size) {k : Nat} (o : Obj) (hk : W.heap.size ≤ k) (hk2 : k ≤ W.heap.size + 1) : GpF y W fb full c O (A.putObj k o) := by
  obtain ⟨s, p, t, v, h1, h2, h3, hr, ho, h6, hn⟩ := h.gap
  exact ⟨h.out, kept_trans h.kp (kept_put fun hS => by omega), ⟨s, p, t, v, h1, h2, h3, hr.keep (puts8 (by omega)), ownsRow_keep1 ho (fun g hg => puts8 (by have := (owns_lt ho g hg).1; omega)), h6, hn⟩, h.lo⟩
end

set_option maxRecDepth 100000 in
set_option maxHeartbeats 4000000 in
theorem firstGapF_any (lo hi n : Nat) (sv cv fv : Value) (y : Sy) (hy : SyOk y) (hbk : y.bulk ≤ 1048576) (a0 a1 : Addr) (w : World) (hv : SyAt w lo hi sv cv fv y) (hB : hi ≤ w.heap.size) (hE : Errs w n a0 a1) (hnw : n ≤ w.heap.size) :
    Calls Tryz.prog 40 #[.agg #[sv, cv, fv]] w fun e w' => (e = .returned .nilIface ∧ regL y (callsL y.ty.sizes.length (namesY y)) = true ∨ ∃ s p t v, callsL y.ty.sizes.length (namesY y) = s ++ p :: t ∧ (∀ q ∈ s, regB y (str q.1) q.2 = true) ∧ regB y (str p.1) p.2 = false ∧ e = .returned (.iface 76 (.agg #[.string (str p.1), v])) ∧ w'.ownsRow w.heap.size 3 1 v p.2.length (p.2.map (Value.int .i64)) ∧ ∀ z ∈ p.2, I64 z) ∧ Below w.heap.size w w' := by
  obtain ⟨A1, cap1, rfl, _, _, _⟩ := hv.1.1.form
  obtain ⟨A2, cap2, rfl, _, _, _⟩ := hv.1.2.form
  obtain ⟨A3, cap3, rfl, _, _, _⟩ := hv.2.form
  obtain ⟨W1, hW1⟩ : ∃ u, u = (w.alloc (.cells #[.slice A1 y.ty.sizes.length cap1, .slice A2 y.ty.cos.length cap2, .slice A3 y.fs.length cap3] 36)).alloc (.cells #[.nilIface] 65) := ⟨_, rfl⟩
  have h1s : W1.heap.size = w.heap.size + 2 := by rw [hW1]; simp
  have hb1 : Below w.heap.size w W1 := by rw [hW1]; exact ((Below.refl _ _).alloc (Nat.le_refl _) _).alloc (by simp) _
  have r1 : Row W1 w.heap.size 36 [.slice A1 y.ty.sizes.length cap1, .slice A2 y.ty.cos.length cap2, .slice A3 y.fs.length cap3] := by rw [hW1]; exact (Row.new _ _ _).alloc _
  have rf1 : Row W1 (w.heap.size + 1) 65 [.nilIface] := by
    rw [hW1]
    have h := Row.new (w.alloc (.cells #[.slice A1 y.ty.sizes.length cap1, .slice A2 y.ty.cos.length cap2, .slice A3 y.fs.length cap3] 36)) 65 [.nilIface]
    rw [World.size_alloc] at h
    exact h
  obtain ⟨W2, hW2⟩ : ∃ u, u = W1.alloc (.cells #[.slice A1 y.ty.sizes.length cap1, .slice A2 y.ty.cos.length cap2, .slice A3 y.fs.length cap3] 36) := ⟨_, rfl⟩
  have h2s : W2.heap.size = w.heap.size + 3 := by rw [hW2]; simp [h1s]
  have hb12 : Below W1.heap.size W1 W2 := by rw [hW2]; exact (Below.refl _ _).alloc (Nat.le_refl _) _
  have HB2 : Hid (Below w.heap.size w W2) := hb1.trans (hb12.mono (by omega))
  have HR2 : Hid (Row W2 w.heap.size 36 [.slice A1 y.ty.sizes.length cap1, .slice A2 y.ty.cos.length cap2, .slice A3 y.fs.length cap3]) := r1.below hb12 (by omega)
  have HF2 : Hid (Row W2 (w.heap.size + 1) 65 [.nilIface]) := rf1.below hb12 (by omega)
  have HC2 : Hid (Row W2 (w.heap.size + 2) 36 [.slice A1 y.ty.sizes.length cap1, .slice A2 y.ty.cos.length cap2, .slice A3 y.fs.length cap3]) := by
    show Row _ _ _ _
    rw [hW2, ← h1s]
    exact Row.new _ _ _
  have HCA := Lib.hid (calls_any A1 A2 A3 y.ty.sizes.length y.ty.cos.length y.fs.length cap1 cap2 cap3 W1)
  rw [h1s, ← hW2] at HCA
  have q0 := r1.cell 0
  have q1 := r1.cell 1
  have q2 := r1.cell 2
  simp only [List.getElem?_cons_zero, List.getElem?_cons_succ] at q0 q1 q2
  rw [hW1] at q0 q1 q2
  have HV := Lib.hid hv
  have HE := Lib.hid hE
  have HIT := Lib.hid (callsIter_any lo hi (.slice A1 y.ty.sizes.length cap1) (.slice A2 y.ty.cos.length cap2) (.slice A3 y.fs.length cap3) y hy hbk)
  obtain ⟨full, hfull⟩ : ∃ ms, ms = callsL y.ty.sizes.length (namesY y) := ⟨_, rfl⟩
  have hfm : ∀ p ∈ full, (str p.1).size ≤ 1048576 := fun p hp => by
    rw [hfull] at hp
    obtain ⟨i, hi, e⟩ := namesY_mem.1 (callsL_in.1 hp).1
    rw [← e]
    obtain ⟨b, e2, _⟩ := (hy.each i hi).name
    rw [e2]
    show (1 : Nat) ≤ 1048576
    omega
  rw [← hfull] at HIT ⊢
  have HFM := Lib.hid hfm
  clear hv hE hb1 r1 rf1 hb12 hfull hfm hW2
  refine (callsIn_wide (n := 9)).1 ?_
  refine callsIn_of_wp_marks Tryz.func40 rfl trivial (wpIn_wide.2 ?_) rfl
  simp only [Tryz.ntmps40, List.size_toArray, List.length_cons, List.length_nil, Nat.reduceAdd, Nat.reduceSub, Array.replicate_succ, Array.replicate_zero, List.push_toArray, List.append_toArray, List.nil_append, List.cons_append]
  go_wp2_with fail
  rw [← hW1]
  refine HCA.out.mono ?_
  clear hW1 HCA q0 q1 q2
  rintro e wx ⟨rfl, rfl⟩
  go_wp2_with fail
  refine wpIn_wide.1 (rangeG_law (n := 9) (R := CallG (W2.heap.size + 2)) (fun vs => { tmps := #[.agg #[.slice A1 y.ty.sizes.length cap1, .slice A2 y.ty.cos.length cap2, .slice A3 y.fs.length cap3], .pointer (some ⟨w.heap.size, 0, none⟩), .nilIface, .pointer (some ⟨w.heap.size + 1, 0, none⟩), vs.getD 0 undef, vs.getD 1 undef, .agg #[.slice A1 y.ty.sizes.length cap1, .slice A2 y.ty.cos.length cap2, .slice A3 y.fs.length cap3], .func (.func 112) #[] #[.pointer (some ⟨w.heap.size + 2, 0, none⟩)], vs.getD 0 undef, vs.getD 1 undef, undef, undef, undef, undef, undef, undef, undef, undef, undef, undef, undef], defers := [] }) (fun m O A vs k o' lp h hl => h.put hl) (fun m O A vs h => h.size) ?asg (gf := 112) (lb := #[.pointer (some ⟨w.heap.size + 2, 0, none⟩)]) rfl (enters_of Tryz.func112 (by kernel_rfl) rfl) (fun b => b < W2.heap.size) (fun b hb => hb) full (GpI y W2) (fun c _ => GpF y W2 (w.heap.size + 1) full c)
    (fun s' O' A' C' h _ _ _ hk => h.step hk) (fun s' O' O'' A' h hs => h.give hs) (fun s' O' A' k' o' h h1 h2 => h.put o' h1) (fun c s' O' A' C' h _ _ hz hk => h.step (by omega) hk) (fun c s' O' O'' A' h hs => h.give hs) (fun c s' O' A' k' o' h h1 h2 => h.put (by omega) o' h1 h2)
    ?iter (fun W3 hb3 hs3 => ⟨hb3, fun p hp => (by cases hp), fun b h => h.elim⟩) ?body ?done ?stop)
  case asg =>
    rintro l' m9 O9 vs W m' K ⟨v, rfl, -⟩ hK
    gi_wp2
    exact hK
  case iter =>
    intro l' J' Jx' W3 hcl hb3 hW3s hJ3
    refine HIT.out l' (fun b => b < W2.heap.size) J' Jx' (w.heap.size + 2) W3 (hcl.sub fun m O A vs h => ?_) (by omega) (fun b hb => by omega) (HC2.out.below hb3 (by omega)) (HV.out.below (HB2.out.trans (hb3.mono (by omega))) hB) (by omega) hJ3
    obtain ⟨v, h1, h3, h4, h5⟩ := h
    exact ⟨v, h1, ownsRow_lower h3 (by omega), h4, h5⟩
  case body =>
    rintro l' s' p vs O' A' m' hI ⟨v, rfl, hvo, hv64, hvO⟩ ⟨tt, htt⟩ n0 n1 hz
    have hAs := hI.bel.size
    have hwA : Below w.heap.size w A' := HB2.out.trans (hI.bel.mono (by omega))
    obtain ⟨gv, hgo, hgl⟩ := OwnI.of_owns hvo
    have hvi := hgo.ints (lo := W2.heap.size) (hi := A'.heap.size) hv64 (fun h => by have := hgl h; omega)
    have hps := HFM.out p (by rw [htt]; simp)
    have HG := Lib.hid (isGap_any lo hi W2.heap.size A'.heap.size n _ _ _ v y (str p.1) p.2 a0 a1 A' (HV.out.below hwA hB) hvi (by omega) (Nat.le_refl _) hbk (by unfold maxLen; omega) hy (HE.out.below hwA hnw) (by omega))
    obtain ⟨PA, PC, rfl⟩ := owns_form hvo
    have rs := HR2.out.below hI.bel (by omega)
    have rf := HF2.out.below hI.bel (by omega)
    have q0 := rs.cell 0
    have q1 := rs.cell 1
    have q2 := rs.cell 2
    simp only [List.getElem?_cons_zero, List.getElem?_cons_succ] at q0 q1 q2
    have HRF := Lib.hid rf
    have HII := Lib.hid hI
    have HVO := Lib.hid hvo
    have HVX := Lib.hid hvO
    have HV64 := Lib.hid hv64
    have HTT := Lib.hid htt
    clear hI hvo hv64 hvO hgo hgl hvi rs rf htt n0 n1 hwA
    rw [show (#[.string (str p.1), .slice PA p.2.length PC] : Array Value).getD 0 undef = .string (str p.1) from rfl, show (#[.string (str p.1), .slice PA p.2.length PC] : Array Value).getD 1 undef = .slice PA p.2.length PC from rfl]
    obtain ⟨RG, hRG⟩ : ∃ b, b = regB y (str p.1) p.2 := ⟨_, rfl⟩
    rw [← hRG] at HG
    have HRG := Lib.hid hRG
    clear hRG
    gi_wp2_with fail
    refine ⟨trivial, fun h => by simp [Fence.wide] at h, (CallsIn.inRound l' (callsIn_wide.2 HG.out)).mono ?_⟩
    clear HG q0 q1 q2
    rintro e C ⟨rfl, hb5⟩
    have hs5 := hb5.size
    cases RG with
    | true =>
      have HN : Hid (GpI y W2 (s' ++ [p]) O' C) := ⟨HII.out.bel.trans (hb5.mono hAs), fun q hq => (List.mem_append.1 hq).elim (HII.out.reg q) (fun h => by rw [List.mem_singleton.1 h, HRG.out]), HII.out.lo⟩
      have HK : Hid (Kept (fun k => O' k ∨ k < W2.heap.size ∨ k = W2.heap.size ∨ k = W2.heap.size + 1) A' C) := kept_of hb5
      clear hb5
      gi_wp2
      exact ⟨HK.out, HN.out⟩
    | false =>
      have HCL := Lib.hid (cloneS_any (str p.1) C hps)
      have HB5 := Lib.hid hb5
      clear hb5
      gi_wp2_with fail
      refine ⟨trivial, fun h => by simp [Fence.wide] at h, (CallsIn.inRound l' (callsIn_wide.2 HCL.out)).mono ?_⟩
      clear HCL
      rintro e C1 ⟨rfl, hb6⟩
      have hb7 : Below A'.heap.size A' C1 := HB5.out.trans (hb6.mono hs5)
      have rf7 := HRF.out.below hb7 (by omega)
      have c7 := rf7.cell 0
      have f7 := rf7.frozen 0
      simp only [List.getElem?_cons_zero] at c7
      have HN : Hid (GpF y W2 (w.heap.size + 1) full (.exit 0) O' (C1.setCell ⟨w.heap.size + 1, 0, none⟩ (.iface 76 (.agg #[.string (str p.1), .slice PA p.2.length PC])))) :=
        ⟨rfl, kept_trans (kept_of HII.out.bel) (kept_trans (kept_of hb7) ⟨rfl, rfl, rfl, by simp [World.setCell], fun k _ hk => Below.heap_setCell _ _ _ _ (fun e => hk.2 e)⟩), ⟨s', p, tt, _, HTT.out, HII.out.reg, HRG.out.symm, rf7.set_ 0 _, ownsRow_keep1 HVO.out (fun g hg => by
          have hg2 := owns_lt HVO.out g hg
          exact (Below.heap_setCell _ _ _ _ (fun e => by have e' : g = w.heap.size + 1 := e; omega)).trans (hb7.block g hg2.2)), HV64.out, HVX.out⟩, HII.out.lo⟩
      have HK : Hid (Kept (fun k => O' k ∨ k = W2.heap.size ∨ k = W2.heap.size + 1) A' (C1.setCell ⟨w.heap.size + 1, 0, none⟩ (.iface 76 (.agg #[.string (str p.1), .slice PA p.2.length PC])))) :=
        kept_trans (kept_of hb7) ⟨rfl, rfl, rfl, by simp [World.setCell], fun k _ hk => Below.heap_setCell _ _ _ _ (fun e => by
          have e' : k = w.heap.size + 1 := e
          rcases hk with h | h | h
          · have := HII.out.lo k h; omega
          · omega
          · omega)⟩
      clear hb6 hb7 rf7
      gi_wp2
      exact ⟨HK.out, HN.out⟩
  case done =>
    intro O9 W' hI hdef
    have rf := HF2.out.below hI.bel (by omega)
    have c7 := rf.cell 0
    simp only [List.getElem?_cons_zero] at c7
    have HRG : Hid (regL y full = true) := List.all_eq_true.2 fun p hp => hI.reg p hp
    have HBW : Hid (Below w.heap.size w W') := HB2.out.trans (hI.bel.mono (by omega))
    have HDF := Lib.hid hdef
    clear hI rf hdef
    go_wp2
    refine ⟨by simp, .inl ⟨_, _, rfl, run_takeDeferred HDF.out, ?_⟩⟩
    refine ⟨.nilIface, by simp [results, Tryz.results40, go_sem], .inl ⟨rfl, HRG.out⟩, ?_⟩
    exact HBW.out.trans ⟨rfl, rfl, rfl, by simp, fun j hj => puts8 (by omega)⟩
  case stop =>
    intro c s9 O9 W' hX hdef
    obtain rfl := hX.out
    obtain ⟨s, p, t, v, g1, g2, g3, rf, ho, g6, hn⟩ := hX.gap
    have c7 := rf.cell 0
    simp only [List.getElem?_cons_zero] at c7
    have HBW : Hid (Below w.heap.size w W') := HB2.out.trans (kept_below hX.kp (fun k hk => ⟨by omega, by omega⟩) (by omega))
    have HDF := Lib.hid hdef
    have HG1 := Lib.hid g1
    have HG2 := Lib.hid g2
    have HG3 := Lib.hid g3
    have HO := Lib.hid ho
    have HG6 := Lib.hid g6
    obtain ⟨RX, hRX⟩ : ∃ x, x = Value.agg #[.string (str p.1), v] := ⟨_, rfl⟩
    rw [← hRX] at c7
    have HRX := Lib.hid hRX
    clear hX rf hdef g1 g2 g3 ho g6 hn hRX
    refine wpIn_wide.2 ?_
    go_wp2
    refine ⟨by simp, .inl ⟨_, _, rfl, run_takeDeferred HDF.out, ?_⟩⟩
    refine ⟨.iface 76 RX, by simp [results, Tryz.results40, go_sem], .inr ⟨s, p, t, v, HG1.out, HG2.out, HG3.out, by rw [HRX.out], ?_, HG6.out⟩, ?_⟩
    · exact ownsRow_keep1 (ownsRow_lower HO.out (by omega)) (fun g hg => puts8 (by have := (owns_lt HO.out g hg).1; omega))
    · exact HBW.out.trans ⟨rfl, rfl, rfl, by simp, fun j hj => puts8 (by omega)⟩
end Go.Proofs.YtnmbjmocnafekaaGreatDoor

namespace Go.Proofs.YtnmbjmocnafekaaGreatDoor
open Go.RowKit

noncomputable def badC (y : Sy) (p : List UInt8 × List Int) : Bool := !regB y (str p.1) p.2
/-- The first call that is not regular, as the program looks for it. -/
noncomputable def gapP (y : Sy) : Option (List UInt8 × List Int) := if syB y then (callsL y.ty.sizes.length (namesY y)).find? (badC y) else none
def gapN : Option (List UInt8 × List Int) → ByteArray
  | none => ⟨#[]⟩
  | some p => str p.1
def gapK : Option (List UInt8 × List Int) → List Int
  | none => []
  | some p => p.2
theorem gapP_none {y : Sy} (h : regL y (callsL y.ty.sizes.length (namesY y)) = true) : gapP y = none := by
  unfold gapP
  split
  · refine List.find?_eq_none.2 fun p hp => ?_
    have := List.all_eq_true.1 h p hp
    unfold badC
    rw [this]
    simp
  · rfl
theorem gapP_some {y : Sy} (hs : syB y = true) {s t : List (List UInt8 × List Int)} {p : List UInt8 × List Int} (e : callsL y.ty.sizes.length (namesY y) = s ++ p :: t) (h1 : ∀ q ∈ s, regB y (str q.1) q.2 = true) (h2 : regB y (str p.1) p.2 = false) : gapP y = some p := by
  unfold gapP
  rw [if_pos hs, e, List.find?_append, List.find?_eq_none.2 fun q hq => by unfold badC; rw [h1 q hq]; simp, Option.none_or, List.find?_cons_of_pos (by unfold badC; rw [h2]; rfl)]

/-- The letters that names can be. -/
def letters : List (List UInt8) := (List.range 6).map fun i => [UInt8.ofNat (102 + i)]
noncomputable def gapRow (y : Sy) (nm : List UInt8) (n : Nat) : Option (List UInt8 × List Int) := (kindsS y.ty.sizes.length n).findSome? fun ks => if regB y (str nm) ks then none else some (nm, ks)
noncomputable def gapNm (y : Sy) (nm : List UInt8) : Option (List UInt8 × List Int) := (List.range 3).findSome? fun n => gapRow y nm n
/-- As the model looks for it. -/
noncomputable def gapM (y : Sy) : Option (List UInt8 × List Int) := letters.findSome? fun nm => gapNm y nm

theorem findSome_or {α β : Type} (f : α → Option β) (a : α) (l : List α) : (a :: l).findSome? f = (f a).or (l.findSome? f) := by
  rw [List.findSome?_cons]
  cases f a <;> rfl
theorem letters_drop {i : Nat} (hi : i < 6) {β : Type} (p : List UInt8 → Option β) : ((letters.drop i).findSome? p) = (p [UInt8.ofNat (102 + i)]).or ((letters.drop (i + 1)).findSome? p) := by
  have hl : i < letters.length := by simp [letters]; omega
  rw [List.drop_eq_getElem_cons hl, findSome_or]
  congr 2
  simp [letters]
theorem range3_dropS {n : Nat} (hn : n < 3) {β : Type} (p : Nat → Option β) : (((List.range 3).drop n).findSome? p) = (p n).or (((List.range 3).drop (n + 1)).findSome? p) := by
  have hl : n < (List.range 3).length := by simp; omega
  rw [List.drop_eq_getElem_cons hl, findSome_or]
  congr 2
  simp

theorem findSome_cong {α β : Type} {f g : α → Option β} : ∀ {l : List α}, (∀ a ∈ l, f a = g a) → l.findSome? f = l.findSome? g
  | [], _ => rfl
  | a :: l, h => by
    rw [findSome_or, findSome_or, h a (by simp), findSome_cong fun b hb => h b (by simp [hb])]
theorem gapM_find (y : Sy) : gapM y = (callsL y.ty.sizes.length letters).find? (badC y) := by
  unfold gapM callsL
  rw [List.find?_flatten, List.findSome?_map]
  refine findSome_cong fun nm _ => ?_
  unfold gapNm callsN
  show _ = List.find? _ _
  rw [List.find?_flatten, List.findSome?_map]
  refine findSome_cong fun n hn => ?_
  unfold gapRow kindsL
  have hn3 := List.mem_range.1 hn
  show _ = List.find? _ _
  rw [List.find?_map, kindsS_rows _ (by omega)]
  induction rowsL (List.replicate n (y.ty.sizes.length : Int)) with
  | nil => rfl
  | cons r l ih =>
    rw [findSome_or, ih]
    cases h : regB y (str nm) r with
    | true =>
      rw [if_pos rfl, Option.none_or, List.find?_cons_of_neg (by simp [badC, h])]
    | false =>
      rw [if_neg (by simp), List.find?_cons_of_pos (by simp [badC, h])]
      rfl

theorem find_filter {α : Type} (p q : α → Bool) (h : ∀ a, q a = true → p a = true) : ∀ l : List α, (l.filter p).find? q = l.find? q
  | [] => rfl
  | a :: l => by
    rw [List.filter_cons]
    by_cases hq : q a = true
    · rw [if_pos (h a hq), List.find?_cons_of_pos hq, List.find?_cons_of_pos hq]
    · rw [List.find?_cons_of_neg hq]
      split
      · rw [List.find?_cons_of_neg hq]
        exact find_filter p q h l
      · exact find_filter p q h l
theorem letters_sorted : letters.Pairwise fun x z => decide (x ≤ z) = true := by decide
theorem letters_nodup : letters.Nodup := by decide
theorem calls_filter (t : Nat) (p : List UInt8 → Bool) : ∀ l : List (List UInt8), (callsL t l).filter (fun c => p c.1) = callsL t (l.filter p)
  | [] => rfl
  | nm :: l => by
    have e : callsL t (nm :: l) = callsN t nm ++ callsL t l := rfl
    have h1 : ∀ c ∈ callsN t nm, c.1 = nm := fun c hc => by
      unfold callsN kindsL at hc
      obtain ⟨l2, hl2, hp2⟩ := List.mem_flatten.1 hc
      obtain ⟨n, hn, rfl⟩ := List.mem_map.1 hl2
      obtain ⟨r, hr, rfl⟩ := List.mem_map.1 hp2
      rfl
    rw [e, List.filter_append, calls_filter t p l, List.filter_cons]
    cases h : p nm with
    | true =>
      rw [if_pos rfl, List.filter_eq_self.2 fun c hc => by rw [h1 c hc]; exact h]
      rfl
    | false =>
      rw [if_neg (by simp), List.filter_eq_nil_iff.2 fun c hc => by rw [h1 c hc, h]; simp]
      rfl
theorem names_letters {y : Sy} (hy : SyOk y) : namesY y = letters.filter fun nm => decide (nm ∈ namesB y) := by
  have hnd : (letters.filter fun nm => decide (nm ∈ namesB y)).Nodup := letters_nodup.filter _
  have hp : (letters.filter fun nm => decide (nm ∈ namesB y)).Perm (namesB y) := by
    refine (List.perm_ext_iff_of_nodup hnd (namesB_spec y).1).2 fun x => ?_
    rw [List.mem_filter, decide_eq_true_iff]
    refine ⟨fun h => h.2, fun h => ⟨?_, h⟩⟩
    obtain ⟨i, hi, e⟩ := namesY_mem.1 (show x ∈ namesY y from (List.mergeSort_perm _ _).mem_iff.2 h)
    obtain ⟨b, hb, h3, h4⟩ := (hy.each i hi).name
    have e2 : x = [b] := by
      have := e.symm.trans hb
      have h5 := congrArg (fun z : ByteArray => z.data.toList) this
      simpa [str] using h5
    rw [e2]
    refine List.mem_map.2 ⟨b.toNat - 102, List.mem_range.2 (by omega), ?_⟩
    rw [show 102 + (b.toNat - 102) = b.toNat by omega, UInt8.ofNat_toNat]
  unfold namesY
  rw [← mergeSort_of_perm hp]
  exact List.mergeSort_of_pairwise (letters_sorted.filter _)
theorem bad_named {y : Sy} {c : List UInt8 × List Int} (h : badC y c = true) : c.1 ∈ namesB y := by
  unfold badC at h
  cases hL : applicV y (str c.1) c.2 with
  | nil => rw [regB_nil hL] at h; simp at h
  | cons z l =>
    obtain ⟨_, i, hi, hname, _, _⟩ := applicV_mem.1 (show z ∈ applicV y (str c.1) c.2 by rw [hL]; simp)
    rw [getD_of hi] at hname
    exact (List.mergeSort_perm _ _).mem_iff.1 (namesY_mem.2 ⟨i, hi, hname⟩)
theorem gap_same (y : Sy) : gapP y = if syB y then gapM y else none := by
  unfold gapP
  cases hs : syB y with
  | false => rfl
  | true =>
    rw [if_pos rfl, if_pos rfl, gapM_find, names_letters (syB_iff.1 hs), ← calls_filter]
    exact find_filter _ _ (fun a h => by simpa using bad_named h) _
end Go.Proofs.YtnmbjmocnafekaaGreatDoor

