/-
  The contracts of the program's isFunctionName, areIndices and fits of a function.
-/
import Derived.Test.YtfcekbjoagogdaaDoorFok
import Derived.Test.YtfcekbjoagogdaaDoorSv
import Derived.Test.YtfcekbjoagogdaaDoorIv
namespace Go.Proofs.YtfcekbjoagogdaaDoor
open Go.RowKit
attribute [local go_sem] Oper.semAt_some

theorem one_byte {s : ByteArray} (h : s.size = 1) : ∃ b : UInt8, s = ⟨#[b]⟩ := by
  obtain ⟨⟨l⟩⟩ := s
  match l, h with
  | [b], _ => exact ⟨b, rfl⟩
open Classical in
noncomputable def nameB (s : ByteArray) : Bool := decide (NameOk s)
theorem nameB_yes {s : ByteArray} (h : NameOk s) : nameB s = true := by unfold nameB; exact @decide_eq_true _ (Classical.propDecidable _) h
theorem nameB_no {s : ByteArray} (h : ¬ NameOk s) : nameB s = false := by unfold nameB; exact @decide_eq_false _ (Classical.propDecidable _) h
theorem nameOk_byte {b : UInt8} : NameOk ⟨#[b]⟩ ↔ 102 ≤ b.toNat ∧ b.toNat ≤ 107 := by
  constructor
  · rintro ⟨c, h, h1, h2⟩
    simp only [ByteArray.mk.injEq, Array.mk.injEq, List.cons.injEq, and_true] at h
    subst h
    exact ⟨h1, h2⟩
  · rintro ⟨h1, h2⟩
    exact ⟨b, rfl, h1, h2⟩

set_option maxRecDepth 100000 in
set_option maxHeartbeats 800000 in
theorem isFunctionName_any (s : ByteArray) (w : World) (hs : s.size ≤ maxLen) : Calls Tryd.prog 109 #[.string s] w fun e w' => e = .returned (.bool (nameB s)) ∧ w = w' := by
  unfold maxLen at hs
  by_cases h1 : s.size = 1
  · obtain ⟨b, rfl⟩ := one_byte h1
    have hsz : (⟨#[b]⟩ : ByteArray).size = 1 := rfl
    clear h1 hs
    by_cases h2 : 102 ≤ b.toNat
    · have e2 : (102 : Int) ≤ (((⟨#[b]⟩ : ByteArray)[0]'(by show 0 < 1; omega)).toNat : Int) := by show (102 : Int) ≤ (b.toNat : Int); omega
      have H : Hid (nameB ⟨#[b]⟩ = decide ((b.toNat : Int) ≤ 107)) := by
        show _ = _
        by_cases h3 : b.toNat ≤ 107
        · rw [nameB_yes (nameOk_byte.2 ⟨h2, h3⟩), decide_eq_true (by omega)]
        · rw [nameB_no (fun h => h3 (nameOk_byte.1 h).2), decide_eq_false (by omega)]
      go_enter Tryd.func109, Tryd.ntmps109
      go_wp2
      go_ret
      exact ⟨ret_bool H.out.symm, rfl⟩
    · have e2 : decide ((102 : Int) ≤ (((⟨#[b]⟩ : ByteArray)[0]'(by show 0 < 1; omega)).toNat : Int)) = false := decide_eq_false (by show ¬ (102 : Int) ≤ (b.toNat : Int); omega)
      have H : Hid (nameB ⟨#[b]⟩ = false) := nameB_no (fun h => h2 (nameOk_byte.1 h).1)
      go_enter Tryd.func109, Tryd.ntmps109
      go_wp2
      go_ret
      exact ⟨ret_bool H.out.symm, rfl⟩
  · have H : Hid (nameB s = false) := nameB_no (by rintro ⟨b, rfl, _⟩; exact h1 rfl)
    have hd : ((s.size : Int) == 1) = false := by simp; omega
    go_enter Tryd.func109, Tryd.ntmps109
    go_wp2
    go_ret
    exact ⟨ret_bool H.out.symm, rfl⟩

/-- Each number refers to one of n elements. -/
def allIx (zs : List Int) (n : Int) : Bool := zs.all fun z => ixB z n
theorem allIx_iff {zs : List Int} {n : Int} : allIx zs n = true ↔ ∀ j, ∀ (hj : j < zs.length), 0 ≤ zs[j] ∧ zs[j] < n := by
  unfold allIx
  rw [List.all_eq_true]
  constructor
  · intro h j hj
    simpa [ixB] using h _ (List.getElem_mem hj)
  · intro h z hz
    obtain ⟨j, hj, rfl⟩ := List.getElem_of_mem hz
    simpa [ixB] using h j hj

set_option maxRecDepth 100000 in
set_option maxHeartbeats 800000 in
theorem areIndices_any (lo hi : Nat) (v : Value) (zs : List Int) (n : Int) (w : World) (hv : IntsAt w lo hi v zs) :
    Calls Tryd.prog 88 #[v, .int .i64 n] w fun e w' => e = .returned (.bool (allIx zs n)) ∧ w = w' := by
  obtain ⟨A, cap, rfl, hl, hm, hz⟩ := hv.form
  unfold maxLen at hm
  have Hz := Lib.hid hz
  clear hz hv
  go_enter Tryd.func88, Tryd.ntmps88
  go_wp2
  go_loop [9] (fun i => ∃ k : Nat, k ≤ zs.length ∧ i = .int .i64 k ∧ Hid (∀ j, j < k → ∀ (hj : j < zs.length), ixB zs[j] n = true)) (fun i => zs.length - (intOf i).toNat)
  case atStart => exact ⟨0, Nat.zero_le _, rfl, fun j hj => absurd hj (by omega)⟩
  case round =>
    obtain ⟨k, hk, rfl, hok⟩ := hrel
    by_cases hlt : k < zs.length
    · obtain ⟨b, off, rfl, _, _, c0, _⟩ := Hz.out.at_ hlt
      by_cases hin : ixB zs[k] n = true
      · have hin' := Lib.hid hin
        go_wp2_with (go_at_call 99; refine (isIndex_any _ _ _).mono ?_; rintro e w' ⟨rfl, rfl⟩; rw [hin])
        go_round
        case rel =>
          refine ⟨k + 1, by omega, by go_num, fun j hj hjl => ?_⟩
          by_cases ej : j = k
          · subst ej; exact hin'.out
          · exact hok.out j (by omega) hjl
        case measure => simp [intOf]; omega
      · have hinf : ixB zs[k] n = false := by simpa using hin
        have hfin : Hid (allIx zs n = false) := by show _ = _; unfold allIx; exact all_false_of (p := fun z => ixB z n) k hlt hinf
        clear hin
        go_wp2_with (go_at_call 99; refine (isIndex_any _ _ _).mono ?_; rintro e w' ⟨rfl, rfl⟩; rw [hinf])
        go_ret
        exact ⟨ret_bool hfin.out.symm, rfl⟩
    · obtain rfl : k = zs.length := by omega
      have hfin : Hid (allIx zs n = true) := by show _ = _; unfold allIx; exact all_true_of (p := fun z => ixB z n) fun j hj => hok.out j hj hj
      go_wp2
      go_ret
      exact ⟨ret_bool hfin.out.symm, rfl⟩

set_option maxRecDepth 100000 in
set_option maxHeartbeats 4000000 in
theorem fitsFu_any (lo hi lo' hi' : Nat) (sv x a r t : Value) (ss : List Int) (f : Fu) (w : World) (hv : IntsAt w lo hi sv ss) (hc : FuAt w lo' hi' x a r t f) (hB : hi ≤ w.heap.size) (hB' : hi' ≤ w.heap.size) (hok : sizesOk ss = true) :
    Calls Tryd.prog 93 #[.agg #[x, a, r, t], sv] w fun e w' => e = .returned (.bool (fuB ss f)) ∧ Below w.heap.size w w' := by
  obtain ⟨g1, g5, hall⟩ := sizesOk_of hok
  obtain ⟨rfl, rfl, hn, hr, ha, ht⟩ := hc
  obtain ⟨A, cap, rfl, _, _, hi1⟩ := hv.form
  obtain ⟨A1, cap1, rfl, hl1, hm1, ha1⟩ := ha.form
  obtain ⟨A2, cap2, rfl, hl2, hm2, ht1⟩ := ht.form
  unfold maxLen at hm1 hm2
  unfold I64 at hr
  have h3 : Below w.heap.size w (w.alloc (.cells #[.string f.name, .slice A1 f.args.length cap1, .int .i64 f.res, .slice A2 f.table.length cap2] 84)) := by go_grown
  clear hv ha ht
  by_cases c1 : NameOk f.name
  case neg =>
    have H : Hid (fuB ss f = false) := fuB_no fun h => c1 h.name
    have hN := nameB_no c1
    go_enter Tryd.func93, Tryd.ntmps93
    go_wp2_with (go_at_call 109; refine (isFunctionName_any _ _ hn).mono ?_; rintro e w' ⟨rfl, rfl⟩; rw [hN])
    go_ret
    exact ⟨ret_bool H.out.symm, h3⟩
  have hN := nameB_yes c1
  by_cases c2 : f.args.length ≤ 2
  case neg =>
    have H : Hid (fuB ss f = false) := fuB_no fun h => c2 h.few
    have hd : decide ((2 : Int) < (f.args.length : Int)) = true := by simp; omega
    go_enter Tryd.func93, Tryd.ntmps93
    go_wp2_with (go_at_call 109; refine (isFunctionName_any _ _ hn).mono ?_; rintro e w' ⟨rfl, rfl⟩; rw [hN])
    go_ret
    exact ⟨ret_bool H.out.symm, h3⟩
  have hd : decide ((2 : Int) < (f.args.length : Int)) = false := by simp; omega
  by_cases c3 : allIx f.args (ss.length : Int) = true
  case neg =>
    have H : Hid (fuB ss f = false) := fuB_no fun h => c3 (allIx_iff.2 h.args)
    have c3f : allIx f.args (ss.length : Int) = false := by simpa using c3
    go_enter Tryd.func93, Tryd.ntmps93
    go_wp2_with (first | (go_at_call 109; refine (isFunctionName_any _ _ hn).mono ?_; rintro e w' ⟨rfl, rfl⟩; rw [hN]) | (go_at_call 88; refine (areIndices_any _ _ _ f.args _ _ (ha1.below h3 hB')).mono ?_; rintro e w' ⟨rfl, rfl⟩; rw [c3f]))
    go_ret
    exact ⟨ret_bool H.out.symm, h3⟩
  by_cases c4 : ixB f.res (ss.length : Int) = true
  case neg =>
    have H : Hid (fuB ss f = false) := fuB_no fun h => c4 (ixB_yes h.res.1 h.res.2)
    have c4f : ixB f.res (ss.length : Int) = false := by simpa using c4
    go_enter Tryd.func93, Tryd.ntmps93
    go_wp2_with (first | (go_at_call 109; refine (isFunctionName_any _ _ hn).mono ?_; rintro e w' ⟨rfl, rfl⟩; rw [hN]) | (go_at_call 88; refine (areIndices_any _ _ _ f.args _ _ (ha1.below h3 hB')).mono ?_; rintro e w' ⟨rfl, rfl⟩; rw [c3]) | (go_at_call 99; refine (isIndex_any _ _ _).mono ?_; rintro e w' ⟨rfl, rfl⟩; rw [c4f]))
    go_ret
    exact ⟨ret_bool H.out.symm, h3⟩
  have hargs := allIx_iff.1 c3
  have hres : 0 ≤ f.res ∧ f.res < ss.length := by simpa [ixB] using c4
  have Hsm := Lib.hid (cellsTo_small hok hargs c2)
  have Hargs := Lib.hid hargs
  have Hall := Lib.hid hall
  have C1 := Lib.hid c1
  have C2 := Lib.hid c2
  clear hall hargs c1 c2
  go_enter Tryd.func93, Tryd.ntmps93
  go_wp2_with (first | (go_at_call 109; refine (isFunctionName_any _ _ hn).mono ?_; rintro e w' ⟨rfl, rfl⟩; rw [hN]) | (go_at_call 88; refine (areIndices_any _ _ _ f.args _ _ (ha1.below h3 hB')).mono ?_; rintro e w' ⟨rfl, rfl⟩; rw [c3]) | (go_at_call 99; refine (isIndex_any _ _ _).mono ?_; rintro e w' ⟨rfl, rfl⟩; rw [c4]))
  obtain ⟨wb, hwb⟩ : ∃ wb, wb = w.alloc (.cells #[.string f.name, .slice A1 f.args.length cap1, .int .i64 f.res, .slice A2 f.table.length cap2] 84) := ⟨_, rfl⟩
  have hrow : Row wb w.heap.size 84 [.string f.name, .slice A1 f.args.length cap1, .int .i64 f.res, .slice A2 f.table.length cap2] := by rw [hwb]; exact Row.new _ _ _
  have hbb : Below w.heap.size w wb := by rw [hwb]; exact h3
  have q0 := hrow.cell 0
  have q1 := hrow.cell 1
  have q2 := hrow.cell 2
  have q3 := hrow.cell 3
  simp only [List.getElem?_cons_zero, List.getElem?_cons_succ] at q0 q1 q2 q3
  have Hi := Lib.hid (hi1.below hbb hB)
  have Ha := Lib.hid (ha1.below hbb hB')
  have Ht := Lib.hid (ht1.below hbb hB')
  have Hbb := Lib.hid hbb
  rw [← hwb]
  clear hi1 ha1 ht1 hbb h3 hrow hwb hd hN c3 c4 hok
  go_loop [5, 37] (fun r i => ∃ k : Nat, k ≤ f.args.length ∧ i = .int .i64 k ∧ r = .int .i64 (cellsTo ss f.args k)) (fun _ i => f.args.length - (intOf i).toNat)
  case atStart => exact ⟨0, Nat.zero_le _, rfl, rfl⟩
  case round =>
    obtain ⟨k, hk, rfl, rfl⟩ := hrel
    by_cases hlt : k < f.args.length
    · obtain ⟨b, off, rfl, _, _, e0, _⟩ := Ha.out.at_ hlt
      obtain ⟨h0, h1⟩ := Hargs.out k hlt
      have hlt2 : f.args[k].toNat < ss.length := by omega
      obtain ⟨b2, off2, rfl, _, _, e1, _⟩ := Hi.out.at_ hlt2
      have hs := Hsm.out (k + 1) hlt
      have hstep : cellsTo ss f.args (k + 1) = cellsTo ss f.args k * ss[f.args[k].toNat] := by
        show cellsTo ss f.args k * ss.getD (f.args.getD k 0).toNat 0 = _
        rw [List.getD_eq_getElem?_getD (l := f.args), List.getElem?_eq_getElem hlt, Option.getD_some, List.getD_eq_getElem?_getD, List.getElem?_eq_getElem hlt2]
        rfl
      rw [hstep] at hs
      have hwr := wrapIn (cellsTo ss f.args k * ss[f.args[k].toNat]) (by omega) (by omega)
      have Hstep := Lib.hid hstep
      clear hstep hs
      go_wp2
      go_round
      case rel => exact ⟨k + 1, by omega, by go_num, by rw [Hstep.out]⟩
      case measure => simp [intOf]; omega
    · obtain rfl : k = f.args.length := by omega
      have hlt2 : f.res.toNat < ss.length := by omega
      have hr0 := hres.1
      have hr1 := hres.2
      obtain ⟨b2, off2, rfl, _, _, e1, _⟩ := Hi.out.at_ hlt2
      have Hget : Hid (ss.getD f.res.toNat 0 = ss[f.res.toNat]) := by show _ = _; rw [List.getD_eq_getElem?_getD, List.getElem?_eq_getElem hlt2]; rfl
      go_wp2
      by_cases hc : (f.table.length : Int) = cellsTo ss f.args f.args.length
      · have hd : ((f.table.length : Int) == cellsTo ss f.args f.args.length) = true := by simpa using hc
        have H : Hid (fuB ss f = allIx f.table ss[f.res.toNat]) := by
          show _ = _
          rw [Bool.eq_iff_iff, fuB_iff, allIx_iff]
          constructor
          · intro h j hj
            rw [← Hget.out]; exact h.table j hj
          · intro h
            exact ⟨C1.out, C2.out, Hargs.out, hres, hc, fun j hj => by rw [Hget.out]; exact h j hj⟩
        clear hc
        go_quiet ((first | (go_at_call 88; exact quiet_eq (areIndices_any _ _ _ f.table _ _ Ht.out))))
        go_wp2
        go_ret
        exact ⟨ret_bool H.out.symm, below_drewN Hbb.out _⟩
      · have hd : ((f.table.length : Int) == cellsTo ss f.args f.args.length) = false := by simpa using hc
        have H : Hid (fuB ss f = false) := fuB_no fun h => hc h.len
        clear hc
        go_quiet (fail)
        go_wp2
        go_ret
        exact ⟨ret_bool H.out.symm, below_drewN Hbb.out _⟩
end Go.Proofs.YtfcekbjoagogdaaDoor
