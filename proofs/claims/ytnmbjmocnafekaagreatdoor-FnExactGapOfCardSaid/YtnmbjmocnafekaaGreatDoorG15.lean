/-
  The contracts of the program's isFunctionName, areIndices and fits of a function.
  The contracts of the model's l4Cells and l4Function.
  The contract of the model's comparison of two lists.
-/
import Derived.Test.YtnmbjmocnafekaaGreatDoorG9
import Derived.Test.YtnmbjmocnafekaaGreatDoorG5
import Derived.Test.YtnmbjmocnafekaaGreatDoorG6
import Derived.Test.YtnmbjmocnafekaaGreatDoorRows
import Derived.Test.YtnmbjmocnafekaaGreatDoorG1
import Derived.Outline
import Derived.Handy
import Derived.BigQuiet
import Derived.Deep.QuietTactic
import Derived.StillTailTactics
namespace Go.Proofs.YtnmbjmocnafekaaGreatDoor
open Go.RowKit
attribute [local go_sem] Oper.semAt_some

theorem one_byte {s : ByteArray} (h : s.size = 1) : ∃ b : UInt8, s = ⟨#[b]⟩ := by
  obtain ⟨⟨l⟩⟩ := s
  match l, h with
  | [b], _ => exact ⟨b, rfl⟩
open Classical in
noncomputable def nameB (s : ByteArray) : Bool := decide (NameOk s)
theorem nameB_yes {s : ByteArray} (h : NameOk s) : nameB s = true := by unfold nameB; exact @decide_eq_true _ (Classical.propDecidable _) h
theorem nameB_no {s : ByteArray} (h : ¬ NameOk s) : nameB s = false := by unfold nameB; exact @decide_eq_false _ (Classical.propDecidable _) h
theorem nameOk_byte {b : UInt8} : NameOk ⟨#[b]⟩ ↔ 102 ≤ b.toNat ∧ b.toNat ≤ 107 := by
  constructor
  · rintro ⟨c, h, h1, h2⟩
    simp only [ByteArray.mk.injEq, Array.mk.injEq, List.cons.injEq, and_true] at h
    subst h
    exact ⟨h1, h2⟩
  · rintro ⟨h1, h2⟩
    exact ⟨b, rfl, h1, h2⟩

set_option maxRecDepth 100000 in
set_option maxHeartbeats 800000 in
theorem isFunctionName_any (s : ByteArray) (w : World) (hs : s.size ≤ maxLen) : Calls Tryz.prog 143 #[.string s] w fun e w' => e = .returned (.bool (nameB s)) ∧ w = w' := by
  unfold maxLen at hs
  by_cases h1 : s.size = 1
  · obtain ⟨b, rfl⟩ := one_byte h1
    have hsz : (⟨#[b]⟩ : ByteArray).size = 1 := rfl
    clear h1 hs
    by_cases h2 : 102 ≤ b.toNat
    · have e2 : (102 : Int) ≤ (((⟨#[b]⟩ : ByteArray)[0]'(by show 0 < 1; omega)).toNat : Int) := by show (102 : Int) ≤ (b.toNat : Int); omega
      have H : Hid (nameB ⟨#[b]⟩ = decide ((b.toNat : Int) ≤ 107)) := by
        show _ = _
        by_cases h3 : b.toNat ≤ 107
        · rw [nameB_yes (nameOk_byte.2 ⟨h2, h3⟩), decide_eq_true (by omega)]
        · rw [nameB_no (fun h => h3 (nameOk_byte.1 h).2), decide_eq_false (by omega)]
      go_enter Tryz.func143, Tryz.ntmps143
      go_wp2
      go_ret
      exact ⟨ret_bool H.out.symm, rfl⟩
    · have e2 : decide ((102 : Int) ≤ (((⟨#[b]⟩ : ByteArray)[0]'(by show 0 < 1; omega)).toNat : Int)) = false := decide_eq_false (by show ¬ (102 : Int) ≤ (b.toNat : Int); omega)
      have H : Hid (nameB ⟨#[b]⟩ = false) := nameB_no (fun h => h2 (nameOk_byte.1 h).1)
      go_enter Tryz.func143, Tryz.ntmps143
      go_wp2
      go_ret
      exact ⟨ret_bool H.out.symm, rfl⟩
  · have H : Hid (nameB s = false) := nameB_no (by rintro ⟨b, rfl, _⟩; exact h1 rfl)
    have hd : ((s.size : Int) == 1) = false := by simp; omega
    go_enter Tryz.func143, Tryz.ntmps143
    go_wp2
    go_ret
    exact ⟨ret_bool H.out.symm, rfl⟩

/-- Each number refers to one of n elements. -/
def allIx (zs : List Int) (n : Int) : Bool := zs.all fun z => ixB z n
theorem allIx_iff {zs : List Int} {n : Int} : allIx zs n = true ↔ ∀ j, ∀ (hj : j < zs.length), 0 ≤ zs[j] ∧ zs[j] < n := by
  unfold allIx
  rw [List.all_eq_true]
  constructor
  · intro h j hj
    simpa [ixB] using h _ (List.getElem_mem hj)
  · intro h z hz
    obtain ⟨j, hj, rfl⟩ := List.getElem_of_mem hz
    simpa [ixB] using h j hj

set_option maxRecDepth 100000 in
set_option maxHeartbeats 800000 in
theorem areIndices_any (lo hi : Nat) (v : Value) (zs : List Int) (n : Int) (w : World) (hv : IntsAt w lo hi v zs) :
    Calls Tryz.prog 144 #[v, .int .i64 n] w fun e w' => e = .returned (.bool (allIx zs n)) ∧ w = w' := by
  obtain ⟨A, cap, rfl, hl, hm, hz⟩ := hv.form
  unfold maxLen at hm
  have Hz := Lib.hid hz
  clear hz hv
  go_enter Tryz.func144, Tryz.ntmps144
  go_wp2
  go_loop [9] (fun i => ∃ k : Nat, k ≤ zs.length ∧ i = .int .i64 k ∧ Hid (∀ j, j < k → ∀ (hj : j < zs.length), ixB zs[j] n = true)) (fun i => zs.length - (intOf i).toNat)
  case atStart => exact ⟨0, Nat.zero_le _, rfl, fun j hj => absurd hj (by omega)⟩
  case round =>
    obtain ⟨k, hk, rfl, hok⟩ := hrel
    by_cases hlt : k < zs.length
    · obtain ⟨b, off, rfl, _, _, c0, _⟩ := Hz.out.at_ hlt
      by_cases hin : ixB zs[k] n = true
      · have hin' := Lib.hid hin
        go_wp2_with (go_at_call 93; refine (isIndex_any _ _ _).mono ?_; rintro e w' ⟨rfl, rfl⟩; rw [hin])
        go_round
        case rel =>
          refine ⟨k + 1, by omega, by go_num, fun j hj hjl => ?_⟩
          by_cases ej : j = k
          · subst ej; exact hin'.out
          · exact hok.out j (by omega) hjl
        case measure => simp [intOf]; omega
      · have hinf : ixB zs[k] n = false := by simpa using hin
        have hfin : Hid (allIx zs n = false) := by show _ = _; unfold allIx; exact all_false_of (p := fun z => ixB z n) k hlt hinf
        clear hin
        go_wp2_with (go_at_call 93; refine (isIndex_any _ _ _).mono ?_; rintro e w' ⟨rfl, rfl⟩; rw [hinf])
        go_ret
        exact ⟨ret_bool hfin.out.symm, rfl⟩
    · obtain rfl : k = zs.length := by omega
      have hfin : Hid (allIx zs n = true) := by show _ = _; unfold allIx; exact all_true_of (p := fun z => ixB z n) fun j hj => hok.out j hj hj
      go_wp2
      go_ret
      exact ⟨ret_bool hfin.out.symm, rfl⟩

set_option maxRecDepth 100000 in
set_option maxHeartbeats 4000000 in
theorem fitsFu_any (lo hi lo' hi' : Nat) (sv x a r t : Value) (ss : List Int) (f : Fu) (w : World) (hv : IntsAt w lo hi sv ss) (hc : FuAt w lo' hi' x a r t f) (hB : hi ≤ w.heap.size) (hB' : hi' ≤ w.heap.size) (hok : sizesOk ss = true) :
    Calls Tryz.prog 110 #[.agg #[x, a, r, t], sv] w fun e w' => e = .returned (.bool (fuB ss f)) ∧ Below w.heap.size w w' := by
  obtain ⟨g1, g5, hall⟩ := sizesOk_of hok
  obtain ⟨rfl, rfl, hn, hr, ha, ht⟩ := hc
  obtain ⟨A, cap, rfl, _, _, hi1⟩ := hv.form
  obtain ⟨A1, cap1, rfl, hl1, hm1, ha1⟩ := ha.form
  obtain ⟨A2, cap2, rfl, hl2, hm2, ht1⟩ := ht.form
  unfold maxLen at hm1 hm2
  unfold I64 at hr
  have h3 : Below w.heap.size w (w.alloc (.cells #[.string f.name, .slice A1 f.args.length cap1, .int .i64 f.res, .slice A2 f.table.length cap2] 111)) := by go_grown
  clear hv ha ht
  by_cases c1 : NameOk f.name
  case neg =>
    have H : Hid (fuB ss f = false) := fuB_no fun h => c1 h.name
    have hN := nameB_no c1
    go_enter Tryz.func110, Tryz.ntmps110
    go_wp2_with (go_at_call 143; refine (isFunctionName_any _ _ hn).mono ?_; rintro e w' ⟨rfl, rfl⟩; rw [hN])
    go_ret
    exact ⟨ret_bool H.out.symm, h3⟩
  have hN := nameB_yes c1
  by_cases c2 : f.args.length ≤ 2
  case neg =>
    have H : Hid (fuB ss f = false) := fuB_no fun h => c2 h.few
    have hd : decide ((2 : Int) < (f.args.length : Int)) = true := by simp; omega
    go_enter Tryz.func110, Tryz.ntmps110
    go_wp2_with (go_at_call 143; refine (isFunctionName_any _ _ hn).mono ?_; rintro e w' ⟨rfl, rfl⟩; rw [hN])
    go_ret
    exact ⟨ret_bool H.out.symm, h3⟩
  have hd : decide ((2 : Int) < (f.args.length : Int)) = false := by simp; omega
  by_cases c3 : allIx f.args (ss.length : Int) = true
  case neg =>
    have H : Hid (fuB ss f = false) := fuB_no fun h => c3 (allIx_iff.2 h.args)
    have c3f : allIx f.args (ss.length : Int) = false := by simpa using c3
    go_enter Tryz.func110, Tryz.ntmps110
    go_wp2_with (first | (go_at_call 143; refine (isFunctionName_any _ _ hn).mono ?_; rintro e w' ⟨rfl, rfl⟩; rw [hN]) | (go_at_call 144; refine (areIndices_any _ _ _ f.args _ _ (ha1.below h3 hB')).mono ?_; rintro e w' ⟨rfl, rfl⟩; rw [c3f]))
    go_ret
    exact ⟨ret_bool H.out.symm, h3⟩
  by_cases c4 : ixB f.res (ss.length : Int) = true
  case neg =>
    have H : Hid (fuB ss f = false) := fuB_no fun h => c4 (ixB_yes h.res.1 h.res.2)
    have c4f : ixB f.res (ss.length : Int) = false := by simpa using c4
    go_enter Tryz.func110, Tryz.ntmps110
    go_wp2_with (first | (go_at_call 143; refine (isFunctionName_any _ _ hn).mono ?_; rintro e w' ⟨rfl, rfl⟩; rw [hN]) | (go_at_call 144; refine (areIndices_any _ _ _ f.args _ _ (ha1.below h3 hB')).mono ?_; rintro e w' ⟨rfl, rfl⟩; rw [c3]) | (go_at_call 93; refine (isIndex_any _ _ _).mono ?_; rintro e w' ⟨rfl, rfl⟩; rw [c4f]))
    go_ret
    exact ⟨ret_bool H.out.symm, h3⟩
  have hargs := allIx_iff.1 c3
  have hres : 0 ≤ f.res ∧ f.res < ss.length := by simpa [ixB] using c4
  have Hsm := Lib.hid (cellsTo_small hok hargs c2)
  have Hargs := Lib.hid hargs
  have Hall := Lib.hid hall
  have C1 := Lib.hid c1
  have C2 := Lib.hid c2
  clear hall hargs c1 c2
  go_enter Tryz.func110, Tryz.ntmps110
  go_wp2_with (first | (go_at_call 143; refine (isFunctionName_any _ _ hn).mono ?_; rintro e w' ⟨rfl, rfl⟩; rw [hN]) | (go_at_call 144; refine (areIndices_any _ _ _ f.args _ _ (ha1.below h3 hB')).mono ?_; rintro e w' ⟨rfl, rfl⟩; rw [c3]) | (go_at_call 93; refine (isIndex_any _ _ _).mono ?_; rintro e w' ⟨rfl, rfl⟩; rw [c4]))
  obtain ⟨wb, hwb⟩ : ∃ wb, wb = w.alloc (.cells #[.string f.name, .slice A1 f.args.length cap1, .int .i64 f.res, .slice A2 f.table.length cap2] 111) := ⟨_, rfl⟩
  have hrow : Row wb w.heap.size 111 [.string f.name, .slice A1 f.args.length cap1, .int .i64 f.res, .slice A2 f.table.length cap2] := by rw [hwb]; exact Row.new _ _ _
  have hbb : Below w.heap.size w wb := by rw [hwb]; exact h3
  have q0 := hrow.cell 0
  have q1 := hrow.cell 1
  have q2 := hrow.cell 2
  have q3 := hrow.cell 3
  simp only [List.getElem?_cons_zero, List.getElem?_cons_succ] at q0 q1 q2 q3
  have Hi := Lib.hid (hi1.below hbb hB)
  have Ha := Lib.hid (ha1.below hbb hB')
  have Ht := Lib.hid (ht1.below hbb hB')
  have Hbb := Lib.hid hbb
  rw [← hwb]
  clear hi1 ha1 ht1 hbb h3 hrow hwb hd hN c3 c4 hok
  go_loop [5, 37] (fun r i => ∃ k : Nat, k ≤ f.args.length ∧ i = .int .i64 k ∧ r = .int .i64 (cellsTo ss f.args k)) (fun _ i => f.args.length - (intOf i).toNat)
  case atStart => exact ⟨0, Nat.zero_le _, rfl, rfl⟩
  case round =>
    obtain ⟨k, hk, rfl, rfl⟩ := hrel
    by_cases hlt : k < f.args.length
    · obtain ⟨b, off, rfl, _, _, e0, _⟩ := Ha.out.at_ hlt
      obtain ⟨h0, h1⟩ := Hargs.out k hlt
      have hlt2 : f.args[k].toNat < ss.length := by omega
      obtain ⟨b2, off2, rfl, _, _, e1, _⟩ := Hi.out.at_ hlt2
      have hs := Hsm.out (k + 1) hlt
      have hstep : cellsTo ss f.args (k + 1) = cellsTo ss f.args k * ss[f.args[k].toNat] := by
        show cellsTo ss f.args k * ss.getD (f.args.getD k 0).toNat 0 = _
        rw [List.getD_eq_getElem?_getD (l := f.args), List.getElem?_eq_getElem hlt, Option.getD_some, List.getD_eq_getElem?_getD, List.getElem?_eq_getElem hlt2]
        rfl
      rw [hstep] at hs
      have hwr := wrapIn (cellsTo ss f.args k * ss[f.args[k].toNat]) (by omega) (by omega)
      have Hstep := Lib.hid hstep
      clear hstep hs
      go_wp2
      go_round
      case rel => exact ⟨k + 1, by omega, by go_num, by rw [Hstep.out]⟩
      case measure => simp [intOf]; omega
    · obtain rfl : k = f.args.length := by omega
      have hlt2 : f.res.toNat < ss.length := by omega
      have hr0 := hres.1
      have hr1 := hres.2
      obtain ⟨b2, off2, rfl, _, _, e1, _⟩ := Hi.out.at_ hlt2
      have Hget : Hid (ss.getD f.res.toNat 0 = ss[f.res.toNat]) := by show _ = _; rw [List.getD_eq_getElem?_getD, List.getElem?_eq_getElem hlt2]; rfl
      go_wp2
      by_cases hc : (f.table.length : Int) = cellsTo ss f.args f.args.length
      · have hd : ((f.table.length : Int) == cellsTo ss f.args f.args.length) = true := by simpa using hc
        have H : Hid (fuB ss f = allIx f.table ss[f.res.toNat]) := by
          show _ = _
          rw [Bool.eq_iff_iff, fuB_iff, allIx_iff]
          constructor
          · intro h j hj
            rw [← Hget.out]; exact h.table j hj
          · intro h
            exact ⟨C1.out, C2.out, Hargs.out, hres, hc, fun j hj => by rw [Hget.out]; exact h j hj⟩
        clear hc
        go_quiet ((first | (go_at_call 144; exact quiet_eq (areIndices_any _ _ _ f.table _ _ Ht.out))))
        go_wp2
        go_ret
        exact ⟨ret_bool H.out.symm, below_drewN Hbb.out _⟩
      · have hd : ((f.table.length : Int) == cellsTo ss f.args f.args.length) = false := by simpa using hc
        have H : Hid (fuB ss f = false) := fuB_no fun h => hc h.len
        clear hc
        go_quiet (fail)
        go_wp2
        go_ret
        exact ⟨ret_bool H.out.symm, below_drewN Hbb.out _⟩
end Go.Proofs.YtnmbjmocnafekaaGreatDoor

namespace Go.Proofs.YtnmbjmocnafekaaGreatDoor
open Go.RowKit
attribute [local go_sem] Oper.semAt_some

set_option maxRecDepth 100000 in
set_option maxHeartbeats 2000000 in
theorem l4Cells_any (lo hi lo' hi' : Nat) (sv cv av : Value) (t : Ty) (args : List Int) (w : World) (hv : TyAt w lo hi sv cv t) (ha : IntsAt w lo' hi' av args) (hB : hi ≤ w.heap.size) (hB' : hi' ≤ w.heap.size) (hok : sizesOk t.sizes = true)
    (hargs : ∀ j, ∀ (hj : j < args.length), 0 ≤ args[j] ∧ args[j] < t.sizes.length) (h2 : args.length ≤ 2) :
    Calls Tryz.prog 107 #[.agg #[sv, cv], av] w fun e w' => e = .returned (.int .i64 (cellsI t.sizes args)) ∧ Below w.heap.size w w' := by
  obtain ⟨A, cap, rfl, hl1, hm1, hi1⟩ := hv.1.form
  obtain ⟨B, bap, rfl, hl2, hm2, _⟩ := hv.2.form
  obtain ⟨A1, cap1, rfl, hl3, hm3, ha1⟩ := ha.form
  obtain ⟨g1, g5, hall⟩ := sizesOk_of hok
  unfold maxLen at hm3
  have h3 : Below w.heap.size w (w.alloc (.cells #[.slice A t.sizes.length cap, .slice B t.cos.length bap] 33)) := by go_grown
  have Hsm := Lib.hid (cellsTo_small hok hargs h2)
  have Hargs := Lib.hid hargs
  have Hi := Lib.hid hi1
  have Ha := Lib.hid ha1
  clear hv ha hi1 ha1 hall hargs
  go_enter Tryz.func107, Tryz.ntmps107
  go_wp2
  obtain ⟨wb, hwb⟩ : ∃ wb, wb = w.alloc (.cells #[.slice A t.sizes.length cap, .slice B t.cos.length bap] 33) := ⟨_, rfl⟩
  have hrow : Row wb w.heap.size 33 [.slice A t.sizes.length cap, .slice B t.cos.length bap] := by rw [hwb]; exact Row.new _ _ _
  have hbb : Below w.heap.size w wb := by rw [hwb]; exact h3
  have q0 := hrow.cell 0
  have q1 := hrow.cell 1
  simp only [List.getElem?_cons_zero, List.getElem?_cons_succ] at q0 q1
  have Hi' := Lib.hid (Hi.out.below hbb hB)
  have Ha' := Lib.hid (Ha.out.below hbb hB')
  have Hbb := Lib.hid hbb
  rw [← hwb]
  clear hbb h3 hrow hwb Hi Ha
  go_loop [5, 10] (fun r i => ∃ k : Nat, k ≤ args.length ∧ i = .int .i64 k ∧ r = .int .i64 (cellsTo t.sizes args k)) (fun _ i => args.length - (intOf i).toNat)
  case atStart => exact ⟨0, Nat.zero_le _, rfl, rfl⟩
  case round =>
    obtain ⟨k, hk, rfl, rfl⟩ := hrel
    by_cases hlt : k < args.length
    · obtain ⟨b, off, rfl, _, _, e0, _⟩ := Ha'.out.at_ hlt
      obtain ⟨h0, h1⟩ := Hargs.out k hlt
      have hlt2 : args[k].toNat < t.sizes.length := by omega
      obtain ⟨b2, off2, rfl, _, _, e1, _⟩ := Hi'.out.at_ hlt2
      have hs := Hsm.out (k + 1) hlt
      have hstep : cellsTo t.sizes args (k + 1) = cellsTo t.sizes args k * t.sizes[args[k].toNat] := by
        show cellsTo t.sizes args k * t.sizes.getD (args.getD k 0).toNat 0 = _
        rw [List.getD_eq_getElem?_getD (l := args), List.getElem?_eq_getElem hlt, Option.getD_some, List.getD_eq_getElem?_getD, List.getElem?_eq_getElem hlt2]
        rfl
      rw [hstep] at hs
      have hwr := wrapIn (cellsTo t.sizes args k * t.sizes[args[k].toNat]) (by omega) (by omega)
      have Hstep := Lib.hid hstep
      clear hstep hs
      go_wp2
      go_round
      case rel => exact ⟨k + 1, by omega, by go_num, by rw [Hstep.out]⟩
      case measure => simp [intOf]; omega
    · obtain rfl : k = args.length := by omega
      go_wp2
      go_ret
      exact ⟨rfl, Hbb.out⟩

set_option maxRecDepth 100000 in
set_option maxHeartbeats 4000000 in
theorem l4Function_any (lo hi lo' hi' : Nat) (sv cv x a r tv : Value) (t : Ty) (f : Fu) (w : World) (hv : TyAt w lo hi sv cv t) (hc : FuAt w lo' hi' x a r tv f) (hB : hi ≤ w.heap.size) (hB' : hi' ≤ w.heap.size) (hok : sizesOk t.sizes = true) :
    Calls Tryz.prog 68 #[.agg #[sv, cv], .agg #[x, a, r, tv]] w fun e w' => e = .returned (.bool (fuB t.sizes f)) ∧ Below w.heap.size w w' := by
  obtain ⟨g1, g5, hall⟩ := sizesOk_of hok
  obtain ⟨rfl, rfl, hn, hr, ha, ht⟩ := hc
  obtain ⟨A, cap, rfl, _, _, hi1⟩ := hv.1.form
  obtain ⟨B, bap, rfl, _, _, hco⟩ := hv.2.form
  obtain ⟨A1, cap1, rfl, hl1, hm1, ha1⟩ := ha.form
  obtain ⟨A2, cap2, rfl, hl2, hm2, ht1⟩ := ht.form
  have hT : TyAt w lo hi (.slice A t.sizes.length cap) (.slice B t.cos.length bap) t := ⟨hi1, hco⟩
  unfold maxLen at hm1 hm2 hn
  unfold I64 at hr
  have h3 : Below w.heap.size w ((w.alloc (.cells #[.slice A t.sizes.length cap, .slice B t.cos.length bap] 33)).alloc (.cells #[.string f.name, .slice A1 f.args.length cap1, .int .i64 f.res, .slice A2 f.table.length cap2] 111)) := by go_grown
  have hwr := wrapIn ((t.sizes.length : Int) - 1) (by omega) (by omega)
  clear hv ha ht hco
  by_cases c0 : f.name.size = 1
  case neg =>
    have H : Hid (fuB t.sizes f = false) := fuB_no fun h => c0 (by obtain ⟨b, e, _⟩ := h.name; rw [e]; rfl)
    have hd : ((f.name.size : Int) != 1) = true := by simp; omega
    clear c0
    go_enter Tryz.func68, Tryz.ntmps68
    go_wp2
    go_ret
    exact ⟨ret_bool H.out.symm, h3⟩
  obtain ⟨nm, args, res, table⟩ := f
  dsimp only at *
  obtain ⟨b, rfl⟩ := one_byte c0
  have hsz : (⟨#[b]⟩ : ByteArray).size = 1 := rfl
  clear c0 hn
  by_cases c1 : 102 ≤ b.toNat ∧ b.toNat ≤ 107
  case neg =>
    have H : Hid (fuB t.sizes ⟨⟨#[b]⟩, args, res, table⟩ = false) := fuB_no fun h => c1 (nameOk_byte.1 h.name)
    have hA : inB (wrap64 (((⟨#[b]⟩ : ByteArray)[0]'(by show 0 < 1; omega)).toNat : Int)) 102 107 = false := by
      show inB (wrap64 (b.toNat : Int)) 102 107 = false
      have hb := b.toNat_lt
      rw [show wrap64 (b.toNat : Int) = (b.toNat : Int) by unfold wrap64; omega]
      by_cases h : 102 ≤ b.toNat
      · exact inB_high (by omega)
      · exact inB_low (by omega)
    clear c1
    go_enter Tryz.func68, Tryz.ntmps68
    go_wp2_with (go_at_call 49; refine (l1In_any _ _ _ _).mono ?_; rintro e w' ⟨rfl, rfl⟩; rw [hA])
    go_ret
    exact ⟨ret_bool H.out.symm, h3⟩
  have hA : inB (wrap64 (((⟨#[b]⟩ : ByteArray)[0]'(by show 0 < 1; omega)).toNat : Int)) 102 107 = true := by
    show inB (wrap64 (b.toNat : Int)) 102 107 = true
    have hb := b.toNat_lt
    rw [show wrap64 (b.toNat : Int) = (b.toNat : Int) by unfold wrap64; omega]
    exact inB_yes (by omega) (by omega)
  have C1 := Lib.hid c1
  clear c1
  by_cases c2 : args.length ≤ 2
  case neg =>
    have H : Hid (fuB t.sizes ⟨⟨#[b]⟩, args, res, table⟩ = false) := fuB_no fun h => c2 h.few
    have hd : decide ((2 : Int) < (args.length : Int)) = true := by simp; omega
    clear c2
    go_enter Tryz.func68, Tryz.ntmps68
    go_wp2_with (go_at_call 49; refine (l1In_any _ _ _ _).mono ?_; rintro e w' ⟨rfl, rfl⟩; rw [hA])
    go_ret
    exact ⟨ret_bool H.out.symm, h3⟩
  have hd : decide ((2 : Int) < (args.length : Int)) = false := by simp; omega
  have C2 := Lib.hid c2
  clear c2
  by_cases c3 : inB res 0 ((t.sizes.length : Int) - 1) = true
  case neg =>
    have H : Hid (fuB t.sizes ⟨⟨#[b]⟩, args, res, table⟩ = false) := fuB_no fun h => c3 (inB_yes h.res.1 (by have := h.res.2; dsimp only at this; omega))
    have c3f : inB res 0 ((t.sizes.length : Int) - 1) = false := by simpa using c3
    clear c3
    go_enter Tryz.func68, Tryz.ntmps68
    go_wp2_with (go_at_call 49; refine (l1In_any _ _ _ _).mono ?_; rintro e w' ⟨rfl, rfl⟩; first | rw [hA] | rw [c3f])
    go_ret
    exact ⟨ret_bool H.out.symm, h3⟩
  have hres := inB_iff.1 c3
  go_enter Tryz.func68, Tryz.ntmps68
  go_wp2_with (go_at_call 49; refine (l1In_any _ _ _ _).mono ?_; rintro e w' ⟨rfl, rfl⟩; first | rw [hA] | rw [c3])
  obtain ⟨wb, hwb⟩ : ∃ wb, wb = (w.alloc (.cells #[.slice A t.sizes.length cap, .slice B t.cos.length bap] 33)).alloc (.cells #[.string ⟨#[b]⟩, .slice A1 args.length cap1, .int .i64 res, .slice A2 table.length cap2] 111) := ⟨_, rfl⟩
  have hrt : Row wb w.heap.size 33 [.slice A t.sizes.length cap, .slice B t.cos.length bap] := by rw [hwb]; exact (Row.new w _ _).alloc _
  have hrf : Row wb (w.heap.size + 1) 111 [.string ⟨#[b]⟩, .slice A1 args.length cap1, .int .i64 res, .slice A2 table.length cap2] := by
    rw [hwb]
    have h := Row.new (w.alloc (.cells #[.slice A t.sizes.length cap, .slice B t.cos.length bap] 33)) 111 [.string ⟨#[b]⟩, .slice A1 args.length cap1, .int .i64 res, .slice A2 table.length cap2]
    rwa [World.size_alloc] at h
  have hbb : Below w.heap.size w wb := by rw [hwb]; exact h3
  have HT := Lib.hid (hT.below hbb hB)
  have Ha := Lib.hid (ha1.below hbb hB')
  have Ht := Lib.hid (ht1.below hbb hB')
  have Hbb := Lib.hid hbb
  have Hrt := Lib.hid hrt
  have Hrf := Lib.hid hrf
  have q0 := hrt.cell 0
  have q1 := hrt.cell 1
  have p1 := hrf.cell 1
  have p2 := hrf.cell 2
  have p3 := hrf.cell 3
  simp only [List.getElem?_cons_zero, List.getElem?_cons_succ] at q0 q1 p1 p2 p3
  have Hsz := Lib.hid hbb.size
  have hls := hrf.lt
  rw [← hwb]
  clear hi1 ha1 ht1 hT hbb h3 hrt hrf hwb hd hA c3 hall
  go_loop [40] (fun i => ∃ k : Nat, k ≤ args.length ∧ i = .int .i64 k ∧ Hid (∀ j, j < k → ∀ (hj : j < args.length), 0 ≤ args[j] ∧ args[j] < t.sizes.length)) (fun i => args.length - (intOf i).toNat)
  case atStart => exact ⟨0, Nat.zero_le _, rfl, fun j hj => absurd hj (by omega)⟩
  case round =>
    obtain ⟨k, hk, rfl, hok2⟩ := hrel
    by_cases hkl : k < args.length
    · obtain ⟨b3, off3, rfl, _, _, e0, _⟩ := Ha.out.at_ hkl
      by_cases hin : inB args[k] 0 ((t.sizes.length : Int) - 1) = true
      · have hin' := Lib.hid (inB_iff.1 hin)
        go_wp2_with (go_at_call 49; refine (l1In_any _ _ _ _).mono ?_; rintro e w' ⟨rfl, rfl⟩; rw [hin])
        go_round
        case rel =>
          refine ⟨k + 1, by omega, by go_num, fun j hj hjl => ?_⟩
          by_cases ej : j = k
          · subst ej; have := hin'.out; omega
          · exact hok2.out j (by omega) hjl
        case measure => simp [intOf]; omega
      · have hinf : inB args[k] 0 ((t.sizes.length : Int) - 1) = false := by simpa using hin
        have H : Hid (fuB t.sizes ⟨⟨#[b]⟩, args, res, table⟩ = false) := fuB_no fun h => hin (by have := h.args k hkl; dsimp only at this; exact inB_yes this.1 (by omega))
        clear hin
        go_wp2_with (go_at_call 49; refine (l1In_any _ _ _ _).mono ?_; rintro e w' ⟨rfl, rfl⟩; rw [hinf])
        go_ret
        exact ⟨ret_bool H.out.symm, Hbb.out⟩
    · obtain rfl : k = args.length := by omega
      have Hargs : Hid (∀ j, ∀ (hj : j < args.length), 0 ≤ args[j] ∧ args[j] < t.sizes.length) := fun j hj => hok2.out j hj hj
      clear hok2
      go_wp2
      go_loopw [55] (fun i wr => ∃ k : Nat, k ≤ table.length ∧ i = .int .i64 k ∧ Hid (Below wb.heap.size wb wr) ∧ Hid (∀ j, j < k → ∀ (hj : j < table.length), 0 ≤ table[j] ∧ table[j] < t.sizes.getD res.toNat 0)) (fun i _ => table.length - (intOf i).toNat)
      case atStart => exact ⟨0, Nat.zero_le _, rfl, Below.refl _ _, fun j hj => absurd hj (by omega)⟩
      case round =>
        obtain ⟨k, hk, rfl, hbr, hok2⟩ := hrel
        have q0 := (Hrt.out.below hbr.out Hrt.out.lt).cell 0
        have q1 := (Hrt.out.below hbr.out Hrt.out.lt).cell 1
        have p1 := (Hrf.out.below hbr.out Hrf.out.lt).cell 1
        have p2 := (Hrf.out.below hbr.out Hrf.out.lt).cell 2
        have p3 := (Hrf.out.below hbr.out Hrf.out.lt).cell 3
        simp only [List.getElem?_cons_zero, List.getElem?_cons_succ] at q0 q1 p1 p2 p3
        have hsr := hbr.out.size
        have HbW : Hid (Below w.heap.size w wr) := Hbb.out.trans (hbr.out.mono Hsz.out)
        have HTr := Lib.hid (HT.out.below hbr.out (by have := Hsz.out; omega))
        have Har := Lib.hid (Ha.out.below hbr.out (by have := Hsz.out; omega))
        have Htr := Lib.hid (Ht.out.below hbr.out (by have := Hsz.out; omega))
        have hBr : hi ≤ wr.heap.size := by have := Hsz.out; omega
        have hBr' : hi' ≤ wr.heap.size := by have := Hsz.out; omega
        by_cases hkl : k < table.length
        · obtain ⟨b3, off3, rfl, _, _, e0, _⟩ := Htr.out.at_ hkl
          have hev : hasV0 t.sizes res table[k] = true ↔ 0 ≤ table[k] ∧ table[k] < t.sizes.getD res.toNat 0 := by
            unfold hasV0
            rw [ixB_yes hres.1 (by omega), Bool.true_and]
            simp [ixB]
          by_cases hin : hasV0 t.sizes res table[k] = true
          · have hin' := Lib.hid (hev.1 hin)
            clear hev
            go_wp2_with (go_at_call 87; refine (l1Has_any lo hi _ _ t res table[k] _ HTr.out hBr hok).mono ?_; rintro e w' ⟨rfl, hbx⟩; rw [hin])
            go_roundw
            case rel =>
              refine ⟨k + 1, by omega, by go_num, hbr.out.trans (hbx.mono hsr), fun j hj hjl => ?_⟩
              by_cases ej : j = k
              · subst ej; exact hin'.out
              · exact hok2.out j (by omega) hjl
            case measure => simp [intOf]; omega
          · have hinf : hasV0 t.sizes res table[k] = false := by simpa using hin
            have H : Hid (fuB t.sizes ⟨⟨#[b]⟩, args, res, table⟩ = false) := fuB_no fun h => hin (hev.2 (h.table k hkl))
            clear hin hev
            go_wp2_with (go_at_call 87; refine (l1Has_any lo hi _ _ t res table[k] _ HTr.out hBr hok).mono ?_; rintro e w' ⟨rfl, hbx⟩; rw [hinf])
            go_ret
            exact ⟨ret_bool H.out.symm, HbW.out.trans (hbx.mono HbW.out.size)⟩
        · obtain rfl : k = table.length := by omega
          have H : Hid (fuB t.sizes ⟨⟨#[b]⟩, args, res, table⟩ = ((table.length : Int) == cellsI t.sizes args)) := by
            show _ = _
            rw [Bool.eq_iff_iff, fuB_iff, beq_iff_eq]
            exact ⟨fun h => h.len, fun h => ⟨nameOk_byte.2 C1.out, C2.out, Hargs.out, ⟨hres.1, by dsimp only; omega⟩, h, fun j hj => hok2.out j hj hj⟩⟩
          have k0 : ∀ z : InC (Below wr.heap.size wr), z.val.cell? ⟨w.heap.size, 0, none⟩ = some (.slice A t.sizes.length cap) := fun z => (z.inD.cell (p := ⟨w.heap.size, 0, none⟩) (by dsimp only; omega)).trans q0
          have k1 : ∀ z : InC (Below wr.heap.size wr), z.val.cell? ⟨w.heap.size, 1, none⟩ = some (.slice B t.cos.length bap) := fun z => (z.inD.cell (p := ⟨w.heap.size, 1, none⟩) (by dsimp only; omega)).trans q1
          have k2 : ∀ z : InC (Below wr.heap.size wr), z.val.cell? ⟨w.heap.size + 1, 1, none⟩ = some (.slice A1 args.length cap1) := fun z => (z.inD.cell (p := ⟨w.heap.size + 1, 1, none⟩) (by dsimp only; omega)).trans p1
          have k3 : ∀ z : InC (Below wr.heap.size wr), z.val.cell? ⟨w.heap.size + 1, 3, none⟩ = some (.slice A2 table.length cap2) := fun z => (z.inD.cell (p := ⟨w.heap.size + 1, 3, none⟩) (by dsimp only; omega)).trans p3
          have hne : Nonempty (InC (Below wr.heap.size wr)) := ⟨⟨wr, Below.refl _ _⟩⟩
          clear hok2 q0 q1 p1 p2 p3
          go_wp2_with fail
          refine wp_region_class (Below wr.heap.size wr) (by kernel_rfl) (by kernel_rfl) ((Below.refl _ _).drew) ?_
          repeat (go_big_quiet_step ((go_at_call 107; rename_i z; exact (l4Cells_any lo hi lo' hi' _ _ _ t args z.val (HTr.out.below z.inD hBr) (Har.out.below z.inD hBr') (by have := z.inD.size; omega) (by have := z.inD.size; omega) hok Hargs.out C2.out).mono fun e w' ⟨he, hb2⟩ => ⟨he, ⟨_, z.inD.trans (hb2.mono z.inD.size)⟩, rfl⟩)))
          refine wpQuiet_nil ?_
          intro _ hw'
          obtain ⟨⟨wz, hbz⟩, rfl⟩ := hw'
          have Hbz := Lib.hid (HbW.out.trans (hbz.mono HbW.out.size))
          clear hbz
          go_wp2
          go_ret
          exact ⟨ret_bool H.out.symm, Hbz.out⟩
end Go.Proofs.YtnmbjmocnafekaaGreatDoor

namespace Go.Proofs.YtnmbjmocnafekaaGreatDoor
open Go.RowKit

theorem same_pre {xs ys : List Int} (hl : xs.length = ys.length) (h : ∀ k, ∀ (h1 : k < xs.length) (h2 : k < ys.length), xs[k] = ys[k]) : xs = ys := List.ext_getElem hl h

set_option maxRecDepth 100000 in
set_option maxHeartbeats 2000000 in
theorem l3Same_any (lo hi lo2 hi2 : Nat) (xv yv : Value) (xs ys : List Int) (w : World) (hx : IntsAt w lo hi xv xs) (hy : IntsAt w lo2 hi2 yv ys) (hB : hi ≤ w.heap.size) (hB2 : hi2 ≤ w.heap.size) :
    Calls Tryz.prog 69 #[xv, yv] w fun e w' => e = .returned (.bool (decide (xs = ys))) ∧ Below w.heap.size w w' := by
  obtain ⟨X, xap, rfl, hlx, hmx, hx1⟩ := hx.form
  obtain ⟨Y, yap, rfl, hly, hmy, hy1⟩ := hy.form
  unfold maxLen at hmx hmy
  have Hx := Lib.hid hx1
  have Hy := Lib.hid hy1
  clear hx hy hx1 hy1
  go_enter Tryz.func69, Tryz.ntmps69
  go_wp2
  · go_loopw [11] (fun i wr => ∃ j : Nat, j ≤ ys.length ∧ i = .int .i64 j ∧ Hid (Below w.heap.size w wr) ∧ Hid (∀ k, ∀ (h1 : k < xs.length) (h2 : k < ys.length), k < j → xs[k] = ys[k])) (fun i _ => ys.length - (intOf i).toNat)
    case atStart => exact ⟨0, Nat.zero_le _, rfl, Below.refl _ _, fun k _ _ h => absurd h (by omega)⟩
    case round =>
      obtain ⟨j, hj, rfl, hb, hpre⟩ := hrel
      by_cases hlt : j < ys.length
      · obtain ⟨b, off, rfl, _, _, c0, _⟩ := (Hx.out.below hb.out hB).at_ (k := j) (by omega)
        obtain ⟨b', off', rfl, _, _, c0', _⟩ := (Hy.out.below hb.out hB2).at_ (k := j) (by omega)
        have hi1 : (j : Int) < (xs.length : Int) := by omega
        have hi2' : (j : Int) < (ys.length : Int) := by omega
        by_cases he : xs[j] = ys[j]
        · have htest : (xs[j] != ys[j]) = false := by simpa using he
          have hpre2 : Hid (∀ k, ∀ (h1 : k < xs.length) (h2 : k < ys.length), k < j + 1 → xs[k] = ys[k]) := fun k h1 h2 h => by
            by_cases e : k = j
            · subst e; exact he
            · exact hpre.out k h1 h2 (by omega)
          clear he
          go_wp2
          go_quiet (fail)
          go_wp2
          go_roundw
          case rel => exact ⟨j + 1, by omega, by go_num, below_drewN hb.out _, hpre2⟩
          case measure => simp [intOf]; omega
        · have htest : (xs[j] != ys[j]) = true := by simpa using he
          have hno : Hid (decide (xs = ys) = false) := by show _ = _; exact decide_eq_false fun e => he (by subst e; rfl)
          clear he
          go_wp2
          go_quiet (fail)
          go_wp2
          go_ret
          exact ⟨ret_bool hno.out.symm, below_drewN hb.out _⟩
      · obtain rfl : j = ys.length := by omega
        go_wp2
        go_ret
        refine ⟨ret_bool ?_, hb.out⟩
        rw [Bool.eq_iff_iff, beq_iff_eq, decide_eq_true_eq]
        constructor
        · intro e
          exact same_pre (by omega) fun k h1 h2 => hpre.out k h1 h2 (by omega)
        · rintro rfl
          rfl
  · go_loopw [11] (fun i wr => ∃ j : Nat, j ≤ xs.length ∧ i = .int .i64 j ∧ Hid (Below w.heap.size w wr) ∧ Hid (∀ k, ∀ (h1 : k < xs.length) (h2 : k < ys.length), k < j → xs[k] = ys[k])) (fun i _ => xs.length - (intOf i).toNat)
    case atStart => exact ⟨0, Nat.zero_le _, rfl, Below.refl _ _, fun k _ _ h => absurd h (by omega)⟩
    case round =>
      obtain ⟨j, hj, rfl, hb, hpre⟩ := hrel
      by_cases hlt : j < xs.length
      · obtain ⟨b, off, rfl, _, _, c0, _⟩ := (Hx.out.below hb.out hB).at_ (k := j) (by omega)
        obtain ⟨b', off', rfl, _, _, c0', _⟩ := (Hy.out.below hb.out hB2).at_ (k := j) (by omega)
        have hi1 : (j : Int) < (xs.length : Int) := by omega
        have hi2' : (j : Int) < (ys.length : Int) := by omega
        by_cases he : xs[j] = ys[j]
        · have htest : (xs[j] != ys[j]) = false := by simpa using he
          have hpre2 : Hid (∀ k, ∀ (h1 : k < xs.length) (h2 : k < ys.length), k < j + 1 → xs[k] = ys[k]) := fun k h1 h2 h => by
            by_cases e : k = j
            · subst e; exact he
            · exact hpre.out k h1 h2 (by omega)
          clear he
          go_wp2
          go_quiet (fail)
          go_wp2
          go_roundw
          case rel => exact ⟨j + 1, by omega, by go_num, below_drewN hb.out _, hpre2⟩
          case measure => simp [intOf]; omega
        · have htest : (xs[j] != ys[j]) = true := by simpa using he
          have hno : Hid (decide (xs = ys) = false) := by show _ = _; exact decide_eq_false fun e => he (by subst e; rfl)
          clear he
          go_wp2
          go_quiet (fail)
          go_wp2
          go_ret
          exact ⟨ret_bool hno.out.symm, below_drewN hb.out _⟩
      · obtain rfl : j = xs.length := by omega
        go_wp2
        go_ret
        refine ⟨ret_bool ?_, hb.out⟩
        rw [Bool.eq_iff_iff, beq_iff_eq, decide_eq_true_eq]
        constructor
        · intro e
          exact same_pre (by omega) fun k h1 h2 => hpre.out k h1 h2 (by omega)
        · rintro rfl
          rfl
end Go.Proofs.YtnmbjmocnafekaaGreatDoor

