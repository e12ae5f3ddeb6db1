/-
  The contracts of the program's isFunctionName, areIndices and fits of a function.
  The contracts of the model's l4Cells and l4Function.
  The contract of the model's comparison of two lists.
  A map from names to the indices of the functions that have them: as plain data, and what it is for no two functions to be alike.
  The contract of the model's SystemValid.
  The contracts of the model's l7Read, MadeType, CoercionsIn, FunctionsIn.
  What a table of results gives, as plain data; the contract of the program's resultTable.result.
-/
import Derived.Test.YtdemcoghgnnheaaGreatDoorK4
import Derived.Test.YtdemcoghgnnheaaGreatDoorK5
import Derived.Test.YtdemcoghgnnheaaGreatDoorRows
import Derived.Test.YtdemcoghgnnheaaGreatDoorK1
import Derived.Outline
import Derived.Handy
import Derived.BigQuiet
import Derived.Deep.QuietTactic
import Derived.StillTailTactics
import Derived.Test.YtdemcoghgnnheaaGreatDoorK2
import Derived.Maps.OwnRows
import Derived.Maps.Views
import Derived.Maps.RangeWalk
import Derived.StringKeys
import Derived.Test.YtdemcoghgnnheaaGreatDoorQsrt
namespace Go.Proofs.YtdemcoghgnnheaaGreatDoor
open Go.RowKit
attribute [local go_sem] Oper.semAt_some

theorem one_byte {s : ByteArray} (h : s.size = 1) : ∃ b : UInt8, s = ⟨#[b]⟩ := by
  obtain ⟨⟨l⟩⟩ := s
  match l, h with
  | [b], _ => exact ⟨b, rfl⟩
open Classical in
noncomputable def nameB (s : ByteArray) : Bool := decide (NameOk s)
theorem nameB_yes {s : ByteArray} (h : NameOk s) : nameB s = true := by unfold nameB; exact @decide_eq_true _ (Classical.propDecidable _) h
theorem nameB_no {s : ByteArray} (h : ¬ NameOk s) : nameB s = false := by unfold nameB; exact @decide_eq_false _ (Classical.propDecidable _) h
theorem nameOk_byte {b : UInt8} : NameOk ⟨#[b]⟩ ↔ 102 ≤ b.toNat ∧ b.toNat ≤ 107 := by
  constructor
  · rintro ⟨c, h, h1, h2⟩
    simp only [ByteArray.mk.injEq, Array.mk.injEq, List.cons.injEq, and_true] at h
    subst h
    exact ⟨h1, h2⟩
  · rintro ⟨h1, h2⟩
    exact ⟨b, rfl, h1, h2⟩

set_option maxRecDepth 100000 in
set_option maxHeartbeats 800000 in
theorem isFunctionName_any (s : ByteArray) (w : World) (hs : s.size ≤ maxLen) : Calls Tryz.prog 152 #[.string s] w fun e w' => e = .returned (.bool (nameB s)) ∧ w = w' := by
  unfold maxLen at hs
  by_cases h1 : s.size = 1
  · obtain ⟨b, rfl⟩ := one_byte h1
    have hsz : (⟨#[b]⟩ : ByteArray).size = 1 := rfl
    clear h1 hs
    by_cases h2 : 102 ≤ b.toNat
    · have e2 : (102 : Int) ≤ (((⟨#[b]⟩ : ByteArray)[0]'(by show 0 < 1; omega)).toNat : Int) := by show (102 : Int) ≤ (b.toNat : Int); omega
      have H : Hid (nameB ⟨#[b]⟩ = decide ((b.toNat : Int) ≤ 107)) := by
        show _ = _
        by_cases h3 : b.toNat ≤ 107
        · rw [nameB_yes (nameOk_byte.2 ⟨h2, h3⟩), decide_eq_true (by omega)]
        · rw [nameB_no (fun h => h3 (nameOk_byte.1 h).2), decide_eq_false (by omega)]
      go_enter Tryz.func152, Tryz.ntmps152
      go_wp2
      go_ret
      exact ⟨ret_bool H.out.symm, rfl⟩
    · have e2 : decide ((102 : Int) ≤ (((⟨#[b]⟩ : ByteArray)[0]'(by show 0 < 1; omega)).toNat : Int)) = false := decide_eq_false (by show ¬ (102 : Int) ≤ (b.toNat : Int); omega)
      have H : Hid (nameB ⟨#[b]⟩ = false) := nameB_no (fun h => h2 (nameOk_byte.1 h).1)
      go_enter Tryz.func152, Tryz.ntmps152
      go_wp2
      go_ret
      exact ⟨ret_bool H.out.symm, rfl⟩
  · have H : Hid (nameB s = false) := nameB_no (by rintro ⟨b, rfl, _⟩; exact h1 rfl)
    have hd : ((s.size : Int) == 1) = false := by simp; omega
    go_enter Tryz.func152, Tryz.ntmps152
    go_wp2
    go_ret
    exact ⟨ret_bool H.out.symm, rfl⟩

/-- Each number refers to one of n elements. -/
def allIx (zs : List Int) (n : Int) : Bool := zs.all fun z => ixB z n
theorem allIx_iff {zs : List Int} {n : Int} : allIx zs n = true ↔ ∀ j, ∀ (hj : j < zs.length), 0 ≤ zs[j] ∧ zs[j] < n := by
  unfold allIx
  rw [List.all_eq_true]
  constructor
  · intro h j hj
    simpa [ixB] using h _ (List.getElem_mem hj)
  · intro h z hz
    obtain ⟨j, hj, rfl⟩ := List.getElem_of_mem hz
    simpa [ixB] using h j hj

set_option maxRecDepth 100000 in
set_option maxHeartbeats 800000 in
theorem areIndices_any (lo hi : Nat) (v : Value) (zs : List Int) (n : Int) (w : World) (hv : IntsAt w lo hi v zs) :
    Calls Tryz.prog 157 #[v, .int .i64 n] w fun e w' => e = .returned (.bool (allIx zs n)) ∧ w = w' := by
  obtain ⟨A, cap, rfl, hl, hm, hz⟩ := hv.form
  unfold maxLen at hm
  have Hz := Lib.hid hz
  clear hz hv
  go_enter Tryz.func157, Tryz.ntmps157
  go_wp2
  go_loop [9] (fun i => ∃ k : Nat, k ≤ zs.length ∧ i = .int .i64 k ∧ Hid (∀ j, j < k → ∀ (hj : j < zs.length), ixB zs[j] n = true)) (fun i => zs.length - (intOf i).toNat)
  case atStart => exact ⟨0, Nat.zero_le _, rfl, fun j hj => absurd hj (by omega)⟩
  case round =>
    obtain ⟨k, hk, rfl, hok⟩ := hrel
    by_cases hlt : k < zs.length
    · obtain ⟨b, off, rfl, _, _, c0, _⟩ := Hz.out.at_ hlt
      by_cases hin : ixB zs[k] n = true
      · have hin' := Lib.hid hin
        go_wp2_with (go_at_call 158; refine (isIndex_any _ _ _).mono ?_; rintro e w' ⟨rfl, rfl⟩; rw [hin])
        go_round
        case rel =>
          refine ⟨k + 1, by omega, by go_num, fun j hj hjl => ?_⟩
          by_cases ej : j = k
          · subst ej; exact hin'.out
          · exact hok.out j (by omega) hjl
        case measure => simp [intOf]; omega
      · have hinf : ixB zs[k] n = false := by simpa using hin
        have hfin : Hid (allIx zs n = false) := by show _ = _; unfold allIx; exact all_false_of (p := fun z => ixB z n) k hlt hinf
        clear hin
        go_wp2_with (go_at_call 158; refine (isIndex_any _ _ _).mono ?_; rintro e w' ⟨rfl, rfl⟩; rw [hinf])
        go_ret
        exact ⟨ret_bool hfin.out.symm, rfl⟩
    · obtain rfl : k = zs.length := by omega
      have hfin : Hid (allIx zs n = true) := by show _ = _; unfold allIx; exact all_true_of (p := fun z => ixB z n) fun j hj => hok.out j hj hj
      go_wp2
      go_ret
      exact ⟨ret_bool hfin.out.symm, rfl⟩

set_option maxRecDepth 100000 in
set_option maxHeartbeats 4000000 in
theorem fitsFu_any (lo hi lo' hi' : Nat) (sv x a r t : Value) (ss : List Int) (f : Fu) (w : World) (hv : IntsAt w lo hi sv ss) (hc : FuAt w lo' hi' x a r t f) (hB : hi ≤ w.heap.size) (hB' : hi' ≤ w.heap.size) (hok : sizesOk ss = true) :
    Calls Tryz.prog 120 #[.agg #[x, a, r, t], sv] w fun e w' => e = .returned (.bool (fuB ss f)) ∧ Below w.heap.size w w' := by
  obtain ⟨g1, g5, hall⟩ := sizesOk_of hok
  obtain ⟨rfl, rfl, hn, hr, ha, ht⟩ := hc
  obtain ⟨A, cap, rfl, _, _, hi1⟩ := hv.form
  obtain ⟨A1, cap1, rfl, hl1, hm1, ha1⟩ := ha.form
  obtain ⟨A2, cap2, rfl, hl2, hm2, ht1⟩ := ht.form
  unfold maxLen at hm1 hm2
  unfold I64 at hr
  have h3 : Below w.heap.size w (w.alloc (.cells #[.string f.name, .slice A1 f.args.length cap1, .int .i64 f.res, .slice A2 f.table.length cap2] 110)) := by go_grown
  clear hv ha ht
  by_cases c1 : NameOk f.name
  case neg =>
    have H : Hid (fuB ss f = false) := fuB_no fun h => c1 h.name
    have hN := nameB_no c1
    go_enter Tryz.func120, Tryz.ntmps120
    go_wp2_with (go_at_call 152; refine (isFunctionName_any _ _ hn).mono ?_; rintro e w' ⟨rfl, rfl⟩; rw [hN])
    go_ret
    exact ⟨ret_bool H.out.symm, h3⟩
  have hN := nameB_yes c1
  by_cases c2 : f.args.length ≤ 2
  case neg =>
    have H : Hid (fuB ss f = false) := fuB_no fun h => c2 h.few
    have hd : decide ((2 : Int) < (f.args.length : Int)) = true := by simp; omega
    go_enter Tryz.func120, Tryz.ntmps120
    go_wp2_with (go_at_call 152; refine (isFunctionName_any _ _ hn).mono ?_; rintro e w' ⟨rfl, rfl⟩; rw [hN])
    go_ret
    exact ⟨ret_bool H.out.symm, h3⟩
  have hd : decide ((2 : Int) < (f.args.length : Int)) = false := by simp; omega
  by_cases c3 : allIx f.args (ss.length : Int) = true
  case neg =>
    have H : Hid (fuB ss f = false) := fuB_no fun h => c3 (allIx_iff.2 h.args)
    have c3f : allIx f.args (ss.length : Int) = false := by simpa using c3
    go_enter Tryz.func120, Tryz.ntmps120
    go_wp2_with (first | (go_at_call 152; refine (isFunctionName_any _ _ hn).mono ?_; rintro e w' ⟨rfl, rfl⟩; rw [hN]) | (go_at_call 157; refine (areIndices_any _ _ _ f.args _ _ (ha1.below h3 hB')).mono ?_; rintro e w' ⟨rfl, rfl⟩; rw [c3f]))
    go_ret
    exact ⟨ret_bool H.out.symm, h3⟩
  by_cases c4 : ixB f.res (ss.length : Int) = true
  case neg =>
    have H : Hid (fuB ss f = false) := fuB_no fun h => c4 (ixB_yes h.res.1 h.res.2)
    have c4f : ixB f.res (ss.length : Int) = false := by simpa using c4
    go_enter Tryz.func120, Tryz.ntmps120
    go_wp2_with (first | (go_at_call 152; refine (isFunctionName_any _ _ hn).mono ?_; rintro e w' ⟨rfl, rfl⟩; rw [hN]) | (go_at_call 157; refine (areIndices_any _ _ _ f.args _ _ (ha1.below h3 hB')).mono ?_; rintro e w' ⟨rfl, rfl⟩; rw [c3]) | (go_at_call 158; refine (isIndex_any _ _ _).mono ?_; rintro e w' ⟨rfl, rfl⟩; rw [c4f]))
    go_ret
    exact ⟨ret_bool H.out.symm, h3⟩
  have hargs := allIx_iff.1 c3
  have hres : 0 ≤ f.res ∧ f.res < ss.length := by simpa [ixB] using c4
  have Hsm := Lib.hid (cellsTo_small hok hargs c2)
  have Hargs := Lib.hid hargs
  have Hall := Lib.hid hall
  have C1 := Lib.hid c1
  have C2 := Lib.hid c2
  clear hall hargs c1 c2
  go_enter Tryz.func120, Tryz.ntmps120
  go_wp2_with (first | (go_at_call 152; refine (isFunctionName_any _ _ hn).mono ?_; rintro e w' ⟨rfl, rfl⟩; rw [hN]) | (go_at_call 157; refine (areIndices_any _ _ _ f.args _ _ (ha1.below h3 hB')).mono ?_; rintro e w' ⟨rfl, rfl⟩; rw [c3]) | (go_at_call 158; refine (isIndex_any _ _ _).mono ?_; rintro e w' ⟨rfl, rfl⟩; rw [c4]))
  obtain ⟨wb, hwb⟩ : ∃ wb, wb = w.alloc (.cells #[.string f.name, .slice A1 f.args.length cap1, .int .i64 f.res, .slice A2 f.table.length cap2] 110) := ⟨_, rfl⟩
  have hrow : Row wb w.heap.size 110 [.string f.name, .slice A1 f.args.length cap1, .int .i64 f.res, .slice A2 f.table.length cap2] := by rw [hwb]; exact Row.new _ _ _
  have hbb : Below w.heap.size w wb := by rw [hwb]; exact h3
  have q0 := hrow.cell 0
  have q1 := hrow.cell 1
  have q2 := hrow.cell 2
  have q3 := hrow.cell 3
  simp only [List.getElem?_cons_zero, List.getElem?_cons_succ] at q0 q1 q2 q3
  have Hi := Lib.hid (hi1.below hbb hB)
  have Ha := Lib.hid (ha1.below hbb hB')
  have Ht := Lib.hid (ht1.below hbb hB')
  have Hbb := Lib.hid hbb
  rw [← hwb]
  clear hi1 ha1 ht1 hbb h3 hrow hwb hd hN c3 c4 hok
  go_loop [5, 37] (fun r i => ∃ k : Nat, k ≤ f.args.length ∧ i = .int .i64 k ∧ r = .int .i64 (cellsTo ss f.args k)) (fun _ i => f.args.length - (intOf i).toNat)
  case atStart => exact ⟨0, Nat.zero_le _, rfl, rfl⟩
  case round =>
    obtain ⟨k, hk, rfl, rfl⟩ := hrel
    by_cases hlt : k < f.args.length
    · obtain ⟨b, off, rfl, _, _, e0, _⟩ := Ha.out.at_ hlt
      obtain ⟨h0, h1⟩ := Hargs.out k hlt
      have hlt2 : f.args[k].toNat < ss.length := by omega
      obtain ⟨b2, off2, rfl, _, _, e1, _⟩ := Hi.out.at_ hlt2
      have hs := Hsm.out (k + 1) hlt
      have hstep : cellsTo ss f.args (k + 1) = cellsTo ss f.args k * ss[f.args[k].toNat] := by
        show cellsTo ss f.args k * ss.getD (f.args.getD k 0).toNat 0 = _
        rw [List.getD_eq_getElem?_getD (l := f.args), List.getElem?_eq_getElem hlt, Option.getD_some, List.getD_eq_getElem?_getD, List.getElem?_eq_getElem hlt2]
        rfl
      rw [hstep] at hs
      have hwr := wrapIn (cellsTo ss f.args k * ss[f.args[k].toNat]) (by omega) (by omega)
      have Hstep := Lib.hid hstep
      clear hstep hs
      go_wp2
      go_round
      case rel => exact ⟨k + 1, by omega, by go_num, by rw [Hstep.out]⟩
      case measure => simp [intOf]; omega
    · obtain rfl : k = f.args.length := by omega
      have hlt2 : f.res.toNat < ss.length := by omega
      have hr0 := hres.1
      have hr1 := hres.2
      obtain ⟨b2, off2, rfl, _, _, e1, _⟩ := Hi.out.at_ hlt2
      have Hget : Hid (ss.getD f.res.toNat 0 = ss[f.res.toNat]) := by show _ = _; rw [List.getD_eq_getElem?_getD, List.getElem?_eq_getElem hlt2]; rfl
      go_wp2
      by_cases hc : (f.table.length : Int) = cellsTo ss f.args f.args.length
      · have hd : ((f.table.length : Int) == cellsTo ss f.args f.args.length) = true := by simpa using hc
        have H : Hid (fuB ss f = allIx f.table ss[f.res.toNat]) := by
          show _ = _
          rw [Bool.eq_iff_iff, fuB_iff, allIx_iff]
          constructor
          · intro h j hj
            rw [← Hget.out]; exact h.table j hj
          · intro h
            exact ⟨C1.out, C2.out, Hargs.out, hres, hc, fun j hj => by rw [Hget.out]; exact h j hj⟩
        clear hc
        go_quiet ((first | (go_at_call 157; exact quiet_eq (areIndices_any _ _ _ f.table _ _ Ht.out))))
        go_wp2
        go_ret
        exact ⟨ret_bool H.out.symm, below_drewN Hbb.out _⟩
      · have hd : ((f.table.length : Int) == cellsTo ss f.args f.args.length) = false := by simpa using hc
        have H : Hid (fuB ss f = false) := fuB_no fun h => hc h.len
        clear hc
        go_quiet (fail)
        go_wp2
        go_ret
        exact ⟨ret_bool H.out.symm, below_drewN Hbb.out _⟩
end Go.Proofs.YtdemcoghgnnheaaGreatDoor

namespace Go.Proofs.YtdemcoghgnnheaaGreatDoor
open Go.RowKit
attribute [local go_sem] Oper.semAt_some

set_option maxRecDepth 100000 in
set_option maxHeartbeats 2000000 in
theorem l4Cells_any (lo hi lo' hi' : Nat) (sv cv av : Value) (t : Ty) (args : List Int) (w : World) (hv : TyAt w lo hi sv cv t) (ha : IntsAt w lo' hi' av args) (hB : hi ≤ w.heap.size) (hB' : hi' ≤ w.heap.size) (hok : sizesOk t.sizes = true)
    (hargs : ∀ j, ∀ (hj : j < args.length), 0 ≤ args[j] ∧ args[j] < t.sizes.length) (h2 : args.length ≤ 2) :
    Calls Tryz.prog 150 #[.agg #[sv, cv], av] w fun e w' => e = .returned (.int .i64 (cellsI t.sizes args)) ∧ Below w.heap.size w w' := by
  obtain ⟨A, cap, rfl, hl1, hm1, hi1⟩ := hv.1.form
  obtain ⟨B, bap, rfl, hl2, hm2, _⟩ := hv.2.form
  obtain ⟨A1, cap1, rfl, hl3, hm3, ha1⟩ := ha.form
  obtain ⟨g1, g5, hall⟩ := sizesOk_of hok
  unfold maxLen at hm3
  have h3 : Below w.heap.size w (w.alloc (.cells #[.slice A t.sizes.length cap, .slice B t.cos.length bap] 34)) := by go_grown
  have Hsm := Lib.hid (cellsTo_small hok hargs h2)
  have Hargs := Lib.hid hargs
  have Hi := Lib.hid hi1
  have Ha := Lib.hid ha1
  clear hv ha hi1 ha1 hall hargs
  go_enter Tryz.func150, Tryz.ntmps150
  go_wp2
  obtain ⟨wb, hwb⟩ : ∃ wb, wb = w.alloc (.cells #[.slice A t.sizes.length cap, .slice B t.cos.length bap] 34) := ⟨_, rfl⟩
  have hrow : Row wb w.heap.size 34 [.slice A t.sizes.length cap, .slice B t.cos.length bap] := by rw [hwb]; exact Row.new _ _ _
  have hbb : Below w.heap.size w wb := by rw [hwb]; exact h3
  have q0 := hrow.cell 0
  have q1 := hrow.cell 1
  simp only [List.getElem?_cons_zero, List.getElem?_cons_succ] at q0 q1
  have Hi' := Lib.hid (Hi.out.below hbb hB)
  have Ha' := Lib.hid (Ha.out.below hbb hB')
  have Hbb := Lib.hid hbb
  rw [← hwb]
  clear hbb h3 hrow hwb Hi Ha
  go_loop [5, 10] (fun r i => ∃ k : Nat, k ≤ args.length ∧ i = .int .i64 k ∧ r = .int .i64 (cellsTo t.sizes args k)) (fun _ i => args.length - (intOf i).toNat)
  case atStart => exact ⟨0, Nat.zero_le _, rfl, rfl⟩
  case round =>
    obtain ⟨k, hk, rfl, rfl⟩ := hrel
    by_cases hlt : k < args.length
    · obtain ⟨b, off, rfl, _, _, e0, _⟩ := Ha'.out.at_ hlt
      obtain ⟨h0, h1⟩ := Hargs.out k hlt
      have hlt2 : args[k].toNat < t.sizes.length := by omega
      obtain ⟨b2, off2, rfl, _, _, e1, _⟩ := Hi'.out.at_ hlt2
      have hs := Hsm.out (k + 1) hlt
      have hstep : cellsTo t.sizes args (k + 1) = cellsTo t.sizes args k * t.sizes[args[k].toNat] := by
        show cellsTo t.sizes args k * t.sizes.getD (args.getD k 0).toNat 0 = _
        rw [List.getD_eq_getElem?_getD (l := args), List.getElem?_eq_getElem hlt, Option.getD_some, List.getD_eq_getElem?_getD, List.getElem?_eq_getElem hlt2]
        rfl
      rw [hstep] at hs
      have hwr := wrapIn (cellsTo t.sizes args k * t.sizes[args[k].toNat]) (by omega) (by omega)
      have Hstep := Lib.hid hstep
      clear hstep hs
      go_wp2
      go_round
      case rel => exact ⟨k + 1, by omega, by go_num, by rw [Hstep.out]⟩
      case measure => simp [intOf]; omega
    · obtain rfl : k = args.length := by omega
      go_wp2
      go_ret
      exact ⟨rfl, Hbb.out⟩

set_option maxRecDepth 100000 in
set_option maxHeartbeats 4000000 in
theorem l4Function_any (lo hi lo' hi' : Nat) (sv cv x a r tv : Value) (t : Ty) (f : Fu) (w : World) (hv : TyAt w lo hi sv cv t) (hc : FuAt w lo' hi' x a r tv f) (hB : hi ≤ w.heap.size) (hB' : hi' ≤ w.heap.size) (hok : sizesOk t.sizes = true) :
    Calls Tryz.prog 110 #[.agg #[sv, cv], .agg #[x, a, r, tv]] w fun e w' => e = .returned (.bool (fuB t.sizes f)) ∧ Below w.heap.size w w' := by
  obtain ⟨g1, g5, hall⟩ := sizesOk_of hok
  obtain ⟨rfl, rfl, hn, hr, ha, ht⟩ := hc
  obtain ⟨A, cap, rfl, _, _, hi1⟩ := hv.1.form
  obtain ⟨B, bap, rfl, _, _, hco⟩ := hv.2.form
  obtain ⟨A1, cap1, rfl, hl1, hm1, ha1⟩ := ha.form
  obtain ⟨A2, cap2, rfl, hl2, hm2, ht1⟩ := ht.form
  have hT : TyAt w lo hi (.slice A t.sizes.length cap) (.slice B t.cos.length bap) t := ⟨hi1, hco⟩
  unfold maxLen at hm1 hm2 hn
  unfold I64 at hr
  have h3 : Below w.heap.size w ((w.alloc (.cells #[.slice A t.sizes.length cap, .slice B t.cos.length bap] 34)).alloc (.cells #[.string f.name, .slice A1 f.args.length cap1, .int .i64 f.res, .slice A2 f.table.length cap2] 110)) := by go_grown
  have hwr := wrapIn ((t.sizes.length : Int) - 1) (by omega) (by omega)
  clear hv ha ht hco
  by_cases c0 : f.name.size = 1
  case neg =>
    have H : Hid (fuB t.sizes f = false) := fuB_no fun h => c0 (by obtain ⟨b, e, _⟩ := h.name; rw [e]; rfl)
    have hd : ((f.name.size : Int) != 1) = true := by simp; omega
    clear c0
    go_enter Tryz.func110, Tryz.ntmps110
    go_wp2
    go_ret
    exact ⟨ret_bool H.out.symm, h3⟩
  obtain ⟨nm, args, res, table⟩ := f
  dsimp only at *
  obtain ⟨b, rfl⟩ := one_byte c0
  have hsz : (⟨#[b]⟩ : ByteArray).size = 1 := rfl
  clear c0 hn
  by_cases c1 : 102 ≤ b.toNat ∧ b.toNat ≤ 107
  case neg =>
    have H : Hid (fuB t.sizes ⟨⟨#[b]⟩, args, res, table⟩ = false) := fuB_no fun h => c1 (nameOk_byte.1 h.name)
    have hA : inB (wrap64 (((⟨#[b]⟩ : ByteArray)[0]'(by show 0 < 1; omega)).toNat : Int)) 102 107 = false := by
      show inB (wrap64 (b.toNat : Int)) 102 107 = false
      have hb := b.toNat_lt
      rw [show wrap64 (b.toNat : Int) = (b.toNat : Int) by unfold wrap64; omega]
      by_cases h : 102 ≤ b.toNat
      · exact inB_high (by omega)
      · exact inB_low (by omega)
    clear c1
    go_enter Tryz.func110, Tryz.ntmps110
    go_wp2_with (go_at_call 51; refine (l1In_any _ _ _ _).mono ?_; rintro e w' ⟨rfl, rfl⟩; rw [hA])
    go_ret
    exact ⟨ret_bool H.out.symm, h3⟩
  have hA : inB (wrap64 (((⟨#[b]⟩ : ByteArray)[0]'(by show 0 < 1; omega)).toNat : Int)) 102 107 = true := by
    show inB (wrap64 (b.toNat : Int)) 102 107 = true
    have hb := b.toNat_lt
    rw [show wrap64 (b.toNat : Int) = (b.toNat : Int) by unfold wrap64; omega]
    exact inB_yes (by omega) (by omega)
  have C1 := Lib.hid c1
  clear c1
  by_cases c2 : args.length ≤ 2
  case neg =>
    have H : Hid (fuB t.sizes ⟨⟨#[b]⟩, args, res, table⟩ = false) := fuB_no fun h => c2 h.few
    have hd : decide ((2 : Int) < (args.length : Int)) = true := by simp; omega
    clear c2
    go_enter Tryz.func110, Tryz.ntmps110
    go_wp2_with (go_at_call 51; refine (l1In_any _ _ _ _).mono ?_; rintro e w' ⟨rfl, rfl⟩; rw [hA])
    go_ret
    exact ⟨ret_bool H.out.symm, h3⟩
  have hd : decide ((2 : Int) < (args.length : Int)) = false := by simp; omega
  have C2 := Lib.hid c2
  clear c2
  by_cases c3 : inB res 0 ((t.sizes.length : Int) - 1) = true
  case neg =>
    have H : Hid (fuB t.sizes ⟨⟨#[b]⟩, args, res, table⟩ = false) := fuB_no fun h => c3 (inB_yes h.res.1 (by have := h.res.2; dsimp only at this; omega))
    have c3f : inB res 0 ((t.sizes.length : Int) - 1) = false := by simpa using c3
    clear c3
    go_enter Tryz.func110, Tryz.ntmps110
    go_wp2_with (go_at_call 51; refine (l1In_any _ _ _ _).mono ?_; rintro e w' ⟨rfl, rfl⟩; first | rw [hA] | rw [c3f])
    go_ret
    exact ⟨ret_bool H.out.symm, h3⟩
  have hres := inB_iff.1 c3
  go_enter Tryz.func110, Tryz.ntmps110
  go_wp2_with (go_at_call 51; refine (l1In_any _ _ _ _).mono ?_; rintro e w' ⟨rfl, rfl⟩; first | rw [hA] | rw [c3])
  obtain ⟨wb, hwb⟩ : ∃ wb, wb = (w.alloc (.cells #[.slice A t.sizes.length cap, .slice B t.cos.length bap] 34)).alloc (.cells #[.string ⟨#[b]⟩, .slice A1 args.length cap1, .int .i64 res, .slice A2 table.length cap2] 110) := ⟨_, rfl⟩
  have hrt : Row wb w.heap.size 34 [.slice A t.sizes.length cap, .slice B t.cos.length bap] := by rw [hwb]; exact (Row.new w _ _).alloc _
  have hrf : Row wb (w.heap.size + 1) 110 [.string ⟨#[b]⟩, .slice A1 args.length cap1, .int .i64 res, .slice A2 table.length cap2] := by
    rw [hwb]
    have h := Row.new (w.alloc (.cells #[.slice A t.sizes.length cap, .slice B t.cos.length bap] 34)) 110 [.string ⟨#[b]⟩, .slice A1 args.length cap1, .int .i64 res, .slice A2 table.length cap2]
    rwa [World.size_alloc] at h
  have hbb : Below w.heap.size w wb := by rw [hwb]; exact h3
  have HT := Lib.hid (hT.below hbb hB)
  have Ha := Lib.hid (ha1.below hbb hB')
  have Ht := Lib.hid (ht1.below hbb hB')
  have Hbb := Lib.hid hbb
  have Hrt := Lib.hid hrt
  have Hrf := Lib.hid hrf
  have q0 := hrt.cell 0
  have q1 := hrt.cell 1
  have p1 := hrf.cell 1
  have p2 := hrf.cell 2
  have p3 := hrf.cell 3
  simp only [List.getElem?_cons_zero, List.getElem?_cons_succ] at q0 q1 p1 p2 p3
  have Hsz := Lib.hid hbb.size
  have hls := hrf.lt
  rw [← hwb]
  clear hi1 ha1 ht1 hT hbb h3 hrt hrf hwb hd hA c3 hall
  go_loop [40] (fun i => ∃ k : Nat, k ≤ args.length ∧ i = .int .i64 k ∧ Hid (∀ j, j < k → ∀ (hj : j < args.length), 0 ≤ args[j] ∧ args[j] < t.sizes.length)) (fun i => args.length - (intOf i).toNat)
  case atStart => exact ⟨0, Nat.zero_le _, rfl, fun j hj => absurd hj (by omega)⟩
  case round =>
    obtain ⟨k, hk, rfl, hok2⟩ := hrel
    by_cases hkl : k < args.length
    · obtain ⟨b3, off3, rfl, _, _, e0, _⟩ := Ha.out.at_ hkl
      by_cases hin : inB args[k] 0 ((t.sizes.length : Int) - 1) = true
      · have hin' := Lib.hid (inB_iff.1 hin)
        go_wp2_with (go_at_call 51; refine (l1In_any _ _ _ _).mono ?_; rintro e w' ⟨rfl, rfl⟩; rw [hin])
        go_round
        case rel =>
          refine ⟨k + 1, by omega, by go_num, fun j hj hjl => ?_⟩
          by_cases ej : j = k
          · subst ej; have := hin'.out; omega
          · exact hok2.out j (by omega) hjl
        case measure => simp [intOf]; omega
      · have hinf : inB args[k] 0 ((t.sizes.length : Int) - 1) = false := by simpa using hin
        have H : Hid (fuB t.sizes ⟨⟨#[b]⟩, args, res, table⟩ = false) := fuB_no fun h => hin (by have := h.args k hkl; dsimp only at this; exact inB_yes this.1 (by omega))
        clear hin
        go_wp2_with (go_at_call 51; refine (l1In_any _ _ _ _).mono ?_; rintro e w' ⟨rfl, rfl⟩; rw [hinf])
        go_ret
        exact ⟨ret_bool H.out.symm, Hbb.out⟩
    · obtain rfl : k = args.length := by omega
      have Hargs : Hid (∀ j, ∀ (hj : j < args.length), 0 ≤ args[j] ∧ args[j] < t.sizes.length) := fun j hj => hok2.out j hj hj
      clear hok2
      go_wp2
      go_loopw [55] (fun i wr => ∃ k : Nat, k ≤ table.length ∧ i = .int .i64 k ∧ Hid (Below wb.heap.size wb wr) ∧ Hid (∀ j, j < k → ∀ (hj : j < table.length), 0 ≤ table[j] ∧ table[j] < t.sizes.getD res.toNat 0)) (fun i _ => table.length - (intOf i).toNat)
      case atStart => exact ⟨0, Nat.zero_le _, rfl, Below.refl _ _, fun j hj => absurd hj (by omega)⟩
      case round =>
        obtain ⟨k, hk, rfl, hbr, hok2⟩ := hrel
        have q0 := (Hrt.out.below hbr.out Hrt.out.lt).cell 0
        have q1 := (Hrt.out.below hbr.out Hrt.out.lt).cell 1
        have p1 := (Hrf.out.below hbr.out Hrf.out.lt).cell 1
        have p2 := (Hrf.out.below hbr.out Hrf.out.lt).cell 2
        have p3 := (Hrf.out.below hbr.out Hrf.out.lt).cell 3
        simp only [List.getElem?_cons_zero, List.getElem?_cons_succ] at q0 q1 p1 p2 p3
        have hsr := hbr.out.size
        have HbW : Hid (Below w.heap.size w wr) := Hbb.out.trans (hbr.out.mono Hsz.out)
        have HTr := Lib.hid (HT.out.below hbr.out (by have := Hsz.out; omega))
        have Har := Lib.hid (Ha.out.below hbr.out (by have := Hsz.out; omega))
        have Htr := Lib.hid (Ht.out.below hbr.out (by have := Hsz.out; omega))
        have hBr : hi ≤ wr.heap.size := by have := Hsz.out; omega
        have hBr' : hi' ≤ wr.heap.size := by have := Hsz.out; omega
        by_cases hkl : k < table.length
        · obtain ⟨b3, off3, rfl, _, _, e0, _⟩ := Htr.out.at_ hkl
          have hev : hasV0 t.sizes res table[k] = true ↔ 0 ≤ table[k] ∧ table[k] < t.sizes.getD res.toNat 0 := by
            unfold hasV0
            rw [ixB_yes hres.1 (by omega), Bool.true_and]
            simp [ixB]
          by_cases hin : hasV0 t.sizes res table[k] = true
          · have hin' := Lib.hid (hev.1 hin)
            clear hev
            go_wp2_with (go_at_call 71; refine (l1Has_any lo hi _ _ t res table[k] _ HTr.out hBr hok).mono ?_; rintro e w' ⟨rfl, hbx⟩; rw [hin])
            go_roundw
            case rel =>
              refine ⟨k + 1, by omega, by go_num, hbr.out.trans (hbx.mono hsr), fun j hj hjl => ?_⟩
              by_cases ej : j = k
              · subst ej; exact hin'.out
              · exact hok2.out j (by omega) hjl
            case measure => simp [intOf]; omega
          · have hinf : hasV0 t.sizes res table[k] = false := by simpa using hin
            have H : Hid (fuB t.sizes ⟨⟨#[b]⟩, args, res, table⟩ = false) := fuB_no fun h => hin (hev.2 (h.table k hkl))
            clear hin hev
            go_wp2_with (go_at_call 71; refine (l1Has_any lo hi _ _ t res table[k] _ HTr.out hBr hok).mono ?_; rintro e w' ⟨rfl, hbx⟩; rw [hinf])
            go_ret
            exact ⟨ret_bool H.out.symm, HbW.out.trans (hbx.mono HbW.out.size)⟩
        · obtain rfl : k = table.length := by omega
          have H : Hid (fuB t.sizes ⟨⟨#[b]⟩, args, res, table⟩ = ((table.length : Int) == cellsI t.sizes args)) := by
            show _ = _
            rw [Bool.eq_iff_iff, fuB_iff, beq_iff_eq]
            exact ⟨fun h => h.len, fun h => ⟨nameOk_byte.2 C1.out, C2.out, Hargs.out, ⟨hres.1, by dsimp only; omega⟩, h, fun j hj => hok2.out j hj hj⟩⟩
          have k0 : ∀ z : InC (Below wr.heap.size wr), z.val.cell? ⟨w.heap.size, 0, none⟩ = some (.slice A t.sizes.length cap) := fun z => (z.inD.cell (p := ⟨w.heap.size, 0, none⟩) (by dsimp only; omega)).trans q0
          have k1 : ∀ z : InC (Below wr.heap.size wr), z.val.cell? ⟨w.heap.size, 1, none⟩ = some (.slice B t.cos.length bap) := fun z => (z.inD.cell (p := ⟨w.heap.size, 1, none⟩) (by dsimp only; omega)).trans q1
          have k2 : ∀ z : InC (Below wr.heap.size wr), z.val.cell? ⟨w.heap.size + 1, 1, none⟩ = some (.slice A1 args.length cap1) := fun z => (z.inD.cell (p := ⟨w.heap.size + 1, 1, none⟩) (by dsimp only; omega)).trans p1
          have k3 : ∀ z : InC (Below wr.heap.size wr), z.val.cell? ⟨w.heap.size + 1, 3, none⟩ = some (.slice A2 table.length cap2) := fun z => (z.inD.cell (p := ⟨w.heap.size + 1, 3, none⟩) (by dsimp only; omega)).trans p3
          have hne : Nonempty (InC (Below wr.heap.size wr)) := ⟨⟨wr, Below.refl _ _⟩⟩
          clear hok2 q0 q1 p1 p2 p3
          go_wp2_with fail
          refine wp_region_class (Below wr.heap.size wr) (by kernel_rfl) (by kernel_rfl) ((Below.refl _ _).drew) ?_
          repeat (go_big_quiet_step ((go_at_call 150; rename_i z; exact (l4Cells_any lo hi lo' hi' _ _ _ t args z.val (HTr.out.below z.inD hBr) (Har.out.below z.inD hBr') (by have := z.inD.size; omega) (by have := z.inD.size; omega) hok Hargs.out C2.out).mono fun e w' ⟨he, hb2⟩ => ⟨he, ⟨_, z.inD.trans (hb2.mono z.inD.size)⟩, rfl⟩)))
          refine wpQuiet_nil ?_
          intro _ hw'
          obtain ⟨⟨wz, hbz⟩, rfl⟩ := hw'
          have Hbz := Lib.hid (HbW.out.trans (hbz.mono HbW.out.size))
          clear hbz
          go_wp2
          go_ret
          exact ⟨ret_bool H.out.symm, Hbz.out⟩
end Go.Proofs.YtdemcoghgnnheaaGreatDoor

namespace Go.Proofs.YtdemcoghgnnheaaGreatDoor
open Go.RowKit

theorem same_pre {xs ys : List Int} (hl : xs.length = ys.length) (h : ∀ k, ∀ (h1 : k < xs.length) (h2 : k < ys.length), xs[k] = ys[k]) : xs = ys := List.ext_getElem hl h

set_option maxRecDepth 100000 in
set_option maxHeartbeats 2000000 in
theorem l3Same_any (lo hi lo2 hi2 : Nat) (xv yv : Value) (xs ys : List Int) (w : World) (hx : IntsAt w lo hi xv xs) (hy : IntsAt w lo2 hi2 yv ys) (hB : hi ≤ w.heap.size) (hB2 : hi2 ≤ w.heap.size) :
    Calls Tryz.prog 111 #[xv, yv] w fun e w' => e = .returned (.bool (decide (xs = ys))) ∧ Below w.heap.size w w' := by
  obtain ⟨X, xap, rfl, hlx, hmx, hx1⟩ := hx.form
  obtain ⟨Y, yap, rfl, hly, hmy, hy1⟩ := hy.form
  unfold maxLen at hmx hmy
  have Hx := Lib.hid hx1
  have Hy := Lib.hid hy1
  clear hx hy hx1 hy1
  go_enter Tryz.func111, Tryz.ntmps111
  go_wp2
  · go_loopw [11] (fun i wr => ∃ j : Nat, j ≤ ys.length ∧ i = .int .i64 j ∧ Hid (Below w.heap.size w wr) ∧ Hid (∀ k, ∀ (h1 : k < xs.length) (h2 : k < ys.length), k < j → xs[k] = ys[k])) (fun i _ => ys.length - (intOf i).toNat)
    case atStart => exact ⟨0, Nat.zero_le _, rfl, Below.refl _ _, fun k _ _ h => absurd h (by omega)⟩
    case round =>
      obtain ⟨j, hj, rfl, hb, hpre⟩ := hrel
      by_cases hlt : j < ys.length
      · obtain ⟨b, off, rfl, _, _, c0, _⟩ := (Hx.out.below hb.out hB).at_ (k := j) (by omega)
        obtain ⟨b', off', rfl, _, _, c0', _⟩ := (Hy.out.below hb.out hB2).at_ (k := j) (by omega)
        have hi1 : (j : Int) < (xs.length : Int) := by omega
        have hi2' : (j : Int) < (ys.length : Int) := by omega
        by_cases he : xs[j] = ys[j]
        · have htest : (xs[j] != ys[j]) = false := by simpa using he
          have hpre2 : Hid (∀ k, ∀ (h1 : k < xs.length) (h2 : k < ys.length), k < j + 1 → xs[k] = ys[k]) := fun k h1 h2 h => by
            by_cases e : k = j
            · subst e; exact he
            · exact hpre.out k h1 h2 (by omega)
          clear he
          go_wp2
          go_quiet (fail)
          go_wp2
          go_roundw
          case rel => exact ⟨j + 1, by omega, by go_num, below_drewN hb.out _, hpre2⟩
          case measure => simp [intOf]; omega
        · have htest : (xs[j] != ys[j]) = true := by simpa using he
          have hno : Hid (decide (xs = ys) = false) := by show _ = _; exact decide_eq_false fun e => he (by subst e; rfl)
          clear he
          go_wp2
          go_quiet (fail)
          go_wp2
          go_ret
          exact ⟨ret_bool hno.out.symm, below_drewN hb.out _⟩
      · obtain rfl : j = ys.length := by omega
        go_wp2
        go_ret
        refine ⟨ret_bool ?_, hb.out⟩
        rw [Bool.eq_iff_iff, beq_iff_eq, decide_eq_true_eq]
        constructor
        · intro e
          exact same_pre (by omega) fun k h1 h2 => hpre.out k h1 h2 (by omega)
        · rintro rfl
          rfl
  · go_loopw [11] (fun i wr => ∃ j : Nat, j ≤ xs.length ∧ i = .int .i64 j ∧ Hid (Below w.heap.size w wr) ∧ Hid (∀ k, ∀ (h1 : k < xs.length) (h2 : k < ys.length), k < j → xs[k] = ys[k])) (fun i _ => xs.length - (intOf i).toNat)
    case atStart => exact ⟨0, Nat.zero_le _, rfl, Below.refl _ _, fun k _ _ h => absurd h (by omega)⟩
    case round =>
      obtain ⟨j, hj, rfl, hb, hpre⟩ := hrel
      by_cases hlt : j < xs.length
      · obtain ⟨b, off, rfl, _, _, c0, _⟩ := (Hx.out.below hb.out hB).at_ (k := j) (by omega)
        obtain ⟨b', off', rfl, _, _, c0', _⟩ := (Hy.out.below hb.out hB2).at_ (k := j) (by omega)
        have hi1 : (j : Int) < (xs.length : Int) := by omega
        have hi2' : (j : Int) < (ys.length : Int) := by omega
        by_cases he : xs[j] = ys[j]
        · have htest : (xs[j] != ys[j]) = false := by simpa using he
          have hpre2 : Hid (∀ k, ∀ (h1 : k < xs.length) (h2 : k < ys.length), k < j + 1 → xs[k] = ys[k]) := fun k h1 h2 h => by
            by_cases e : k = j
            · subst e; exact he
            · exact hpre.out k h1 h2 (by omega)
          clear he
          go_wp2
          go_quiet (fail)
          go_wp2
          go_roundw
          case rel => exact ⟨j + 1, by omega, by go_num, below_drewN hb.out _, hpre2⟩
          case measure => simp [intOf]; omega
        · have htest : (xs[j] != ys[j]) = true := by simpa using he
          have hno : Hid (decide (xs = ys) = false) := by show _ = _; exact decide_eq_false fun e => he (by subst e; rfl)
          clear he
          go_wp2
          go_quiet (fail)
          go_wp2
          go_ret
          exact ⟨ret_bool hno.out.symm, below_drewN hb.out _⟩
      · obtain rfl : j = xs.length := by omega
        go_wp2
        go_ret
        refine ⟨ret_bool ?_, hb.out⟩
        rw [Bool.eq_iff_iff, beq_iff_eq, decide_eq_true_eq]
        constructor
        · intro e
          exact same_pre (by omega) fun k h1 h2 => hpre.out k h1 h2 (by omega)
        · rintro rfl
          rfl
end Go.Proofs.YtdemcoghgnnheaaGreatDoor

namespace Go.Proofs.YtdemcoghgnnheaaGreatDoor
open Go.RowKit Go.Maps
open Go.ChangeShapes (lits)

theorem bytes_eq {a b : ByteArray} (h : a.toList = b.toList) : a = b := by
  rw [ByteArray.toList_eq, ByteArray.toList_eq] at h
  exact Go.WideShapes.bytes_inj h

/-- What a name reads as where it is a map's key. -/
def kN (s : ByteArray) : Lit := .string s.data.toList
theorem kN_inj {a b : ByteArray} (h : kN a = kN b) : a = b := by
  unfold kN at h
  injection h with h
  have h2 : a.data = b.data := Array.toList_inj.1 h
  cases a; cases b; simp_all
theorem lawStr : Keyed Tryz.prog 9 := string_keyed Tryz.underlying9
theorem kN_key {s : ByteArray} (h : s.size ≤ maxLen) : keyOf Tryz.prog 9 (.string s) = some (kN s) := Go.WideMaps.keyOf_string_mk Tryz.underlying9 h
theorem kN_lit {s : ByteArray} (h : s.size ≤ maxLen) : WideAt.IsKeyLit (kN s) := lawStr.key (kN_key h)

open Classical in
/-- The indices of the first k functions that have a name. -/
noncomputable def idxs (fs : List Fu) (k : Nat) (nm : ByteArray) : List Int := ((List.range k).filter fun i => decide ((fs.getD i default).name = nm)).map fun i : Nat => (i : Int)
theorem idxs_same {fs : List Fu} {k : Nat} {nm : ByteArray} (h : (fs.getD k default).name = nm) : idxs fs (k + 1) nm = idxs fs k nm ++ [(k : Int)] := by
  unfold idxs
  rw [List.range_succ, List.filter_append, List.map_append]
  rw [List.getD_eq_getElem?_getD] at h
  simp [h]
theorem idxs_other {fs : List Fu} {k : Nat} {nm : ByteArray} (h : (fs.getD k default).name ≠ nm) : idxs fs (k + 1) nm = idxs fs k nm := by
  unfold idxs
  rw [List.range_succ, List.filter_append, List.map_append]
  rw [List.getD_eq_getElem?_getD] at h
  simp [h]
theorem idxs_mem {fs : List Fu} {k : Nat} {nm : ByteArray} {z : Int} : z ∈ idxs fs k nm ↔ ∃ i : Nat, i < k ∧ (fs.getD i default).name = nm ∧ z = (i : Int) := by
  unfold idxs
  rw [List.mem_map]
  constructor
  · rintro ⟨i, hi, rfl⟩
    obtain ⟨h1, h2⟩ := List.mem_filter.1 hi
    exact ⟨i, List.mem_range.1 h1, by simpa using h2, rfl⟩
  · rintro ⟨i, h1, h2, rfl⟩
    exact ⟨i, List.mem_filter.2 ⟨List.mem_range.2 h1, by simpa using h2⟩, rfl⟩
theorem idxs_asc (fs : List Fu) (k : Nat) (nm : ByteArray) : (idxs fs k nm).Pairwise (· < ·) := by
  unfold idxs
  rw [List.pairwise_map]
  refine List.Pairwise.imp (fun {a b} h => ?_) (List.Pairwise.filter _ (List.pairwise_lt_range (n := k)))
  show (a : Int) < (b : Int)
  omega
theorem idxs_len (fs : List Fu) (k : Nat) (nm : ByteArray) : (idxs fs k nm).length ≤ k := by
  unfold idxs
  rw [List.length_map]
  exact Nat.le_trans (List.length_filter_le _ _) (by simp)
theorem idxs_zero (fs : List Fu) (nm : ByteArray) : idxs fs 0 nm = [] := by simp [idxs]
theorem getD_of {α : Type} {l : List α} {i : Nat} {d : α} (h : i < l.length) : l.getD i d = l[i] := by rw [List.getD_eq_getElem?_getD, List.getElem?_eq_getElem h]; rfl

/-- D is the map of the first k functions. -/
structure Grp (fs : List Fu) (k : Nat) (D : DataW Unit) : Prop where
  map : IsMap D
  at_ : ∀ nm : ByteArray, nm.size ≤ maxLen → idxs fs k nm ≠ [] → D.atKey (kN nm) .nil = .slice (lits .i64 (idxs fs k nm)) []
  none_ : ∀ nm : ByteArray, nm.size ≤ maxLen → idxs fs k nm = [] → D.atKey (kN nm) .nil = .nil
  has : ∀ nm : ByteArray, nm.size ≤ maxLen → (Maps.has D (kN nm) = true ↔ idxs fs k nm ≠ [])
theorem Grp.start (fs : List Fu) : Grp fs 0 (.map []) := ⟨isMap_empty, fun nm _ h => absurd (idxs_zero fs nm) h, fun _ _ _ => rfl, fun nm _ => ⟨fun h => (by cases h), fun h => absurd (idxs_zero fs nm) h⟩⟩
theorem Grp.step {fs : List Fu} {k : Nat} {D : DataW Unit} {nm : ByteArray} (h : Grp fs k D) (hn : (fs.getD k default).name = nm) (hs : nm.size ≤ maxLen) {w : World} {base : Nat} {e : TypeId} {v : Value} {zs : List Int}
    (ho : w.ownsInts base e .i64 v zs) (hat : D.atKey (kN nm) .nil = rowDatum .i64 v zs) : zs = idxs fs k nm ∧ Grp fs (k + 1) (D.put (kN nm) (.slice (lits .i64 (zs ++ [(k : Int)])) [])) := by
  have hz : zs = idxs fs k nm := by
    rcases ho.datum (H := Unit) with ⟨h1, rfl⟩ | h1
    · rw [h1] at hat
      by_cases e : idxs fs k nm = []
      · exact e.symm
      · rw [h.at_ nm hs e] at hat
        cases hat
    · rw [h1] at hat
      by_cases e : idxs fs k nm = []
      · rw [h.none_ nm hs e] at hat
        cases hat
      · rw [h.at_ nm hs e] at hat
        simp only [DataW.slice.injEq, and_true] at hat
        unfold lits at hat
        exact (List.map_inj_right (fun a b hab => by simpa using hab)).1 hat.symm
  refine ⟨hz, h.map.put _ _, fun m hm hne => ?_, fun m hm hne => ?_, fun m hm => ?_⟩
  · by_cases e : nm = m
    · subst e
      rw [atKey_put_same h.map (kN_lit hs), idxs_same hn, hz]
    · rw [atKey_put_other (fun e2 => e (kN_inj e2).symm)]
      rw [idxs_other (by rw [hn]; exact e)] at hne ⊢
      exact h.at_ m hm hne
  · by_cases e : nm = m
    · subst e
      rw [idxs_same hn] at hne
      simp at hne
    · rw [atKey_put_other (fun e2 => e (kN_inj e2).symm)]
      rw [idxs_other (by rw [hn]; exact e)] at hne
      exact h.none_ m hm hne
  · by_cases e : nm = m
    · subst e
      rw [has_put_same h.map (kN_lit hs), idxs_same hn]
      simp
    · rw [has_put_other (fun e2 => e (kN_inj e2).symm), idxs_other (by rw [hn]; exact e)]
      exact h.has m hm

/-- What the look-up of a name gives. -/
theorem Grp.look {fs : List Fu} {k : Nat} {D : DataW Unit} {nm : ByteArray} (h : Grp fs k D) (hs : nm.size ≤ maxLen) {w : World} {base : Nat} {e : TypeId} {v : Value} {zs : List Int}
    (ho : w.ownsInts base e .i64 v zs) (hat : D.atKey (kN nm) .nil = rowDatum .i64 v zs) : zs = idxs fs k nm := by
  rcases ho.datum (H := Unit) with ⟨h1, rfl⟩ | h1
  · rw [h1] at hat
    by_cases e : idxs fs k nm = []
    · exact e.symm
    · rw [h.at_ nm hs e] at hat
      cases hat
  · rw [h1] at hat
    by_cases e : idxs fs k nm = []
    · rw [h.none_ nm hs e] at hat
      cases hat
    · rw [h.at_ nm hs e] at hat
      simp only [DataW.slice.injEq, and_true] at hat
      unfold lits at hat
      exact (List.map_inj_right (fun a b hab => by simpa using hab)).1 hat.symm

/-- No two of some functions have the same types of arguments. -/
def Parts (fs : List Fu) (l : List Int) : Prop := ∀ a b : Nat, a < l.length → b < a → (fs.getD (l.getD a 0).toNat default).args ≠ (fs.getD (l.getD b 0).toNat default).args
theorem differ_of_parts {fs : List Fu} (h : ∀ nm : ByteArray, idxs fs fs.length nm ≠ [] → Parts fs (idxs fs fs.length nm)) : Differ fs := by
  rintro i k hi hk ⟨h1, h2⟩
  have mi : (i : Int) ∈ idxs fs fs.length (fs.getD i default).name := idxs_mem.2 ⟨i, hi, rfl, rfl⟩
  have mk : (k : Int) ∈ idxs fs fs.length (fs.getD i default).name := idxs_mem.2 ⟨k, by omega, h1.symm, rfl⟩
  obtain ⟨a, ha, ea⟩ := List.getElem_of_mem mi
  obtain ⟨b, hb, eb⟩ := List.getElem_of_mem mk
  have hlt : b < a := by
    rcases Nat.lt_trichotomy a b with h3 | h3 | h3
    · have := List.pairwise_iff_getElem.1 (idxs_asc fs fs.length (fs.getD i default).name) a b ha hb h3
      omega
    · subst h3; rw [ea] at eb; omega
    · exact h3
  refine h _ (fun e => by rw [e] at mi; cases mi) a b ha hlt ?_
  rw [getD_of ha, getD_of hb]
  simp only [ea, eb, Int.toNat_natCast]
  exact h2
theorem not_differ {fs : List Fu} {nm : ByteArray} {a b : Nat} (ha : a < (idxs fs fs.length nm).length) (hb : b < a) (he : (fs.getD ((idxs fs fs.length nm).getD a 0).toNat default).args = (fs.getD ((idxs fs fs.length nm).getD b 0).toNat default).args) : ¬ Differ fs := by
  intro h
  have hb' : b < (idxs fs fs.length nm).length := by omega
  obtain ⟨i, hi, hni, ei⟩ := idxs_mem.1 (List.getElem_mem ha)
  obtain ⟨k, hk, hnk, ek⟩ := idxs_mem.1 (List.getElem_mem hb')
  have hlt := List.pairwise_iff_getElem.1 (idxs_asc fs fs.length nm) b a hb' ha hb
  rw [ei, ek] at hlt
  rw [getD_of ha, getD_of hb'] at he
  simp only [ei, ek, Int.toNat_natCast] at he
  exact h i k hi (by omega) ⟨hni.trans hnk.symm, he⟩
open Classical in
noncomputable def differB (fs : List Fu) : Bool := decide (Differ fs)
theorem differB_iff {fs : List Fu} : differB fs = true ↔ Differ fs := by unfold differB; exact @decide_eq_true_iff _ (Classical.propDecidable _)
theorem differB_yes {fs : List Fu} (h : Differ fs) : differB fs = true := by unfold differB; exact @decide_eq_true _ (Classical.propDecidable _) h
theorem differB_no {fs : List Fu} (h : ¬ Differ fs) : differB fs = false := by unfold differB; exact @decide_eq_false _ (Classical.propDecidable _) h

/-- The look-up in any world that holds the map's block as it stood. -/
theorem groups_look {P : Program} {w : World} {t E k e : TypeId} {q : IntKind} {base b n : Nat} {D : DataW Unit} {key : Value} {kl : Lit} (h : w.ownsGroups P k base e q b n D) (K : Keyed P k) (ht : P.underlying t = some (.map k E)) (hz : ∀ u : World, (zeroValue E).run P u = .ok (.slice none 0 0) u) (hn : n < maxLen) (hkey : keyOf P k key = some kl) :
    ∃ v zs, (∀ u : World, u.heap[b]? = w.heap[b]? → (Instr.lookup t (.map (some b)) key false).run P u = .ok v u) ∧ D.atKey kl .nil = rowDatum q v zs ∧ w.ownsInts base e q v zs ∧ zs.length ≤ n ∧ w.groupBack P t k base e q b n D key kl v := by
  have hOwn := h
  obtain ⟨v, zs, hrun, r⟩ := hOwn.at K ht (hz w) hn hkey
  refine ⟨v, zs, fun u hu => ?_, r⟩
  obtain ⟨es, clock, hb, F, hs, rfl, hbb, hlen, hap⟩ := h
  have hub : u.heap[b]? = some (.map es clock) := hu.trans hb
  rcases K.find w hkey es.toList F.keys with ⟨h1, h2⟩ | ⟨j, e0, h1, h2, h3⟩
  · have e1 : (Instr.lookup t (.map (some b)) key false).run P w = .ok (.slice none 0 0) w := by simp [Instr.lookup, run_underlying ht, MapKept.run_getObj_map hb, K.check w _ hkey, h1, hz, Result.andThen]
    rw [hrun] at e1
    obtain rfl : v = .slice none 0 0 := by simpa using e1
    rcases K.find u hkey es.toList F.keys with ⟨g1, g2⟩ | ⟨j, e0, g1, g2, g3⟩
    · simp [Instr.lookup, run_underlying ht, MapKept.run_getObj_map hub, K.check u _ hkey, g1, hz, Result.andThen]
    · exact absurd g3 (h2 e0 (List.mem_of_getElem? g2))
  · have e1 : (Instr.lookup t (.map (some b)) key false).run P w = .ok e0.val w := by simp [Instr.lookup, run_underlying ht, MapKept.run_getObj_map hb, K.check w _ hkey, h1, Result.andThen]
    rw [hrun] at e1
    obtain rfl : v = e0.val := by simpa using e1
    rcases K.find u hkey es.toList F.keys with ⟨g1, g2⟩ | ⟨j', e0', g1, g2, g3⟩
    · exact absurd h3 (g2 e0 (List.mem_of_getElem? h2))
    · have hpw : es.toList.Pairwise (fun x y => x.key ≠ y.key) := ((MapKept.stamped_iff es clock).1 F.stamped).2.2
      obtain rfl := entry_eq_of_key hpw (List.mem_of_getElem? h2) (List.mem_of_getElem? g2) (h3.trans g3.symm)
      simp [Instr.lookup, run_underlying ht, MapKept.run_getObj_map hub, K.check u _ hkey, g1, Result.andThen]
end Go.Proofs.YtdemcoghgnnheaaGreatDoor

namespace Go.Proofs.YtdemcoghgnnheaaGreatDoor
open Go.RowKit

set_option maxRecDepth 100000 in
set_option maxHeartbeats 4000000 in
theorem specSysValid_any (lo hi : Nat) (sv cv fv : Value) (y : Sy) (w : World) (hv : SyAt w lo hi sv cv fv y) (hB : hi ≤ w.heap.size) :
    Calls Tryz.prog 69 #[.agg #[sv, cv, fv]] w fun e w' => e = .returned (.bool (syB y)) ∧ Below w.heap.size w w' := by
  obtain ⟨hty, hfs⟩ := hv
  obtain ⟨A, cap, rfl, hl1, hm1, hi1⟩ := hty.1.form
  obtain ⟨B, bap, rfl, hl2, hm2, hc1⟩ := hty.2.form
  obtain ⟨F, fap, rfl, hl3, hm3, hf1⟩ := hfs.form
  unfold maxLen at hm1 hm2 hm3
  have h3 : Below w.heap.size w (w.alloc (.cells #[.slice A y.ty.sizes.length cap, .slice B y.ty.cos.length bap, .slice F y.fs.length fap] 37)) := by go_grown
  have Hty := Lib.hid (show TyAt w lo hi (.slice A y.ty.sizes.length cap) (.slice B y.ty.cos.length bap) y.ty from ⟨hi1, hc1⟩)
  have Hf1 := Lib.hid hf1
  clear hty hfs hi1 hc1 hf1
  have H1 := Lib.hid (Below.refl (w.heap.size + 1) (w.alloc (.cells #[.slice A y.ty.sizes.length cap, .slice B y.ty.cos.length bap, .slice F y.fs.length fap] 37)))
  go_enter Tryz.func69, Tryz.ntmps69
  go_wp2_with fail
  refine (specValid_any lo hi _ _ y.ty _ (Hty.out.below h3 hB) (by simp; omega)).mono ?_
  rintro e w1 ⟨rfl, hb1⟩
  have H2 := Lib.hid (H1.out.trans (hb1.mono (by simp)))
  obtain ⟨q0, q1, q2, hl, hB1⟩ := box3 H2.out
  have HB1 := Lib.hid hB1
  clear hb1 h3 hB1 H1
  by_cases c1 : tyOk y.ty = true
  case neg =>
    have H : Hid (syB y = false) := syB_no fun h => c1 h.ty
    have c1f : tyOk y.ty = false := by simpa using c1
    rw [c1f]
    clear c1
    go_wp2
    go_ret
    exact ⟨ret_bool H.out.symm, HB1.out⟩
  have hok := Lib.hid (tyOk_sizes c1)
  have C1 := Lib.hid c1
  rw [c1]
  clear c1
  by_cases c2 : y.fs.length ≤ 8
  case neg =>
    have H : Hid (syB y = false) := syB_no fun h => c2 h.few
    have hd : decide ((8 : Int) < (y.fs.length : Int)) = true := by simp; omega
    go_wp2
    go_ret
    exact ⟨ret_bool H.out.symm, HB1.out⟩
  have hd : decide ((8 : Int) < (y.fs.length : Int)) = false := by simp; omega
  have C2 := Lib.hid c2
  go_wp2
  clear hd
  go_loopw [20] (fun i wr => ∃ k : Nat, k ≤ y.fs.length ∧ i = .int .i64 k ∧ Hid (Below (w.heap.size + 1) w1 wr) ∧ Hid (∀ j, j < k → ∀ (hj : j < y.fs.length), FuOk y.ty.sizes y.fs[j]) ∧
    Hid (∀ i j : Nat, i < k → j < i → ¬ ((y.fs.getD i default).name = (y.fs.getD j default).name ∧ (y.fs.getD i default).args = (y.fs.getD j default).args))) (fun i _ => y.fs.length - (intOf i).toNat)
  case atStart => exact ⟨0, Nat.zero_le _, rfl, Below.refl _ _, fun j hj => absurd hj (by omega), fun i j hi => absurd hi (by omega)⟩
  case round =>
    obtain ⟨k, hk, rfl, hbr, hok2, hdf⟩ := hrel
    have hbo : Below w.heap.size w wr := HB1.out.trans (hbr.out.mono (by omega))
    have hcl : ∀ o, wr.cell? ⟨w.heap.size, o, none⟩ = w1.cell? ⟨w.heap.size, o, none⟩ := fun o => hbr.out.cell (p := ⟨w.heap.size, o, none⟩) (by dsimp only; omega)
    have p0 := (hcl 0).trans q0
    have p1 := (hcl 1).trans q1
    have p2 := (hcl 2).trans q2
    have hlr : w.heap.size < wr.heap.size := Nat.lt_of_lt_of_le hl hbr.out.size
    clear hcl
    by_cases hkl : k < y.fs.length
    · obtain ⟨b, off, A1, cap1, A2, cap2, rfl, _, _, d0, d1, d2, d3, _, _, _, _, hfu⟩ := (Hf1.out.below hbo hB).at_ hkl
      have Hfu := Lib.hid hfu
      have HT4 := Lib.hid (Hty.out.below hbo hB)
      have Hbo := Lib.hid hbo
      clear hfu hbo
      by_cases hin : fuB y.ty.sizes y.fs[k] = true
      case neg =>
        have hinf : fuB y.ty.sizes y.fs[k] = false := by simpa using hin
        have H : Hid (syB y = false) := syB_no fun h => hin (fuB_yes (h.each k hkl))
        clear hin
        go_wp2_with fail
        refine (l4Function_any lo hi lo hi _ _ _ _ _ _ y.ty y.fs[k] (wr.alloc (.cells #[.string y.fs[k].name, .slice A1 y.fs[k].args.length cap1, .int .i64 y.fs[k].res, .slice A2 y.fs[k].table.length cap2] 110)) (HT4.out.below ((Below.refl _ _).alloc (Nat.le_refl _) _) (by omega)) (Hfu.out.below ((Below.refl _ _).alloc (Nat.le_refl _) _) (by omega)) (by simp; omega) (by simp; omega) hok.out).mono ?_
        rintro e w' ⟨rfl, hbb⟩
        have Hbb := Lib.hid hbb
        clear hbb
        rw [hinf]
        go_wp2
        go_ret
        exact ⟨ret_bool H.out.symm, (Hbo.out.alloc (by omega) _).trans (Hbb.out.mono (by simp; omega))⟩
      have hin' := Lib.hid (fuB_iff.1 hin)
      go_wp2_with fail
      refine (l4Function_any lo hi lo hi _ _ _ _ _ _ y.ty y.fs[k] (wr.alloc (.cells #[.string y.fs[k].name, .slice A1 y.fs[k].args.length cap1, .int .i64 y.fs[k].res, .slice A2 y.fs[k].table.length cap2] 110)) (HT4.out.below ((Below.refl _ _).alloc (Nat.le_refl _) _) (by omega)) (Hfu.out.below ((Below.refl _ _).alloc (Nat.le_refl _) _) (by omega)) (by simp; omega) (by simp; omega) hok.out).mono ?_
      rintro e w5 ⟨rfl, hb5⟩
      have hsx : (wr.alloc (.cells #[.string y.fs[k].name, .slice A1 y.fs[k].args.length cap1, .int .i64 y.fs[k].res, .slice A2 y.fs[k].table.length cap2] 110)).heap.size = wr.heap.size + 1 := by simp
      have hrk : Row w5 wr.heap.size 110 [.string y.fs[k].name, .slice A1 y.fs[k].args.length cap1, .int .i64 y.fs[k].res, .slice A2 y.fs[k].table.length cap2] := (Row.new wr _ _).below hb5 (by rw [hsx]; omega)
      have hb05 : Below (w.heap.size + 1) w1 w5 := (hbr.out.alloc (by omega) _).trans (hb5.mono (by rw [hsx]; omega))
      have Hrk := Lib.hid hrk
      have Hfu5 : Hid (IntsAt w5 lo hi (.slice A1 y.fs[k].args.length cap1) y.fs[k].args) := (Hfu.out.2.2.2.2.1.below ((Below.refl _ _).alloc (Nat.le_refl _) _) (by omega)).below hb5 (by rw [hsx]; omega)
      have Hb05 := Lib.hid hb05
      have h5s : wr.heap.size < w5.heap.size := hrk.lt
      have r0 := (hb05.cell (p := ⟨w.heap.size, 2, none⟩) (by dsimp only; omega)).trans q2
      have HbrS := Lib.hid hbr.out.size
      rw [hin]
      clear hb5 hrk hb05 hsx hin p0 p1 p2 d0 d1 d2 d3
      go_wp2
      obtain ⟨N, hN⟩ : ∃ N, N = wr.heap.size := ⟨_, rfl⟩
      rw [← hN] at h5s Hrk HbrS hlr ⊢
      clear hN
      go_loopw [35] (fun q wr => ∃ j : Nat, j ≤ k ∧ q = .int .i64 j ∧ Hid (Below w5.heap.size w5 wr) ∧ Hid (∀ i : Nat, i < j → ¬ ((y.fs.getD k default).name = (y.fs.getD i default).name ∧ (y.fs.getD k default).args = (y.fs.getD i default).args))) (fun q _ => k - (intOf q).toNat)
      case atStart => exact ⟨0, Nat.zero_le _, rfl, Below.refl _ _, fun i hi => absurd hi (by omega)⟩
      case round =>
        obtain ⟨j, hj, rfl, hb5, hd5⟩ := hrel
        have Hb0 : Hid (Below w.heap.size w wr) := HB1.out.trans ((Hb05.out.mono (by omega)).trans (hb5.out.mono (by omega)))
        have s0 := (Hrk.out.below hb5.out h5s).cell 0
        have s1 := (Hrk.out.below hb5.out h5s).cell 1
        have hs5 := hb5.out.size
        have hNw : N < wr.heap.size := by omega
        simp only [List.getElem?_cons_zero, List.getElem?_cons_succ] at s0 s1
        by_cases hjk : j < k
        · have hjl : j < y.fs.length := by omega
          obtain ⟨b', off', A3, cap3, A4, cap4, eF, _, _, d0, d1, d2, d3, _, _, _, _, hfj⟩ := (Hf1.out.below Hb0.out hB).at_ hjl
          obtain ⟨rfl, rfl⟩ : b = b' ∧ off = off' := by simpa using eF
          have Hfj := Lib.hid hfj
          have hjkI : (j : Int) < (k : Int) := by omega
          clear hfj eF
          have HgetK : Hid (y.fs.getD k default = y.fs[k]) := getD_of hkl
          have HgetJ : Hid (y.fs.getD j default = y.fs[j]) := getD_of hjl
          by_cases he : y.fs[k].name = y.fs[j].name
          · have hnm : y.fs[k].name.toList = y.fs[j].name.toList := by rw [he]
            have He := Lib.hid he
            clear he
            go_wp2_with fail
            refine (l3Same_any lo hi lo hi _ _ y.fs[k].args y.fs[j].args _ ((Hfu5.out.below hb5.out (by have := Hb05.out.size; omega)).below ((Below.refl _ _).alloc (Nat.le_refl _) _) (by omega)) (Hfj.out.2.2.2.2.1.below ((Below.refl _ _).alloc (Nat.le_refl _) _) (by omega)) (by simp; omega) (by simp; omega)).mono ?_
            rintro e w' ⟨rfl, hbb⟩
            have Hbb := Lib.hid ((hb5.out.alloc hs5 _).trans (hbb.mono (by simp; omega)))
            clear hbb
            by_cases ha : y.fs[k].args = y.fs[j].args
            · have H : Hid (syB y = false) := syB_no fun h => h.differ k j hkl hjk (by rw [HgetK.out, HgetJ.out]; exact ⟨He.out, ha⟩)
              rw [decide_eq_true ha]
              clear ha
              go_wp2
              go_ret
              exact ⟨ret_bool H.out.symm, HB1.out.trans ((Hb05.out.mono (by omega)).trans (Hbb.out.mono (by omega)))⟩
            · have hd6 : Hid (∀ i : Nat, i < j + 1 → ¬ ((y.fs.getD k default).name = (y.fs.getD i default).name ∧ (y.fs.getD k default).args = (y.fs.getD i default).args)) := fun i hi2 => by
                by_cases e : i = j
                · subst e; rw [HgetK.out, HgetJ.out]; exact fun h => ha h.2
                · exact hd5.out i (by omega)
              rw [decide_eq_false ha]
              clear ha
              go_wp2
              go_roundw
              case rel => exact ⟨j + 1, by omega, by go_num, Hbb.out, hd6⟩
              case measure => simp [intOf]; omega
          · have hnm : ¬ y.fs[k].name.toList = y.fs[j].name.toList := fun h => he (bytes_eq h)
            have hd6 : Hid (∀ i : Nat, i < j + 1 → ¬ ((y.fs.getD k default).name = (y.fs.getD i default).name ∧ (y.fs.getD k default).args = (y.fs.getD i default).args)) := fun i hi2 => by
              by_cases e : i = j
              · subst e; rw [HgetK.out, HgetJ.out]; exact fun h => he h.1
              · exact hd5.out i (by omega)
            clear he
            go_wp2
            go_roundw
            case rel => exact ⟨j + 1, by omega, by go_num, hb5.out.alloc hs5 _, hd6⟩
            case measure => simp [intOf]; omega
        · obtain rfl : j = k := by omega
          have hd6 : Hid (∀ i i' : Nat, i < j + 1 → i' < i → ¬ ((y.fs.getD i default).name = (y.fs.getD i' default).name ∧ (y.fs.getD i default).args = (y.fs.getD i' default).args)) := fun i i' h1 h2 => by
            by_cases e : i = j
            · subst e; exact hd5.out i' h2
            · exact hdf.out i i' (by omega) h2
          have hok6 : Hid (∀ i, i < j + 1 → ∀ (hi2 : i < y.fs.length), FuOk y.ty.sizes y.fs[i]) := fun i h1 h2 => by
            by_cases e : i = j
            · subst e; exact hin'.out
            · exact hok2.out i (by omega) h2
          have hb6 : Hid (Below (w.heap.size + 1) w1 wr) := Hb05.out.trans (hb5.out.mono (by have := Hb05.out.size; omega))
          go_wp2
          go_roundw
          case rel => exact ⟨j + 1, by omega, by go_num, hb6.out, hok6, hd6⟩
          case measure => simp [intOf]; omega
    · obtain rfl : k = y.fs.length := by omega
      have H : Hid (syB y = true) := syB_yes ⟨C1.out, C2.out, fun i hi => hok2.out i hi hi, hdf.out⟩
      go_wp2
      go_ret
      exact ⟨ret_bool H.out.symm, hbo⟩
end Go.Proofs.YtdemcoghgnnheaaGreatDoor

namespace Go.Proofs.YtdemcoghgnnheaaGreatDoor
open Go.RowKit

noncomputable def okM (y : Sy) (L : List UInt8) : Bool := (readM y L).isSome
noncomputable def kdM (y : Sy) (L : List UInt8) : Int := match readM y L with
  | some m => kindM y m
  | none => -1
noncomputable def txL (y : Sy) (L : List UInt8) : List UInt8 := match readM y L with
  | some m => tmT (erM y m)
  | none => []
noncomputable def cnM (y : Sy) (L : List UInt8) : Int := match readM y L with
  | some m => (coN m : Int)
  | none => -1
noncomputable def fnL (y : Sy) (L : List UInt8) : List Int := match readM y L with
  | some m => fnM m
  | none => []
theorem vals_some {y : Sy} {L : List UInt8} {m : Mk} (h : readM y L = some m) : okM y L = true ∧ kdM y L = kindM y m ∧ txL y L = tmT (erM y m) ∧ cnM y L = (coN m : Int) ∧ fnL y L = fnM m := by
  unfold okM kdM txL cnM fnL
  rw [h]
  exact ⟨rfl, rfl, rfl, rfl, rfl⟩
theorem vals_none {y : Sy} {L : List UInt8} (h : readM y L = none) : okM y L = false ∧ kdM y L = -1 ∧ txL y L = [] ∧ cnM y L = -1 ∧ fnL y L = [] := by
  unfold okM kdM txL cnM fnL
  rw [h]
  exact ⟨rfl, rfl, rfl, rfl, rfl⟩
theorem readM_yes {y : Sy} {L : List UInt8} {m : Mk} (hy : syB y = true) (hl : L.length ≤ 400) (h : rdMk y L.length L = some (m, [])) : readM y L = some m := by unfold readM parseM; rw [if_pos hy, if_pos hl, h]
theorem readM_rest {y : Sy} {L r : List UInt8} {m : Mk} (hr : r ≠ []) (h : rdMk y L.length L = some (m, r)) : readM y L = none := by
  unfold readM parseM
  rw [h]
  cases r with
  | nil => exact absurd rfl hr
  | cons c r =>
    split
    · split <;> rfl
    · rfl
theorem readM_no {y : Sy} {L : List UInt8} (h : rdMk y L.length L = none) : readM y L = none := by
  unfold readM parseM
  rw [h]
  split
  · split <;> rfl
  · rfl
theorem readM_bad {y : Sy} {L : List UInt8} (hy : syB y = false) : readM y L = none := by unfold readM; rw [if_neg (by simp [hy])]
theorem readM_long {y : Sy} {L : List UInt8} (hl : ¬ L.length ≤ 400) : readM y L = none := by
  unfold readM parseM
  rw [if_neg hl]
  split <;> rfl

theorem readM_len {y : Sy} {L : List UInt8} {m : Mk} (h : readM y L = some m) : (mkT m).length ≤ 400 := by
  unfold readM at h
  split at h
  · rename_i hy
    unfold parseM at h
    split at h
    · rename_i hl
      split at h
      · rename_i m2 hm
        injection h with h
        subst h
        have h2 := (rdMk_eq y (syB_iff.1 hy) _ hm).2
        have h3 := congrArg List.length h2
        rw [List.length_append] at h3
        omega
      · cases h
    · cases h
  · cases h
theorem own_at7 {w : World} {N : Nat} {t : TypeId} {A : Option Addr} {n n' cap : Nat} {xs : List Value} (h : w.ownsRow N t 1 (.slice A n' cap) n xs) : ∀ j, j < n → ∃ g, A = some ⟨g, 0, none⟩ ∧ w.cell? ⟨g, j, none⟩ = xs[j]? := by
  intro j hj
  obtain ⟨_, ⟨_, e⟩ | ⟨g, cap', cur, e, hg, hh, hc1, hc2, hcs, htake⟩⟩ := h
  · omega
  · injection e with e1 e2 e3
    subst e1; subst e2; subst e3
    refine ⟨g, rfl, ?_⟩
    have e : w.cell? ⟨g, j, none⟩ = cur[j]? := by simp [World.cell?, hh]
    rw [e]
    have e2 : cur[j]? = (cur.toList.take (n' * 1))[j]? := by
      rw [List.getElem?_take_of_lt (by omega)]
      simp
    rw [e2, htake]

def LPost7 (y : Sy) (L : List UInt8) (w : World) (e : Ending) (w' : World) : Prop :=
  (∃ b, e = .returned (.tuple #[.pointer (some ⟨b, 0, none⟩), .string (str (txL y L)), .int .i64 (kdM y L), .bool (okM y L)]) ∧ w.heap.size ≤ b ∧
    ∀ m, readM y L = some m → ∃ sv cv fv c, Row w' b 195 [sv, cv, fv, .string (str L), .int .i64 L.length, .bool false, .int .i64 (coN m), c] ∧ w'.ownsRow (b + 1) 3 1 c (fnM m).length ((fnM m).map (Value.int .i64)) ∧ MkOk y m) ∧ Below w.heap.size w w'

set_option maxRecDepth 100000 in
set_option maxHeartbeats 4000000 in
theorem l7Read_any (lo hi : Nat) (sv cv fv : Value) (y : Sy) (L : List UInt8) (w : World) (hv : SyAt w lo hi sv cv fv y) (hB : hi ≤ w.heap.size) :
    Calls Tryz.prog 91 #[.agg #[sv, cv, fv], .string (str L)] w fun e w' => LPost7 y L w e w' := by
  obtain ⟨A1, cap1, rfl, _, _, _⟩ := hv.1.1.form
  obtain ⟨A2, cap2, rfl, _, _, _⟩ := hv.1.2.form
  obtain ⟨A3, cap3, rfl, _, _, _⟩ := hv.2.form
  have Hv := Lib.hid hv
  have hsz := str_size L
  obtain ⟨sv, hsv⟩ : ∃ v, v = Value.slice A1 y.ty.sizes.length cap1 := ⟨_, rfl⟩
  obtain ⟨cv, hcv⟩ : ∃ v, v = Value.slice A2 y.ty.cos.length cap2 := ⟨_, rfl⟩
  obtain ⟨fv, hfv⟩ : ∃ v, v = Value.slice A3 y.fs.length cap3 := ⟨_, rfl⟩
  rw [← hsv, ← hcv, ← hfv] at Hv
  obtain ⟨w1, hw1⟩ : ∃ u, u = w.alloc (.cells #[.slice A1 y.ty.sizes.length cap1, .slice A2 y.ty.cos.length cap2, .slice A3 y.fs.length cap3] 37) := ⟨_, rfl⟩
  obtain ⟨w2, hw2⟩ : ∃ u, u = w1.alloc (.cells #[.slice A1 y.ty.sizes.length cap1, .slice A2 y.ty.cos.length cap2, .slice A3 y.fs.length cap3, .string (str L), .int .i64 0, .bool false, .int .i64 0, .slice none 0 0] 195) := ⟨_, rfl⟩
  have hs1 : w1.heap.size = w.heap.size + 1 := by rw [hw1, World.size_alloc]
  have hs2 : w2.heap.size = w.heap.size + 2 := by rw [hw2, World.size_alloc, hs1]
  have hb1 : Below w.heap.size w w1 := by rw [hw1]; exact (Below.refl _ _).alloc (Nat.le_refl _) _
  have hb2 : Below w.heap.size w w2 := by rw [hw2]; exact hb1.alloc (by omega) _
  have HR1 : Hid (Row w1 w.heap.size 37 [.slice A1 y.ty.sizes.length cap1, .slice A2 y.ty.cos.length cap2, .slice A3 y.fs.length cap3]) := by rw [hw1]; exact Row.new w _ _
  have HR2 : Hid (Row w2 w.heap.size 37 [.slice A1 y.ty.sizes.length cap1, .slice A2 y.ty.cos.length cap2, .slice A3 y.fs.length cap3]) := by rw [hw2]; exact HR1.out.alloc _
  have HS2 : Hid (Sr lo hi (w.heap.size + 1) sv cv fv y L 0 false 0 (.slice none 0 0) w2) := by
    refine ⟨?_, Hv.out.below hb2 hB, by omega⟩
    rw [hw2, ← hs1, hsv, hcv, hfv]
    exact Row.new w1 _ _
  have HB2 := Lib.hid hb2
  have p0 := HR1.out.cell 0
  have p1 := HR1.out.cell 1
  have p2 := HR1.out.cell 2
  have q0 := HR2.out.cell 0
  have q1 := HR2.out.cell 1
  have q2 := HR2.out.cell 2
  simp only [List.getElem?_cons_zero, List.getElem?_cons_succ] at p0 p1 p2 q0 q1 q2
  rw [hw1] at p0 p1 p2
  rw [hw2, hw1] at q0 q1 q2
  clear hv hb1 hb2
  go_enter Tryz.func91, Tryz.ntmps91
  go_wp2_with fail
  rw [← hw1, ← hw2]
  have hvv : SyAt w2 lo hi (.slice A1 y.ty.sizes.length cap1) (.slice A2 y.ty.cos.length cap2) (.slice A3 y.fs.length cap3) y := by rw [← hsv, ← hcv, ← hfv]; exact HS2.out.sy
  refine (specSysValid_any lo hi _ _ _ y w2 hvv (by omega)).mono ?_
  clear p0 p1 p2 q0 q1 q2 hvv
  rintro e w3 ⟨rfl, hb3⟩
  have HS3 : Hid (Sr lo hi (w.heap.size + 1) sv cv fv y L 0 false 0 (.slice none 0 0) w3) := HS2.out.keep fun k hk => hb3.block k (by omega)
  have HB3 := Lib.hid (HB2.out.trans (hb3.mono (by omega)))
  have hs3 := hb3.size
  clear hb3 HS2 HB2 hw1 hw2 hs1 HR1 HR2
  cases hy : syB y with
  | false =>
    obtain ⟨e1, e2, e3, -, -⟩ := vals_none (L := L) (readM_bad hy)
    have Hno := Lib.hid (readM_bad (L := L) hy)
    have E1 := Lib.hid e1
    have E2 := Lib.hid e2
    have E3 := Lib.hid e3
    clear e1 e2 e3 hy
    go_wp2
    try rw [Exit.noGoto_ret]
    refine bodyPost_ret (v := .tuple #[.pointer (some ⟨w.heap.size + 1, 0, none⟩), .string ⟨#[]⟩, .int .i64 (-1), .bool false]) (by simp [results, Tryz.results91, go_sem]) rfl ?_
    exact ⟨⟨w.heap.size + 1, by rw [E1.out, E2.out, E3.out]; rfl, by omega, fun m hm => by rw [Hno.out] at hm; cases hm⟩, HB3.out⟩
  | true =>
    have Hy := Lib.hid (syB_iff.1 hy)
    by_cases h400 : L.length ≤ 400
    case neg =>
      obtain ⟨e1, e2, e3, -, -⟩ := vals_none (y := y) (readM_long h400)
      have Hno := Lib.hid (readM_long (y := y) h400)
      have E1 := Lib.hid e1
      have E2 := Lib.hid e2
      have E3 := Lib.hid e3
      have h4 : (400 : Int) < (L.length : Int) := by omega
      clear e1 e2 e3 hy h400
      go_wp2
      try rw [Exit.noGoto_ret]
      refine bodyPost_ret (v := .tuple #[.pointer (some ⟨w.heap.size + 1, 0, none⟩), .string ⟨#[]⟩, .int .i64 (-1), .bool false]) (by simp [results, Tryz.results91, go_sem]) rfl ?_
      exact ⟨⟨w.heap.size + 1, by rw [E1.out, E2.out, E3.out]; rfl, by omega, fun m hm => by rw [Hno.out] at hm; cases hm⟩, HB3.out⟩
    have HSYB := Lib.hid hy
    have h4 : ¬ (400 : Int) < (L.length : Int) := by omega
    have HO3 : Hid (w3.ownsRow (w.heap.size + 1 + 1) 3 1 (.slice none 0 0) ([] : List Int).length (([] : List Int).map (Value.int .i64))) := ⟨by simp, .inl ⟨rfl, rfl⟩⟩
    clear hy
    go_wp2_with fail
    refine (reads7 lo hi (w.heap.size + 1) sv cv fv y Hy.out L h400 L.length 0 0 (.slice none 0 0) [] w3 HS3.out HO3.out (Nat.zero_le _) (by omega) (by omega) (by simp) (by simp)).mono ?_
    rintro e w4 ⟨⟨m, r, c', hm, hok, htx, rfl, hs4, ho4, hat4⟩ | ⟨hm, s4, k4, u4, c', rfl, hb4, hat4⟩, hk4⟩
    · have HB4 : Hid (Below w.heap.size w w4) := HB3.out.trans (hk4.below (by omega) (fun g hg => by cases hg) (by omega))
      rw [List.drop_zero] at hm htx
      obtain ⟨-, -, -, -, c4, c5, -, -⟩ := hs4.cells
      have HS4 := Lib.hid hs4
      have HO4 := Lib.hid ho4
      have HOK := Lib.hid hok
      clear hs4 ho4 hat4 hk4 HS3 HB3 HO3
      cases r with
      | nil =>
        have hrm := readM_yes HSYB.out h400 hm
        obtain ⟨e1, e2, e3, -, -⟩ := vals_some hrm
        have E1 := Lib.hid e1
        have E2 := Lib.hid e2
        have E3 := Lib.hid e3
        have HRM := Lib.hid hrm
        rw [List.length_nil, Nat.sub_zero] at c4
        have hbeq : ((L.length : Int) != (L.length : Int)) = false := by simp
        clear e1 e2 e3 hrm hm htx
        go_wp2
        try rw [Exit.noGoto_ret]
        refine bodyPost_ret (v := .tuple #[.pointer (some ⟨w.heap.size + 1, 0, none⟩), .string (str (tmT (erM y m))), .int .i64 (kindM y m), .bool true]) (by simp [results, Tryz.results91, go_sem]) rfl ?_
        refine ⟨⟨w.heap.size + 1, by rw [E1.out, E2.out, E3.out], by omega, fun m2 hm2 => ?_⟩, HB4.out⟩
        rw [HRM.out] at hm2
        injection hm2 with hm2
        subst hm2
        have h1 := HS4.out.row
        rw [List.length_nil, Nat.sub_zero, Int.zero_add] at h1
        exact ⟨sv, cv, fv, c', h1, by simpa using HO4.out, HOK.out⟩
      | cons c r =>
        have hrm := readM_rest (by simp) hm
        obtain ⟨e1, e2, e3, -, -⟩ := vals_none hrm
        have E1 := Lib.hid e1
        have E2 := Lib.hid e2
        have E3 := Lib.hid e3
        have HRM := Lib.hid hrm
        have hl : (c :: r).length ≤ L.length := by have h := congrArg List.length htx; rw [List.length_append] at h; omega
        simp only [List.length_cons] at hl c4
        obtain ⟨n4, hn4⟩ : ∃ n, n = L.length - (r.length + 1) := ⟨_, rfl⟩
        rw [← hn4] at c4
        have hne : ¬ n4 = L.length := by omega
        have hbeq : ((n4 : Int) != (L.length : Int)) = true := by simp; omega
        clear e1 e2 e3 hrm hm htx hn4
        go_wp2
        try rw [Exit.noGoto_ret]
        refine bodyPost_ret (v := .tuple #[.pointer (some ⟨w.heap.size + 1, 0, none⟩), .string ⟨#[]⟩, .int .i64 (-1), .bool false]) (by simp [results, Tryz.results91, go_sem]) rfl ?_
        exact ⟨⟨w.heap.size + 1, by rw [E1.out, E2.out, E3.out]; rfl, by omega, fun m2 hm2 => by rw [HRM.out] at hm2; cases hm2⟩, HB4.out⟩
    · have HB4 : Hid (Below w.heap.size w w4) := HB3.out.trans (hk4.below (by omega) (fun g hg => by cases hg) (by omega))
      rw [List.drop_zero] at hm
      have hrm := readM_no hm
      obtain ⟨e1, e2, e3, -, -⟩ := vals_none hrm
      have E1 := Lib.hid e1
      have E2 := Lib.hid e2
      have E3 := Lib.hid e3
      have HRM := Lib.hid hrm
      obtain ⟨q4, hq4, hs4⟩ := hb4
      obtain ⟨-, -, -, -, c4, c5, -, -⟩ := hs4.cells
      clear e1 e2 e3 hrm hm hs4 hk4 hat4
      go_wp2
      try rw [Exit.noGoto_ret]
      refine bodyPost_ret (v := .tuple #[.pointer (some ⟨w.heap.size + 1, 0, none⟩), .string ⟨#[]⟩, .int .i64 (-1), .bool false]) (by simp [results, Tryz.results91, go_sem]) rfl ?_
      exact ⟨⟨w.heap.size + 1, by rw [E1.out, E2.out, E3.out]; rfl, by omega, fun m2 hm2 => by rw [HRM.out] at hm2; cases hm2⟩, HB4.out⟩

set_option maxRecDepth 100000 in
set_option maxHeartbeats 1000000 in
theorem specMade_any (lo hi : Nat) (sv cv fv : Value) (y : Sy) (L : List UInt8) (w : World) (hv : SyAt w lo hi sv cv fv y) (hB : hi ≤ w.heap.size) :
    Calls Tryz.prog 55 #[.agg #[sv, cv, fv], .string (str L)] w fun e w' => e = .returned (.tuple #[.int .i64 (kdM y L), .bool (okM y L)]) ∧ Below w.heap.size w w' := by
  obtain ⟨A1, cap1, rfl, _, _, _⟩ := hv.1.1.form
  obtain ⟨A2, cap2, rfl, _, _, _⟩ := hv.1.2.form
  obtain ⟨A3, cap3, rfl, _, _, _⟩ := hv.2.form
  have hb1 : Below w.heap.size w (w.alloc (.cells #[.slice A1 y.ty.sizes.length cap1, .slice A2 y.ty.cos.length cap2, .slice A3 y.fs.length cap3] 37)) := (Below.refl _ _).alloc (Nat.le_refl _) _
  have HR := Lib.hid (l7Read_any lo hi _ _ _ y L _ (hv.below hb1 hB) (by rw [World.size_alloc]; omega))
  have HB1 := Lib.hid hb1
  clear hv hb1
  go_enter Tryz.func55, Tryz.ntmps55
  go_wp2_with fail
  refine HR.out.mono ?_
  rintro e w2 ⟨⟨b, rfl, _, _⟩, hb2⟩
  have HB2 := Lib.hid (HB1.out.trans (hb2.mono (by rw [World.size_alloc]; omega)))
  clear hb2 HR HB1
  go_wp2
  try rw [Exit.noGoto_ret]
  refine bodyPost_ret (v := .tuple #[.int .i64 (kdM y L), .bool (okM y L)]) (by simp [results, Tryz.results55, go_sem]) rfl ?_
  exact ⟨rfl, HB2.out⟩

end Go.Proofs.YtdemcoghgnnheaaGreatDoor

namespace Go.Proofs.YtdemcoghgnnheaaGreatDoor
open Go.RowKit
attribute [local go_sem] Oper.semAt_some

def prodTo (ts : List Int) : Nat → Int
  | 0 => 1
  | k + 1 => prodTo ts k * ts.getD k 0
/-- The place of the first k values. -/
def plTo (ts vs : List Int) : Nat → Int
  | 0 => 0
  | k + 1 => plTo ts vs k * ts.getD k 0 + vs.getD k 0
/-- Values of types of such sizes. -/
def InT (ts vs : List Int) : Prop := vs.length = ts.length ∧ ∀ j, j < ts.length → 0 ≤ vs.getD j 0 ∧ vs.getD j 0 < ts.getD j 0
open Classical in
noncomputable def resV (ts rs vs : List Int) : Int := if InT ts vs then rs.getD (plTo ts vs ts.length).toNat 0 else -1
theorem resV_yes {ts rs vs : List Int} (h : InT ts vs) : resV ts rs vs = rs.getD (plTo ts vs ts.length).toNat 0 := by unfold resV; exact if_pos h
theorem resV_no {ts rs vs : List Int} (h : ¬ InT ts vs) : resV ts rs vs = -1 := by unfold resV; exact if_neg h

theorem plTo_bound {ts vs : List Int} (h2 : ts.length ≤ 2) (hs : ∀ j, j < ts.length → 1 ≤ ts.getD j 0 ∧ ts.getD j 0 ≤ 4) : ∀ k, k ≤ ts.length → (∀ j, j < k → 0 ≤ vs.getD j 0 ∧ vs.getD j 0 < ts.getD j 0) → 0 ≤ plTo ts vs k ∧ plTo ts vs k < prodTo ts k ∧ prodTo ts k ≤ 16 := by
  intro k hk hv
  match k, hk with
  | 0, _ => exact ⟨by show (0 : Int) ≤ 0; omega, by show (0 : Int) < 1; omega, by show (1 : Int) ≤ 16; omega⟩
  | 1, hk =>
    have h0 := hs 0 (by omega)
    have v0 := hv 0 (by omega)
    show 0 ≤ 0 * ts.getD 0 0 + vs.getD 0 0 ∧ 0 * ts.getD 0 0 + vs.getD 0 0 < 1 * ts.getD 0 0 ∧ 1 * ts.getD 0 0 ≤ 16
    rw [Int.zero_mul, Int.one_mul]
    omega
  | 2, hk =>
    have h0 := hs 0 (by omega)
    have h1 := hs 1 (by omega)
    have v0 := hv 0 (by omega)
    have v1 := hv 1 (by omega)
    show 0 ≤ (0 * ts.getD 0 0 + vs.getD 0 0) * ts.getD 1 0 + vs.getD 1 0 ∧ (0 * ts.getD 0 0 + vs.getD 0 0) * ts.getD 1 0 + vs.getD 1 0 < 1 * ts.getD 0 0 * ts.getD 1 0 ∧ 1 * ts.getD 0 0 * ts.getD 1 0 ≤ 16
    rw [Int.zero_mul, Int.one_mul, Int.zero_add]
    generalize ts.getD 0 0 = p at *
    generalize ts.getD 1 0 = q at *
    generalize vs.getD 0 0 = a at *
    generalize vs.getD 1 0 = b at *
    have hq : q = 1 ∨ q = 2 ∨ q = 3 ∨ q = 4 := by omega
    rcases hq with rfl | rfl | rfl | rfl <;> omega
  | k + 3, hk => omega

set_option maxRecDepth 100000 in
set_option maxHeartbeats 4000000 in
theorem result_any (lo hi lo1 hi1 lo2 hi2 : Nat) (sv rv vv : Value) (ts rs vs : List Int) (w : World) (hs : IntsAt w lo hi sv ts) (hr : IntsAt w lo1 hi1 rv rs) (hv : IntsAt w lo2 hi2 vv vs) (hB : hi ≤ w.heap.size) (hB1 : hi1 ≤ w.heap.size) (hB2 : hi2 ≤ w.heap.size)
    (h2 : ts.length ≤ 2) (hsz : ∀ j, j < ts.length → 1 ≤ ts.getD j 0 ∧ ts.getD j 0 ≤ 4) (hlen : (rs.length : Int) = prodTo ts ts.length) :
    Calls Tryz.prog 175 #[.agg #[sv, rv], vv] w fun e w' => e = .returned (.int .i64 (resV ts rs vs)) ∧ Below w.heap.size w w' := by
  obtain ⟨S, sap, rfl, hls, hms, hs1⟩ := hs.form
  obtain ⟨R, rap, rfl, hlr, hmr, hr1⟩ := hr.form
  obtain ⟨V, vap, rfl, hlv, hmv, hv1⟩ := hv.form
  unfold maxLen at hms hmr hmv
  have h3 : Below w.heap.size w (w.alloc (.cells #[.slice S ts.length sap, .slice R rs.length rap] 261)) := by go_grown
  have Hs := Lib.hid hs1
  have Hr := Lib.hid hr1
  have Hv := Lib.hid hv1
  clear hs hr hv hs1 hr1 hv1
  by_cases hl : vs.length = ts.length
  case neg =>
    have hd : ((vs.length : Int) != (ts.length : Int)) = true := by simp; omega
    have H := Lib.hid (resV_no (rs := rs) fun h : InT ts vs => hl h.1)
    clear hl
    go_enter Tryz.func175, Tryz.ntmps175
    go_wp2
    go_ret
    exact ⟨ret_int H.out.symm, h3⟩
  have hd : ((vs.length : Int) != (ts.length : Int)) = false := by simp; omega
  have Hl := Lib.hid hl
  clear hl
  go_enter Tryz.func175, Tryz.ntmps175
  go_wp2
  obtain ⟨wb, hwb⟩ : ∃ wb, wb = w.alloc (.cells #[.slice S ts.length sap, .slice R rs.length rap] 261) := ⟨_, rfl⟩
  have hrow : Row wb w.heap.size 261 [.slice S ts.length sap, .slice R rs.length rap] := by rw [hwb]; exact Row.new _ _ _
  have hbb : Below w.heap.size w wb := by rw [hwb]; exact h3
  have q0 := hrow.cell 0
  have q1 := hrow.cell 1
  simp only [List.getElem?_cons_zero, List.getElem?_cons_succ] at q0 q1
  have Hs' := Lib.hid (Hs.out.below hbb hB)
  have Hr' := Lib.hid (Hr.out.below hbb hB1)
  have Hv' := Lib.hid (Hv.out.below hbb hB2)
  have Hbb := Lib.hid hbb
  rw [← hwb]
  clear hbb h3 hrow hwb Hs Hr Hv hd
  have Hsz := Lib.hid hsz
  have Hlen := Lib.hid hlen
  clear hsz hlen
  go_loop [5, 16] (fun r i => ∃ k : Nat, k ≤ vs.length ∧ i = .int .i64 k ∧ r = .int .i64 (plTo ts vs k) ∧ Hid (∀ j, j < k → 0 ≤ vs.getD j 0 ∧ vs.getD j 0 < ts.getD j 0)) (fun _ i => vs.length - (intOf i).toNat)
  case atStart => exact ⟨0, Nat.zero_le _, rfl, rfl, fun j hj => absurd hj (by omega)⟩
  case round =>
    obtain ⟨k, hk, rfl, rfl, hok⟩ := hrel
    by_cases hlt : k < vs.length
    · have hkt : k < ts.length := by have := Hl.out; omega
      obtain ⟨b1, o1, rfl, _, _, e1, hi64⟩ := Hv'.out.at_ hlt
      obtain ⟨b2, o2, rfl, _, _, e2, _⟩ := Hs'.out.at_ hkt
      have hktI : (k : Int) < (ts.length : Int) := by omega
      have hgv : Hid (vs.getD k 0 = vs[k]) := by show _ = _; rw [List.getD_eq_getElem?_getD, List.getElem?_eq_getElem hlt]; rfl
      have hgt : Hid (ts.getD k 0 = ts[k]) := by show _ = _; rw [List.getD_eq_getElem?_getD, List.getElem?_eq_getElem hkt]; rfl
      by_cases hin : ixB vs[k] ts[k] = true
      · have hin2 : 0 ≤ vs[k] ∧ vs[k] < ts[k] := by simpa [ixB] using hin
        have hok2 : Hid (∀ j, j < k + 1 → 0 ≤ vs.getD j 0 ∧ vs.getD j 0 < ts.getD j 0) := fun j hj => by
          by_cases e : j = k
          · subst e; rw [hgv.out, hgt.out]; exact hin2
          · exact hok.out j (by omega)
        have hb := plTo_bound h2 Hsz.out (k + 1) hkt hok2.out
        have hstep : plTo ts vs (k + 1) = plTo ts vs k * ts[k] + vs[k] := by show plTo ts vs k * ts.getD k 0 + vs.getD k 0 = _; rw [hgv.out, hgt.out]
        have hb0 := plTo_bound h2 Hsz.out k (by omega) (fun j hj => hok.out j (by omega))
        rw [hstep] at hb
        have ht4 := Hsz.out k hkt
        rw [hgt.out] at ht4
        have hm : 0 ≤ plTo ts vs k * ts[k] := Int.mul_nonneg hb0.1 (by omega)
        have hwr := wrapIn (plTo ts vs k * ts[k]) (by omega) (by omega)
        have hwr2 := wrapIn (plTo ts vs k * ts[k] + vs[k]) (by omega) (by omega)
        have Hstep := Lib.hid hstep
        clear hstep hb hb0 hm hin2 ht4
        go_wp2_with (go_at_call 158; refine (isIndex_any _ _ _).mono ?_; rintro e w' ⟨rfl, rfl⟩; rw [hin])
        go_round
        case rel => exact ⟨k + 1, by omega, by go_num, by rw [Hstep.out], hok2⟩
        case measure => simp [intOf]; omega
      · have hinf : ixB vs[k] ts[k] = false := by simpa using hin
        have H := Lib.hid (resV_no (rs := rs) fun h : InT ts vs => hin (by have := h.2 k hkt; rw [hgv.out, hgt.out] at this; exact ixB_yes this.1 this.2))
        clear hin
        go_wp2_with (go_at_call 158; refine (isIndex_any _ _ _).mono ?_; rintro e w' ⟨rfl, rfl⟩; rw [hinf])
        go_ret
        exact ⟨ret_int H.out.symm, Hbb.out⟩
    · obtain rfl : k = vs.length := by omega
      have hIn : InT ts vs := ⟨Hl.out, fun j hj => hok.out j (by have := Hl.out; omega)⟩
      have hb := plTo_bound h2 Hsz.out ts.length (Nat.le_refl _) hIn.2
      have hL := Hlen.out
      rw [← Hl.out] at hb hL
      have hlt2 : (plTo ts vs vs.length).toNat < rs.length := by omega
      have H : Hid (resV ts rs vs = rs[(plTo ts vs vs.length).toNat]) := by
        show _ = _
        rw [resV_yes hIn, ← Hl.out, List.getD_eq_getElem?_getD, List.getElem?_eq_getElem hlt2]; rfl
      obtain ⟨b3, o3, rfl, _, _, e3, _⟩ := Hr'.out.at_ hlt2
      have hp0 := hb.1
      have hp1 : plTo ts vs vs.length < (rs.length : Int) := by omega
      clear hb hL hIn
      go_wp2
      go_ret
      exact ⟨ret_int H.out.symm, Hbb.out⟩
end Go.Proofs.YtdemcoghgnnheaaGreatDoor

