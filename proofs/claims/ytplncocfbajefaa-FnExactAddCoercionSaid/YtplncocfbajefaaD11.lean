/-
  The contract of the program's SystemValid.
  The contract of WithFunction, the program's.
  sync.Once in one goroutine, the lock free and nothing done yet: the parts of its slow road, each a contract of its own.
  The table that a coercion makes once: filled by the function that is handed to the Once.
  sync.Once's Do, not done yet, the lock free, over the table of a coercion; and the look-up in the table.
  The contracts of ApplyCoercion, the program's and the model's.
  The contracts of the model's l4Cells and l4Function.
  The contract of the model's comparison of two lists.
  The contract of the model's SystemValid.
-/
import Derived.Test.YtplncocfbajefaaD9
import Derived.Test.YtplncocfbajefaaD10
import Derived.Test.YtplncocfbajefaaD8
import Derived.Test.YtplncocfbajefaaRows
import Derived.Test.YtplncocfbajefaaD1
import Derived.Tactics
import Derived.Tactics2
import Derived.Defers
import Derived.Laws.Pointers
import Derived.Laws.LoneSync
import Derived.RegionTactic
import Derived.RegionCalls
import Derived.ChangeAlike
import Derived.Outline
import Derived.Handy
import Derived.StillTailTactics
import Derived.Laws.CopyOwn
import Derived.Deep.RegionHeld3
import Derived.BigQuiet
import Derived.Deep.QuietTactic
namespace Go.Proofs.Ytplncocfbajefaa
open Go.RowKit

set_option maxRecDepth 100000 in
set_option maxHeartbeats 4000000 in
theorem implSysValid_any (lo hi : Nat) (sv cv fv : Value) (y : Sy) (w : World) (hv : SyAt w lo hi sv cv fv y) (hB : hi ≤ w.heap.size) :
    Calls Try.prog 47 #[.agg #[sv, cv, fv]] w fun e w' => e = .returned (.bool (syB y)) ∧ Below w.heap.size w w' := by
  obtain ⟨hty, hfs⟩ := hv
  obtain ⟨A, cap, rfl, hl1, hm1, hi1⟩ := hty.1.form
  obtain ⟨B, bap, rfl, hl2, hm2, hc1⟩ := hty.2.form
  obtain ⟨F, fap, rfl, hl3, hm3, hf1⟩ := hfs.form
  unfold maxLen at hm1 hm2 hm3
  have h3 : Below w.heap.size w (w.alloc (.cells #[.slice A y.ty.sizes.length cap, .slice B y.ty.cos.length bap, .slice F y.fs.length fap] 38)) := by go_grown
  have Hty := Lib.hid (show TyAt w lo hi (.slice A y.ty.sizes.length cap) (.slice B y.ty.cos.length bap) y.ty from ⟨hi1, hc1⟩)
  have Hf1 := Lib.hid hf1
  clear hty hfs hi1 hc1 hf1
  have H1 := Lib.hid (Below.refl (w.heap.size + 1) (w.alloc (.cells #[.slice A y.ty.sizes.length cap, .slice B y.ty.cos.length bap, .slice F y.fs.length fap] 38)))
  go_enter Try.func47, Try.ntmps47
  go_wp2_with fail
  refine (implValid_any lo hi _ _ y.ty _ (Hty.out.below h3 hB) (by simp; omega)).mono ?_
  rintro e w1 ⟨rfl, hb1⟩
  have H2 := Lib.hid (H1.out.trans (hb1.mono (by simp)))
  obtain ⟨q0, q1, q2, hl, hB1⟩ := box3 H2.out
  have HB1 := Lib.hid hB1
  clear hb1 h3 hB1 H1
  by_cases c1 : tyOk y.ty = true
  case neg =>
    have H : Hid (syB y = false) := syB_no fun h => c1 h.ty
    have c1f : tyOk y.ty = false := by simpa using c1
    rw [c1f]
    clear c1
    go_wp2
    go_ret
    exact ⟨ret_bool H.out.symm, HB1.out⟩
  have hok := Lib.hid (tyOk_sizes c1)
  have C1 := Lib.hid c1
  rw [c1]
  clear c1
  by_cases c2 : y.fs.length ≤ 8
  case neg =>
    have H : Hid (syB y = false) := syB_no fun h => c2 h.few
    have hd : decide ((8 : Int) < (y.fs.length : Int)) = true := by simp; omega
    go_wp2
    go_ret
    exact ⟨ret_bool H.out.symm, HB1.out⟩
  have hd : decide ((8 : Int) < (y.fs.length : Int)) = false := by simp; omega
  have C2 := Lib.hid c2
  go_wp2
  clear hd
  go_loopw [18] (fun i wr => ∃ k : Nat, k ≤ y.fs.length ∧ i = .int .i64 k ∧ Hid (Below (w.heap.size + 1) w1 wr) ∧ Hid (∀ j, j < k → ∀ (hj : j < y.fs.length), FuOk y.ty.sizes y.fs[j])) (fun i _ => y.fs.length - (intOf i).toNat)
  case atStart => exact ⟨0, Nat.zero_le _, rfl, Below.refl _ _, fun j hj => absurd hj (by omega)⟩
  case round =>
    obtain ⟨k, hk, rfl, hbr, hok2⟩ := hrel
    have hbo : Below w.heap.size w wr := HB1.out.trans (hbr.out.mono (by omega))
    have hcl : ∀ o, wr.cell? ⟨w.heap.size, o, none⟩ = w1.cell? ⟨w.heap.size, o, none⟩ := fun o => hbr.out.cell (p := ⟨w.heap.size, o, none⟩) (by dsimp only; omega)
    have p0 := (hcl 0).trans q0
    have p1 := (hcl 1).trans q1
    have p2 := (hcl 2).trans q2
    have hlr : w.heap.size < wr.heap.size := Nat.lt_of_lt_of_le hl hbr.out.size
    clear hcl
    by_cases hkl : k < y.fs.length
    · obtain ⟨b, off, A1, cap1, A2, cap2, rfl, _, _, d0, d1, d2, d3, _, _, _, _, hfu⟩ := (Hf1.out.below hbo hB).at_ hkl
      have Hfu := Lib.hid hfu
      have Hi4 := Lib.hid (Hty.out.1.below hbo hB)
      have Hbo := Lib.hid hbo
      clear hfu hbo
      by_cases hin : fuB y.ty.sizes y.fs[k] = true
      · have hin' := Lib.hid (fuB_iff.1 hin)
        go_wp2_with fail
        refine (fitsFu_any lo hi lo hi _ _ _ _ _ y.ty.sizes y.fs[k] (wr.alloc (.cells #[.string y.fs[k].name, .slice A1 y.fs[k].args.length cap1, .int .i64 y.fs[k].res, .slice A2 y.fs[k].table.length cap2] 79)) (Hi4.out.below ((Below.refl _ _).alloc (Nat.le_refl _) _) (by omega)) (Hfu.out.below ((Below.refl _ _).alloc (Nat.le_refl _) _) (by omega)) (by simp; omega) (by simp; omega) hok.out).mono ?_
        rintro e w' ⟨rfl, hbb⟩
        have Hbb := Lib.hid hbb
        clear hbb
        rw [hin]
        go_wp2
        go_roundw
        case rel =>
          refine ⟨k + 1, by omega, by go_num, (hbr.out.alloc (by omega) _).trans (Hbb.out.mono (by simp; omega)), fun j hj hjl => ?_⟩
          by_cases ej : j = k
          · subst ej; exact hin'.out
          · exact hok2.out j (by omega) hjl
        case measure => simp [intOf]; omega
      · have hinf : fuB y.ty.sizes y.fs[k] = false := by simpa using hin
        have H : Hid (syB y = false) := syB_no fun h => hin (fuB_yes (h.each k hkl))
        clear hin
        go_wp2_with fail
        refine (fitsFu_any lo hi lo hi _ _ _ _ _ y.ty.sizes y.fs[k] (wr.alloc (.cells #[.string y.fs[k].name, .slice A1 y.fs[k].args.length cap1, .int .i64 y.fs[k].res, .slice A2 y.fs[k].table.length cap2] 79)) (Hi4.out.below ((Below.refl _ _).alloc (Nat.le_refl _) _) (by omega)) (Hfu.out.below ((Below.refl _ _).alloc (Nat.le_refl _) _) (by omega)) (by simp; omega) (by simp; omega) hok.out).mono ?_
        rintro e w' ⟨rfl, hbb⟩
        have Hbb := Lib.hid hbb
        clear hbb
        rw [hinf]
        go_wp2
        go_ret
        exact ⟨ret_bool H.out.symm, (Hbo.out.alloc (by omega) _).trans (Hbb.out.mono (by simp; omega))⟩
    · obtain rfl : k = y.fs.length := by omega
      have H : Hid (differB y.fs = syB y) := by
        show _ = _
        rw [Bool.eq_iff_iff, differB_iff, syB_iff]
        exact ⟨fun h => ⟨C1.out, C2.out, fun i hi => hok2.out i hi hi, h⟩, fun h => h.differ⟩
      have Hbo := Lib.hid hbo
      clear hbo
      go_wp2_with fail
      refine (callsDiffer_any lo hi _ y.fs _ (Hf1.out.below Hbo.out hB) (by omega) (by omega)).mono ?_
      rintro e w' ⟨rfl, hbb⟩
      have Hbb := Lib.hid hbb
      clear hbb
      go_wp2
      go_ret
      exact ⟨ret_bool H.out, Hbo.out.trans (Hbb.out.mono (by omega))⟩
end Go.Proofs.Ytplncocfbajefaa

namespace Go.Proofs.Ytplncocfbajefaa
open Go.RowKit

def addFu (y : Sy) (f : Fu) : Sy := ⟨y.ty, y.fs ++ [f]⟩
noncomputable def withOkF (y : Sy) (f : Fu) : Bool := syB y && syB (addFu y f)
noncomputable def withFu (y : Sy) (f : Fu) : Sy := if withOkF y f = true then addFu y f else ⟨⟨[], []⟩, []⟩

theorem SyOwned.none_ (w : World) (base : Nat) (hb : base ≤ w.heap.size) : SyOwned w base (.slice none 0 0) (.slice none 0 0) (.slice none 0 0) ⟨⟨[], []⟩, []⟩ :=
  ⟨w.heap.size, w, w.heap.size, hb, Nat.le_refl _, ⟨w.heap.size, Nat.le_refl _, World.ownsRow_nil _ _ _ _, fun g hg => (by simp [Value.ownBlock] at hg), CosOwned.nil _ _ _⟩, fun _ _ _ => rfl, Nat.le_refl _, Nat.le_refl _, FusOwned.nil _ _ _⟩

end Go.Proofs.Ytplncocfbajefaa

namespace Go.Proofs.Ytplncocfbajefaa
open Go.RowKit

end Go.Proofs.Ytplncocfbajefaa

namespace Go.Proofs.Ytplncocfbajefaa
open Go.RowKit

/-- What the table holds. -/
def tabOf (zs : List Int) : List Value := zs.map (Value.int .i64) ++ List.replicate (4 - zs.length) (.int .i64 (-1))

end Go.Proofs.Ytplncocfbajefaa

namespace Go.Proofs.Ytplncocfbajefaa
open Go.RowKit

/-- What the table gives for a value. -/
def lookOf (zs : List Int) (v : Int) : Int := if 0 ≤ v ∧ v < zs.length then zs.getD v.toNat 0 else -1
theorem tabOf_get (zs : List Int) (hn : zs.length ≤ 4) (v : Int) (h0 : 0 ≤ v) (h4 : v < 4) : (tabOf zs)[v.toNat]? = some (.int .i64 (lookOf zs v)) := by
  unfold tabOf lookOf
  by_cases h : v < zs.length
  · rw [List.getElem?_append_left (by simp; omega), List.getElem?_map, List.getElem?_eq_getElem (by omega), if_pos ⟨h0, h⟩, List.getD_eq_getElem?_getD, List.getElem?_eq_getElem (by omega)]
    rfl
  · rw [List.getElem?_append_right (by simp; omega), if_neg (fun hh => h hh.2), List.length_map, List.getElem?_replicate, if_pos (by omega)]
theorem lookOf_out (zs : List Int) (hn : zs.length ≤ 4) (v : Int) (h : ¬ (0 ≤ v ∧ v < 4)) : lookOf zs v = -1 := by
  unfold lookOf
  rw [if_neg (fun hh => h ⟨hh.1, by omega⟩)]

end Go.Proofs.Ytplncocfbajefaa

namespace Go.Proofs.Ytplncocfbajefaa
open Go.RowKit

/-- A world of a class. -/
structure InC (D : World → Prop) where
  val : World
  inD : D val
/-- A region that draws its order, every operation of which yields one value in every world of a class and leaves a world of the class: one walk serves every order. -/
theorem wp_region_class {P : Program} (D : World → Prop) {id : Nat} {Q : Exit → Act → World → Prop} {a : Act} {w : World} {l : List Oper} (hm : P.follows .mixedOrders = true) (hB : Region.lexB .any l.toArray = true) (hD : D w.drew)
    (h : wpQuiet P l.toArray (fun w' => ∃ x : InC D, w' = x.val) (fun a' => ∀ w', (∃ x : InC D, w' = x.val) → Q .normal a' w') l a) : (Code.region id l.toArray true).wp P Q a w :=
  wp_region_quiet (C := fun w' => ∃ x : InC D, w' = x.val) hm hB ⟨⟨_, hD⟩, rfl⟩ (by simpa using h)

theorem lookOf_in {zs : List Int} {v : Int} (h0 : 0 ≤ v) (h : v.toNat < zs.length) : lookOf zs v = zs[v.toNat] := by
  unfold lookOf
  rw [if_pos ⟨h0, by omega⟩, List.getD_eq_getElem?_getD, List.getElem?_eq_getElem h]; rfl

/-- Are the types valid, and is there such a coercion? -/
def hasC (t : Ty) (i : Int) : Bool := tyOk t && ixB i t.cos.length
theorem hasC_of {t : Ty} {i : Int} (h : hasC t i = true) : tyOk t = true ∧ 0 ≤ i ∧ i < t.cos.length ∧ i.toNat < t.cos.length := by
  simp only [hasC, Bool.and_eq_true, ixB, decide_eq_true_eq] at h
  exact ⟨h.1, h.2.1, h.2.2, by omega⟩
theorem hasC_co {t : Ty} {i : Int} (h : hasC t i = true) (hi : i.toNat < t.cos.length) : coOk t.sizes t.cos[i.toNat] = true := by
  have h1 := (hasC_of h).1
  simp only [tyOk, Bool.and_eq_true, List.all_eq_true] at h1
  exact h1.2 _ (List.getElem_mem hi)
/-- What a coercion makes of a value. -/
def applyV (t : Ty) (i v : Int) : Int := if hasC t i = true then lookOf (t.cos.getD i.toNat default).map v else -1
theorem applyV_no {t : Ty} {i v : Int} (h : hasC t i = false) : applyV t i v = -1 := by unfold applyV; rw [h]; rfl
theorem applyV_yes {t : Ty} {i v : Int} (h : hasC t i = true) (hi : i.toNat < t.cos.length) : applyV t i v = lookOf t.cos[i.toNat].map v := by
  unfold applyV; rw [if_pos h, List.getD_eq_getElem?_getD, List.getElem?_eq_getElem hi]; rfl

end Go.Proofs.Ytplncocfbajefaa

namespace Go.Proofs.Ytplncocfbajefaa
open Go.RowKit
attribute [local go_sem] Oper.semAt_some

set_option maxRecDepth 100000 in
set_option maxHeartbeats 2000000 in
theorem l4Cells_any (lo hi lo' hi' : Nat) (sv cv av : Value) (t : Ty) (args : List Int) (w : World) (hv : TyAt w lo hi sv cv t) (ha : IntsAt w lo' hi' av args) (hB : hi ≤ w.heap.size) (hB' : hi' ≤ w.heap.size) (hok : sizesOk t.sizes = true)
    (hargs : ∀ j, ∀ (hj : j < args.length), 0 ≤ args[j] ∧ args[j] < t.sizes.length) (h2 : args.length ≤ 2) :
    Calls Try.prog 75 #[.agg #[sv, cv], av] w fun e w' => e = .returned (.int .i64 (cellsI t.sizes args)) ∧ Below w.heap.size w w' := by
  obtain ⟨A, cap, rfl, hl1, hm1, hi1⟩ := hv.1.form
  obtain ⟨B, bap, rfl, hl2, hm2, _⟩ := hv.2.form
  obtain ⟨A1, cap1, rfl, hl3, hm3, ha1⟩ := ha.form
  obtain ⟨g1, g5, hall⟩ := sizesOk_of hok
  unfold maxLen at hm3
  have h3 : Below w.heap.size w (w.alloc (.cells #[.slice A t.sizes.length cap, .slice B t.cos.length bap] 35)) := by go_grown
  have Hsm := Lib.hid (cellsTo_small hok hargs h2)
  have Hargs := Lib.hid hargs
  have Hi := Lib.hid hi1
  have Ha := Lib.hid ha1
  clear hv ha hi1 ha1 hall hargs
  go_enter Try.func75, Try.ntmps75
  go_wp2
  obtain ⟨wb, hwb⟩ : ∃ wb, wb = w.alloc (.cells #[.slice A t.sizes.length cap, .slice B t.cos.length bap] 35) := ⟨_, rfl⟩
  have hrow : Row wb w.heap.size 35 [.slice A t.sizes.length cap, .slice B t.cos.length bap] := by rw [hwb]; exact Row.new _ _ _
  have hbb : Below w.heap.size w wb := by rw [hwb]; exact h3
  have q0 := hrow.cell 0
  have q1 := hrow.cell 1
  simp only [List.getElem?_cons_zero, List.getElem?_cons_succ] at q0 q1
  have Hi' := Lib.hid (Hi.out.below hbb hB)
  have Ha' := Lib.hid (Ha.out.below hbb hB')
  have Hbb := Lib.hid hbb
  rw [← hwb]
  clear hbb h3 hrow hwb Hi Ha
  go_loop [5, 10] (fun r i => ∃ k : Nat, k ≤ args.length ∧ i = .int .i64 k ∧ r = .int .i64 (cellsTo t.sizes args k)) (fun _ i => args.length - (intOf i).toNat)
  case atStart => exact ⟨0, Nat.zero_le _, rfl, rfl⟩
  case round =>
    obtain ⟨k, hk, rfl, rfl⟩ := hrel
    by_cases hlt : k < args.length
    · obtain ⟨b, off, rfl, _, _, e0, _⟩ := Ha'.out.at_ hlt
      obtain ⟨h0, h1⟩ := Hargs.out k hlt
      have hlt2 : args[k].toNat < t.sizes.length := by omega
      obtain ⟨b2, off2, rfl, _, _, e1, _⟩ := Hi'.out.at_ hlt2
      have hs := Hsm.out (k + 1) hlt
      have hstep : cellsTo t.sizes args (k + 1) = cellsTo t.sizes args k * t.sizes[args[k].toNat] := by
        show cellsTo t.sizes args k * t.sizes.getD (args.getD k 0).toNat 0 = _
        rw [List.getD_eq_getElem?_getD (l := args), List.getElem?_eq_getElem hlt, Option.getD_some, List.getD_eq_getElem?_getD, List.getElem?_eq_getElem hlt2]
        rfl
      rw [hstep] at hs
      have hwr := wrapIn (cellsTo t.sizes args k * t.sizes[args[k].toNat]) (by omega) (by omega)
      have Hstep := Lib.hid hstep
      clear hstep hs
      go_wp2
      go_round
      case rel => exact ⟨k + 1, by omega, by go_num, by rw [Hstep.out]⟩
      case measure => simp [intOf]; omega
    · obtain rfl : k = args.length := by omega
      go_wp2
      go_ret
      exact ⟨rfl, Hbb.out⟩

set_option maxRecDepth 100000 in
set_option maxHeartbeats 4000000 in
theorem l4Function_any (lo hi lo' hi' : Nat) (sv cv x a r tv : Value) (t : Ty) (f : Fu) (w : World) (hv : TyAt w lo hi sv cv t) (hc : FuAt w lo' hi' x a r tv f) (hB : hi ≤ w.heap.size) (hB' : hi' ≤ w.heap.size) (hok : sizesOk t.sizes = true) :
    Calls Try.prog 60 #[.agg #[sv, cv], .agg #[x, a, r, tv]] w fun e w' => e = .returned (.bool (fuB t.sizes f)) ∧ Below w.heap.size w w' := by
  obtain ⟨g1, g5, hall⟩ := sizesOk_of hok
  obtain ⟨rfl, rfl, hn, hr, ha, ht⟩ := hc
  obtain ⟨A, cap, rfl, _, _, hi1⟩ := hv.1.form
  obtain ⟨B, bap, rfl, _, _, hco⟩ := hv.2.form
  obtain ⟨A1, cap1, rfl, hl1, hm1, ha1⟩ := ha.form
  obtain ⟨A2, cap2, rfl, hl2, hm2, ht1⟩ := ht.form
  have hT : TyAt w lo hi (.slice A t.sizes.length cap) (.slice B t.cos.length bap) t := ⟨hi1, hco⟩
  unfold maxLen at hm1 hm2 hn
  unfold I64 at hr
  have h3 : Below w.heap.size w ((w.alloc (.cells #[.slice A t.sizes.length cap, .slice B t.cos.length bap] 35)).alloc (.cells #[.string f.name, .slice A1 f.args.length cap1, .int .i64 f.res, .slice A2 f.table.length cap2] 79)) := by go_grown
  have hwr := wrapIn ((t.sizes.length : Int) - 1) (by omega) (by omega)
  clear hv ha ht hco
  by_cases c0 : f.name.size = 1
  case neg =>
    have H : Hid (fuB t.sizes f = false) := fuB_no fun h => c0 (by obtain ⟨b, e, _⟩ := h.name; rw [e]; rfl)
    have hd : ((f.name.size : Int) != 1) = true := by simp; omega
    clear c0
    go_enter Try.func60, Try.ntmps60
    go_wp2
    go_ret
    exact ⟨ret_bool H.out.symm, h3⟩
  obtain ⟨nm, args, res, table⟩ := f
  dsimp only at *
  obtain ⟨b, rfl⟩ := one_byte c0
  have hsz : (⟨#[b]⟩ : ByteArray).size = 1 := rfl
  clear c0 hn
  by_cases c1 : 102 ≤ b.toNat ∧ b.toNat ≤ 107
  case neg =>
    have H : Hid (fuB t.sizes ⟨⟨#[b]⟩, args, res, table⟩ = false) := fuB_no fun h => c1 (nameOk_byte.1 h.name)
    have hA : inB (wrap64 (((⟨#[b]⟩ : ByteArray)[0]'(by show 0 < 1; omega)).toNat : Int)) 102 107 = false := by
      show inB (wrap64 (b.toNat : Int)) 102 107 = false
      have hb := b.toNat_lt
      rw [show wrap64 (b.toNat : Int) = (b.toNat : Int) by unfold wrap64; omega]
      by_cases h : 102 ≤ b.toNat
      · exact inB_high (by omega)
      · exact inB_low (by omega)
    clear c1
    go_enter Try.func60, Try.ntmps60
    go_wp2_with (go_at_call 71; refine (l1In_any _ _ _ _).mono ?_; rintro e w' ⟨rfl, rfl⟩; rw [hA])
    go_ret
    exact ⟨ret_bool H.out.symm, h3⟩
  have hA : inB (wrap64 (((⟨#[b]⟩ : ByteArray)[0]'(by show 0 < 1; omega)).toNat : Int)) 102 107 = true := by
    show inB (wrap64 (b.toNat : Int)) 102 107 = true
    have hb := b.toNat_lt
    rw [show wrap64 (b.toNat : Int) = (b.toNat : Int) by unfold wrap64; omega]
    exact inB_yes (by omega) (by omega)
  have C1 := Lib.hid c1
  clear c1
  by_cases c2 : args.length ≤ 2
  case neg =>
    have H : Hid (fuB t.sizes ⟨⟨#[b]⟩, args, res, table⟩ = false) := fuB_no fun h => c2 h.few
    have hd : decide ((2 : Int) < (args.length : Int)) = true := by simp; omega
    clear c2
    go_enter Try.func60, Try.ntmps60
    go_wp2_with (go_at_call 71; refine (l1In_any _ _ _ _).mono ?_; rintro e w' ⟨rfl, rfl⟩; rw [hA])
    go_ret
    exact ⟨ret_bool H.out.symm, h3⟩
  have hd : decide ((2 : Int) < (args.length : Int)) = false := by simp; omega
  have C2 := Lib.hid c2
  clear c2
  by_cases c3 : inB res 0 ((t.sizes.length : Int) - 1) = true
  case neg =>
    have H : Hid (fuB t.sizes ⟨⟨#[b]⟩, args, res, table⟩ = false) := fuB_no fun h => c3 (inB_yes h.res.1 (by have := h.res.2; dsimp only at this; omega))
    have c3f : inB res 0 ((t.sizes.length : Int) - 1) = false := by simpa using c3
    clear c3
    go_enter Try.func60, Try.ntmps60
    go_wp2_with (go_at_call 71; refine (l1In_any _ _ _ _).mono ?_; rintro e w' ⟨rfl, rfl⟩; first | rw [hA] | rw [c3f])
    go_ret
    exact ⟨ret_bool H.out.symm, h3⟩
  have hres := inB_iff.1 c3
  go_enter Try.func60, Try.ntmps60
  go_wp2_with (go_at_call 71; refine (l1In_any _ _ _ _).mono ?_; rintro e w' ⟨rfl, rfl⟩; first | rw [hA] | rw [c3])
  obtain ⟨wb, hwb⟩ : ∃ wb, wb = (w.alloc (.cells #[.slice A t.sizes.length cap, .slice B t.cos.length bap] 35)).alloc (.cells #[.string ⟨#[b]⟩, .slice A1 args.length cap1, .int .i64 res, .slice A2 table.length cap2] 79) := ⟨_, rfl⟩
  have hrt : Row wb w.heap.size 35 [.slice A t.sizes.length cap, .slice B t.cos.length bap] := by rw [hwb]; exact (Row.new w _ _).alloc _
  have hrf : Row wb (w.heap.size + 1) 79 [.string ⟨#[b]⟩, .slice A1 args.length cap1, .int .i64 res, .slice A2 table.length cap2] := by
    rw [hwb]
    have h := Row.new (w.alloc (.cells #[.slice A t.sizes.length cap, .slice B t.cos.length bap] 35)) 79 [.string ⟨#[b]⟩, .slice A1 args.length cap1, .int .i64 res, .slice A2 table.length cap2]
    rwa [World.size_alloc] at h
  have hbb : Below w.heap.size w wb := by rw [hwb]; exact h3
  have HT := Lib.hid (hT.below hbb hB)
  have Ha := Lib.hid (ha1.below hbb hB')
  have Ht := Lib.hid (ht1.below hbb hB')
  have Hbb := Lib.hid hbb
  have Hrt := Lib.hid hrt
  have Hrf := Lib.hid hrf
  have q0 := hrt.cell 0
  have q1 := hrt.cell 1
  have p1 := hrf.cell 1
  have p2 := hrf.cell 2
  have p3 := hrf.cell 3
  simp only [List.getElem?_cons_zero, List.getElem?_cons_succ] at q0 q1 p1 p2 p3
  have Hsz := Lib.hid hbb.size
  have hls := hrf.lt
  rw [← hwb]
  clear hi1 ha1 ht1 hT hbb h3 hrt hrf hwb hd hA c3 hall
  go_loop [40] (fun i => ∃ k : Nat, k ≤ args.length ∧ i = .int .i64 k ∧ Hid (∀ j, j < k → ∀ (hj : j < args.length), 0 ≤ args[j] ∧ args[j] < t.sizes.length)) (fun i => args.length - (intOf i).toNat)
  case atStart => exact ⟨0, Nat.zero_le _, rfl, fun j hj => absurd hj (by omega)⟩
  case round =>
    obtain ⟨k, hk, rfl, hok2⟩ := hrel
    by_cases hkl : k < args.length
    · obtain ⟨b3, off3, rfl, _, _, e0, _⟩ := Ha.out.at_ hkl
      by_cases hin : inB args[k] 0 ((t.sizes.length : Int) - 1) = true
      · have hin' := Lib.hid (inB_iff.1 hin)
        go_wp2_with (go_at_call 71; refine (l1In_any _ _ _ _).mono ?_; rintro e w' ⟨rfl, rfl⟩; rw [hin])
        go_round
        case rel =>
          refine ⟨k + 1, by omega, by go_num, fun j hj hjl => ?_⟩
          by_cases ej : j = k
          · subst ej; have := hin'.out; omega
          · exact hok2.out j (by omega) hjl
        case measure => simp [intOf]; omega
      · have hinf : inB args[k] 0 ((t.sizes.length : Int) - 1) = false := by simpa using hin
        have H : Hid (fuB t.sizes ⟨⟨#[b]⟩, args, res, table⟩ = false) := fuB_no fun h => hin (by have := h.args k hkl; dsimp only at this; exact inB_yes this.1 (by omega))
        clear hin
        go_wp2_with (go_at_call 71; refine (l1In_any _ _ _ _).mono ?_; rintro e w' ⟨rfl, rfl⟩; rw [hinf])
        go_ret
        exact ⟨ret_bool H.out.symm, Hbb.out⟩
    · obtain rfl : k = args.length := by omega
      have Hargs : Hid (∀ j, ∀ (hj : j < args.length), 0 ≤ args[j] ∧ args[j] < t.sizes.length) := fun j hj => hok2.out j hj hj
      clear hok2
      go_wp2
      go_loopw [55] (fun i wr => ∃ k : Nat, k ≤ table.length ∧ i = .int .i64 k ∧ Hid (Below wb.heap.size wb wr) ∧ Hid (∀ j, j < k → ∀ (hj : j < table.length), 0 ≤ table[j] ∧ table[j] < t.sizes.getD res.toNat 0)) (fun i _ => table.length - (intOf i).toNat)
      case atStart => exact ⟨0, Nat.zero_le _, rfl, Below.refl _ _, fun j hj => absurd hj (by omega)⟩
      case round =>
        obtain ⟨k, hk, rfl, hbr, hok2⟩ := hrel
        have q0 := (Hrt.out.below hbr.out Hrt.out.lt).cell 0
        have q1 := (Hrt.out.below hbr.out Hrt.out.lt).cell 1
        have p1 := (Hrf.out.below hbr.out Hrf.out.lt).cell 1
        have p2 := (Hrf.out.below hbr.out Hrf.out.lt).cell 2
        have p3 := (Hrf.out.below hbr.out Hrf.out.lt).cell 3
        simp only [List.getElem?_cons_zero, List.getElem?_cons_succ] at q0 q1 p1 p2 p3
        have hsr := hbr.out.size
        have HbW : Hid (Below w.heap.size w wr) := Hbb.out.trans (hbr.out.mono Hsz.out)
        have HTr := Lib.hid (HT.out.below hbr.out (by have := Hsz.out; omega))
        have Har := Lib.hid (Ha.out.below hbr.out (by have := Hsz.out; omega))
        have Htr := Lib.hid (Ht.out.below hbr.out (by have := Hsz.out; omega))
        have hBr : hi ≤ wr.heap.size := by have := Hsz.out; omega
        have hBr' : hi' ≤ wr.heap.size := by have := Hsz.out; omega
        by_cases hkl : k < table.length
        · obtain ⟨b3, off3, rfl, _, _, e0, _⟩ := Htr.out.at_ hkl
          have hev : hasV0 t.sizes res table[k] = true ↔ 0 ≤ table[k] ∧ table[k] < t.sizes.getD res.toNat 0 := by
            unfold hasV0
            rw [ixB_yes hres.1 (by omega), Bool.true_and]
            simp [ixB]
          by_cases hin : hasV0 t.sizes res table[k] = true
          · have hin' := Lib.hid (hev.1 hin)
            clear hev
            go_wp2_with (go_at_call 74; refine (l1Has_any lo hi _ _ t res table[k] _ HTr.out hBr hok).mono ?_; rintro e w' ⟨rfl, hbx⟩; rw [hin])
            go_roundw
            case rel =>
              refine ⟨k + 1, by omega, by go_num, hbr.out.trans (hbx.mono hsr), fun j hj hjl => ?_⟩
              by_cases ej : j = k
              · subst ej; exact hin'.out
              · exact hok2.out j (by omega) hjl
            case measure => simp [intOf]; omega
          · have hinf : hasV0 t.sizes res table[k] = false := by simpa using hin
            have H : Hid (fuB t.sizes ⟨⟨#[b]⟩, args, res, table⟩ = false) := fuB_no fun h => hin (hev.2 (h.table k hkl))
            clear hin hev
            go_wp2_with (go_at_call 74; refine (l1Has_any lo hi _ _ t res table[k] _ HTr.out hBr hok).mono ?_; rintro e w' ⟨rfl, hbx⟩; rw [hinf])
            go_ret
            exact ⟨ret_bool H.out.symm, HbW.out.trans (hbx.mono HbW.out.size)⟩
        · obtain rfl : k = table.length := by omega
          have H : Hid (fuB t.sizes ⟨⟨#[b]⟩, args, res, table⟩ = ((table.length : Int) == cellsI t.sizes args)) := by
            show _ = _
            rw [Bool.eq_iff_iff, fuB_iff, beq_iff_eq]
            exact ⟨fun h => h.len, fun h => ⟨nameOk_byte.2 C1.out, C2.out, Hargs.out, ⟨hres.1, by dsimp only; omega⟩, h, fun j hj => hok2.out j hj hj⟩⟩
          have k0 : ∀ z : InC (Below wr.heap.size wr), z.val.cell? ⟨w.heap.size, 0, none⟩ = some (.slice A t.sizes.length cap) := fun z => (z.inD.cell (p := ⟨w.heap.size, 0, none⟩) (by dsimp only; omega)).trans q0
          have k1 : ∀ z : InC (Below wr.heap.size wr), z.val.cell? ⟨w.heap.size, 1, none⟩ = some (.slice B t.cos.length bap) := fun z => (z.inD.cell (p := ⟨w.heap.size, 1, none⟩) (by dsimp only; omega)).trans q1
          have k2 : ∀ z : InC (Below wr.heap.size wr), z.val.cell? ⟨w.heap.size + 1, 1, none⟩ = some (.slice A1 args.length cap1) := fun z => (z.inD.cell (p := ⟨w.heap.size + 1, 1, none⟩) (by dsimp only; omega)).trans p1
          have k3 : ∀ z : InC (Below wr.heap.size wr), z.val.cell? ⟨w.heap.size + 1, 3, none⟩ = some (.slice A2 table.length cap2) := fun z => (z.inD.cell (p := ⟨w.heap.size + 1, 3, none⟩) (by dsimp only; omega)).trans p3
          have hne : Nonempty (InC (Below wr.heap.size wr)) := ⟨⟨wr, Below.refl _ _⟩⟩
          clear hok2 q0 q1 p1 p2 p3
          go_wp2_with fail
          refine wp_region_class (Below wr.heap.size wr) (by kernel_rfl) (by kernel_rfl) ((Below.refl _ _).drew) ?_
          repeat (go_big_quiet_step ((go_at_call 75; rename_i z; exact (l4Cells_any lo hi lo' hi' _ _ _ t args z.val (HTr.out.below z.inD hBr) (Har.out.below z.inD hBr') (by have := z.inD.size; omega) (by have := z.inD.size; omega) hok Hargs.out C2.out).mono fun e w' ⟨he, hb2⟩ => ⟨he, ⟨_, z.inD.trans (hb2.mono z.inD.size)⟩, rfl⟩)))
          refine wpQuiet_nil ?_
          intro _ hw'
          obtain ⟨⟨wz, hbz⟩, rfl⟩ := hw'
          have Hbz := Lib.hid (HbW.out.trans (hbz.mono HbW.out.size))
          clear hbz
          go_wp2
          go_ret
          exact ⟨ret_bool H.out.symm, Hbz.out⟩
end Go.Proofs.Ytplncocfbajefaa

namespace Go.Proofs.Ytplncocfbajefaa
open Go.RowKit

theorem same_pre {xs ys : List Int} (hl : xs.length = ys.length) (h : ∀ k, ∀ (h1 : k < xs.length) (h2 : k < ys.length), xs[k] = ys[k]) : xs = ys := List.ext_getElem hl h

set_option maxRecDepth 100000 in
set_option maxHeartbeats 2000000 in
theorem l3Same_any (lo hi lo2 hi2 : Nat) (xv yv : Value) (xs ys : List Int) (w : World) (hx : IntsAt w lo hi xv xs) (hy : IntsAt w lo2 hi2 yv ys) (hB : hi ≤ w.heap.size) (hB2 : hi2 ≤ w.heap.size) :
    Calls Try.prog 61 #[xv, yv] w fun e w' => e = .returned (.bool (decide (xs = ys))) ∧ Below w.heap.size w w' := by
  obtain ⟨X, xap, rfl, hlx, hmx, hx1⟩ := hx.form
  obtain ⟨Y, yap, rfl, hly, hmy, hy1⟩ := hy.form
  unfold maxLen at hmx hmy
  have Hx := Lib.hid hx1
  have Hy := Lib.hid hy1
  clear hx hy hx1 hy1
  go_enter Try.func61, Try.ntmps61
  go_wp2
  · go_loopw [11] (fun i wr => ∃ j : Nat, j ≤ ys.length ∧ i = .int .i64 j ∧ Hid (Below w.heap.size w wr) ∧ Hid (∀ k, ∀ (h1 : k < xs.length) (h2 : k < ys.length), k < j → xs[k] = ys[k])) (fun i _ => ys.length - (intOf i).toNat)
    case atStart => exact ⟨0, Nat.zero_le _, rfl, Below.refl _ _, fun k _ _ h => absurd h (by omega)⟩
    case round =>
      obtain ⟨j, hj, rfl, hb, hpre⟩ := hrel
      by_cases hlt : j < ys.length
      · obtain ⟨b, off, rfl, _, _, c0, _⟩ := (Hx.out.below hb.out hB).at_ (k := j) (by omega)
        obtain ⟨b', off', rfl, _, _, c0', _⟩ := (Hy.out.below hb.out hB2).at_ (k := j) (by omega)
        have hi1 : (j : Int) < (xs.length : Int) := by omega
        have hi2' : (j : Int) < (ys.length : Int) := by omega
        by_cases he : xs[j] = ys[j]
        · have htest : (xs[j] != ys[j]) = false := by simpa using he
          have hpre2 : Hid (∀ k, ∀ (h1 : k < xs.length) (h2 : k < ys.length), k < j + 1 → xs[k] = ys[k]) := fun k h1 h2 h => by
            by_cases e : k = j
            · subst e; exact he
            · exact hpre.out k h1 h2 (by omega)
          clear he
          go_wp2
          go_quiet (fail)
          go_wp2
          go_roundw
          case rel => exact ⟨j + 1, by omega, by go_num, below_drewN hb.out _, hpre2⟩
          case measure => simp [intOf]; omega
        · have htest : (xs[j] != ys[j]) = true := by simpa using he
          have hno : Hid (decide (xs = ys) = false) := by show _ = _; exact decide_eq_false fun e => he (by subst e; rfl)
          clear he
          go_wp2
          go_quiet (fail)
          go_wp2
          go_ret
          exact ⟨ret_bool hno.out.symm, below_drewN hb.out _⟩
      · obtain rfl : j = ys.length := by omega
        go_wp2
        go_ret
        refine ⟨ret_bool ?_, hb.out⟩
        rw [Bool.eq_iff_iff, beq_iff_eq, decide_eq_true_eq]
        constructor
        · intro e
          exact same_pre (by omega) fun k h1 h2 => hpre.out k h1 h2 (by omega)
        · rintro rfl
          rfl
  · go_loopw [11] (fun i wr => ∃ j : Nat, j ≤ xs.length ∧ i = .int .i64 j ∧ Hid (Below w.heap.size w wr) ∧ Hid (∀ k, ∀ (h1 : k < xs.length) (h2 : k < ys.length), k < j → xs[k] = ys[k])) (fun i _ => xs.length - (intOf i).toNat)
    case atStart => exact ⟨0, Nat.zero_le _, rfl, Below.refl _ _, fun k _ _ h => absurd h (by omega)⟩
    case round =>
      obtain ⟨j, hj, rfl, hb, hpre⟩ := hrel
      by_cases hlt : j < xs.length
      · obtain ⟨b, off, rfl, _, _, c0, _⟩ := (Hx.out.below hb.out hB).at_ (k := j) (by omega)
        obtain ⟨b', off', rfl, _, _, c0', _⟩ := (Hy.out.below hb.out hB2).at_ (k := j) (by omega)
        have hi1 : (j : Int) < (xs.length : Int) := by omega
        have hi2' : (j : Int) < (ys.length : Int) := by omega
        by_cases he : xs[j] = ys[j]
        · have htest : (xs[j] != ys[j]) = false := by simpa using he
          have hpre2 : Hid (∀ k, ∀ (h1 : k < xs.length) (h2 : k < ys.length), k < j + 1 → xs[k] = ys[k]) := fun k h1 h2 h => by
            by_cases e : k = j
            · subst e; exact he
            · exact hpre.out k h1 h2 (by omega)
          clear he
          go_wp2
          go_quiet (fail)
          go_wp2
          go_roundw
          case rel => exact ⟨j + 1, by omega, by go_num, below_drewN hb.out _, hpre2⟩
          case measure => simp [intOf]; omega
        · have htest : (xs[j] != ys[j]) = true := by simpa using he
          have hno : Hid (decide (xs = ys) = false) := by show _ = _; exact decide_eq_false fun e => he (by subst e; rfl)
          clear he
          go_wp2
          go_quiet (fail)
          go_wp2
          go_ret
          exact ⟨ret_bool hno.out.symm, below_drewN hb.out _⟩
      · obtain rfl : j = xs.length := by omega
        go_wp2
        go_ret
        refine ⟨ret_bool ?_, hb.out⟩
        rw [Bool.eq_iff_iff, beq_iff_eq, decide_eq_true_eq]
        constructor
        · intro e
          exact same_pre (by omega) fun k h1 h2 => hpre.out k h1 h2 (by omega)
        · rintro rfl
          rfl
end Go.Proofs.Ytplncocfbajefaa

namespace Go.Proofs.Ytplncocfbajefaa
open Go.RowKit

set_option maxRecDepth 100000 in
set_option maxHeartbeats 4000000 in
theorem specSysValid_any (lo hi : Nat) (sv cv fv : Value) (y : Sy) (w : World) (hv : SyAt w lo hi sv cv fv y) (hB : hi ≤ w.heap.size) :
    Calls Try.prog 41 #[.agg #[sv, cv, fv]] w fun e w' => e = .returned (.bool (syB y)) ∧ Below w.heap.size w w' := by
  obtain ⟨hty, hfs⟩ := hv
  obtain ⟨A, cap, rfl, hl1, hm1, hi1⟩ := hty.1.form
  obtain ⟨B, bap, rfl, hl2, hm2, hc1⟩ := hty.2.form
  obtain ⟨F, fap, rfl, hl3, hm3, hf1⟩ := hfs.form
  unfold maxLen at hm1 hm2 hm3
  have h3 : Below w.heap.size w (w.alloc (.cells #[.slice A y.ty.sizes.length cap, .slice B y.ty.cos.length bap, .slice F y.fs.length fap] 38)) := by go_grown
  have Hty := Lib.hid (show TyAt w lo hi (.slice A y.ty.sizes.length cap) (.slice B y.ty.cos.length bap) y.ty from ⟨hi1, hc1⟩)
  have Hf1 := Lib.hid hf1
  clear hty hfs hi1 hc1 hf1
  have H1 := Lib.hid (Below.refl (w.heap.size + 1) (w.alloc (.cells #[.slice A y.ty.sizes.length cap, .slice B y.ty.cos.length bap, .slice F y.fs.length fap] 38)))
  go_enter Try.func41, Try.ntmps41
  go_wp2_with fail
  refine (specValid_any lo hi _ _ y.ty _ (Hty.out.below h3 hB) (by simp; omega)).mono ?_
  rintro e w1 ⟨rfl, hb1⟩
  have H2 := Lib.hid (H1.out.trans (hb1.mono (by simp)))
  obtain ⟨q0, q1, q2, hl, hB1⟩ := box3 H2.out
  have HB1 := Lib.hid hB1
  clear hb1 h3 hB1 H1
  by_cases c1 : tyOk y.ty = true
  case neg =>
    have H : Hid (syB y = false) := syB_no fun h => c1 h.ty
    have c1f : tyOk y.ty = false := by simpa using c1
    rw [c1f]
    clear c1
    go_wp2
    go_ret
    exact ⟨ret_bool H.out.symm, HB1.out⟩
  have hok := Lib.hid (tyOk_sizes c1)
  have C1 := Lib.hid c1
  rw [c1]
  clear c1
  by_cases c2 : y.fs.length ≤ 8
  case neg =>
    have H : Hid (syB y = false) := syB_no fun h => c2 h.few
    have hd : decide ((8 : Int) < (y.fs.length : Int)) = true := by simp; omega
    go_wp2
    go_ret
    exact ⟨ret_bool H.out.symm, HB1.out⟩
  have hd : decide ((8 : Int) < (y.fs.length : Int)) = false := by simp; omega
  have C2 := Lib.hid c2
  go_wp2
  clear hd
  go_loopw [20] (fun i wr => ∃ k : Nat, k ≤ y.fs.length ∧ i = .int .i64 k ∧ Hid (Below (w.heap.size + 1) w1 wr) ∧ Hid (∀ j, j < k → ∀ (hj : j < y.fs.length), FuOk y.ty.sizes y.fs[j]) ∧
    Hid (∀ i j : Nat, i < k → j < i → ¬ ((y.fs.getD i default).name = (y.fs.getD j default).name ∧ (y.fs.getD i default).args = (y.fs.getD j default).args))) (fun i _ => y.fs.length - (intOf i).toNat)
  case atStart => exact ⟨0, Nat.zero_le _, rfl, Below.refl _ _, fun j hj => absurd hj (by omega), fun i j hi => absurd hi (by omega)⟩
  case round =>
    obtain ⟨k, hk, rfl, hbr, hok2, hdf⟩ := hrel
    have hbo : Below w.heap.size w wr := HB1.out.trans (hbr.out.mono (by omega))
    have hcl : ∀ o, wr.cell? ⟨w.heap.size, o, none⟩ = w1.cell? ⟨w.heap.size, o, none⟩ := fun o => hbr.out.cell (p := ⟨w.heap.size, o, none⟩) (by dsimp only; omega)
    have p0 := (hcl 0).trans q0
    have p1 := (hcl 1).trans q1
    have p2 := (hcl 2).trans q2
    have hlr : w.heap.size < wr.heap.size := Nat.lt_of_lt_of_le hl hbr.out.size
    clear hcl
    by_cases hkl : k < y.fs.length
    · obtain ⟨b, off, A1, cap1, A2, cap2, rfl, _, _, d0, d1, d2, d3, _, _, _, _, hfu⟩ := (Hf1.out.below hbo hB).at_ hkl
      have Hfu := Lib.hid hfu
      have HT4 := Lib.hid (Hty.out.below hbo hB)
      have Hbo := Lib.hid hbo
      clear hfu hbo
      by_cases hin : fuB y.ty.sizes y.fs[k] = true
      case neg =>
        have hinf : fuB y.ty.sizes y.fs[k] = false := by simpa using hin
        have H : Hid (syB y = false) := syB_no fun h => hin (fuB_yes (h.each k hkl))
        clear hin
        go_wp2_with fail
        refine (l4Function_any lo hi lo hi _ _ _ _ _ _ y.ty y.fs[k] (wr.alloc (.cells #[.string y.fs[k].name, .slice A1 y.fs[k].args.length cap1, .int .i64 y.fs[k].res, .slice A2 y.fs[k].table.length cap2] 79)) (HT4.out.below ((Below.refl _ _).alloc (Nat.le_refl _) _) (by omega)) (Hfu.out.below ((Below.refl _ _).alloc (Nat.le_refl _) _) (by omega)) (by simp; omega) (by simp; omega) hok.out).mono ?_
        rintro e w' ⟨rfl, hbb⟩
        have Hbb := Lib.hid hbb
        clear hbb
        rw [hinf]
        go_wp2
        go_ret
        exact ⟨ret_bool H.out.symm, (Hbo.out.alloc (by omega) _).trans (Hbb.out.mono (by simp; omega))⟩
      have hin' := Lib.hid (fuB_iff.1 hin)
      go_wp2_with fail
      refine (l4Function_any lo hi lo hi _ _ _ _ _ _ y.ty y.fs[k] (wr.alloc (.cells #[.string y.fs[k].name, .slice A1 y.fs[k].args.length cap1, .int .i64 y.fs[k].res, .slice A2 y.fs[k].table.length cap2] 79)) (HT4.out.below ((Below.refl _ _).alloc (Nat.le_refl _) _) (by omega)) (Hfu.out.below ((Below.refl _ _).alloc (Nat.le_refl _) _) (by omega)) (by simp; omega) (by simp; omega) hok.out).mono ?_
      rintro e w5 ⟨rfl, hb5⟩
      have hsx : (wr.alloc (.cells #[.string y.fs[k].name, .slice A1 y.fs[k].args.length cap1, .int .i64 y.fs[k].res, .slice A2 y.fs[k].table.length cap2] 79)).heap.size = wr.heap.size + 1 := by simp
      have hrk : Row w5 wr.heap.size 79 [.string y.fs[k].name, .slice A1 y.fs[k].args.length cap1, .int .i64 y.fs[k].res, .slice A2 y.fs[k].table.length cap2] := (Row.new wr _ _).below hb5 (by rw [hsx]; omega)
      have hb05 : Below (w.heap.size + 1) w1 w5 := (hbr.out.alloc (by omega) _).trans (hb5.mono (by rw [hsx]; omega))
      have Hrk := Lib.hid hrk
      have Hfu5 : Hid (IntsAt w5 lo hi (.slice A1 y.fs[k].args.length cap1) y.fs[k].args) := (Hfu.out.2.2.2.2.1.below ((Below.refl _ _).alloc (Nat.le_refl _) _) (by omega)).below hb5 (by rw [hsx]; omega)
      have Hb05 := Lib.hid hb05
      have h5s : wr.heap.size < w5.heap.size := hrk.lt
      have r0 := (hb05.cell (p := ⟨w.heap.size, 2, none⟩) (by dsimp only; omega)).trans q2
      have HbrS := Lib.hid hbr.out.size
      rw [hin]
      clear hb5 hrk hb05 hsx hin p0 p1 p2 d0 d1 d2 d3
      go_wp2
      obtain ⟨N, hN⟩ : ∃ N, N = wr.heap.size := ⟨_, rfl⟩
      rw [← hN] at h5s Hrk HbrS hlr ⊢
      clear hN
      go_loopw [35] (fun q wr => ∃ j : Nat, j ≤ k ∧ q = .int .i64 j ∧ Hid (Below w5.heap.size w5 wr) ∧ Hid (∀ i : Nat, i < j → ¬ ((y.fs.getD k default).name = (y.fs.getD i default).name ∧ (y.fs.getD k default).args = (y.fs.getD i default).args))) (fun q _ => k - (intOf q).toNat)
      case atStart => exact ⟨0, Nat.zero_le _, rfl, Below.refl _ _, fun i hi => absurd hi (by omega)⟩
      case round =>
        obtain ⟨j, hj, rfl, hb5, hd5⟩ := hrel
        have Hb0 : Hid (Below w.heap.size w wr) := HB1.out.trans ((Hb05.out.mono (by omega)).trans (hb5.out.mono (by omega)))
        have s0 := (Hrk.out.below hb5.out h5s).cell 0
        have s1 := (Hrk.out.below hb5.out h5s).cell 1
        have hs5 := hb5.out.size
        have hNw : N < wr.heap.size := by omega
        simp only [List.getElem?_cons_zero, List.getElem?_cons_succ] at s0 s1
        by_cases hjk : j < k
        · have hjl : j < y.fs.length := by omega
          obtain ⟨b', off', A3, cap3, A4, cap4, eF, _, _, d0, d1, d2, d3, _, _, _, _, hfj⟩ := (Hf1.out.below Hb0.out hB).at_ hjl
          obtain ⟨rfl, rfl⟩ : b = b' ∧ off = off' := by simpa using eF
          have Hfj := Lib.hid hfj
          have hjkI : (j : Int) < (k : Int) := by omega
          clear hfj eF
          have HgetK : Hid (y.fs.getD k default = y.fs[k]) := getD_of hkl
          have HgetJ : Hid (y.fs.getD j default = y.fs[j]) := getD_of hjl
          by_cases he : y.fs[k].name = y.fs[j].name
          · have hnm : y.fs[k].name.toList = y.fs[j].name.toList := by rw [he]
            have He := Lib.hid he
            clear he
            go_wp2_with fail
            refine (l3Same_any lo hi lo hi _ _ y.fs[k].args y.fs[j].args _ ((Hfu5.out.below hb5.out (by have := Hb05.out.size; omega)).below ((Below.refl _ _).alloc (Nat.le_refl _) _) (by omega)) (Hfj.out.2.2.2.2.1.below ((Below.refl _ _).alloc (Nat.le_refl _) _) (by omega)) (by simp; omega) (by simp; omega)).mono ?_
            rintro e w' ⟨rfl, hbb⟩
            have Hbb := Lib.hid ((hb5.out.alloc hs5 _).trans (hbb.mono (by simp; omega)))
            clear hbb
            by_cases ha : y.fs[k].args = y.fs[j].args
            · have H : Hid (syB y = false) := syB_no fun h => h.differ k j hkl hjk (by rw [HgetK.out, HgetJ.out]; exact ⟨He.out, ha⟩)
              rw [decide_eq_true ha]
              clear ha
              go_wp2
              go_ret
              exact ⟨ret_bool H.out.symm, HB1.out.trans ((Hb05.out.mono (by omega)).trans (Hbb.out.mono (by omega)))⟩
            · have hd6 : Hid (∀ i : Nat, i < j + 1 → ¬ ((y.fs.getD k default).name = (y.fs.getD i default).name ∧ (y.fs.getD k default).args = (y.fs.getD i default).args)) := fun i hi2 => by
                by_cases e : i = j
                · subst e; rw [HgetK.out, HgetJ.out]; exact fun h => ha h.2
                · exact hd5.out i (by omega)
              rw [decide_eq_false ha]
              clear ha
              go_wp2
              go_roundw
              case rel => exact ⟨j + 1, by omega, by go_num, Hbb.out, hd6⟩
              case measure => simp [intOf]; omega
          · have hnm : ¬ y.fs[k].name.toList = y.fs[j].name.toList := fun h => he (bytes_eq h)
            have hd6 : Hid (∀ i : Nat, i < j + 1 → ¬ ((y.fs.getD k default).name = (y.fs.getD i default).name ∧ (y.fs.getD k default).args = (y.fs.getD i default).args)) := fun i hi2 => by
              by_cases e : i = j
              · subst e; rw [HgetK.out, HgetJ.out]; exact fun h => he h.1
              · exact hd5.out i (by omega)
            clear he
            go_wp2
            go_roundw
            case rel => exact ⟨j + 1, by omega, by go_num, hb5.out.alloc hs5 _, hd6⟩
            case measure => simp [intOf]; omega
        · obtain rfl : j = k := by omega
          have hd6 : Hid (∀ i i' : Nat, i < j + 1 → i' < i → ¬ ((y.fs.getD i default).name = (y.fs.getD i' default).name ∧ (y.fs.getD i default).args = (y.fs.getD i' default).args)) := fun i i' h1 h2 => by
            by_cases e : i = j
            · subst e; exact hd5.out i' h2
            · exact hdf.out i i' (by omega) h2
          have hok6 : Hid (∀ i, i < j + 1 → ∀ (hi2 : i < y.fs.length), FuOk y.ty.sizes y.fs[i]) := fun i h1 h2 => by
            by_cases e : i = j
            · subst e; exact hin'.out
            · exact hok2.out i (by omega) h2
          have hb6 : Hid (Below (w.heap.size + 1) w1 wr) := Hb05.out.trans (hb5.out.mono (by have := Hb05.out.size; omega))
          go_wp2
          go_roundw
          case rel => exact ⟨j + 1, by omega, by go_num, hb6.out, hok6, hd6⟩
          case measure => simp [intOf]; omega
    · obtain rfl : k = y.fs.length := by omega
      have H : Hid (syB y = true) := syB_yes ⟨C1.out, C2.out, fun i hi => hok2.out i hi hi, hdf.out⟩
      go_wp2
      go_ret
      exact ⟨ret_bool H.out.symm, hbo⟩
end Go.Proofs.Ytplncocfbajefaa

