/-
  The contracts of the model's l4Cells and l4Function.
  The contract of the model's comparison of two lists.
  A map from names to the indices of the functions that have them: as plain data, and what it is for no two functions to be alike.
  The contract of the model's SystemValid.
  A region that draws its order, by an invariant over what has been done: one obligation for each operation.
  What holds in a region that appends an index to a map's slice: by what has been done.
  The contract of the program's indicesByName: a map from names to ascending indices.
  The contract of slices.Equal at slices of ints.
  The contract of the program's callsDiffer.
  The contract of the program's SystemValid.
-/
import Derived.Test.YtbblhjdcpmahkaaGreatDoorK2
import Derived.Test.YtbblhjdcpmahkaaGreatDoorK3
import Derived.Test.YtbblhjdcpmahkaaGreatDoorRows
import Derived.Test.YtbblhjdcpmahkaaGreatDoorK1
import Derived.Outline
import Derived.Handy
import Derived.BigQuiet
import Derived.Deep.QuietTactic
import Derived.StillTailTactics
import Derived.Maps.OwnRows
import Derived.Maps.Views
import Derived.Maps.RangeWalk
import Derived.StringKeys
import Derived.WalkKit
import Derived.Deep.AppendLies
import Derived.Maps.GroupsBeside
import Derived.Sort.KeysCollected
namespace Go.Proofs.YtbblhjdcpmahkaaGreatDoor
open Go.RowKit
attribute [local go_sem] Oper.semAt_some

set_option maxRecDepth 100000 in
set_option maxHeartbeats 2000000 in
theorem l4Cells_any (lo hi lo' hi' : Nat) (sv cv av : Value) (t : Ty) (args : List Int) (w : World) (hv : TyAt w lo hi sv cv t) (ha : IntsAt w lo' hi' av args) (hB : hi ≤ w.heap.size) (hB' : hi' ≤ w.heap.size) (hok : sizesOk t.sizes = true)
    (hargs : ∀ j, ∀ (hj : j < args.length), 0 ≤ args[j] ∧ args[j] < t.sizes.length) (h2 : args.length ≤ 2) :
    Calls Tryz.prog 68 #[.agg #[sv, cv], av] w fun e w' => e = .returned (.int .i64 (cellsI t.sizes args)) ∧ Below w.heap.size w w' := by
  obtain ⟨A, cap, rfl, hl1, hm1, hi1⟩ := hv.1.form
  obtain ⟨B, bap, rfl, hl2, hm2, _⟩ := hv.2.form
  obtain ⟨A1, cap1, rfl, hl3, hm3, ha1⟩ := ha.form
  obtain ⟨g1, g5, hall⟩ := sizesOk_of hok
  unfold maxLen at hm3
  have h3 : Below w.heap.size w (w.alloc (.cells #[.slice A t.sizes.length cap, .slice B t.cos.length bap] 34)) := by go_grown
  have Hsm := Lib.hid (cellsTo_small hok hargs h2)
  have Hargs := Lib.hid hargs
  have Hi := Lib.hid hi1
  have Ha := Lib.hid ha1
  clear hv ha hi1 ha1 hall hargs
  go_enter Tryz.func68, Tryz.ntmps68
  go_wp2
  obtain ⟨wb, hwb⟩ : ∃ wb, wb = w.alloc (.cells #[.slice A t.sizes.length cap, .slice B t.cos.length bap] 34) := ⟨_, rfl⟩
  have hrow : Row wb w.heap.size 34 [.slice A t.sizes.length cap, .slice B t.cos.length bap] := by rw [hwb]; exact Row.new _ _ _
  have hbb : Below w.heap.size w wb := by rw [hwb]; exact h3
  have q0 := hrow.cell 0
  have q1 := hrow.cell 1
  simp only [List.getElem?_cons_zero, List.getElem?_cons_succ] at q0 q1
  have Hi' := Lib.hid (Hi.out.below hbb hB)
  have Ha' := Lib.hid (Ha.out.below hbb hB')
  have Hbb := Lib.hid hbb
  rw [← hwb]
  clear hbb h3 hrow hwb Hi Ha
  go_loop [5, 10] (fun r i => ∃ k : Nat, k ≤ args.length ∧ i = .int .i64 k ∧ r = .int .i64 (cellsTo t.sizes args k)) (fun _ i => args.length - (intOf i).toNat)
  case atStart => exact ⟨0, Nat.zero_le _, rfl, rfl⟩
  case round =>
    obtain ⟨k, hk, rfl, rfl⟩ := hrel
    by_cases hlt : k < args.length
    · obtain ⟨b, off, rfl, _, _, e0, _⟩ := Ha'.out.at_ hlt
      obtain ⟨h0, h1⟩ := Hargs.out k hlt
      have hlt2 : args[k].toNat < t.sizes.length := by omega
      obtain ⟨b2, off2, rfl, _, _, e1, _⟩ := Hi'.out.at_ hlt2
      have hs := Hsm.out (k + 1) hlt
      have hstep : cellsTo t.sizes args (k + 1) = cellsTo t.sizes args k * t.sizes[args[k].toNat] := by
        show cellsTo t.sizes args k * t.sizes.getD (args.getD k 0).toNat 0 = _
        rw [List.getD_eq_getElem?_getD (l := args), List.getElem?_eq_getElem hlt, Option.getD_some, List.getD_eq_getElem?_getD, List.getElem?_eq_getElem hlt2]
        rfl
      rw [hstep] at hs
      have hwr := wrapIn (cellsTo t.sizes args k * t.sizes[args[k].toNat]) (by omega) (by omega)
      have Hstep := Lib.hid hstep
      clear hstep hs
      go_wp2
      go_round
      case rel => exact ⟨k + 1, by omega, by go_num, by rw [Hstep.out]⟩
      case measure => simp [intOf]; omega
    · obtain rfl : k = args.length := by omega
      go_wp2
      go_ret
      exact ⟨rfl, Hbb.out⟩

set_option maxRecDepth 100000 in
set_option maxHeartbeats 4000000 in
theorem l4Function_any (lo hi lo' hi' : Nat) (sv cv x a r tv : Value) (t : Ty) (f : Fu) (w : World) (hv : TyAt w lo hi sv cv t) (hc : FuAt w lo' hi' x a r tv f) (hB : hi ≤ w.heap.size) (hB' : hi' ≤ w.heap.size) (hok : sizesOk t.sizes = true) :
    Calls Tryz.prog 51 #[.agg #[sv, cv], .agg #[x, a, r, tv]] w fun e w' => e = .returned (.bool (fuB t.sizes f)) ∧ Below w.heap.size w w' := by
  obtain ⟨g1, g5, hall⟩ := sizesOk_of hok
  obtain ⟨rfl, rfl, hn, hr, ha, ht⟩ := hc
  obtain ⟨A, cap, rfl, _, _, hi1⟩ := hv.1.form
  obtain ⟨B, bap, rfl, _, _, hco⟩ := hv.2.form
  obtain ⟨A1, cap1, rfl, hl1, hm1, ha1⟩ := ha.form
  obtain ⟨A2, cap2, rfl, hl2, hm2, ht1⟩ := ht.form
  have hT : TyAt w lo hi (.slice A t.sizes.length cap) (.slice B t.cos.length bap) t := ⟨hi1, hco⟩
  unfold maxLen at hm1 hm2 hn
  unfold I64 at hr
  have h3 : Below w.heap.size w ((w.alloc (.cells #[.slice A t.sizes.length cap, .slice B t.cos.length bap] 34)).alloc (.cells #[.string f.name, .slice A1 f.args.length cap1, .int .i64 f.res, .slice A2 f.table.length cap2] 74)) := by go_grown
  have hwr := wrapIn ((t.sizes.length : Int) - 1) (by omega) (by omega)
  clear hv ha ht hco
  by_cases c0 : f.name.size = 1
  case neg =>
    have H : Hid (fuB t.sizes f = false) := fuB_no fun h => c0 (by obtain ⟨b, e, _⟩ := h.name; rw [e]; rfl)
    have hd : ((f.name.size : Int) != 1) = true := by simp; omega
    clear c0
    go_enter Tryz.func51, Tryz.ntmps51
    go_wp2
    go_ret
    exact ⟨ret_bool H.out.symm, h3⟩
  obtain ⟨nm, args, res, table⟩ := f
  dsimp only at *
  obtain ⟨b, rfl⟩ := one_byte c0
  have hsz : (⟨#[b]⟩ : ByteArray).size = 1 := rfl
  clear c0 hn
  by_cases c1 : 102 ≤ b.toNat ∧ b.toNat ≤ 107
  case neg =>
    have H : Hid (fuB t.sizes ⟨⟨#[b]⟩, args, res, table⟩ = false) := fuB_no fun h => c1 (nameOk_byte.1 h.name)
    have hA : inB (wrap64 (((⟨#[b]⟩ : ByteArray)[0]'(by show 0 < 1; omega)).toNat : Int)) 102 107 = false := by
      show inB (wrap64 (b.toNat : Int)) 102 107 = false
      have hb := b.toNat_lt
      rw [show wrap64 (b.toNat : Int) = (b.toNat : Int) by unfold wrap64; omega]
      by_cases h : 102 ≤ b.toNat
      · exact inB_high (by omega)
      · exact inB_low (by omega)
    clear c1
    go_enter Tryz.func51, Tryz.ntmps51
    go_wp2_with (go_at_call 35; refine (l1In_any _ _ _ _).mono ?_; rintro e w' ⟨rfl, rfl⟩; rw [hA])
    go_ret
    exact ⟨ret_bool H.out.symm, h3⟩
  have hA : inB (wrap64 (((⟨#[b]⟩ : ByteArray)[0]'(by show 0 < 1; omega)).toNat : Int)) 102 107 = true := by
    show inB (wrap64 (b.toNat : Int)) 102 107 = true
    have hb := b.toNat_lt
    rw [show wrap64 (b.toNat : Int) = (b.toNat : Int) by unfold wrap64; omega]
    exact inB_yes (by omega) (by omega)
  have C1 := Lib.hid c1
  clear c1
  by_cases c2 : args.length ≤ 2
  case neg =>
    have H : Hid (fuB t.sizes ⟨⟨#[b]⟩, args, res, table⟩ = false) := fuB_no fun h => c2 h.few
    have hd : decide ((2 : Int) < (args.length : Int)) = true := by simp; omega
    clear c2
    go_enter Tryz.func51, Tryz.ntmps51
    go_wp2_with (go_at_call 35; refine (l1In_any _ _ _ _).mono ?_; rintro e w' ⟨rfl, rfl⟩; rw [hA])
    go_ret
    exact ⟨ret_bool H.out.symm, h3⟩
  have hd : decide ((2 : Int) < (args.length : Int)) = false := by simp; omega
  have C2 := Lib.hid c2
  clear c2
  by_cases c3 : inB res 0 ((t.sizes.length : Int) - 1) = true
  case neg =>
    have H : Hid (fuB t.sizes ⟨⟨#[b]⟩, args, res, table⟩ = false) := fuB_no fun h => c3 (inB_yes h.res.1 (by have := h.res.2; dsimp only at this; omega))
    have c3f : inB res 0 ((t.sizes.length : Int) - 1) = false := by simpa using c3
    clear c3
    go_enter Tryz.func51, Tryz.ntmps51
    go_wp2_with (go_at_call 35; refine (l1In_any _ _ _ _).mono ?_; rintro e w' ⟨rfl, rfl⟩; first | rw [hA] | rw [c3f])
    go_ret
    exact ⟨ret_bool H.out.symm, h3⟩
  have hres := inB_iff.1 c3
  go_enter Tryz.func51, Tryz.ntmps51
  go_wp2_with (go_at_call 35; refine (l1In_any _ _ _ _).mono ?_; rintro e w' ⟨rfl, rfl⟩; first | rw [hA] | rw [c3])
  obtain ⟨wb, hwb⟩ : ∃ wb, wb = (w.alloc (.cells #[.slice A t.sizes.length cap, .slice B t.cos.length bap] 34)).alloc (.cells #[.string ⟨#[b]⟩, .slice A1 args.length cap1, .int .i64 res, .slice A2 table.length cap2] 74) := ⟨_, rfl⟩
  have hrt : Row wb w.heap.size 34 [.slice A t.sizes.length cap, .slice B t.cos.length bap] := by rw [hwb]; exact (Row.new w _ _).alloc _
  have hrf : Row wb (w.heap.size + 1) 74 [.string ⟨#[b]⟩, .slice A1 args.length cap1, .int .i64 res, .slice A2 table.length cap2] := by
    rw [hwb]
    have h := Row.new (w.alloc (.cells #[.slice A t.sizes.length cap, .slice B t.cos.length bap] 34)) 74 [.string ⟨#[b]⟩, .slice A1 args.length cap1, .int .i64 res, .slice A2 table.length cap2]
    rwa [World.size_alloc] at h
  have hbb : Below w.heap.size w wb := by rw [hwb]; exact h3
  have HT := Lib.hid (hT.below hbb hB)
  have Ha := Lib.hid (ha1.below hbb hB')
  have Ht := Lib.hid (ht1.below hbb hB')
  have Hbb := Lib.hid hbb
  have Hrt := Lib.hid hrt
  have Hrf := Lib.hid hrf
  have q0 := hrt.cell 0
  have q1 := hrt.cell 1
  have p1 := hrf.cell 1
  have p2 := hrf.cell 2
  have p3 := hrf.cell 3
  simp only [List.getElem?_cons_zero, List.getElem?_cons_succ] at q0 q1 p1 p2 p3
  have Hsz := Lib.hid hbb.size
  have hls := hrf.lt
  rw [← hwb]
  clear hi1 ha1 ht1 hT hbb h3 hrt hrf hwb hd hA c3 hall
  go_loop [40] (fun i => ∃ k : Nat, k ≤ args.length ∧ i = .int .i64 k ∧ Hid (∀ j, j < k → ∀ (hj : j < args.length), 0 ≤ args[j] ∧ args[j] < t.sizes.length)) (fun i => args.length - (intOf i).toNat)
  case atStart => exact ⟨0, Nat.zero_le _, rfl, fun j hj => absurd hj (by omega)⟩
  case round =>
    obtain ⟨k, hk, rfl, hok2⟩ := hrel
    by_cases hkl : k < args.length
    · obtain ⟨b3, off3, rfl, _, _, e0, _⟩ := Ha.out.at_ hkl
      by_cases hin : inB args[k] 0 ((t.sizes.length : Int) - 1) = true
      · have hin' := Lib.hid (inB_iff.1 hin)
        go_wp2_with (go_at_call 35; refine (l1In_any _ _ _ _).mono ?_; rintro e w' ⟨rfl, rfl⟩; rw [hin])
        go_round
        case rel =>
          refine ⟨k + 1, by omega, by go_num, fun j hj hjl => ?_⟩
          by_cases ej : j = k
          · subst ej; have := hin'.out; omega
          · exact hok2.out j (by omega) hjl
        case measure => simp [intOf]; omega
      · have hinf : inB args[k] 0 ((t.sizes.length : Int) - 1) = false := by simpa using hin
        have H : Hid (fuB t.sizes ⟨⟨#[b]⟩, args, res, table⟩ = false) := fuB_no fun h => hin (by have := h.args k hkl; dsimp only at this; exact inB_yes this.1 (by omega))
        clear hin
        go_wp2_with (go_at_call 35; refine (l1In_any _ _ _ _).mono ?_; rintro e w' ⟨rfl, rfl⟩; rw [hinf])
        go_ret
        exact ⟨ret_bool H.out.symm, Hbb.out⟩
    · obtain rfl : k = args.length := by omega
      have Hargs : Hid (∀ j, ∀ (hj : j < args.length), 0 ≤ args[j] ∧ args[j] < t.sizes.length) := fun j hj => hok2.out j hj hj
      clear hok2
      go_wp2
      go_loopw [55] (fun i wr => ∃ k : Nat, k ≤ table.length ∧ i = .int .i64 k ∧ Hid (Below wb.heap.size wb wr) ∧ Hid (∀ j, j < k → ∀ (hj : j < table.length), 0 ≤ table[j] ∧ table[j] < t.sizes.getD res.toNat 0)) (fun i _ => table.length - (intOf i).toNat)
      case atStart => exact ⟨0, Nat.zero_le _, rfl, Below.refl _ _, fun j hj => absurd hj (by omega)⟩
      case round =>
        obtain ⟨k, hk, rfl, hbr, hok2⟩ := hrel
        have q0 := (Hrt.out.below hbr.out Hrt.out.lt).cell 0
        have q1 := (Hrt.out.below hbr.out Hrt.out.lt).cell 1
        have p1 := (Hrf.out.below hbr.out Hrf.out.lt).cell 1
        have p2 := (Hrf.out.below hbr.out Hrf.out.lt).cell 2
        have p3 := (Hrf.out.below hbr.out Hrf.out.lt).cell 3
        simp only [List.getElem?_cons_zero, List.getElem?_cons_succ] at q0 q1 p1 p2 p3
        have hsr := hbr.out.size
        have HbW : Hid (Below w.heap.size w wr) := Hbb.out.trans (hbr.out.mono Hsz.out)
        have HTr := Lib.hid (HT.out.below hbr.out (by have := Hsz.out; omega))
        have Har := Lib.hid (Ha.out.below hbr.out (by have := Hsz.out; omega))
        have Htr := Lib.hid (Ht.out.below hbr.out (by have := Hsz.out; omega))
        have hBr : hi ≤ wr.heap.size := by have := Hsz.out; omega
        have hBr' : hi' ≤ wr.heap.size := by have := Hsz.out; omega
        by_cases hkl : k < table.length
        · obtain ⟨b3, off3, rfl, _, _, e0, _⟩ := Htr.out.at_ hkl
          have hev : hasV0 t.sizes res table[k] = true ↔ 0 ≤ table[k] ∧ table[k] < t.sizes.getD res.toNat 0 := by
            unfold hasV0
            rw [ixB_yes hres.1 (by omega), Bool.true_and]
            simp [ixB]
          by_cases hin : hasV0 t.sizes res table[k] = true
          · have hin' := Lib.hid (hev.1 hin)
            clear hev
            go_wp2_with (go_at_call 67; refine (l1Has_any lo hi _ _ t res table[k] _ HTr.out hBr hok).mono ?_; rintro e w' ⟨rfl, hbx⟩; rw [hin])
            go_roundw
            case rel =>
              refine ⟨k + 1, by omega, by go_num, hbr.out.trans (hbx.mono hsr), fun j hj hjl => ?_⟩
              by_cases ej : j = k
              · subst ej; exact hin'.out
              · exact hok2.out j (by omega) hjl
            case measure => simp [intOf]; omega
          · have hinf : hasV0 t.sizes res table[k] = false := by simpa using hin
            have H : Hid (fuB t.sizes ⟨⟨#[b]⟩, args, res, table⟩ = false) := fuB_no fun h => hin (hev.2 (h.table k hkl))
            clear hin hev
            go_wp2_with (go_at_call 67; refine (l1Has_any lo hi _ _ t res table[k] _ HTr.out hBr hok).mono ?_; rintro e w' ⟨rfl, hbx⟩; rw [hinf])
            go_ret
            exact ⟨ret_bool H.out.symm, HbW.out.trans (hbx.mono HbW.out.size)⟩
        · obtain rfl : k = table.length := by omega
          have H : Hid (fuB t.sizes ⟨⟨#[b]⟩, args, res, table⟩ = ((table.length : Int) == cellsI t.sizes args)) := by
            show _ = _
            rw [Bool.eq_iff_iff, fuB_iff, beq_iff_eq]
            exact ⟨fun h => h.len, fun h => ⟨nameOk_byte.2 C1.out, C2.out, Hargs.out, ⟨hres.1, by dsimp only; omega⟩, h, fun j hj => hok2.out j hj hj⟩⟩
          have k0 : ∀ z : InC (Below wr.heap.size wr), z.val.cell? ⟨w.heap.size, 0, none⟩ = some (.slice A t.sizes.length cap) := fun z => (z.inD.cell (p := ⟨w.heap.size, 0, none⟩) (by dsimp only; omega)).trans q0
          have k1 : ∀ z : InC (Below wr.heap.size wr), z.val.cell? ⟨w.heap.size, 1, none⟩ = some (.slice B t.cos.length bap) := fun z => (z.inD.cell (p := ⟨w.heap.size, 1, none⟩) (by dsimp only; omega)).trans q1
          have k2 : ∀ z : InC (Below wr.heap.size wr), z.val.cell? ⟨w.heap.size + 1, 1, none⟩ = some (.slice A1 args.length cap1) := fun z => (z.inD.cell (p := ⟨w.heap.size + 1, 1, none⟩) (by dsimp only; omega)).trans p1
          have k3 : ∀ z : InC (Below wr.heap.size wr), z.val.cell? ⟨w.heap.size + 1, 3, none⟩ = some (.slice A2 table.length cap2) := fun z => (z.inD.cell (p := ⟨w.heap.size + 1, 3, none⟩) (by dsimp only; omega)).trans p3
          have hne : Nonempty (InC (Below wr.heap.size wr)) := ⟨⟨wr, Below.refl _ _⟩⟩
          clear hok2 q0 q1 p1 p2 p3
          go_wp2_with fail
          refine wp_region_class (Below wr.heap.size wr) (by kernel_rfl) (by kernel_rfl) ((Below.refl _ _).drew) ?_
          repeat (go_big_quiet_step ((go_at_call 68; rename_i z; exact (l4Cells_any lo hi lo' hi' _ _ _ t args z.val (HTr.out.below z.inD hBr) (Har.out.below z.inD hBr') (by have := z.inD.size; omega) (by have := z.inD.size; omega) hok Hargs.out C2.out).mono fun e w' ⟨he, hb2⟩ => ⟨he, ⟨_, z.inD.trans (hb2.mono z.inD.size)⟩, rfl⟩)))
          refine wpQuiet_nil ?_
          intro _ hw'
          obtain ⟨⟨wz, hbz⟩, rfl⟩ := hw'
          have Hbz := Lib.hid (HbW.out.trans (hbz.mono HbW.out.size))
          clear hbz
          go_wp2
          go_ret
          exact ⟨ret_bool H.out.symm, Hbz.out⟩
end Go.Proofs.YtbblhjdcpmahkaaGreatDoor

namespace Go.Proofs.YtbblhjdcpmahkaaGreatDoor
open Go.RowKit

theorem same_pre {xs ys : List Int} (hl : xs.length = ys.length) (h : ∀ k, ∀ (h1 : k < xs.length) (h2 : k < ys.length), xs[k] = ys[k]) : xs = ys := List.ext_getElem hl h

set_option maxRecDepth 100000 in
set_option maxHeartbeats 2000000 in
theorem l3Same_any (lo hi lo2 hi2 : Nat) (xv yv : Value) (xs ys : List Int) (w : World) (hx : IntsAt w lo hi xv xs) (hy : IntsAt w lo2 hi2 yv ys) (hB : hi ≤ w.heap.size) (hB2 : hi2 ≤ w.heap.size) :
    Calls Tryz.prog 52 #[xv, yv] w fun e w' => e = .returned (.bool (decide (xs = ys))) ∧ Below w.heap.size w w' := by
  obtain ⟨X, xap, rfl, hlx, hmx, hx1⟩ := hx.form
  obtain ⟨Y, yap, rfl, hly, hmy, hy1⟩ := hy.form
  unfold maxLen at hmx hmy
  have Hx := Lib.hid hx1
  have Hy := Lib.hid hy1
  clear hx hy hx1 hy1
  go_enter Tryz.func52, Tryz.ntmps52
  go_wp2
  · go_loopw [11] (fun i wr => ∃ j : Nat, j ≤ ys.length ∧ i = .int .i64 j ∧ Hid (Below w.heap.size w wr) ∧ Hid (∀ k, ∀ (h1 : k < xs.length) (h2 : k < ys.length), k < j → xs[k] = ys[k])) (fun i _ => ys.length - (intOf i).toNat)
    case atStart => exact ⟨0, Nat.zero_le _, rfl, Below.refl _ _, fun k _ _ h => absurd h (by omega)⟩
    case round =>
      obtain ⟨j, hj, rfl, hb, hpre⟩ := hrel
      by_cases hlt : j < ys.length
      · obtain ⟨b, off, rfl, _, _, c0, _⟩ := (Hx.out.below hb.out hB).at_ (k := j) (by omega)
        obtain ⟨b', off', rfl, _, _, c0', _⟩ := (Hy.out.below hb.out hB2).at_ (k := j) (by omega)
        have hi1 : (j : Int) < (xs.length : Int) := by omega
        have hi2' : (j : Int) < (ys.length : Int) := by omega
        by_cases he : xs[j] = ys[j]
        · have htest : (xs[j] != ys[j]) = false := by simpa using he
          have hpre2 : Hid (∀ k, ∀ (h1 : k < xs.length) (h2 : k < ys.length), k < j + 1 → xs[k] = ys[k]) := fun k h1 h2 h => by
            by_cases e : k = j
            · subst e; exact he
            · exact hpre.out k h1 h2 (by omega)
          clear he
          go_wp2
          go_quiet (fail)
          go_wp2
          go_roundw
          case rel => exact ⟨j + 1, by omega, by go_num, below_drewN hb.out _, hpre2⟩
          case measure => simp [intOf]; omega
        · have htest : (xs[j] != ys[j]) = true := by simpa using he
          have hno : Hid (decide (xs = ys) = false) := by show _ = _; exact decide_eq_false fun e => he (by subst e; rfl)
          clear he
          go_wp2
          go_quiet (fail)
          go_wp2
          go_ret
          exact ⟨ret_bool hno.out.symm, below_drewN hb.out _⟩
      · obtain rfl : j = ys.length := by omega
        go_wp2
        go_ret
        refine ⟨ret_bool ?_, hb.out⟩
        rw [Bool.eq_iff_iff, beq_iff_eq, decide_eq_true_eq]
        constructor
        · intro e
          exact same_pre (by omega) fun k h1 h2 => hpre.out k h1 h2 (by omega)
        · rintro rfl
          rfl
  · go_loopw [11] (fun i wr => ∃ j : Nat, j ≤ xs.length ∧ i = .int .i64 j ∧ Hid (Below w.heap.size w wr) ∧ Hid (∀ k, ∀ (h1 : k < xs.length) (h2 : k < ys.length), k < j → xs[k] = ys[k])) (fun i _ => xs.length - (intOf i).toNat)
    case atStart => exact ⟨0, Nat.zero_le _, rfl, Below.refl _ _, fun k _ _ h => absurd h (by omega)⟩
    case round =>
      obtain ⟨j, hj, rfl, hb, hpre⟩ := hrel
      by_cases hlt : j < xs.length
      · obtain ⟨b, off, rfl, _, _, c0, _⟩ := (Hx.out.below hb.out hB).at_ (k := j) (by omega)
        obtain ⟨b', off', rfl, _, _, c0', _⟩ := (Hy.out.below hb.out hB2).at_ (k := j) (by omega)
        have hi1 : (j : Int) < (xs.length : Int) := by omega
        have hi2' : (j : Int) < (ys.length : Int) := by omega
        by_cases he : xs[j] = ys[j]
        · have htest : (xs[j] != ys[j]) = false := by simpa using he
          have hpre2 : Hid (∀ k, ∀ (h1 : k < xs.length) (h2 : k < ys.length), k < j + 1 → xs[k] = ys[k]) := fun k h1 h2 h => by
            by_cases e : k = j
            · subst e; exact he
            · exact hpre.out k h1 h2 (by omega)
          clear he
          go_wp2
          go_quiet (fail)
          go_wp2
          go_roundw
          case rel => exact ⟨j + 1, by omega, by go_num, below_drewN hb.out _, hpre2⟩
          case measure => simp [intOf]; omega
        · have htest : (xs[j] != ys[j]) = true := by simpa using he
          have hno : Hid (decide (xs = ys) = false) := by show _ = _; exact decide_eq_false fun e => he (by subst e; rfl)
          clear he
          go_wp2
          go_quiet (fail)
          go_wp2
          go_ret
          exact ⟨ret_bool hno.out.symm, below_drewN hb.out _⟩
      · obtain rfl : j = xs.length := by omega
        go_wp2
        go_ret
        refine ⟨ret_bool ?_, hb.out⟩
        rw [Bool.eq_iff_iff, beq_iff_eq, decide_eq_true_eq]
        constructor
        · intro e
          exact same_pre (by omega) fun k h1 h2 => hpre.out k h1 h2 (by omega)
        · rintro rfl
          rfl
end Go.Proofs.YtbblhjdcpmahkaaGreatDoor

namespace Go.Proofs.YtbblhjdcpmahkaaGreatDoor
open Go.RowKit Go.Maps
open Go.ChangeShapes (lits)

theorem bytes_eq {a b : ByteArray} (h : a.toList = b.toList) : a = b := by
  rw [ByteArray.toList_eq, ByteArray.toList_eq] at h
  exact Go.WideShapes.bytes_inj h

/-- What a name reads as where it is a map's key. -/
def kN (s : ByteArray) : Lit := .string s.data.toList
theorem kN_inj {a b : ByteArray} (h : kN a = kN b) : a = b := by
  unfold kN at h
  injection h with h
  have h2 : a.data = b.data := Array.toList_inj.1 h
  cases a; cases b; simp_all
theorem lawStr : Keyed Tryz.prog 9 := string_keyed Tryz.underlying9
theorem kN_key {s : ByteArray} (h : s.size ≤ maxLen) : keyOf Tryz.prog 9 (.string s) = some (kN s) := Go.WideMaps.keyOf_string_mk Tryz.underlying9 h
theorem kN_lit {s : ByteArray} (h : s.size ≤ maxLen) : WideAt.IsKeyLit (kN s) := lawStr.key (kN_key h)

open Classical in
/-- The indices of the first k functions that have a name. -/
noncomputable def idxs (fs : List Fu) (k : Nat) (nm : ByteArray) : List Int := ((List.range k).filter fun i => decide ((fs.getD i default).name = nm)).map fun i : Nat => (i : Int)
theorem idxs_same {fs : List Fu} {k : Nat} {nm : ByteArray} (h : (fs.getD k default).name = nm) : idxs fs (k + 1) nm = idxs fs k nm ++ [(k : Int)] := by
  unfold idxs
  rw [List.range_succ, List.filter_append, List.map_append]
  rw [List.getD_eq_getElem?_getD] at h
  simp [h]
theorem idxs_other {fs : List Fu} {k : Nat} {nm : ByteArray} (h : (fs.getD k default).name ≠ nm) : idxs fs (k + 1) nm = idxs fs k nm := by
  unfold idxs
  rw [List.range_succ, List.filter_append, List.map_append]
  rw [List.getD_eq_getElem?_getD] at h
  simp [h]
theorem idxs_mem {fs : List Fu} {k : Nat} {nm : ByteArray} {z : Int} : z ∈ idxs fs k nm ↔ ∃ i : Nat, i < k ∧ (fs.getD i default).name = nm ∧ z = (i : Int) := by
  unfold idxs
  rw [List.mem_map]
  constructor
  · rintro ⟨i, hi, rfl⟩
    obtain ⟨h1, h2⟩ := List.mem_filter.1 hi
    exact ⟨i, List.mem_range.1 h1, by simpa using h2, rfl⟩
  · rintro ⟨i, h1, h2, rfl⟩
    exact ⟨i, List.mem_filter.2 ⟨List.mem_range.2 h1, by simpa using h2⟩, rfl⟩
theorem idxs_asc (fs : List Fu) (k : Nat) (nm : ByteArray) : (idxs fs k nm).Pairwise (· < ·) := by
  unfold idxs
  rw [List.pairwise_map]
  refine List.Pairwise.imp (fun {a b} h => ?_) (List.Pairwise.filter _ (List.pairwise_lt_range (n := k)))
  show (a : Int) < (b : Int)
  omega
theorem idxs_len (fs : List Fu) (k : Nat) (nm : ByteArray) : (idxs fs k nm).length ≤ k := by
  unfold idxs
  rw [List.length_map]
  exact Nat.le_trans (List.length_filter_le _ _) (by simp)
theorem idxs_zero (fs : List Fu) (nm : ByteArray) : idxs fs 0 nm = [] := by simp [idxs]
theorem getD_of {α : Type} {l : List α} {i : Nat} {d : α} (h : i < l.length) : l.getD i d = l[i] := by rw [List.getD_eq_getElem?_getD, List.getElem?_eq_getElem h]; rfl

/-- D is the map of the first k functions. -/
structure Grp (fs : List Fu) (k : Nat) (D : DataW Unit) : Prop where
  map : IsMap D
  at_ : ∀ nm : ByteArray, nm.size ≤ maxLen → idxs fs k nm ≠ [] → D.atKey (kN nm) .nil = .slice (lits .i64 (idxs fs k nm)) []
  none_ : ∀ nm : ByteArray, nm.size ≤ maxLen → idxs fs k nm = [] → D.atKey (kN nm) .nil = .nil
  has : ∀ nm : ByteArray, nm.size ≤ maxLen → (Maps.has D (kN nm) = true ↔ idxs fs k nm ≠ [])
theorem Grp.start (fs : List Fu) : Grp fs 0 (.map []) := ⟨isMap_empty, fun nm _ h => absurd (idxs_zero fs nm) h, fun _ _ _ => rfl, fun nm _ => ⟨fun h => (by cases h), fun h => absurd (idxs_zero fs nm) h⟩⟩
theorem Grp.step {fs : List Fu} {k : Nat} {D : DataW Unit} {nm : ByteArray} (h : Grp fs k D) (hn : (fs.getD k default).name = nm) (hs : nm.size ≤ maxLen) {w : World} {base : Nat} {e : TypeId} {v : Value} {zs : List Int}
    (ho : w.ownsInts base e .i64 v zs) (hat : D.atKey (kN nm) .nil = rowDatum .i64 v zs) : zs = idxs fs k nm ∧ Grp fs (k + 1) (D.put (kN nm) (.slice (lits .i64 (zs ++ [(k : Int)])) [])) := by
  have hz : zs = idxs fs k nm := by
    rcases ho.datum (H := Unit) with ⟨h1, rfl⟩ | h1
    · rw [h1] at hat
      by_cases e : idxs fs k nm = []
      · exact e.symm
      · rw [h.at_ nm hs e] at hat
        cases hat
    · rw [h1] at hat
      by_cases e : idxs fs k nm = []
      · rw [h.none_ nm hs e] at hat
        cases hat
      · rw [h.at_ nm hs e] at hat
        simp only [DataW.slice.injEq, and_true] at hat
        unfold lits at hat
        exact (List.map_inj_right (fun a b hab => by simpa using hab)).1 hat.symm
  refine ⟨hz, h.map.put _ _, fun m hm hne => ?_, fun m hm hne => ?_, fun m hm => ?_⟩
  · by_cases e : nm = m
    · subst e
      rw [atKey_put_same h.map (kN_lit hs), idxs_same hn, hz]
    · rw [atKey_put_other (fun e2 => e (kN_inj e2).symm)]
      rw [idxs_other (by rw [hn]; exact e)] at hne ⊢
      exact h.at_ m hm hne
  · by_cases e : nm = m
    · subst e
      rw [idxs_same hn] at hne
      simp at hne
    · rw [atKey_put_other (fun e2 => e (kN_inj e2).symm)]
      rw [idxs_other (by rw [hn]; exact e)] at hne
      exact h.none_ m hm hne
  · by_cases e : nm = m
    · subst e
      rw [has_put_same h.map (kN_lit hs), idxs_same hn]
      simp
    · rw [has_put_other (fun e2 => e (kN_inj e2).symm), idxs_other (by rw [hn]; exact e)]
      exact h.has m hm

/-- What the look-up of a name gives. -/
theorem Grp.look {fs : List Fu} {k : Nat} {D : DataW Unit} {nm : ByteArray} (h : Grp fs k D) (hs : nm.size ≤ maxLen) {w : World} {base : Nat} {e : TypeId} {v : Value} {zs : List Int}
    (ho : w.ownsInts base e .i64 v zs) (hat : D.atKey (kN nm) .nil = rowDatum .i64 v zs) : zs = idxs fs k nm := by
  rcases ho.datum (H := Unit) with ⟨h1, rfl⟩ | h1
  · rw [h1] at hat
    by_cases e : idxs fs k nm = []
    · exact e.symm
    · rw [h.at_ nm hs e] at hat
      cases hat
  · rw [h1] at hat
    by_cases e : idxs fs k nm = []
    · rw [h.none_ nm hs e] at hat
      cases hat
    · rw [h.at_ nm hs e] at hat
      simp only [DataW.slice.injEq, and_true] at hat
      unfold lits at hat
      exact (List.map_inj_right (fun a b hab => by simpa using hab)).1 hat.symm

/-- No two of some functions have the same types of arguments. -/
def Parts (fs : List Fu) (l : List Int) : Prop := ∀ a b : Nat, a < l.length → b < a → (fs.getD (l.getD a 0).toNat default).args ≠ (fs.getD (l.getD b 0).toNat default).args
theorem differ_of_parts {fs : List Fu} (h : ∀ nm : ByteArray, idxs fs fs.length nm ≠ [] → Parts fs (idxs fs fs.length nm)) : Differ fs := by
  rintro i k hi hk ⟨h1, h2⟩
  have mi : (i : Int) ∈ idxs fs fs.length (fs.getD i default).name := idxs_mem.2 ⟨i, hi, rfl, rfl⟩
  have mk : (k : Int) ∈ idxs fs fs.length (fs.getD i default).name := idxs_mem.2 ⟨k, by omega, h1.symm, rfl⟩
  obtain ⟨a, ha, ea⟩ := List.getElem_of_mem mi
  obtain ⟨b, hb, eb⟩ := List.getElem_of_mem mk
  have hlt : b < a := by
    rcases Nat.lt_trichotomy a b with h3 | h3 | h3
    · have := List.pairwise_iff_getElem.1 (idxs_asc fs fs.length (fs.getD i default).name) a b ha hb h3
      omega
    · subst h3; rw [ea] at eb; omega
    · exact h3
  refine h _ (fun e => by rw [e] at mi; cases mi) a b ha hlt ?_
  rw [getD_of ha, getD_of hb]
  simp only [ea, eb, Int.toNat_natCast]
  exact h2
theorem not_differ {fs : List Fu} {nm : ByteArray} {a b : Nat} (ha : a < (idxs fs fs.length nm).length) (hb : b < a) (he : (fs.getD ((idxs fs fs.length nm).getD a 0).toNat default).args = (fs.getD ((idxs fs fs.length nm).getD b 0).toNat default).args) : ¬ Differ fs := by
  intro h
  have hb' : b < (idxs fs fs.length nm).length := by omega
  obtain ⟨i, hi, hni, ei⟩ := idxs_mem.1 (List.getElem_mem ha)
  obtain ⟨k, hk, hnk, ek⟩ := idxs_mem.1 (List.getElem_mem hb')
  have hlt := List.pairwise_iff_getElem.1 (idxs_asc fs fs.length nm) b a hb' ha hb
  rw [ei, ek] at hlt
  rw [getD_of ha, getD_of hb'] at he
  simp only [ei, ek, Int.toNat_natCast] at he
  exact h i k hi (by omega) ⟨hni.trans hnk.symm, he⟩
open Classical in
noncomputable def differB (fs : List Fu) : Bool := decide (Differ fs)
theorem differB_iff {fs : List Fu} : differB fs = true ↔ Differ fs := by unfold differB; exact @decide_eq_true_iff _ (Classical.propDecidable _)
theorem differB_yes {fs : List Fu} (h : Differ fs) : differB fs = true := by unfold differB; exact @decide_eq_true _ (Classical.propDecidable _) h
theorem differB_no {fs : List Fu} (h : ¬ Differ fs) : differB fs = false := by unfold differB; exact @decide_eq_false _ (Classical.propDecidable _) h

/-- The look-up in any world that holds the map's block as it stood. -/
theorem groups_look {P : Program} {w : World} {t E k e : TypeId} {q : IntKind} {base b n : Nat} {D : DataW Unit} {key : Value} {kl : Lit} (h : w.ownsGroups P k base e q b n D) (K : Keyed P k) (ht : P.underlying t = some (.map k E)) (hz : ∀ u : World, (zeroValue E).run P u = .ok (.slice none 0 0) u) (hn : n < maxLen) (hkey : keyOf P k key = some kl) :
    ∃ v zs, (∀ u : World, u.heap[b]? = w.heap[b]? → (Instr.lookup t (.map (some b)) key false).run P u = .ok v u) ∧ D.atKey kl .nil = rowDatum q v zs ∧ w.ownsInts base e q v zs ∧ zs.length ≤ n ∧ w.groupBack P t k base e q b n D key kl v := by
  have hOwn := h
  obtain ⟨v, zs, hrun, r⟩ := hOwn.at K ht (hz w) hn hkey
  refine ⟨v, zs, fun u hu => ?_, r⟩
  obtain ⟨es, clock, hb, F, hs, rfl, hbb, hlen, hap⟩ := h
  have hub : u.heap[b]? = some (.map es clock) := hu.trans hb
  rcases K.find w hkey es.toList F.keys with ⟨h1, h2⟩ | ⟨j, e0, h1, h2, h3⟩
  · have e1 : (Instr.lookup t (.map (some b)) key false).run P w = .ok (.slice none 0 0) w := by simp [Instr.lookup, run_underlying ht, MapKept.run_getObj_map hb, K.check w _ hkey, h1, hz, Result.andThen]
    rw [hrun] at e1
    obtain rfl : v = .slice none 0 0 := by simpa using e1
    rcases K.find u hkey es.toList F.keys with ⟨g1, g2⟩ | ⟨j, e0, g1, g2, g3⟩
    · simp [Instr.lookup, run_underlying ht, MapKept.run_getObj_map hub, K.check u _ hkey, g1, hz, Result.andThen]
    · exact absurd g3 (h2 e0 (List.mem_of_getElem? g2))
  · have e1 : (Instr.lookup t (.map (some b)) key false).run P w = .ok e0.val w := by simp [Instr.lookup, run_underlying ht, MapKept.run_getObj_map hb, K.check w _ hkey, h1, Result.andThen]
    rw [hrun] at e1
    obtain rfl : v = e0.val := by simpa using e1
    rcases K.find u hkey es.toList F.keys with ⟨g1, g2⟩ | ⟨j', e0', g1, g2, g3⟩
    · exact absurd h3 (g2 e0 (List.mem_of_getElem? h2))
    · have hpw : es.toList.Pairwise (fun x y => x.key ≠ y.key) := ((MapKept.stamped_iff es clock).1 F.stamped).2.2
      obtain rfl := entry_eq_of_key hpw (List.mem_of_getElem? h2) (List.mem_of_getElem? g2) (h3.trans g3.symm)
      simp [Instr.lookup, run_underlying ht, MapKept.run_getObj_map hub, K.check u _ hkey, g1, Result.andThen]
end Go.Proofs.YtbblhjdcpmahkaaGreatDoor

namespace Go.Proofs.YtbblhjdcpmahkaaGreatDoor
open Go.RowKit

set_option maxRecDepth 100000 in
set_option maxHeartbeats 4000000 in
theorem specSysValid_any (lo hi : Nat) (sv cv fv : Value) (y : Sy) (w : World) (hv : SyAt w lo hi sv cv fv y) (hB : hi ≤ w.heap.size) :
    Calls Tryz.prog 36 #[.agg #[sv, cv, fv]] w fun e w' => e = .returned (.bool (syB y)) ∧ Below w.heap.size w w' := by
  obtain ⟨hty, hfs⟩ := hv
  obtain ⟨A, cap, rfl, hl1, hm1, hi1⟩ := hty.1.form
  obtain ⟨B, bap, rfl, hl2, hm2, hc1⟩ := hty.2.form
  obtain ⟨F, fap, rfl, hl3, hm3, hf1⟩ := hfs.form
  unfold maxLen at hm1 hm2 hm3
  have h3 : Below w.heap.size w (w.alloc (.cells #[.slice A y.ty.sizes.length cap, .slice B y.ty.cos.length bap, .slice F y.fs.length fap] 37)) := by go_grown
  have Hty := Lib.hid (show TyAt w lo hi (.slice A y.ty.sizes.length cap) (.slice B y.ty.cos.length bap) y.ty from ⟨hi1, hc1⟩)
  have Hf1 := Lib.hid hf1
  clear hty hfs hi1 hc1 hf1
  have H1 := Lib.hid (Below.refl (w.heap.size + 1) (w.alloc (.cells #[.slice A y.ty.sizes.length cap, .slice B y.ty.cos.length bap, .slice F y.fs.length fap] 37)))
  go_enter Tryz.func36, Tryz.ntmps36
  go_wp2_with fail
  refine (specValid_any lo hi _ _ y.ty _ (Hty.out.below h3 hB) (by simp; omega)).mono ?_
  rintro e w1 ⟨rfl, hb1⟩
  have H2 := Lib.hid (H1.out.trans (hb1.mono (by simp)))
  obtain ⟨q0, q1, q2, hl, hB1⟩ := box3 H2.out
  have HB1 := Lib.hid hB1
  clear hb1 h3 hB1 H1
  by_cases c1 : tyOk y.ty = true
  case neg =>
    have H : Hid (syB y = false) := syB_no fun h => c1 h.ty
    have c1f : tyOk y.ty = false := by simpa using c1
    rw [c1f]
    clear c1
    go_wp2
    go_ret
    exact ⟨ret_bool H.out.symm, HB1.out⟩
  have hok := Lib.hid (tyOk_sizes c1)
  have C1 := Lib.hid c1
  rw [c1]
  clear c1
  by_cases c2 : y.fs.length ≤ 8
  case neg =>
    have H : Hid (syB y = false) := syB_no fun h => c2 h.few
    have hd : decide ((8 : Int) < (y.fs.length : Int)) = true := by simp; omega
    go_wp2
    go_ret
    exact ⟨ret_bool H.out.symm, HB1.out⟩
  have hd : decide ((8 : Int) < (y.fs.length : Int)) = false := by simp; omega
  have C2 := Lib.hid c2
  go_wp2
  clear hd
  go_loopw [20] (fun i wr => ∃ k : Nat, k ≤ y.fs.length ∧ i = .int .i64 k ∧ Hid (Below (w.heap.size + 1) w1 wr) ∧ Hid (∀ j, j < k → ∀ (hj : j < y.fs.length), FuOk y.ty.sizes y.fs[j]) ∧
    Hid (∀ i j : Nat, i < k → j < i → ¬ ((y.fs.getD i default).name = (y.fs.getD j default).name ∧ (y.fs.getD i default).args = (y.fs.getD j default).args))) (fun i _ => y.fs.length - (intOf i).toNat)
  case atStart => exact ⟨0, Nat.zero_le _, rfl, Below.refl _ _, fun j hj => absurd hj (by omega), fun i j hi => absurd hi (by omega)⟩
  case round =>
    obtain ⟨k, hk, rfl, hbr, hok2, hdf⟩ := hrel
    have hbo : Below w.heap.size w wr := HB1.out.trans (hbr.out.mono (by omega))
    have hcl : ∀ o, wr.cell? ⟨w.heap.size, o, none⟩ = w1.cell? ⟨w.heap.size, o, none⟩ := fun o => hbr.out.cell (p := ⟨w.heap.size, o, none⟩) (by dsimp only; omega)
    have p0 := (hcl 0).trans q0
    have p1 := (hcl 1).trans q1
    have p2 := (hcl 2).trans q2
    have hlr : w.heap.size < wr.heap.size := Nat.lt_of_lt_of_le hl hbr.out.size
    clear hcl
    by_cases hkl : k < y.fs.length
    · obtain ⟨b, off, A1, cap1, A2, cap2, rfl, _, _, d0, d1, d2, d3, _, _, _, _, hfu⟩ := (Hf1.out.below hbo hB).at_ hkl
      have Hfu := Lib.hid hfu
      have HT4 := Lib.hid (Hty.out.below hbo hB)
      have Hbo := Lib.hid hbo
      clear hfu hbo
      by_cases hin : fuB y.ty.sizes y.fs[k] = true
      case neg =>
        have hinf : fuB y.ty.sizes y.fs[k] = false := by simpa using hin
        have H : Hid (syB y = false) := syB_no fun h => hin (fuB_yes (h.each k hkl))
        clear hin
        go_wp2_with fail
        refine (l4Function_any lo hi lo hi _ _ _ _ _ _ y.ty y.fs[k] (wr.alloc (.cells #[.string y.fs[k].name, .slice A1 y.fs[k].args.length cap1, .int .i64 y.fs[k].res, .slice A2 y.fs[k].table.length cap2] 74)) (HT4.out.below ((Below.refl _ _).alloc (Nat.le_refl _) _) (by omega)) (Hfu.out.below ((Below.refl _ _).alloc (Nat.le_refl _) _) (by omega)) (by simp; omega) (by simp; omega) hok.out).mono ?_
        rintro e w' ⟨rfl, hbb⟩
        have Hbb := Lib.hid hbb
        clear hbb
        rw [hinf]
        go_wp2
        go_ret
        exact ⟨ret_bool H.out.symm, (Hbo.out.alloc (by omega) _).trans (Hbb.out.mono (by simp; omega))⟩
      have hin' := Lib.hid (fuB_iff.1 hin)
      go_wp2_with fail
      refine (l4Function_any lo hi lo hi _ _ _ _ _ _ y.ty y.fs[k] (wr.alloc (.cells #[.string y.fs[k].name, .slice A1 y.fs[k].args.length cap1, .int .i64 y.fs[k].res, .slice A2 y.fs[k].table.length cap2] 74)) (HT4.out.below ((Below.refl _ _).alloc (Nat.le_refl _) _) (by omega)) (Hfu.out.below ((Below.refl _ _).alloc (Nat.le_refl _) _) (by omega)) (by simp; omega) (by simp; omega) hok.out).mono ?_
      rintro e w5 ⟨rfl, hb5⟩
      have hsx : (wr.alloc (.cells #[.string y.fs[k].name, .slice A1 y.fs[k].args.length cap1, .int .i64 y.fs[k].res, .slice A2 y.fs[k].table.length cap2] 74)).heap.size = wr.heap.size + 1 := by simp
      have hrk : Row w5 wr.heap.size 74 [.string y.fs[k].name, .slice A1 y.fs[k].args.length cap1, .int .i64 y.fs[k].res, .slice A2 y.fs[k].table.length cap2] := (Row.new wr _ _).below hb5 (by rw [hsx]; omega)
      have hb05 : Below (w.heap.size + 1) w1 w5 := (hbr.out.alloc (by omega) _).trans (hb5.mono (by rw [hsx]; omega))
      have Hrk := Lib.hid hrk
      have Hfu5 : Hid (IntsAt w5 lo hi (.slice A1 y.fs[k].args.length cap1) y.fs[k].args) := (Hfu.out.2.2.2.2.1.below ((Below.refl _ _).alloc (Nat.le_refl _) _) (by omega)).below hb5 (by rw [hsx]; omega)
      have Hb05 := Lib.hid hb05
      have h5s : wr.heap.size < w5.heap.size := hrk.lt
      have r0 := (hb05.cell (p := ⟨w.heap.size, 2, none⟩) (by dsimp only; omega)).trans q2
      have HbrS := Lib.hid hbr.out.size
      rw [hin]
      clear hb5 hrk hb05 hsx hin p0 p1 p2 d0 d1 d2 d3
      go_wp2
      obtain ⟨N, hN⟩ : ∃ N, N = wr.heap.size := ⟨_, rfl⟩
      rw [← hN] at h5s Hrk HbrS hlr ⊢
      clear hN
      go_loopw [35] (fun q wr => ∃ j : Nat, j ≤ k ∧ q = .int .i64 j ∧ Hid (Below w5.heap.size w5 wr) ∧ Hid (∀ i : Nat, i < j → ¬ ((y.fs.getD k default).name = (y.fs.getD i default).name ∧ (y.fs.getD k default).args = (y.fs.getD i default).args))) (fun q _ => k - (intOf q).toNat)
      case atStart => exact ⟨0, Nat.zero_le _, rfl, Below.refl _ _, fun i hi => absurd hi (by omega)⟩
      case round =>
        obtain ⟨j, hj, rfl, hb5, hd5⟩ := hrel
        have Hb0 : Hid (Below w.heap.size w wr) := HB1.out.trans ((Hb05.out.mono (by omega)).trans (hb5.out.mono (by omega)))
        have s0 := (Hrk.out.below hb5.out h5s).cell 0
        have s1 := (Hrk.out.below hb5.out h5s).cell 1
        have hs5 := hb5.out.size
        have hNw : N < wr.heap.size := by omega
        simp only [List.getElem?_cons_zero, List.getElem?_cons_succ] at s0 s1
        by_cases hjk : j < k
        · have hjl : j < y.fs.length := by omega
          obtain ⟨b', off', A3, cap3, A4, cap4, eF, _, _, d0, d1, d2, d3, _, _, _, _, hfj⟩ := (Hf1.out.below Hb0.out hB).at_ hjl
          obtain ⟨rfl, rfl⟩ : b = b' ∧ off = off' := by simpa using eF
          have Hfj := Lib.hid hfj
          have hjkI : (j : Int) < (k : Int) := by omega
          clear hfj eF
          have HgetK : Hid (y.fs.getD k default = y.fs[k]) := getD_of hkl
          have HgetJ : Hid (y.fs.getD j default = y.fs[j]) := getD_of hjl
          by_cases he : y.fs[k].name = y.fs[j].name
          · have hnm : y.fs[k].name.toList = y.fs[j].name.toList := by rw [he]
            have He := Lib.hid he
            clear he
            go_wp2_with fail
            refine (l3Same_any lo hi lo hi _ _ y.fs[k].args y.fs[j].args _ ((Hfu5.out.below hb5.out (by have := Hb05.out.size; omega)).below ((Below.refl _ _).alloc (Nat.le_refl _) _) (by omega)) (Hfj.out.2.2.2.2.1.below ((Below.refl _ _).alloc (Nat.le_refl _) _) (by omega)) (by simp; omega) (by simp; omega)).mono ?_
            rintro e w' ⟨rfl, hbb⟩
            have Hbb := Lib.hid ((hb5.out.alloc hs5 _).trans (hbb.mono (by simp; omega)))
            clear hbb
            by_cases ha : y.fs[k].args = y.fs[j].args
            · have H : Hid (syB y = false) := syB_no fun h => h.differ k j hkl hjk (by rw [HgetK.out, HgetJ.out]; exact ⟨He.out, ha⟩)
              rw [decide_eq_true ha]
              clear ha
              go_wp2
              go_ret
              exact ⟨ret_bool H.out.symm, HB1.out.trans ((Hb05.out.mono (by omega)).trans (Hbb.out.mono (by omega)))⟩
            · have hd6 : Hid (∀ i : Nat, i < j + 1 → ¬ ((y.fs.getD k default).name = (y.fs.getD i default).name ∧ (y.fs.getD k default).args = (y.fs.getD i default).args)) := fun i hi2 => by
                by_cases e : i = j
                · subst e; rw [HgetK.out, HgetJ.out]; exact fun h => ha h.2
                · exact hd5.out i (by omega)
              rw [decide_eq_false ha]
              clear ha
              go_wp2
              go_roundw
              case rel => exact ⟨j + 1, by omega, by go_num, Hbb.out, hd6⟩
              case measure => simp [intOf]; omega
          · have hnm : ¬ y.fs[k].name.toList = y.fs[j].name.toList := fun h => he (bytes_eq h)
            have hd6 : Hid (∀ i : Nat, i < j + 1 → ¬ ((y.fs.getD k default).name = (y.fs.getD i default).name ∧ (y.fs.getD k default).args = (y.fs.getD i default).args)) := fun i hi2 => by
              by_cases e : i = j
              · subst e; rw [HgetK.out, HgetJ.out]; exact fun h => he h.1
              · exact hd5.out i (by omega)
            clear he
            go_wp2
            go_roundw
            case rel => exact ⟨j + 1, by omega, by go_num, hb5.out.alloc hs5 _, hd6⟩
            case measure => simp [intOf]; omega
        · obtain rfl : j = k := by omega
          have hd6 : Hid (∀ i i' : Nat, i < j + 1 → i' < i → ¬ ((y.fs.getD i default).name = (y.fs.getD i' default).name ∧ (y.fs.getD i default).args = (y.fs.getD i' default).args)) := fun i i' h1 h2 => by
            by_cases e : i = j
            · subst e; exact hd5.out i' h2
            · exact hdf.out i i' (by omega) h2
          have hok6 : Hid (∀ i, i < j + 1 → ∀ (hi2 : i < y.fs.length), FuOk y.ty.sizes y.fs[i]) := fun i h1 h2 => by
            by_cases e : i = j
            · subst e; exact hin'.out
            · exact hok2.out i (by omega) h2
          have hb6 : Hid (Below (w.heap.size + 1) w1 wr) := Hb05.out.trans (hb5.out.mono (by have := Hb05.out.size; omega))
          go_wp2
          go_roundw
          case rel => exact ⟨j + 1, by omega, by go_num, hb6.out, hok6, hd6⟩
          case measure => simp [intOf]; omega
    · obtain rfl : k = y.fs.length := by omega
      have H : Hid (syB y = true) := syB_yes ⟨C1.out, C2.out, fun i hi => hok2.out i hi hi, hdf.out⟩
      go_wp2
      go_ret
      exact ⟨ret_bool H.out.symm, hbo⟩
end Go.Proofs.YtbblhjdcpmahkaaGreatDoor

namespace Go.Proofs.YtbblhjdcpmahkaaGreatDoor
open Go.RowKit

section
variable {P : Program} {ops : Array Oper} {Q : Exit → Act → World → Prop}

def openCount : List Bool → Nat
  | [] => 0
  | b :: bs => (if b then 0 else 1) + openCount bs
theorem openCount_set : ∀ (l : List Bool) (i : Nat), l[i]? = some false → openCount (l.set i true) + 1 = openCount l := by
  intro l
  induction l with
  | nil => intro i h; simp at h
  | cons b bs ih =>
    intro i h
    cases i with
    | zero =>
      simp at h
      subst h
      simp [openCount]
      omega
    | succ i =>
      simp at h
      have := ih i h
      simp only [List.set_cons_succ, openCount]
      omega
theorem openCount_zero : ∀ (l : List Bool), openCount l = 0 → ∀ b ∈ l, b = true := by
  intro l
  induction l with
  | nil => intro _ b hb; cases hb
  | cons c cs ih =>
    intro h b hb
    cases c with
    | false => simp [openCount] at h
    | true =>
      simp only [openCount, if_true, Nat.zero_add] at h
      rcases List.mem_cons.1 hb with rfl | hb
      · rfl
      · exact ih h b hb

/-- What may come up: it has not been done, and all that binds it has. -/
theorem ready_of {listed : Array Bool} {i : Nat} (h : i ∈ Region.ready .any ops listed) : i < ops.size ∧ listed.getD i true = false ∧ ∃ o, ops[i]? = some o ∧ ∀ e ∈ o.after, Region.binds .any e = true → listed.getD e.on false = true := by
  unfold Region.ready at h
  rw [List.mem_filter] at h
  obtain ⟨h1, h2⟩ := h
  have h1 := List.mem_range.1 h1
  simp only [Bool.and_eq_true, Bool.not_eq_true'] at h2
  obtain ⟨h2, h3⟩ := h2
  refine ⟨h1, h2, ops[i], Array.getElem?_eq_getElem h1, fun e he hb => ?_⟩
  rw [Array.getElem?_eq_getElem h1] at h3
  simp only [Option.map_some, Option.getD_some] at h3
  rw [Array.all_eq_true'] at h3
  have := h3 e he
  simpa [hb] using this
theorem ready_mk {listed : Array Bool} {i : Nat} (h1 : i < ops.size) (h2 : listed.getD i true = false) (h3 : ∀ e ∈ ops[i].after, Region.binds .any e = true → listed.getD e.on false = true) : i ∈ Region.ready .any ops listed := by
  unfold Region.ready
  rw [List.mem_filter]
  refine ⟨List.mem_range.2 h1, ?_⟩
  simp only [Bool.and_eq_true, Bool.not_eq_true']
  refine ⟨h2, ?_⟩
  rw [Array.getElem?_eq_getElem h1]
  simp only [Option.map_some, Option.getD_some]
  rw [Array.all_eq_true']
  intro e he
  cases hb : Region.binds .any e with
  | false => simp
  | true => simp [h3 e he hb]
theorem all_done {listed : Array Bool} (hs : listed.size = ops.size) (hd : ∀ i, ∀ (h : i < ops.size), ∀ e ∈ ops[i].after, Region.binds .any e = true → e.on < i) (hr : Region.ready .any ops listed = []) : ∀ i, i < ops.size → listed.getD i false = true := by
  intro i
  induction i using Nat.strongRecOn with
  | _ i ih =>
    intro hi
    have hl : i < listed.size := by omega
    by_cases h : listed.getD i true = true
    · simpa [Array.getD, hl] using h
    · have hf : listed.getD i true = false := by simpa using h
      have hm := ready_mk (listed := listed) hi hf fun e he hb => ih e.on (hd i hi e he hb) (by have := hd i hi e he hb; omega)
      rw [hr] at hm
      cases hm

theorem wpAny_inv (Inv : (Nat → Bool) → Act → World → Prop) (hd : ∀ i, ∀ (h : i < ops.size), ∀ e ∈ ops[i].after, Region.binds .any e = true → e.on < i)
    (hstep : ∀ (f : Nat → Bool) a w i o, ops[i]? = some o → f i = false → (∀ e ∈ o.after, Region.binds .any e = true → f e.on = true) → Inv f a w → wpOp P ops Q i (Inv fun k => decide (k = i) || f k) a w)
    (hend : ∀ f a w, (∀ k, k < ops.size → f k = true) → Inv f a w → Q .normal a w) :
    ∀ (fuel : Nat) (listed : Array Bool) (a : Act) (w : World), listed.size = ops.size → openCount listed.toList ≤ fuel → Inv (fun k => listed.getD k false) a w → wpAny P .any ops Q fuel listed a w := by
  intro fuel
  induction fuel with
  | zero =>
    intro listed a w hs hf hI
    have hall := openCount_zero listed.toList (by omega)
    have hr : Region.ready .any ops listed = [] := by
      rw [List.eq_nil_iff_forall_not_mem]
      intro i hi
      obtain ⟨h1, h2, _⟩ := ready_of hi
      have hl : i < listed.size := by omega
      have h3 : listed[i] = false := by simpa [Array.getD, hl] using h2
      have h4 := hall listed[i] (by simp)
      rw [h3] at h4
      cases h4
    exact ⟨hr, hend _ a w (all_done hs hd hr) hI⟩
  | succ fuel ih =>
    intro listed a w hs hf hI
    refine ⟨fun hr => hend _ a w (all_done hs hd hr) hI, fun i hi => ?_⟩
    obtain ⟨h1, h2, o, ho, h3⟩ := ready_of hi
    have hl : i < listed.size := by omega
    have h4 : listed[i] = false := by simpa [Array.getD, hl] using h2
    refine wpOp_mono (fun a' w' hI' => ih (listed.setIfInBounds i true) a' w' (by simpa using hs) ?_ ?_) (hstep _ a w i o ho (by simp [Array.getD, hl, h4]) h3 hI)
    · have := openCount_set listed.toList i (by simp [hl, h4])
      simp only [Array.toList_setIfInBounds]
      omega
    · have e : (fun k => decide (k = i) || listed.getD k false) = fun k => (listed.setIfInBounds i true).getD k false := by
        funext k
        by_cases hk : k = i
        · subst hk
          simp [Array.getD, hl]
        · have hk' : ¬ i = k := fun h => hk h.symm
          by_cases hkl : k < listed.size
          · simp [Array.getD, hk, hk', hkl]
          · simp [Array.getD, hk, hkl]
      rw [← e]
      exact hI'

/-- A region that draws its order, by an invariant over what has been done. -/
theorem wp_region_inv {id : Nat} {a : Act} {w : World} (hm : P.follows .mixedOrders = true) (Inv : (Nat → Bool) → Act → World → Prop) (hd : ∀ i, ∀ (h : i < ops.size), ∀ e ∈ ops[i].after, Region.binds .any e = true → e.on < i)
    (h0 : Inv (fun _ => false) a w.drew)
    (hstep : ∀ (f : Nat → Bool) a w i o, ops[i]? = some o → f i = false → (∀ e ∈ o.after, Region.binds .any e = true → f e.on = true) → Inv f a w → wpOp P ops Q i (Inv fun k => decide (k = i) || f k) a w)
    (hend : ∀ f a w, (∀ k, k < ops.size → f k = true) → Inv f a w → Q .normal a w) : (Code.region id ops true).wp P Q a w := by
  refine wp_region_any hm (wpAny_inv Inv hd hstep hend _ _ a _ (by simp) ?_ ?_)
  · have key : ∀ n, openCount (List.replicate n false) = n := by
      intro n
      induction n with
      | zero => rfl
      | succ n ih => simp only [List.replicate_succ, openCount, ih]; simp; omega
    rw [Array.toList_replicate, key]
    exact Nat.le_refl _
  · have e : (fun k => (Array.replicate ops.size false).getD k false) = fun _ => false := by
      funext k
      by_cases hk : k < ops.size
      · simp [Array.getD, hk]
      · simp [Array.getD, hk]
    rw [e]
    exact h0
/-- The same, where the invariant may name the frame that the region begins with. -/
theorem wp_region_inv_at {id : Nat} {a : Act} {w : World} (hm : P.follows .mixedOrders = true) (Inv : Act → (Nat → Bool) → Act → World → Prop) (hd : ∀ i, ∀ (h : i < ops.size), ∀ e ∈ ops[i].after, Region.binds .any e = true → e.on < i)
    (h0 : Inv a (fun _ => false) a w.drew)
    (hstep : ∀ (f : Nat → Bool) a' w i o, ops[i]? = some o → f i = false → (∀ e ∈ o.after, Region.binds .any e = true → f e.on = true) → Inv a f a' w → wpOp P ops Q i (Inv a fun k => decide (k = i) || f k) a' w)
    (hend : ∀ f a' w, (∀ k, k < ops.size → f k = true) → Inv a f a' w → Q .normal a' w) : (Code.region id ops true).wp P Q a w :=
  wp_region_inv hm (Inv a) hd h0 hstep hend
end
end Go.Proofs.YtbblhjdcpmahkaaGreatDoor

namespace Go.Proofs.YtbblhjdcpmahkaaGreatDoor
open Go.RowKit Go.Maps
open Go.ChangeShapes (lits)

/-- W: the world where the region begins; B: the map's block; p5: the function's box; v, zs: what stands at the name; f: which operations have been done; the letters: what their slots hold. -/
structure IxF (W : World) (B p5 k : Nat) (nm : ByteArray) (v : Value) (zs : List Int) (fin : World → Prop) (f : Nat → Bool) (x14 x15 x16 x17 x18 x19 x20 x21 x22 x23 : Value) (u : World) : Prop where
  c10 : f 10 = true → ∀ j, j < 10 → f j = true
  c9 : f 9 = true → f 6 = true ∧ f 8 = true
  size : W.heap.size ≤ u.heap.size
  pre : f 9 = false → W.grownBy u none
  post : f 9 = true → f 10 = false → W.grownBy u v.ownBlock ∧ u.ownsInts (B + 1) 3 .i64 x23 (zs ++ [(k : Int)]) ∧ (x23.ownBlock = v.ownBlock ∨ ∃ g, x23.ownBlock = some g ∧ W.heap.size ≤ g)
  fin : f 10 = true → fin u
  a0 : f 0 = true → x14 = .map (some B)
  a1 : f 1 = true → x15 = .pointer (some ⟨p5, 0, none⟩)
  a2 : f 2 = true → x16 = .string nm
  a3 : f 3 = true → x17 = .map (some B)
  a4 : f 4 = true → x18 = .pointer (some ⟨p5, 0, none⟩)
  a5 : f 5 = true → x19 = .string nm
  a6 : f 6 = true → x20 = v
  a7 : f 7 = true → x21 = .int .i64 (k : Int)
  a8 : f 8 = true → f 9 = false → ∃ p, W.heap.size ≤ p ∧ x22 = .slice (some ⟨p, 0, none⟩) 1 1 ∧ Row u p 3 [.int .i64 (k : Int)]

section
variable {W u : World} {B p5 k : Nat} {nm : ByteArray} {v : Value} {zs : List Int} {fin : World → Prop} {f : Nat → Bool} {x14 x15 x16 x17 x18 x19 x20 x21 x22 x23 : Value}

/-- Blocks that stood when the region began, other than v's row, stand as they did until the map is written. -/
theorem IxF.block (h : IxF W B p5 k nm v zs fin f x14 x15 x16 x17 x18 x19 x20 x21 x22 x23 u) (h10 : f 10 = false) {j : Nat} (hj : j < W.heap.size) (hv : v.ownBlock ≠ some j) : u.heap[j]? = W.heap[j]? := by
  cases h9 : f 9 with
  | false => exact (h.pre h9).block j hj (by simp)
  | true => exact (h.post h9 h10).1.block j hj (fun e => hv e.symm)
theorem IxF.not10 (h : IxF W B p5 k nm v zs fin f x14 x15 x16 x17 x18 x19 x20 x21 x22 x23 u) {i : Nat} (hi : f i = false) (hlt : i < 11) : f 10 = false := by
  cases h10 : f 10 with
  | false => rfl
  | true =>
    rcases Nat.lt_or_ge i 10 with h1 | h1
    · rw [h.c10 h10 i h1] at hi; cases hi
    · obtain rfl : i = 10 := by omega
      rw [hi] at h10; cases h10

theorem IxF.s0 (h : IxF W B p5 k nm v zs fin f x14 x15 x16 x17 x18 x19 x20 x21 x22 x23 u) (hfi : f 0 = false) : IxF W B p5 k nm v zs fin (fun k => decide (k = 0) || f k) (.map (some B)) x15 x16 x17 x18 x19 x20 x21 x22 x23 u where
  c10 := fun e => absurd (show f 10 = true by simpa using e) (by rw [h.not10 hfi (by omega)]; decide)
  c9 := fun e => by have := h.c9 (by simpa using e); simp [this]
  size := h.size
  pre := fun e => h.pre (by simpa using e)
  post := fun e e2 => h.post (by simpa using e) (by simpa using e2)
  fin := fun e => h.fin (by simpa using e)
  a0 := fun _ => rfl
  a1 := fun e => h.a1 (by simpa using e)
  a2 := fun e => h.a2 (by simpa using e)
  a3 := fun e => h.a3 (by simpa using e)
  a4 := fun e => h.a4 (by simpa using e)
  a5 := fun e => h.a5 (by simpa using e)
  a6 := fun e => h.a6 (by simpa using e)
  a7 := fun e => h.a7 (by simpa using e)
  a8 := fun e e2 => h.a8 (by simpa using e) (by simpa using e2)
theorem IxF.s1 (h : IxF W B p5 k nm v zs fin f x14 x15 x16 x17 x18 x19 x20 x21 x22 x23 u) (hfi : f 1 = false) : IxF W B p5 k nm v zs fin (fun k => decide (k = 1) || f k) x14 (.pointer (some ⟨p5, 0, none⟩)) x16 x17 x18 x19 x20 x21 x22 x23 u where
  c10 := fun e => absurd (show f 10 = true by simpa using e) (by rw [h.not10 hfi (by omega)]; decide)
  c9 := fun e => by have := h.c9 (by simpa using e); simp [this]
  size := h.size
  pre := fun e => h.pre (by simpa using e)
  post := fun e e2 => h.post (by simpa using e) (by simpa using e2)
  fin := fun e => h.fin (by simpa using e)
  a0 := fun e => h.a0 (by simpa using e)
  a1 := fun _ => rfl
  a2 := fun e => h.a2 (by simpa using e)
  a3 := fun e => h.a3 (by simpa using e)
  a4 := fun e => h.a4 (by simpa using e)
  a5 := fun e => h.a5 (by simpa using e)
  a6 := fun e => h.a6 (by simpa using e)
  a7 := fun e => h.a7 (by simpa using e)
  a8 := fun e e2 => h.a8 (by simpa using e) (by simpa using e2)
theorem IxF.s2 (h : IxF W B p5 k nm v zs fin f x14 x15 x16 x17 x18 x19 x20 x21 x22 x23 u) (hfi : f 2 = false) : IxF W B p5 k nm v zs fin (fun k => decide (k = 2) || f k) x14 x15 (.string nm) x17 x18 x19 x20 x21 x22 x23 u where
  c10 := fun e => absurd (show f 10 = true by simpa using e) (by rw [h.not10 hfi (by omega)]; decide)
  c9 := fun e => by have := h.c9 (by simpa using e); simp [this]
  size := h.size
  pre := fun e => h.pre (by simpa using e)
  post := fun e e2 => h.post (by simpa using e) (by simpa using e2)
  fin := fun e => h.fin (by simpa using e)
  a0 := fun e => h.a0 (by simpa using e)
  a1 := fun e => h.a1 (by simpa using e)
  a2 := fun _ => rfl
  a3 := fun e => h.a3 (by simpa using e)
  a4 := fun e => h.a4 (by simpa using e)
  a5 := fun e => h.a5 (by simpa using e)
  a6 := fun e => h.a6 (by simpa using e)
  a7 := fun e => h.a7 (by simpa using e)
  a8 := fun e e2 => h.a8 (by simpa using e) (by simpa using e2)
theorem IxF.s3 (h : IxF W B p5 k nm v zs fin f x14 x15 x16 x17 x18 x19 x20 x21 x22 x23 u) (hfi : f 3 = false) : IxF W B p5 k nm v zs fin (fun k => decide (k = 3) || f k) x14 x15 x16 (.map (some B)) x18 x19 x20 x21 x22 x23 u where
  c10 := fun e => absurd (show f 10 = true by simpa using e) (by rw [h.not10 hfi (by omega)]; decide)
  c9 := fun e => by have := h.c9 (by simpa using e); simp [this]
  size := h.size
  pre := fun e => h.pre (by simpa using e)
  post := fun e e2 => h.post (by simpa using e) (by simpa using e2)
  fin := fun e => h.fin (by simpa using e)
  a0 := fun e => h.a0 (by simpa using e)
  a1 := fun e => h.a1 (by simpa using e)
  a2 := fun e => h.a2 (by simpa using e)
  a3 := fun _ => rfl
  a4 := fun e => h.a4 (by simpa using e)
  a5 := fun e => h.a5 (by simpa using e)
  a6 := fun e => h.a6 (by simpa using e)
  a7 := fun e => h.a7 (by simpa using e)
  a8 := fun e e2 => h.a8 (by simpa using e) (by simpa using e2)
theorem IxF.s4 (h : IxF W B p5 k nm v zs fin f x14 x15 x16 x17 x18 x19 x20 x21 x22 x23 u) (hfi : f 4 = false) : IxF W B p5 k nm v zs fin (fun k => decide (k = 4) || f k) x14 x15 x16 x17 (.pointer (some ⟨p5, 0, none⟩)) x19 x20 x21 x22 x23 u where
  c10 := fun e => absurd (show f 10 = true by simpa using e) (by rw [h.not10 hfi (by omega)]; decide)
  c9 := fun e => by have := h.c9 (by simpa using e); simp [this]
  size := h.size
  pre := fun e => h.pre (by simpa using e)
  post := fun e e2 => h.post (by simpa using e) (by simpa using e2)
  fin := fun e => h.fin (by simpa using e)
  a0 := fun e => h.a0 (by simpa using e)
  a1 := fun e => h.a1 (by simpa using e)
  a2 := fun e => h.a2 (by simpa using e)
  a3 := fun e => h.a3 (by simpa using e)
  a4 := fun _ => rfl
  a5 := fun e => h.a5 (by simpa using e)
  a6 := fun e => h.a6 (by simpa using e)
  a7 := fun e => h.a7 (by simpa using e)
  a8 := fun e e2 => h.a8 (by simpa using e) (by simpa using e2)
theorem IxF.s5 (h : IxF W B p5 k nm v zs fin f x14 x15 x16 x17 x18 x19 x20 x21 x22 x23 u) (hfi : f 5 = false) : IxF W B p5 k nm v zs fin (fun k => decide (k = 5) || f k) x14 x15 x16 x17 x18 (.string nm) x20 x21 x22 x23 u where
  c10 := fun e => absurd (show f 10 = true by simpa using e) (by rw [h.not10 hfi (by omega)]; decide)
  c9 := fun e => by have := h.c9 (by simpa using e); simp [this]
  size := h.size
  pre := fun e => h.pre (by simpa using e)
  post := fun e e2 => h.post (by simpa using e) (by simpa using e2)
  fin := fun e => h.fin (by simpa using e)
  a0 := fun e => h.a0 (by simpa using e)
  a1 := fun e => h.a1 (by simpa using e)
  a2 := fun e => h.a2 (by simpa using e)
  a3 := fun e => h.a3 (by simpa using e)
  a4 := fun e => h.a4 (by simpa using e)
  a5 := fun _ => rfl
  a6 := fun e => h.a6 (by simpa using e)
  a7 := fun e => h.a7 (by simpa using e)
  a8 := fun e e2 => h.a8 (by simpa using e) (by simpa using e2)
theorem IxF.s6 (h : IxF W B p5 k nm v zs fin f x14 x15 x16 x17 x18 x19 x20 x21 x22 x23 u) (hfi : f 6 = false) : IxF W B p5 k nm v zs fin (fun k => decide (k = 6) || f k) x14 x15 x16 x17 x18 x19 v x21 x22 x23 u where
  c10 := fun e => absurd (show f 10 = true by simpa using e) (by rw [h.not10 hfi (by omega)]; decide)
  c9 := fun e => by have := h.c9 (by simpa using e); simp [this]
  size := h.size
  pre := fun e => h.pre (by simpa using e)
  post := fun e e2 => h.post (by simpa using e) (by simpa using e2)
  fin := fun e => h.fin (by simpa using e)
  a0 := fun e => h.a0 (by simpa using e)
  a1 := fun e => h.a1 (by simpa using e)
  a2 := fun e => h.a2 (by simpa using e)
  a3 := fun e => h.a3 (by simpa using e)
  a4 := fun e => h.a4 (by simpa using e)
  a5 := fun e => h.a5 (by simpa using e)
  a6 := fun _ => rfl
  a7 := fun e => h.a7 (by simpa using e)
  a8 := fun e e2 => h.a8 (by simpa using e) (by simpa using e2)
theorem IxF.s7 (h : IxF W B p5 k nm v zs fin f x14 x15 x16 x17 x18 x19 x20 x21 x22 x23 u) (hfi : f 7 = false) : IxF W B p5 k nm v zs fin (fun k => decide (k = 7) || f k) x14 x15 x16 x17 x18 x19 x20 (.int .i64 (k : Int)) x22 x23 u where
  c10 := fun e => absurd (show f 10 = true by simpa using e) (by rw [h.not10 hfi (by omega)]; decide)
  c9 := fun e => by have := h.c9 (by simpa using e); simp [this]
  size := h.size
  pre := fun e => h.pre (by simpa using e)
  post := fun e e2 => h.post (by simpa using e) (by simpa using e2)
  fin := fun e => h.fin (by simpa using e)
  a0 := fun e => h.a0 (by simpa using e)
  a1 := fun e => h.a1 (by simpa using e)
  a2 := fun e => h.a2 (by simpa using e)
  a3 := fun e => h.a3 (by simpa using e)
  a4 := fun e => h.a4 (by simpa using e)
  a5 := fun e => h.a5 (by simpa using e)
  a6 := fun e => h.a6 (by simpa using e)
  a7 := fun _ => rfl
  a8 := fun e e2 => h.a8 (by simpa using e) (by simpa using e2)
theorem IxF.s8 (h : IxF W B p5 k nm v zs fin f x14 x15 x16 x17 x18 x19 x20 x21 x22 x23 u) (hfi : f 8 = false) : IxF W B p5 k nm v zs fin (fun k => decide (k = 8) || f k) x14 x15 x16 x17 x18 x19 x20 x21 (.slice (some ⟨u.heap.size, 0, none⟩) 1 1) x23 (u.alloc (.cells #[.int .i64 (k : Int)] 3)) where
  c10 := fun e => absurd (show f 10 = true by simpa using e) (by rw [h.not10 hfi (by omega)]; decide)
  c9 := fun e => by have := (h.c9 (by simpa using e)).2; rw [hfi] at this; cases this
  size := by have := h.size; simp; omega
  pre := fun e => (h.pre (by simpa using e)).trans (World.grownBy_alloc _ _ _)
  post := fun e _ => by have := (h.c9 (by simpa using e)).2; rw [hfi] at this; cases this
  fin := fun e => absurd (show f 10 = true by simpa using e) (by rw [h.not10 hfi (by omega)]; decide)
  a0 := fun e => h.a0 (by simpa using e)
  a1 := fun e => h.a1 (by simpa using e)
  a2 := fun e => h.a2 (by simpa using e)
  a3 := fun e => h.a3 (by simpa using e)
  a4 := fun e => h.a4 (by simpa using e)
  a5 := fun e => h.a5 (by simpa using e)
  a6 := fun e => h.a6 (by simpa using e)
  a7 := fun e => h.a7 (by simpa using e)
  a8 := fun _ _ => ⟨u.heap.size, h.size, rfl, Row.new u _ _⟩
theorem IxF.s9 (h : IxF W B p5 k nm v zs fin f x14 x15 x16 x17 x18 x19 x20 x21 x22 x23 u) (hfi : f 9 = false) (h6 : f 6 = true) (h8 : f 8 = true) {v' : Value} {u' : World} (hg : u.grownBy u' v.ownBlock) (hown : u'.ownsInts (B + 1) 3 .i64 v' (zs ++ [(k : Int)])) (hloc : v'.ownBlock = v.ownBlock ∨ v'.ownBlock = some u.heap.size) :
    IxF W B p5 k nm v zs fin (fun k => decide (k = 9) || f k) x14 x15 x16 x17 x18 x19 x20 x21 x22 v' u' where
  c10 := fun e => absurd (show f 10 = true by simpa using e) (by rw [h.not10 hfi (by omega)]; decide)
  c9 := fun _ => by simp [h6, h8]
  size := Nat.le_trans h.size hg.size
  pre := fun e => by simp at e
  post := fun _ _ => by
    have hp := h.pre hfi
    refine ⟨⟨hg.os.trans hp.os, hg.tape.trans hp.tape, hg.output.trans hp.output, Nat.le_trans hp.size hg.size, fun i hi hne => (hg.block i (by have := h.size; omega) hne).trans (hp.block i hi (by simp))⟩, hown, hloc.imp id fun e => ⟨_, e, h.size⟩⟩
  fin := fun e => absurd (show f 10 = true by simpa using e) (by rw [h.not10 hfi (by omega)]; decide)
  a0 := fun e => h.a0 (by simpa using e)
  a1 := fun e => h.a1 (by simpa using e)
  a2 := fun e => h.a2 (by simpa using e)
  a3 := fun e => h.a3 (by simpa using e)
  a4 := fun e => h.a4 (by simpa using e)
  a5 := fun e => h.a5 (by simpa using e)
  a6 := fun e => h.a6 (by simpa using e)
  a7 := fun e => h.a7 (by simpa using e)
  a8 := fun _ e => by simp at e
theorem IxF.s10 (h : IxF W B p5 k nm v zs fin f x14 x15 x16 x17 x18 x19 x20 x21 x22 x23 u) (hall : ∀ j, j < 10 → f j = true) {u' : World} (hs : u.heap.size ≤ u'.heap.size) (hfin : fin u') :
    IxF W B p5 k nm v zs fin (fun k => decide (k = 10) || f k) x14 x15 x16 x17 x18 x19 x20 x21 x22 x23 u' where
  c10 := fun _ j hj => by simp [hall j hj]
  c9 := fun _ => by simp [hall 6 (by omega), hall 8 (by omega)]
  size := Nat.le_trans h.size hs
  pre := fun e => by simp [hall 9 (by omega)] at e
  post := fun _ e => by simp at e
  fin := fun _ => hfin
  a0 := fun e => h.a0 (by simpa using e)
  a1 := fun e => h.a1 (by simpa using e)
  a2 := fun e => h.a2 (by simpa using e)
  a3 := fun e => h.a3 (by simpa using e)
  a4 := fun e => h.a4 (by simpa using e)
  a5 := fun e => h.a5 (by simpa using e)
  a6 := fun e => h.a6 (by simpa using e)
  a7 := fun e => h.a7 (by simpa using e)
  a8 := fun _ e => by simp [hall 9 (by omega)] at e
end
end Go.Proofs.YtbblhjdcpmahkaaGreatDoor

namespace Go.Proofs.YtbblhjdcpmahkaaGreatDoor
open Go.RowKit Go.Maps
open Go.ChangeShapes (lits)

theorem if_go {c : Bool} {A B : Prop} (h : c = true) (ha : A) : if c = true then A else B := by rw [if_pos h]; exact ha
theorem zeroInts (u : World) : (zeroValue 22).run Tryz.prog u = .ok (.slice none 0 0) u := by kernel_rfl
theorem groups_of_heap {w w' : World} {k e : TypeId} {base b n : Nat} {D : DataW Unit} (h : w.ownsGroups Tryz.prog k base e .i64 b n D) (hg : w.grownBy w' none) : w'.ownsGroups Tryz.prog k base e .i64 b n D :=
  h.kept hg (by simp) fun es clock _ x _ => by cases x.val.ownBlock <;> simp

set_option maxRecDepth 100000 in
set_option maxHeartbeats 4000000 in
theorem indicesByName_any (lo hi : Nat) (v : Value) (fs : List Fu) (w : World) (hv : FusAt w lo hi v fs) (hB : hi ≤ w.heap.size) (hlen : fs.length ≤ 1048576) :
    Calls Tryz.prog 60 #[v] w fun e w' => ∃ D : DataW Unit, e = .returned (.map (some w.heap.size)) ∧ Below w.heap.size w w' ∧ Grp fs fs.length D ∧ w'.ownsGroups Tryz.prog 9 (w.heap.size + 1) 3 .i64 w.heap.size fs.length D := by
  obtain ⟨F, cap, rfl, hl1, hm1, hv1⟩ := hv.form
  unfold maxLen at hm1
  have hmm := @run_makeMap Tryz.prog
  obtain ⟨i0, hi0, hz0, hz1, hz2⟩ := info_parts Tryz.infoInt
  have Hv := Lib.hid hv1
  clear hv hv1
  go_enter Tryz.func60, Tryz.ntmps60
  go_wp2
  go_loopw [9] (fun i wr => ∃ k : Nat, k ≤ fs.length ∧ i = .int .i64 k ∧ Hid (∃ D : DataW Unit, Grp fs k D ∧ wr.ownsGroups Tryz.prog 9 (w.heap.size + 1) 3 .i64 w.heap.size k D) ∧ Hid (Below w.heap.size w wr) ∧ w.heap.size + 1 ≤ wr.heap.size) (fun i _ => fs.length - (intOf i).toNat)
  case atStart => exact ⟨0, Nat.zero_le _, rfl, ⟨.map [], Grp.start fs, World.ownsGroups_made _ _ _ _ _⟩, (Below.refl _ _).alloc (Nat.le_refl _) _, by simp⟩
  case round =>
    obtain ⟨k, hk, rfl, hD, hb, hws⟩ := hrel
    by_cases hlt : k < fs.length
    · obtain ⟨b, off, A1, cap1, A2, cap2, rfl, hlo, hhi, c0, c1, c2, c3, _, _, _, _, hfu⟩ := (Hv.out.below hb.out hB).at_ hlt
      have hsn : Hid (fs[k].name.size ≤ maxLen) := hfu.2.2.1
      have hnm : Hid ((fs.getD k default).name = fs[k].name) := by show _ = _; rw [List.getD_eq_getElem?_getD, List.getElem?_eq_getElem hlt]; rfl
      clear hfu
      generalize fs[k].name = nm at *
      generalize fs[k].args.length = an at *
      generalize fs[k].table.length = tn at *
      generalize fs[k].res = rn at *
      go_wp2_with fail
      obtain ⟨D, hgrp, hown⟩ := hD.out
      obtain ⟨W, hW⟩ : ∃ W, W = (wr.alloc (.cells #[.string nm, .slice A1 an cap1, .int .i64 rn, .slice A2 tn cap2] 74)) := ⟨_, rfl⟩
      have hbox : Row W wr.heap.size 74 [.string nm, .slice A1 an cap1, .int .i64 rn, .slice A2 tn cap2] := by rw [hW]; exact Row.new wr _ _
      have hWs : wr.heap.size < W.heap.size := hbox.lt
      have hWb : Below w.heap.size w W := by rw [hW]; exact hb.out.alloc (by omega) _
      have hWo : W.drew.ownsGroups Tryz.prog 9 (w.heap.size + 1) 3 .i64 w.heap.size k D := by
        refine groups_of_heap hown ?_
        rw [hW]
        exact ⟨rfl, rfl, rfl, by show wr.heap.size ≤ (wr.alloc _).heap.size; simp, fun j hj _ => Below.heap_alloc wr _ j hj⟩
      rw [← hW]
      clear hW
      obtain ⟨v, zs, hlook, hat, hoi, hzl, hback⟩ := groups_look hWo lawStr Tryz.underlying105 zeroInts (by unfold maxLen; omega) (kN_key hsn.out)
      obtain ⟨hzs, hgrp2⟩ := hgrp.step hnm.out hsn.out hoi hat
      have hvB : v.ownBlock ≠ some w.heap.size := fun e => by have := (hoi.1.lt _ e).1; omega
      have hvP : v.ownBlock ≠ some wr.heap.size := fun e => by
        obtain ⟨_, ⟨rfl, _⟩ | ⟨g', cap', cur, rfl, _, hh, _⟩⟩ := hoi.1
        · simp [Value.ownBlock] at e
        · simp only [Value.ownBlock, Option.some.injEq] at e
          subst e
          have hb2 : W.drew.heap[wr.heap.size]? = _ := hbox
          rw [hb2] at hh
          simp only [Option.some.injEq, Obj.cells.injEq] at hh
          exact absurd hh.2.1 (by decide)
      have hvlt : ∀ g, v.ownBlock = some g → g < W.heap.size := fun g e => (hoi.1.lt g e).2
      have Hlook := Lib.hid hlook
      have Hoi := Lib.hid hoi
      have Hback := Lib.hid hback
      have Hgrp2 := Lib.hid hgrp2
      have Hbox := Lib.hid hbox
      have HWb := Lib.hid hWb
      have HvB := Lib.hid hvB
      have HvP := Lib.hid hvP
      have Hvlt := Lib.hid hvlt
      have HwfK : Hid ((Lit.int .i64 (k : Int)).wf = true) := WalkArith.wf_i64 (by omega)
      have Hi0 := Lib.hid hi0
      have Hz0 := Lib.hid hz0
      have Hz1 := Lib.hid hz1
      have Hz2 := Lib.hid hz2
      clear hlook hoi hback hgrp2 hbox hWb hvB hvP hvlt hWo hgrp hown hat hzs c0 c1 c2 c3 hD hb hi0 hz0 hz1 hz2
      refine wp_region_inv (by kernel_rfl) (fun f x u => ∃ x14 x15 x16 x17 x18 x19 x20 x21 x22 x23, x = ⟨#[.slice (some ⟨b, off, none⟩) fs.length cap, undef, .map none, .map (some w.heap.size), .int .i64 (k : Nat), .pointer (some ⟨wr.heap.size, 0, none⟩), .map (some w.heap.size), .slice (some ⟨b, off, none⟩) fs.length cap, .int .i64 (fs.length : Nat), .int .i64 (k : Nat), .bool true, .int .i64 (k : Nat), .pointer (some ⟨b, off + k * 4, none⟩), .agg #[.string nm, .slice A1 an cap1, .int .i64 rn, .slice A2 tn cap2], x14, x15, x16, x17, x18, x19, x20, x21, x22, x23, u24, undef], []⟩ ∧ IxF W.drew w.heap.size wr.heap.size k nm v zs (fun u => (∃ D : DataW Unit, Grp fs (k + 1) D ∧ u.ownsGroups Tryz.prog 9 (w.heap.size + 1) 3 .i64 w.heap.size (k + 1) D) ∧ Below w.heap.size w u) f x14 x15 x16 x17 x18 x19 x20 x21 x22 x23 u) (of_decide_eq_true (by kernel_rfl)) ⟨_, _, _, _, _, _, _, _, _, _, rfl, ⟨nofun, nofun, Nat.le_refl _, fun _ => ⟨rfl, rfl, rfl, Nat.le_refl _, fun _ _ _ => rfl⟩, nofun, nofun, nofun, nofun, nofun, nofun, nofun, nofun, nofun, nofun, nofun⟩⟩ ?_ ?_
      · rintro f x u q o ho hfi hdep ⟨x14, x15, x16, x17, x18, x19, x20, x21, x22, x23, rfl, hF⟩
        have hil : q < 11 := by have := (Array.getElem?_eq_some_iff.1 ho).1; simpa using this
        have h10 := hF.not10 hfi hil
        have hsz : W.heap.size ≤ u.heap.size := hF.size
        have cP : u.cell? ⟨wr.heap.size, 0, none⟩ = some (.string nm) := by
          have hb2 : u.heap[wr.heap.size]? = W.drew.heap[wr.heap.size]? := hF.block h10 hWs HvP.out
          exact (World.cell?_of_block (w := W.drew) hb2).trans (Hbox.out.cell 0)
        have hB : u.heap[w.heap.size]? = W.drew.heap[w.heap.size]? := hF.block h10 (by show _ < W.heap.size; omega) HvB.out
        have hlk := Hlook.out u hB
        clear hB
        obtain rfl | rfl | rfl | rfl | rfl | rfl | rfl | rfl | rfl | rfl | rfl : q = 0 ∨ q = 1 ∨ q = 2 ∨ q = 3 ∨ q = 4 ∨ q = 5 ∨ q = 6 ∨ q = 7 ∨ q = 8 ∨ q = 9 ∨ q = 10 := by omega
        all_goals
          obtain rfl := Option.some.inj ho
          refine wpOp_step ho fun K hK => ?_
          simp [Region.binds] at hdep
          clear ho
        · refine if_go rfl ?_
          have HF := Lib.hid hF
          clear hF
          unfold Oper.wp
          go_simp
          exact hK _ _ ⟨_, _, _, _, _, _, _, _, _, _, rfl, HF.out.s0 hfi⟩
        · refine if_go rfl ?_
          have HF := Lib.hid hF
          clear hF
          unfold Oper.wp
          go_simp
          exact hK _ _ ⟨_, _, _, _, _, _, _, _, _, _, rfl, HF.out.s1 hfi⟩
        · have d1 : f 1 = true := by simp [hdep]
          obtain rfl := hF.a1 d1
          refine if_go rfl ?_
          have HF := Lib.hid hF
          clear hF
          unfold Oper.wp
          go_simp
          exact hK _ _ ⟨_, _, _, _, _, _, _, _, _, _, rfl, HF.out.s2 hfi⟩
        · refine if_go rfl ?_
          have HF := Lib.hid hF
          clear hF
          unfold Oper.wp
          go_simp
          exact hK _ _ ⟨_, _, _, _, _, _, _, _, _, _, rfl, HF.out.s3 hfi⟩
        · refine if_go rfl ?_
          have HF := Lib.hid hF
          clear hF
          unfold Oper.wp
          go_simp
          exact hK _ _ ⟨_, _, _, _, _, _, _, _, _, _, rfl, HF.out.s4 hfi⟩
        · have d4 : f 4 = true := by simp [hdep]
          obtain rfl := hF.a4 d4
          refine if_go rfl ?_
          have HF := Lib.hid hF
          clear hF
          unfold Oper.wp
          go_simp
          exact hK _ _ ⟨_, _, _, _, _, _, _, _, _, _, rfl, HF.out.s5 hfi⟩
        · have d3 : f 3 = true := by simp [hdep]
          obtain rfl := hF.a3 d3
          have d5 : f 5 = true := by simp [hdep]
          obtain rfl := hF.a5 d5
          refine if_go rfl ?_
          have HF := Lib.hid hF
          clear hF
          unfold Oper.wp
          go_simp
          exact hK _ _ ⟨_, _, _, _, _, _, _, _, _, _, rfl, HF.out.s6 hfi⟩
        · refine if_go rfl ?_
          have HF := Lib.hid hF
          clear hF
          unfold Oper.wp
          go_simp
          exact hK _ _ ⟨_, _, _, _, _, _, _, _, _, _, rfl, HF.out.s7 hfi⟩
        · have d7 : f 7 = true := by simp [hdep]
          obtain rfl := hF.a7 d7
          refine if_go rfl ?_
          have HF := Lib.hid hF
          clear hF
          unfold Oper.wp
          go_simp
          exact hK _ _ ⟨_, _, _, _, _, _, _, _, _, _, rfl, HF.out.s8 hfi⟩
        · have d6 : f 6 = true := by simp [hdep]
          have d8 : f 8 = true := by simp [hdep]
          obtain rfl := hF.a6 d6
          obtain ⟨p, hp, rfl, hrow⟩ := hF.a8 d8 hfi
          have hpre := hF.pre hfi
          have hou : u.ownsInts (w.heap.size + 1) 3 .i64 x20 zs := Hoi.out.kept hpre (by cases x20.ownBlock <;> simp)
          refine step_append_lies u rfl (.tmp 20) (.tmp 22) 22 rfl (w.heap.size + 1) 3 i0 (.int .i64 0) 1 8 Tryz.underlying22 Hi0.out Hz0.out Hz1.out Hz2.out rfl (by decide) x20 zs.length _ rfl hou.1 ⟨p, 0, none⟩ 1 1 [.int .i64 (k : Int)] rfl rfl (World.news_of_block hrow) (by simp [Value.oneCell']) (by omega) (by unfold maxLen; omega) (by omega) (by omega) u.heap.size rfl ?_
          intro g cap' u' ho' hg' hloc' hlt'
          exact hK _ _ ⟨_, _, _, _, _, _, _, _, _, _, rfl, hF.s9 hfi d6 d8 hg' (hou.appended ho' HwfK.out) (hloc'.imp (fun e => e.symm) (fun e => by rw [e]; rfl))⟩
        · have hall : ∀ j, j < 10 → f j = true := fun j hj => by
            obtain rfl | rfl | rfl | rfl | rfl | rfl | rfl | rfl | rfl | rfl : j = 0 ∨ j = 1 ∨ j = 2 ∨ j = 3 ∨ j = 4 ∨ j = 5 ∨ j = 6 ∨ j = 7 ∨ j = 8 ∨ j = 9 := by omega
            all_goals simp [hdep]
          obtain rfl := hF.a0 (hall 0 (by omega))
          obtain rfl := hF.a2 (hall 2 (by omega))
          obtain ⟨hgr, hox, hlc⟩ := hF.post (hall 9 (by omega)) hfi
          obtain ⟨u2, hrun, hown2, hgr2⟩ := Hback.out u x23 (zs ++ [(k : Int)]) hgr hox (by simp; omega) hlc
          have hD2 := hox.datum_pos (H := Unit) (by simp)
          rw [hD2] at hown2
          have hfin : Hid ((∃ D : DataW Unit, Grp fs (k + 1) D ∧ u2.ownsGroups Tryz.prog 9 (w.heap.size + 1) 3 .i64 w.heap.size (k + 1) D) ∧ Below w.heap.size w u2) := by
            refine ⟨⟨_, Hgrp2.out, hown2⟩, ⟨hgr2.os.trans (hgr.os.trans HWb.out.os), hgr2.tape.trans (hgr.tape.trans HWb.out.tape), hgr2.output.trans (hgr.output.trans HWb.out.output), Nat.le_trans HWb.out.size (Nat.le_trans hgr.size hgr2.size), fun j hj => ?_⟩⟩
            have hjW : j < W.heap.size := Nat.lt_of_lt_of_le hj HWb.out.size
            exact (hgr2.block j (by omega) (by simp; omega)).trans ((hgr.block j hjW (fun e => by have := (Hoi.out.1.lt j e.symm).1; omega)).trans (HWb.out.block j hj))
          have hs2 := hgr2.size
          refine if_go rfl ?_
          have HF := Lib.hid hF
          clear hF hown2 hgr2 hgr hox hlc hD2 hlk
          unfold Oper.wp
          go_simp
          exact hK _ _ ⟨_, _, _, _, _, _, _, _, _, _, rfl, HF.out.s10 hall hs2 hfin.out⟩
      · rintro f x u hall ⟨x14, x15, x16, x17, x18, x19, x20, x21, x22, x23, rfl, hF⟩
        have hfin := Lib.hid (hF.fin (hall 10 (by simp)))
        have hus : w.heap.size + 1 ≤ u.heap.size := Nat.le_trans (by show _ ≤ W.heap.size; omega) hF.size
        clear hF hall
        go_wp2
        go_roundw
        case rel => exact ⟨k + 1, by omega, by go_num, hfin.out.1, hfin.out.2, hus⟩
        case measure => simp [intOf]; omega
    · obtain rfl : k = fs.length := by omega
      go_wp2
      go_ret
      obtain ⟨D, h1, h2⟩ := hD.out
      exact ⟨D, rfl, hb.out, h1, h2⟩
end Go.Proofs.YtbblhjdcpmahkaaGreatDoor

namespace Go.Proofs.YtbblhjdcpmahkaaGreatDoor
open Go.RowKit

set_option maxRecDepth 100000 in
set_option maxHeartbeats 2000000 in
theorem slicesEqual_any (lo hi lo2 hi2 : Nat) (xv yv : Value) (xs ys : List Int) (w : World) (hx : IntsAt w lo hi xv xs) (hy : IntsAt w lo2 hi2 yv ys) (_hB : hi ≤ w.heap.size) (_hB2 : hi2 ≤ w.heap.size) :
    Calls Tryz.prog 84 #[xv, yv] w fun e w' => e = .returned (.bool (decide (xs = ys))) ∧ ∃ m, w' = w.drewN m := by
  obtain ⟨X, xap, rfl, hlx, hmx, hx1⟩ := hx.form
  obtain ⟨Y, yap, rfl, hly, hmy, hy1⟩ := hy.form
  unfold maxLen at hmx hmy
  have Hx := Lib.hid hx1
  have Hy := Lib.hid hy1
  clear hx hy hx1 hy1
  by_cases hl : xs.length = ys.length
  · have hd : ((xs.length : Int) != (ys.length : Int)) = false := by simp [hl]
    go_enter Tryz.func84, Tryz.ntmps84
    go_wp2
    clear hd
    have Hl := Lib.hid hl
    clear hl
    go_loopw [13] (fun i wr => ∃ j : Nat, j ≤ ys.length ∧ i = .int .i64 j ∧ Hid (∃ m, wr = w.drewN m) ∧ Hid (∀ k, ∀ (h1 : k < xs.length) (h2 : k < ys.length), k < j → xs[k] = ys[k])) (fun i _ => ys.length - (intOf i).toNat)
    case atStart => exact ⟨0, Nat.zero_le _, rfl, ⟨0, rfl⟩, fun k _ _ h => absurd h (by omega)⟩
    case round =>
      obtain ⟨j, hj, rfl, hb, hpre⟩ := hrel
      by_cases hlt2 : j < ys.length
      · have hlt : j < xs.length := by have := Hl.out; omega
        obtain ⟨b, off, rfl, _, _, c0, _⟩ := (show IntsAt wr lo hi _ xs from by obtain ⟨m, rfl⟩ := hb.out; exact Hx.out).at_ (k := j) hlt
        obtain ⟨b', off', rfl, _, _, c0', _⟩ := (show IntsAt wr lo2 hi2 _ ys from by obtain ⟨m, rfl⟩ := hb.out; exact Hy.out).at_ (k := j) hlt2
        have hi1 : (j : Int) < (xs.length : Int) := by omega
        have hi2' : (j : Int) < (ys.length : Int) := by omega
        by_cases he : xs[j] = ys[j]
        · have htest : (xs[j] != ys[j]) = false := by simpa using he
          have hpre2 : Hid (∀ k, ∀ (h1 : k < xs.length) (h2 : k < ys.length), k < j + 1 → xs[k] = ys[k]) := fun k h1 h2 h => by
            by_cases e : k = j
            · subst e; exact he
            · exact hpre.out k h1 h2 (by omega)
          clear he
          go_wp2
          go_quiet (fail)
          go_wp2
          go_roundw
          case rel => exact ⟨j + 1, by omega, by go_num, (by show ∃ m, _ = _; obtain ⟨m, rfl⟩ := hb.out; exact ⟨_, World.drewN_drewN ..⟩), hpre2⟩
          case measure => simp [intOf]; omega
        · have htest : (xs[j] != ys[j]) = true := by simpa using he
          have hno : Hid (decide (xs = ys) = false) := by show _ = _; exact decide_eq_false fun e => he (by subst e; rfl)
          clear he
          go_wp2
          go_quiet (fail)
          go_wp2
          go_ret
          exact ⟨ret_bool hno.out.symm, by obtain ⟨m, rfl⟩ := hb.out; exact ⟨_, World.drewN_drewN ..⟩⟩
      · obtain rfl : j = ys.length := by omega
        have hyes : Hid (decide (xs = ys) = true) := by show _ = _; exact decide_eq_true (List.ext_getElem Hl.out fun k h1 h2 => hpre.out k h1 h2 h2)
        go_wp2
        go_ret
        exact ⟨ret_bool hyes.out.symm, hb.out⟩
  · have hno : Hid (decide (xs = ys) = false) := by show _ = _; exact decide_eq_false fun e => hl (by rw [e])
    have hd : ((xs.length : Int) != (ys.length : Int)) = true := by simp; omega
    go_enter Tryz.func84, Tryz.ntmps84
    go_wp2
    go_ret
    exact ⟨ret_bool hno.out.symm, ⟨0, rfl⟩⟩
theorem slicesEqual_quiet (lo hi lo2 hi2 : Nat) (xv yv : Value) (xs ys : List Int) (w : World) (n : Nat) (b : Bool) (hb : decide (xs = ys) = b) (hx : IntsAt w lo hi xv xs) (hy : IntsAt w lo2 hi2 yv ys) (hB : hi ≤ w.heap.size) (hB2 : hi2 ≤ w.heap.size) :
    Calls Tryz.prog 84 #[xv, yv] (w.drewN n) fun e w' => e = .returned (.bool b) ∧ ∃ m, w' = w.drewN m :=
  (slicesEqual_any lo hi lo2 hi2 xv yv xs ys (w.drewN n) hx hy hB hB2).mono fun _ _ ⟨h1, m, h2⟩ => ⟨hb ▸ h1, n + m, h2.trans (World.drewN_drewN ..)⟩
end Go.Proofs.YtbblhjdcpmahkaaGreatDoor

namespace Go.Proofs.YtbblhjdcpmahkaaGreatDoor
open Go.RowKit Go.Maps
open Go.ChangeShapes (lits)

theorem ints_of_owns {w : World} {base : Nat} {v : Value} {zs : List Int} (h : w.ownsInts base 3 .i64 v zs) : IntsAt w base w.heap.size v zs := by
  obtain ⟨g, ho, hg⟩ := OwnI.of_owns h.1
  exact ho.ints (fun z hz => by have := h.2 z hz; simpa [Lit.wf, IntKind.min, IntKind.max, IntKind.signed, IntKind.bits, I64] using this) hg

/-- What is left when nothing else than the iterator has turned. -/
theorem ranges_of_heap {w w' : World} {k : TypeId} {R : Value → Option (DataW Unit × List MemPlace)} {b r n cnt : Nat} {D : DataW Unit} {left : Lit → Bool} (h : w.ranges Tryz.prog k R b r n D left cnt) (hh : w'.heap = w.heap) : w'.ranges Tryz.prog k R b r n D left cnt := by
  obtain ⟨es, clock, since, seen, c0, h1, h2, h3, h4, h5, h6⟩ := h
  exact ⟨es, clock, since, seen, c0, by rw [hh]; exact h1, h2, h3, h4, by rw [hh]; exact h5, h6⟩

set_option maxRecDepth 100000 in
set_option maxHeartbeats 4000000 in
theorem callsDiffer_any (lo hi : Nat) (v : Value) (fs : List Fu) (w : World) (hv : FusAt w lo hi v fs) (hB : hi ≤ w.heap.size) (hlen : fs.length ≤ 1048576) :
    Calls Tryz.prog 73 #[v] w fun e w' => e = .returned (.bool (differB fs)) ∧ Below w.heap.size w w' := by
  obtain ⟨F, cap, rfl, hl1, hm1, hv1⟩ := hv.form
  unfold maxLen at hm1
  have Hv := Lib.hid hv1
  clear hv hv1
  go_enter Tryz.func73, Tryz.ntmps73
  go_wp2_with fail
  refine (indicesByName_any lo hi _ fs w Hv.out hB hlen).mono ?_
  rintro e w1 ⟨D, rfl, hb1, hgrp, hown⟩
  have hmap : w1.ownsMap Tryz.prog 9 (rowElem w1 (w.heap.size + 1) 3 .i64) w.heap.size fs.length D := by
    obtain ⟨es, clock, h1, h2, h3, h4, _⟩ := hown
    exact ⟨es, clock, h1, h2, h3, h4⟩
  have Hgrp := Lib.hid hgrp
  have Hb1 := Lib.hid hb1
  clear hgrp hb1 hown
  go_wp2_with (first | (at_range; refine wpList_range_own _ rfl _ 105 rfl 9 22 lawStr Tryz.underlying105 _ w.heap.size fs.length D rfl hmap ?_; intro w2 hrg2 hg2 hs2) | go_in)
  go_frame
  have Hrg2 := Lib.hid hrg2
  have Hg2 := Lib.hid hg2
  clear hrg2 hg2 hs2 hmap
  go_loopw [12] (fun _ wr => ∃ left cnt, Hid (wr.ranges Tryz.prog 9 (rowElem w1 (w.heap.size + 1) 3 .i64) w.heap.size w1.heap.size fs.length D left cnt) ∧ Hid (Below w1.heap.size w1 wr) ∧
    Hid (∀ nm : ByteArray, nm.size ≤ maxLen → left (kN nm) = false → Parts fs (idxs fs fs.length nm))) (fun _ wr => wr.rangeLeft w.heap.size w1.heap.size)
  case atStart =>
    refine ⟨Maps.has D, Maps.size D, Hrg2.out, ⟨Hg2.out.os, Hg2.out.tape, Hg2.out.output, Hg2.out.size, fun k hk => Hg2.out.block k hk (by simp)⟩, fun nm hs hl a b ha _ => ?_⟩
    have hno : ¬ idxs fs fs.length nm ≠ [] := fun h => by rw [(Hgrp.out.has nm hs).2 h] at hl; cases hl
    have hnil : idxs fs fs.length nm = [] := Classical.not_not.1 hno
    rw [hnil] at ha
    cases ha
  case round =>
    obtain ⟨left, cnt, hrg, hb, hparts⟩ := hrel
    go_wp2_with (first | (at_next; refine wpList_next_ranges wr rfl _ rfl 9 lawStr (rowElem w1 (w.heap.size + 1) 3 .i64) encStr (fun v : Value => v) (fun key kl hk => by obtain ⟨x, hx, _⟩ := Maps.keyOf_str Tryz.underlying9 hk; exact ⟨x, hx⟩) (fun v y _ => ⟨v, rfl⟩) w.heap.size w1.heap.size fs.length D left cnt rfl hrg.out ?_ ?_) | go_in)
    · intro hc0 hl0
      have hyes : Hid (differB fs = true) := by
        show _ = _
        refine differB_yes (differ_of_parts fun nm hne => ?_)
        have hs : nm.size ≤ maxLen := by
          rcases hx : idxs fs fs.length nm with _ | ⟨z, r⟩
          · exact absurd hx hne
          · obtain ⟨i, hi, hn, _⟩ := idxs_mem.1 (show z ∈ idxs fs fs.length nm by rw [hx]; simp)
            obtain ⟨_, _, _, _, _, _, _, _, _, _, _, _, _, _, _, _, _, hfu⟩ := Hv.out.at_ hi
            rw [getD_of hi] at hn
            rw [← hn]; exact hfu.2.2.1
        exact hparts.out nm hs (hl0 _)
      have hbw := Lib.hid (Hb1.out.trans (hb.out.mono Hb1.out.size))
      clear hl0 hparts hrg hb
      go_wp2
      go_ret
      exact ⟨ret_bool hyes.out.symm, hbw.out⟩
    · intro x c kl yd yp w3 cnt2 hkey hlk hv hat hrg3 hlt hg3 hs3 hen
      obtain ⟨x', ex, rfl, hxl⟩ := Maps.keyOf_str Tryz.underlying9 hkey
      obtain rfl : x = x' := encStr_inj ex
      clear ex hkey
      have hkn : Lit.string x = kN ⟨x.toArray⟩ := by simp [kN]
      rw [hkn] at hat hlk hrg3
      have hsx : (⟨x.toArray⟩ : ByteArray).size ≤ maxLen := by simpa [ByteArray.size] using hxl
      obtain ⟨zs, ho, hyd⟩ := rowElem_inv hv
      have hyd1 : yd = rowDatum .i64 c zs := congrArg Prod.fst hyd
      have hzs := Hgrp.out.look hsx ho ((hat .nil).trans hyd1)
      have hzi := ints_of_owns ho
      have hb3 : Below w1.heap.size w1 w3 := ⟨hg3.os.trans hb.out.os, hg3.tape.trans hb.out.tape, hg3.output.trans hb.out.output, Nat.le_trans hb.out.size hg3.size, fun k hk => (hg3.block k (Nat.lt_of_lt_of_le hk hb.out.size) (by simp; omega)).trans (hb.out.block k hk)⟩
      obtain ⟨Z, zap, rfl, hlz, hmz, hz1⟩ := hzi.form
      have hz3 := Lib.hid (hz1.below hb3 (Nat.le_refl _))
      have hb03 : Hid (Below w.heap.size w w3) := Hb1.out.trans (hb3.mono Hb1.out.size)
      have hmeas : Hid (w3.rangeLeft w.heap.size w1.heap.size < wr.rangeLeft w.heap.size w1.heap.size) := by show _ < _; rw [hrg3.left_eq, hrg.out.left_eq]; exact hlt
      have Hzs := Lib.hid hzs
      have Hrg3 := Lib.hid hrg3
      have Hb3 := Lib.hid hb3
      have hparts2 : Hid (Parts fs (idxs fs fs.length ⟨x.toArray⟩) → ∀ nm : ByteArray, nm.size ≤ maxLen → (left (kN nm) && !(kN nm).sameKey (kN ⟨x.toArray⟩)) = false → Parts fs (idxs fs fs.length nm)) := by
        intro hP nm hs h
        by_cases e : kN nm = kN ⟨x.toArray⟩
        · rw [kN_inj e]; exact hP
        · rw [sameKey_ne e] at h
          exact hparts.out nm hs (by simpa using h)
      unfold maxLen at hmz
      clear hat hlk hv hyd hyd1 hzi ho hg3 hs3 hb3 hz1 hrg3 hzs hparts hrg hb hkn hsx hxl hlt
      generalize (⟨x.toArray⟩ : ByteArray) = nm at *
      go_wp2
      go_loopw [18] (fun i wm => ∃ n : Nat, n ≤ zs.length ∧ i = .int .i64 n ∧ Hid (∃ m, wm = w3.drewN m) ∧ Hid (∀ a b : Nat, a < n → b < a → (fs.getD (zs.getD a 0).toNat default).args ≠ (fs.getD (zs.getD b 0).toNat default).args)) (fun i _ => zs.length - (intOf i).toNat)
      case atStart => exact ⟨0, Nat.zero_le _, rfl, ⟨0, rfl⟩, fun a b h => absurd h (by omega)⟩
      case round =>
        obtain ⟨n, hn, rfl, hwm, hpre⟩ := hrel
        by_cases hln : n < zs.length
        · obtain ⟨gz, oz, rfl, _, _, cz, _⟩ := (show IntsAt wr _ _ _ zs from by obtain ⟨m, rfl⟩ := hwm.out; exact hz3.out).at_ (k := n) hln
          obtain ⟨i, hi, hni, ei⟩ := idxs_mem.1 (show zs[n] ∈ idxs fs fs.length nm by rw [← Hzs.out]; exact List.getElem_mem hln)
          rw [ei] at cz
          have Hei := Lib.hid ei
          have hlnI : (n : Int) < (zs.length : Int) := by omega
          clear ei
          go_wp2
          go_loopw [27] (fun q wi => ∃ j : Nat, j ≤ n ∧ q = .int .i64 j ∧ Hid (∃ m, wi = w3.drewN m) ∧ Hid (∀ b : Nat, b < j → (fs.getD (zs.getD n 0).toNat default).args ≠ (fs.getD (zs.getD b 0).toNat default).args)) (fun q _ => n - (intOf q).toNat)
          case atStart => exact ⟨0, Nat.zero_le _, rfl, hwm.out, fun b h => absurd h (by omega)⟩
          case round =>
            obtain ⟨j, hj, rfl, hwi, hpre2⟩ := hrel
            by_cases hlj : j < n
            · have hljz : j < zs.length := by omega
              obtain ⟨gz', oz', eZ, _, _, cz2, _⟩ := (show IntsAt wr _ _ _ zs from by obtain ⟨m, rfl⟩ := hwi.out; exact hz3.out).at_ (k := j) hljz
              obtain ⟨rfl, rfl⟩ : gz = gz' ∧ oz = oz' := by simpa using eZ
              obtain ⟨k, hk, hnk, ek⟩ := idxs_mem.1 (show zs[j] ∈ idxs fs fs.length nm by rw [← Hzs.out]; exact List.getElem_mem hljz)
              rw [ek] at cz2
              have Hek := Lib.hid ek
              clear ek eZ
              have hbw : Below w.heap.size w wr := by obtain ⟨m, rfl⟩ := hwi.out; exact below_drewN hb03.out m
              obtain ⟨b, off, A1, cap1, A2, cap2, rfl, _, _, c0, c1, c2, c3, _, _, _, _, hfi⟩ := (Hv.out.below hbw hB).at_ hi
              obtain ⟨b', off', A1', cap1', A2', cap2', eF, _, _, d0, d1, d2, d3, _, _, _, _, hfk⟩ := (Hv.out.below hbw hB).at_ hk
              obtain ⟨rfl, rfl⟩ : b = b' ∧ off = off' := by simpa using eF
              have hai := Lib.hid hfi.2.2.2.2.1
              have hak := Lib.hid hfk.2.2.2.2.1
              have hBw := Lib.hid (Nat.le_trans hB hbw.size)
              have Hgn : Hid ((fs.getD (zs.getD n 0).toNat default).args = fs[i].args) := by show _ = _; rw [getD_of hln, Hei.out, Int.toNat_natCast, getD_of hi]
              have Hgj : Hid ((fs.getD (zs.getD j 0).toNat default).args = fs[k].args) := by show _ = _; rw [getD_of hljz, Hek.out, Int.toNat_natCast, getD_of hk]
              have hljI : (j : Int) < (n : Int) := by omega
              have hiI : (i : Int) < (fs.length : Int) := by omega
              have hkI : (k : Int) < (fs.length : Int) := by omega
              clear hfi hfk eF c0 c2 c3 d0 d2 d3 hni hnk hbw
              by_cases he : fs[i].args = fs[k].args
              · have htest : Hid (decide (fs[i].args = fs[k].args) = true) := decide_eq_true he
                have hno : Hid (differB fs = false) := by
                  show _ = _
                  refine differB_no (not_differ (nm := nm) (a := n) (b := j) (by rw [← Hzs.out]; exact hln) hlj ?_)
                  rw [← Hzs.out, Hgn.out, Hgj.out]; exact he
                clear he
                go_wp2
                go_quiet ((first | (go_at_call 84; exact slicesEqual_quiet _ _ _ _ _ _ fs[i].args fs[k].args _ _ _ htest.out hai.out hak.out hBw.out hBw.out)))
                go_wp2
                go_ret
                exact ⟨ret_bool hno.out.symm, by obtain ⟨m, rfl⟩ := hwi.out; exact below_drewN (below_drewN hb03.out m) _⟩
              · have htest : Hid (decide (fs[i].args = fs[k].args) = false) := decide_eq_false he
                have hpre3 : Hid (∀ b : Nat, b < j + 1 → (fs.getD (zs.getD n 0).toNat default).args ≠ (fs.getD (zs.getD b 0).toNat default).args) := fun b hb => by
                  by_cases e : b = j
                  · subst e; rw [Hgn.out, Hgj.out]; exact he
                  · exact hpre2.out b (by omega)
                clear he
                go_wp2
                go_quiet ((first | (go_at_call 84; exact slicesEqual_quiet _ _ _ _ _ _ fs[i].args fs[k].args _ _ _ htest.out hai.out hak.out hBw.out hBw.out)))
                go_wp2
                go_roundw
                case rel => exact ⟨j + 1, by omega, by go_num, (by show ∃ m, _ = _; obtain ⟨m, rfl⟩ := hwi.out; exact ⟨_, World.drewN_drewN ..⟩), hpre3⟩
                case measure => simp [intOf]; omega
            · obtain rfl : j = n := by omega
              have hpre3 : Hid (∀ a b : Nat, a < j + 1 → b < a → (fs.getD (zs.getD a 0).toNat default).args ≠ (fs.getD (zs.getD b 0).toNat default).args) := fun a b ha hb => by
                by_cases e : a = j
                · subst e; exact hpre2.out b hb
                · exact hpre.out a b (by omega) hb
              go_wp2
              go_roundw
              case rel => exact ⟨j + 1, by omega, by go_num, hwi.out, hpre3⟩
              case measure => simp [intOf]; omega
        · obtain rfl : n = zs.length := by omega
          have hP : Hid (∀ m : ByteArray, m.size ≤ maxLen → (left (kN m) && !(kN m).sameKey (kN nm)) = false → Parts fs (idxs fs fs.length m)) := hparts2.out (by rw [← Hzs.out]; exact fun a b ha hb => hpre.out a b ha hb)
          have hrgw : Hid (wr.ranges Tryz.prog 9 (rowElem w1 (w.heap.size + 1) 3 .i64) w.heap.size w1.heap.size fs.length D (fun z => left z && !z.sameKey (kN nm)) cnt2) := by obtain ⟨m, rfl⟩ := hwm.out; exact ranges_of_heap Hrg3.out rfl
          have hbw : Hid (Below w1.heap.size w1 wr) := by obtain ⟨m, rfl⟩ := hwm.out; exact below_drewN Hb3.out m
          have hme : Hid (wr.rangeLeft w.heap.size w1.heap.size = w3.rangeLeft w.heap.size w1.heap.size) := by obtain ⟨m, rfl⟩ := hwm.out; rfl
          go_wp2
          go_roundw
          case rel => exact ⟨_, _, hrgw, hbw, hP⟩
          case measure => have h1 := hme.out; have h2 := hmeas.out; omega
end Go.Proofs.YtbblhjdcpmahkaaGreatDoor

namespace Go.Proofs.YtbblhjdcpmahkaaGreatDoor
open Go.RowKit

set_option maxRecDepth 100000 in
set_option maxHeartbeats 4000000 in
theorem implSysValid_any (lo hi : Nat) (sv cv fv : Value) (y : Sy) (w : World) (hv : SyAt w lo hi sv cv fv y) (hB : hi ≤ w.heap.size) :
    Calls Tryz.prog 59 #[.agg #[sv, cv, fv]] w fun e w' => e = .returned (.bool (syB y)) ∧ Below w.heap.size w w' := by
  obtain ⟨hty, hfs⟩ := hv
  obtain ⟨A, cap, rfl, hl1, hm1, hi1⟩ := hty.1.form
  obtain ⟨B, bap, rfl, hl2, hm2, hc1⟩ := hty.2.form
  obtain ⟨F, fap, rfl, hl3, hm3, hf1⟩ := hfs.form
  unfold maxLen at hm1 hm2 hm3
  have h3 : Below w.heap.size w (w.alloc (.cells #[.slice A y.ty.sizes.length cap, .slice B y.ty.cos.length bap, .slice F y.fs.length fap] 37)) := by go_grown
  have Hty := Lib.hid (show TyAt w lo hi (.slice A y.ty.sizes.length cap) (.slice B y.ty.cos.length bap) y.ty from ⟨hi1, hc1⟩)
  have Hf1 := Lib.hid hf1
  clear hty hfs hi1 hc1 hf1
  have H1 := Lib.hid (Below.refl (w.heap.size + 1) (w.alloc (.cells #[.slice A y.ty.sizes.length cap, .slice B y.ty.cos.length bap, .slice F y.fs.length fap] 37)))
  go_enter Tryz.func59, Tryz.ntmps59
  go_wp2_with fail
  refine (implValid_any lo hi _ _ y.ty _ (Hty.out.below h3 hB) (by simp; omega)).mono ?_
  rintro e w1 ⟨rfl, hb1⟩
  have H2 := Lib.hid (H1.out.trans (hb1.mono (by simp)))
  obtain ⟨q0, q1, q2, hl, hB1⟩ := box3 H2.out
  have HB1 := Lib.hid hB1
  clear hb1 h3 hB1 H1
  by_cases c1 : tyOk y.ty = true
  case neg =>
    have H : Hid (syB y = false) := syB_no fun h => c1 h.ty
    have c1f : tyOk y.ty = false := by simpa using c1
    rw [c1f]
    clear c1
    go_wp2
    go_ret
    exact ⟨ret_bool H.out.symm, HB1.out⟩
  have hok := Lib.hid (tyOk_sizes c1)
  have C1 := Lib.hid c1
  rw [c1]
  clear c1
  by_cases c2 : y.fs.length ≤ 8
  case neg =>
    have H : Hid (syB y = false) := syB_no fun h => c2 h.few
    have hd : decide ((8 : Int) < (y.fs.length : Int)) = true := by simp; omega
    go_wp2
    go_ret
    exact ⟨ret_bool H.out.symm, HB1.out⟩
  have hd : decide ((8 : Int) < (y.fs.length : Int)) = false := by simp; omega
  have C2 := Lib.hid c2
  go_wp2
  clear hd
  go_loopw [18] (fun i wr => ∃ k : Nat, k ≤ y.fs.length ∧ i = .int .i64 k ∧ Hid (Below (w.heap.size + 1) w1 wr) ∧ Hid (∀ j, j < k → ∀ (hj : j < y.fs.length), FuOk y.ty.sizes y.fs[j])) (fun i _ => y.fs.length - (intOf i).toNat)
  case atStart => exact ⟨0, Nat.zero_le _, rfl, Below.refl _ _, fun j hj => absurd hj (by omega)⟩
  case round =>
    obtain ⟨k, hk, rfl, hbr, hok2⟩ := hrel
    have hbo : Below w.heap.size w wr := HB1.out.trans (hbr.out.mono (by omega))
    have hcl : ∀ o, wr.cell? ⟨w.heap.size, o, none⟩ = w1.cell? ⟨w.heap.size, o, none⟩ := fun o => hbr.out.cell (p := ⟨w.heap.size, o, none⟩) (by dsimp only; omega)
    have p0 := (hcl 0).trans q0
    have p1 := (hcl 1).trans q1
    have p2 := (hcl 2).trans q2
    have hlr : w.heap.size < wr.heap.size := Nat.lt_of_lt_of_le hl hbr.out.size
    clear hcl
    by_cases hkl : k < y.fs.length
    · obtain ⟨b, off, A1, cap1, A2, cap2, rfl, _, _, d0, d1, d2, d3, _, _, _, _, hfu⟩ := (Hf1.out.below hbo hB).at_ hkl
      have Hfu := Lib.hid hfu
      have Hi4 := Lib.hid (Hty.out.1.below hbo hB)
      have Hbo := Lib.hid hbo
      clear hfu hbo
      by_cases hin : fuB y.ty.sizes y.fs[k] = true
      · have hin' := Lib.hid (fuB_iff.1 hin)
        go_wp2_with fail
        refine (fitsFu_any lo hi lo hi _ _ _ _ _ y.ty.sizes y.fs[k] (wr.alloc (.cells #[.string y.fs[k].name, .slice A1 y.fs[k].args.length cap1, .int .i64 y.fs[k].res, .slice A2 y.fs[k].table.length cap2] 74)) (Hi4.out.below ((Below.refl _ _).alloc (Nat.le_refl _) _) (by omega)) (Hfu.out.below ((Below.refl _ _).alloc (Nat.le_refl _) _) (by omega)) (by simp; omega) (by simp; omega) hok.out).mono ?_
        rintro e w' ⟨rfl, hbb⟩
        have Hbb := Lib.hid hbb
        clear hbb
        rw [hin]
        go_wp2
        go_roundw
        case rel =>
          refine ⟨k + 1, by omega, by go_num, (hbr.out.alloc (by omega) _).trans (Hbb.out.mono (by simp; omega)), fun j hj hjl => ?_⟩
          by_cases ej : j = k
          · subst ej; exact hin'.out
          · exact hok2.out j (by omega) hjl
        case measure => simp [intOf]; omega
      · have hinf : fuB y.ty.sizes y.fs[k] = false := by simpa using hin
        have H : Hid (syB y = false) := syB_no fun h => hin (fuB_yes (h.each k hkl))
        clear hin
        go_wp2_with fail
        refine (fitsFu_any lo hi lo hi _ _ _ _ _ y.ty.sizes y.fs[k] (wr.alloc (.cells #[.string y.fs[k].name, .slice A1 y.fs[k].args.length cap1, .int .i64 y.fs[k].res, .slice A2 y.fs[k].table.length cap2] 74)) (Hi4.out.below ((Below.refl _ _).alloc (Nat.le_refl _) _) (by omega)) (Hfu.out.below ((Below.refl _ _).alloc (Nat.le_refl _) _) (by omega)) (by simp; omega) (by simp; omega) hok.out).mono ?_
        rintro e w' ⟨rfl, hbb⟩
        have Hbb := Lib.hid hbb
        clear hbb
        rw [hinf]
        go_wp2
        go_ret
        exact ⟨ret_bool H.out.symm, (Hbo.out.alloc (by omega) _).trans (Hbb.out.mono (by simp; omega))⟩
    · obtain rfl : k = y.fs.length := by omega
      have H : Hid (differB y.fs = syB y) := by
        show _ = _
        rw [Bool.eq_iff_iff, differB_iff, syB_iff]
        exact ⟨fun h => ⟨C1.out, C2.out, fun i hi => hok2.out i hi hi, h⟩, fun h => h.differ⟩
      have Hbo := Lib.hid hbo
      clear hbo
      go_wp2_with fail
      refine (callsDiffer_any lo hi _ y.fs _ (Hf1.out.below Hbo.out hB) (by omega) (by omega)).mono ?_
      rintro e w' ⟨rfl, hbb⟩
      have Hbb := Lib.hid hbb
      clear hbb
      go_wp2
      go_ret
      exact ⟨ret_bool H.out, Hbo.out.trans (Hbb.out.mono (by omega))⟩
end Go.Proofs.YtbblhjdcpmahkaaGreatDoor

