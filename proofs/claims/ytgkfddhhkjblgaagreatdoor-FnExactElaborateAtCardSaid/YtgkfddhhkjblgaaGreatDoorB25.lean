/-
  The contracts of the program's write and madeText at any explicit term.
  The contracts of the program's coercedBy and withinLimit.
  The two errors of the choice in memory; the contracts of errors.Is for them.
  What holds in a region that lays two functions of a list into boxes of their own: by what has been done.
-/
import Derived.Test.YtgkfddhhkjblgaaGreatDoorB24
import Derived.Test.YtgkfddhhkjblgaaGreatDoorB13
import Derived.BigQuiet
import Derived.Test.YtgkfddhhkjblgaaGreatDoorB1
import Derived.Test.YtgkfddhhkjblgaaGreatDoorRows
import Derived.WalkKit
import Derived.LaidEql
import Derived.Stop.Asserts
import Derived.RowKitTokens
import Derived.Test.YtgkfddhhkjblgaaGreatDoorB6
namespace Go.Proofs.YtgkfddhhkjblgaaGreatDoor
open Go.RowKit

/-- What writing an explicit term does, by the method that its type has. -/
def WrOk (u : World) (m : Mk) (o : Value) : Prop := ∃ T x f, o = .iface T x ∧ (∀ u : World, (Go.method 436 T x "loop.example/overloads/impl.write").run Tryz.prog u = .ok (f, x) u) ∧ (∀ u : World, (Go.nilAhead 436 T x "loop.example/overloads/impl.write").run Tryz.prog u = .ok (some false) u) ∧ (∀ (args : Array Value) (u : World), (callFunc f args).run Tryz.prog u = .ok (.enter f args) u) ∧
  ∀ (b : Nat) (l : List UInt8) (w : World), Bld b l w → Below u.heap.size u w → u.heap.size ≤ b → l.length + (mkT m).length ≤ 80000 → Calls Tryz.prog f #[x, .pointer (some ⟨b, 0, none⟩)] w fun e w' => e = .returned (.tuple #[]) ∧ Bk b (l ++ mkT m) w w'
theorem parT_le {ts : List Mk} {k n : Nat} (h : k ≤ n) : (parT ts k).length ≤ (parT ts n).length := by
  obtain ⟨d, rfl⟩ : ∃ d, n = k + d := ⟨n - k, by omega⟩
  clear h
  induction d with
  | zero => exact Nat.le_refl _
  | succ d ih =>
    refine Nat.le_trans ih ?_
    rw [← Nat.add_assoc, parT]
    simp only [List.length_append]
    omega
theorem ap_ok {y : Sy} {m : Mk} (ha : isApM m = true) (hok : MkOk y m) : (∀ p ∈ partsM m, MkOk y p) ∧ ixM m ≤ 9 := by
  cases m with
  | lit k v => cases ha
  | co i m => cases ha
  | a0 i => exact ⟨fun p hp => by simp [partsM] at hp, hok.2.1⟩
  | a1 i m => exact ⟨fun p hp => by simp [partsM] at hp; subst hp; exact hok.2.2.2.1, hok.2.1⟩
  | a2 i m q =>
    refine ⟨fun p hp => ?_, hok.2.1⟩
    simp [partsM] at hp
    rcases hp with hp | hp
    · subst hp; exact hok.2.2.2.1
    · subst hp; exact hok.2.2.2.2.1

set_option maxRecDepth 100000 in
set_option maxHeartbeats 4000000 in
theorem wr_all {y : Sy} {u : World} {B : Nat} : ∀ (q : Nat) (m : Mk) (o : Value), (mkT m).length ≤ q → MNodeAt u B m o → MkOk y m → WrOk u m o := by
  intro q
  induction q with
  | zero =>
    intro m o hq
    exact absurd hq (by cases m <;> simp [mkT, dg])
  | succ q ih =>
    intro m o hq hm hok
    have IH := Lib.hid ih
    clear ih
    cases ha : isApM m with
    | false =>
      cases m with
      | a0 i => cases ha
      | a1 i m => cases ha
      | a2 i m p => cases ha
      | lit k v => exact ⟨_, _, 243, hm, fun u => by kernel_rfl, fun u => by kernel_rfl, enters_of Tryz.func243 (by kernel_rfl) rfl, fun b l w h _ _ hl => litK b l k v hok.1 hok.2.1 w w (Bk.refl h) (by omega)⟩
      | co i m =>
        obtain ⟨v, rfl, hv⟩ := hm
        refine ⟨_, _, 249, rfl, fun u => by kernel_rfl, fun u => by kernel_rfl, enters_of Tryz.func249 (by kernel_rfl) rfl, fun b l w h hu hub hl => ?_⟩
        have hlen : (mkT (.co i m)).length = (mkT m).length + 4 := by simp [mkT, dg]
        obtain ⟨T, x, f, rfl, hmeth, hnil, hent, hw⟩ := IH.out m v (by omega) hv hok.2.2.1
        have hd : Dig (i : Int) := by have := hok.2.1; unfold Dig; omega
        have Hd := Lib.hid hd
        have HW := Lib.hid (hw b (l ++ ([35] ++ dg i ++ [40])))
        have HU := Lib.hid hu
        have HB := Lib.hid ((Bk.refl h).alloc (.cells #[.int .i64 i, .iface T x] 160))
        have hus := hu.size
        have r2 := Row.new w 160 [.int .i64 i, .iface T x]
        have m0 := r2.cell 0
        have hbw := h.lt
        simp only [List.getElem?_cons_zero] at m0
        have HR := Lib.hid r2
        clear h hd r2 hok hw hv hu IH
        go_enter Tryz.func249, Tryz.ntmps249
        go_wp2_with fail
        refine (openK b l 35 35 rfl (i : Int) Hd.out _ _ (Bk.refl HB.out.bld) (by omega)).mono ?_
        rintro e w1 ⟨rfl, hB1⟩
        have HB1 := Lib.hid (HB.out.go hB1)
        have HU1 : Hid (Below u.heap.size u w1) := HU.out.trans (HB1.out.bel.mono hub)
        have r3 := hB1.row _ _ _ (by omega) (by decide) HR.out
        have m1 := r3.cell 1
        simp only [List.getElem?_cons_zero, List.getElem?_cons_succ] at m1
        clear hB1 HB m0 HR r3
        go_wp2_with fail
        refine (HW.out w1 HB1.out.bld HU1.out hub (by simp [dg]; omega)).mono ?_
        rintro e w2 ⟨rfl, hB2⟩
        have HB2 := Lib.hid (HB1.out.go hB2)
        clear hB2 HB1 HU1
        go_wp2_with fail
        refine (wbK b (l ++ ([35] ++ dg i ++ [40]) ++ mkT m) 41 41 rfl w w2 HB2.out (by simp [dg]; omega)).mono ?_
        rintro e w3 ⟨⟨v3, rfl⟩, hB3⟩
        have HB3 : Hid (Bk b (l ++ mkT (.co i m)) w w3) := by
          show Bk _ _ _ _
          have e : l ++ ([35] ++ dg i ++ [40]) ++ mkT m ++ [41] = l ++ mkT (.co i m) := by simp [mkT]
          rw [← e]
          exact hB3
        clear hB3 HB2
        go_wp2
        go_end0
        exact ⟨rfl, HB3.out⟩
    | true =>
      obtain ⟨hpl, hi9⟩ := ap_ok ha hok
      have hall := parT_all ha
      have hsub : ∀ p ∈ partsM m, (mkT p).length + 3 ≤ (mkT m).length := fun p hp => partsM_len hp
      obtain ⟨ps, vs, rfl, hown, hnods⟩ := hm.open ha
      obtain ⟨PA, PC, rfl⟩ := own_lt0 hown
      refine ⟨_, _, 254, rfl, fun u => by kernel_rfl, fun u => by kernel_rfl, enters_of Tryz.func254 (by kernel_rfl) rfl, fun b l w h hu hub hl => ?_⟩
      have hlen2 := partsM_two m
      generalize partsM m = ts at hown hnods hpl hall hlen2 hsub ⊢
      generalize ixM m = i at hi9 hall ⊢
      generalize mkT m = X at hall hq hl hsub ⊢
      have hd : Dig (i : Int) := by unfold Dig; omega
      have Hd := Lib.hid hd
      have Hall := Lib.hid hall
      have Hown := Lib.hid hown
      have Hnods := Lib.hid hnods
      have Hpl := Lib.hid hpl
      have Hsub := Lib.hid hsub
      have HU := Lib.hid hu
      have hXl : X.length = (parT ts ts.length).length + 4 := by rw [hall]; simp [dg]
      have HB := Lib.hid ((Bk.refl h).alloc (.cells #[.int .i64 i, .slice PA ts.length PC] 162))
      have hus := hu.size
      have r2 := Row.new w 162 [.int .i64 i, .slice PA ts.length PC]
      have m0 := r2.cell 0
      have hbw := h.lt
      simp only [List.getElem?_cons_zero] at m0
      have HR := Lib.hid r2
      clear h hd r2 hm hok hown hnods hpl hall hu ha hi9 hsub
      go_enter Tryz.func254, Tryz.ntmps254
      go_wp2_with fail
      refine (openK b l 64 64 rfl (i : Int) Hd.out _ _ (Bk.refl HB.out.bld) (by omega)).mono ?_
      rintro e w1 ⟨rfl, hB1⟩
      have HB1 := Lib.hid (HB.out.go hB1)
      have r3 := hB1.row _ _ _ (by omega) (by decide) HR.out
      have m1 := r3.cell 1
      simp only [List.getElem?_cons_zero, List.getElem?_cons_succ] at m1
      clear hB1 HB m0 HR r3
      obtain ⟨P, hP⟩ : ∃ P, P = l ++ ([64] ++ dg (i : Int) ++ [40]) := ⟨_, rfl⟩
      have hPl : P.length = l.length + 3 := by rw [hP]; simp [dg]
      rw [← hP] at HB1
      have HX : Hid (P ++ parT ts ts.length ++ [41] = l ++ X) := by show _ = _; rw [Hall.out, hP]; simp
      clear hP Hd Hall
      go_wp2_with fail
      go_loopw [13] (fun i wr => ∃ k : Nat, k ≤ ts.length ∧ i = .int .i64 k ∧ Hid (Bk b (P ++ parT ts k) w wr)) (fun i _ => ts.length - (intOf i).toNat)
      case atStart =>
        refine ⟨0, Nat.zero_le _, rfl, ?_⟩
        show Bk _ _ _ _
        simpa [parT] using HB1.out
      case round =>
        obtain ⟨k, hk, rfl, hbk⟩ := hrel
        have hkl4 := parT_le (ts := ts) hk
        have HUr : Hid (Below u.heap.size u wr) := HU.out.trans (hbk.out.bel.mono hub)
        clear HB1 m1
        by_cases hkl : k < ts.length
        · obtain ⟨g, hPA, hcell⟩ := own_at7 Hown.out k hkl
          obtain ⟨v, hv, hnv⟩ := Hnods.out.at k hkl
          rw [hv] at hcell
          subst hPA
          have hgl2 := World.block_lt_of_cell? _ _ hcell
          have hcell2 := (HUr.out.cell (p := ⟨g, k, none⟩) hgl2).trans hcell
          have hokk := Hpl.out ts[k] (List.getElem_mem hkl)
          have hpk := Hsub.out ts[k] (List.getElem_mem hkl)
          have hk1l := parT_le (ts := ts) (k := k + 1) (n := ts.length) (by omega)
          have e1 : Hid (parT ts (k + 1) = parT ts k ++ (if k = 0 then [] else [44]) ++ mkT ts[k]) := by
            show _ = _
            rw [parT, List.getElem?_eq_getElem hkl]
            rfl
          have hk2 : (parT ts (k + 1)).length = (parT ts k).length + (if k = 0 then 0 else 1) + (mkT ts[k]).length := by
            rw [e1.out]
            simp only [List.length_append]
            split <;> rfl
          obtain ⟨T, x, f, rfl, hmeth, hnil, hent, hw⟩ := IH.out ts[k] v (by omega) hnv hokk
          clear hcell hv hnv hokk
          by_cases hk0 : k = 0
          · rw [if_pos hk0] at hk2
            subst hk0
            have HW := Lib.hid (hw b (P ++ parT ts 0))
            clear hw
            go_wp2_with fail
            refine (HW.out wr hbk.out.bld HUr.out hub (by rw [List.length_append]; omega)).mono ?_
            rintro e w2 ⟨rfl, hB2⟩
            have HB2 : Hid (Bk b (P ++ parT ts (0 + 1)) w w2) := by
              show Bk _ _ _ _
              rw [e1.out]
              have h := hbk.out.go hB2
              simpa using h
            clear hB2 hbk e1 HUr
            go_wp2
            go_roundw
            case rel => exact ⟨0 + 1, by omega, by go_num, HB2.out⟩
            case measure => simp [intOf]; omega
          · rw [if_neg hk0] at hk2
            have HW := Lib.hid (hw b (P ++ parT ts k ++ [44]))
            have hk1 : (0 : Int) < (k : Int) := by omega
            clear hw
            go_wp2_with fail
            refine (wbK b (P ++ parT ts k) 44 44 rfl w wr hbk.out (by rw [List.length_append]; omega)).mono ?_
            rintro e w2 ⟨⟨v2, rfl⟩, hB2⟩
            have HB2 := Lib.hid hB2
            have HU2 : Hid (Below u.heap.size u w2) := HU.out.trans (hB2.bel.mono hub)
            clear hB2 hbk HUr
            go_wp2_with fail
            refine (HW.out w2 HB2.out.bld HU2.out hub (by rw [List.length_append, List.length_append]; simp only [List.length_cons, List.length_nil]; omega)).mono ?_
            rintro e w3 ⟨rfl, hB3⟩
            have HB3 : Hid (Bk b (P ++ parT ts (k + 1)) w w3) := by
              show Bk _ _ _ _
              rw [e1.out, if_neg hk0]
              have h := HB2.out.go hB3
              simpa using h
            clear hB3 HB2 e1 HU2
            go_wp2
            go_roundw
            case rel => exact ⟨k + 1, by omega, by go_num, HB3.out⟩
            case measure => simp [intOf]; omega
        · obtain rfl : k = ts.length := by omega
          go_wp2_with fail
          refine (wbK b (P ++ parT ts ts.length) 41 41 rfl w wr hbk.out (by rw [List.length_append]; omega)).mono ?_
          rintro e w2 ⟨⟨v2, rfl⟩, hB2⟩
          rw [HX.out] at hB2
          have HB2 := Lib.hid hB2
          clear hB2 hbk
          go_wp2
          go_end0
          exact ⟨rfl, HB2.out⟩

set_option maxRecDepth 100000 in
set_option maxHeartbeats 1000000 in
theorem madeText_all {y : Sy} {m : Mk} {o : Value} {u : World} {B : Nat} (hm : MNodeAt u B m o) (hl : (mkT m).length ≤ 80000) (hok : MkOk y m) (w : World) (hu : Below u.heap.size u w) :
    Calls Tryz.prog 42 #[o] w fun e w' => e = .returned (.string (str (mkT m))) ∧ Below w.heap.size w w' := by
  obtain ⟨T, x, f, rfl, hmeth, hnil, hent, hw⟩ := wr_all (mkT m).length m o (Nat.le_refl _) hm hok
  have HW := Lib.hid (hw w.heap.size [] (w.alloc (.cells #[.pointer none, .slice none 0 0] 119)) (Bld.new w) (hu.alloc hu.size _) hu.size (by simpa using hl))
  rw [List.nil_append] at HW
  have HB0 := Lib.hid ((Below.refl w.heap.size w).alloc (Nat.le_refl _) (.cells #[.pointer none, .slice none 0 0] 119))
  clear hw hm hok hu
  generalize mkT m = X at HW hl ⊢
  go_enter Tryz.func42, Tryz.ntmps42
  go_wp2_with fail
  refine HW.out.mono ?_
  rintro e w2 ⟨rfl, hB2⟩
  have HB2 := Lib.hid hB2.bld
  have HW2 := Lib.hid (HB0.out.trans hB2.bel)
  clear hB2 HW HB0
  go_wp2_with fail
  refine (bldString_any w.heap.size X w2 HB2.out).mono ?_
  rintro e w3 ⟨rfl, hb3⟩
  have HW3 := Lib.hid (HW2.out.trans hb3)
  clear hb3 HB2 HW2
  go_wp2
  go_ret
  exact ⟨rfl, HW3.out⟩
end Go.Proofs.YtgkfddhhkjblgaaGreatDoor

namespace Go.Proofs.YtgkfddhhkjblgaaGreatDoor
open Go.RowKit

theorem coM_snoc : ∀ (zs : List Int) (i : Int) (m : Mk), coM (zs ++ [i]) m = .co i.toNat (coM zs m)
  | [], _, _ => rfl
  | j :: zs, i, m => by
    rw [List.cons_append, coM, coM, coM_snoc zs i]

set_option maxRecDepth 100000 in
set_option maxHeartbeats 1000000 in
theorem coercedBy_any (lo hi B : Nat) (m : Mk) (o v : Value) (zs : List Int) (u w : World) (hm : MNodeAt u B m o) (hv : IntsAt w lo hi v zs) (hz : ∀ z ∈ zs, Dig z) (hzl : zs.length ≤ 1000) :
    Calls Tryz.prog 87 #[o, v] w fun e w' => (∃ o', e = .returned o' ∧ MNodeAt u B (coM zs m) o') ∧ w' = w := by
  obtain ⟨A, cap, rfl, hl1, hm1, hi1⟩ := hv.form
  obtain ⟨T, x, rfl⟩ := hm.form
  have Hi := Lib.hid hi1
  have HM := Lib.hid hm
  have HZ := Lib.hid hz
  clear hv hi1 hm hz
  go_enter Tryz.func87, Tryz.ntmps87
  go_wp2_with fail
  go_loopw [0, 9] (fun s i wr => ∃ k : Nat, k ≤ zs.length ∧ i = .int .i64 k ∧ Hid (MNodeAt u B (coM (zs.take k) m) s) ∧ wr = w) (fun _ i _ => zs.length - (intOf i).toNat)
  case atStart => exact ⟨0, Nat.zero_le _, rfl, by rw [List.take_zero]; exact HM, rfl⟩
  case round =>
    obtain ⟨k, hk, rfl, hn, rfl⟩ := hrel
    by_cases hkl : k < zs.length
    · obtain ⟨b3, off3, rfl, _, _, c3, i3⟩ := Hi.out.at_ hkl
      have hd := HZ.out zs[k] (List.getElem_mem hkl)
      obtain ⟨d, hdk⟩ : ∃ d : Nat, zs[k] = (d : Int) := ⟨zs[k].toNat, by unfold Dig at hd; omega⟩
      have hnx : Hid (coM (zs.take (k + 1)) m = .co d (coM (zs.take k) m)) := by
        show _ = _
        rw [List.take_succ_eq_append_getElem hkl, coM_snoc, hdk, Int.toNat_natCast]
      rw [hdk] at c3 i3
      clear hd hdk
      obtain ⟨T2, x2, rfl⟩ := hn.out.form
      go_wp2
      go_roundw
      case rel =>
        refine ⟨k + 1, by omega, by go_num, ?_, trivial⟩
        rw [hnx.out]
        exact ⟨_, rfl, hn.out⟩
      case measure => simp [intOf]; omega
    · obtain rfl : k = zs.length := by omega
      rw [List.take_length] at hn
      go_wp2
      go_ret
      exact ⟨⟨_, rfl, hn.out⟩, rfl⟩

/-- What the package's error of long terms holds. -/
def Lg (w : World) (n : Nat) (e : Value) : Prop := 4 < n ∧ w.cell? ⟨4, 0, none⟩ = some e
theorem Lg.below {w w' : World} {n B : Nat} {e : Value} (h : Lg w n e) (hb : Below B w w') (hn : n ≤ B) : Lg w' n e := ⟨h.1, (hb.cell (p := ⟨4, 0, none⟩) (Nat.lt_of_lt_of_le h.1 hn)).trans h.2⟩

set_option maxRecDepth 100000 in
set_option maxHeartbeats 1000000 in
theorem within_any {y : Sy} {m : Mk} {o ev : Value} {u : World} {B n : Nat} (hm : MNodeAt u B m o) (hl : (mkT m).length ≤ 80000) (hok : MkOk y m) (w : World) (hu : Below u.heap.size u w) (hg : Lg w n ev) (hn : n ≤ w.heap.size) :
    Calls Tryz.prog 78 #[o] w fun e w' => e = .returned (.tuple (if (mkT m).length ≤ 400 then #[o, .nilIface] else #[.nilIface, ev])) ∧ Below w.heap.size w w' := by
  obtain ⟨T, x, rfl⟩ := hm.form
  have HT := Lib.hid (madeText_all hm hl hok w hu)
  have HG := Lib.hid hg
  have hsz := str_size (mkT m)
  clear hm hok hu hg
  generalize mkT m = X at HT hl hsz ⊢
  go_enter Tryz.func78, Tryz.ntmps78
  go_wp2_with fail
  refine HT.out.mono ?_
  rintro e w2 ⟨rfl, hb2⟩
  have HB2 := Lib.hid hb2
  have c4 := (HG.out.below hb2 hn).2
  clear hb2 HT
  by_cases h4 : X.length ≤ 400
  · have h4' : ¬ (400 : Int) < (X.length : Int) := by omega
    go_wp2
    try rw [Exit.noGoto_ret]
    refine bodyPost_ret (v := .tuple #[.iface T x, .nilIface]) (by simp [results, Tryz.results78, go_sem]) rfl ?_
    exact ⟨by first | rfl | rw [if_pos h4], HB2.out⟩
  · have h4' : (400 : Int) < (X.length : Int) := by omega
    go_wp2_with fail
    go_quiet (fail)
    go_wp2
    try rw [Exit.noGoto_ret]
    refine bodyPost_ret (v := .tuple #[.nilIface, ev]) (by simp [results, Tryz.results78, go_sem]) rfl ?_
    exact ⟨by first | rfl | rw [if_neg h4], below_drewN HB2.out _⟩
end Go.Proofs.YtgkfddhhkjblgaaGreatDoor

namespace Go.Proofs.YtgkfddhhkjblgaaGreatDoor
open Go.RowKit Go.Extern.Stop Go.Stop Go.Extern

theorem isTypeOf (v : Value) (w : World) : (Extern.ReflectliteType.typeOf #[.iface 270 v]).run Tryz.prog w = .ok (.iface 213 (.agg #[.pointer (some ⟨12, 270, none⟩)])) w := by kernel_rfl
theorem callComparable (w : World) : (callFunc 262 #[.agg #[.pointer (some ⟨12, 270, none⟩)]]).run Tryz.prog w = .ok (.value (.bool true)) w := by kernel_rfl
theorem isMethodComparable (v : Value) (w : World) : (Go.method 436 213 v "Comparable").run Tryz.prog w = .ok (262, v) w := by kernel_rfl
theorem isComp : (Tryz.prog.info? 270).map (·.comparable) = some true := by kernel_rfl
theorem isSize : (Tryz.prog.info? 325).map (·.size) = some 1 := by kernel_rfl
theorem noIsE (v : Value) (xT : TypeId) (w : World) : (Instr.typeAssert (.iface 270 v) xT 215 true).run Tryz.prog w = .ok (.tuple #[.nilIface, .bool false]) w := run_typeAssert_lacksB Tryz.underlying215 (by kernel_rfl) (by kernel_rfl) v xT w
theorem noUnwrapE (v : Value) (xT : TypeId) (w : World) : (Instr.typeAssert (.iface 270 v) xT 218 true).run Tryz.prog w = .ok (.tuple #[.nilIface, .bool false]) w := run_typeAssert_lacksB Tryz.underlying218 (by kernel_rfl) (by kernel_rfl) v xT w
theorem noUnwrapsE (v : Value) (xT : TypeId) (w : World) : (Instr.typeAssert (.iface 270 v) xT 220 true).run Tryz.prog w = .ok (.tuple #[.nilIface, .bool false]) w := run_typeAssert_lacksB Tryz.underlying220 (by kernel_rfl) (by kernel_rfl) v xT w

set_option maxRecDepth 100000 in
set_option maxHeartbeats 2000000 in
/-- errors.Is(x, x), x a pointer to an errors.errorString. -/
theorem is_same (a : Addr) (w : World) :
    Calls Tryz.prog 79 #[.iface 270 (.pointer (some a)), .iface 270 (.pointer (some a))] w fun e w' => e = .returned (.bool true) ∧ w = w' := by
  obtain ⟨i, hi, hcmp⟩ := Option.map_eq_some_iff.1 isComp
  obtain ⟨j, hj, hjs⟩ := Option.map_eq_some_iff.1 isSize
  have h8 := @run_callFunc_extern Tryz.prog 119 _ Extern.ReflectliteType.typeOf Tryz.func119 (by kernel_rfl) (by kernel_rfl) (by kernel_rfl) (by kernel_rfl)
  have h32 := callComparable
  have tT := isTypeOf
  have mR := isMethodComparable
  have heq := run_eql_iface_ptr_same (P := Tryz.prog) w a Tryz.underlying64 Tryz.underlying270 hi hcmp hj
  go_enter Tryz.func79, Tryz.ntmps79
  go_wp2
  refine wp_loop_rounds 1 ?_
  rw [rounds_succ]
  go_wp2
  go_ret
  exact ⟨rfl, rfl⟩

set_option maxRecDepth 100000 in
set_option maxHeartbeats 2000000 in
/-- errors.Is(nil, x). -/
theorem is_nil (b : Addr) (w : World) :
    Calls Tryz.prog 79 #[.nilIface, .iface 270 (.pointer (some b))] w fun e w' => e = .returned (.bool false) ∧ w = w' := by
  have hn := run_eql_iface_nil_left (P := Tryz.prog) w 270 (.pointer (some b)) Tryz.underlying64
  go_enter Tryz.func79, Tryz.ntmps79
  go_wp2
  go_ret
  exact ⟨rfl, rfl⟩

set_option maxRecDepth 100000 in
set_option maxHeartbeats 2000000 in
/-- errors.Is(x, y), two different pointers to errors.errorString: neither has Is nor Unwrap: false. -/
theorem is_other (a b : Addr) (ca cb : Array Value) (ta tb : TypeId) (w : World) (hne : a ≠ b) (ha : w.heap[a.block]? = some (.cells ca ta (0, 0))) (hb : w.heap[b.block]? = some (.cells cb tb (0, 0))) :
    Calls Tryz.prog 79 #[.iface 270 (.pointer (some a)), .iface 270 (.pointer (some b))] w fun e w' => e = .returned (.bool false) ∧ w = w' := by
  obtain ⟨i, hi, hcmp⟩ := Option.map_eq_some_iff.1 isComp
  obtain ⟨j, hj, hjs⟩ := Option.map_eq_some_iff.1 isSize
  have h8 := @run_callFunc_extern Tryz.prog 119 _ Extern.ReflectliteType.typeOf Tryz.func119 (by kernel_rfl) (by kernel_rfl) (by kernel_rfl) (by kernel_rfl)
  have h32 := callComparable
  have tT := isTypeOf
  have mR := isMethodComparable
  have nE := noIsE
  have uE := noUnwrapE
  have vE := noUnwrapsE
  have heq := run_eql_iface_ptr_other (P := Tryz.prog) w Tryz.underlying64 Tryz.underlying270 hi hcmp hj (by rw [hjs]; decide) hne ha hb
  go_enter Tryz.func79, Tryz.ntmps79
  go_wp2
  refine wp_loop_rounds 1 ?_
  rw [rounds_succ]
  go_wp2
  go_ret
  exact ⟨rfl, rfl⟩

/-- The package's two errors lie below n: two different pointers. -/
structure Errs (w : World) (n : Nat) (a0 a1 : Addr) : Prop where
  low : 1 < n ∧ 3 < n
  g0 : w.cell? ⟨1, 0, none⟩ = some (.iface 270 (.pointer (some a0)))
  g1 : w.cell? ⟨3, 0, none⟩ = some (.iface 270 (.pointer (some a1)))
  ne : a0 ≠ a1
  l0 : a0.block < n
  l1 : a1.block < n
  b0 : ∃ c t, w.heap[a0.block]? = some (.cells c t (0, 0))
  b1 : ∃ c t, w.heap[a1.block]? = some (.cells c t (0, 0))
theorem Errs.below {w w' : World} {n B : Nat} {a0 a1 : Addr} (h : Errs w n a0 a1) (hb : Below B w w') (hn : n ≤ B) : Errs w' n a0 a1 := by
  have hl := h.low
  have h0 := h.l0
  have h1 := h.l1
  refine ⟨hl, (hb.cell (p := ⟨1, 0, none⟩) (by show 1 < B; omega)).trans h.g0, (hb.cell (p := ⟨3, 0, none⟩) (by show 3 < B; omega)).trans h.g1, h.ne, h0, h1, ?_, ?_⟩
  · obtain ⟨c, t, e⟩ := h.b0
    exact ⟨c, t, (hb.block _ (by omega)).trans e⟩
  · obtain ⟨c, t, e⟩ := h.b1
    exact ⟨c, t, (hb.block _ (by omega)).trans e⟩
end Go.Proofs.YtgkfddhhkjblgaaGreatDoor

namespace Go.Proofs.YtgkfddhhkjblgaaGreatDoor
open Go.RowKit

def zeroFu : List Value := [.string ByteArray.empty, .slice none 0 0, .int .i64 0, .slice none 0 0]

/-- w0: the world where the region begins; bx: the system's box; F: its list; i, k: the indices; pi, pk: where the two lie; ci, ck: their cells. -/
structure TwoF (w0 : World) (bx : Nat) (F ii kk pi pk vi vk : Value) (ci ck : List Value) (f : Nat → Bool) (x0 x1 x2 x3 x4 x5 x6 x7 x8 x9 y z : Value) (u : World) : Prop where
  bel : Below w0.heap.size w0 u
  a0 : f 0 = true → x0 = (.pointer (some ⟨bx, 2, none⟩))
  a1 : f 1 = true → x1 = F
  a2 : f 2 = true → x2 = ii
  a3 : f 3 = true → x3 = pi
  a4 : f 4 = true → x4 = vi
  a5 : f 5 = true → x5 = (.pointer (some ⟨bx, 2, none⟩))
  a6 : f 6 = true → x6 = F
  a7 : f 7 = true → x7 = kk
  a8 : f 8 = true → x8 = pk
  a9 : f 9 = true → x9 = vk
  b0 : f 10 = true → f 12 = false → ∃ p, w0.heap.size ≤ p ∧ y = .pointer (some ⟨p, 0, none⟩) ∧ Row u p 106 zeroFu
  b1 : f 11 = true → f 13 = false → ∃ p, w0.heap.size ≤ p ∧ z = .pointer (some ⟨p, 0, none⟩) ∧ Row u p 106 zeroFu
  b2 : f 12 = true → ∃ p, w0.heap.size ≤ p ∧ y = .pointer (some ⟨p, 0, none⟩) ∧ Row u p 106 ci
  b3 : f 13 = true → ∃ p, w0.heap.size ≤ p ∧ z = .pointer (some ⟨p, 0, none⟩) ∧ Row u p 106 ck
  apart : f 10 = true → f 11 = true → ∀ p q, y = .pointer (some ⟨p, 0, none⟩) → z = .pointer (some ⟨q, 0, none⟩) → p ≠ q
  c2 : f 12 = true → f 10 = true
  c3 : f 13 = true → f 11 = true

section
variable {w0 u : World} {bx : Nat} {F ii kk pi pk vi vk : Value} {ci ck : List Value} {f : Nat → Bool} {x0 x1 x2 x3 x4 x5 x6 x7 x8 x9 y z : Value}

theorem TwoF.ylt (h : TwoF w0 bx F ii kk pi pk vi vk ci ck f x0 x1 x2 x3 x4 x5 x6 x7 x8 x9 y z u) (h10 : f 10 = true) : ∃ p, y = .pointer (some ⟨p, 0, none⟩) ∧ p < u.heap.size := by
  cases h12 : f 12 with
  | false => obtain ⟨p, _, e, hr⟩ := h.b0 h10 h12; exact ⟨p, e, hr.lt⟩
  | true => obtain ⟨p, _, e, hr⟩ := h.b2 h12; exact ⟨p, e, hr.lt⟩
theorem TwoF.zlt (h : TwoF w0 bx F ii kk pi pk vi vk ci ck f x0 x1 x2 x3 x4 x5 x6 x7 x8 x9 y z u) (h11 : f 11 = true) : ∃ p, z = .pointer (some ⟨p, 0, none⟩) ∧ p < u.heap.size := by
  cases h13 : f 13 with
  | false => obtain ⟨p, _, e, hr⟩ := h.b1 h11 h13; exact ⟨p, e, hr.lt⟩
  | true => obtain ⟨p, _, e, hr⟩ := h.b3 h13; exact ⟨p, e, hr.lt⟩
theorem TwoF.s0 (h : TwoF w0 bx F ii kk pi pk vi vk ci ck f x0 x1 x2 x3 x4 x5 x6 x7 x8 x9 y z u) : TwoF w0 bx F ii kk pi pk vi vk ci ck (fun k => decide (k = 0) || f k) (.pointer (some ⟨bx, 2, none⟩)) x1 x2 x3 x4 x5 x6 x7 x8 x9 y z u where
  bel := h.bel
  a0 := fun _ => rfl
  a1 := fun e => h.a1 (by simpa using e)
  a2 := fun e => h.a2 (by simpa using e)
  a3 := fun e => h.a3 (by simpa using e)
  a4 := fun e => h.a4 (by simpa using e)
  a5 := fun e => h.a5 (by simpa using e)
  a6 := fun e => h.a6 (by simpa using e)
  a7 := fun e => h.a7 (by simpa using e)
  a8 := fun e => h.a8 (by simpa using e)
  a9 := fun e => h.a9 (by simpa using e)
  b0 := fun e e2 => h.b0 (by simpa using e) (by simpa using e2)
  b1 := fun e e2 => h.b1 (by simpa using e) (by simpa using e2)
  b2 := fun e => h.b2 (by simpa using e)
  b3 := fun e => h.b3 (by simpa using e)
  apart := fun e e2 => h.apart (by simpa using e) (by simpa using e2)
  c2 := fun e => by have := h.c2 (by simpa using e); simp [this]
  c3 := fun e => by have := h.c3 (by simpa using e); simp [this]
theorem TwoF.s1 (h : TwoF w0 bx F ii kk pi pk vi vk ci ck f x0 x1 x2 x3 x4 x5 x6 x7 x8 x9 y z u) : TwoF w0 bx F ii kk pi pk vi vk ci ck (fun k => decide (k = 1) || f k) x0 F x2 x3 x4 x5 x6 x7 x8 x9 y z u where
  bel := h.bel
  a0 := fun e => h.a0 (by simpa using e)
  a1 := fun _ => rfl
  a2 := fun e => h.a2 (by simpa using e)
  a3 := fun e => h.a3 (by simpa using e)
  a4 := fun e => h.a4 (by simpa using e)
  a5 := fun e => h.a5 (by simpa using e)
  a6 := fun e => h.a6 (by simpa using e)
  a7 := fun e => h.a7 (by simpa using e)
  a8 := fun e => h.a8 (by simpa using e)
  a9 := fun e => h.a9 (by simpa using e)
  b0 := fun e e2 => h.b0 (by simpa using e) (by simpa using e2)
  b1 := fun e e2 => h.b1 (by simpa using e) (by simpa using e2)
  b2 := fun e => h.b2 (by simpa using e)
  b3 := fun e => h.b3 (by simpa using e)
  apart := fun e e2 => h.apart (by simpa using e) (by simpa using e2)
  c2 := fun e => by have := h.c2 (by simpa using e); simp [this]
  c3 := fun e => by have := h.c3 (by simpa using e); simp [this]
theorem TwoF.s2 (h : TwoF w0 bx F ii kk pi pk vi vk ci ck f x0 x1 x2 x3 x4 x5 x6 x7 x8 x9 y z u) : TwoF w0 bx F ii kk pi pk vi vk ci ck (fun k => decide (k = 2) || f k) x0 x1 ii x3 x4 x5 x6 x7 x8 x9 y z u where
  bel := h.bel
  a0 := fun e => h.a0 (by simpa using e)
  a1 := fun e => h.a1 (by simpa using e)
  a2 := fun _ => rfl
  a3 := fun e => h.a3 (by simpa using e)
  a4 := fun e => h.a4 (by simpa using e)
  a5 := fun e => h.a5 (by simpa using e)
  a6 := fun e => h.a6 (by simpa using e)
  a7 := fun e => h.a7 (by simpa using e)
  a8 := fun e => h.a8 (by simpa using e)
  a9 := fun e => h.a9 (by simpa using e)
  b0 := fun e e2 => h.b0 (by simpa using e) (by simpa using e2)
  b1 := fun e e2 => h.b1 (by simpa using e) (by simpa using e2)
  b2 := fun e => h.b2 (by simpa using e)
  b3 := fun e => h.b3 (by simpa using e)
  apart := fun e e2 => h.apart (by simpa using e) (by simpa using e2)
  c2 := fun e => by have := h.c2 (by simpa using e); simp [this]
  c3 := fun e => by have := h.c3 (by simpa using e); simp [this]
theorem TwoF.s3 (h : TwoF w0 bx F ii kk pi pk vi vk ci ck f x0 x1 x2 x3 x4 x5 x6 x7 x8 x9 y z u) : TwoF w0 bx F ii kk pi pk vi vk ci ck (fun k => decide (k = 3) || f k) x0 x1 x2 pi x4 x5 x6 x7 x8 x9 y z u where
  bel := h.bel
  a0 := fun e => h.a0 (by simpa using e)
  a1 := fun e => h.a1 (by simpa using e)
  a2 := fun e => h.a2 (by simpa using e)
  a3 := fun _ => rfl
  a4 := fun e => h.a4 (by simpa using e)
  a5 := fun e => h.a5 (by simpa using e)
  a6 := fun e => h.a6 (by simpa using e)
  a7 := fun e => h.a7 (by simpa using e)
  a8 := fun e => h.a8 (by simpa using e)
  a9 := fun e => h.a9 (by simpa using e)
  b0 := fun e e2 => h.b0 (by simpa using e) (by simpa using e2)
  b1 := fun e e2 => h.b1 (by simpa using e) (by simpa using e2)
  b2 := fun e => h.b2 (by simpa using e)
  b3 := fun e => h.b3 (by simpa using e)
  apart := fun e e2 => h.apart (by simpa using e) (by simpa using e2)
  c2 := fun e => by have := h.c2 (by simpa using e); simp [this]
  c3 := fun e => by have := h.c3 (by simpa using e); simp [this]
theorem TwoF.s4 (h : TwoF w0 bx F ii kk pi pk vi vk ci ck f x0 x1 x2 x3 x4 x5 x6 x7 x8 x9 y z u) : TwoF w0 bx F ii kk pi pk vi vk ci ck (fun k => decide (k = 4) || f k) x0 x1 x2 x3 vi x5 x6 x7 x8 x9 y z u where
  bel := h.bel
  a0 := fun e => h.a0 (by simpa using e)
  a1 := fun e => h.a1 (by simpa using e)
  a2 := fun e => h.a2 (by simpa using e)
  a3 := fun e => h.a3 (by simpa using e)
  a4 := fun _ => rfl
  a5 := fun e => h.a5 (by simpa using e)
  a6 := fun e => h.a6 (by simpa using e)
  a7 := fun e => h.a7 (by simpa using e)
  a8 := fun e => h.a8 (by simpa using e)
  a9 := fun e => h.a9 (by simpa using e)
  b0 := fun e e2 => h.b0 (by simpa using e) (by simpa using e2)
  b1 := fun e e2 => h.b1 (by simpa using e) (by simpa using e2)
  b2 := fun e => h.b2 (by simpa using e)
  b3 := fun e => h.b3 (by simpa using e)
  apart := fun e e2 => h.apart (by simpa using e) (by simpa using e2)
  c2 := fun e => by have := h.c2 (by simpa using e); simp [this]
  c3 := fun e => by have := h.c3 (by simpa using e); simp [this]
theorem TwoF.s5 (h : TwoF w0 bx F ii kk pi pk vi vk ci ck f x0 x1 x2 x3 x4 x5 x6 x7 x8 x9 y z u) : TwoF w0 bx F ii kk pi pk vi vk ci ck (fun k => decide (k = 5) || f k) x0 x1 x2 x3 x4 (.pointer (some ⟨bx, 2, none⟩)) x6 x7 x8 x9 y z u where
  bel := h.bel
  a0 := fun e => h.a0 (by simpa using e)
  a1 := fun e => h.a1 (by simpa using e)
  a2 := fun e => h.a2 (by simpa using e)
  a3 := fun e => h.a3 (by simpa using e)
  a4 := fun e => h.a4 (by simpa using e)
  a5 := fun _ => rfl
  a6 := fun e => h.a6 (by simpa using e)
  a7 := fun e => h.a7 (by simpa using e)
  a8 := fun e => h.a8 (by simpa using e)
  a9 := fun e => h.a9 (by simpa using e)
  b0 := fun e e2 => h.b0 (by simpa using e) (by simpa using e2)
  b1 := fun e e2 => h.b1 (by simpa using e) (by simpa using e2)
  b2 := fun e => h.b2 (by simpa using e)
  b3 := fun e => h.b3 (by simpa using e)
  apart := fun e e2 => h.apart (by simpa using e) (by simpa using e2)
  c2 := fun e => by have := h.c2 (by simpa using e); simp [this]
  c3 := fun e => by have := h.c3 (by simpa using e); simp [this]
theorem TwoF.s6 (h : TwoF w0 bx F ii kk pi pk vi vk ci ck f x0 x1 x2 x3 x4 x5 x6 x7 x8 x9 y z u) : TwoF w0 bx F ii kk pi pk vi vk ci ck (fun k => decide (k = 6) || f k) x0 x1 x2 x3 x4 x5 F x7 x8 x9 y z u where
  bel := h.bel
  a0 := fun e => h.a0 (by simpa using e)
  a1 := fun e => h.a1 (by simpa using e)
  a2 := fun e => h.a2 (by simpa using e)
  a3 := fun e => h.a3 (by simpa using e)
  a4 := fun e => h.a4 (by simpa using e)
  a5 := fun e => h.a5 (by simpa using e)
  a6 := fun _ => rfl
  a7 := fun e => h.a7 (by simpa using e)
  a8 := fun e => h.a8 (by simpa using e)
  a9 := fun e => h.a9 (by simpa using e)
  b0 := fun e e2 => h.b0 (by simpa using e) (by simpa using e2)
  b1 := fun e e2 => h.b1 (by simpa using e) (by simpa using e2)
  b2 := fun e => h.b2 (by simpa using e)
  b3 := fun e => h.b3 (by simpa using e)
  apart := fun e e2 => h.apart (by simpa using e) (by simpa using e2)
  c2 := fun e => by have := h.c2 (by simpa using e); simp [this]
  c3 := fun e => by have := h.c3 (by simpa using e); simp [this]
theorem TwoF.s7 (h : TwoF w0 bx F ii kk pi pk vi vk ci ck f x0 x1 x2 x3 x4 x5 x6 x7 x8 x9 y z u) : TwoF w0 bx F ii kk pi pk vi vk ci ck (fun k => decide (k = 7) || f k) x0 x1 x2 x3 x4 x5 x6 kk x8 x9 y z u where
  bel := h.bel
  a0 := fun e => h.a0 (by simpa using e)
  a1 := fun e => h.a1 (by simpa using e)
  a2 := fun e => h.a2 (by simpa using e)
  a3 := fun e => h.a3 (by simpa using e)
  a4 := fun e => h.a4 (by simpa using e)
  a5 := fun e => h.a5 (by simpa using e)
  a6 := fun e => h.a6 (by simpa using e)
  a7 := fun _ => rfl
  a8 := fun e => h.a8 (by simpa using e)
  a9 := fun e => h.a9 (by simpa using e)
  b0 := fun e e2 => h.b0 (by simpa using e) (by simpa using e2)
  b1 := fun e e2 => h.b1 (by simpa using e) (by simpa using e2)
  b2 := fun e => h.b2 (by simpa using e)
  b3 := fun e => h.b3 (by simpa using e)
  apart := fun e e2 => h.apart (by simpa using e) (by simpa using e2)
  c2 := fun e => by have := h.c2 (by simpa using e); simp [this]
  c3 := fun e => by have := h.c3 (by simpa using e); simp [this]
theorem TwoF.s8 (h : TwoF w0 bx F ii kk pi pk vi vk ci ck f x0 x1 x2 x3 x4 x5 x6 x7 x8 x9 y z u) : TwoF w0 bx F ii kk pi pk vi vk ci ck (fun k => decide (k = 8) || f k) x0 x1 x2 x3 x4 x5 x6 x7 pk x9 y z u where
  bel := h.bel
  a0 := fun e => h.a0 (by simpa using e)
  a1 := fun e => h.a1 (by simpa using e)
  a2 := fun e => h.a2 (by simpa using e)
  a3 := fun e => h.a3 (by simpa using e)
  a4 := fun e => h.a4 (by simpa using e)
  a5 := fun e => h.a5 (by simpa using e)
  a6 := fun e => h.a6 (by simpa using e)
  a7 := fun e => h.a7 (by simpa using e)
  a8 := fun _ => rfl
  a9 := fun e => h.a9 (by simpa using e)
  b0 := fun e e2 => h.b0 (by simpa using e) (by simpa using e2)
  b1 := fun e e2 => h.b1 (by simpa using e) (by simpa using e2)
  b2 := fun e => h.b2 (by simpa using e)
  b3 := fun e => h.b3 (by simpa using e)
  apart := fun e e2 => h.apart (by simpa using e) (by simpa using e2)
  c2 := fun e => by have := h.c2 (by simpa using e); simp [this]
  c3 := fun e => by have := h.c3 (by simpa using e); simp [this]
theorem TwoF.s9 (h : TwoF w0 bx F ii kk pi pk vi vk ci ck f x0 x1 x2 x3 x4 x5 x6 x7 x8 x9 y z u) : TwoF w0 bx F ii kk pi pk vi vk ci ck (fun k => decide (k = 9) || f k) x0 x1 x2 x3 x4 x5 x6 x7 x8 vk y z u where
  bel := h.bel
  a0 := fun e => h.a0 (by simpa using e)
  a1 := fun e => h.a1 (by simpa using e)
  a2 := fun e => h.a2 (by simpa using e)
  a3 := fun e => h.a3 (by simpa using e)
  a4 := fun e => h.a4 (by simpa using e)
  a5 := fun e => h.a5 (by simpa using e)
  a6 := fun e => h.a6 (by simpa using e)
  a7 := fun e => h.a7 (by simpa using e)
  a8 := fun e => h.a8 (by simpa using e)
  a9 := fun _ => rfl
  b0 := fun e e2 => h.b0 (by simpa using e) (by simpa using e2)
  b1 := fun e e2 => h.b1 (by simpa using e) (by simpa using e2)
  b2 := fun e => h.b2 (by simpa using e)
  b3 := fun e => h.b3 (by simpa using e)
  apart := fun e e2 => h.apart (by simpa using e) (by simpa using e2)
  c2 := fun e => by have := h.c2 (by simpa using e); simp [this]
  c3 := fun e => by have := h.c3 (by simpa using e); simp [this]
theorem TwoF.s10 (h : TwoF w0 bx F ii kk pi pk vi vk ci ck f x0 x1 x2 x3 x4 x5 x6 x7 x8 x9 y z u) (hfi : f 10 = false) : TwoF w0 bx F ii kk pi pk vi vk ci ck (fun k => decide (k = 10) || f k) x0 x1 x2 x3 x4 x5 x6 x7 x8 x9 (.pointer (some ⟨u.heap.size, 0, none⟩)) z (u.alloc (.cells #[.string ByteArray.empty, .slice none 0 0, .int .i64 0, .slice none 0 0] 106)) where
  bel := h.bel.alloc h.bel.size _
  a0 := fun e => h.a0 (by simpa using e)
  a1 := fun e => h.a1 (by simpa using e)
  a2 := fun e => h.a2 (by simpa using e)
  a3 := fun e => h.a3 (by simpa using e)
  a4 := fun e => h.a4 (by simpa using e)
  a5 := fun e => h.a5 (by simpa using e)
  a6 := fun e => h.a6 (by simpa using e)
  a7 := fun e => h.a7 (by simpa using e)
  a8 := fun e => h.a8 (by simpa using e)
  a9 := fun e => h.a9 (by simpa using e)
  b0 := fun _ _ => ⟨u.heap.size, h.bel.size, rfl, Row.new u _ zeroFu⟩
  b1 := fun e e2 => by
    obtain ⟨p, h1, h2, h3⟩ := h.b1 (by simpa using e) (by simpa using e2)
    exact ⟨p, h1, h2, h3.alloc _⟩
  b2 := fun e => by have := h.c2 (by simpa using e); rw [hfi] at this; cases this
  b3 := fun e => by
    obtain ⟨p, h1, h2, h3⟩ := h.b3 (by simpa using e)
    exact ⟨p, h1, h2, h3.alloc _⟩
  apart := fun _ e2 p q e3 e4 => by
    obtain ⟨q', e5, hlt⟩ := h.zlt (by simpa using e2)
    rw [e5] at e4
    simp only [Value.pointer.injEq, Option.some.injEq, Addr.mk.injEq, and_true] at e3 e4
    omega
  c2 := fun _ => by simp
  c3 := fun e => by have := h.c3 (by simpa using e); simp [this]
theorem TwoF.s11 (h : TwoF w0 bx F ii kk pi pk vi vk ci ck f x0 x1 x2 x3 x4 x5 x6 x7 x8 x9 y z u) (hfi : f 11 = false) : TwoF w0 bx F ii kk pi pk vi vk ci ck (fun k => decide (k = 11) || f k) x0 x1 x2 x3 x4 x5 x6 x7 x8 x9 y (.pointer (some ⟨u.heap.size, 0, none⟩)) (u.alloc (.cells #[.string ByteArray.empty, .slice none 0 0, .int .i64 0, .slice none 0 0] 106)) where
  bel := h.bel.alloc h.bel.size _
  a0 := fun e => h.a0 (by simpa using e)
  a1 := fun e => h.a1 (by simpa using e)
  a2 := fun e => h.a2 (by simpa using e)
  a3 := fun e => h.a3 (by simpa using e)
  a4 := fun e => h.a4 (by simpa using e)
  a5 := fun e => h.a5 (by simpa using e)
  a6 := fun e => h.a6 (by simpa using e)
  a7 := fun e => h.a7 (by simpa using e)
  a8 := fun e => h.a8 (by simpa using e)
  a9 := fun e => h.a9 (by simpa using e)
  b0 := fun e e2 => by
    obtain ⟨p, h1, h2, h3⟩ := h.b0 (by simpa using e) (by simpa using e2)
    exact ⟨p, h1, h2, h3.alloc _⟩
  b1 := fun _ _ => ⟨u.heap.size, h.bel.size, rfl, Row.new u _ zeroFu⟩
  b2 := fun e => by
    obtain ⟨p, h1, h2, h3⟩ := h.b2 (by simpa using e)
    exact ⟨p, h1, h2, h3.alloc _⟩
  b3 := fun e => by have := h.c3 (by simpa using e); rw [hfi] at this; cases this
  apart := fun e2 _ p q e3 e4 => by
    obtain ⟨q', e5, hlt⟩ := h.ylt (by simpa using e2)
    rw [e5] at e3
    simp only [Value.pointer.injEq, Option.some.injEq, Addr.mk.injEq, and_true] at e3 e4
    omega
  c2 := fun e => by have := h.c2 (by simpa using e); simp [this]
  c3 := fun _ => by simp
theorem TwoF.s12 {p : Nat} {c0 c1 c2 c3 : Value} (h : TwoF w0 bx F ii kk pi pk vi vk [c0, c1, c2, c3] ck f x0 x1 x2 x3 x4 x5 x6 x7 x8 x9 (.pointer (some ⟨p, 0, none⟩)) z u) (h10 : f 10 = true) (hp : w0.heap.size ≤ p) (hr : Row u p 106 zeroFu) : TwoF w0 bx F ii kk pi pk vi vk [c0, c1, c2, c3] ck (fun k => decide (k = 12) || f k) x0 x1 x2 x3 x4 x5 x6 x7 x8 x9 (.pointer (some ⟨p, 0, none⟩)) z ((((u.setCell ⟨p, 0, none⟩ c0).setCell ⟨p, 1, none⟩ c1).setCell ⟨p, 2, none⟩ c2).setCell ⟨p, 3, none⟩ c3) where
  bel := (((h.bel.setCell hp _).setCell hp _).setCell hp _).setCell hp _
  a0 := fun e => h.a0 (by simpa using e)
  a1 := fun e => h.a1 (by simpa using e)
  a2 := fun e => h.a2 (by simpa using e)
  a3 := fun e => h.a3 (by simpa using e)
  a4 := fun e => h.a4 (by simpa using e)
  a5 := fun e => h.a5 (by simpa using e)
  a6 := fun e => h.a6 (by simpa using e)
  a7 := fun e => h.a7 (by simpa using e)
  a8 := fun e => h.a8 (by simpa using e)
  a9 := fun e => h.a9 (by simpa using e)
  b0 := fun _ e2 => by simp at e2
  b1 := fun e e2 => by
    obtain ⟨q, h1, h2, h3⟩ := h.b1 (by simpa using e) (by simpa using e2)
    have hne := h.apart h10 (by simpa using e) p q rfl h2
    exact ⟨q, h1, h2, (((h3.far (fun e => hne e.symm) _).far (fun e => hne e.symm) _).far (fun e => hne e.symm) _).far (fun e => hne e.symm) _⟩
  b2 := fun _ => ⟨p, hp, rfl, (((hr.set_ 0 c0).set_ 1 c1).set_ 2 c2).set_ 3 c3⟩
  b3 := fun e => by
    obtain ⟨q, h1, h2, h3⟩ := h.b3 (by simpa using e)
    have hne := h.apart h10 (h.c3 (by simpa using e)) p q rfl h2
    exact ⟨q, h1, h2, (((h3.far (fun e => hne e.symm) _).far (fun e => hne e.symm) _).far (fun e => hne e.symm) _).far (fun e => hne e.symm) _⟩
  apart := fun _ e2 => h.apart h10 (by simpa using e2)
  c2 := fun _ => by simp [h10]
  c3 := fun e => by have := h.c3 (by simpa using e); simp [this]
theorem TwoF.s13 {p : Nat} {c0 c1 c2 c3 : Value} (h : TwoF w0 bx F ii kk pi pk vi vk ci [c0, c1, c2, c3] f x0 x1 x2 x3 x4 x5 x6 x7 x8 x9 y (.pointer (some ⟨p, 0, none⟩)) u) (h11 : f 11 = true) (hp : w0.heap.size ≤ p) (hr : Row u p 106 zeroFu) : TwoF w0 bx F ii kk pi pk vi vk ci [c0, c1, c2, c3] (fun k => decide (k = 13) || f k) x0 x1 x2 x3 x4 x5 x6 x7 x8 x9 y (.pointer (some ⟨p, 0, none⟩)) ((((u.setCell ⟨p, 0, none⟩ c0).setCell ⟨p, 1, none⟩ c1).setCell ⟨p, 2, none⟩ c2).setCell ⟨p, 3, none⟩ c3) where
  bel := (((h.bel.setCell hp _).setCell hp _).setCell hp _).setCell hp _
  a0 := fun e => h.a0 (by simpa using e)
  a1 := fun e => h.a1 (by simpa using e)
  a2 := fun e => h.a2 (by simpa using e)
  a3 := fun e => h.a3 (by simpa using e)
  a4 := fun e => h.a4 (by simpa using e)
  a5 := fun e => h.a5 (by simpa using e)
  a6 := fun e => h.a6 (by simpa using e)
  a7 := fun e => h.a7 (by simpa using e)
  a8 := fun e => h.a8 (by simpa using e)
  a9 := fun e => h.a9 (by simpa using e)
  b0 := fun e e2 => by
    obtain ⟨q, h1, h2, h3⟩ := h.b0 (by simpa using e) (by simpa using e2)
    have hne := h.apart (by simpa using e) h11 q p h2 rfl
    exact ⟨q, h1, h2, (((h3.far hne _).far hne _).far hne _).far hne _⟩
  b1 := fun _ e2 => by simp at e2
  b2 := fun e => by
    obtain ⟨q, h1, h2, h3⟩ := h.b2 (by simpa using e)
    have hne := h.apart (h.c2 (by simpa using e)) h11 q p h2 rfl
    exact ⟨q, h1, h2, (((h3.far hne _).far hne _).far hne _).far hne _⟩
  b3 := fun _ => ⟨p, hp, rfl, (((hr.set_ 0 c0).set_ 1 c1).set_ 2 c2).set_ 3 c3⟩
  apart := fun e2 _ => h.apart (by simpa using e2) h11
  c2 := fun e => by have := h.c2 (by simpa using e); simp [this]
  c3 := fun _ => by simp [h11]
end
end Go.Proofs.YtgkfddhhkjblgaaGreatDoor

