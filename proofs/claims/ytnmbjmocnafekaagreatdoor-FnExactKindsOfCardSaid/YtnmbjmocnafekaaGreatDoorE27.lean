/-
  The contract of the program's makerFor.
  The contracts of the program's KindsOf and LeastKind.
  The contract of the model's KindsOf.
  From the reading of an argument to the words for memory: types and a coercion that come in by value.
-/
import Derived.Test.YtnmbjmocnafekaaGreatDoorE26
import Derived.Test.YtnmbjmocnafekaaGreatDoorE14
import Derived.Carry
import Derived.Test.YtnmbjmocnafekaaGreatDoorE23
import Derived.Test.YtnmbjmocnafekaaGreatDoorE24
import Derived.Test.YtnmbjmocnafekaaGreatDoorRows
import Derived.Test.YtnmbjmocnafekaaGreatDoorE1
import Derived.WalkKit
import Derived.ProofKit
import Derived.OpenShut
import Derived.Lib.SmallJoins
import Derived.Deep.Slices
import Derived.Deep.Fields
namespace Go.Proofs.YtnmbjmocnafekaaGreatDoor
open Go.RowKit Go.Maps

/-- What makerFor comes to. -/
def MkfPost (sv cv fv : Value) (y : Sy) (L : List UInt8) (w : World) (e : Ending) (w' : World) : Prop :=
  ((∃ t T x bm bf bc w0, parseT L = some t ∧ syB y = true ∧ e = .returned (.tuple #[.pointer (some ⟨bm, 0, none⟩), .iface T x, .bool true]) ∧ Below w.heap.size w w0 ∧ NodeAt w0 w.heap.size t (.iface T x) ∧ MkS w0 bm bf bc sv cv fv y w' 0 (.map []) ∧ bm < w'.heap.size) ∨
   ((parseT L = none ∨ syB y = false) ∧ e = .returned (.tuple #[.pointer none, .nilIface, .bool false]))) ∧ Below w.heap.size w w'

set_option maxRecDepth 100000 in
set_option maxHeartbeats 1000000 in
theorem makerFor_any (lo hi n : Nat) (a : Addr) (sv cv fv : Value) (y : Sy) (L : List UInt8) (w : World) (hv : SyAt w lo hi sv cv fv y) (hB : hi ≤ w.heap.size) (he : Ev w n a) (hn : n ≤ w.heap.size) (hm : L.length ≤ 1048576) :
    Calls Tryz.prog 55 #[.agg #[sv, cv, fv], .string (str L)] w fun e w' => MkfPost sv cv fv y L w e w' := by
  obtain ⟨A1, cap1, rfl, _, _, _⟩ := hv.1.1.form
  obtain ⟨A2, cap2, rfl, _, _, _⟩ := hv.1.2.form
  obtain ⟨A3, cap3, rfl, _, _, _⟩ := hv.2.form
  have hb1 : Below w.heap.size w (w.alloc (.cells #[.slice A1 y.ty.sizes.length cap1, .slice A2 y.ty.cos.length cap2, .slice A3 y.fs.length cap3] 36)) := (Below.refl _ _).alloc (Nat.le_refl _) _
  have HT := Lib.hid (readTerm_any L n a _ (he.keep (b := w.heap.size) ((Keep.refl _ _).of_below hb1) hn) (by rw [World.size_alloc]; omega) hm)
  have HR1 := Lib.hid (Row.new w 36 [.slice A1 y.ty.sizes.length cap1, .slice A2 y.ty.cos.length cap2, .slice A3 y.fs.length cap3])
  have HB1 := Lib.hid hb1
  have HV := Lib.hid hv
  have hs1 : w.heap.size < (w.alloc (.cells #[.slice A1 y.ty.sizes.length cap1, .slice A2 y.ty.cos.length cap2, .slice A3 y.fs.length cap3] 36)).heap.size := by rw [World.size_alloc]; omega
  have Hs1 := Lib.hid hs1
  clear hv he hb1 hs1
  go_enter Tryz.func55, Tryz.ntmps55
  go_wp2_with fail
  refine HT.out.mono ?_
  rintro e w2 ⟨⟨t, o, hp, rfl, hnod⟩ | ⟨hp, rfl⟩, hb2⟩
  · have hs2 := hb2.size
    have HB2 := Lib.hid (HB1.out.trans (hb2.mono (Nat.le_of_lt Hs1.out)))
    have hwl : w.heap.size < w2.heap.size := Nat.lt_of_lt_of_le Hs1.out hs2
    have hr2 := HR1.out.below hb2 Hs1.out
    have q0 := hr2.cell 0
    have q1 := hr2.cell 1
    have q2 := hr2.cell 2
    simp only [List.getElem?_cons_zero, List.getElem?_cons_succ] at q0 q1 q2
    have HR2 := Lib.hid hr2
    have HSV := Lib.hid (implSysValid_any lo hi _ _ _ y w2 (HV.out.below HB2.out hB) (Nat.le_trans hB HB2.out.size))
    obtain ⟨T, x, rfl⟩ : ∃ T x, o = .iface T x := by
      cases hc : isCallT t with
      | false => obtain ⟨k, v, _, e⟩ := hnod.lit hc; exact ⟨_, _, e⟩
      | true => obtain ⟨ps, vs, e, _⟩ := hnod.open hc; exact ⟨_, _, e⟩
    have HNOD := Lib.hid hnod
    have HP := Lib.hid hp
    clear hb2 hs2 hr2 HT hnod hp HR1
    go_wp2_with fail
    refine HSV.out.mono ?_
    rintro e w3 ⟨rfl, hb3⟩
    have HB3 := Lib.hid (HB2.out.trans (hb3.mono HB2.out.size))
    have hs3 := hb3.size
    cases hsy : syB y with
    | false =>
      clear q0 q1 q2 hb3 HSV
      go_wp2
      try rw [Exit.noGoto_ret]
      refine bodyPost_ret (v := .tuple #[.pointer none, .nilIface, .bool false]) (by simp [results, Tryz.results55, go_sem]) rfl ?_
      exact ⟨.inr ⟨.inr hsy, rfl⟩, HB3.out⟩
    | true =>
      have HSY := Lib.hid hsy
      have hr3 := HR2.out.below hb3 hwl
      have q0 := hr3.cell 0
      have q1 := hr3.cell 1
      have q2 := hr3.cell 2
      simp only [List.getElem?_cons_zero, List.getElem?_cons_succ] at q0 q1 q2
      have HND3 : Hid (NodeAt w3 w.heap.size t (.iface T x)) := (HNOD.out.same fun g _ hg => hb3.block g hg).base (by rw [World.size_alloc]; omega)
      clear hb3 hr3 HSV HR2 hsy HNOD
      have hmm := @run_makeMap Tryz.prog
      obtain ⟨W1, hW1⟩ : ∃ u, u = w3.alloc (.cells #[.slice A1 y.ty.sizes.length cap1, .slice A2 y.ty.cos.length cap2] 159) := ⟨_, rfl⟩
      have h1s : W1.heap.size = w3.heap.size + 1 := by rw [hW1]; simp
      have hb31 : Below w3.heap.size w3 W1 := by rw [hW1]; exact (Below.refl _ _).alloc (Nat.le_refl _) _
      have hrF : Row W1 w3.heap.size 159 [.slice A1 y.ty.sizes.length cap1, .slice A2 y.ty.cos.length cap2] := by rw [hW1]; exact Row.new _ _ _
      obtain ⟨W2, hW2⟩ : ∃ u, u = W1.alloc (.map #[] 0) := ⟨_, rfl⟩
      have h2s : W2.heap.size = w3.heap.size + 2 := by rw [hW2]; simp [h1s]
      have hb32 : Below w3.heap.size w3 W2 := by rw [hW2]; exact hb31.alloc (by omega) _
      have hrF2 : Row W2 w3.heap.size 159 [.slice A1 y.ty.sizes.length cap1, .slice A2 y.ty.cos.length cap2] := by rw [hW2]; exact hrF.alloc _
      have hmap : W2.ownsMap Tryz.prog 161 (plainElem Tryz.prog 3) W1.heap.size 0 (DataW.map (H := Unit) []) := by rw [hW2]; exact World.ownsMap_made _ _ _ _
      obtain ⟨W3, hW3⟩ : ∃ u, u = W2.alloc (.cells #[.slice A1 y.ty.sizes.length cap1, .slice A2 y.ty.cos.length cap2, .slice A3 y.fs.length cap3, .pointer (some ⟨w3.heap.size, 0, none⟩), .map (some (w3.heap.size + 1))] 99) := ⟨_, rfl⟩
      have h3s : W3.heap.size = w3.heap.size + 3 := by rw [hW3]; simp [h2s]
      have hb33 : Below w3.heap.size w3 W3 := by rw [hW3]; exact hb32.alloc (by omega) _
      have HMK : Hid (MkS w3 (w3.heap.size + 2) w3.heap.size (w3.heap.size + 1) (.slice A1 y.ty.sizes.length cap1) (.slice A2 y.ty.cos.length cap2) (.slice A3 y.fs.length cap3) y W3 0 (.map [])) := by
        refine ⟨hb33, ?_, by rw [hW3]; exact hrF2.alloc _, ?_, ?_, by omega, by omega, by omega, by omega, by omega⟩
        · rw [hW3, ← h2s]
          exact Row.new _ _ _
        · rw [hW3, ← h1s]
          exact hmap.alloc _
        · intro t z _ _ _ h
          simp [Maps.has] at h
      have HB33 : Hid (Below w.heap.size w W3) := HB3.out.trans (hb33.mono HB3.out.size)
      clear hrF hrF2 hmap hb31 hb32 hb33
      go_wp2_with fail
      rw [← hW1, ← hW2, ← hW3]
      refine bodyPost_ret (v := .tuple #[.pointer (some ⟨w3.heap.size + 1 + 1, 0, none⟩), .iface T x, .bool true]) (by simp [results, Tryz.results55, go_sem]) rfl ?_
      exact ⟨.inl ⟨t, T, x, _, _, _, w3, HP.out, HSY.out, rfl, HB3.out, HND3.out, HMK.out, by omega⟩, HB33.out⟩
  · have HB2 := Lib.hid (HB1.out.trans (hb2.mono (Nat.le_of_lt Hs1.out)))
    have HP := Lib.hid hp
    clear hb2 HT hp HR1
    go_wp2
    try rw [Exit.noGoto_ret]
    refine bodyPost_ret (v := .tuple #[.pointer none, .nilIface, .bool false]) (by simp [results, Tryz.results55, go_sem]) rfl ?_
    exact ⟨.inr ⟨.inl HP.out, rfl⟩, HB2.out⟩
end Go.Proofs.YtnmbjmocnafekaaGreatDoor

namespace Go.Proofs.YtnmbjmocnafekaaGreatDoor
open Go.RowKit Go.Maps

/-- Of the first k types those with which a term has explicit terms. -/
noncomputable def accK (y : Sy) (t : Tm) (k : Nat) : List Int := ((List.range k).map fun i : Nat => (i : Int)).filter fun z => decide (0 < cntT y t z)
theorem accK_hit {y : Sy} {t : Tm} {k : Nat} (h : 0 < cntT y t (k : Nat)) : accK y t (k + 1) = accK y t k ++ [((k : Nat) : Int)] := by
  unfold accK
  rw [List.range_succ, List.map_append, List.filter_append]
  simp [h]
theorem accK_miss {y : Sy} {t : Tm} {k : Nat} (h : ¬ 0 < cntT y t (k : Nat)) : accK y t (k + 1) = accK y t k := by
  unfold accK
  rw [List.range_succ, List.map_append, List.filter_append]
  simp at h
  simp [h]
theorem accK_le (y : Sy) (t : Tm) (k : Nat) : (accK y t k).length ≤ k := by
  unfold accK
  have h := List.length_filter_le (fun z => decide (0 < cntT y t z)) ((List.range k).map fun i : Nat => (i : Int))
  rw [List.length_map, List.length_range] at h
  exact h
/-- The types of all explicit terms of a text. -/
noncomputable def kdL (y : Sy) (L : List UInt8) : List Int := if syB y = true then match parseT L with
  | some t => accK y t y.ty.sizes.length
  | none => [] else []
theorem kdL_no {y : Sy} {L : List UInt8} (h : parseT L = none ∨ syB y = false) : kdL y L = [] := by
  unfold kdL
  rcases h with h | h
  · rw [h]; split <;> rfl
  · rw [if_neg (by rw [h]; decide)]
theorem kdL_yes {y : Sy} {L : List UInt8} {t : Tm} (hp : parseT L = some t) (hs : syB y = true) : kdL y L = accK y t y.ty.sizes.length := by
  unfold kdL
  rw [if_pos hs, hp]
theorem MkS.above {w0 w w' : World} {bm bf bc n C : Nat} {sv cv fv : Value} {y : Sy} {D : DataW Unit} (h : MkS w0 bm bf bc sv cv fv y w n D) (hb : Below C w w') (h0 : w0.heap.size ≤ C) (h1 : bm < C) (h2 : bf < C) (h3 : bc < C) : MkS w0 bm bf bc sv cv fv y w' n D := by
  obtain ⟨es, clock, e, r⟩ := h.own
  exact ⟨h.old.trans (hb.mono h0), h.row.below hb h1, h.fin.below hb h2, ⟨es, clock, by rw [hb.block _ h3]; exact e, r⟩, h.memo, h.lm, h.lf, h.lc, h.nm, h.nf⟩

set_option maxRecDepth 100000 in
set_option maxHeartbeats 1000000 in
theorem implKinds_any (lo hi n : Nat) (a : Addr) (sv cv fv : Value) (y : Sy) (hbk : y.bulk ≤ 1048576) (L : List UInt8) (w : World) (hv : SyAt w lo hi sv cv fv y) (hB : hi ≤ w.heap.size) (he : Ev w n a) (hn : n ≤ w.heap.size) (hm : L.length ≤ 1048576) :
    Calls Tryz.prog 26 #[.agg #[sv, cv, fv], .string (str L)] w fun e w' => ∃ v, e = .returned v ∧ Below w.heap.size w w' ∧ w'.ownsRow w.heap.size 3 1 v (kdL y L).length ((kdL y L).map (Value.int .i64)) := by
  obtain ⟨A1, cap1, rfl, _, _, _⟩ := hv.1.1.form
  obtain ⟨A2, cap2, rfl, _, _, _⟩ := hv.1.2.form
  obtain ⟨A3, cap3, rfl, _, _, _⟩ := hv.2.form
  obtain ⟨i0, hi0, hz0, hz1, hz2⟩ := info_parts Tryz.infoInt
  have hb1 : Below w.heap.size w (w.alloc (.cells #[.slice A1 y.ty.sizes.length cap1, .slice A2 y.ty.cos.length cap2, .slice A3 y.fs.length cap3] 36)) := (Below.refl _ _).alloc (Nat.le_refl _) _
  have HT := Lib.hid (makerFor_any lo hi n a _ _ _ y L _ (hv.below hb1 hB) (by rw [World.size_alloc]; omega) (he.keep (b := w.heap.size) ((Keep.refl _ _).of_below hb1) hn) (by rw [World.size_alloc]; omega) hm)
  have HB1 := Lib.hid hb1
  have HV := Lib.hid hv
  have hs1 : w.heap.size < (w.alloc (.cells #[.slice A1 y.ty.sizes.length cap1, .slice A2 y.ty.cos.length cap2, .slice A3 y.fs.length cap3] 36)).heap.size := by rw [World.size_alloc]; omega
  have Hs1 := Lib.hid hs1
  clear hv he hb1 hs1
  go_enter Tryz.func26, Tryz.ntmps26
  go_wp2_with fail
  refine HT.out.mono ?_
  rintro e w2 ⟨⟨t, T, x, bm, bf, bc, w0, hp, hsy, rfl, hb0, hnod, hmk, hbm⟩ | ⟨hno, rfl⟩, hb2⟩
  · have HB2 := Lib.hid (HB1.out.trans (hb2.mono (Nat.le_of_lt Hs1.out)))
    have hs2 := HB2.out.size
    have hyok := syB_iff.1 hsy
    obtain ⟨hok, hLt, h60⟩ := parseT_tmT.1 hp
    have HKD := Lib.hid (kdL_yes hp hsy)
    have hbc := hmk.own.lt
    have hbf := hmk.fin.lt
    have hlm := hmk.lm
    have hlf := hmk.lf
    have hlc := hmk.lc
    have hbs0 : (w.alloc (.cells #[.slice A1 y.ty.sizes.length cap1, .slice A2 y.ty.cos.length cap2, .slice A3 y.fs.length cap3] 36)).heap.size ≤ w0.heap.size := hb0.size
    have hv0 : SyAt w0 lo hi (.slice A1 y.ty.sizes.length cap1) (.slice A2 y.ty.cos.length cap2) (.slice A3 y.fs.length cap3) y := (HV.out.below HB1.out hB).below (hb0.mono (Nat.le_of_lt Hs1.out)) hB
    have hsz := sizesOk_of (tyOk_sizes hyok.ty)
    have hpow : 2 ^ (tmT t).length ≤ 1152921504606846976 := by
      have h := Nat.pow_le_pow_right (n := 2) (by decide) (show (tmT t).length ≤ 60 by rw [← hLt]; exact h60)
      exact h
    have HCNT := Lib.hid fun (k : Nat) (hk : k < y.ty.sizes.length) (u : World) (n' : Nat) (D' : DataW Unit) (hM : MkS w0 bm bf bc (.slice A1 y.ty.sizes.length cap1) (.slice A2 y.ty.cos.length cap2) (.slice A3 y.fs.length cap3) y u n' D') (hg : n' ≤ 5 * 1152921504606846976) => count_any lo hi w0 bm bf bc _ _ _ y hyok hbk hv0 (by have := Hs1.out; omega) (tmT t).length t _ _ (Nat.le_refl _) hok (by rw [← hLt]; exact h60) hnod ((k : Nat) : Int) u n' D' ⟨by omega, by omega⟩ hM (by omega)
    have m0 := hmk.row.cell 0
    simp only [List.getElem?_cons_zero] at m0
    have HMK := Lib.hid hmk
    have Hsz := Lib.hid hsz
    obtain ⟨GW, hGW⟩ : ∃ g, g = 2 ^ (tmT t).length - 1 := ⟨_, rfl⟩
    rw [← hGW] at HCNT
    have hGW2 : GW ≤ 1152921504606846976 := by omega
    have hn5 := hsz.2.1
    clear hb2 hb0 hnod hmk HT hv0 hsz hpow hGW hlm hlf hs2
    have hw2 : w.heap.size < w2.heap.size := by have := Hs1.out; omega
    have hbcw : w.heap.size < bc := by have := Hs1.out; omega
    clear hbs0
    go_wp2_with fail
    go_loopw [8, 26] (fun l ix wr => ∃ (k n' : Nat) (D' : DataW Unit), k ≤ y.ty.sizes.length ∧ ix = .int .i64 k ∧ n' ≤ k * GW ∧ Hid (MkS w0 bm bf bc (.slice A1 y.ty.sizes.length cap1) (.slice A2 y.ty.cos.length cap2) (.slice A3 y.fs.length cap3) y wr n' D') ∧ Hid (Below w.heap.size w wr) ∧ w2.heap.size ≤ wr.heap.size ∧ Hid (wr.ownsRow w2.heap.size 3 1 l (accK y t k).length ((accK y t k).map (Value.int .i64)))) (fun _ ix _ => y.ty.sizes.length - (intOf ix).toNat)
    case atStart => exact ⟨0, 0, _, Nat.zero_le _, rfl, by omega, HMK.out, HB2.out, Nat.le_refl _, World.ownsRow_nil _ _ _ _⟩
    case round =>
      obtain ⟨k, n', D', hk, rfl, hn', hmr, hbr, hsr, hown⟩ := hrel
      by_cases hkl : k < y.ty.sizes.length
      · have hkG : k * GW ≤ 5 * 1152921504606846976 := Nat.mul_le_mul (by omega) hGW2
        have HC := Lib.hid (HCNT.out k hkl wr n' D' hmr.out (by omega))
        obtain ⟨CK, hCK⟩ : ∃ c, c = cntT y t ((k : Nat) : Int) := ⟨_, rfl⟩
        rw [← hCK] at HC
        have hle := accK_le y t k
        have hklI : (k : Int) < (y.ty.sizes.length : Int) := by omega
        by_cases hc : 0 < CK
        · have HH : Hid (accK y t (k + 1) = accK y t k ++ [((k : Nat) : Int)]) := accK_hit (by rw [← hCK]; exact hc)
          clear hCK
          have hcI : (0 : Int) < (CK : Int) := by omega
          go_wp2_with fail
          refine HC.out.mono ?_
          clear HC
          rintro e w5 ⟨rfl, hk5, n5, D5, hn5, hm5⟩
          have hs5 := hk5.size
          have HM5 := Lib.hid hm5
          have HB5 : Hid (Below w.heap.size w w5) := hbr.out.grown hk5.grown (by omega) (fun j e => by simp only [Option.some.injEq] at e; omega)
          have HO5 : Hid (w5.ownsRow w2.heap.size 3 1 _ (accK y t k).length ((accK y t k).map (Value.int .i64))) := own_same hown.out fun g hg hlt => hk5.block hlt (by omega)
          clear hk5 hm5 hown
          go_wp2_with (at_builtin; refine wpList_append_own _ rfl (.tmp 34) (.tmp 36) 22 rfl w2.heap.size 3 i0 (.int .i64 0) 1 8 Tryz.underlying22 hi0 hz0 hz1 hz2 rfl (by decide) _ _ _ rfl (HO5.out.alloc _) ⟨w5.heap.size, 0, none⟩ 1 1 [.int .i64 k] rfl rfl ?c1 ?c2 ?c3 ?c4 ?c5 ?_)
          case c1 =>
            intro n u hi
            match n, hi with
            | 0, hi => simp at hi; subst hi; simp [Addr.add]
          case c2 => intro u hu; simp at hu; subst hu; rfl
          case c3 => unfold maxLen; omega
          case c4 => omega
          case c5 => simp; omega
          intro v' w6 hown6 hgrow _
          have hb6 : Below w2.heap.size w5 w6 := ((Below.refl w2.heap.size w5).alloc (by omega) _).grown hgrow (by simp; omega) (fun k hk => by
            obtain ⟨_, ⟨e, _⟩ | ⟨g, cap3, cur, e, hg, _⟩⟩ := HO5.out
            · rw [e] at hk; simp [Value.ownBlock] at hk
            · rw [e] at hk; simp [Value.ownBlock] at hk; omega)
          have hs6 := hb6.size
          have HB6 : Hid (Below w.heap.size w w6) := HB5.out.trans (hb6.mono (by omega))
          have HM6 := Lib.hid (HM5.out.above hb6 (by omega) (by omega) (by omega) (by omega))
          have HO6 := Lib.hid hown6
          clear hown6 hgrow hb6
          go_wp2
          go_roundw
          case rel => exact ⟨k + 1, n5, D5, by omega, by go_num, by rw [Nat.succ_mul]; omega, HM6.out, HB6.out, by omega, ownsRow_cast HO6.out (by rw [HH.out]; simp) (by rw [HH.out]; simp)⟩
          case measure => simp [intOf]; omega
        · have HH : Hid (accK y t (k + 1) = accK y t k) := accK_miss (by rw [← hCK]; exact hc)
          clear hCK
          have hcI : ¬ (0 : Int) < (CK : Int) := by omega
          go_wp2_with fail
          refine HC.out.mono ?_
          clear HC
          rintro e w5 ⟨rfl, hk5, n5, D5, hn5, hm5⟩
          have hs5 := hk5.size
          have HM5 := Lib.hid hm5
          have HB5 : Hid (Below w.heap.size w w5) := hbr.out.grown hk5.grown (by omega) (fun j e => by simp only [Option.some.injEq] at e; omega)
          have HO5 : Hid (w5.ownsRow w2.heap.size 3 1 _ (accK y t k).length ((accK y t k).map (Value.int .i64))) := own_same hown.out fun g hg hlt => hk5.block hlt (by omega)
          clear hk5 hm5 hown
          go_wp2
          go_roundw
          case rel => exact ⟨k + 1, n5, D5, by omega, by go_num, by rw [Nat.succ_mul]; omega, HM5.out, HB5.out, by omega, ownsRow_cast HO5.out (by rw [HH.out]) (by rw [HH.out])⟩
          case measure => simp [intOf]; omega
      · obtain rfl : k = y.ty.sizes.length := by omega
        have HO := Lib.hid hown.out
        clear hown
        go_wp2
        try rw [Exit.noGoto_ret]
        refine bodyPost_ret (v := u8) (by simp [results, Tryz.results26, go_sem]) rfl ?_
        exact ⟨_, rfl, hbr.out, by rw [HKD.out]; exact ownsRow_base HO.out (by omega)⟩
  · have HB2 := Lib.hid (HB1.out.trans (hb2.mono (Nat.le_of_lt Hs1.out)))
    have HKD := Lib.hid (kdL_no hno)
    clear hb2 HT hno
    go_wp2
    try rw [Exit.noGoto_ret]
    refine bodyPost_ret (v := .slice none 0 0) (by simp [results, Tryz.results26, go_sem]) rfl ?_
    exact ⟨_, rfl, HB2.out, by rw [HKD.out]; exact World.ownsRow_nil _ _ _ _⟩
end Go.Proofs.YtnmbjmocnafekaaGreatDoor

namespace Go.Proofs.YtnmbjmocnafekaaGreatDoor
open Go.RowKit

theorem kdL_mem (y : Sy) (L : List UInt8) : ∀ z ∈ kdL y L, 0 ≤ z ∧ z < 5 ∧ tyOk y.ty = true ∧ z < y.ty.sizes.length := by
  intro z hz
  unfold kdL at hz
  by_cases hs : syB y = true
  · rw [if_pos hs] at hz
    have hy := syB_iff.1 hs
    have h5 := (sizesOk_of (tyOk_sizes hy.ty)).2.1
    split at hz
    · unfold accK at hz
      obtain ⟨h1, _⟩ := List.mem_filter.1 hz
      obtain ⟨i, hi, rfl⟩ := List.mem_map.1 h1
      have := List.mem_range.1 hi
      exact ⟨by omega, by omega, hy.ty, by omega⟩
    · cases hz
  · rw [if_neg hs] at hz
    cases hz
theorem kdL_wf (y : Sy) (L : List UInt8) : ∀ z ∈ kdL y L, I64 z := fun z hz => by
  obtain ⟨h1, h2, _, _⟩ := kdL_mem y L z hz
  unfold I64
  omega
theorem kdL_few (y : Sy) (L : List UInt8) : (kdL y L).length ≤ 5 := by
  unfold kdL
  by_cases hs : syB y = true
  · rw [if_pos hs]
    have h5 := (sizesOk_of (tyOk_sizes (syB_iff.1 hs).ty)).2.1
    split
    · exact Nat.le_trans (accK_le _ _ _) h5
    · exact Nat.zero_le _
  · rw [if_neg hs]
    exact Nat.zero_le _
theorem kdL_short (y : Sy) (L : List UInt8) : (kdL y L).length ≤ 1048576 := Nat.le_trans (kdL_few y L) (by decide)

set_option maxRecDepth 100000 in
set_option maxHeartbeats 1000000 in
theorem specKinds_any (lo hi : Nat) (sv cv fv : Value) (y : Sy) (hbk : y.bulk ≤ 1048576) (L : List UInt8) (w : World) (hv : SyAt w lo hi sv cv fv y) (hB : hi ≤ w.heap.size) (hm : L.length ≤ 1048576) :
    Calls Tryz.prog 25 #[.agg #[sv, cv, fv], .string (str L)] w fun e w' => ∃ v, e = .returned v ∧ Below w.heap.size w w' ∧ w'.ownsRow w.heap.size 3 1 v (kdL y L).length ((kdL y L).map (Value.int .i64)) := by
  obtain ⟨A1, cap1, rfl, _, _, _⟩ := hv.1.1.form
  obtain ⟨A2, cap2, rfl, _, _, _⟩ := hv.1.2.form
  obtain ⟨A3, cap3, rfl, _, _, _⟩ := hv.2.form
  obtain ⟨i0, hi0, hz0, hz1, hz2⟩ := info_parts Tryz.infoInt
  obtain ⟨W1, hW1⟩ : ∃ u, u = w.alloc (.cells #[.slice A1 y.ty.sizes.length cap1, .slice A2 y.ty.cos.length cap2, .slice A3 y.fs.length cap3] 36) := ⟨_, rfl⟩
  have h1s : W1.heap.size = w.heap.size + 1 := by rw [hW1]; simp
  have HB1 : Hid (Below w.heap.size w W1) := by show Below _ _ _; rw [hW1]; exact (Below.refl _ _).alloc (Nat.le_refl _) _
  have p1 : Row W1 w.heap.size 36 [.slice A1 y.ty.sizes.length cap1, .slice A2 y.ty.cos.length cap2, .slice A3 y.fs.length cap3] := by rw [hW1]; exact Row.new _ _ _
  obtain ⟨W2, hW2⟩ : ∃ u, u = W1.alloc (.cells #[] 3) := ⟨_, rfl⟩
  have h2s : W2.heap.size = w.heap.size + 2 := by rw [hW2]; simp [h1s]
  have hb12 : Below W1.heap.size W1 W2 := by rw [hW2]; exact (Below.refl _ _).alloc (Nat.le_refl _) _
  have HX2 : Hid (Below (w.heap.size + 1) W1 W2) := hb12.mono (by omega)
  have HP2 : Hid (Row W2 w.heap.size 36 [.slice A1 y.ty.sizes.length cap1, .slice A2 y.ty.cos.length cap2, .slice A3 y.fs.length cap3]) := p1.below hb12 (by omega)
  have HO2 : Hid (W2.ownsRow (w.heap.size + 1) 3 1 (.slice (some ⟨w.heap.size + 1, 0, none⟩) 0 0) 0 []) := by
    show World.ownsRow _ _ _ _ _ _ _
    rw [hW2, ← h1s]
    exact World.ownsRow_lit W1 #[] 0 (Nat.le_refl _) (by unfold maxLen; omega) rfl
  have HA := Lib.hid (l7Asked_any lo hi _ _ _ y L W2 (hv.below (HB1.out.trans (HX2.out.mono (by omega))) hB) (by omega) hm)
  have HV := Lib.hid hv
  have p0 := HP2.out.cell 0
  have p2 := HP2.out.cell 1
  have p3 := HP2.out.cell 2
  simp only [List.getElem?_cons_zero, List.getElem?_cons_succ] at p0 p2 p3
  rw [hW1] at hW2
  rw [hW2] at p0 p2 p3
  clear hv hb12 p1 hW1
  go_enter Tryz.func25, Tryz.ntmps25
  go_wp2_with fail
  rw [← hW2]
  refine HA.out.mono ?_
  clear hW2 p0 p2 p3 HA
  rintro e w3 ⟨rfl, hb3⟩
  have hs3 := hb3.size
  have HX3 : Hid (Below (w.heap.size + 1) W1 w3) := HX2.out.trans (hb3.mono (by omega))
  have HP3 : Hid (Row w3 w.heap.size 36 [.slice A1 y.ty.sizes.length cap1, .slice A2 y.ty.cos.length cap2, .slice A3 y.fs.length cap3]) := HP2.out.below hb3 (by omega)
  have HO3 : Hid (w3.ownsRow (w.heap.size + 1) 3 1 (.slice (some ⟨w.heap.size + 1, 0, none⟩) 0 0) 0 []) := ownsRow_below HO2.out hb3 (Nat.le_refl _)
  have HB3 : Hid (Below w.heap.size w w3) := HB1.out.trans (HX3.out.mono (by omega))
  clear hb3 HX2 HP2 HO2
  cases hb : (syB y && (parseT L).isSome) with
  | false =>
    have HKD : Hid (kdL y L = []) := by
      refine kdL_no ?_
      rw [Bool.and_eq_false_iff] at hb
      rcases hb with h | h
      · exact .inr h
      · left
        cases hp : parseT L with
        | none => rfl
        | some t => rw [hp] at h; cases h
    clear hb
    go_wp2
    try rw [Exit.noGoto_ret]
    refine bodyPost_ret (v := .slice (some ⟨w.heap.size + 1, 0, none⟩) 0 0) (by simp [results, Tryz.results25, go_sem]) rfl ?_
    exact ⟨_, rfl, HB3.out, by rw [HKD.out]; exact ownsRow_base HO3.out (by omega)⟩
  | true =>
    rw [Bool.and_eq_true] at hb
    obtain ⟨hsy, hps⟩ := hb
    obtain ⟨t, hp⟩ := Option.isSome_iff_exists.1 hps
    have hyok := syB_iff.1 hsy
    obtain ⟨hok, hLt, h60⟩ := parseT_tmT.1 hp
    have HKD := Lib.hid (kdL_yes hp hsy)
    have hsz := sizesOk_of (tyOk_sizes hyok.ty)
    have hn5 := hsz.2.1
    have hn1 := hsz.1
    have HC := Lib.hid (l9Counts_any lo hi _ _ _ y hyok hbk (tmT t).length t w3 (Nat.le_refl _) (by rw [← hLt]; exact h60) hok (HV.out.below HB3.out hB) (by have := HB3.out.size; omega))
    rw [← hLt] at HC
    have p0 := HP3.out.cell 0
    have p2 := HP3.out.cell 1
    have p3 := HP3.out.cell 2
    simp only [List.getElem?_cons_zero, List.getElem?_cons_succ] at p0 p2 p3
    clear hsz hp hps hsy hok hLt h60
    go_wp2_with fail
    refine HC.out.mono ?_
    clear HC p0 p2 p3
    rintro e w4 ⟨r, rfl, hb4, hr⟩
    have hs4 := hb4.size
    obtain ⟨RA, RC, rfl, _, _, hr⟩ := hr.form
    rw [rowT_len] at hr ⊢
    obtain ⟨rb, ro, rfl, hrb1, hrb2, _, _⟩ := hr.at_ (k := 0) (by rw [rowT_len]; omega)
    have HCELL : Hid (∀ k : Nat, k < y.ty.sizes.length → w4.cell? ⟨rb, ro + k, none⟩ = some (.int .i64 ((cntT y t (k : Int) : Nat) : Int))) := fun k hk => by
      obtain ⟨b, o, e, _, _, hc, _⟩ := hr.at_ (k := k) (by rw [rowT_len]; exact hk)
      injection e with e
      injection e with e1 e2
      subst e1
      subst e2
      have h := rowT_at y t hk
      rw [getD_of (by rw [rowT_len]; exact hk)] at h
      rw [hc, h]
    have HX4 : Hid (Below (w.heap.size + 1) W1 w4) := HX3.out.trans (hb4.mono (by omega))
    have HO4 : Hid (w4.ownsRow (w.heap.size + 1) 3 1 (.slice (some ⟨w.heap.size + 1, 0, none⟩) 0 0) 0 []) := ownsRow_below HO3.out hb4 (Nat.le_refl _)
    clear hr hb4 HO3 HX3 HP3
    go_wp2_with fail
    go_loopw [5, 18] (fun l ix wr => ∃ (k : Nat), k ≤ y.ty.sizes.length ∧ ix = .int .i64 k ∧ w4.heap.size ≤ wr.heap.size ∧ Hid (Below (w.heap.size + 1) W1 wr) ∧ Hid (∀ g, w.heap.size + 2 ≤ g → g < w4.heap.size → wr.heap[g]? = w4.heap[g]?) ∧ Hid (wr.ownsRow (w.heap.size + 1) 3 1 l (accK y t k).length ((accK y t k).map (Value.int .i64))) ∧ Hid (AtB (w.heap.size + 1) w4.heap.size l)) (fun _ ix _ => y.ty.sizes.length - (intOf ix).toNat)
    case atStart =>
      refine ⟨0, Nat.zero_le _, rfl, Nat.le_refl _, HX4.out, fun _ _ _ => rfl, HO4.out, ?_⟩
      intro g hg
      simp only [Value.ownBlock, Option.some.injEq] at hg
      exact .inl hg.symm
    case round =>
      obtain ⟨k, hk, rfl, hsr, hxr, hmid, hor, hap⟩ := hrel
      by_cases hkl : k < y.ty.sizes.length
      · have hck : wr.cell? ⟨rb, ro + k, none⟩ = some (.int .i64 ((cntT y t (k : Int) : Nat) : Int)) := (World.cell?_of_block (w := w4) (hmid.out rb (by omega) hrb2)).trans (HCELL.out k hkl)
        have hle := accK_le y t k
        have hklI : (k : Int) < (y.ty.sizes.length : Int) := by omega
        obtain ⟨CK, hCK⟩ : ∃ c, c = cntT y t ((k : Nat) : Int) := ⟨_, rfl⟩
        rw [← hCK] at hck
        by_cases hc : 0 < CK
        · have HH : Hid (accK y t (k + 1) = accK y t k ++ [((k : Nat) : Int)]) := accK_hit (by rw [← hCK]; exact hc)
          clear hCK
          have hcI : (0 : Int) < (CK : Int) := by omega
          go_wp2_with (at_builtin; refine wpList_push rfl (.tmp 25) (.tmp 27) 22 rfl i0 (.int .i64 0) 8 Tryz.underlying22 hi0 hz0 hz1 hz2 rfl rfl (hor.out.alloc _) ⟨wr.heap.size, 0, none⟩ 1 (.int .i64 k) rfl (by simp [go_sem]) rfl (by unfold maxLen; omega) (by omega) (by simp; omega) ?_)
          intro p6 w6 hpu
          have hs6 : wr.heap.size + 1 ≤ w6.heap.size := by have := hpu.grown.size; simpa using this
          have hal : Below wr.heap.size wr (wr.alloc (.cells #[.int .i64 k] 3)) := (Below.refl _ _).alloc (Nat.le_refl _) _
          have HX6 : Hid (Below (w.heap.size + 1) W1 w6) := hpu.below (hor.out.alloc _) (hxr.out.trans (hal.mono (by omega))) (by simp; omega)
          have HA6 : Hid (AtB (w.heap.size + 1) w4.heap.size p6) := hap.out.push hpu (by simp; omega)
          have HM6 : Hid (∀ g, w.heap.size + 2 ≤ g → g < w4.heap.size → w6.heap[g]? = w4.heap[g]?) := hpu.mid (a := w.heap.size + 2) (fun g h1 h2 => (hal.block g (by omega)).trans (hmid.out g h1 h2)) (by simp; omega) hap.out (by omega)
          have HO6 : Hid (w6.ownsRow (w.heap.size + 1) 3 1 p6 (accK y t (k + 1)).length ((accK y t (k + 1)).map (Value.int .i64))) := ownsRow_cast hpu.own (by rw [HH.out]; simp) (by rw [HH.out]; simp)
          clear hpu hal hck hor
          go_wp2
          go_roundw
          case rel => exact ⟨k + 1, by omega, by go_num, by omega, HX6.out, HM6.out, HO6.out, HA6.out⟩
          case measure => simp [intOf]; omega
        · have HH : Hid (accK y t (k + 1) = accK y t k) := accK_miss (by rw [← hCK]; exact hc)
          clear hCK
          have hcI : ¬ (0 : Int) < (CK : Int) := by omega
          go_wp2
          go_roundw
          case rel => exact ⟨k + 1, by omega, by go_num, hsr, hxr.out, hmid.out, ownsRow_cast hor.out (by rw [HH.out]) (by rw [HH.out]), hap.out⟩
          case measure => simp [intOf]; omega
      · obtain rfl : k = y.ty.sizes.length := by omega
        go_wp2
        try rw [Exit.noGoto_ret]
        refine bodyPost_ret (v := u5) (by simp [results, Tryz.results25, go_sem]) rfl ?_
        exact ⟨_, rfl, HB1.out.trans (hxr.out.mono (by omega)), by rw [HKD.out]; exact ownsRow_base hor.out (by omega)⟩
end Go.Proofs.YtnmbjmocnafekaaGreatDoor

namespace Go.Proofs.YtnmbjmocnafekaaGreatDoor
open Go.ChangeShapes Go.WideShapes Go.ChangeAt Go.RowKit Go.Joins Go.Deep

theorem Tryz.own : ownKnob Tryz.prog.godebug = none := by kernel_rfl
theorem Tryz.laidOut : laidOutB Tryz.prog = true := by kernel_rfl
theorem Tryz.cellsInt : Tryz.prog.cellsOf 3 = 1 := by kernel_rfl
theorem Tryz.cellsTypes : Tryz.prog.cellsOf 25 = 2 := by kernel_rfl
theorem Tryz.cellsCo : Tryz.prog.cellsOf 184 = 3 := by kernel_rfl

theorem wf_I64 {z : Int} (h : (Lit.int .i64 z).wf = true) : I64 z := by
  simpa [Lit.wf, IntKind.min, IntKind.max, IntKind.signed, IntKind.bits, I64] using h

section
variable {H : Type} {enc : TypeId × Value → H} {W : World} {base : Nat} {held : Bool}

/-- A slice of ints that comes in. -/
theorem open_intsAt {fuel : Nat} {v : Value} {x : DataW H × List MemPlace} (h : DataW.trod enc Tryz.prog W base (fun _ => true) held fuel 22 [v] = some x) : ∃ zs, IntsAt W 0 W.heap.size v zs := by
  rcases open_ints Tryz.underlying22 Tryz.underlying3 Tryz.cellsInt h with ⟨hcs, _⟩ | ⟨a, len, cap, zs, hcs, _, hl, hm, hz, _, hcell, hwz⟩
  · simp only [List.cons.injEq, and_true] at hcs
    subst hcs
    exact ⟨[], _, _, rfl, Nat.le_refl _, Nat.zero_le _, fun z hz => absurd hz (by simp), fun h => absurd h (by simp)⟩
  · simp only [List.cons.injEq, and_true] at hcs
    subst hcs
    simp only [if_true] at hz
    have e : (zs.take len).length = len := by rw [List.length_take]; omega
    refine ⟨zs.take len, some a, cap, by rw [e], by rw [e]; exact hl, hm, fun z hzm => wf_I64 (hwz z (List.mem_of_mem_take hzm)), fun h0 => ?_⟩
    rw [e] at h0
    obtain ⟨b, off, spot⟩ := a
    have hspot : spot = none := by simpa [Addr.add] using World.cell?_spot (hcell 0 (by omega))
    subst hspot
    refine ⟨b, off, rfl, Nat.zero_le _, World.block_lt_of_cell? W _ (hcell 0 (by omega)), fun k hk => ?_⟩
    rw [e] at hk
    rw [← add_plain, hcell k (by omega), List.getD_eq_getElem?_getD, List.getD_eq_getElem?_getD, List.getElem?_take_of_lt hk]

theorem three_fields {P : Program} {spare : Nat → Bool} {t : TypeId} {f0 f1 f2 : Field} {n : Nat} {x y z : Value} {r : DataW H × List MemPlace} (hs : P.underlying t = some (.struct #[f0, f1, f2])) (hone : oneCellFields P #[f0, f1, f2] = true)
    (h : DataW.trod enc P W base spare held n t [x, y, z] = some r) :
    ∃ (y0 y1 y2 : DataW H × List MemPlace) (m : Nat), DataW.trod enc P W base spare held m f0.type [x] = some y0 ∧ DataW.trod enc P W base spare held m f1.type [y] = some y1 ∧ DataW.trod enc P W base spare held m f2.type [z] = some y2 := by
  obtain ⟨ys, m, _, _, _, hyl, hf⟩ := DataW.trod_struct hs h
  obtain ⟨o0, k0⟩ := hone_of hone 0 f0 rfl
  obtain ⟨o1, k1⟩ := hone_of hone 1 f1 rfl
  obtain ⟨o2, k2⟩ := hone_of hone 2 f2 rfl
  match ys, hyl with
  | [y0, y1, y2], _ =>
    exact ⟨y0, y1, y2, m, by simpa [o0, k0] using hf 0 f0 rfl, by simpa [o1, k1] using hf 1 f1 rfl, by simpa [o2, k2] using hf 2 f2 rfl⟩

/-- A coercion's three cells. -/
theorem open_coAt {n : Nat} {x y z : Value} {r : DataW H × List MemPlace} (h : DataW.trod enc Tryz.prog W base (fun _ => true) held n 184 [x, y, z] = some r) : ∃ c, CoAt W 0 W.heap.size x y z c := by
  obtain ⟨y0, y1, y2, m, e0, e1, e2⟩ := three_fields Tryz.underlying184 (by kernel_rfl) h
  obtain ⟨a, ea, _, wa⟩ := DataW.trod_int Tryz.underlying3 e0
  obtain ⟨b, eb, _, wb⟩ := DataW.trod_int Tryz.underlying3 e1
  obtain ⟨zs, hz⟩ := open_intsAt e2
  simp only [List.cons.injEq, and_true] at ea eb
  exact ⟨⟨a, b, zs⟩, ea, eb, wf_I64 wa, wf_I64 wb, hz⟩

theorem open_cosAt {fuel : Nat} {v : Value} {x : DataW H × List MemPlace} (h : DataW.trod enc Tryz.prog W base (fun _ => true) held fuel 23 [v] = some x) : ∃ cs, CosAt W 0 W.heap.size v cs := by
  rcases open_slice Tryz.underlying23 h with ⟨hcs, _⟩ | ⟨a, len, cap, m, n, D, Pl, hcs, hb, hl, hm, hmm, hx, hi⟩
  · simp only [List.cons.injEq, and_true] at hcs
    subst hcs
    exact ⟨[], _, _, rfl, Nat.le_refl _, Nat.zero_le _, fun h => absurd h (by simp)⟩
  · simp only [List.cons.injEq, and_true] at hcs
    subst hcs
    simp only [if_true] at hmm
    have key : ∀ i, i < len → ∃ c : Co, ∃ x y z, W.cell? (a.add (i * 3)) = some x ∧ W.cell? ((a.add (i * 3)).add 1) = some y ∧ W.cell? ((a.add (i * 3)).add 2) = some z ∧ CoAt W 0 W.heap.size x y z c := by
      intro i hil
      obtain ⟨cs', hc, ht⟩ := hi i (by omega)
      rw [Tryz.cellsCo] at hc
      obtain ⟨_, hcl, hat⟩ := World.cells?_some hc
      match cs', hcl with
      | [x, y, z], _ =>
        obtain ⟨c, hco⟩ := open_coAt ht
        exact ⟨c, x, y, z, by simpa [Addr.add] using hat 0 (by omega), hat 1 (by omega), hat 2 (by omega), hco⟩
    obtain ⟨f, hfx⟩ := choose_lt key
    have e : ((List.range len).map f).length = len := by simp
    refine ⟨(List.range len).map f, some a, cap, by rw [e], by rw [e]; exact hl, hm, fun h0 => ?_⟩
    rw [e] at h0
    obtain ⟨b, off, spot⟩ := a
    obtain ⟨x0, _, _, h00, _⟩ := hfx 0 h0
    have hspot : spot = none := by simpa [Addr.add] using World.cell?_spot h00
    subst hspot
    refine ⟨b, off, rfl, Nat.zero_le _, ?_, fun k hk => ?_⟩
    · have := World.block_lt_of_cell? W _ h00
      simpa [Addr.add] using this
    · rw [e] at hk
      obtain ⟨x, y, z, c0, c1, c2, hco⟩ := hfx k hk
      rw [add_plain] at c0 c1 c2
      rw [add_plain] at c1 c2
      refine ⟨x, y, z, c0, c1, c2, ?_⟩
      rw [List.getD_eq_getElem?_getD, List.getElem?_eq_getElem (by rw [e]; exact hk)]
      simpa using hco

set_option maxRecDepth 100000 in
/-- Types that come in by value. -/
theorem open_tyAt {r : Reach} {b0 : Nat} {v : Value} {d : DataW H} {p : List MemPlace} (hv : Value.okWide Tryz.prog W r b0 25 v) (h : DataW.Trod enc Tryz.prog W base (fun _ => true) held 25 v d p) :
    ∃ sv cv t, v = .agg #[sv, cv] ∧ TyAt W 0 W.heap.size sv cv t := by
  obtain ⟨c0, c1, y0, y1, m, rfl, _, _, hy0, hy1⟩ := open_agg2 Tryz.underlying25 (by kernel_rfl) Tryz.cellsTypes hv h
  obtain ⟨zs, hz⟩ := open_intsAt hy0
  obtain ⟨cs, hc⟩ := open_cosAt hy1
  exact ⟨c0, c1, ⟨zs, cs⟩, rfl, hz, hc⟩

set_option maxRecDepth 100000 in
/-- A coercion that comes in by value. -/
theorem open_coVal {r : Reach} {b0 : Nat} {v : Value} {d : DataW H} {p : List MemPlace} (hv : Value.okWide Tryz.prog W r b0 184 v) (h : DataW.Trod enc Tryz.prog W base (fun _ => true) held 184 v d p) :
    ∃ x y z c, v = .agg #[x, y, z] ∧ CoAt W 0 W.heap.size x y z c := by
  obtain ⟨cs, rfl, hsz⟩ := okWide_struct Tryz.underlying184 hv
  obtain ⟨l⟩ := cs
  match l, hsz.trans Tryz.cellsCo with
  | [x, y, z], _ =>
    obtain ⟨fuel, hf⟩ := h
    obtain ⟨c, hc⟩ := open_coAt (by simpa [Value.cells] using hf)
    exact ⟨x, y, z, c, rfl, hc⟩
end
end Go.Proofs.YtnmbjmocnafekaaGreatDoor

