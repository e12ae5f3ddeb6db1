/-
  The program's maker in memory; the contract of its callCount, where that of count is given for the arguments.
  The contract of the model's l9Product.
  A text cut at every sign: as data; the contract of the model's l13Cut.
  The contracts of the model's l6End and TermValid.
-/
import Derived.Test.YtnmbjmocnafekaaGreatDoorE17
import Derived.Test.YtnmbjmocnafekaaGreatDoorE19
import Derived.Test.YtnmbjmocnafekaaGreatDoorE14
import Derived.Maps.OwnSet
import Derived.Test.YtnmbjmocnafekaaGreatDoorE10
import Derived.Lib.MinMax
import Derived.Test.YtnmbjmocnafekaaGreatDoorE4
import Derived.Test.YtnmbjmocnafekaaGreatDoorE16
namespace Go.Proofs.YtnmbjmocnafekaaGreatDoor
open Go.RowKit Go.Maps

/-- What a map of counts holds: if it has a term with a type, then how many. -/
def Memo (y : Sy) (D : DataW Unit) : Prop := ∀ t z, TmOk t → (tmT t).length ≤ 60 → I64 z → Maps.has D (goalK (str (tmT t)) z) = true → D.atKey (goalK (str (tmT t)) z) (.lit (.int .i64 0)) = .lit (.int .i64 (cntT y t z : Nat))
/-- The maker in block bm, its finder in bf, its map in bc; all that is older than w0 is as it was. -/
structure MkS (w0 : World) (bm bf bc : Nat) (sv cv fv : Value) (y : Sy) (w : World) (n : Nat) (D : DataW Unit) : Prop where
  old : Below w0.heap.size w0 w
  row : Row w bm 99 [sv, cv, fv, .pointer (some ⟨bf, 0, none⟩), .map (some bc)]
  fin : Row w bf 159 [sv, cv]
  own : w.ownsMap Tryz.prog 161 (plainElem Tryz.prog 3) bc n D
  memo : Memo y D
  lm : w0.heap.size ≤ bm
  lf : w0.heap.size ≤ bf
  lc : w0.heap.size ≤ bc
  nm : bc ≠ bm
  nf : bc ≠ bf
section
variable {w0 w w' : World} {bm bf bc n : Nat} {sv cv fv : Value} {y : Sy} {D : DataW Unit}
theorem MkS.under (h : MkS w0 bm bf bc sv cv fv y w n D) (hb : Below w.heap.size w w') : MkS w0 bm bf bc sv cv fv y w' n D :=
  ⟨h.old.trans (hb.mono h.old.size), h.row.below hb h.row.lt, h.fin.below hb h.fin.lt, h.own.kept (row := none) ⟨hb.os, hb.tape, hb.output, hb.size, fun k hk _ => hb.block k hk⟩ (by simp), h.memo, h.lm, h.lf, h.lc, h.nm, h.nf⟩
end
/-- What count comes to. -/
def CntPost (w0 : World) (bm bf bc : Nat) (sv cv fv : Value) (y : Sy) (w : World) (n g c : Nat) (e : Ending) (w' : World) : Prop :=
  e = .returned (.int .i64 (c : Nat)) ∧ Keep bc w w' ∧ ∃ n' D', n' ≤ n + g ∧ MkS w0 bm bf bc sv cv fv y w' n' D'
/-- How much a map grows at most while the parts of a term are counted. -/
def grow (ts : List Tm) : Nat := (ts.map fun p => 2 ^ (tmT p).length - 1).sum
theorem grow_take {ts : List Tm} {k : Nat} (h : k < ts.length) : grow (ts.take (k + 1)) = grow (ts.take k) + (2 ^ (tmT ts[k]).length - 1) := by
  unfold grow
  rw [List.take_succ_eq_append_getElem h, List.map_append, List.sum_append]
  simp
theorem sumTake_le : ∀ (l : List Nat) (k : Nat), (l.take k).sum ≤ l.sum
  | [], k => by simp
  | a :: l, 0 => by simp
  | a :: l, k + 1 => by have := sumTake_le l k; simp; omega
theorem prod_le (y : Sy) (args : List Int) : ∀ (cs : List Tm) (k : Nat), cs.length ≤ 2 → prodN args (cs.map (cntT y)) k ≤ 22801 := by
  intro cs k h2
  match cs, h2 with
  | [], _ => simp [prodN]
  | [p], _ =>
    have h1 := cntT_le y p (args.getD k 0)
    simp only [List.map_cons, List.map_nil, prodN, Nat.mul_one]
    omega
  | [p, q], _ =>
    have h1 := cntT_le y p (args.getD k 0)
    have h3 := cntT_le y q (args.getD (k + 1) 0)
    simp only [List.map_cons, List.map_nil, prodN, Nat.mul_one]
    have h4 := Nat.mul_le_mul h1 h3
    omega
theorem prod_take (y : Sy) (args : List Int) : ∀ (ts : List Tm) (j k : Nat) (h : k < ts.length), prodN args ((ts.take (k + 1)).map (cntT y)) j = prodN args ((ts.take k).map (cntT y)) j * cntT y ts[k] (args.getD (j + k) 0)
  | [], _, _, h => absurd h (by simp)
  | t :: ts, j, 0, _ => by simp [prodN]
  | t :: ts, j, k + 1, h => by
    have := prod_take y args ts (j + 1) k (by simpa using h)
    simp only [List.take_succ_cons, List.map_cons, prodN, List.getElem_cons_succ]
    rw [this, Nat.mul_assoc, show j + 1 + k = j + (k + 1) by omega]

set_option maxRecDepth 100000 in
set_option maxHeartbeats 1000000 in
theorem callCount_any (lo hi B : Nat) (w0 : World) (bm bf bc : Nat) (sv cv fv : Value) (y : Sy) (hy : SyOk y) (ts : List Tm) (h2 : ts.length ≤ 2) (a : UInt8) (ps : Value) (vs : List Value) (i : Nat) (hi' : i < y.fs.length) (hal : y.fs[i].args.length = ts.length) (z : Int) (hz : 0 ≤ z ∧ z < y.ty.sizes.length) (w : World) (n : Nat) (D : DataW Unit)
    (hv : SyAt w0 lo hi sv cv fv y) (hB : hi ≤ w0.heap.size) (hown : w0.ownsRow B 93 1 ps ts.length vs) (hvl : vs.length = ts.length) (hM : MkS w0 bm bf bc sv cv fv y w n D) (hgr : n + grow ts ≤ 9223372036854775807)
    (IH0 : ∀ k, ∀ (hk : k < ts.length) v, vs[k]? = some v → ∀ (z' : Int) (u : World) (n' : Nat) (D' : DataW Unit), 0 ≤ z' ∧ z' < y.ty.sizes.length → MkS w0 bm bf bc sv cv fv y u n' D' → n' + (2 ^ (tmT ts[k]).length - 1) ≤ 9223372036854775807 → Calls Tryz.prog 56 #[.pointer (some ⟨bm, 0, none⟩), v, .int .i64 z'] u fun e w' => CntPost w0 bm bf bc sv cv fv y u n' (2 ^ (tmT ts[k]).length - 1) (cntT y ts[k] z') e w') :
    Calls Tryz.prog 100 #[.pointer (some ⟨bm, 0, none⟩), .agg #[.string (str [a]), ps], .int .i64 (i : Nat), .int .i64 z] w fun e w' => CntPost w0 bm bf bc sv cv fv y w n (grow ts) (fnN y (ts.map (cntT y)) z (i : Nat)) e w' := by
  obtain ⟨A1, cap1, rfl, _, _, _⟩ := hv.1.1.form
  obtain ⟨A2, cap2, rfl, _, _, _⟩ := hv.1.2.form
  obtain ⟨A3, cap3, rfl, _, hm3, _⟩ := hv.2.form
  obtain ⟨PA, PC, rfl⟩ := own_slice' hown
  obtain ⟨fb, foff, B1, cb1, B2, cb2, rfl, hfb1, hfb2, k0, k1, k2, k3, _, _, _, _, hfa⟩ := hv.2.at_ hi'
  have hf := hy.each i hi'
  obtain ⟨hz0, hz1⟩ := hz
  have htb : typesB y.ty y.fs[i].res z = true := by
    unfold typesB
    rw [hy.ty, show ixB y.fs[i].res y.ty.sizes.length = true by unfold ixB; exact decide_eq_true hf.res, show ixB z y.ty.sizes.length = true by unfold ixB; exact decide_eq_true ⟨hz0, hz1⟩]
    rfl
  have hwl : (waysOf y.ty y.fs[i].res z).length ≤ 32768 := waysOf_len hy.ty _ _
  have hblk : ∀ u : World, Below w.heap.size w u → ∀ b, b < w0.heap.size → u.heap[b]? = w0.heap[b]? := fun u hu b hb => (hu.block b (Nat.lt_of_lt_of_le hb hM.old.size)).trans (hM.old.block b hb)
  obtain ⟨wb, hwb⟩ : ∃ u, u = w.alloc (.cells #[.string (str [a]), .slice PA ts.length PC] 167) := ⟨_, rfl⟩
  have hbb : Below w.heap.size w wb := by rw [hwb]; exact (Below.refl _ _).alloc (Nat.le_refl _) _
  have hwbs : wb.heap.size = w.heap.size + 1 := by rw [hwb]; simp
  obtain ⟨W1, hW1⟩ : ∃ u, u = wb.alloc (.cells #[.string y.fs[i].name, .slice B1 y.fs[i].args.length cb1, .int .i64 y.fs[i].res, .slice B2 y.fs[i].table.length cb2] 111) := ⟨_, rfl⟩
  have HB1 : Hid (Below w.heap.size w W1) := by show Below _ _ _; rw [hW1]; exact hbb.alloc (by omega) _
  have hW1s : W1.heap.size = w.heap.size + 2 := by rw [hW1]; simp [hwbs]
  have HR0 : Hid (Row W1 w.heap.size 167 [.string (str [a]), .slice PA ts.length PC]) := by show Row _ _ _ _; rw [hW1, hwb]; exact (Row.new _ _ _).alloc _
  have HR1 : Hid (Row W1 (w.heap.size + 1) 111 [.string y.fs[i].name, .slice B1 y.fs[i].args.length cb1, .int .i64 y.fs[i].res, .slice B2 y.fs[i].table.length cb2]) := by
    show Row _ _ _ _
    rw [hW1, ← hwbs]
    exact Row.new _ _ _
  have HM1 := Lib.hid (hM.under HB1.out)
  have hrb := hM.row.below hbb hM.row.lt
  have c2 := hrb.cell 2
  simp only [List.getElem?_cons_zero, List.getElem?_cons_succ] at c2
  have l0 := (World.cell?_of_block (w := w0) (a := ⟨fb, foff + i * 4, none⟩) (hblk wb hbb fb (by omega))).trans k0
  have l1 := (World.cell?_of_block (w := w0) (a := ⟨fb, foff + i * 4 + 1, none⟩) (hblk wb hbb fb (by omega))).trans k1
  have l2 := (World.cell?_of_block (w := w0) (a := ⟨fb, foff + i * 4 + 2, none⟩) (hblk wb hbb fb (by omega))).trans k2
  have l3 := (World.cell?_of_block (w := w0) (a := ⟨fb, foff + i * 4 + 3, none⟩) (hblk wb hbb fb (by omega))).trans k3
  have HWC := Lib.hid (wayCount_any lo hi bf bm _ _ _ _ y.ty y.fs[i].res z W1 (hv.1.keep fun b _ hb => hblk W1 HB1.out b (by omega)) (by have := hM.old.size; omega) HM1.out.fin HM1.out.row htb)
  have hilt : (i : Int) < (y.fs.length : Int) := by omega
  have m1 := HR0.out.cell 1
  have n2 := HR1.out.cell 2
  simp only [List.getElem?_cons_zero, List.getElem?_cons_succ] at m1 n2
  have hbcl := hM.own.lt
  have HM := Lib.hid hM
  have HV := Lib.hid hv
  have HOWN := Lib.hid hown
  have IH := Lib.hid IH0
  have HBLK := Lib.hid hblk
  have HAL := Lib.hid hal
  have HF := Lib.hid hf
  have HFN : Hid (fnN y (ts.map (cntT y)) z ((i : Nat) : Int) = (waysOf y.ty y.fs[i].res z).length * prodN y.fs[i].args (ts.map (cntT y)) 0) := by
    show _ = _
    unfold fnN wayN argsOf
    simp [hi']
  rw [hwb] at c2 l0 l1 l2 l3
  rw [hW1, hwb] at m1 n2
  clear hv hM hown IH0 hblk hrb hf hal hbb htb
  go_enter Tryz.func100, Tryz.ntmps100
  go_wp2_with fail
  rw [← hwb, ← hW1]
  clear hwb hW1 c2 l0 l1 l2 l3 m1 n2
  refine HWC.out.mono ?_
  clear HWC
  rintro e w2 ⟨rfl, hb2⟩
  have hs2 := hb2.size
  have HM2 := Lib.hid (HM1.out.under hb2)
  have HK2 : Hid (Keep bc w w2) := ((Keep.refl bc w).of_below HB1.out).of_below (hb2.mono (Nat.le_refl _))
  have hr0 := HR0.out.below hb2 (by omega)
  have hr1 := HR1.out.below hb2 (by omega)
  have HR0' := Lib.hid hr0
  have HR1' := Lib.hid hr1
  have m1 := hr0.cell 1
  simp only [List.getElem?_cons_zero, List.getElem?_cons_succ] at m1
  obtain ⟨WN, hWN⟩ : ∃ n, n = (waysOf y.ty y.fs[i].res z).length := ⟨_, rfl⟩
  rw [← hWN] at HFN hwl ⊢
  clear hb2 hr0 hr1 hWN HR0 HR1 HM1 HB1
  go_wp2_with fail
  clear m1
  go_loopw [10, 29] (fun c ix wr => ∃ (k n' : Nat) (D' : DataW Unit), k ≤ ts.length ∧ ix = .int .i64 k ∧ c = .int .i64 ((WN * prodN y.fs[i].args ((ts.take k).map (cntT y)) 0 : Nat) : Int) ∧ n' ≤ n + grow (ts.take k) ∧ Hid (MkS w0 bm bf bc (.slice A1 y.ty.sizes.length cap1) (.slice A2 y.ty.cos.length cap2) (.slice (some ⟨fb, foff, none⟩) y.fs.length cap3) y wr n' D') ∧ Hid (Keep bc w2 wr)) (fun _ ix _ => ts.length - (intOf ix).toNat)
  case atStart => exact ⟨0, n, D, Nat.zero_le _, rfl, by simp [prodN], by simp [grow], HM2.out, Keep.refl _ _⟩
  case round =>
    obtain ⟨k, n', D', hk, rfl, rfl, hn', hmr, hkr⟩ := hrel
    by_cases hkl : k < ts.length
    · obtain ⟨g, hPA, hg3, hgw, _, hcells⟩ := own_cells HOWN.out (by omega)
      obtain ⟨v, hvk⟩ : ∃ v, vs[k]? = some v := ⟨vs[k]'(by omega), List.getElem?_eq_getElem (by omega)⟩
      have hck : wr.cell? ⟨g, k, none⟩ = some v := (World.cell?_of_block (w := w0) (hmr.out.old.block g hgw)).trans ((hcells k hkl).trans hvk)
      subst hPA
      have hka : k < y.fs[i].args.length := by rw [HAL.out]; exact hkl
      obtain ⟨ab, ao, rfl, _, hab, d0, hAR64⟩ := hfa.2.2.2.2.1.at_ hka
      have e0 : wr.cell? ⟨ab, ao + k, none⟩ = some (.int .i64 y.fs[i].args[k]) := (World.cell?_of_block (w := w0) (hmr.out.old.block ab (by omega))).trans d0
      have e1 := (HR1'.out.keep (hkr.out.block HR1'.out.lt (by omega))).cell 1
      simp only [List.getElem?_cons_zero, List.getElem?_cons_succ] at e1
      have hgt : grow (ts.take k) + (2 ^ (tmT ts[k]).length - 1) ≤ grow ts := by
        rw [← grow_take hkl]
        unfold grow
        have h1 := sumTake_le (ts.map fun p => 2 ^ (tmT p).length - 1) (k + 1)
        rw [List.map_take]
        exact h1
      have HC := Lib.hid (IH.out k hkl v hvk y.fs[i].args[k] wr n' D' (HF.out.args k hka) hmr.out (by omega))
      have hpt := prod_take y y.fs[i].args ts 0 k hkl
      have hpl := prod_le y y.fs[i].args (ts.take (k + 1)) 0 (by rw [List.length_take]; omega)
      rw [Nat.zero_add, getD_of hka] at hpt
      have hgk := grow_take hkl
      obtain ⟨CK, hCK⟩ : ∃ c, c = cntT y ts[k] y.fs[i].args[k] := ⟨_, rfl⟩
      obtain ⟨PK, hPK⟩ : ∃ c, c = prodN y.fs[i].args ((ts.take k).map (cntT y)) 0 := ⟨_, rfl⟩
      obtain ⟨AR, hAR⟩ : ∃ c, c = y.fs[i].args[k] := ⟨_, rfl⟩
      obtain ⟨GK, hGK⟩ : ∃ c, c = 2 ^ (tmT ts[k]).length - 1 := ⟨_, rfl⟩
      rw [← hCK, ← hPK] at hpt
      rw [← hPK]
      rw [← hCK, ← hAR, ← hGK] at HC
      rw [← hAR] at e0
      rw [← hGK] at hgk hgt
      have hmul : WN * PK * CK ≤ 747143168 := by
        rw [Nat.mul_assoc, ← hpt]
        have h1 := Nat.mul_le_mul hwl hpl
        omega
      have hmulI : ((WN * PK : Nat) : Int) * (CK : Int) = ((WN * PK * CK : Nat) : Int) := by rw [← Int.natCast_mul]
      have hwr : IntKind.i64.wrap (((WN * PK : Nat) : Int) * (CK : Int)) = ((WN * PK * CK : Nat) : Int) := by
        rw [hmulI]
        exact wrapIn _ (by omega) (by omega)
      rw [Int.natCast_mul] at hwr
      have Hpt := Lib.hid hpt
      have Hgk := Lib.hid hgk
      have hklI : (k : Int) < (ts.length : Int) := by omega
      have hkaI : (k : Int) < (y.fs[i].args.length : Int) := by omega
      clear hcells hvk d0 hpt hpl hCK hPK hAR hGK hgk hgt hmulI
      go_wp2_with fail
      refine HC.out.mono ?_
      clear HC e0 e1 hck
      rintro e w5 ⟨rfl, hk5, n5, D5, hn5, hm5⟩
      have HK5 := Lib.hid hk5
      have HM5 := Lib.hid hm5
      clear hk5 hm5
      go_wp2
      go_roundw
      case rel =>
        refine ⟨k + 1, n5, D5, by omega, by go_num, ?_, by rw [Hgk.out]; omega, HM5.out, hkr.out.trans HK5.out⟩
        first | rfl | (rw [Hpt.out, ← Nat.mul_assoc]; first | rfl | exact congrArg (Value.int IntKind.i64) hwr)
      case measure => simp [intOf]; omega
    · obtain rfl : k = ts.length := by omega
      have HFN2 : Hid (WN * prodN y.fs[i].args ((ts.take ts.length).map (cntT y)) 0 = fnN y (ts.map (cntT y)) z ((i : Nat) : Int)) := by show _ = _; rw [List.take_length, HFN.out]
      rw [List.take_length] at hn'
      have HKF := Lib.hid (HK2.out.trans hkr.out)
      obtain ⟨FN, hFN⟩ : ∃ f, f = WN * prodN y.fs[i].args ((ts.take ts.length).map (cntT y)) 0 := ⟨_, rfl⟩
      rw [← hFN] at HFN2 ⊢
      clear hFN
      go_wp2
      go_ret
      exact ⟨by (rw [HFN2.out]; rfl), HKF.out, n', D', hn', hmr.out⟩
end Go.Proofs.YtnmbjmocnafekaaGreatDoor

namespace Go.Proofs.YtnmbjmocnafekaaGreatDoor
open Go.RowKit

/-- How many explicit terms a term has with each type. -/
noncomputable def rowT (y : Sy) (t : Tm) : List Int := (List.range y.ty.sizes.length).map fun j : Nat => ((cntT y t (j : Int) : Nat) : Int)
theorem rowT_len (y : Sy) (t : Tm) : (rowT y t).length = y.ty.sizes.length := by unfold rowT; simp
theorem rowT_at (y : Sy) (t : Tm) {j : Nat} (hj : j < y.ty.sizes.length) : (rowT y t).getD j 0 = ((cntT y t (j : Int) : Nat) : Int) := by
  unfold rowT
  rw [List.getD_eq_getElem?_getD, List.getElem?_map, List.getElem?_range hj]
  rfl
theorem capI' (c : Nat) : min (c : Int) 151 = ((capN c : Nat) : Int) := by unfold capN; omega

set_option maxRecDepth 100000 in
set_option maxHeartbeats 1000000 in
theorem l9Product_any (lo hi B : Nat) (y : Sy) (ts : List Tm) (args : List Int) (nv av rv : Value) (r : Int) (tv : Value) (xs : List Value) (S : Nat → Prop) (w : World) (ha : IntsAt w lo hi av args) (hB : hi ≤ w.heap.size) (hal : args.length = ts.length) (h2 : ts.length ≤ 2) (hin : ∀ a ∈ args, 0 ≤ a ∧ a < y.ty.sizes.length)
    (ho : w.ownsRow B 22 1 rv ts.length xs) (hx : ∀ i, ∀ (h : i < ts.length), ∃ x, xs[i]? = some x ∧ IntsIn w S x (rowT y ts[i])) (hS : ∀ b, S b → b < w.heap.size) :
    Calls Tryz.prog 90 #[.agg #[nv, av, .int .i64 r, tv], rv] w fun e w' => e = .returned (.int .i64 (capN (prodN args (ts.map (cntT y)) 0) : Nat)) ∧ Below w.heap.size w w' := by
  obtain ⟨A1, cap1, rfl, _, _, _⟩ := ha.form
  obtain ⟨RA, RC, rfl⟩ := own_slice' ho
  obtain ⟨W0, hW0⟩ : ∃ u, u = w.alloc (.cells #[nv, .slice A1 args.length cap1, .int .i64 r, tv] 111) := ⟨_, rfl⟩
  have HB0 : Hid (Below w.heap.size w W0) := by show Below _ _ _; rw [hW0]; exact (Below.refl _ _).alloc (Nat.le_refl _) _
  have hW0s : W0.heap.size = w.heap.size + 1 := by rw [hW0]; simp
  have HR0 : Hid (Row W0 w.heap.size 111 [nv, .slice A1 args.length cap1, .int .i64 r, tv]) := by show Row _ _ _ _; rw [hW0]; exact Row.new _ _ _
  have HA := Lib.hid ha
  have HO := Lib.hid ho
  have HX := Lib.hid hx
  have HIN := Lib.hid hin
  have HS := Lib.hid hS
  have HAL := Lib.hid hal
  clear ha ho hx hin hS hal
  go_enter Tryz.func90, Tryz.ntmps90
  go_wp2_with fail
  rw [← hW0]
  clear hW0
  go_loopw [5, 10] (fun c ix wr => ∃ k : Nat, k ≤ ts.length ∧ ix = .int .i64 k ∧ c = .int .i64 ((capN (prodN args ((ts.take k).map (cntT y)) 0) : Nat) : Int) ∧ Hid (Below W0.heap.size W0 wr)) (fun _ ix _ => ts.length - (intOf ix).toNat)
  case atStart => exact ⟨0, Nat.zero_le _, rfl, by simp [prodN, capN], Below.refl _ _⟩
  case round =>
    obtain ⟨k, hk, rfl, rfl, hbr⟩ := hrel
    by_cases hkl : k < ts.length
    · have hka : k < args.length := by rw [HAL.out]; exact hkl
      have hbw : Below w.heap.size w wr := HB0.out.trans (hbr.out.mono (by omega))
      obtain ⟨g, hRA, hg3, hgw, _, hcells⟩ := own_cells HO.out (by omega)
      obtain ⟨x, hxk, A2, cap2, rfl, h3, h4, h5, h6⟩ := HX.out k hkl
      have hck : wr.cell? ⟨g, k, none⟩ = some (.slice A2 (rowT y ts[k]).length cap2) := (World.cell?_of_block (w := w) (hbw.block g hgw)).trans ((hcells k hkl).trans hxk)
      subst hRA
      obtain ⟨hA0, hA1⟩ := HIN.out args[k] (List.getElem_mem hka)
      rw [rowT_len] at hck h6 h3
      obtain ⟨b2, off2, rfl, hb2, hc2⟩ := h6 (by omega)
      have hjn : args[k].toNat < y.ty.sizes.length := by omega
      have hc3 := hc2 args[k].toNat hjn
      rw [rowT_at y ts[k] hjn, Int.toNat_of_nonneg hA0] at hc3
      have hc4 : wr.cell? ⟨b2, off2 + args[k].toNat, none⟩ = some (.int .i64 ((cntT y ts[k] args[k] : Nat) : Int)) := (World.cell?_of_block (w := w) (hbw.block b2 (HS.out b2 hb2))).trans hc3
      obtain ⟨ab, ao, rfl, _, hab, d0, _⟩ := HA.out.at_ hka
      have e0 : wr.cell? ⟨ab, ao + k, none⟩ = some (.int .i64 args[k]) := (World.cell?_of_block (w := w) (hbw.block ab (by omega))).trans d0
      have e1 := (HR0.out.below hbr.out (by omega)).cell 1
      simp only [List.getElem?_cons_zero, List.getElem?_cons_succ] at e1
      have hpt := prod_take y args ts 0 k hkl
      rw [Nat.zero_add, getD_of hka] at hpt
      have hP1 := capN_le (prodN args ((ts.take k).map (cntT y)) 0)
      have hC1 := cntT_le y ts[k] args[k]
      have hcm := capN_mul (prodN args ((ts.take k).map (cntT y)) 0) (cntT y ts[k] args[k])
      rw [← hpt] at hcm
      obtain ⟨CK, hCK⟩ : ∃ c, c = cntT y ts[k] args[k] := ⟨_, rfl⟩
      obtain ⟨PK, hPK⟩ : ∃ c, c = capN (prodN args ((ts.take k).map (cntT y)) 0) := ⟨_, rfl⟩
      obtain ⟨AR, hAR⟩ : ∃ c, c = args[k] := ⟨_, rfl⟩
      rw [← hPK, ← hCK] at hcm
      rw [← hPK] at hP1 ⊢
      rw [← hCK] at hC1 hc4
      rw [← hAR] at e0 hc4 hA0 hA1 hjn
      have hmul : PK * CK ≤ 151 * 151 := Nat.mul_le_mul hP1 hC1
      have hwr : IntKind.i64.wrap ((PK : Int) * (CK : Int)) = ((PK * CK : Nat) : Int) := by
        rw [← Int.natCast_mul]
        exact wrapIn _ (by omega) (by omega)
      have Hcm := Lib.hid hcm
      have hklI : (k : Int) < (ts.length : Int) := by omega
      have hkaI : (k : Int) < (args.length : Int) := by omega
      clear hcells hxk h3 h4 h5 h6 hc2 hc3 d0 hpt hcm hCK hPK hAR hbw
      go_wp2
      go_roundw
      case rel =>
        refine ⟨k + 1, by omega, by go_num, ?_, hbr.out⟩
        rw [← Hcm.out]
        first | rfl | exact congrArg (Value.int IntKind.i64) (by rw [← capI', Int.natCast_mul])
      case measure => simp [intOf]; omega
    · obtain rfl : k = ts.length := by omega
      have HBW : Hid (Below w.heap.size w wr) := HB0.out.trans (hbr.out.mono (by omega))
      rw [List.take_length]
      go_wp2
      try rw [Exit.noGoto_ret]
      refine bodyPost_ret (v := .int .i64 ((capN (prodN args (ts.map (cntT y)) 0) : Nat) : Int)) (by simp [results, Tryz.results90, go_sem]) rfl ?_
      exact ⟨rfl, HBW.out⟩
end Go.Proofs.YtnmbjmocnafekaaGreatDoor

namespace Go.Proofs.YtnmbjmocnafekaaGreatDoor
open Go.RowKit

/-- A text cut at every c. -/
def glue (p : List UInt8) : List (List UInt8) → List (List UInt8)
  | [] => [p]
  | h :: t => (p ++ h) :: t
def cutL (c : UInt8) : List UInt8 → List (List UInt8)
  | [] => [[]]
  | x :: l => if x = c then [] :: cutL c l else glue [x] (cutL c l)
theorem glue_nil {x : List (List UInt8)} (h : x ≠ []) : glue [] x = x := by
  cases x with
  | nil => exact absurd rfl h
  | cons h t => rfl
theorem glue_glue (p q : List UInt8) (x : List (List UInt8)) : glue p (glue q x) = glue (p ++ q) x := by
  cases x with
  | nil => rfl
  | cons h t => simp [glue, List.append_assoc]
theorem cutL_ne (c : UInt8) (l : List UInt8) : cutL c l ≠ [] := by
  cases l with
  | nil => simp [cutL]
  | cons x l =>
    simp only [cutL]
    split
    · simp
    · cases h : cutL c l <;> simp [glue]
/-- The piece from one place to another. -/
def sub (l : List UInt8) (f i : Nat) : List UInt8 := (l.drop f).take (i - f)
theorem sub_self (l : List UInt8) (i : Nat) : sub l i i = [] := by simp [sub]
theorem sub_succ {l : List UInt8} {f i : Nat} (hf : f ≤ i) (hi : i < l.length) : sub l f (i + 1) = sub l f i ++ [l[i]] := by
  unfold sub
  have e : i + 1 - f = (i - f) + 1 := by omega
  rw [e, List.take_succ_eq_append_getElem (by rw [List.length_drop]; omega)]
  congr 1
  simp
  congr 1
  omega
theorem str_sub (l : List UInt8) (f i : Nat) : (str l).extract f i = str (sub l f i) := by
  apply ByteArray.ext
  simp [str, sub, ByteArray.data_extract, List.extract_eq_take_drop]
/-- What the loop keeps, at place i, with the pieces that are done, and the place at which the last one begins. -/
def CutAt (c : UInt8) (l : List UInt8) (done : List (List UInt8)) (f i : Nat) : Prop := f ≤ i ∧ cutL c l = done ++ glue (sub l f i) (cutL c (l.drop i))
theorem CutAt.start (c : UInt8) (l : List UInt8) : CutAt c l [] 0 0 := ⟨Nat.le_refl _, by rw [sub_self, List.drop_zero, glue_nil (cutL_ne c l)]; rfl⟩
theorem CutAt.go {c : UInt8} {l : List UInt8} {done : List (List UInt8)} {f i : Nat} (h : CutAt c l done f i) (hi : i < l.length) (hne : l[i] ≠ c) : CutAt c l done f (i + 1) := by
  refine ⟨by have := h.1; omega, ?_⟩
  rw [h.2, List.drop_eq_getElem_cons hi, cutL, if_neg hne, glue_glue, sub_succ h.1 hi]
theorem CutAt.hit {c : UInt8} {l : List UInt8} {done : List (List UInt8)} {f i : Nat} (h : CutAt c l done f i) (hi : i < l.length) (he : l[i] = c) : CutAt c l (done ++ [sub l f i]) (i + 1) (i + 1) := by
  refine ⟨Nat.le_refl _, ?_⟩
  rw [h.2, List.drop_eq_getElem_cons hi, cutL, if_pos he, sub_self, glue_nil (cutL_ne _ _)]
  simp [glue]
theorem CutAt.last {c : UInt8} {l : List UInt8} {done : List (List UInt8)} {f : Nat} (h : CutAt c l done f l.length) : cutL c l = done ++ [sub l f l.length] := by
  rw [h.2, List.drop_length]
  simp [cutL, glue]
theorem cut_byte (l : List UInt8) (i : Nat) (_hi : i < l.length) (h : i < (str l).size) : (str l)[i]'h = l[i]'_hi := by
  show (str l).data[i] = l[i]
  simp [str]
  first | rfl | skip
theorem cut_eq (c s : UInt8) : ((c.toNat : Int) == (s.toNat : Int)) = decide (c = s) := by
  by_cases h : c = s
  · subst h; simp
  · have : ¬ (c.toNat : Int) = (s.toNat : Int) := fun e => h (UInt8.toNat_inj.1 (by omega))
    simp [h, this]

end Go.Proofs.YtnmbjmocnafekaaGreatDoor

namespace Go.Proofs.YtnmbjmocnafekaaGreatDoor
open Go.RowKit

theorem drop3 {L : List UInt8} {k : Nat} (h : k + 3 ≤ L.length) : ∃ a b c r, L.drop k = a :: b :: c :: r ∧ L.length = k + 3 + r.length ∧ (∀ h, (str L)[k]'h = a) ∧ (∀ h, (str L)[k + 1]'h = b) ∧ (∀ h, (str L)[k + 2]'h = c) ∧ L.drop (k + 3) = r ∧ L.drop (k + 2) = c :: r := by
  refine ⟨L[k], L[k + 1], L[k + 2], L.drop (k + 3), ?_, ?_, cut_byte L k (by omega), cut_byte L (k + 1) (by omega), cut_byte L (k + 2) (by omega), rfl, ?_⟩
  · rw [List.drop_eq_getElem_cons (by omega), List.drop_eq_getElem_cons (i := k + 1) (by omega), List.drop_eq_getElem_cons (i := k + 2) (by omega)]
  · rw [List.length_drop]; omega
  · rw [List.drop_eq_getElem_cons (i := k + 2) (by omega)]
theorem inB_D (c : UInt8) : inB (wrap64 (c.toNat : Int)) 48 57 = isD c := by
  have h := c.toNat_lt
  rw [show wrap64 (c.toNat : Int) = (c.toNat : Int) by unfold wrap64; omega]
  unfold inB isD
  rw [← Bool.decide_and]
  apply decide_eq_decide.2
  omega
theorem inB_N (c : UInt8) : inB (wrap64 (c.toNat : Int)) 102 107 = isN c := by
  have h := c.toNat_lt
  rw [show wrap64 (c.toNat : Int) = (c.toNat : Int) by unfold wrap64; omega]
  unfold inB isN
  rw [← Bool.decide_and]
  apply decide_eq_decide.2
  omega
theorem ret_eqInt {x y : Int} (h : x = y) : Ending.returned (.int .i64 x) = Ending.returned (.int .i64 y) := by rw [h]
theorem drop1 {L : List UInt8} {q : Nat} (h : q < L.length) : ∃ c r, L.drop q = c :: r ∧ (∀ h, (str L)[q]'h = c) ∧ L.drop (q + 1) = r :=
  ⟨L[q], L.drop (q + 1), List.drop_eq_getElem_cons h, cut_byte L q h, rfl⟩

set_option maxRecDepth 100000 in
set_option maxHeartbeats 4000000 in
theorem end6_any (L : List UInt8) (hL : L.length ≤ 1048576) : ∀ (f k : Nat) (w : World), k ≤ L.length → L.length ≤ k + f →
    Calls Tryz.prog 129 #[.string (str L), .int .i64 k] w fun e w' => e = .returned (.int .i64 (endZ L (endT f (L.drop k)))) ∧ w' = w := by
  intro f
  induction f with
  | zero =>
    intro k w hk hf
    have hsz := str_size L
    have hv : Hid (endZ L (endT 0 (L.drop k)) = -1) := by show _ = _; rw [endT_short (by rw [List.length_drop]; omega)]; rfl
    go_enter Tryz.func129, Tryz.ntmps129
    have h1 : (L.length : Int) < (k : Int) + 3 := by omega
    go_wp2
    go_ret
    exact ⟨ret_eqInt hv.out.symm, rfl⟩
  | succ f ih =>
    intro k w hk hf
    have hsz := str_size L
    have IH := Lib.hid ih
    clear ih
    by_cases hs : L.length < k + 3
    · have hv : Hid (endZ L (endT (f + 1) (L.drop k)) = -1) := by show _ = _; rw [endT_short (by rw [List.length_drop]; omega)]; rfl
      go_enter Tryz.func129, Tryz.ntmps129
      have h1 : (L.length : Int) < (k : Int) + 3 := by omega
      go_wp2
      go_ret
      exact ⟨ret_eqInt hv.out.symm, rfl⟩
    · obtain ⟨a, b, c, r, hd, hlen, b0, b1, b2, d3, d2⟩ := drop3 (L := L) (k := k) (by omega)
      have h1 : ¬ (L.length : Int) < (k : Int) + 3 := by omega
      have q58 : ((b.toNat : Int) == 58) = decide (b = 58) := cut_eq b 58
      by_cases hb : b = 58
      · subst hb
        have hv : Hid (endZ L (endT (f + 1) (L.drop k)) = if (isD a && isD c) = true then (k : Int) + 3 else -1) := by
          show _ = _
          rw [hd, endT_lit]
          split
          · show (L.length : Int) - (r.length : Int) = _
            omega
          · rfl
        clear hd d3 d2 q58
        cases ha : isD a with
        | false =>
          rw [ha] at hv
          go_enter Tryz.func129, Tryz.ntmps129
          go_wp2_with (go_at_call 49; refine (l1In_any _ _ _ _).mono ?_; rintro e w1 ⟨rfl, rfl⟩; first | rw [inB_D a, ha] | skip)
          go_ret
          exact ⟨ret_eqInt hv.out.symm, rfl⟩
        | true =>
          cases hc : isD c with
          | false =>
            rw [ha, hc] at hv
            go_enter Tryz.func129, Tryz.ntmps129
            go_wp2_with (go_at_call 49; refine (l1In_any _ _ _ _).mono ?_; rintro e w1 ⟨rfl, rfl⟩; first | rw [inB_D a, ha] | rw [inB_D c, hc])
            go_ret
            exact ⟨ret_eqInt hv.out.symm, rfl⟩
          | true =>
            rw [ha, hc] at hv
            go_enter Tryz.func129, Tryz.ntmps129
            go_wp2_with (go_at_call 49; refine (l1In_any _ _ _ _).mono ?_; rintro e w1 ⟨rfl, rfl⟩; first | rw [inB_D a, ha] | rw [inB_D c, hc])
            go_ret
            exact ⟨ret_eqInt hv.out.symm, rfl⟩
      · have hbf : decide (b = 58) = false := by simpa using hb
        rw [hbf] at q58
        have q40 : ((b.toNat : Int) == 40) = decide (b = 40) := cut_eq b 40
        cases hN : isN a with
        | false =>
          have hv : Hid (endZ L (endT (f + 1) (L.drop k)) = -1) := by show _ = _; rw [hd, endT_other a b _ hb (by simp [hN])]; rfl
          clear hd d3 d2 hb hbf q40
          go_enter Tryz.func129, Tryz.ntmps129
          go_wp2_with (go_at_call 49; refine (l1In_any _ _ _ _).mono ?_; rintro e w1 ⟨rfl, rfl⟩; rw [inB_N a, hN])
          go_ret
          exact ⟨ret_eqInt hv.out.symm, rfl⟩
        | true =>
          by_cases hb4 : b = 40
          · subst hb4
            have hca := Lib.hid (endT_call (f := f) a c r hN)
            rw [← hd] at hca
            have HD := Lib.hid d2
            have HD3 := Lib.hid d3
            clear hd d3 d2 hb hbf q40
            have q41 : ((c.toNat : Int) == 41) = decide (c = 41) := cut_eq c 41
            by_cases hc : c = 41
            · subst hc
              have hv : Hid (endZ L (endT (f + 1) (L.drop k)) = (k : Int) + 2 + 1) := by
                show _ = _
                rw [hca.out, if_pos rfl]
                show (L.length : Int) - (r.length : Int) = _
                omega
              clear q41 hca
              go_enter Tryz.func129, Tryz.ntmps129
              go_wp2_with (go_at_call 49; refine (l1In_any _ _ _ _).mono ?_; rintro e w1 ⟨rfl, rfl⟩; rw [inB_N a, hN])
              go_ret
              exact ⟨ret_eqInt hv.out.symm, rfl⟩
            · have hcf : decide (c = 41) = false := by simpa using hc
              rw [hcf] at q41
              have hstart : Hid (endT (f + 1) (L.drop k) = endArgs (rdTm f) 2 (L.drop (k + 2))) := by
                show _ = _
                rw [hca.out, if_neg hc, HD.out]
              clear hca hc hcf HD HD3
              go_enter Tryz.func129, Tryz.ntmps129
              go_wp2_with (first | (go_at_call 49; refine (l1In_any _ _ _ _).mono ?_; rintro e w1 ⟨rfl, rfl⟩; rw [inB_N a, hN]))
              clear b0 b1 b2 q58 q41 h1 hN
              go_loopw [1, 51] (fun v1 vm wr => ∃ (m q : Nat), m ≤ 2 ∧ k < q ∧ q ≤ L.length ∧ v1 = .int .i64 q ∧ vm = .int .i64 m ∧ wr = w ∧ Hid (endT (f + 1) (L.drop k) = endArgs (rdTm f) (2 - m) (L.drop q))) (fun _ vm _ => 2 - (intOf vm).toNat)
              case atStart => exact ⟨0, k + 2, by omega, by omega, by omega, by go_num, rfl, rfl, hstart.out⟩
              case round =>
                obtain ⟨m, q, hm, hq1, hq2, rfl, rfl, rfl, hrel2⟩ := hrel
                by_cases hm2 : m < 2
                · have IHq := Lib.hid (IH.out q wr hq2 (by omega))
                  have he : 2 - m = (1 - m) + 1 := by omega
                  rw [he] at hrel2
                  cases ho : rdTm f (L.drop q) with
                  | none =>
                    have hv : Hid (endZ L (endT (f + 1) (L.drop k)) = -1) := by show _ = _; rw [hrel2.out, endArgs, ho]; rfl
                    have hz : Hid (endZ L (endT f (L.drop q)) = -1) := by show _ = _; unfold endT; rw [ho]; rfl
                    clear hrel2 ho
                    rw [hz.out] at IHq
                    go_wp2_with (first | (go_at_call 129; refine IHq.out.mono ?_; rintro e w1 ⟨rfl, rfl⟩))
                    go_ret
                    exact ⟨ret_eqInt hv.out.symm, rfl⟩
                  | some p =>
                    obtain ⟨t, r2⟩ := p
                    have hse : endT f (L.drop q) = some r2 := by unfold endT; rw [ho]; rfl
                    obtain ⟨hl2, hdr⟩ := endT_suffix hse
                    rw [List.length_drop] at hl2 hdr
                    rw [List.drop_drop] at hdr
                    obtain ⟨q2, hq⟩ : ∃ q2, q2 + r2.length = L.length := ⟨L.length - r2.length, by omega⟩
                    have hz : Hid (endZ L (endT f (L.drop q)) = (q2 : Int)) := by
                      show _ = _
                      rw [hse]
                      show (L.length : Int) - (r2.length : Int) = _
                      omega
                    rw [show q + (L.length - q - r2.length) = q2 by omega] at hdr
                    rw [hz.out] at IHq
                    clear hse
                    cases r2 with
                    | nil =>
                      have hv : Hid (endZ L (endT (f + 1) (L.drop k)) = -1) := by show _ = _; rw [hrel2.out, endArgs, ho]; rfl
                      have hq3 : (L.length : Int) ≤ (q2 : Int) := by simp at hq; omega
                      clear hrel2 ho hdr hq hl2
                      go_wp2_with (first | (go_at_call 129; refine IHq.out.mono ?_; rintro e w1 ⟨rfl, rfl⟩))
                      go_ret
                      exact ⟨ret_eqInt hv.out.symm, rfl⟩
                    | cons d r3 =>
                      simp only [List.length_cons] at hq hl2
                      obtain ⟨d', r', hd', by0, hdr2⟩ := drop1 (L := L) (q := q2) (by omega)
                      rw [hdr] at hd'
                      injection hd' with hd1 hd2
                      subst hd1; subst hd2
                      have hq3 : ¬ (L.length : Int) ≤ (q2 : Int) := by omega
                      have hv0 : Hid (endT (f + 1) (L.drop k) = if d = 41 then some r3 else if d = 44 then endArgs (rdTm f) (1 - m) (L.drop (q2 + 1)) else none) := by show _ = _; rw [hrel2.out, endArgs, ho, hdr2]
                      have q41 : ((d.toNat : Int) == 41) = decide (d = 41) := cut_eq d 41
                      have q44 : ((d.toNat : Int) == 44) = decide (d = 44) := cut_eq d 44
                      clear hrel2 ho hdr hdr2
                      by_cases hd4 : d = 41
                      · subst hd4
                        have hv : Hid (endZ L (endT (f + 1) (L.drop k)) = (q2 : Int) + 1) := by
                          show _ = _
                          rw [hv0.out, if_pos rfl]
                          show (L.length : Int) - (r3.length : Int) = _
                          omega
                        clear hv0 q41 q44
                        go_wp2_with (first | (go_at_call 129; refine IHq.out.mono ?_; rintro e w1 ⟨rfl, rfl⟩))
                        go_ret
                        exact ⟨ret_eqInt hv.out.symm, rfl⟩
                      · have hdf : decide (d = 41) = false := by simpa using hd4
                        rw [hdf] at q41
                        have hv1 : Hid (endT (f + 1) (L.drop k) = if d = 44 then endArgs (rdTm f) (1 - m) (L.drop (q2 + 1)) else none) := by show _ = _; rw [hv0.out, if_neg hd4]
                        clear hv0 hd4 hdf
                        by_cases hd5 : d = 44
                        · have hdt : decide (d = 44) = true := by simpa using hd5
                          rw [hdt] at q44
                          have hv : Hid (endT (f + 1) (L.drop k) = endArgs (rdTm f) (2 - (m + 1)) (L.drop (q2 + 1))) := by show _ = _; rw [hv1.out, if_pos hd5, show 2 - (m + 1) = 1 - m by omega]
                          clear hv1 hd5 hdt
                          go_wp2_with (first | (go_at_call 129; refine IHq.out.mono ?_; rintro e w1 ⟨rfl, rfl⟩))
                          go_roundw
                          case rel => exact ⟨m + 1, q2 + 1, by omega, by omega, by omega, by go_num, by go_num, trivial, hv.out⟩
                          case measure => simp [intOf]; omega
                        · have hdt : decide (d = 44) = false := by simpa using hd5
                          rw [hdt] at q44
                          have hv : Hid (endZ L (endT (f + 1) (L.drop k)) = -1) := by show _ = _; rw [hv1.out, if_neg hd5]; rfl
                          clear hv1 hd5 hdt
                          go_wp2_with (first | (go_at_call 129; refine IHq.out.mono ?_; rintro e w1 ⟨rfl, rfl⟩))
                          go_ret
                          exact ⟨ret_eqInt hv.out.symm, rfl⟩
                · have hm3 : m = 2 := by omega
                  subst hm3
                  have hv : Hid (endZ L (endT (f + 1) (L.drop k)) = -1) := by show _ = _; rw [hrel2.out]; rfl
                  clear hrel2
                  go_wp2
                  go_ret
                  exact ⟨ret_eqInt hv.out.symm, rfl⟩
          · have hb4f : decide (b = 40) = false := by simpa using hb4
            rw [hb4f] at q40
            have hv : Hid (endZ L (endT (f + 1) (L.drop k)) = -1) := by show _ = _; rw [hd, endT_other a b _ hb (by simp [hN, hb4])]; rfl
            clear hd d3 d2 hb hbf hb4 hb4f
            go_enter Tryz.func129, Tryz.ntmps129
            go_wp2_with (go_at_call 49; refine (l1In_any _ _ _ _).mono ?_; rintro e w1 ⟨rfl, rfl⟩; rw [inB_N a, hN])
            go_ret
            exact ⟨ret_eqInt hv.out.symm, rfl⟩

theorem parseT_endZ {L : List UInt8} (h : L.length ≤ 60) : (endZ L (endT L.length L) == (L.length : Int)) = (parseT L).isSome := by
  rw [parseT_some]
  cases e : endT L.length L with
  | none =>
    simp [endZ]
  | some r =>
    have := (endT_suffix e).1
    simp only [endZ]
    by_cases hr : r = []
    · subst hr
      simp [h]
    · have : 0 < r.length := List.length_pos_iff.2 hr
      have e1 : decide (some r = some ([] : List UInt8)) = false := by simpa using hr
      rw [e1, Bool.and_false]
      simp
      omega

set_option maxRecDepth 100000 in
set_option maxHeartbeats 1000000 in
theorem specTermValid_any (L : List UInt8) (hL : L.length ≤ 1048576) (w : World) :
    Calls Tryz.prog 86 #[.string (str L)] w fun e w' => e = .returned (.bool (parseT L).isSome) ∧ w' = w := by
  have hsz := str_size L
  by_cases h : L.length ≤ 60
  · have h1 : (L.length : Int) ≤ 60 := by omega
    have hE := Lib.hid (end6_any L hL L.length 0 w (Nat.zero_le _) (by omega))
    have hp := Lib.hid (parseT_endZ h)
    clear h
    go_enter Tryz.func86, Tryz.ntmps86
    go_wp2_with (first | (go_at_call 129; refine hE.out.mono ?_; rintro e w1 ⟨rfl, rfl⟩))
    go_ret
    exact ⟨by rw [← hp.out]; rfl, rfl⟩
  · have h1 : ¬ (L.length : Int) ≤ 60 := by omega
    have hp : Hid (parseT L = none) := by show _ = _; unfold parseT; rw [if_neg h]
    clear h
    go_enter Tryz.func86, Tryz.ntmps86
    go_wp2
    go_ret
    exact ⟨by rw [hp.out]; rfl, rfl⟩
end Go.Proofs.YtnmbjmocnafekaaGreatDoor

