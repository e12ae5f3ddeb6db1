/-
  The contract of the program's count, which keeps in a map what it has counted.
-/
import Derived.Test.YtnmbjmocnafekaaGreatDoorE20
import Derived.Test.YtnmbjmocnafekaaGreatDoorE25
import Derived.Test.YtnmbjmocnafekaaGreatDoorE21
import Derived.Test.YtnmbjmocnafekaaGreatDoorE15
import Derived.Test.YtnmbjmocnafekaaGreatDoorE19
import Derived.BigQuiet
namespace Go.Proofs.YtnmbjmocnafekaaGreatDoor
open Go.RowKit Go.Maps

theorem tm_inj {t t' : Tm} (h : TmOk t) (h' : TmOk t') (hl : (tmT t).length ≤ 60) (e : tmT t = tmT t') : t = t' := by
  have h1 := parseT_tmT.2 ⟨h, rfl, hl⟩
  have h2 := parseT_tmT.2 ⟨h', e, hl⟩
  rw [h1] at h2
  exact Option.some.inj h2
theorem str_max {L : List UInt8} (h : L.length ≤ 60) : (str L).size ≤ maxLen := by rw [str_size]; unfold maxLen; omega
/-- What a look into the map of counts gives. -/
theorem MkS.look {w0 w : World} {bm bf bc n : Nat} {sv cv fv : Value} {y : Sy} {D : DataW Unit} (h : MkS w0 bm bf bc sv cv fv y w n D) {L : List UInt8} (hL : L.length ≤ 60) {z : Int} (hz : I64 z) :
    ∃ c, (Instr.lookup 97 (.map (some bc)) (goalV (str L) z) true).run Tryz.prog w = .ok (.tuple #[.int .i64 c, .bool (Maps.has D (goalK (str L) z))]) w ∧ D.atKey (goalK (str L) z) (.lit (.int .i64 0)) = .lit (.int .i64 c) := by
  obtain ⟨v, ps, hrun, hv⟩ := h.own.look_ok goalKeyed Tryz.underlying97 (zeroIntG w) (plainElem_int Tryz.underlying3 (by decide)) (goal_key (str_max hL) hz)
  obtain ⟨c, rfl, hc, _⟩ := plainElem_int_inv Tryz.underlying3 hv
  simp only [Prod.mk.injEq] at hc
  exact ⟨c, hrun, hc.1⟩
theorem MkS.look1 {w0 w : World} {bm bf bc n : Nat} {sv cv fv : Value} {y : Sy} {D : DataW Unit} (h : MkS w0 bm bf bc sv cv fv y w n D) {L : List UInt8} (hL : L.length ≤ 60) {z : Int} (hz : I64 z) :
    ∃ c, (Instr.lookup 97 (.map (some bc)) (goalV (str L) z) false).run Tryz.prog w = .ok (.int .i64 c) w ∧ D.atKey (goalK (str L) z) (.lit (.int .i64 0)) = .lit (.int .i64 c) := by
  obtain ⟨c, hrun, hc, _⟩ := h.own.lookup_int goalKeyed Tryz.underlying97 Tryz.underlying3 (zeroIntG w) (goal_key (str_max hL) hz)
  exact ⟨c, hrun, hc⟩
theorem Memo.put {y : Sy} {D : DataW Unit} (h : Memo y D) (hD : IsMap D) {t : Tm} (hok : TmOk t) (hl : (tmT t).length ≤ 60) {z : Int} (hz : I64 z) : Memo y (D.put (goalK (str (tmT t)) z) (.lit (.int .i64 (cntT y t z : Nat)))) := by
  intro t' z' hok' hl' hz' hh
  by_cases e : goalK (str (tmT t')) z' = goalK (str (tmT t)) z
  · obtain ⟨e1, rfl⟩ := goalK_inj (str_max hl') hz' (str_max hl) hz e
    obtain rfl : t' = t := tm_inj hok' hok hl' (by have := congrArg (fun b : ByteArray => b.data.toList) e1; simpa [str] using this)
    exact atKey_put_same hD (goalK_key (str_max hl) hz) _ _
  · rw [has_put_other e] at hh
    rw [atKey_put_other e]
    exact h t' z' hok' hl' hz' hh
theorem pow_two_parts (a b : Nat) : 8 * (2 ^ a - 1 + (2 ^ b - 1)) + 1 ≤ 2 ^ (a + b + 3) - 1 := by
  have h1 : 1 ≤ 2 ^ a := Nat.one_le_two_pow
  have h2 : 1 ≤ 2 ^ b := Nat.one_le_two_pow
  have e : 2 ^ (a + b + 3) = 2 ^ a * 2 ^ b * 8 := by rw [Nat.pow_add, Nat.pow_add]
  rw [e]
  obtain ⟨p, hp⟩ : ∃ p, 2 ^ a = p + 1 := ⟨2 ^ a - 1, by omega⟩
  obtain ⟨q, hq⟩ : ∃ q, 2 ^ b = q + 1 := ⟨2 ^ b - 1, by omega⟩
  rw [hp, hq]
  have e2 : (p + 1) * (q + 1) = p * q + p + q + 1 := by rw [Nat.add_mul, Nat.mul_add]; omega
  rw [e2]
  omega
theorem grow_call {t : Tm} (hc : isCallT t = true) : 8 * grow (partsT t) + 1 ≤ 2 ^ (tmT t).length - 1 := by
  cases t with
  | lit k v => cases hc
  | c0 n =>
    show 8 * 0 + 1 ≤ 2 ^ 3 - 1
    decide
  | c1 n a =>
    have h := pow_two_parts (tmT a).length 0
    have e : (tmT (.c1 n a)).length = (tmT a).length + 0 + 3 := by simp [tmT]
    rw [e]
    simpa [grow, partsT] using h
  | c2 n a b =>
    have h := pow_two_parts (tmT a).length (tmT b).length
    have e : (tmT (.c2 n a b)).length = ((tmT a).length + (tmT b).length + 3) + 1 := by simp [tmT]; omega
    rw [e, Nat.pow_succ]
    have e2 : grow (partsT (.c2 n a b)) = 2 ^ (tmT a).length - 1 + (2 ^ (tmT b).length - 1) := by simp [grow, partsT]
    rw [e2]
    omega
theorem grow_lit (t : Tm) (hok : TmOk t) : 1 ≤ 2 ^ (tmT t).length - 1 := by
  have h := tmT_len hok
  have h2 : 2 ^ 3 ≤ 2 ^ (tmT t).length := Nat.pow_le_pow_right (by decide) h
  omega
theorem fnN_le (y : Sy) (hy : SyOk y) (ts : List Tm) (h2 : ts.length ≤ 2) (z i : Int) : fnN y (ts.map (cntT y)) z i ≤ 747143168 := by
  unfold fnN wayN
  have h1 := waysOf_len hy.ty (y.fs.getD i.toNat default).res z
  have h3 := prod_le y (argsOf y i) ts 0 h2
  have h4 := Nat.mul_le_mul h1 h3
  omega

theorem MkS.drew {w0 w : World} {bm bf bc n : Nat} {sv cv fv : Value} {y : Sy} {D : DataW Unit} (h : MkS w0 bm bf bc sv cv fv y w n D) : MkS w0 bm bf bc sv cv fv y w.drew n D := h.under (Below.refl _ _).drew
theorem MkS.upd {w0 w : World} {bm bf bc n : Nat} {sv cv fv : Value} {y : Sy} {D : DataW Unit} (h : MkS w0 bm bf bc sv cv fv y w n D) {t : Tm} (hok : TmOk t) (hl : (tmT t).length ≤ 60) {z : Int} (hz : I64 z) (hn : n + 1 ≤ 9223372036854775807) :
    ∃ w', (Instr.mapUpdate 97 (.map (some bc)) (.agg #[.string (str (tmT t)), .int .i64 z]) (.int .i64 (cntT y t z : Nat))).run Tryz.prog w = .ok () w' ∧ Keep bc w w' ∧ MkS w0 bm bf bc sv cv fv y w' (n + 1) (D.put (goalK (str (tmT t)) z) (.lit (.int .i64 (cntT y t z : Nat)))) := by
  have hc := cntT_le y t z
  obtain ⟨w', hrun, ho, hg⟩ := h.own.update goalKeyed Tryz.underlying97 (by unfold maxLen; omega) (goal_key (str_max hl) hz) (plainElem_int Tryz.underlying3 (wfI64g (z := (cntT y t z : Nat)) (by unfold I64; omega)))
  exact ⟨w', hrun, ⟨hg⟩, h.old.grown hg h.old.size (fun k e => by have := h.lc; simp only [Option.some.injEq] at e; omega), h.row.keep (hg.block _ h.row.lt (fun e => h.nm (Option.some.inj e).symm)), h.fin.keep (hg.block _ h.fin.lt (fun e => h.nf (Option.some.inj e).symm)), ho, h.memo.put h.own.isMap hok hl hz, h.lm, h.lf, h.lc, h.nm, h.nf⟩
theorem capI (c : Nat) : ((capN c : Nat) : Int) = min (c : Int) 151 := by unfold capN; omega
def DrewW (b : World) (_ : Nat) (u : World) : Prop := u = b.drew

def NamW (b : World) (L : List Int) (v : Value) (j : Nat) (u : World) : Prop := Below b.heap.size b u ∧ (0 < j → u.ownsRow b.heap.size 3 1 v L.length (L.map (Value.int .i64)))
theorem sum_le_mul (L : List Int) (f : Int → Nat) (c : Nat) (h : ∀ x ∈ L, f x ≤ c) : (L.map f).sum ≤ L.length * c := by
  induction L with
  | nil => simp
  | cons a l ih =>
    have h1 := h a (by simp)
    have h2 := ih fun x hx => h x (by simp [hx])
    simp only [List.map_cons, List.sum_cons, List.length_cons, Nat.succ_mul]
    omega
def LowW (b : World) (_ : Nat) (u : World) : Prop := Below b.heap.size b u
def MapW (w0 b : World) (bm bf bc : Nat) (sv cv fv : Value) (y : Sy) (n : Nat) (D : DataW Unit) (j : Nat) (u : World) : Prop := Keep bc b u ∧ (j = 0 → u = b) ∧ (j = 1 → MkS w0 bm bf bc sv cv fv y u n D)
theorem typesB_in {y : Sy} (hy : SyOk y) {a b : Int} (ha : 0 ≤ a ∧ a < y.ty.sizes.length) (hb : 0 ≤ b ∧ b < y.ty.sizes.length) : typesB y.ty a b = true := by
  unfold typesB
  rw [hy.ty, show ixB a y.ty.sizes.length = true by unfold ixB; exact decide_eq_true ha, show ixB b y.ty.sizes.length = true by unfold ixB; exact decide_eq_true hb]
  rfl

set_option maxRecDepth 100000 in
set_option maxHeartbeats 1000000 in
theorem count_any (lo hi : Nat) (w0 : World) (bm bf bc : Nat) (sv cv fv : Value) (y : Sy) (hy : SyOk y) (hbk : y.bulk ≤ 1048576) (hv : SyAt w0 lo hi sv cv fv y) (hB : hi ≤ w0.heap.size) : ∀ (q : Nat) (t : Tm) (o : Value) (B : Nat), (tmT t).length ≤ q → TmOk t → (tmT t).length ≤ 60 → NodeAt w0 B t o → ∀ (z : Int) (w : World) (n : Nat) (D : DataW Unit), 0 ≤ z ∧ z < y.ty.sizes.length → MkS w0 bm bf bc sv cv fv y w n D → n + (2 ^ (tmT t).length - 1) ≤ 9223372036854775807 →
    Calls Tryz.prog 56 #[.pointer (some ⟨bm, 0, none⟩), o, .int .i64 z] w fun e w' => CntPost w0 bm bf bc sv cv fv y w n (2 ^ (tmT t).length - 1) (cntT y t z) e w' := by
  intro q
  induction q with
  | zero =>
    intro t o B hq hok
    have := tmT_len hok
    omega
  | succ q ih =>
    intro t o B hq hok hl60 hnod z w n D hz hM hgr
    obtain ⟨A1, cap1, rfl, _, _, _⟩ := hv.1.1.form
    obtain ⟨A2, cap2, rfl, _, _, _⟩ := hv.1.2.form
    obtain ⟨A3, cap3, rfl, _, hm3, _⟩ := hv.2.form
    have hzI : I64 z := by have h := sizesOk_of (tyOk_sizes hy.ty); unfold I64; omega
    have hnw : NodeAt w B t o := hnod.same fun g _ hg => hM.old.block g hg
    obtain ⟨T, x, fid, rfl, ⟨hmeth, hnil, hent⟩, htext⟩ := hnw.textN hok (by omega)
    have HT := Lib.hid htext
    have HM := Lib.hid hM
    have HNOD := Lib.hid hnod
    have HV := Lib.hid hv
    have IH := Lib.hid ih
    have HN := Lib.hid hnw
    clear hv hM hnod ih htext hnw
    go_enter Tryz.func56, Tryz.ntmps56
    go_wp2_with fail
    refine HT.out.mono ?_
    rintro e w1 ⟨rfl, hb1⟩
    have HM1 := Lib.hid (HM.out.under hb1)
    have HB1 := Lib.hid hb1
    have hs1 := hb1.size
    clear hb1 HT hmeth hnil hent
    go_wp2_with fail
    obtain ⟨W2, hW2⟩ : ∃ u, u = w1.alloc (.cells #[.string (str (tmT t)), .int .i64 z] 161) := ⟨_, rfl⟩
    rw [← hW2]
    have HB2 : Hid (Below w.heap.size w W2) := by show Below _ _ _; rw [hW2]; exact HB1.out.alloc hs1 _
    have hW2s : W2.heap.size = w1.heap.size + 1 := by rw [hW2]; simp
    have HRG : Hid (Row W2 w1.heap.size 161 [.string (str (tmT t)), .int .i64 z]) := by show Row _ _ _ _; rw [hW2]; exact Row.new _ _ _
    have HM2 := Lib.hid (HM.out.under HB2.out)
    obtain ⟨c0, hlk, hat⟩ := HM2.out.drew.look hl60 hzI
    have HMD := Lib.hid HM2.out.drew
    have HRD : Hid (Row W2.drew w1.heap.size 161 [.string (str (tmT t)), .int .i64 z]) := HRG.out
    have m4 := HMD.out.row.cell 4
    have g0 := HRD.out.cell 0
    have g1 := HRD.out.cell 1
    simp only [List.getElem?_cons_zero, List.getElem?_cons_succ] at m4 g0 g1
    unfold goalV at hlk
    have HAT := Lib.hid hat
    obtain ⟨hb, hhb⟩ : ∃ b, b = Maps.has D (goalK (str (tmT t)) z) := ⟨_, rfl⟩
    rw [← hhb] at hlk
    have HHB := Lib.hid hhb
    clear hW2 hat hhb HM1 HB1
    refine wp_region_inv (by kernel_rfl) (fun dn ac u => ∃ x20 x21 x22 x23 x24 x25 x19 x26 x27 x8 x9, ac = ⟨List.toArray (.pointer (some ⟨bm, 0, none⟩) :: .iface T x :: .int .i64 z :: undef :: undef :: undef :: .int .i64 0 :: .pointer (some ⟨w1.heap.size, 0, none⟩) :: x8 :: x9 :: undef :: undef :: undef :: undef :: undef :: .iface T x :: .string (str (tmT t)) :: .int .i64 z :: .agg #[.string (str (tmT t)), .int .i64 z] :: x19 :: x20 :: x21 :: x22 :: x23 :: x24 :: x25 :: x26 :: x27 :: undef :: undef :: undef :: undef :: undef :: undef :: undef :: undef :: undef :: undef :: undef :: undef :: undef :: undef :: undef :: undef :: undef :: undef :: undef :: undef :: undef :: undef :: undef :: undef :: undef :: undef :: undef :: undef :: undef :: undef :: undef :: undef :: undef :: undef :: undef :: undef :: undef :: undef :: undef :: undef :: undef :: undef :: undef :: undef :: undef :: undef :: undef :: undef :: undef :: undef :: undef :: undef :: undef :: undef :: undef :: undef :: undef :: undef :: undef :: undef :: []), []⟩ ∧ DetQ [fun v : Value => v = .pointer (some ⟨bm, 0, none⟩), fun v : Value => v = .pointer (some ⟨bm, 0, none⟩), fun v : Value => v = .pointer (some ⟨bm, 4, none⟩), fun v : Value => v = .map (some bc), fun v : Value => v = .agg #[.string (str (tmT t)), .int .i64 z], fun v : Value => v = .tuple #[.int .i64 c0, .bool hb], fun v : Value => v = .tuple #[.int .i64 c0, .bool hb], fun v : Value => v = .int .i64 c0, fun v : Value => v = .bool hb, fun v : Value => v = .int .i64 c0, fun v : Value => v = .bool hb] dn [x20, x21, x22, x23, x24, x25, x19, x26, x27, x8, x9] ∧ Ch dn [] (DrewW W2) u ∧ True) (of_decide_eq_true (by kernel_rfl)) ⟨_, _, _, _, _, _, _, _, _, _, _, rfl, DetQ.start (by rfl), Ch.start (show DrewW W2 0 W2.drew from rfl), trivial⟩ ?_ ?_
    · rintro dn ac u i8 op8 hop hfi hdep ⟨x20, x21, x22, x23, x24, x25, x19, x26, x27, x8, x9, rfl, hD, hC, -⟩
      have hil : i8 < 11 := by have := (Array.getElem?_eq_some_iff.1 hop).1; simpa using this
      obtain rfl | rfl | rfl | rfl | rfl | rfl | rfl | rfl | rfl | rfl | rfl : i8 = 0 ∨ i8 = 1 ∨ i8 = 2 ∨ i8 = 3 ∨ i8 = 4 ∨ i8 = 5 ∨ i8 = 6 ∨ i8 = 7 ∨ i8 = 8 ∨ i8 = 9 ∨ i8 = 10 := by omega
      all_goals
        obtain rfl := Option.some.inj hop
        refine wpOp_step hop fun K hK => ?_
        simp [Region.binds] at hdep
        clear hop
      · refine det_yes rfl ?_
        have HD := Lib.hid hD
        have HC := Lib.hid hC
        clear hD hC
        unfold Oper.wp
        go_simp
        exact hK _ _ ⟨_, _, _, _, _, _, _, _, _, _, _, rfl, HD.out.step 0 rfl rfl, HC.out.other 0 (by decide), trivial⟩
      · obtain rfl : x20 = .pointer (some ⟨bm, 0, none⟩) := hD.get (P := fun v : Value => v = .pointer (some ⟨bm, 0, none⟩)) 0 (by simp [hdep]) rfl rfl
        refine det_yes rfl ?_
        have HD := Lib.hid hD
        have HC := Lib.hid hC
        clear hD hC
        unfold Oper.wp
        go_simp
        exact hK _ _ ⟨_, _, _, _, _, _, _, _, _, _, _, rfl, HD.out.step 1 rfl rfl, HC.out.other 1 (by decide), trivial⟩
      · obtain rfl : x21 = .pointer (some ⟨bm, 0, none⟩) := hD.get (P := fun v : Value => v = .pointer (some ⟨bm, 0, none⟩)) 1 (by simp [hdep]) rfl rfl
        refine det_yes rfl ?_
        have HD := Lib.hid hD
        have HC := Lib.hid hC
        clear hD hC
        unfold Oper.wp
        go_simp
        exact hK _ _ ⟨_, _, _, _, _, _, _, _, _, _, _, rfl, HD.out.step 2 rfl rfl, HC.out.other 2 (by decide), trivial⟩
      · obtain rfl : x22 = .pointer (some ⟨bm, 4, none⟩) := hD.get (P := fun v : Value => v = .pointer (some ⟨bm, 4, none⟩)) 2 (by simp [hdep]) rfl rfl
        obtain ⟨j8, hj8, -, hW⟩ := hC.ex
        have hW9 : u = W2.drew := hW
        clear hW
        subst hW9
        refine det_yes rfl ?_
        have HD := Lib.hid hD
        have HC := Lib.hid hC
        clear hD hC
        unfold Oper.wp
        go_simp
        exact hK _ _ ⟨_, _, _, _, _, _, _, _, _, _, _, rfl, HD.out.step 3 rfl rfl, HC.out.other 3 (by decide), trivial⟩
      · obtain ⟨j8, hj8, -, hW⟩ := hC.ex
        have hW9 : u = W2.drew := hW
        clear hW
        subst hW9
        refine det_yes rfl ?_
        have HD := Lib.hid hD
        have HC := Lib.hid hC
        clear hD hC
        unfold Oper.wp
        go_simp
        exact hK _ _ ⟨_, _, _, _, _, _, _, _, _, _, _, rfl, HD.out.step 4 rfl rfl, HC.out.other 4 (by decide), trivial⟩
      · obtain rfl : x23 = .map (some bc) := hD.get (P := fun v : Value => v = .map (some bc)) 3 (by simp [hdep]) rfl rfl
        obtain rfl : x24 = .agg #[.string (str (tmT t)), .int .i64 z] := hD.get (P := fun v : Value => v = .agg #[.string (str (tmT t)), .int .i64 z]) 4 (by simp [hdep]) rfl rfl
        obtain ⟨j8, hj8, -, hW⟩ := hC.ex
        have hW9 : u = W2.drew := hW
        clear hW
        subst hW9
        refine det_yes rfl ?_
        have HD := Lib.hid hD
        have HC := Lib.hid hC
        clear hD hC
        unfold Oper.wp
        go_simp
        exact hK _ _ ⟨_, _, _, _, _, _, _, _, _, _, _, rfl, HD.out.step 5 rfl rfl, HC.out.other 5 (by decide), trivial⟩
      · obtain rfl : x25 = .tuple #[.int .i64 c0, .bool hb] := hD.get (P := fun v : Value => v = .tuple #[.int .i64 c0, .bool hb]) 5 (by simp [hdep]) rfl rfl
        refine det_yes rfl ?_
        have HD := Lib.hid hD
        have HC := Lib.hid hC
        clear hD hC
        unfold Oper.wp
        go_simp
        exact hK _ _ ⟨_, _, _, _, _, _, _, _, _, _, _, rfl, HD.out.step 6 rfl rfl, HC.out.other 6 (by decide), trivial⟩
      · obtain rfl : x19 = .tuple #[.int .i64 c0, .bool hb] := hD.get (P := fun v : Value => v = .tuple #[.int .i64 c0, .bool hb]) 6 (by simp [hdep]) rfl rfl
        refine det_yes rfl ?_
        have HD := Lib.hid hD
        have HC := Lib.hid hC
        clear hD hC
        unfold Oper.wp
        go_simp
        exact hK _ _ ⟨_, _, _, _, _, _, _, _, _, _, _, rfl, HD.out.step 7 rfl rfl, HC.out.other 7 (by decide), trivial⟩
      · obtain rfl : x19 = .tuple #[.int .i64 c0, .bool hb] := hD.get (P := fun v : Value => v = .tuple #[.int .i64 c0, .bool hb]) 6 (by simp [hdep]) rfl rfl
        refine det_yes rfl ?_
        have HD := Lib.hid hD
        have HC := Lib.hid hC
        clear hD hC
        unfold Oper.wp
        go_simp
        exact hK _ _ ⟨_, _, _, _, _, _, _, _, _, _, _, rfl, HD.out.step 8 rfl rfl, HC.out.other 8 (by decide), trivial⟩
      · obtain rfl : x26 = .int .i64 c0 := hD.get (P := fun v : Value => v = .int .i64 c0) 7 (by simp [hdep]) rfl rfl
        refine det_yes rfl ?_
        have HD := Lib.hid hD
        have HC := Lib.hid hC
        clear hD hC
        unfold Oper.wp
        go_simp
        exact hK _ _ ⟨_, _, _, _, _, _, _, _, _, _, _, rfl, HD.out.step 9 rfl rfl, HC.out.other 9 (by decide), trivial⟩
      · obtain rfl : x27 = .bool hb := hD.get (P := fun v : Value => v = .bool hb) 8 (by simp [hdep]) rfl rfl
        refine det_yes rfl ?_
        have HD := Lib.hid hD
        have HC := Lib.hid hC
        clear hD hC
        unfold Oper.wp
        go_simp
        exact hK _ _ ⟨_, _, _, _, _, _, _, _, _, _, _, rfl, HD.out.step 10 rfl rfl, HC.out.other 10 (by decide), trivial⟩
    · rintro dn ac u hall ⟨x20, x21, x22, x23, x24, x25, x19, x26, x27, x8, x9, rfl, hD, hC, -⟩
      obtain rfl : x20 = .pointer (some ⟨bm, 0, none⟩) := hD.get (P := fun v : Value => v = .pointer (some ⟨bm, 0, none⟩)) 0 (hall 0 (by decide)) rfl rfl
      obtain rfl : x21 = .pointer (some ⟨bm, 0, none⟩) := hD.get (P := fun v : Value => v = .pointer (some ⟨bm, 0, none⟩)) 1 (hall 1 (by decide)) rfl rfl
      obtain rfl : x22 = .pointer (some ⟨bm, 4, none⟩) := hD.get (P := fun v : Value => v = .pointer (some ⟨bm, 4, none⟩)) 2 (hall 2 (by decide)) rfl rfl
      obtain rfl : x23 = .map (some bc) := hD.get (P := fun v : Value => v = .map (some bc)) 3 (hall 3 (by decide)) rfl rfl
      obtain rfl : x24 = .agg #[.string (str (tmT t)), .int .i64 z] := hD.get (P := fun v : Value => v = .agg #[.string (str (tmT t)), .int .i64 z]) 4 (hall 4 (by decide)) rfl rfl
      obtain rfl : x25 = .tuple #[.int .i64 c0, .bool hb] := hD.get (P := fun v : Value => v = .tuple #[.int .i64 c0, .bool hb]) 5 (hall 5 (by decide)) rfl rfl
      obtain rfl : x19 = .tuple #[.int .i64 c0, .bool hb] := hD.get (P := fun v : Value => v = .tuple #[.int .i64 c0, .bool hb]) 6 (hall 6 (by decide)) rfl rfl
      obtain rfl : x26 = .int .i64 c0 := hD.get (P := fun v : Value => v = .int .i64 c0) 7 (hall 7 (by decide)) rfl rfl
      obtain rfl : x27 = .bool hb := hD.get (P := fun v : Value => v = .bool hb) 8 (hall 8 (by decide)) rfl rfl
      obtain rfl : x8 = .int .i64 c0 := hD.get (P := fun v : Value => v = .int .i64 c0) 9 (hall 9 (by decide)) rfl rfl
      obtain rfl : x9 = .bool hb := hD.get (P := fun v : Value => v = .bool hb) 10 (hall 10 (by decide)) rfl rfl
      obtain ⟨j8, hj8, -, hW⟩ := hC.ex
      clear hall hD hC
      have hW9 : u = W2.drew := hW
      clear hW
      subst hW9
      cases hb with
      | true =>
        have hmem := HMD.out.memo t z hok hl60 hzI HHB.out.symm
        rw [HAT.out] at hmem
        obtain rfl : c0 = (cntT y t z : Nat) := by injection hmem with h; injection h
        clear m4 g0 g1 hlk hmem
        go_wp2
        try rw [Exit.noGoto_ret]
        refine bodyPost_ret (v := .int .i64 (cntT y t z : Nat)) (by simp [results, Tryz.results56, go_sem]) rfl ?_
        exact ⟨rfl, ((Keep.refl bc w).of_below HB2.out).of_below ((Below.refl _ _).drew), n, D, by omega, HMD.out⟩
      | false =>
        clear m4 g0 g1 hlk HAT HHB
        cases hc : isCallT t with
        | false =>
          obtain ⟨k, lv, rfl, hox⟩ := HNOD.out.lit hc
          obtain ⟨rfl, rfl⟩ : T = 164 ∧ x = .agg #[.int .i64 k, .int .i64 lv] := by injection hox with h1 h2; exact ⟨h1, h2⟩
          clear hox hc HNOD
          have fL := asLL
          go_wp2_with fail
          clear fL
          obtain ⟨W3, hW3⟩ : ∃ u, u = (W2.alloc (.cells #[.int .i64 k, .int .i64 lv] 164)).drew := ⟨_, rfl⟩
          rw [← hW3]
          have HB3 : Hid (Below w.heap.size w W3) := by show Below _ _ _; rw [hW3]; exact (HB2.out.alloc HB2.out.size _).drew
          have HB23 : Hid (Below W2.heap.size W2 W3) := by show Below _ _ _; rw [hW3]; exact ((Below.refl _ _).alloc (Nat.le_refl _) _).drew
          have hW3s : W3.heap.size = W2.heap.size + 1 := by rw [hW3]; simp [World.drew]
          have HRL : Hid (Row W3 (w1.heap.size + 1) 164 [.int .i64 k, .int .i64 lv]) := by
            show Row _ _ _ _
            rw [hW3, ← hW2s]
            exact Row.new W2 _ _
          have HM3 := Lib.hid (HM2.out.under HB23.out)
          have HRG3 : Hid (Row W3 w1.heap.size 161 [.string (str (tmT (.lit k lv))), .int .i64 z]) := HRG.out.below HB23.out (by omega)
          have HLD : Hid (∀ u, Below W3.heap.size W3 u → u.cell? ⟨bm, 0, none⟩ = some (.slice A1 y.ty.sizes.length cap1) ∧ u.cell? ⟨bm, 1, none⟩ = some (.slice A2 y.ty.cos.length cap2) ∧ u.cell? ⟨w1.heap.size + 1, 0, none⟩ = some (.int .i64 k) ∧ u.cell? ⟨w1.heap.size + 1, 1, none⟩ = some (.int .i64 lv)) := by
            intro u hu
            have a0 := (HM3.out.row.below hu HM3.out.row.lt).cell 0
            have a1 := (HM3.out.row.below hu HM3.out.row.lt).cell 1
            have a2 := (HRL.out.below hu HRL.out.lt).cell 0
            have a3 := (HRL.out.below hu HRL.out.lt).cell 1
            simp only [List.getElem?_cons_zero, List.getElem?_cons_succ] at a0 a1 a2 a3
            exact ⟨a0, a1, a2, a3⟩
          have HHAS : Hid (∀ u, Below W3.heap.size W3 u → Calls Tryz.prog 97 #[.agg #[.slice A1 y.ty.sizes.length cap1, .slice A2 y.ty.cos.length cap2], .int .i64 k, .int .i64 lv] u fun e w' => e = .returned (.bool (hasV0 y.ty.sizes k lv)) ∧ Below u.heap.size u w') := by
            intro u hu
            have hhv : hasV y.ty k lv = hasV0 y.ty.sizes k lv := by unfold hasV; rw [hy.ty, Bool.true_and]
            have h := implHas_any lo hi _ _ y.ty k lv u (HV.out.1.keep fun b _ hb => ((HM3.out.under hu).old.block b (by omega))) (by have := HM3.out.old.size; have := hu.size; omega)
            rwa [hhv] at h
          clear hW3
          refine wp_region_inv (by kernel_rfl) (fun dn ac u => ∃ x34 x35 x36 x37 x38 x39 x40 x41 x42 x43, ac = ⟨List.toArray (.pointer (some ⟨bm, 0, none⟩) :: .iface 164 (.agg #[.int .i64 k, .int .i64 lv]) :: .int .i64 z :: undef :: undef :: undef :: .int .i64 0 :: .pointer (some ⟨w1.heap.size, 0, none⟩) :: .int .i64 c0 :: .bool false :: .int .i64 0 :: .pointer (some ⟨w1.heap.size + 1, 0, none⟩) :: undef :: undef :: undef :: .iface 164 (.agg #[.int .i64 k, .int .i64 lv]) :: .string (str (tmT (Tm.lit k lv))) :: .int .i64 z :: .agg #[.string (str (tmT (Tm.lit k lv))), .int .i64 z] :: .tuple #[.int .i64 c0, .bool false] :: .pointer (some ⟨bm, 0, none⟩) :: .pointer (some ⟨bm, 0, none⟩) :: .pointer (some ⟨bm, 4, none⟩) :: .map (some bc) :: .agg #[.string (str (tmT (Tm.lit k lv))), .int .i64 z] :: .tuple #[.int .i64 c0, .bool false] :: .int .i64 c0 :: .bool false :: .bool false :: undef :: .iface 164 (.agg #[.int .i64 k, .int .i64 lv]) :: .tuple #[.agg #[.int .i64 k, .int .i64 lv], .bool true] :: .bool true :: .agg #[.int .i64 k, .int .i64 lv] :: x34 :: x35 :: x36 :: x37 :: x38 :: x39 :: x40 :: x41 :: x42 :: x43 :: undef :: undef :: undef :: undef :: undef :: undef :: undef :: undef :: undef :: undef :: undef :: undef :: undef :: undef :: undef :: undef :: undef :: undef :: undef :: undef :: undef :: undef :: undef :: undef :: undef :: undef :: undef :: undef :: undef :: undef :: undef :: undef :: undef :: undef :: undef :: undef :: undef :: undef :: undef :: undef :: undef :: undef :: undef :: undef :: []), []⟩ ∧ DetQ [fun v : Value => v = .pointer (some ⟨bm, 0, none⟩), fun v : Value => v = .pointer (some ⟨bm, 0, none⟩), fun v : Value => v = .pointer (some ⟨bm, 0, none⟩), fun v : Value => v = .pointer (some ⟨bm, 0, none⟩), fun v : Value => v = .agg #[.slice A1 y.ty.sizes.length cap1, .slice A2 y.ty.cos.length cap2], fun v : Value => v = .pointer (some ⟨w1.heap.size + 1, 0, none⟩), fun v : Value => v = .int .i64 k, fun v : Value => v = .pointer (some ⟨w1.heap.size + 1, 1, none⟩), fun v : Value => v = .int .i64 lv, fun v : Value => v = .bool (hasV0 y.ty.sizes k lv)] dn [x34, x35, x36, x37, x38, x39, x40, x41, x42, x43] ∧ Ch dn [9] (LowW W3) u ∧ True) (of_decide_eq_true (by kernel_rfl)) ⟨_, _, _, _, _, _, _, _, _, _, rfl, DetQ.start (by rfl), Ch.start (show LowW W3 0 W3.drew from (Below.refl _ _).drew), trivial⟩ ?_ ?_
          · rintro dn ac u i8 op8 hop hfi hdep ⟨x34, x35, x36, x37, x38, x39, x40, x41, x42, x43, rfl, hD, hC, -⟩
            have hil : i8 < 10 := by have := (Array.getElem?_eq_some_iff.1 hop).1; simpa using this
            obtain rfl | rfl | rfl | rfl | rfl | rfl | rfl | rfl | rfl | rfl : i8 = 0 ∨ i8 = 1 ∨ i8 = 2 ∨ i8 = 3 ∨ i8 = 4 ∨ i8 = 5 ∨ i8 = 6 ∨ i8 = 7 ∨ i8 = 8 ∨ i8 = 9 := by omega
            all_goals
              obtain rfl := Option.some.inj hop
              refine wpOp_step hop fun K hK => ?_
              simp [Region.binds] at hdep
              clear hop
            · refine det_yes rfl ?_
              have HD := Lib.hid hD
              have HC := Lib.hid hC
              clear hD hC
              unfold Oper.wp
              go_simp
              exact hK _ _ ⟨_, _, _, _, _, _, _, _, _, _, rfl, HD.out.step 0 rfl rfl, HC.out.other 0 (by decide), trivial⟩
            · obtain rfl : x34 = .pointer (some ⟨bm, 0, none⟩) := hD.get (P := fun v : Value => v = .pointer (some ⟨bm, 0, none⟩)) 0 (by simp [hdep]) rfl rfl
              refine det_yes rfl ?_
              have HD := Lib.hid hD
              have HC := Lib.hid hC
              clear hD hC
              unfold Oper.wp
              go_simp
              exact hK _ _ ⟨_, _, _, _, _, _, _, _, _, _, rfl, HD.out.step 1 rfl rfl, HC.out.other 1 (by decide), trivial⟩
            · obtain rfl : x35 = .pointer (some ⟨bm, 0, none⟩) := hD.get (P := fun v : Value => v = .pointer (some ⟨bm, 0, none⟩)) 1 (by simp [hdep]) rfl rfl
              refine det_yes rfl ?_
              have HD := Lib.hid hD
              have HC := Lib.hid hC
              clear hD hC
              unfold Oper.wp
              go_simp
              exact hK _ _ ⟨_, _, _, _, _, _, _, _, _, _, rfl, HD.out.step 2 rfl rfl, HC.out.other 2 (by decide), trivial⟩
            · obtain rfl : x36 = .pointer (some ⟨bm, 0, none⟩) := hD.get (P := fun v : Value => v = .pointer (some ⟨bm, 0, none⟩)) 2 (by simp [hdep]) rfl rfl
              refine det_yes rfl ?_
              have HD := Lib.hid hD
              have HC := Lib.hid hC
              clear hD hC
              unfold Oper.wp
              go_simp
              exact hK _ _ ⟨_, _, _, _, _, _, _, _, _, _, rfl, HD.out.step 3 rfl rfl, HC.out.other 3 (by decide), trivial⟩
            · obtain rfl : x37 = .pointer (some ⟨bm, 0, none⟩) := hD.get (P := fun v : Value => v = .pointer (some ⟨bm, 0, none⟩)) 3 (by simp [hdep]) rfl rfl
              obtain ⟨j8, hj8, -, hW⟩ := hC.ex
              have hbu : Below W3.heap.size W3 u := hW
              clear hW
              obtain ⟨d1, d2, -⟩ := HLD.out u hbu
              refine det_yes rfl ?_
              have HD := Lib.hid hD
              have HC := Lib.hid hC
              clear hD hC
              unfold Oper.wp
              go_simp
              exact hK _ _ ⟨_, _, _, _, _, _, _, _, _, _, rfl, HD.out.step 4 rfl rfl, HC.out.other 4 (by decide), trivial⟩
            · refine det_yes rfl ?_
              have HD := Lib.hid hD
              have HC := Lib.hid hC
              clear hD hC
              unfold Oper.wp
              go_simp
              exact hK _ _ ⟨_, _, _, _, _, _, _, _, _, _, rfl, HD.out.step 5 rfl rfl, HC.out.other 5 (by decide), trivial⟩
            · obtain rfl : x39 = .pointer (some ⟨w1.heap.size + 1, 0, none⟩) := hD.get (P := fun v : Value => v = .pointer (some ⟨w1.heap.size + 1, 0, none⟩)) 5 (by simp [hdep]) rfl rfl
              obtain ⟨j8, hj8, -, hW⟩ := hC.ex
              have hbu : Below W3.heap.size W3 u := hW
              clear hW
              obtain ⟨-, -, d1, -⟩ := HLD.out u hbu
              refine det_yes rfl ?_
              have HD := Lib.hid hD
              have HC := Lib.hid hC
              clear hD hC
              unfold Oper.wp
              go_simp
              exact hK _ _ ⟨_, _, _, _, _, _, _, _, _, _, rfl, HD.out.step 6 rfl rfl, HC.out.other 6 (by decide), trivial⟩
            · refine det_yes rfl ?_
              have HD := Lib.hid hD
              have HC := Lib.hid hC
              clear hD hC
              unfold Oper.wp
              go_simp
              exact hK _ _ ⟨_, _, _, _, _, _, _, _, _, _, rfl, HD.out.step 7 rfl rfl, HC.out.other 7 (by decide), trivial⟩
            · obtain rfl : x41 = .pointer (some ⟨w1.heap.size + 1, 1, none⟩) := hD.get (P := fun v : Value => v = .pointer (some ⟨w1.heap.size + 1, 1, none⟩)) 7 (by simp [hdep]) rfl rfl
              obtain ⟨j8, hj8, -, hW⟩ := hC.ex
              have hbu : Below W3.heap.size W3 u := hW
              clear hW
              obtain ⟨-, -, -, d1⟩ := HLD.out u hbu
              refine det_yes rfl ?_
              have HD := Lib.hid hD
              have HC := Lib.hid hC
              clear hD hC
              unfold Oper.wp
              go_simp
              exact hK _ _ ⟨_, _, _, _, _, _, _, _, _, _, rfl, HD.out.step 8 rfl rfl, HC.out.other 8 (by decide), trivial⟩
            · obtain rfl : x38 = .agg #[.slice A1 y.ty.sizes.length cap1, .slice A2 y.ty.cos.length cap2] := hD.get (P := fun v : Value => v = .agg #[.slice A1 y.ty.sizes.length cap1, .slice A2 y.ty.cos.length cap2]) 4 (by simp [hdep]) rfl rfl
              obtain rfl : x40 = .int .i64 k := hD.get (P := fun v : Value => v = .int .i64 k) 6 (by simp [hdep]) rfl rfl
              obtain rfl : x42 = .int .i64 lv := hD.get (P := fun v : Value => v = .int .i64 lv) 8 (by simp [hdep]) rfl rfl
              have hW := hC.at_ 0 (by decide) hfi (by intro j9 e9 _; omega)
              refine det_yes rfl ?_
              have HD := Lib.hid hD
              have HC := Lib.hid hC
              clear hD hC
              have hbu : Below W3.heap.size W3 u := hW
              clear hW
              unfold Oper.wp
              go_simp
              refine (HHAS.out u hbu).mono ?_
              rintro e u2 ⟨rfl, hb8⟩
              have HW2 : LowW W3 1 u2 := hbu.trans (hb8.mono hbu.size)
              exact hK _ _ ⟨_, _, _, _, _, _, _, _, _, _, rfl, HD.out.step 9 rfl (by rfl), HC.out.next 0 (by decide) hfi (by intro j9 e9 _; omega) (by decide) HW2, trivial⟩
          · rintro dn ac u hall ⟨x34, x35, x36, x37, x38, x39, x40, x41, x42, x43, rfl, hD, hC, -⟩
            obtain rfl : x34 = .pointer (some ⟨bm, 0, none⟩) := hD.get (P := fun v : Value => v = .pointer (some ⟨bm, 0, none⟩)) 0 (hall 0 (by decide)) rfl rfl
            obtain rfl : x35 = .pointer (some ⟨bm, 0, none⟩) := hD.get (P := fun v : Value => v = .pointer (some ⟨bm, 0, none⟩)) 1 (hall 1 (by decide)) rfl rfl
            obtain rfl : x36 = .pointer (some ⟨bm, 0, none⟩) := hD.get (P := fun v : Value => v = .pointer (some ⟨bm, 0, none⟩)) 2 (hall 2 (by decide)) rfl rfl
            obtain rfl : x37 = .pointer (some ⟨bm, 0, none⟩) := hD.get (P := fun v : Value => v = .pointer (some ⟨bm, 0, none⟩)) 3 (hall 3 (by decide)) rfl rfl
            obtain rfl : x38 = .agg #[.slice A1 y.ty.sizes.length cap1, .slice A2 y.ty.cos.length cap2] := hD.get (P := fun v : Value => v = .agg #[.slice A1 y.ty.sizes.length cap1, .slice A2 y.ty.cos.length cap2]) 4 (hall 4 (by decide)) rfl rfl
            obtain rfl : x39 = .pointer (some ⟨w1.heap.size + 1, 0, none⟩) := hD.get (P := fun v : Value => v = .pointer (some ⟨w1.heap.size + 1, 0, none⟩)) 5 (hall 5 (by decide)) rfl rfl
            obtain rfl : x40 = .int .i64 k := hD.get (P := fun v : Value => v = .int .i64 k) 6 (hall 6 (by decide)) rfl rfl
            obtain rfl : x41 = .pointer (some ⟨w1.heap.size + 1, 1, none⟩) := hD.get (P := fun v : Value => v = .pointer (some ⟨w1.heap.size + 1, 1, none⟩)) 7 (hall 7 (by decide)) rfl rfl
            obtain rfl : x42 = .int .i64 lv := hD.get (P := fun v : Value => v = .int .i64 lv) 8 (hall 8 (by decide)) rfl rfl
            obtain rfl : x43 = .bool (hasV0 y.ty.sizes k lv) := hD.get (P := fun v : Value => v = .bool (hasV0 y.ty.sizes k lv)) 9 (hall 9 (by decide)) rfl rfl
            have hW := hC.all (by intro j9 h9; exact hall _ (by revert j9; decide))
            clear hall hD hC
            have HB8 : Hid (Below W3.heap.size W3 u) := hW
            clear hW HHAS
            have HBU : Hid (Below w.heap.size w u) := HB3.out.trans (HB8.out.mono HB3.out.size)
            have hus := HB8.out.size
            have HMU := Lib.hid (HM3.out.under HB8.out)
            have HRU := Lib.hid (HRG3.out.below HB8.out (by omega))
            obtain ⟨-, -, l0, l1⟩ := HLD.out u HB8.out
            cases hh : hasV0 y.ty.sizes k lv with
            | true =>
              have hk : 0 ≤ k ∧ k < y.ty.sizes.length := by
                unfold hasV0 ixB at hh
                simp only [Bool.and_eq_true, decide_eq_true_eq] at hh
                exact hh.1
              have HCN : Hid (capN (waysOf y.ty k z).length = cntT y (.lit k lv) z) := by show _ = _; rw [cntT, if_pos hh]; rfl
              have hwl : (waysOf y.ty k z).length ≤ 32768 := waysOf_len hy.ty _ _
              have HWC := Lib.hid (wayCount_any lo hi bf bm _ _ _ _ y.ty k z u (HV.out.1.keep fun b _ hb => (HMU.out.old.block b (by omega))) (by have := HMU.out.old.size; omega) HMU.out.fin HMU.out.row (typesB_in hy hk hz))
              clear hh hk HLD
              go_wp2_with fail
              refine HWC.out.mono ?_
              clear HWC l0 l1
              rintro e w5 ⟨rfl, hb5⟩
              have HM5 := Lib.hid (HMU.out.under hb5)
              have HR5 := Lib.hid (HRU.out.below hb5 (by omega))
              have HB5 : Hid (Below w.heap.size w w5) := HBU.out.trans (hb5.mono HBU.out.size)
              clear hb5
              obtain ⟨WN, hWN⟩ : ∃ n, n = (waysOf y.ty k z).length := ⟨_, rfl⟩
              rw [← hWN] at HCN hwl ⊢
              clear hWN
              go_wp2_with fail
              have hgr18 := grow_lit (.lit k lv) hok
              obtain ⟨w9, hrun9, hkeep9, hnew9⟩ := HM5.out.drew.upd hok hl60 hzI (by omega)
              rw [← HCN.out, capI] at hrun9
              have HLT : Hid (∀ u, Keep bc w5.drew u → u.cell? ⟨bm, 4, none⟩ = some (.map (some bc)) ∧ u.cell? ⟨w1.heap.size, 0, none⟩ = some (.string (str (tmT (Tm.lit k lv)))) ∧ u.cell? ⟨w1.heap.size, 1, none⟩ = some (.int .i64 z)) := by
                intro u hu
                have rm := HM5.out.drew.row
                have rg : Row w5.drew w1.heap.size 161 [.string (str (tmT (Tm.lit k lv))), .int .i64 z] := HR5.out
                have a0 := (rm.keep (hu.block rm.lt (fun e => HM5.out.nm e.symm))).cell 4
                have a1 := (rg.keep (hu.block rg.lt (fun e => by have := HM.out.own.lt; omega))).cell 0
                have a2 := (rg.keep (hu.block rg.lt (fun e => by have := HM.out.own.lt; omega))).cell 1
                simp only [List.getElem?_cons_zero, List.getElem?_cons_succ] at a0 a1 a2
                exact ⟨a0, a1, a2⟩
              have HNEW := Lib.hid hnew9
              have HKEEP := Lib.hid hkeep9
              have HRUN := Lib.hid hrun9
              clear hrun9 hkeep9 hnew9
              refine wp_region_inv (by kernel_rfl) (fun dn ac u => ∃ x75 x76 x77 x78 x79 x80 x81 y7, ac = ⟨List.toArray (.pointer (some ⟨bm, 0, none⟩) :: .iface 164 (.agg #[.int .i64 k, .int .i64 lv]) :: .int .i64 z :: undef :: undef :: undef :: .int .i64 0 :: .pointer (some ⟨w1.heap.size, 0, none⟩) :: .int .i64 c0 :: .bool false :: .int .i64 ((WN : Nat) : Int) :: .pointer (some ⟨w1.heap.size + 1, 0, none⟩) :: undef :: undef :: undef :: .iface 164 (.agg #[.int .i64 k, .int .i64 lv]) :: .string (str (tmT (Tm.lit k lv))) :: .int .i64 z :: .agg #[.string (str (tmT (Tm.lit k lv))), .int .i64 z] :: .tuple #[.int .i64 c0, .bool false] :: .pointer (some ⟨bm, 0, none⟩) :: .pointer (some ⟨bm, 0, none⟩) :: .pointer (some ⟨bm, 4, none⟩) :: .map (some bc) :: .agg #[.string (str (tmT (Tm.lit k lv))), .int .i64 z] :: .tuple #[.int .i64 c0, .bool false] :: .int .i64 c0 :: .bool false :: .bool false :: undef :: .iface 164 (.agg #[.int .i64 k, .int .i64 lv]) :: .tuple #[.agg #[.int .i64 k, .int .i64 lv], .bool true] :: .bool true :: .agg #[.int .i64 k, .int .i64 lv] :: .pointer (some ⟨bm, 0, none⟩) :: .pointer (some ⟨bm, 0, none⟩) :: .pointer (some ⟨bm, 0, none⟩) :: .pointer (some ⟨bm, 0, none⟩) :: .agg #[.slice A1 y.ty.sizes.length cap1, .slice A2 y.ty.cos.length cap2] :: .pointer (some ⟨w1.heap.size + 1, 0, none⟩) :: .int .i64 k :: .pointer (some ⟨w1.heap.size + 1, 1, none⟩) :: .int .i64 lv :: .bool true :: .pointer (some ⟨bm, 0, none⟩) :: .pointer (some ⟨w1.heap.size + 1, 0, none⟩) :: .int .i64 k :: .int .i64 z :: .int .i64 ((WN : Nat) : Int) :: undef :: undef :: undef :: undef :: undef :: undef :: undef :: undef :: undef :: undef :: undef :: undef :: undef :: undef :: undef :: undef :: undef :: undef :: undef :: undef :: undef :: undef :: undef :: undef :: undef :: undef :: x75 :: x76 :: x77 :: x78 :: x79 :: x80 :: x81 :: undef :: undef :: undef :: undef :: undef :: undef :: []), []⟩ ∧ DetQ [fun v : Value => v = .pointer (some ⟨bm, 0, none⟩), fun v : Value => v = .pointer (some ⟨bm, 0, none⟩), fun v : Value => v = .pointer (some ⟨bm, 4, none⟩), fun v : Value => v = .map (some bc), fun v : Value => v = .agg #[.string (str (tmT (Tm.lit k lv))), .int .i64 z], fun v : Value => v = .int .i64 ((WN : Nat) : Int), fun v : Value => v = .int .i64 (min ((WN : Nat) : Int) 151), fun v : Value => True] dn [x75, x76, x77, x78, x79, x80, x81, y7] ∧ Ch dn [7] (MapW w0 w5.drew bm bf bc (.slice A1 y.ty.sizes.length cap1) (.slice A2 y.ty.cos.length cap2) (.slice A3 y.fs.length cap3) y (n + 1) (D.put (goalK (str (tmT (Tm.lit k lv))) z) (.lit (.int .i64 (cntT y (Tm.lit k lv) z : Nat))))) u ∧ True) (of_decide_eq_true (by kernel_rfl)) ⟨_, _, _, _, _, _, _, .bool true, rfl, DetQ.start (by rfl), Ch.start (show (MapW w0 w5.drew bm bf bc (.slice A1 y.ty.sizes.length cap1) (.slice A2 y.ty.cos.length cap2) (.slice A3 y.fs.length cap3) y (n + 1) (D.put (goalK (str (tmT (Tm.lit k lv))) z) (.lit (.int .i64 (cntT y (Tm.lit k lv) z : Nat))))) 0 w5.drew from ⟨Keep.refl _ _, fun _ => rfl, fun h => absurd h (by decide)⟩), trivial⟩ ?_ ?_
              · rintro dn ac u i8 op8 hop hfi hdep ⟨x75, x76, x77, x78, x79, x80, x81, y7, rfl, hD, hC, -⟩
                have hil : i8 < 8 := by have := (Array.getElem?_eq_some_iff.1 hop).1; simpa using this
                obtain rfl | rfl | rfl | rfl | rfl | rfl | rfl | rfl : i8 = 0 ∨ i8 = 1 ∨ i8 = 2 ∨ i8 = 3 ∨ i8 = 4 ∨ i8 = 5 ∨ i8 = 6 ∨ i8 = 7 := by omega
                all_goals
                  obtain rfl := Option.some.inj hop
                  refine wpOp_step hop fun K hK => ?_
                  simp [Region.binds] at hdep
                  clear hop
                · refine det_yes rfl ?_
                  have HD := Lib.hid hD
                  have HC := Lib.hid hC
                  clear hD hC
                  unfold Oper.wp
                  go_simp
                  exact hK _ _ ⟨_, _, _, _, _, _, _, y7, rfl, HD.out.step 0 rfl rfl, HC.out.other 0 (by decide), trivial⟩
                · obtain rfl : x75 = .pointer (some ⟨bm, 0, none⟩) := hD.get (P := fun v : Value => v = .pointer (some ⟨bm, 0, none⟩)) 0 (by simp [hdep]) rfl rfl
                  refine det_yes rfl ?_
                  have HD := Lib.hid hD
                  have HC := Lib.hid hC
                  clear hD hC
                  unfold Oper.wp
                  go_simp
                  exact hK _ _ ⟨_, _, _, _, _, _, _, y7, rfl, HD.out.step 1 rfl rfl, HC.out.other 1 (by decide), trivial⟩
                · obtain rfl : x76 = .pointer (some ⟨bm, 0, none⟩) := hD.get (P := fun v : Value => v = .pointer (some ⟨bm, 0, none⟩)) 1 (by simp [hdep]) rfl rfl
                  refine det_yes rfl ?_
                  have HD := Lib.hid hD
                  have HC := Lib.hid hC
                  clear hD hC
                  unfold Oper.wp
                  go_simp
                  exact hK _ _ ⟨_, _, _, _, _, _, _, y7, rfl, HD.out.step 2 rfl rfl, HC.out.other 2 (by decide), trivial⟩
                · obtain rfl : x77 = .pointer (some ⟨bm, 4, none⟩) := hD.get (P := fun v : Value => v = .pointer (some ⟨bm, 4, none⟩)) 2 (by simp [hdep]) rfl rfl
                  obtain ⟨j8, hj8, -, hW⟩ := hC.ex
                  have hbu : Keep bc w5.drew u := hW.1
                  clear hW
                  obtain ⟨d1, d2, d3⟩ := HLT.out u hbu
                  refine det_yes rfl ?_
                  have HD := Lib.hid hD
                  have HC := Lib.hid hC
                  clear hD hC
                  unfold Oper.wp
                  go_simp
                  exact hK _ _ ⟨_, _, _, _, _, _, _, y7, rfl, HD.out.step 3 rfl rfl, HC.out.other 3 (by decide), trivial⟩
                · obtain ⟨j8, hj8, -, hW⟩ := hC.ex
                  have hbu : Keep bc w5.drew u := hW.1
                  clear hW
                  obtain ⟨d1, d2, d3⟩ := HLT.out u hbu
                  refine det_yes rfl ?_
                  have HD := Lib.hid hD
                  have HC := Lib.hid hC
                  clear hD hC
                  unfold Oper.wp
                  go_simp
                  exact hK _ _ ⟨_, _, _, _, _, _, _, y7, rfl, HD.out.step 4 rfl rfl, HC.out.other 4 (by decide), trivial⟩
                · refine det_yes rfl ?_
                  have HD := Lib.hid hD
                  have HC := Lib.hid hC
                  clear hD hC
                  unfold Oper.wp
                  go_simp
                  exact hK _ _ ⟨_, _, _, _, _, _, _, y7, rfl, HD.out.step 5 rfl rfl, HC.out.other 5 (by decide), trivial⟩
                · obtain rfl : x80 = .int .i64 ((WN : Nat) : Int) := hD.get (P := fun v : Value => v = .int .i64 ((WN : Nat) : Int)) 5 (by simp [hdep]) rfl rfl
                  refine det_yes rfl ?_
                  have HD := Lib.hid hD
                  have HC := Lib.hid hC
                  clear hD hC
                  unfold Oper.wp
                  go_simp
                  exact hK _ _ ⟨_, _, _, _, _, _, _, y7, rfl, HD.out.step 6 rfl rfl, HC.out.other 6 (by decide), trivial⟩
                · obtain rfl : x78 = .map (some bc) := hD.get (P := fun v : Value => v = .map (some bc)) 3 (by simp [hdep]) rfl rfl
                  obtain rfl : x79 = .agg #[.string (str (tmT (Tm.lit k lv))), .int .i64 z] := hD.get (P := fun v : Value => v = .agg #[.string (str (tmT (Tm.lit k lv))), .int .i64 z]) 4 (by simp [hdep]) rfl rfl
                  obtain rfl : x81 = .int .i64 (min ((WN : Nat) : Int) 151) := hD.get (P := fun v : Value => v = .int .i64 (min ((WN : Nat) : Int) 151)) 6 (by simp [hdep]) rfl rfl
                  have hW := hC.at_ 0 (by decide) hfi (by intro j9 e9 _; omega)
                  refine det_yes rfl ?_
                  have HD := Lib.hid hD
                  have HC := Lib.hid hC
                  clear hD hC
                  obtain ⟨-, h0, -⟩ := hW
                  have e9 : u = w5.drew := h0 rfl
                  clear h0
                  subst e9
                  have hrun9 := HRUN.out
                  unfold Oper.wp
                  go_simp
                  have HW2 : (MapW w0 w5.drew bm bf bc (.slice A1 y.ty.sizes.length cap1) (.slice A2 y.ty.cos.length cap2) (.slice A3 y.fs.length cap3) y (n + 1) (D.put (goalK (str (tmT (Tm.lit k lv))) z) (.lit (.int .i64 (cntT y (Tm.lit k lv) z : Nat))))) 1 w9 := ⟨HKEEP.out, fun h => absurd h (by decide), fun _ => HNEW.out⟩
                  exact hK _ _ ⟨_, _, _, _, _, _, _, .bool true, rfl, HD.out.step 7 rfl (by trivial), HC.out.next 0 (by decide) hfi (by intro j9 e9 _; omega) (by decide) HW2, trivial⟩
              · rintro dn ac u hall ⟨x75, x76, x77, x78, x79, x80, x81, y7, rfl, hD, hC, -⟩
                obtain rfl : x75 = .pointer (some ⟨bm, 0, none⟩) := hD.get (P := fun v : Value => v = .pointer (some ⟨bm, 0, none⟩)) 0 (hall 0 (by decide)) rfl rfl
                obtain rfl : x76 = .pointer (some ⟨bm, 0, none⟩) := hD.get (P := fun v : Value => v = .pointer (some ⟨bm, 0, none⟩)) 1 (hall 1 (by decide)) rfl rfl
                obtain rfl : x77 = .pointer (some ⟨bm, 4, none⟩) := hD.get (P := fun v : Value => v = .pointer (some ⟨bm, 4, none⟩)) 2 (hall 2 (by decide)) rfl rfl
                obtain rfl : x78 = .map (some bc) := hD.get (P := fun v : Value => v = .map (some bc)) 3 (hall 3 (by decide)) rfl rfl
                obtain rfl : x79 = .agg #[.string (str (tmT (Tm.lit k lv))), .int .i64 z] := hD.get (P := fun v : Value => v = .agg #[.string (str (tmT (Tm.lit k lv))), .int .i64 z]) 4 (hall 4 (by decide)) rfl rfl
                obtain rfl : x80 = .int .i64 ((WN : Nat) : Int) := hD.get (P := fun v : Value => v = .int .i64 ((WN : Nat) : Int)) 5 (hall 5 (by decide)) rfl rfl
                obtain rfl : x81 = .int .i64 (min ((WN : Nat) : Int) 151) := hD.get (P := fun v : Value => v = .int .i64 (min ((WN : Nat) : Int) 151)) 6 (hall 6 (by decide)) rfl rfl
                have hW := hC.all (by intro j9 h9; exact hall _ (by revert j9; decide))
                clear hall hD hC
                obtain ⟨W19, hW19⟩ : ∃ w, w = u := ⟨_, rfl⟩
                have HM19 : Hid (MkS w0 bm bf bc (.slice A1 y.ty.sizes.length cap1) (.slice A2 y.ty.cos.length cap2) (.slice A3 y.fs.length cap3) y W19 (n + 1) (D.put (goalK (str (tmT (Tm.lit k lv))) z) (.lit (.int .i64 (cntT y (Tm.lit k lv) z : Nat))))) := by rw [hW19]; exact hW.2.2 rfl
                have HK19 : Hid (Keep bc w5.drew W19) := by rw [hW19]; exact hW.1
                rw [← hW19]
                clear hW hW19
                have HN19 : Hid (n + 1 ≤ n + (2 ^ (tmT (Tm.lit k lv)).length - 1)) := by show _ ≤ _; omega
                have HKW : Hid (Keep bc w W19) := (((Keep.refl bc w).of_below HB5.out).of_below (Below.refl _ _).drew).trans HK19.out
                obtain ⟨c19, hlk19, hat19⟩ := HM19.out.drew.look1 hl60 hzI
                rw [atKey_put_same HM5.out.own.isMap (goalK_key (str_max hl60) hzI)] at hat19
                obtain rfl : ((cntT y (Tm.lit k lv) z : Nat) : Int) = c19 := by injection hat19 with h; injection h
                obtain ⟨d4, d5, d6⟩ := HLT.out W19 HK19.out
                have m4 : W19.drew.cell? ⟨bm, 4, none⟩ = some (.map (some bc)) := d4
                have g0 : W19.drew.cell? ⟨w1.heap.size, 0, none⟩ = some (.string (str (tmT (Tm.lit k lv)))) := d5
                have g1 : W19.drew.cell? ⟨w1.heap.size, 1, none⟩ = some (.int .i64 z) := d6
                unfold goalV at hlk19
                clear d4 d5 d6 hat19 HLT HNEW HKEEP HRUN HK19
                go_wp2_with fail
                refine wp_region_inv (by kernel_rfl) (fun dn ac u => ∃ x82 x83 x84 x85 x86 x87 x6, ac = ⟨List.toArray (.pointer (some ⟨bm, 0, none⟩) :: .iface 164 (.agg #[.int .i64 k, .int .i64 lv]) :: .int .i64 z :: undef :: undef :: undef :: x6 :: .pointer (some ⟨w1.heap.size, 0, none⟩) :: .int .i64 c0 :: .bool false :: .int .i64 ((WN : Nat) : Int) :: .pointer (some ⟨w1.heap.size + 1, 0, none⟩) :: undef :: undef :: undef :: .iface 164 (.agg #[.int .i64 k, .int .i64 lv]) :: .string (str (tmT (Tm.lit k lv))) :: .int .i64 z :: .agg #[.string (str (tmT (Tm.lit k lv))), .int .i64 z] :: .tuple #[.int .i64 c0, .bool false] :: .pointer (some ⟨bm, 0, none⟩) :: .pointer (some ⟨bm, 0, none⟩) :: .pointer (some ⟨bm, 4, none⟩) :: .map (some bc) :: .agg #[.string (str (tmT (Tm.lit k lv))), .int .i64 z] :: .tuple #[.int .i64 c0, .bool false] :: .int .i64 c0 :: .bool false :: .bool false :: undef :: .iface 164 (.agg #[.int .i64 k, .int .i64 lv]) :: .tuple #[.agg #[.int .i64 k, .int .i64 lv], .bool true] :: .bool true :: .agg #[.int .i64 k, .int .i64 lv] :: .pointer (some ⟨bm, 0, none⟩) :: .pointer (some ⟨bm, 0, none⟩) :: .pointer (some ⟨bm, 0, none⟩) :: .pointer (some ⟨bm, 0, none⟩) :: .agg #[.slice A1 y.ty.sizes.length cap1, .slice A2 y.ty.cos.length cap2] :: .pointer (some ⟨w1.heap.size + 1, 0, none⟩) :: .int .i64 k :: .pointer (some ⟨w1.heap.size + 1, 1, none⟩) :: .int .i64 lv :: .bool true :: .pointer (some ⟨bm, 0, none⟩) :: .pointer (some ⟨w1.heap.size + 1, 0, none⟩) :: .int .i64 k :: .int .i64 z :: .int .i64 ((WN : Nat) : Int) :: undef :: undef :: undef :: undef :: undef :: undef :: undef :: undef :: undef :: undef :: undef :: undef :: undef :: undef :: undef :: undef :: undef :: undef :: undef :: undef :: undef :: undef :: undef :: undef :: undef :: undef :: .pointer (some ⟨bm, 0, none⟩) :: .pointer (some ⟨bm, 0, none⟩) :: .pointer (some ⟨bm, 4, none⟩) :: .map (some bc) :: .agg #[.string (str (tmT (Tm.lit k lv))), .int .i64 z] :: .int .i64 ((WN : Nat) : Int) :: .int .i64 (min ((WN : Nat) : Int) 151) :: x82 :: x83 :: x84 :: x85 :: x86 :: x87 :: []), []⟩ ∧ DetQ [fun v : Value => v = .pointer (some ⟨bm, 0, none⟩), fun v : Value => v = .pointer (some ⟨bm, 0, none⟩), fun v : Value => v = .pointer (some ⟨bm, 4, none⟩), fun v : Value => v = .map (some bc), fun v : Value => v = .agg #[.string (str (tmT (Tm.lit k lv))), .int .i64 z], fun v : Value => v = .int .i64 ((cntT y (Tm.lit k lv) z : Nat) : Int), fun v : Value => v = .int .i64 ((cntT y (Tm.lit k lv) z : Nat) : Int)] dn [x82, x83, x84, x85, x86, x87, x6] ∧ Ch dn [] (DrewW W19) u ∧ True) (of_decide_eq_true (by kernel_rfl)) ⟨_, _, _, _, _, _, _, rfl, DetQ.start (by rfl), Ch.start (show DrewW W19 0 W19.drew from rfl), trivial⟩ ?_ ?_
                · rintro dn ac u i8 op8 hop hfi hdep ⟨x82, x83, x84, x85, x86, x87, x6, rfl, hD, hC, -⟩
                  have hil : i8 < 7 := by have := (Array.getElem?_eq_some_iff.1 hop).1; simpa using this
                  obtain rfl | rfl | rfl | rfl | rfl | rfl | rfl : i8 = 0 ∨ i8 = 1 ∨ i8 = 2 ∨ i8 = 3 ∨ i8 = 4 ∨ i8 = 5 ∨ i8 = 6 := by omega
                  all_goals
                    obtain rfl := Option.some.inj hop
                    refine wpOp_step hop fun K hK => ?_
                    simp [Region.binds] at hdep
                    clear hop
                  · refine det_yes rfl ?_
                    have HD := Lib.hid hD
                    have HC := Lib.hid hC
                    clear hD hC
                    unfold Oper.wp
                    go_simp
                    exact hK _ _ ⟨_, _, _, _, _, _, _, rfl, HD.out.step 0 rfl rfl, HC.out.other 0 (by decide), trivial⟩
                  · obtain rfl : x82 = .pointer (some ⟨bm, 0, none⟩) := hD.get (P := fun v : Value => v = .pointer (some ⟨bm, 0, none⟩)) 0 (by simp [hdep]) rfl rfl
                    refine det_yes rfl ?_
                    have HD := Lib.hid hD
                    have HC := Lib.hid hC
                    clear hD hC
                    unfold Oper.wp
                    go_simp
                    exact hK _ _ ⟨_, _, _, _, _, _, _, rfl, HD.out.step 1 rfl rfl, HC.out.other 1 (by decide), trivial⟩
                  · obtain rfl : x83 = .pointer (some ⟨bm, 0, none⟩) := hD.get (P := fun v : Value => v = .pointer (some ⟨bm, 0, none⟩)) 1 (by simp [hdep]) rfl rfl
                    refine det_yes rfl ?_
                    have HD := Lib.hid hD
                    have HC := Lib.hid hC
                    clear hD hC
                    unfold Oper.wp
                    go_simp
                    exact hK _ _ ⟨_, _, _, _, _, _, _, rfl, HD.out.step 2 rfl rfl, HC.out.other 2 (by decide), trivial⟩
                  · obtain rfl : x84 = .pointer (some ⟨bm, 4, none⟩) := hD.get (P := fun v : Value => v = .pointer (some ⟨bm, 4, none⟩)) 2 (by simp [hdep]) rfl rfl
                    obtain ⟨j8, hj8, -, hW⟩ := hC.ex
                    have hW9 : u = W19.drew := hW
                    clear hW
                    subst hW9
                    refine det_yes rfl ?_
                    have HD := Lib.hid hD
                    have HC := Lib.hid hC
                    clear hD hC
                    unfold Oper.wp
                    go_simp
                    exact hK _ _ ⟨_, _, _, _, _, _, _, rfl, HD.out.step 3 rfl rfl, HC.out.other 3 (by decide), trivial⟩
                  · obtain ⟨j8, hj8, -, hW⟩ := hC.ex
                    have hW9 : u = W19.drew := hW
                    clear hW
                    subst hW9
                    refine det_yes rfl ?_
                    have HD := Lib.hid hD
                    have HC := Lib.hid hC
                    clear hD hC
                    unfold Oper.wp
                    go_simp
                    exact hK _ _ ⟨_, _, _, _, _, _, _, rfl, HD.out.step 4 rfl rfl, HC.out.other 4 (by decide), trivial⟩
                  · obtain rfl : x85 = .map (some bc) := hD.get (P := fun v : Value => v = .map (some bc)) 3 (by simp [hdep]) rfl rfl
                    obtain rfl : x86 = .agg #[.string (str (tmT (Tm.lit k lv))), .int .i64 z] := hD.get (P := fun v : Value => v = .agg #[.string (str (tmT (Tm.lit k lv))), .int .i64 z]) 4 (by simp [hdep]) rfl rfl
                    obtain ⟨j8, hj8, -, hW⟩ := hC.ex
                    have hW9 : u = W19.drew := hW
                    clear hW
                    subst hW9
                    refine det_yes rfl ?_
                    have HD := Lib.hid hD
                    have HC := Lib.hid hC
                    clear hD hC
                    unfold Oper.wp
                    go_simp
                    exact hK _ _ ⟨_, _, _, _, _, _, _, rfl, HD.out.step 5 rfl rfl, HC.out.other 5 (by decide), trivial⟩
                  · obtain rfl : x87 = .int .i64 ((cntT y (Tm.lit k lv) z : Nat) : Int) := hD.get (P := fun v : Value => v = .int .i64 ((cntT y (Tm.lit k lv) z : Nat) : Int)) 5 (by simp [hdep]) rfl rfl
                    refine det_yes rfl ?_
                    have HD := Lib.hid hD
                    have HC := Lib.hid hC
                    clear hD hC
                    unfold Oper.wp
                    go_simp
                    exact hK _ _ ⟨_, _, _, _, _, _, _, rfl, HD.out.step 6 rfl rfl, HC.out.other 6 (by decide), trivial⟩
                · rintro dn ac u hall ⟨x82, x83, x84, x85, x86, x87, x6, rfl, hD, hC, -⟩
                  obtain rfl : x82 = .pointer (some ⟨bm, 0, none⟩) := hD.get (P := fun v : Value => v = .pointer (some ⟨bm, 0, none⟩)) 0 (hall 0 (by decide)) rfl rfl
                  obtain rfl : x83 = .pointer (some ⟨bm, 0, none⟩) := hD.get (P := fun v : Value => v = .pointer (some ⟨bm, 0, none⟩)) 1 (hall 1 (by decide)) rfl rfl
                  obtain rfl : x84 = .pointer (some ⟨bm, 4, none⟩) := hD.get (P := fun v : Value => v = .pointer (some ⟨bm, 4, none⟩)) 2 (hall 2 (by decide)) rfl rfl
                  obtain rfl : x85 = .map (some bc) := hD.get (P := fun v : Value => v = .map (some bc)) 3 (hall 3 (by decide)) rfl rfl
                  obtain rfl : x86 = .agg #[.string (str (tmT (Tm.lit k lv))), .int .i64 z] := hD.get (P := fun v : Value => v = .agg #[.string (str (tmT (Tm.lit k lv))), .int .i64 z]) 4 (hall 4 (by decide)) rfl rfl
                  obtain rfl : x87 = .int .i64 ((cntT y (Tm.lit k lv) z : Nat) : Int) := hD.get (P := fun v : Value => v = .int .i64 ((cntT y (Tm.lit k lv) z : Nat) : Int)) 5 (hall 5 (by decide)) rfl rfl
                  obtain rfl : x6 = .int .i64 ((cntT y (Tm.lit k lv) z : Nat) : Int) := hD.get (P := fun v : Value => v = .int .i64 ((cntT y (Tm.lit k lv) z : Nat) : Int)) 6 (hall 6 (by decide)) rfl rfl
                  obtain ⟨j8, hj8, -, hW⟩ := hC.ex
                  clear hall hD hC
                  have hW9 : u = W19.drew := hW
                  clear hW
                  subst hW9
                  clear m4 g0 g1 hlk19
                  have hbp := HKW.out
                  go_wp2
                  try rw [Exit.noGoto_ret]
                  refine bodyPost_ret (v := .int .i64 (cntT y (Tm.lit k lv) z : Nat)) (by simp [results, Tryz.results56, go_sem]) rfl ?_
                  exact ⟨rfl, hbp.of_below (Below.refl _ _).drew, n + 1, _, HN19.out, HM19.out.drew⟩
            | false =>
              have HCN : Hid (capN 0 = cntT y (.lit k lv) z) := by show _ = _; rw [cntT, if_neg (by rw [hh]; decide)]; rfl
              clear l0 l1 HLD hh
              obtain ⟨w5, rfl⟩ : ∃ w, w = u := ⟨_, rfl⟩
              go_wp2_with fail
              have hgr18 := grow_lit (.lit k lv) hok
              obtain ⟨w9, hrun9, hkeep9, hnew9⟩ := HMU.out.drew.upd hok hl60 hzI (by omega)
              rw [← HCN.out, show ((capN 0 : Nat) : Int) = 0 by rfl] at hrun9
              have HLT : Hid (∀ u, Keep bc w5.drew u → u.cell? ⟨bm, 4, none⟩ = some (.map (some bc)) ∧ u.cell? ⟨w1.heap.size, 0, none⟩ = some (.string (str (tmT (Tm.lit k lv)))) ∧ u.cell? ⟨w1.heap.size, 1, none⟩ = some (.int .i64 z)) := by
                intro u hu
                have rm := HMU.out.drew.row
                have rg : Row w5.drew w1.heap.size 161 [.string (str (tmT (Tm.lit k lv))), .int .i64 z] := HRU.out
                have a0 := (rm.keep (hu.block rm.lt (fun e => HMU.out.nm e.symm))).cell 4
                have a1 := (rg.keep (hu.block rg.lt (fun e => by have := HM.out.own.lt; omega))).cell 0
                have a2 := (rg.keep (hu.block rg.lt (fun e => by have := HM.out.own.lt; omega))).cell 1
                simp only [List.getElem?_cons_zero, List.getElem?_cons_succ] at a0 a1 a2
                exact ⟨a0, a1, a2⟩
              have HNEW := Lib.hid hnew9
              have HKEEP := Lib.hid hkeep9
              have HRUN := Lib.hid hrun9
              clear hrun9 hkeep9 hnew9
              refine wp_region_inv (by kernel_rfl) (fun dn ac u => ∃ x75 x76 x77 x78 x79 x80 x81 y7, ac = ⟨List.toArray (.pointer (some ⟨bm, 0, none⟩) :: .iface 164 (.agg #[.int .i64 k, .int .i64 lv]) :: .int .i64 z :: undef :: undef :: undef :: .int .i64 0 :: .pointer (some ⟨w1.heap.size, 0, none⟩) :: .int .i64 c0 :: .bool false :: .int .i64 0 :: .pointer (some ⟨w1.heap.size + 1, 0, none⟩) :: undef :: undef :: undef :: .iface 164 (.agg #[.int .i64 k, .int .i64 lv]) :: .string (str (tmT (Tm.lit k lv))) :: .int .i64 z :: .agg #[.string (str (tmT (Tm.lit k lv))), .int .i64 z] :: .tuple #[.int .i64 c0, .bool false] :: .pointer (some ⟨bm, 0, none⟩) :: .pointer (some ⟨bm, 0, none⟩) :: .pointer (some ⟨bm, 4, none⟩) :: .map (some bc) :: .agg #[.string (str (tmT (Tm.lit k lv))), .int .i64 z] :: .tuple #[.int .i64 c0, .bool false] :: .int .i64 c0 :: .bool false :: .bool false :: undef :: .iface 164 (.agg #[.int .i64 k, .int .i64 lv]) :: .tuple #[.agg #[.int .i64 k, .int .i64 lv], .bool true] :: .bool true :: .agg #[.int .i64 k, .int .i64 lv] :: .pointer (some ⟨bm, 0, none⟩) :: .pointer (some ⟨bm, 0, none⟩) :: .pointer (some ⟨bm, 0, none⟩) :: .pointer (some ⟨bm, 0, none⟩) :: .agg #[.slice A1 y.ty.sizes.length cap1, .slice A2 y.ty.cos.length cap2] :: .pointer (some ⟨w1.heap.size + 1, 0, none⟩) :: .int .i64 k :: .pointer (some ⟨w1.heap.size + 1, 1, none⟩) :: .int .i64 lv :: .bool false :: undef :: undef :: undef :: undef :: undef :: undef :: undef :: undef :: undef :: undef :: undef :: undef :: undef :: undef :: undef :: undef :: undef :: undef :: undef :: undef :: undef :: undef :: undef :: undef :: undef :: undef :: undef :: undef :: undef :: undef :: undef :: x75 :: x76 :: x77 :: x78 :: x79 :: x80 :: x81 :: undef :: undef :: undef :: undef :: undef :: undef :: []), []⟩ ∧ DetQ [fun v : Value => v = .pointer (some ⟨bm, 0, none⟩), fun v : Value => v = .pointer (some ⟨bm, 0, none⟩), fun v : Value => v = .pointer (some ⟨bm, 4, none⟩), fun v : Value => v = .map (some bc), fun v : Value => v = .agg #[.string (str (tmT (Tm.lit k lv))), .int .i64 z], fun v : Value => v = .int .i64 0, fun v : Value => v = .int .i64 0, fun v : Value => True] dn [x75, x76, x77, x78, x79, x80, x81, y7] ∧ Ch dn [7] (MapW w0 w5.drew bm bf bc (.slice A1 y.ty.sizes.length cap1) (.slice A2 y.ty.cos.length cap2) (.slice A3 y.fs.length cap3) y (n + 1) (D.put (goalK (str (tmT (Tm.lit k lv))) z) (.lit (.int .i64 (cntT y (Tm.lit k lv) z : Nat))))) u ∧ True) (of_decide_eq_true (by kernel_rfl)) ⟨_, _, _, _, _, _, _, .bool true, rfl, DetQ.start (by rfl), Ch.start (show (MapW w0 w5.drew bm bf bc (.slice A1 y.ty.sizes.length cap1) (.slice A2 y.ty.cos.length cap2) (.slice A3 y.fs.length cap3) y (n + 1) (D.put (goalK (str (tmT (Tm.lit k lv))) z) (.lit (.int .i64 (cntT y (Tm.lit k lv) z : Nat))))) 0 w5.drew from ⟨Keep.refl _ _, fun _ => rfl, fun h => absurd h (by decide)⟩), trivial⟩ ?_ ?_
              · rintro dn ac u i8 op8 hop hfi hdep ⟨x75, x76, x77, x78, x79, x80, x81, y7, rfl, hD, hC, -⟩
                have hil : i8 < 8 := by have := (Array.getElem?_eq_some_iff.1 hop).1; simpa using this
                obtain rfl | rfl | rfl | rfl | rfl | rfl | rfl | rfl : i8 = 0 ∨ i8 = 1 ∨ i8 = 2 ∨ i8 = 3 ∨ i8 = 4 ∨ i8 = 5 ∨ i8 = 6 ∨ i8 = 7 := by omega
                all_goals
                  obtain rfl := Option.some.inj hop
                  refine wpOp_step hop fun K hK => ?_
                  simp [Region.binds] at hdep
                  clear hop
                · refine det_yes rfl ?_
                  have HD := Lib.hid hD
                  have HC := Lib.hid hC
                  clear hD hC
                  unfold Oper.wp
                  go_simp
                  exact hK _ _ ⟨_, _, _, _, _, _, _, y7, rfl, HD.out.step 0 rfl rfl, HC.out.other 0 (by decide), trivial⟩
                · obtain rfl : x75 = .pointer (some ⟨bm, 0, none⟩) := hD.get (P := fun v : Value => v = .pointer (some ⟨bm, 0, none⟩)) 0 (by simp [hdep]) rfl rfl
                  refine det_yes rfl ?_
                  have HD := Lib.hid hD
                  have HC := Lib.hid hC
                  clear hD hC
                  unfold Oper.wp
                  go_simp
                  exact hK _ _ ⟨_, _, _, _, _, _, _, y7, rfl, HD.out.step 1 rfl rfl, HC.out.other 1 (by decide), trivial⟩
                · obtain rfl : x76 = .pointer (some ⟨bm, 0, none⟩) := hD.get (P := fun v : Value => v = .pointer (some ⟨bm, 0, none⟩)) 1 (by simp [hdep]) rfl rfl
                  refine det_yes rfl ?_
                  have HD := Lib.hid hD
                  have HC := Lib.hid hC
                  clear hD hC
                  unfold Oper.wp
                  go_simp
                  exact hK _ _ ⟨_, _, _, _, _, _, _, y7, rfl, HD.out.step 2 rfl rfl, HC.out.other 2 (by decide), trivial⟩
                · obtain rfl : x77 = .pointer (some ⟨bm, 4, none⟩) := hD.get (P := fun v : Value => v = .pointer (some ⟨bm, 4, none⟩)) 2 (by simp [hdep]) rfl rfl
                  obtain ⟨j8, hj8, -, hW⟩ := hC.ex
                  have hbu : Keep bc w5.drew u := hW.1
                  clear hW
                  obtain ⟨d1, d2, d3⟩ := HLT.out u hbu
                  refine det_yes rfl ?_
                  have HD := Lib.hid hD
                  have HC := Lib.hid hC
                  clear hD hC
                  unfold Oper.wp
                  go_simp
                  exact hK _ _ ⟨_, _, _, _, _, _, _, y7, rfl, HD.out.step 3 rfl rfl, HC.out.other 3 (by decide), trivial⟩
                · obtain ⟨j8, hj8, -, hW⟩ := hC.ex
                  have hbu : Keep bc w5.drew u := hW.1
                  clear hW
                  obtain ⟨d1, d2, d3⟩ := HLT.out u hbu
                  refine det_yes rfl ?_
                  have HD := Lib.hid hD
                  have HC := Lib.hid hC
                  clear hD hC
                  unfold Oper.wp
                  go_simp
                  exact hK _ _ ⟨_, _, _, _, _, _, _, y7, rfl, HD.out.step 4 rfl rfl, HC.out.other 4 (by decide), trivial⟩
                · refine det_yes rfl ?_
                  have HD := Lib.hid hD
                  have HC := Lib.hid hC
                  clear hD hC
                  unfold Oper.wp
                  go_simp
                  exact hK _ _ ⟨_, _, _, _, _, _, _, y7, rfl, HD.out.step 5 rfl rfl, HC.out.other 5 (by decide), trivial⟩
                · obtain rfl : x80 = .int .i64 0 := hD.get (P := fun v : Value => v = .int .i64 0) 5 (by simp [hdep]) rfl rfl
                  refine det_yes rfl ?_
                  have HD := Lib.hid hD
                  have HC := Lib.hid hC
                  clear hD hC
                  unfold Oper.wp
                  go_simp
                  exact hK _ _ ⟨_, _, _, _, _, _, _, y7, rfl, HD.out.step 6 rfl rfl, HC.out.other 6 (by decide), trivial⟩
                · obtain rfl : x78 = .map (some bc) := hD.get (P := fun v : Value => v = .map (some bc)) 3 (by simp [hdep]) rfl rfl
                  obtain rfl : x79 = .agg #[.string (str (tmT (Tm.lit k lv))), .int .i64 z] := hD.get (P := fun v : Value => v = .agg #[.string (str (tmT (Tm.lit k lv))), .int .i64 z]) 4 (by simp [hdep]) rfl rfl
                  obtain rfl : x81 = .int .i64 0 := hD.get (P := fun v : Value => v = .int .i64 0) 6 (by simp [hdep]) rfl rfl
                  have hW := hC.at_ 0 (by decide) hfi (by intro j9 e9 _; omega)
                  refine det_yes rfl ?_
                  have HD := Lib.hid hD
                  have HC := Lib.hid hC
                  clear hD hC
                  obtain ⟨-, h0, -⟩ := hW
                  have e9 : u = w5.drew := h0 rfl
                  clear h0
                  subst e9
                  have hrun9 := HRUN.out
                  unfold Oper.wp
                  go_simp
                  have HW2 : (MapW w0 w5.drew bm bf bc (.slice A1 y.ty.sizes.length cap1) (.slice A2 y.ty.cos.length cap2) (.slice A3 y.fs.length cap3) y (n + 1) (D.put (goalK (str (tmT (Tm.lit k lv))) z) (.lit (.int .i64 (cntT y (Tm.lit k lv) z : Nat))))) 1 w9 := ⟨HKEEP.out, fun h => absurd h (by decide), fun _ => HNEW.out⟩
                  exact hK _ _ ⟨_, _, _, _, _, _, _, .bool true, rfl, HD.out.step 7 rfl (by trivial), HC.out.next 0 (by decide) hfi (by intro j9 e9 _; omega) (by decide) HW2, trivial⟩
              · rintro dn ac u hall ⟨x75, x76, x77, x78, x79, x80, x81, y7, rfl, hD, hC, -⟩
                obtain rfl : x75 = .pointer (some ⟨bm, 0, none⟩) := hD.get (P := fun v : Value => v = .pointer (some ⟨bm, 0, none⟩)) 0 (hall 0 (by decide)) rfl rfl
                obtain rfl : x76 = .pointer (some ⟨bm, 0, none⟩) := hD.get (P := fun v : Value => v = .pointer (some ⟨bm, 0, none⟩)) 1 (hall 1 (by decide)) rfl rfl
                obtain rfl : x77 = .pointer (some ⟨bm, 4, none⟩) := hD.get (P := fun v : Value => v = .pointer (some ⟨bm, 4, none⟩)) 2 (hall 2 (by decide)) rfl rfl
                obtain rfl : x78 = .map (some bc) := hD.get (P := fun v : Value => v = .map (some bc)) 3 (hall 3 (by decide)) rfl rfl
                obtain rfl : x79 = .agg #[.string (str (tmT (Tm.lit k lv))), .int .i64 z] := hD.get (P := fun v : Value => v = .agg #[.string (str (tmT (Tm.lit k lv))), .int .i64 z]) 4 (hall 4 (by decide)) rfl rfl
                obtain rfl : x80 = .int .i64 0 := hD.get (P := fun v : Value => v = .int .i64 0) 5 (hall 5 (by decide)) rfl rfl
                obtain rfl : x81 = .int .i64 0 := hD.get (P := fun v : Value => v = .int .i64 0) 6 (hall 6 (by decide)) rfl rfl
                have hW := hC.all (by intro j9 h9; exact hall _ (by revert j9; decide))
                clear hall hD hC
                obtain ⟨W19, hW19⟩ : ∃ w, w = u := ⟨_, rfl⟩
                have HM19 : Hid (MkS w0 bm bf bc (.slice A1 y.ty.sizes.length cap1) (.slice A2 y.ty.cos.length cap2) (.slice A3 y.fs.length cap3) y W19 (n + 1) (D.put (goalK (str (tmT (Tm.lit k lv))) z) (.lit (.int .i64 (cntT y (Tm.lit k lv) z : Nat))))) := by rw [hW19]; exact hW.2.2 rfl
                have HK19 : Hid (Keep bc w5.drew W19) := by rw [hW19]; exact hW.1
                rw [← hW19]
                clear hW hW19
                have HN19 : Hid (n + 1 ≤ n + (2 ^ (tmT (Tm.lit k lv)).length - 1)) := by show _ ≤ _; omega
                have HKW : Hid (Keep bc w W19) := (((Keep.refl bc w).of_below HBU.out).of_below (Below.refl _ _).drew).trans HK19.out
                obtain ⟨c19, hlk19, hat19⟩ := HM19.out.drew.look1 hl60 hzI
                rw [atKey_put_same HMU.out.own.isMap (goalK_key (str_max hl60) hzI)] at hat19
                obtain rfl : ((cntT y (Tm.lit k lv) z : Nat) : Int) = c19 := by injection hat19 with h; injection h
                obtain ⟨d4, d5, d6⟩ := HLT.out W19 HK19.out
                have m4 : W19.drew.cell? ⟨bm, 4, none⟩ = some (.map (some bc)) := d4
                have g0 : W19.drew.cell? ⟨w1.heap.size, 0, none⟩ = some (.string (str (tmT (Tm.lit k lv)))) := d5
                have g1 : W19.drew.cell? ⟨w1.heap.size, 1, none⟩ = some (.int .i64 z) := d6
                unfold goalV at hlk19
                clear d4 d5 d6 hat19 HLT HNEW HKEEP HRUN HK19
                go_wp2_with fail
                refine wp_region_inv (by kernel_rfl) (fun dn ac u => ∃ x82 x83 x84 x85 x86 x87 x6, ac = ⟨List.toArray (.pointer (some ⟨bm, 0, none⟩) :: .iface 164 (.agg #[.int .i64 k, .int .i64 lv]) :: .int .i64 z :: undef :: undef :: undef :: x6 :: .pointer (some ⟨w1.heap.size, 0, none⟩) :: .int .i64 c0 :: .bool false :: .int .i64 0 :: .pointer (some ⟨w1.heap.size + 1, 0, none⟩) :: undef :: undef :: undef :: .iface 164 (.agg #[.int .i64 k, .int .i64 lv]) :: .string (str (tmT (Tm.lit k lv))) :: .int .i64 z :: .agg #[.string (str (tmT (Tm.lit k lv))), .int .i64 z] :: .tuple #[.int .i64 c0, .bool false] :: .pointer (some ⟨bm, 0, none⟩) :: .pointer (some ⟨bm, 0, none⟩) :: .pointer (some ⟨bm, 4, none⟩) :: .map (some bc) :: .agg #[.string (str (tmT (Tm.lit k lv))), .int .i64 z] :: .tuple #[.int .i64 c0, .bool false] :: .int .i64 c0 :: .bool false :: .bool false :: undef :: .iface 164 (.agg #[.int .i64 k, .int .i64 lv]) :: .tuple #[.agg #[.int .i64 k, .int .i64 lv], .bool true] :: .bool true :: .agg #[.int .i64 k, .int .i64 lv] :: .pointer (some ⟨bm, 0, none⟩) :: .pointer (some ⟨bm, 0, none⟩) :: .pointer (some ⟨bm, 0, none⟩) :: .pointer (some ⟨bm, 0, none⟩) :: .agg #[.slice A1 y.ty.sizes.length cap1, .slice A2 y.ty.cos.length cap2] :: .pointer (some ⟨w1.heap.size + 1, 0, none⟩) :: .int .i64 k :: .pointer (some ⟨w1.heap.size + 1, 1, none⟩) :: .int .i64 lv :: .bool false :: undef :: undef :: undef :: undef :: undef :: undef :: undef :: undef :: undef :: undef :: undef :: undef :: undef :: undef :: undef :: undef :: undef :: undef :: undef :: undef :: undef :: undef :: undef :: undef :: undef :: undef :: undef :: undef :: undef :: undef :: undef :: .pointer (some ⟨bm, 0, none⟩) :: .pointer (some ⟨bm, 0, none⟩) :: .pointer (some ⟨bm, 4, none⟩) :: .map (some bc) :: .agg #[.string (str (tmT (Tm.lit k lv))), .int .i64 z] :: .int .i64 0 :: .int .i64 0 :: x82 :: x83 :: x84 :: x85 :: x86 :: x87 :: []), []⟩ ∧ DetQ [fun v : Value => v = .pointer (some ⟨bm, 0, none⟩), fun v : Value => v = .pointer (some ⟨bm, 0, none⟩), fun v : Value => v = .pointer (some ⟨bm, 4, none⟩), fun v : Value => v = .map (some bc), fun v : Value => v = .agg #[.string (str (tmT (Tm.lit k lv))), .int .i64 z], fun v : Value => v = .int .i64 ((cntT y (Tm.lit k lv) z : Nat) : Int), fun v : Value => v = .int .i64 ((cntT y (Tm.lit k lv) z : Nat) : Int)] dn [x82, x83, x84, x85, x86, x87, x6] ∧ Ch dn [] (DrewW W19) u ∧ True) (of_decide_eq_true (by kernel_rfl)) ⟨_, _, _, _, _, _, _, rfl, DetQ.start (by rfl), Ch.start (show DrewW W19 0 W19.drew from rfl), trivial⟩ ?_ ?_
                · rintro dn ac u i8 op8 hop hfi hdep ⟨x82, x83, x84, x85, x86, x87, x6, rfl, hD, hC, -⟩
                  have hil : i8 < 7 := by have := (Array.getElem?_eq_some_iff.1 hop).1; simpa using this
                  obtain rfl | rfl | rfl | rfl | rfl | rfl | rfl : i8 = 0 ∨ i8 = 1 ∨ i8 = 2 ∨ i8 = 3 ∨ i8 = 4 ∨ i8 = 5 ∨ i8 = 6 := by omega
                  all_goals
                    obtain rfl := Option.some.inj hop
                    refine wpOp_step hop fun K hK => ?_
                    simp [Region.binds] at hdep
                    clear hop
                  · refine det_yes rfl ?_
                    have HD := Lib.hid hD
                    have HC := Lib.hid hC
                    clear hD hC
                    unfold Oper.wp
                    go_simp
                    exact hK _ _ ⟨_, _, _, _, _, _, _, rfl, HD.out.step 0 rfl rfl, HC.out.other 0 (by decide), trivial⟩
                  · obtain rfl : x82 = .pointer (some ⟨bm, 0, none⟩) := hD.get (P := fun v : Value => v = .pointer (some ⟨bm, 0, none⟩)) 0 (by simp [hdep]) rfl rfl
                    refine det_yes rfl ?_
                    have HD := Lib.hid hD
                    have HC := Lib.hid hC
                    clear hD hC
                    unfold Oper.wp
                    go_simp
                    exact hK _ _ ⟨_, _, _, _, _, _, _, rfl, HD.out.step 1 rfl rfl, HC.out.other 1 (by decide), trivial⟩
                  · obtain rfl : x83 = .pointer (some ⟨bm, 0, none⟩) := hD.get (P := fun v : Value => v = .pointer (some ⟨bm, 0, none⟩)) 1 (by simp [hdep]) rfl rfl
                    refine det_yes rfl ?_
                    have HD := Lib.hid hD
                    have HC := Lib.hid hC
                    clear hD hC
                    unfold Oper.wp
                    go_simp
                    exact hK _ _ ⟨_, _, _, _, _, _, _, rfl, HD.out.step 2 rfl rfl, HC.out.other 2 (by decide), trivial⟩
                  · obtain rfl : x84 = .pointer (some ⟨bm, 4, none⟩) := hD.get (P := fun v : Value => v = .pointer (some ⟨bm, 4, none⟩)) 2 (by simp [hdep]) rfl rfl
                    obtain ⟨j8, hj8, -, hW⟩ := hC.ex
                    have hW9 : u = W19.drew := hW
                    clear hW
                    subst hW9
                    refine det_yes rfl ?_
                    have HD := Lib.hid hD
                    have HC := Lib.hid hC
                    clear hD hC
                    unfold Oper.wp
                    go_simp
                    exact hK _ _ ⟨_, _, _, _, _, _, _, rfl, HD.out.step 3 rfl rfl, HC.out.other 3 (by decide), trivial⟩
                  · obtain ⟨j8, hj8, -, hW⟩ := hC.ex
                    have hW9 : u = W19.drew := hW
                    clear hW
                    subst hW9
                    refine det_yes rfl ?_
                    have HD := Lib.hid hD
                    have HC := Lib.hid hC
                    clear hD hC
                    unfold Oper.wp
                    go_simp
                    exact hK _ _ ⟨_, _, _, _, _, _, _, rfl, HD.out.step 4 rfl rfl, HC.out.other 4 (by decide), trivial⟩
                  · obtain rfl : x85 = .map (some bc) := hD.get (P := fun v : Value => v = .map (some bc)) 3 (by simp [hdep]) rfl rfl
                    obtain rfl : x86 = .agg #[.string (str (tmT (Tm.lit k lv))), .int .i64 z] := hD.get (P := fun v : Value => v = .agg #[.string (str (tmT (Tm.lit k lv))), .int .i64 z]) 4 (by simp [hdep]) rfl rfl
                    obtain ⟨j8, hj8, -, hW⟩ := hC.ex
                    have hW9 : u = W19.drew := hW
                    clear hW
                    subst hW9
                    refine det_yes rfl ?_
                    have HD := Lib.hid hD
                    have HC := Lib.hid hC
                    clear hD hC
                    unfold Oper.wp
                    go_simp
                    exact hK _ _ ⟨_, _, _, _, _, _, _, rfl, HD.out.step 5 rfl rfl, HC.out.other 5 (by decide), trivial⟩
                  · obtain rfl : x87 = .int .i64 ((cntT y (Tm.lit k lv) z : Nat) : Int) := hD.get (P := fun v : Value => v = .int .i64 ((cntT y (Tm.lit k lv) z : Nat) : Int)) 5 (by simp [hdep]) rfl rfl
                    refine det_yes rfl ?_
                    have HD := Lib.hid hD
                    have HC := Lib.hid hC
                    clear hD hC
                    unfold Oper.wp
                    go_simp
                    exact hK _ _ ⟨_, _, _, _, _, _, _, rfl, HD.out.step 6 rfl rfl, HC.out.other 6 (by decide), trivial⟩
                · rintro dn ac u hall ⟨x82, x83, x84, x85, x86, x87, x6, rfl, hD, hC, -⟩
                  obtain rfl : x82 = .pointer (some ⟨bm, 0, none⟩) := hD.get (P := fun v : Value => v = .pointer (some ⟨bm, 0, none⟩)) 0 (hall 0 (by decide)) rfl rfl
                  obtain rfl : x83 = .pointer (some ⟨bm, 0, none⟩) := hD.get (P := fun v : Value => v = .pointer (some ⟨bm, 0, none⟩)) 1 (hall 1 (by decide)) rfl rfl
                  obtain rfl : x84 = .pointer (some ⟨bm, 4, none⟩) := hD.get (P := fun v : Value => v = .pointer (some ⟨bm, 4, none⟩)) 2 (hall 2 (by decide)) rfl rfl
                  obtain rfl : x85 = .map (some bc) := hD.get (P := fun v : Value => v = .map (some bc)) 3 (hall 3 (by decide)) rfl rfl
                  obtain rfl : x86 = .agg #[.string (str (tmT (Tm.lit k lv))), .int .i64 z] := hD.get (P := fun v : Value => v = .agg #[.string (str (tmT (Tm.lit k lv))), .int .i64 z]) 4 (hall 4 (by decide)) rfl rfl
                  obtain rfl : x87 = .int .i64 ((cntT y (Tm.lit k lv) z : Nat) : Int) := hD.get (P := fun v : Value => v = .int .i64 ((cntT y (Tm.lit k lv) z : Nat) : Int)) 5 (hall 5 (by decide)) rfl rfl
                  obtain rfl : x6 = .int .i64 ((cntT y (Tm.lit k lv) z : Nat) : Int) := hD.get (P := fun v : Value => v = .int .i64 ((cntT y (Tm.lit k lv) z : Nat) : Int)) 6 (hall 6 (by decide)) rfl rfl
                  obtain ⟨j8, hj8, -, hW⟩ := hC.ex
                  clear hall hD hC
                  have hW9 : u = W19.drew := hW
                  clear hW
                  subst hW9
                  clear m4 g0 g1 hlk19
                  have hbp := HKW.out
                  go_wp2
                  try rw [Exit.noGoto_ret]
                  refine bodyPost_ret (v := .int .i64 (cntT y (Tm.lit k lv) z : Nat)) (by simp [results, Tryz.results56, go_sem]) rfl ?_
                  exact ⟨rfl, hbp.of_below (Below.refl _ _).drew, n + 1, _, HN19.out, HM19.out.drew⟩
        | true =>
          obtain ⟨ps, vs, hox, hown, hnods⟩ := HNOD.out.open hc
          obtain ⟨a, cc, r, hLe, hhd⟩ := tmT_second hok
          have hh := (hhd hc).1
          rw [hh] at hox
          obtain ⟨rfl, rfl⟩ : T = 167 ∧ x = .agg #[.string (str [a]), ps] := by injection hox with h1 h2; exact ⟨h1, h2⟩
          have HOWN := Lib.hid hown
          have HNODS := Lib.hid hnods
          have hc' := Lib.hid hc
          have hh' := Lib.hid hh
          clear hox HNOD hown hnods hc hh hLe hhd
          obtain ⟨PA, PC, rfl⟩ := own_slice' HOWN.out
          have fC := asCL
          have gC := asCC
          go_wp2_with fail
          clear fC gC
          obtain ⟨W3, hW3⟩ : ∃ u, u = (W2.alloc (.cells #[.string (str [a]), .slice PA (partsT t).length PC] 167)).drew := ⟨_, rfl⟩
          rw [← hW3]
          have HB3 : Hid (Below w.heap.size w W3) := by show Below _ _ _; rw [hW3]; exact (HB2.out.alloc HB2.out.size _).drew
          have HB23 : Hid (Below W2.heap.size W2 W3) := by show Below _ _ _; rw [hW3]; exact ((Below.refl _ _).alloc (Nat.le_refl _) _).drew
          have hW3s : W3.heap.size = W2.heap.size + 1 := by rw [hW3]; simp [World.drew]
          have HRL : Hid (Row W3 (w1.heap.size + 1) 167 [.string (str [a]), .slice PA (partsT t).length PC]) := by
            show Row _ _ _ _
            rw [hW3, ← hW2s]
            exact Row.new W2 _ _
          have HM3 := Lib.hid (HM2.out.under HB23.out)
          have HRG3 : Hid (Row W3 w1.heap.size 161 [.string (str (tmT t)), .int .i64 z]) := HRG.out.below HB23.out (by omega)
          have hbcw := HM.out.own.lt
          obtain ⟨L, hL⟩ : ∃ L, L = namedV y (str [a]) ((partsT t).length : Nat) := ⟨_, rfl⟩
          have hL8 : L.length ≤ 8 := by rw [hL]; exact Nat.le_trans (namedV_le _ _ _) hy.few
          have HLM : Hid (∀ j, ∀ (hj : j < L.length), ∃ i : Nat, L[j] = (i : Int) ∧ ∃ hi' : i < y.fs.length, y.fs[i].args.length = (partsT t).length) := by
            intro j hj
            have hm : L[j] ∈ namedV y (str [a]) ((partsT t).length : Nat) := by rw [← hL]; exact List.getElem_mem hj
            obtain ⟨_, i, hi1, _, ha, e⟩ := namedV_mem.1 hm
            refine ⟨i, e, hi1, ?_⟩
            rw [getD_of hi1] at ha
            exact Int.ofNat.inj ha
          have HCNT : Hid (capN ((L.map (fnN y ((partsT t).map (cntT y)) z)).sum) = cntT y t z) := by
            show _ = _
            rw [cntT_call y hc'.out hh'.out z, hL]
            unfold callN
            rw [List.length_map]
          have HNAM : Hid (∀ u, Below W3.heap.size W3 u → Calls Tryz.prog 99 #[.agg #[.slice A1 y.ty.sizes.length cap1, .slice A2 y.ty.cos.length cap2, .slice A3 y.fs.length cap3], .string (str [a]), .int .i64 ((partsT t).length : Nat)] u fun e w' => ∃ v, e = .returned v ∧ Below u.heap.size u w' ∧ w'.ownsRow u.heap.size 3 1 v L.length (L.map (Value.int .i64))) := by
            intro u hu
            rw [hL]
            exact implNamed_any lo hi _ _ _ y (str [a]) _ u (HV.out.keep fun b _ hb => ((HM3.out.under hu).old.block b (by omega))) (by have := HM3.out.old.size; have := hu.size; omega) hbk (str_max (by simp))
          have HLD : Hid (∀ u, Below W3.heap.size W3 u → u.cell? ⟨bm, 0, none⟩ = some (.slice A1 y.ty.sizes.length cap1) ∧ u.cell? ⟨bm, 1, none⟩ = some (.slice A2 y.ty.cos.length cap2) ∧ u.cell? ⟨bm, 2, none⟩ = some (.slice A3 y.fs.length cap3) ∧ u.cell? ⟨w1.heap.size + 1, 0, none⟩ = some (.string (str [a])) ∧ u.cell? ⟨w1.heap.size + 1, 1, none⟩ = some (.slice PA (partsT t).length PC)) := by
            intro u hu
            have a0 := (HM3.out.row.below hu HM3.out.row.lt).cell 0
            have a1 := (HM3.out.row.below hu HM3.out.row.lt).cell 1
            have a2 := (HM3.out.row.below hu HM3.out.row.lt).cell 2
            have a3 := (HRL.out.below hu HRL.out.lt).cell 0
            have a4 := (HRL.out.below hu HRL.out.lt).cell 1
            simp only [List.getElem?_cons_zero, List.getElem?_cons_succ] at a0 a1 a2 a3 a4
            exact ⟨a0, a1, a2, a3, a4⟩
          have hgr8 := grow_call hc'.out
          have H2 := Lib.hid (partsT_two t)
          have HALL : Hid (∀ k, ∀ (hk : k < (partsT t).length) v, vs[k]? = some v → ∀ (z' : Int) (u : World) (n' : Nat) (D' : DataW Unit), 0 ≤ z' ∧ z' < y.ty.sizes.length → MkS w0 bm bf bc (.slice A1 y.ty.sizes.length cap1) (.slice A2 y.ty.cos.length cap2) (.slice A3 y.fs.length cap3) y u n' D' → n' + (2 ^ (tmT (partsT t)[k]).length - 1) ≤ 9223372036854775807 → Calls Tryz.prog 56 #[.pointer (some ⟨bm, 0, none⟩), v, .int .i64 z'] u fun e w' => CntPost w0 bm bf bc (.slice A1 y.ty.sizes.length cap1) (.slice A2 y.ty.cos.length cap2) (.slice A3 y.fs.length cap3) y u n' (2 ^ (tmT (partsT t)[k]).length - 1) (cntT y (partsT t)[k] z') e w') := by
            intro k hk v hvk z' u n' D' hz' hM' hg'
            obtain ⟨v', h1, h2⟩ := HNODS.out.at k hk
            rw [hvk] at h1
            injection h1 with h1
            subst h1
            have hpl := partsT_len (List.getElem_mem hk)
            exact IH.out (partsT t)[k] v B (by omega) (partsT_ok hok (List.getElem_mem hk)) (by omega) h2 z' u n' D' hz' hM' hg'
          have HVL := Lib.hid HNODS.out.len
          clear hW3 hL hc' hh' HNODS IH HN
          refine wp_region_inv (by kernel_rfl) (fun dn ac u => ∃ x52 x53 x54 x55 x56 x57 x58 x59 x60 x61 x62 x63, ac = ⟨List.toArray (.pointer (some ⟨bm, 0, none⟩) :: .iface 167 (.agg #[.string (str [a]), .slice PA (partsT t).length PC]) :: .int .i64 z :: undef :: undef :: undef :: .int .i64 0 :: .pointer (some ⟨w1.heap.size, 0, none⟩) :: .int .i64 c0 :: .bool false :: .int .i64 0 :: undef :: .pointer (some ⟨w1.heap.size + 1, 0, none⟩) :: undef :: undef :: .iface 167 (.agg #[.string (str [a]), .slice PA (partsT t).length PC]) :: .string (str (tmT t)) :: .int .i64 z :: .agg #[.string (str (tmT t)), .int .i64 z] :: .tuple #[.int .i64 c0, .bool false] :: .pointer (some ⟨bm, 0, none⟩) :: .pointer (some ⟨bm, 0, none⟩) :: .pointer (some ⟨bm, 4, none⟩) :: .map (some bc) :: .agg #[.string (str (tmT t)), .int .i64 z] :: .tuple #[.int .i64 c0, .bool false] :: .int .i64 c0 :: .bool false :: .bool false :: undef :: .iface 167 (.agg #[.string (str [a]), .slice PA (partsT t).length PC]) :: .tuple #[.agg #[.int .i64 0, .int .i64 0], .bool false] :: .bool false :: .agg #[.int .i64 0, .int .i64 0] :: undef :: undef :: undef :: undef :: undef :: undef :: undef :: undef :: undef :: undef :: undef :: undef :: undef :: undef :: undef :: .tuple #[.agg #[.string (str [a]), .slice PA (partsT t).length PC], .bool true] :: .bool true :: .agg #[.string (str [a]), .slice PA (partsT t).length PC] :: x52 :: x53 :: x54 :: x55 :: x56 :: x57 :: x58 :: x59 :: x60 :: x61 :: x62 :: x63 :: undef :: undef :: undef :: undef :: undef :: undef :: undef :: undef :: undef :: undef :: undef :: undef :: undef :: undef :: undef :: undef :: undef :: undef :: undef :: undef :: undef :: undef :: undef :: undef :: []), []⟩ ∧ DetQ [fun v : Value => v = .pointer (some ⟨bm, 0, none⟩), fun v : Value => v = .pointer (some ⟨bm, 0, none⟩), fun v : Value => v = .pointer (some ⟨bm, 0, none⟩), fun v : Value => v = .agg #[.slice A1 y.ty.sizes.length cap1, .slice A2 y.ty.cos.length cap2, .slice A3 y.fs.length cap3], fun v : Value => v = .pointer (some ⟨w1.heap.size + 1, 0, none⟩), fun v : Value => v = .string (str [a]), fun v : Value => v = .pointer (some ⟨w1.heap.size + 1, 1, none⟩), fun v : Value => v = .slice PA (partsT t).length PC, fun v : Value => v = .int .i64 (((partsT t).length : Nat) : Int), fun v : Value => True, fun v : Value => v = .int .i64 ((L.length : Nat) : Int), fun v : Value => v = .int .i64 0] dn [x52, x53, x54, x55, x56, x57, x58, x59, x60, x61, x62, x63] ∧ Ch dn [9, 10] (NamW W3 L x61) u ∧ True) (of_decide_eq_true (by kernel_rfl)) ⟨_, _, _, _, _, _, _, _, _, _, _, _, rfl, DetQ.start (by rfl), Ch.start (show NamW W3 L _ 0 W3.drew from ⟨(Below.refl _ _).drew, fun h => absurd h (by decide)⟩), trivial⟩ ?_ ?_
          · rintro dn ac u i8 op8 hop hfi hdep ⟨x52, x53, x54, x55, x56, x57, x58, x59, x60, x61, x62, x63, rfl, hD, hC, -⟩
            have hil : i8 < 12 := by have := (Array.getElem?_eq_some_iff.1 hop).1; simpa using this
            obtain rfl | rfl | rfl | rfl | rfl | rfl | rfl | rfl | rfl | rfl | rfl | rfl : i8 = 0 ∨ i8 = 1 ∨ i8 = 2 ∨ i8 = 3 ∨ i8 = 4 ∨ i8 = 5 ∨ i8 = 6 ∨ i8 = 7 ∨ i8 = 8 ∨ i8 = 9 ∨ i8 = 10 ∨ i8 = 11 := by omega
            all_goals
              obtain rfl := Option.some.inj hop
              refine wpOp_step hop fun K hK => ?_
              simp [Region.binds] at hdep
              clear hop
            · refine det_yes rfl ?_
              have HD := Lib.hid hD
              have HC := Lib.hid hC
              clear hD hC
              unfold Oper.wp
              go_simp
              exact hK _ _ ⟨_, _, _, _, _, _, _, _, _, _, _, _, rfl, HD.out.step 0 rfl rfl, HC.out.other 0 (by decide), trivial⟩
            · obtain rfl : x52 = .pointer (some ⟨bm, 0, none⟩) := hD.get (P := fun v : Value => v = .pointer (some ⟨bm, 0, none⟩)) 0 (by simp [hdep]) rfl rfl
              refine det_yes rfl ?_
              have HD := Lib.hid hD
              have HC := Lib.hid hC
              clear hD hC
              unfold Oper.wp
              go_simp
              exact hK _ _ ⟨_, _, _, _, _, _, _, _, _, _, _, _, rfl, HD.out.step 1 rfl rfl, HC.out.other 1 (by decide), trivial⟩
            · obtain rfl : x53 = .pointer (some ⟨bm, 0, none⟩) := hD.get (P := fun v : Value => v = .pointer (some ⟨bm, 0, none⟩)) 1 (by simp [hdep]) rfl rfl
              refine det_yes rfl ?_
              have HD := Lib.hid hD
              have HC := Lib.hid hC
              clear hD hC
              unfold Oper.wp
              go_simp
              exact hK _ _ ⟨_, _, _, _, _, _, _, _, _, _, _, _, rfl, HD.out.step 2 rfl rfl, HC.out.other 2 (by decide), trivial⟩
            · obtain rfl : x54 = .pointer (some ⟨bm, 0, none⟩) := hD.get (P := fun v : Value => v = .pointer (some ⟨bm, 0, none⟩)) 2 (by simp [hdep]) rfl rfl
              obtain ⟨j8, hj8, -, hW⟩ := hC.ex
              have hbu : Below W3.heap.size W3 u := hW.1
              clear hW
              obtain ⟨d1, d2, d3, d4, d5⟩ := HLD.out u hbu
              refine det_yes rfl ?_
              have HD := Lib.hid hD
              have HC := Lib.hid hC
              clear hD hC
              unfold Oper.wp
              go_simp
              exact hK _ _ ⟨_, _, _, _, _, _, _, _, _, _, _, _, rfl, HD.out.step 3 rfl rfl, HC.out.other 3 (by decide), trivial⟩
            · refine det_yes rfl ?_
              have HD := Lib.hid hD
              have HC := Lib.hid hC
              clear hD hC
              unfold Oper.wp
              go_simp
              exact hK _ _ ⟨_, _, _, _, _, _, _, _, _, _, _, _, rfl, HD.out.step 4 rfl rfl, HC.out.other 4 (by decide), trivial⟩
            · obtain rfl : x56 = .pointer (some ⟨w1.heap.size + 1, 0, none⟩) := hD.get (P := fun v : Value => v = .pointer (some ⟨w1.heap.size + 1, 0, none⟩)) 4 (by simp [hdep]) rfl rfl
              obtain ⟨j8, hj8, -, hW⟩ := hC.ex
              have hbu : Below W3.heap.size W3 u := hW.1
              clear hW
              obtain ⟨d1, d2, d3, d4, d5⟩ := HLD.out u hbu
              refine det_yes rfl ?_
              have HD := Lib.hid hD
              have HC := Lib.hid hC
              clear hD hC
              unfold Oper.wp
              go_simp
              exact hK _ _ ⟨_, _, _, _, _, _, _, _, _, _, _, _, rfl, HD.out.step 5 rfl rfl, HC.out.other 5 (by decide), trivial⟩
            · refine det_yes rfl ?_
              have HD := Lib.hid hD
              have HC := Lib.hid hC
              clear hD hC
              unfold Oper.wp
              go_simp
              exact hK _ _ ⟨_, _, _, _, _, _, _, _, _, _, _, _, rfl, HD.out.step 6 rfl rfl, HC.out.other 6 (by decide), trivial⟩
            · obtain rfl : x58 = .pointer (some ⟨w1.heap.size + 1, 1, none⟩) := hD.get (P := fun v : Value => v = .pointer (some ⟨w1.heap.size + 1, 1, none⟩)) 6 (by simp [hdep]) rfl rfl
              obtain ⟨j8, hj8, -, hW⟩ := hC.ex
              have hbu : Below W3.heap.size W3 u := hW.1
              clear hW
              obtain ⟨d1, d2, d3, d4, d5⟩ := HLD.out u hbu
              refine det_yes rfl ?_
              have HD := Lib.hid hD
              have HC := Lib.hid hC
              clear hD hC
              unfold Oper.wp
              go_simp
              exact hK _ _ ⟨_, _, _, _, _, _, _, _, _, _, _, _, rfl, HD.out.step 7 rfl rfl, HC.out.other 7 (by decide), trivial⟩
            · obtain rfl : x59 = .slice PA (partsT t).length PC := hD.get (P := fun v : Value => v = .slice PA (partsT t).length PC) 7 (by simp [hdep]) rfl rfl
              refine det_yes rfl ?_
              have HD := Lib.hid hD
              have HC := Lib.hid hC
              clear hD hC
              unfold Oper.wp
              go_simp
              exact hK _ _ ⟨_, _, _, _, _, _, _, _, _, _, _, _, rfl, HD.out.step 8 rfl rfl, HC.out.other 8 (by decide), trivial⟩
            · obtain rfl : x55 = .agg #[.slice A1 y.ty.sizes.length cap1, .slice A2 y.ty.cos.length cap2, .slice A3 y.fs.length cap3] := hD.get (P := fun v : Value => v = .agg #[.slice A1 y.ty.sizes.length cap1, .slice A2 y.ty.cos.length cap2, .slice A3 y.fs.length cap3]) 3 (by simp [hdep]) rfl rfl
              obtain rfl : x57 = .string (str [a]) := hD.get (P := fun v : Value => v = .string (str [a])) 5 (by simp [hdep]) rfl rfl
              obtain rfl : x60 = .int .i64 (((partsT t).length : Nat) : Int) := hD.get (P := fun v : Value => v = .int .i64 (((partsT t).length : Nat) : Int)) 8 (by simp [hdep]) rfl rfl
              have hW := hC.at_ 0 (by decide) hfi (by intro j9 e9 _; omega)
              refine det_yes rfl ?_
              have HD := Lib.hid hD
              have HC := Lib.hid hC
              clear hD hC
              have hbu : Below W3.heap.size W3 u := hW.1
              clear hW
              unfold Oper.wp
              go_simp
              refine (HNAM.out u hbu).mono ?_
              rintro e u2 ⟨v61, rfl, hb8, ho8⟩
              have HW2 : (NamW W3 L v61) 1 u2 := ⟨hbu.trans (hb8.mono hbu.size), fun _ => ownsRow_base ho8 hbu.size⟩
              exact hK _ _ ⟨_, _, _, _, _, _, _, _, _, _, _, _, rfl, HD.out.step 9 rfl (by trivial), HC.out.next 0 (by decide) hfi (by intro j9 e9 _; omega) (by decide) HW2, trivial⟩
            · have hW := hC.at_ 1 (by decide) hfi (by intro j9 e9 _; have f9 : j9 = 0 := (by omega); subst f9; simp [hdep])
              refine det_yes rfl ?_
              have HD := Lib.hid hD
              have HC := Lib.hid hC
              clear hD hC
              obtain ⟨hbu, hou⟩ := hW
              have ho8 := hou (by decide)
              obtain ⟨KA, KC, rfl⟩ := own_slice' ho8
              clear hou
              unfold Oper.wp
              go_simp
              have HW2 : (NamW W3 L (.slice KA L.length KC)) 2 u := ⟨hbu, fun _ => ho8⟩
              exact hK _ _ ⟨_, _, _, _, _, _, _, _, _, _, _, _, rfl, HD.out.step 10 rfl (by rfl), HC.out.next 1 (by decide) hfi (by intro j9 e9 _; have f9 : j9 = 0 := (by omega); subst f9; simp [hdep]) (by decide) HW2, trivial⟩
            · refine det_yes rfl ?_
              have HD := Lib.hid hD
              have HC := Lib.hid hC
              clear hD hC
              unfold Oper.wp
              go_simp
              exact hK _ _ ⟨_, _, _, _, _, _, _, _, _, _, _, _, rfl, HD.out.step 11 rfl rfl, HC.out.other 11 (by decide), trivial⟩
          · rintro dn ac u hall ⟨x52, x53, x54, x55, x56, x57, x58, x59, x60, x61, x62, x63, rfl, hD, hC, -⟩
            obtain rfl : x52 = .pointer (some ⟨bm, 0, none⟩) := hD.get (P := fun v : Value => v = .pointer (some ⟨bm, 0, none⟩)) 0 (hall 0 (by decide)) rfl rfl
            obtain rfl : x53 = .pointer (some ⟨bm, 0, none⟩) := hD.get (P := fun v : Value => v = .pointer (some ⟨bm, 0, none⟩)) 1 (hall 1 (by decide)) rfl rfl
            obtain rfl : x54 = .pointer (some ⟨bm, 0, none⟩) := hD.get (P := fun v : Value => v = .pointer (some ⟨bm, 0, none⟩)) 2 (hall 2 (by decide)) rfl rfl
            obtain rfl : x55 = .agg #[.slice A1 y.ty.sizes.length cap1, .slice A2 y.ty.cos.length cap2, .slice A3 y.fs.length cap3] := hD.get (P := fun v : Value => v = .agg #[.slice A1 y.ty.sizes.length cap1, .slice A2 y.ty.cos.length cap2, .slice A3 y.fs.length cap3]) 3 (hall 3 (by decide)) rfl rfl
            obtain rfl : x56 = .pointer (some ⟨w1.heap.size + 1, 0, none⟩) := hD.get (P := fun v : Value => v = .pointer (some ⟨w1.heap.size + 1, 0, none⟩)) 4 (hall 4 (by decide)) rfl rfl
            obtain rfl : x57 = .string (str [a]) := hD.get (P := fun v : Value => v = .string (str [a])) 5 (hall 5 (by decide)) rfl rfl
            obtain rfl : x58 = .pointer (some ⟨w1.heap.size + 1, 1, none⟩) := hD.get (P := fun v : Value => v = .pointer (some ⟨w1.heap.size + 1, 1, none⟩)) 6 (hall 6 (by decide)) rfl rfl
            obtain rfl : x59 = .slice PA (partsT t).length PC := hD.get (P := fun v : Value => v = .slice PA (partsT t).length PC) 7 (hall 7 (by decide)) rfl rfl
            obtain rfl : x60 = .int .i64 (((partsT t).length : Nat) : Int) := hD.get (P := fun v : Value => v = .int .i64 (((partsT t).length : Nat) : Int)) 8 (hall 8 (by decide)) rfl rfl
            obtain rfl : x62 = .int .i64 ((L.length : Nat) : Int) := hD.get (P := fun v : Value => v = .int .i64 ((L.length : Nat) : Int)) 10 (hall 10 (by decide)) rfl rfl
            obtain rfl : x63 = .int .i64 0 := hD.get (P := fun v : Value => v = .int .i64 0) 11 (hall 11 (by decide)) rfl rfl
            have hW := hC.all (by intro j9 h9; exact hall _ (by revert j9; decide))
            clear hall hD hC
            obtain ⟨W4, rfl⟩ : ∃ w, w = u := ⟨_, rfl⟩
            obtain ⟨hbu0, hown0⟩ := hW
            have HB8 : Hid (Below W3.heap.size W3 W4) := hbu0
            have HLO := Lib.hid (hown0 (by decide))
            obtain ⟨KA, KC, rfl⟩ := own_slice' HLO.out
            clear hbu0 hown0 HNAM HLD
            have HBU : Hid (Below w.heap.size w W4) := HB3.out.trans (HB8.out.mono HB3.out.size)
            have hus := HB8.out.size
            have HMU := Lib.hid (HM3.out.under HB8.out)
            have HRU := Lib.hid (HRG3.out.below HB8.out (by omega))
            have HRC := Lib.hid (HRL.out.below HB8.out (by omega))
            obtain ⟨np, hnp⟩ : ∃ np, np = (partsT t).length := ⟨_, rfl⟩
            go_wp2
            go_loopw [10, 63] (fun c ix wr => ∃ (k n' : Nat) (D' : DataW Unit), k ≤ L.length ∧ ix = .int .i64 k ∧ c = .int .i64 ((((L.take k).map (fnN y ((partsT t).map (cntT y)) z)).sum : Nat) : Int) ∧ n' ≤ n + k * grow (partsT t) ∧ Hid (MkS w0 bm bf bc (.slice A1 y.ty.sizes.length cap1) (.slice A2 y.ty.cos.length cap2) (.slice A3 y.fs.length cap3) y wr n' D') ∧ Hid (Keep bc W4 wr)) (fun _ ix _ => L.length - (intOf ix).toNat)
            case atStart => exact ⟨0, n, D, Nat.zero_le _, rfl, by simp, by simp, HMU.out, Keep.refl _ _⟩
            case round =>
              obtain ⟨k, n', D', hk, rfl, rfl, hn', hmr, hkr⟩ := hrel
              by_cases hkl : k < L.length
              · obtain ⟨g, hKA, hg3, hgw, _, hcells⟩ := own_cells HLO.out (by omega)
                have hck : wr.cell? ⟨g, k, none⟩ = some (.int .i64 L[k]) := (World.cell?_of_block (w := W4) (hkr.out.block hgw (by dsimp only; omega))).trans ((hcells k hkl).trans (by simp [hkl]))
                subst hKA
                obtain ⟨i, hLi, hif, hal⟩ := HLM.out k hkl
                rw [hLi] at hck
                have hrc := HRC.out.keep (hkr.out.block HRC.out.lt (by omega))
                have e0 := hrc.cell 0
                have e1 := hrc.cell 1
                simp only [List.getElem?_cons_zero, List.getElem?_cons_succ] at e0 e1
                have hkG : k * grow (partsT t) + grow (partsT t) ≤ 8 * grow (partsT t) := by
                  rw [← Nat.succ_mul]
                  exact Nat.mul_le_mul_right _ (by omega)
                have HC := Lib.hid (callCount_any lo hi B w0 bm bf bc _ _ _ y hy (partsT t) H2.out a _ vs i hif hal z hz wr n' D' HV.out hB HOWN.out HVL.out hmr.out (by omega) HALL.out)
                have hfl := fnN_le y hy (partsT t) H2.out z (i : Nat)
                have hsum : ((L.take k).map (fnN y ((partsT t).map (cntT y)) z)).sum ≤ 8 * 747143168 := by
                  have h1 := sum_le_mul (L.take k) (fnN y ((partsT t).map (cntT y)) z) 747143168 (fun x _ => fnN_le y hy (partsT t) H2.out z x)
                  have h2 : (L.take k).length * 747143168 ≤ 8 * 747143168 := Nat.mul_le_mul_right _ (by rw [List.length_take]; omega)
                  exact Nat.le_trans h1 h2
                have hst : ((L.take (k + 1)).map (fnN y ((partsT t).map (cntT y)) z)).sum = ((L.take k).map (fnN y ((partsT t).map (cntT y)) z)).sum + fnN y ((partsT t).map (cntT y)) z (i : Nat) := by
                  rw [List.take_succ_eq_append_getElem hkl, List.map_append, List.sum_append, hLi]
                  simp
                obtain ⟨SK, hSK⟩ : ∃ s, s = ((L.take k).map (fnN y ((partsT t).map (cntT y)) z)).sum := ⟨_, rfl⟩
                obtain ⟨FK, hFK⟩ : ∃ s, s = fnN y ((partsT t).map (cntT y)) z ((i : Nat) : Int) := ⟨_, rfl⟩
                rw [← hFK] at HC hfl
                rw [← hSK, ← hFK] at hst
                rw [← hSK] at hsum ⊢
                have hwr : IntKind.i64.wrap ((SK : Int) + (FK : Int)) = ((SK + FK : Nat) : Int) := by
                  rw [← Int.natCast_add]
                  exact wrapIn _ (by omega) (by omega)
                have Hst := Lib.hid hst
                have HkG := Lib.hid hkG
                have hklI : (k : Int) < (L.length : Int) := by omega
                clear hcells hst hSK hFK hLi hal hrc hkG
                go_wp2_with fail
                refine HC.out.mono ?_
                clear HC e0 e1 hck
                rintro e w5 ⟨rfl, hk5, n5, D5, hn5, hm5⟩
                have HK5 := Lib.hid hk5
                have HM5 := Lib.hid hm5
                clear hk5 hm5
                go_wp2
                go_roundw
                case rel =>
                  refine ⟨k + 1, n5, D5, by omega, by go_num, ?_, by rw [Nat.succ_mul]; omega, HM5.out, hkr.out.trans HK5.out⟩
                  rw [Hst.out]
                  first | rfl | exact congrArg (Value.int IntKind.i64) hwr
                case measure => simp [intOf]; omega
              · obtain rfl : k = L.length := by omega
                rw [List.take_length]
                obtain ⟨SK, hSK⟩ : ∃ s, s = (L.map (fnN y ((partsT t).map (cntT y)) z)).sum := ⟨_, rfl⟩
                have HCN : Hid (capN SK = cntT y t z) := by show _ = _; rw [hSK]; exact HCNT.out
                rw [← hSK]
                have hLG : L.length * grow (partsT t) ≤ 8 * grow (partsT t) := Nat.mul_le_mul_right _ hL8
                have HKR : Hid (Keep bc w wr) := ((Keep.refl bc w).of_below HBU.out).trans hkr.out
                have HRW := Lib.hid (HRU.out.keep (hkr.out.block HRU.out.lt (by omega)))
                clear hSK HCNT HALL HLM
                go_wp2_with fail
                obtain ⟨w9, hrun9, hkeep9, hnew9⟩ := hmr.out.drew.upd hok hl60 hzI (by omega)
                rw [← HCN.out, capI] at hrun9
                have HLT : Hid (∀ u, Keep bc wr.drew u → u.cell? ⟨bm, 4, none⟩ = some (.map (some bc)) ∧ u.cell? ⟨w1.heap.size, 0, none⟩ = some (.string (str (tmT t))) ∧ u.cell? ⟨w1.heap.size, 1, none⟩ = some (.int .i64 z)) := by
                  intro u hu
                  have rm := hmr.out.drew.row
                  have rg : Row wr.drew w1.heap.size 161 [.string (str (tmT t)), .int .i64 z] := HRW.out
                  have a0 := (rm.keep (hu.block rm.lt (fun e => hmr.out.nm e.symm))).cell 4
                  have a1 := (rg.keep (hu.block rg.lt (fun e => by have := HM.out.own.lt; omega))).cell 0
                  have a2 := (rg.keep (hu.block rg.lt (fun e => by have := HM.out.own.lt; omega))).cell 1
                  simp only [List.getElem?_cons_zero, List.getElem?_cons_succ] at a0 a1 a2
                  exact ⟨a0, a1, a2⟩
                have HNEW := Lib.hid hnew9
                have HKEEP := Lib.hid hkeep9
                have HRUN := Lib.hid hrun9
                clear hrun9 hkeep9 hnew9
                refine wp_region_inv (by kernel_rfl) (fun dn ac u => ∃ x75 x76 x77 x78 x79 x80 x81 y7, ac = ⟨List.toArray (.pointer (some ⟨bm, 0, none⟩) :: .iface 167 (.agg #[.string (str [a]), .slice PA (partsT t).length PC]) :: .int .i64 z :: undef :: undef :: undef :: .int .i64 0 :: .pointer (some ⟨w1.heap.size, 0, none⟩) :: .int .i64 c0 :: .bool false :: .int .i64 ((SK : Nat) : Int) :: undef :: .pointer (some ⟨w1.heap.size + 1, 0, none⟩) :: undef :: u14 :: .iface 167 (.agg #[.string (str [a]), .slice PA (partsT t).length PC]) :: .string (str (tmT t)) :: .int .i64 z :: .agg #[.string (str (tmT t)), .int .i64 z] :: .tuple #[.int .i64 c0, .bool false] :: .pointer (some ⟨bm, 0, none⟩) :: .pointer (some ⟨bm, 0, none⟩) :: .pointer (some ⟨bm, 4, none⟩) :: .map (some bc) :: .agg #[.string (str (tmT t)), .int .i64 z] :: .tuple #[.int .i64 c0, .bool false] :: .int .i64 c0 :: .bool false :: .bool false :: undef :: .iface 167 (.agg #[.string (str [a]), .slice PA (partsT t).length PC]) :: .tuple #[.agg #[.int .i64 0, .int .i64 0], .bool false] :: .bool false :: .agg #[.int .i64 0, .int .i64 0] :: undef :: undef :: undef :: undef :: undef :: undef :: undef :: undef :: undef :: undef :: undef :: undef :: undef :: undef :: undef :: .tuple #[.agg #[.string (str [a]), .slice PA (partsT t).length PC], .bool true] :: .bool true :: .agg #[.string (str [a]), .slice PA (partsT t).length PC] :: .pointer (some ⟨bm, 0, none⟩) :: .pointer (some ⟨bm, 0, none⟩) :: .pointer (some ⟨bm, 0, none⟩) :: .agg #[.slice A1 y.ty.sizes.length cap1, .slice A2 y.ty.cos.length cap2, .slice A3 y.fs.length cap3] :: .pointer (some ⟨w1.heap.size + 1, 0, none⟩) :: .string (str [a]) :: .pointer (some ⟨w1.heap.size + 1, 1, none⟩) :: .slice PA (partsT t).length PC :: .int .i64 (((partsT t).length : Nat) : Int) :: .slice KA L.length KC :: .int .i64 ((L.length : Nat) : Int) :: .int .i64 ((L.length : Nat) : Int) :: .bool false :: u65 :: u66 :: u67 :: u68 :: u69 :: u70 :: u71 :: u72 :: u73 :: u74 :: x75 :: x76 :: x77 :: x78 :: x79 :: x80 :: x81 :: undef :: undef :: undef :: undef :: undef :: undef :: []), []⟩ ∧ DetQ [fun v : Value => v = .pointer (some ⟨bm, 0, none⟩), fun v : Value => v = .pointer (some ⟨bm, 0, none⟩), fun v : Value => v = .pointer (some ⟨bm, 4, none⟩), fun v : Value => v = .map (some bc), fun v : Value => v = .agg #[.string (str (tmT t)), .int .i64 z], fun v : Value => v = .int .i64 ((SK : Nat) : Int), fun v : Value => v = .int .i64 (min ((SK : Nat) : Int) 151), fun v : Value => True] dn [x75, x76, x77, x78, x79, x80, x81, y7] ∧ Ch dn [7] (MapW w0 wr.drew bm bf bc (.slice A1 y.ty.sizes.length cap1) (.slice A2 y.ty.cos.length cap2) (.slice A3 y.fs.length cap3) y (n' + 1) (D'.put (goalK (str (tmT t)) z) (.lit (.int .i64 (cntT y t z : Nat))))) u ∧ True) (of_decide_eq_true (by kernel_rfl)) ⟨_, _, _, _, _, _, _, .bool true, rfl, DetQ.start (by rfl), Ch.start (show (MapW w0 wr.drew bm bf bc (.slice A1 y.ty.sizes.length cap1) (.slice A2 y.ty.cos.length cap2) (.slice A3 y.fs.length cap3) y (n' + 1) (D'.put (goalK (str (tmT t)) z) (.lit (.int .i64 (cntT y t z : Nat))))) 0 wr.drew from ⟨Keep.refl _ _, fun _ => rfl, fun h => absurd h (by decide)⟩), trivial⟩ ?_ ?_
                · rintro dn ac u i8 op8 hop hfi hdep ⟨x75, x76, x77, x78, x79, x80, x81, y7, rfl, hD, hC, -⟩
                  have hil : i8 < 8 := by have := (Array.getElem?_eq_some_iff.1 hop).1; simpa using this
                  obtain rfl | rfl | rfl | rfl | rfl | rfl | rfl | rfl : i8 = 0 ∨ i8 = 1 ∨ i8 = 2 ∨ i8 = 3 ∨ i8 = 4 ∨ i8 = 5 ∨ i8 = 6 ∨ i8 = 7 := by omega
                  all_goals
                    obtain rfl := Option.some.inj hop
                    refine wpOp_step hop fun K hK => ?_
                    simp [Region.binds] at hdep
                    clear hop
                  · refine det_yes rfl ?_
                    have HD := Lib.hid hD
                    have HC := Lib.hid hC
                    clear hD hC
                    unfold Oper.wp
                    go_simp
                    exact hK _ _ ⟨_, _, _, _, _, _, _, y7, rfl, HD.out.step 0 rfl rfl, HC.out.other 0 (by decide), trivial⟩
                  · obtain rfl : x75 = .pointer (some ⟨bm, 0, none⟩) := hD.get (P := fun v : Value => v = .pointer (some ⟨bm, 0, none⟩)) 0 (by simp [hdep]) rfl rfl
                    refine det_yes rfl ?_
                    have HD := Lib.hid hD
                    have HC := Lib.hid hC
                    clear hD hC
                    unfold Oper.wp
                    go_simp
                    exact hK _ _ ⟨_, _, _, _, _, _, _, y7, rfl, HD.out.step 1 rfl rfl, HC.out.other 1 (by decide), trivial⟩
                  · obtain rfl : x76 = .pointer (some ⟨bm, 0, none⟩) := hD.get (P := fun v : Value => v = .pointer (some ⟨bm, 0, none⟩)) 1 (by simp [hdep]) rfl rfl
                    refine det_yes rfl ?_
                    have HD := Lib.hid hD
                    have HC := Lib.hid hC
                    clear hD hC
                    unfold Oper.wp
                    go_simp
                    exact hK _ _ ⟨_, _, _, _, _, _, _, y7, rfl, HD.out.step 2 rfl rfl, HC.out.other 2 (by decide), trivial⟩
                  · obtain rfl : x77 = .pointer (some ⟨bm, 4, none⟩) := hD.get (P := fun v : Value => v = .pointer (some ⟨bm, 4, none⟩)) 2 (by simp [hdep]) rfl rfl
                    obtain ⟨j8, hj8, -, hW⟩ := hC.ex
                    have hbu : Keep bc wr.drew u := hW.1
                    clear hW
                    obtain ⟨d1, d2, d3⟩ := HLT.out u hbu
                    refine det_yes rfl ?_
                    have HD := Lib.hid hD
                    have HC := Lib.hid hC
                    clear hD hC
                    unfold Oper.wp
                    go_simp
                    exact hK _ _ ⟨_, _, _, _, _, _, _, y7, rfl, HD.out.step 3 rfl rfl, HC.out.other 3 (by decide), trivial⟩
                  · obtain ⟨j8, hj8, -, hW⟩ := hC.ex
                    have hbu : Keep bc wr.drew u := hW.1
                    clear hW
                    obtain ⟨d1, d2, d3⟩ := HLT.out u hbu
                    refine det_yes rfl ?_
                    have HD := Lib.hid hD
                    have HC := Lib.hid hC
                    clear hD hC
                    unfold Oper.wp
                    go_simp
                    exact hK _ _ ⟨_, _, _, _, _, _, _, y7, rfl, HD.out.step 4 rfl rfl, HC.out.other 4 (by decide), trivial⟩
                  · refine det_yes rfl ?_
                    have HD := Lib.hid hD
                    have HC := Lib.hid hC
                    clear hD hC
                    unfold Oper.wp
                    go_simp
                    exact hK _ _ ⟨_, _, _, _, _, _, _, y7, rfl, HD.out.step 5 rfl rfl, HC.out.other 5 (by decide), trivial⟩
                  · obtain rfl : x80 = .int .i64 ((SK : Nat) : Int) := hD.get (P := fun v : Value => v = .int .i64 ((SK : Nat) : Int)) 5 (by simp [hdep]) rfl rfl
                    refine det_yes rfl ?_
                    have HD := Lib.hid hD
                    have HC := Lib.hid hC
                    clear hD hC
                    unfold Oper.wp
                    go_simp
                    exact hK _ _ ⟨_, _, _, _, _, _, _, y7, rfl, HD.out.step 6 rfl rfl, HC.out.other 6 (by decide), trivial⟩
                  · obtain rfl : x78 = .map (some bc) := hD.get (P := fun v : Value => v = .map (some bc)) 3 (by simp [hdep]) rfl rfl
                    obtain rfl : x79 = .agg #[.string (str (tmT t)), .int .i64 z] := hD.get (P := fun v : Value => v = .agg #[.string (str (tmT t)), .int .i64 z]) 4 (by simp [hdep]) rfl rfl
                    obtain rfl : x81 = .int .i64 (min ((SK : Nat) : Int) 151) := hD.get (P := fun v : Value => v = .int .i64 (min ((SK : Nat) : Int) 151)) 6 (by simp [hdep]) rfl rfl
                    have hW := hC.at_ 0 (by decide) hfi (by intro j9 e9 _; omega)
                    refine det_yes rfl ?_
                    have HD := Lib.hid hD
                    have HC := Lib.hid hC
                    clear hD hC
                    obtain ⟨-, h0, -⟩ := hW
                    have e9 : u = wr.drew := h0 rfl
                    clear h0
                    subst e9
                    have hrun9 := HRUN.out
                    unfold Oper.wp
                    go_simp
                    have HW2 : (MapW w0 wr.drew bm bf bc (.slice A1 y.ty.sizes.length cap1) (.slice A2 y.ty.cos.length cap2) (.slice A3 y.fs.length cap3) y (n' + 1) (D'.put (goalK (str (tmT t)) z) (.lit (.int .i64 (cntT y t z : Nat))))) 1 w9 := ⟨HKEEP.out, fun h => absurd h (by decide), fun _ => HNEW.out⟩
                    exact hK _ _ ⟨_, _, _, _, _, _, _, .bool true, rfl, HD.out.step 7 rfl (by trivial), HC.out.next 0 (by decide) hfi (by intro j9 e9 _; omega) (by decide) HW2, trivial⟩
                · rintro dn ac u hall ⟨x75, x76, x77, x78, x79, x80, x81, y7, rfl, hD, hC, -⟩
                  obtain rfl : x75 = .pointer (some ⟨bm, 0, none⟩) := hD.get (P := fun v : Value => v = .pointer (some ⟨bm, 0, none⟩)) 0 (hall 0 (by decide)) rfl rfl
                  obtain rfl : x76 = .pointer (some ⟨bm, 0, none⟩) := hD.get (P := fun v : Value => v = .pointer (some ⟨bm, 0, none⟩)) 1 (hall 1 (by decide)) rfl rfl
                  obtain rfl : x77 = .pointer (some ⟨bm, 4, none⟩) := hD.get (P := fun v : Value => v = .pointer (some ⟨bm, 4, none⟩)) 2 (hall 2 (by decide)) rfl rfl
                  obtain rfl : x78 = .map (some bc) := hD.get (P := fun v : Value => v = .map (some bc)) 3 (hall 3 (by decide)) rfl rfl
                  obtain rfl : x79 = .agg #[.string (str (tmT t)), .int .i64 z] := hD.get (P := fun v : Value => v = .agg #[.string (str (tmT t)), .int .i64 z]) 4 (hall 4 (by decide)) rfl rfl
                  obtain rfl : x80 = .int .i64 ((SK : Nat) : Int) := hD.get (P := fun v : Value => v = .int .i64 ((SK : Nat) : Int)) 5 (hall 5 (by decide)) rfl rfl
                  obtain rfl : x81 = .int .i64 (min ((SK : Nat) : Int) 151) := hD.get (P := fun v : Value => v = .int .i64 (min ((SK : Nat) : Int) 151)) 6 (hall 6 (by decide)) rfl rfl
                  have hW := hC.all (by intro j9 h9; exact hall _ (by revert j9; decide))
                  clear hall hD hC
                  obtain ⟨W19, hW19⟩ : ∃ w, w = u := ⟨_, rfl⟩
                  have HM19 : Hid (MkS w0 bm bf bc (.slice A1 y.ty.sizes.length cap1) (.slice A2 y.ty.cos.length cap2) (.slice A3 y.fs.length cap3) y W19 (n' + 1) (D'.put (goalK (str (tmT t)) z) (.lit (.int .i64 (cntT y t z : Nat))))) := by rw [hW19]; exact hW.2.2 rfl
                  have HK19 : Hid (Keep bc wr.drew W19) := by rw [hW19]; exact hW.1
                  rw [← hW19]
                  clear hW hW19
                  have HN19 : Hid (n' + 1 ≤ n + (2 ^ (tmT t).length - 1)) := by show _ ≤ _; omega
                  have HKW : Hid (Keep bc w W19) := (HKR.out.of_below (Below.refl _ _).drew).trans HK19.out
                  obtain ⟨c19, hlk19, hat19⟩ := HM19.out.drew.look1 hl60 hzI
                  rw [atKey_put_same hmr.out.own.isMap (goalK_key (str_max hl60) hzI)] at hat19
                  obtain rfl : ((cntT y t z : Nat) : Int) = c19 := by injection hat19 with h; injection h
                  obtain ⟨d4, d5, d6⟩ := HLT.out W19 HK19.out
                  have m4 : W19.drew.cell? ⟨bm, 4, none⟩ = some (.map (some bc)) := d4
                  have g0 : W19.drew.cell? ⟨w1.heap.size, 0, none⟩ = some (.string (str (tmT t))) := d5
                  have g1 : W19.drew.cell? ⟨w1.heap.size, 1, none⟩ = some (.int .i64 z) := d6
                  unfold goalV at hlk19
                  clear d4 d5 d6 hat19 HLT HNEW HKEEP HRUN HK19
                  go_wp2_with fail
                  refine wp_region_inv (by kernel_rfl) (fun dn ac u => ∃ x82 x83 x84 x85 x86 x87 x6, ac = ⟨List.toArray (.pointer (some ⟨bm, 0, none⟩) :: .iface 167 (.agg #[.string (str [a]), .slice PA (partsT t).length PC]) :: .int .i64 z :: undef :: undef :: undef :: x6 :: .pointer (some ⟨w1.heap.size, 0, none⟩) :: .int .i64 c0 :: .bool false :: .int .i64 ((SK : Nat) : Int) :: undef :: .pointer (some ⟨w1.heap.size + 1, 0, none⟩) :: undef :: u14 :: .iface 167 (.agg #[.string (str [a]), .slice PA (partsT t).length PC]) :: .string (str (tmT t)) :: .int .i64 z :: .agg #[.string (str (tmT t)), .int .i64 z] :: .tuple #[.int .i64 c0, .bool false] :: .pointer (some ⟨bm, 0, none⟩) :: .pointer (some ⟨bm, 0, none⟩) :: .pointer (some ⟨bm, 4, none⟩) :: .map (some bc) :: .agg #[.string (str (tmT t)), .int .i64 z] :: .tuple #[.int .i64 c0, .bool false] :: .int .i64 c0 :: .bool false :: .bool false :: undef :: .iface 167 (.agg #[.string (str [a]), .slice PA (partsT t).length PC]) :: .tuple #[.agg #[.int .i64 0, .int .i64 0], .bool false] :: .bool false :: .agg #[.int .i64 0, .int .i64 0] :: undef :: undef :: undef :: undef :: undef :: undef :: undef :: undef :: undef :: undef :: undef :: undef :: undef :: undef :: undef :: .tuple #[.agg #[.string (str [a]), .slice PA (partsT t).length PC], .bool true] :: .bool true :: .agg #[.string (str [a]), .slice PA (partsT t).length PC] :: .pointer (some ⟨bm, 0, none⟩) :: .pointer (some ⟨bm, 0, none⟩) :: .pointer (some ⟨bm, 0, none⟩) :: .agg #[.slice A1 y.ty.sizes.length cap1, .slice A2 y.ty.cos.length cap2, .slice A3 y.fs.length cap3] :: .pointer (some ⟨w1.heap.size + 1, 0, none⟩) :: .string (str [a]) :: .pointer (some ⟨w1.heap.size + 1, 1, none⟩) :: .slice PA (partsT t).length PC :: .int .i64 (((partsT t).length : Nat) : Int) :: .slice KA L.length KC :: .int .i64 ((L.length : Nat) : Int) :: .int .i64 ((L.length : Nat) : Int) :: .bool false :: u65 :: u66 :: u67 :: u68 :: u69 :: u70 :: u71 :: u72 :: u73 :: u74 :: .pointer (some ⟨bm, 0, none⟩) :: .pointer (some ⟨bm, 0, none⟩) :: .pointer (some ⟨bm, 4, none⟩) :: .map (some bc) :: .agg #[.string (str (tmT t)), .int .i64 z] :: .int .i64 ((SK : Nat) : Int) :: .int .i64 (min ((SK : Nat) : Int) 151) :: x82 :: x83 :: x84 :: x85 :: x86 :: x87 :: []), []⟩ ∧ DetQ [fun v : Value => v = .pointer (some ⟨bm, 0, none⟩), fun v : Value => v = .pointer (some ⟨bm, 0, none⟩), fun v : Value => v = .pointer (some ⟨bm, 4, none⟩), fun v : Value => v = .map (some bc), fun v : Value => v = .agg #[.string (str (tmT t)), .int .i64 z], fun v : Value => v = .int .i64 ((cntT y t z : Nat) : Int), fun v : Value => v = .int .i64 ((cntT y t z : Nat) : Int)] dn [x82, x83, x84, x85, x86, x87, x6] ∧ Ch dn [] (DrewW W19) u ∧ True) (of_decide_eq_true (by kernel_rfl)) ⟨_, _, _, _, _, _, _, rfl, DetQ.start (by rfl), Ch.start (show DrewW W19 0 W19.drew from rfl), trivial⟩ ?_ ?_
                  · rintro dn ac u i8 op8 hop hfi hdep ⟨x82, x83, x84, x85, x86, x87, x6, rfl, hD, hC, -⟩
                    have hil : i8 < 7 := by have := (Array.getElem?_eq_some_iff.1 hop).1; simpa using this
                    obtain rfl | rfl | rfl | rfl | rfl | rfl | rfl : i8 = 0 ∨ i8 = 1 ∨ i8 = 2 ∨ i8 = 3 ∨ i8 = 4 ∨ i8 = 5 ∨ i8 = 6 := by omega
                    all_goals
                      obtain rfl := Option.some.inj hop
                      refine wpOp_step hop fun K hK => ?_
                      simp [Region.binds] at hdep
                      clear hop
                    · refine det_yes rfl ?_
                      have HD := Lib.hid hD
                      have HC := Lib.hid hC
                      clear hD hC
                      unfold Oper.wp
                      go_simp
                      exact hK _ _ ⟨_, _, _, _, _, _, _, rfl, HD.out.step 0 rfl rfl, HC.out.other 0 (by decide), trivial⟩
                    · obtain rfl : x82 = .pointer (some ⟨bm, 0, none⟩) := hD.get (P := fun v : Value => v = .pointer (some ⟨bm, 0, none⟩)) 0 (by simp [hdep]) rfl rfl
                      refine det_yes rfl ?_
                      have HD := Lib.hid hD
                      have HC := Lib.hid hC
                      clear hD hC
                      unfold Oper.wp
                      go_simp
                      exact hK _ _ ⟨_, _, _, _, _, _, _, rfl, HD.out.step 1 rfl rfl, HC.out.other 1 (by decide), trivial⟩
                    · obtain rfl : x83 = .pointer (some ⟨bm, 0, none⟩) := hD.get (P := fun v : Value => v = .pointer (some ⟨bm, 0, none⟩)) 1 (by simp [hdep]) rfl rfl
                      refine det_yes rfl ?_
                      have HD := Lib.hid hD
                      have HC := Lib.hid hC
                      clear hD hC
                      unfold Oper.wp
                      go_simp
                      exact hK _ _ ⟨_, _, _, _, _, _, _, rfl, HD.out.step 2 rfl rfl, HC.out.other 2 (by decide), trivial⟩
                    · obtain rfl : x84 = .pointer (some ⟨bm, 4, none⟩) := hD.get (P := fun v : Value => v = .pointer (some ⟨bm, 4, none⟩)) 2 (by simp [hdep]) rfl rfl
                      obtain ⟨j8, hj8, -, hW⟩ := hC.ex
                      have hW9 : u = W19.drew := hW
                      clear hW
                      subst hW9
                      refine det_yes rfl ?_
                      have HD := Lib.hid hD
                      have HC := Lib.hid hC
                      clear hD hC
                      unfold Oper.wp
                      go_simp
                      exact hK _ _ ⟨_, _, _, _, _, _, _, rfl, HD.out.step 3 rfl rfl, HC.out.other 3 (by decide), trivial⟩
                    · obtain ⟨j8, hj8, -, hW⟩ := hC.ex
                      have hW9 : u = W19.drew := hW
                      clear hW
                      subst hW9
                      refine det_yes rfl ?_
                      have HD := Lib.hid hD
                      have HC := Lib.hid hC
                      clear hD hC
                      unfold Oper.wp
                      go_simp
                      exact hK _ _ ⟨_, _, _, _, _, _, _, rfl, HD.out.step 4 rfl rfl, HC.out.other 4 (by decide), trivial⟩
                    · obtain rfl : x85 = .map (some bc) := hD.get (P := fun v : Value => v = .map (some bc)) 3 (by simp [hdep]) rfl rfl
                      obtain rfl : x86 = .agg #[.string (str (tmT t)), .int .i64 z] := hD.get (P := fun v : Value => v = .agg #[.string (str (tmT t)), .int .i64 z]) 4 (by simp [hdep]) rfl rfl
                      obtain ⟨j8, hj8, -, hW⟩ := hC.ex
                      have hW9 : u = W19.drew := hW
                      clear hW
                      subst hW9
                      refine det_yes rfl ?_
                      have HD := Lib.hid hD
                      have HC := Lib.hid hC
                      clear hD hC
                      unfold Oper.wp
                      go_simp
                      exact hK _ _ ⟨_, _, _, _, _, _, _, rfl, HD.out.step 5 rfl rfl, HC.out.other 5 (by decide), trivial⟩
                    · obtain rfl : x87 = .int .i64 ((cntT y t z : Nat) : Int) := hD.get (P := fun v : Value => v = .int .i64 ((cntT y t z : Nat) : Int)) 5 (by simp [hdep]) rfl rfl
                      refine det_yes rfl ?_
                      have HD := Lib.hid hD
                      have HC := Lib.hid hC
                      clear hD hC
                      unfold Oper.wp
                      go_simp
                      exact hK _ _ ⟨_, _, _, _, _, _, _, rfl, HD.out.step 6 rfl rfl, HC.out.other 6 (by decide), trivial⟩
                  · rintro dn ac u hall ⟨x82, x83, x84, x85, x86, x87, x6, rfl, hD, hC, -⟩
                    obtain rfl : x82 = .pointer (some ⟨bm, 0, none⟩) := hD.get (P := fun v : Value => v = .pointer (some ⟨bm, 0, none⟩)) 0 (hall 0 (by decide)) rfl rfl
                    obtain rfl : x83 = .pointer (some ⟨bm, 0, none⟩) := hD.get (P := fun v : Value => v = .pointer (some ⟨bm, 0, none⟩)) 1 (hall 1 (by decide)) rfl rfl
                    obtain rfl : x84 = .pointer (some ⟨bm, 4, none⟩) := hD.get (P := fun v : Value => v = .pointer (some ⟨bm, 4, none⟩)) 2 (hall 2 (by decide)) rfl rfl
                    obtain rfl : x85 = .map (some bc) := hD.get (P := fun v : Value => v = .map (some bc)) 3 (hall 3 (by decide)) rfl rfl
                    obtain rfl : x86 = .agg #[.string (str (tmT t)), .int .i64 z] := hD.get (P := fun v : Value => v = .agg #[.string (str (tmT t)), .int .i64 z]) 4 (hall 4 (by decide)) rfl rfl
                    obtain rfl : x87 = .int .i64 ((cntT y t z : Nat) : Int) := hD.get (P := fun v : Value => v = .int .i64 ((cntT y t z : Nat) : Int)) 5 (hall 5 (by decide)) rfl rfl
                    obtain rfl : x6 = .int .i64 ((cntT y t z : Nat) : Int) := hD.get (P := fun v : Value => v = .int .i64 ((cntT y t z : Nat) : Int)) 6 (hall 6 (by decide)) rfl rfl
                    obtain ⟨j8, hj8, -, hW⟩ := hC.ex
                    clear hall hD hC
                    have hW9 : u = W19.drew := hW
                    clear hW
                    subst hW9
                    clear m4 g0 g1 hlk19
                    have hbp := HKW.out
                    go_wp2
                    try rw [Exit.noGoto_ret]
                    refine bodyPost_ret (v := .int .i64 (cntT y t z : Nat)) (by simp [results, Tryz.results56, go_sem]) rfl ?_
                    exact ⟨rfl, hbp.of_below (Below.refl _ _).drew, n' + 1, _, HN19.out, HM19.out.drew⟩
      
end Go.Proofs.YtnmbjmocnafekaaGreatDoor

