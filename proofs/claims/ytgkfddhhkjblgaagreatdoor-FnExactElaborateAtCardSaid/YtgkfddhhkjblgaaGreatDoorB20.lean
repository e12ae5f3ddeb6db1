/-
  The contract of the library's errors.is for a chain of the program's callErrors that ends with one of its sentinels.
  strings.Builder at this program's numbers: what a builder holds, as a list of bytes.
  The contracts of strconv.Itoa at this program's numbers; of a literal's text.
  The contracts of the program's reader where it stands in a larger structure: has, take, end, digit, literal.
  The contract of the program's HasValue.
  The program's explicit terms in memory; the contracts of kindIn, and of the reader's value, opening, madeOf.
  The contracts of the program's reader of explicit terms: value, opening, madeOf.
-/
import Derived.Test.YtgkfddhhkjblgaaGreatDoorB1
import Derived.Shelf.Abstract
import Derived.Test.YtgkfddhhkjblgaaGreatDoorRows
import Derived.WalkKit
import Derived.LaidEql
import Derived.Stop.Asserts
import Derived.Stop.IfaceNil
import Derived.RowKitTokens
import Derived.Test.YtgkfddhhkjblgaaGreatDoorB3
import Derived.Test.YtgkfddhhkjblgaaGreatDoorLay
import Derived.Test.YtgkfddhhkjblgaaGreatDoorB2
import Derived.BigCall
import Derived.Shelf.Strings.BuilderK
import Derived.Test.YtgkfddhhkjblgaaGreatDoorB12
import Derived.BigQuiet
import Derived.Test.YtgkfddhhkjblgaaGreatDoorB16
import Derived.Test.YtgkfddhhkjblgaaGreatDoorB4
import Derived.Test.YtgkfddhhkjblgaaGreatDoorB13
import Derived.Test.YtgkfddhhkjblgaaGreatDoorB15
import Derived.Deep.RegionHeld3
import Derived.Test.YtgkfddhhkjblgaaGreatDoorB18
import Derived.WalkMore
namespace Go.Proofs.YtgkfddhhkjblgaaGreatDoor
open Go.RowKit Go.Extern.Stop Go.Stop Go.Extern Go.Shelf

/-- An error of the program: a sentinel, or a callError around one. -/
inductive ErCh (a : Addr) : Value → Prop
  | base : ErCh a (.iface 270 (.pointer (some a)))
  | call (nm : ByteArray) (e : Value) (h : ErCh a e) : ErCh a (.iface 181 (.agg #[.string nm, e]))
theorem ErCh.form {a : Addr} {e : Value} (h : ErCh a e) : ∃ T x, e = .iface T x := by cases h <;> exact ⟨_, _, rfl⟩
theorem noIsC (v : Value) (xT : TypeId) (w : World) : (Instr.typeAssert (.iface 181 v) xT 215 true).run Tryz.prog w = .ok (.tuple #[.nilIface, .bool false]) w := run_typeAssert_lacksB Tryz.underlying215 (by kernel_rfl) (by kernel_rfl) v xT w
theorem hasUnwrapC (v : Value) (xT : TypeId) (w : World) : (Instr.typeAssert (.iface 181 v) xT 218 true).run Tryz.prog w = .ok (.tuple #[.iface 181 v, .bool true]) w := run_typeAssert_hasB Tryz.underlying218 (by kernel_rfl) v xT w
theorem noIsE9 (v : Value) (xT : TypeId) (w : World) : (Instr.typeAssert (.iface 270 v) xT 215 true).run Tryz.prog w = .ok (.tuple #[.nilIface, .bool false]) w := run_typeAssert_lacksB Tryz.underlying215 (by kernel_rfl) (by kernel_rfl) v xT w
theorem noUnwrapE9 (v : Value) (xT : TypeId) (w : World) : (Instr.typeAssert (.iface 270 v) xT 218 true).run Tryz.prog w = .ok (.tuple #[.nilIface, .bool false]) w := run_typeAssert_lacksB Tryz.underlying218 (by kernel_rfl) (by kernel_rfl) v xT w
theorem noUnwrapsE9 (v : Value) (xT : TypeId) (w : World) : (Instr.typeAssert (.iface 270 v) xT 220 true).run Tryz.prog w = .ok (.tuple #[.nilIface, .bool false]) w := run_typeAssert_lacksB Tryz.underlying220 (by kernel_rfl) (by kernel_rfl) v xT w
theorem eqC (x y : Value) (w : World) : (Go.binOp .eql 64 (.iface 181 x) (.iface 270 y)).run Tryz.prog w = .ok (.bool false) w := run_eql_iface_types _ _ _ _ Tryz.underlying64 (by decide) w

set_option maxRecDepth 100000 in
set_option maxHeartbeats 1000000 in
theorem unwrap_any (nm : ByteArray) (e : Value) (w : World) :
    Calls Tryz.prog 257 #[.agg #[.string nm, e]] w fun e' w' => e' = .returned e ∧ Below w.heap.size w w' := by
  have HB := Lib.hid ((Below.refl w.heap.size w).alloc (Nat.le_refl _) (.cells #[.string nm, e] 181))
  have m1 := (Row.new w 181 [.string nm, e]).cell 1
  simp only [List.getElem?_cons_zero, List.getElem?_cons_succ] at m1
  go_enter Tryz.func257, Tryz.ntmps257
  go_wp2
  go_ret
  exact ⟨rfl, HB.out⟩

set_option maxRecDepth 100000 in
set_option maxHeartbeats 2000000 in
theorem isCh_any (a b : Addr) (r : Bool) (e0 : Value) (h0 : ErCh a e0) (w : World) (heq0 : ∀ w', Below w.heap.size w w' → (Go.binOp .eql 64 (.iface 270 (.pointer (some a))) (.iface 270 (.pointer (some b)))).run Tryz.prog w' = .ok (.bool r) w') :
    Calls Tryz.prog 120 #[e0, .iface 270 (.pointer (some b)), .bool true] w fun e w' => e = .returned (.bool r) ∧ Below w.heap.size w w' := by
  have H0 := Lib.hid h0
  have HQ := Lib.hid heq0
  have HBB : Hid (Below w.heap.size w w) := Below.refl _ _
  obtain ⟨T0, x0, rfl⟩ := h0.form
  clear h0 heq0
  go_enter Tryz.func120, Tryz.ntmps120
  go_wp2_with fail
  go_loopw [0] (fun s wr => Hid (ErCh a s) ∧ Hid (Below w.heap.size w wr)) (fun s _ => SizeOf.sizeOf s)
  case atStart => exact ⟨H0, HBB⟩
  case round =>
    obtain ⟨hch, hbr⟩ := hrel
    clear H0 HBB
    cases hch.out with
    | base =>
      have heq := HQ.out _ hbr.out
      have nE := noIsE9
      have uE := noUnwrapE9
      have vE := noUnwrapsE9
      cases r with
      | true =>
        go_wp2
        go_ret
        exact ⟨rfl, hbr.out⟩
      | false =>
        go_wp2
        go_ret
        exact ⟨rfl, hbr.out⟩
    | call nm e h =>
      have heq := eqC
      have nE := noIsC
      have uE := hasUnwrapC
      obtain ⟨T2, x2, rfl⟩ := h.form
      have Hh := Lib.hid h
      have hmeth : ∀ u : World, (Go.method 436 181 (.agg #[.string nm, .iface T2 x2]) "Unwrap").run Tryz.prog u = .ok (257, .agg #[.string nm, .iface T2 x2]) u := fun u => by kernel_rfl
      have hent : ∀ (args : Array Value) (u : World), (callFunc 257 args).run Tryz.prog u = .ok (.enter 257 args) u := enters_of Tryz.func257 (by kernel_rfl) rfl
      clear h
      go_wp2_with fail
      refine (unwrap_any nm _ wr).mono ?_
      rintro e w2 ⟨rfl, hb2⟩
      have HB2 := Lib.hid (hbr.out.trans (hb2.mono hbr.out.size))
      clear hb2 hbr
      go_wp2
      go_roundw
      case rel => exact ⟨Hh, HB2⟩
      case measure => simp; omega

theorem isTypeOf9 (v : Value) (w : World) : (Extern.ReflectliteType.typeOf #[.iface 270 v]).run Tryz.prog w = .ok (.iface 213 (.agg #[.pointer (some ⟨12, 270, none⟩)])) w := by kernel_rfl
theorem callComparable9 (w : World) : (callFunc 262 #[.agg #[.pointer (some ⟨12, 270, none⟩)]]).run Tryz.prog w = .ok (.value (.bool true)) w := by kernel_rfl
theorem isMethodComparable9 (v : Value) (w : World) : (Go.method 436 213 v "Comparable").run Tryz.prog w = .ok (262, v) w := by kernel_rfl
theorem isComp9 : (Tryz.prog.info? 270).map (·.comparable) = some true := by kernel_rfl
theorem isSize9 : (Tryz.prog.info? 325).map (·.size) = some 1 := by kernel_rfl

set_option maxRecDepth 100000 in
set_option maxHeartbeats 2000000 in
theorem IsCh_any (a b : Addr) (r : Bool) (e0 : Value) (h0 : ErCh a e0) (w : World) (heq0 : ∀ w', Below w.heap.size w w' → (Go.binOp .eql 64 (.iface 270 (.pointer (some a))) (.iface 270 (.pointer (some b)))).run Tryz.prog w' = .ok (.bool r) w') :
    Calls Tryz.prog 79 #[e0, .iface 270 (.pointer (some b))] w fun e w' => e = .returned (.bool r) ∧ Below w.heap.size w w' := by
  have HC := Lib.hid (isCh_any a b r e0 h0 w heq0)
  obtain ⟨T0, x0, rfl⟩ := h0.form
  have h8 := @run_callFunc_extern Tryz.prog 119 _ Extern.ReflectliteType.typeOf Tryz.func119 (by kernel_rfl) (by kernel_rfl) (by kernel_rfl) (by kernel_rfl)
  have h32 := callComparable9
  have tT := isTypeOf9
  have mR := isMethodComparable9
  go_enter Tryz.func79, Tryz.ntmps79
  go_wp2_with fail
  refine HC.out.mono ?_
  rintro e w2 ⟨rfl, hb2⟩
  have HB2 := Lib.hid hb2
  clear hb2 HC
  go_wp2
  go_ret
  exact ⟨rfl, HB2.out⟩

/-- The package's five errors lie below n, in blocks of their own. -/
structure Er5 (w : World) (n : Nat) (aU aN aW aM aL : Addr) : Prop where
  low : 0 < n ∧ 1 < n ∧ 2 < n ∧ 3 < n ∧ 4 < n
  gU : w.cell? ⟨0, 0, none⟩ = some (.iface 270 (.pointer (some aU)))
  gN : w.cell? ⟨1, 0, none⟩ = some (.iface 270 (.pointer (some aN)))
  gW : w.cell? ⟨2, 0, none⟩ = some (.iface 270 (.pointer (some aW)))
  gM : w.cell? ⟨3, 0, none⟩ = some (.iface 270 (.pointer (some aM)))
  gL : w.cell? ⟨4, 0, none⟩ = some (.iface 270 (.pointer (some aL)))
  nd : [aU, aN, aW, aM, aL].Nodup
  bl : ∀ a ∈ [aU, aN, aW, aM, aL], a.block < n ∧ ∃ c t, w.heap[a.block]? = some (.cells c t (0, 0))
theorem Er5.below {w w' : World} {n B : Nat} {aU aN aW aM aL : Addr} (h : Er5 w n aU aN aW aM aL) (hb : Below B w w') (hn : n ≤ B) : Er5 w' n aU aN aW aM aL :=
  ⟨h.low, (hb.cell (p := ⟨0, 0, none⟩) (Nat.lt_of_lt_of_le h.low.1 hn)).trans h.gU, (hb.cell (p := ⟨1, 0, none⟩) (Nat.lt_of_lt_of_le h.low.2.1 hn)).trans h.gN, (hb.cell (p := ⟨2, 0, none⟩) (Nat.lt_of_lt_of_le h.low.2.2.1 hn)).trans h.gW, (hb.cell (p := ⟨3, 0, none⟩) (Nat.lt_of_lt_of_le h.low.2.2.2.1 hn)).trans h.gM, (hb.cell (p := ⟨4, 0, none⟩) (Nat.lt_of_lt_of_le h.low.2.2.2.2 hn)).trans h.gL, h.nd, fun a ha => ⟨(h.bl a ha).1, by
    obtain ⟨c, t, e⟩ := (h.bl a ha).2
    exact ⟨c, t, (hb.block _ (Nat.lt_of_lt_of_le (h.bl a ha).1 hn)).trans e⟩⟩⟩
theorem Er5.eq {w : World} {n : Nat} {aU aN aW aM aL : Addr} (h : Er5 w n aU aN aW aM aL) {a b : Addr} (ha : a ∈ [aU, aN, aW, aM, aL]) (hb : b ∈ [aU, aN, aW, aM, aL]) :
    (Go.binOp .eql 64 (.iface 270 (.pointer (some a))) (.iface 270 (.pointer (some b)))).run Tryz.prog w = .ok (.bool (decide (a = b))) w := by
  obtain ⟨i, hi, hcmp⟩ := Option.map_eq_some_iff.1 isComp9
  obtain ⟨j, hj, hjs⟩ := Option.map_eq_some_iff.1 isSize9
  by_cases e : a = b
  · subst e
    rw [decide_eq_true rfl]
    exact run_eql_iface_ptr_same (P := Tryz.prog) w a Tryz.underlying64 Tryz.underlying270 hi hcmp hj
  · rw [decide_eq_false e]
    obtain ⟨_, ca, ta, h1⟩ := h.bl a ha
    obtain ⟨_, cb, tb, h2⟩ := h.bl b hb
    exact run_eql_iface_ptr_other (P := Tryz.prog) w Tryz.underlying64 Tryz.underlying270 hi hcmp hj (by rw [hjs]; decide) e h1 h2
/-- The word for an error. -/
def wordV (aN aW aM aL a : Addr) : ByteArray :=
  if decide (a = aN) = true then ⟨#[110, 111, 110, 101]⟩ else if decide (a = aW) = true then ⟨#[110, 111, 110, 101]⟩ else if decide (a = aM) = true then ⟨#[109, 97, 110, 121]⟩ else if decide (a = aL) = true then ⟨#[108, 111, 110, 103]⟩ else ⟨#[117, 110, 107, 110, 111, 119, 110]⟩

set_option maxRecDepth 100000 in
set_option maxHeartbeats 2000000 in
theorem wordFor_any (n : Nat) (aU aN aW aM aL a : Addr) (e0 : Value) (h0 : ErCh a e0) (ha : a ∈ [aU, aN, aW, aM, aL]) (w : World) (hE : Er5 w n aU aN aW aM aL) (hn : n ≤ w.heap.size) :
    Calls Tryz.prog 41 #[e0] w fun e w' => e = .returned (.string (wordV aN aW aM aL a)) ∧ Below w.heap.size w w' := by
  have HI : Hid (∀ b ∈ [aU, aN, aW, aM, aL], ∀ w1 : World, Below w.heap.size w w1 → Calls Tryz.prog 79 #[e0, .iface 270 (.pointer (some b))] w1 fun e w' => e = .returned (.bool (decide (a = b))) ∧ Below w1.heap.size w1 w') := fun b hb w1 hw1 => IsCh_any a b _ e0 h0 w1 fun w' hw' => ((hE.below hw1 hn).below hw' (Nat.le_trans hn hw1.size)).eq ha hb
  have HE := Lib.hid hE
  obtain ⟨T0, x0, rfl⟩ := h0.form
  have c1 := hE.gN
  have hW : Hid (wordV aN aW aM aL a = wordV aN aW aM aL a) := rfl
  clear h0 ha hE
  go_enter Tryz.func41, Tryz.ntmps41
  go_wp2_with fail
  refine (HI.out aN (by simp) w (Below.refl _ _)).mono ?_
  rintro e w1 ⟨rfl, hb1⟩
  have HB1 := Lib.hid hb1
  have c2 := (HE.out.below hb1 hn).gW
  clear hb1 c1
  cases d1 : decide (a = aN) with
  | true =>
    go_wp2
    go_ret
    exact ⟨by unfold wordV; rw [d1]; rfl, HB1.out⟩
  | false =>
    go_wp2_with fail
    refine (HI.out aW (by simp) w1 HB1.out).mono ?_
    rintro e w2 ⟨rfl, hb2⟩
    have HB2 := Lib.hid (HB1.out.trans (hb2.mono HB1.out.size))
    have c3 := (HE.out.below HB2.out hn).gM
    clear hb2 HB1 c2
    cases d2 : decide (a = aW) with
    | true =>
      go_wp2
      go_ret
      exact ⟨by unfold wordV; rw [d1, d2]; rfl, HB2.out⟩
    | false =>
      go_wp2_with fail
      refine (HI.out aM (by simp) w2 HB2.out).mono ?_
      rintro e w3 ⟨rfl, hb3⟩
      have HB3 := Lib.hid (HB2.out.trans (hb3.mono HB2.out.size))
      have c4 := (HE.out.below HB3.out hn).gL
      clear hb3 HB2 c3
      cases d3 : decide (a = aM) with
      | true =>
        go_wp2
        go_ret
        exact ⟨by unfold wordV; rw [d1, d2, d3]; rfl, HB3.out⟩
      | false =>
        go_wp2_with fail
        refine (HI.out aL (by simp) w3 HB3.out).mono ?_
        rintro e w4 ⟨rfl, hb4⟩
        have HB4 := Lib.hid (HB3.out.trans (hb4.mono HB3.out.size))
        clear hb4 HB3 c4
        cases d4 : decide (a = aL) with
        | true =>
          go_wp2
          go_ret
          exact ⟨by unfold wordV; rw [d1, d2, d3, d4]; rfl, HB4.out⟩
        | false =>
          go_wp2
          go_ret
          exact ⟨by unfold wordV; rw [d1, d2, d3, d4]; rfl, HB4.out⟩
end Go.Proofs.YtgkfddhhkjblgaaGreatDoor

namespace Go.Proofs.YtgkfddhhkjblgaaGreatDoor
open Go.RowKit

theorem layB6 : Builder.Extra Tryz.prog lays166_ren := {
  sizeBuilder := by kernel_rfl
  liesBuilder := by kernel_rfl
  t5 := Tryz.underlying5
  a5 := Tryz.isAgg5
  z5 := Tryz.sizeOf5
  v5 := Tryz.zeroValue5
  infoByte := by kernel_rfl
  cellsByte := by kernel_rfl
  sizeByte := by kernel_rfl
  neB5 := by decide }
theorem layB7 : Builder.Extra Tryz.prog lays167_ren := {
  sizeBuilder := by kernel_rfl
  liesBuilder := by kernel_rfl
  t5 := Tryz.underlying5
  a5 := Tryz.isAgg5
  z5 := Tryz.sizeOf5
  v5 := Tryz.zeroValue5
  infoByte := by kernel_rfl
  cellsByte := by kernel_rfl
  sizeByte := by kernel_rfl
  neB5 := by decide }
theorem layB9 : Builder.Extra Tryz.prog lays169_ren := {
  sizeBuilder := by kernel_rfl
  liesBuilder := by kernel_rfl
  t5 := Tryz.underlying5
  a5 := Tryz.isAgg5
  z5 := Tryz.sizeOf5
  v5 := Tryz.zeroValue5
  infoByte := by kernel_rfl
  cellsByte := by kernel_rfl
  sizeByte := by kernel_rfl
  neB5 := by decide }
/-- The builder in block b holds l. -/
def Bld (b : Nat) (l : List UInt8) (w : World) : Prop := Lib.IsBuilderF 119 5 b b (Lib.byteCells l) w

theorem Bld.new (w : World) : Bld w.heap.size [] (w.alloc (.cells #[.pointer none, .slice none 0 0] 119)) := Lib.IsBuilderF.of (Lib.fresh_isBuilder 119 5 w)
theorem Bld.lt {b : Nat} {l : List UInt8} {w : World} (h : Bld b l w) : b < w.heap.size := by
  rcases h with h | h
  · exact h.lt
  · exact h.lt
theorem Bld.alloc {b : Nat} {l : List UInt8} {w : World} (h : Bld b l w) (o : Obj) : Bld b l (w.alloc o) := Lib.IsBuilderF.alloc h o
theorem bldAt_below {T e : TypeId} {B b : Nat} {p : Value} {bs : List Value} {w w' : World} (h : Lib.BuilderAtF T e B b p bs w) (hb : Below w.heap.size w w') : Lib.BuilderAtF T e B b p bs w' := by
  have hlt := h.lt
  obtain ⟨hB, v, hbk, hown, hne⟩ := h
  refine ⟨hB, v, (hb.block b hlt).trans hbk, ⟨hown.1, ?_⟩, hne⟩
  rcases hown.2 with hn | ⟨g, cap, cur, fz, hv, hbg, hg, rest⟩
  · exact .inl hn
  · exact .inr ⟨g, cap, cur, fz, hv, hbg, (hb.block g (by
      rcases Nat.lt_or_ge g w.heap.size with h' | h'
      · exact h'
      · rw [Array.getElem?_eq_none h'] at hg; cases hg)).trans hg, rest⟩
theorem Bld.below {b : Nat} {l : List UInt8} {w w' : World} (h : Bld b l w) (hb : Below w.heap.size w w') : Bld b l w' := by
  rcases h with h | h
  · exact .inl (bldAt_below h hb)
  · exact .inr (bldAt_below h hb)

/-- What a write keeps beside what lies below the builder. -/
theorem others_row {b g : Nat} {T : TypeId} {xs : List Value} {w w' : World} (h : Lib.OthersKept 5 (some b) w w') (hr : Row w g T xs) (hg : g ≠ b) (hT : T ≠ 5) : Row w' g T xs :=
  h g _ hr (fun e => hg (Option.some.inj e)) fun c fz e => by
    simp only [Obj.cells.injEq] at e
    exact hT e.2.1

theorem writeString_any (b : Nat) (l s : List UInt8) (w : World) (h : Bld b l w) (hl : l.length + s.length ≤ 4294967296) :
    Calls Tryz.prog 210 #[.pointer (some ⟨b, 0, none⟩), .string (str s)] w fun e w' => (∃ v, e = .returned v) ∧ Bld b (l ++ s) w' ∧ Below b w w' ∧ Lib.OthersKept 5 (some b) w w' := by
  have hx := Any.Builder_WriteString_k lays166 layB6 b b (Lib.byteCells l) (str s) w h (by rw [Lib.byteCells_length, str_size]; omega) (Nat.le_of_lt h.lt)
  refine Calls.mono hx ?_
  rintro e w' ⟨rfl, hb, h1, h2⟩
  refine ⟨⟨_, rfl⟩, ?_, h1, h2⟩
  rw [Lib.strCells_eq, ← Lib.byteCells_append] at hb
  have e : (str s).data.toList = s := by simp [str]
  rw [e] at hb
  exact .inr hb
theorem writeByte_any (b : Nat) (l : List UInt8) (c : UInt8) (z : Int) (hz : z = (c.toNat : Int)) (w : World) (h : Bld b l w) (hl : l.length ≤ 4294967296) :
    Calls Tryz.prog 251 #[.pointer (some ⟨b, 0, none⟩), .int .u8 z] w fun e w' => (∃ v, e = .returned v) ∧ Bld b (l ++ [c]) w' ∧ Below b w w' ∧ Lib.OthersKept 5 (some b) w w' := by
  have hx := Any.Builder_WriteByte_k lays167 layB7 b b (Lib.byteCells l) z w h (by rw [Lib.byteCells_length]; omega) (Nat.le_of_lt h.lt)
  refine Calls.mono hx ?_
  rintro e w' ⟨rfl, hb, h1, h2⟩
  refine ⟨⟨_, rfl⟩, ?_, h1, h2⟩
  subst hz
  have e : Lib.byteCells (l ++ [c]) = Lib.byteCells l ++ [.int .u8 (c.toNat : Int)] := by rw [Lib.byteCells_append]; rfl
  exact .inr (by rw [e]; exact hb)
theorem bldString_any (b : Nat) (l : List UInt8) (w : World) (h : Bld b l w) :
    Calls Tryz.prog 80 #[.pointer (some ⟨b, 0, none⟩)] w fun e w' => e = .returned (.string (str l)) ∧ Below b w w' := by
  have hx := Any.Builder_String_any_k lays169 layB9 b b l w h (Nat.le_of_lt h.lt)
  refine Calls.mono hx ?_
  rintro e w' ⟨rfl, _, h1, _⟩
  exact ⟨rfl, h1⟩
end Go.Proofs.YtgkfddhhkjblgaaGreatDoor

namespace Go.Proofs.YtgkfddhhkjblgaaGreatDoor
open Go.RowKit

theorem itoa_dig (z : Int) (hz : Dig z) (w : World) :
    Calls Tryz.prog 205 #[.int .i64 z] w fun e w' => e = .returned (.string (str (dg z))) ∧ w' = w := by
  obtain ⟨h0, h9⟩ := hz
  obtain ⟨n, rfl⟩ : ∃ n : Nat, z = n := ⟨z.toNat, by omega⟩
  refine (Any.strconv_Itoa_small lays171 n (by omega) w).mono ?_
  rintro e w' ⟨rfl, rfl⟩
  refine ⟨?_, rfl⟩
  rw [dg_dec (by omega)]
  rfl
set_option maxRecDepth 100000 in
set_option maxHeartbeats 1000000 in
theorem litText_any (k v : Int) (hk : Dig k) (hv : Dig v) (w : World) :
    Calls Tryz.prog 242 #[.agg #[.int .i64 k, .int .i64 v]] w fun e w' => e = .returned (.string (str (dg k ++ [58] ++ dg v))) ∧ Below w.heap.size w w' := by
  have HB := Lib.hid ((Below.refl w.heap.size w).alloc (Nat.le_refl _) (.cells #[.int .i64 k, .int .i64 v] 145))
  have r2 := Row.new w 145 [.int .i64 k, .int .i64 v]
  have m0 := r2.cell 0
  have m1 := r2.cell 1
  simp only [List.getElem?_cons_zero, List.getElem?_cons_succ] at m0 m1
  have s1 : str (dg k) ++ (⟨#[58]⟩ : ByteArray) = str (dg k ++ [58]) := str_append _ _
  have s2 : str (dg k ++ [58]) ++ str (dg v) = str (dg k ++ [58] ++ dg v) := str_append _ _
  obtain ⟨L2, l2⟩ : ∃ L, L = dg k ++ [58] := ⟨_, rfl⟩
  obtain ⟨L3, l3⟩ : ∃ L, L = L2 ++ dg v := ⟨_, rfl⟩
  rw [← l2] at s1 s2 ⊢
  rw [← l3] at s2 ⊢
  have n1 : ¬ 9223372036854775807 < (str (dg k)).size + 1 := by rw [str_size, show (dg k).length = 1 from rfl]; omega
  have n2 : ¬ 9223372036854775807 < (str L2).size + (str (dg v)).size := by rw [str_size, str_size, l2, show (dg v).length = 1 from rfl]; simp [dg]
  have HK := Lib.hid hk
  have HV := Lib.hid hv
  clear r2 hk hv l2 l3
  go_enter Tryz.func242, Tryz.ntmps242
  go_wp2_with fail
  go_quiet ((first | (go_at_call 205; exact quiet_eq ((itoa_dig k HK.out _).mono fun _ _ h => ⟨h.1, h.2.symm⟩)) | (go_at_call 205; exact quiet_eq ((itoa_dig v HV.out _).mono fun _ _ h => ⟨h.1, h.2.symm⟩))))
  go_wp2
  go_ret
  exact ⟨rfl, below_drewN HB.out _⟩
end Go.Proofs.YtgkfddhhkjblgaaGreatDoor

namespace Go.Proofs.YtgkfddhhkjblgaaGreatDoor
open Go.RowKit

/-- The reader in block b is before l. -/
def Mxr (MT : TypeId) (ml : List Value) (b : Nat) (l : List UInt8) (w : World) : Prop := Row w b MT (.string (str l) :: ml)
theorem Mxr.lt {MT : TypeId} {ml : List Value} {b : Nat} {l : List UInt8} {w : World} (h : Mxr MT ml b l w) : b < w.heap.size := Row.lt h
theorem Mxr.cell {MT : TypeId} {ml : List Value} {b : Nat} {l : List UInt8} {w : World} (h : Mxr MT ml b l w) : w.cell? ⟨b, 0, none⟩ = some (.string (str l)) := Row.cell h 0
theorem Mxr.frozen {MT : TypeId} {ml : List Value} {b : Nat} {l : List UInt8} {w : World} (h : Mxr MT ml b l w) : w.frozen? ⟨b, 0, none⟩ = false := Row.frozen h 0
theorem Mxr.below {MT : TypeId} {ml : List Value} {b : Nat} {l : List UInt8} {w w' : World} (h : Mxr MT ml b l w) (hb : Below w.heap.size w w') : Mxr MT ml b l w' := Row.below h hb (Row.lt h)
theorem Mxr.set {MT : TypeId} {ml : List Value} {b : Nat} {l : List UInt8} {w : World} (h : Mxr MT ml b l w) (r : List UInt8) : Mxr MT ml b r (w.setCell ⟨b, 0, none⟩ (.string (str r))) := Row.set_ h 0 _

set_option maxRecDepth 100000 in
set_option maxHeartbeats 1000000 in
theorem hasM_any {MT : TypeId} {ml : List Value} (b : Nat) (l : List UInt8) (s : UInt8) (z : Int) (hz : z = (s.toNat : Int)) (w : World) (h : Mxr MT ml b l w) :
    Calls Tryz.prog 158 #[.pointer (some ⟨b, 0, none⟩), .int .u8 z] w fun e w' => e = .returned (.bool (hasB s l)) ∧ w' = w := by
  have c0 := h.cell
  subst hz
  go_enter Tryz.func158, Tryz.ntmps158
  cases l with
  | nil =>
    have e0 : str [] = (⟨#[]⟩ : ByteArray) := rfl
    rw [e0] at c0
    go_wp2
    go_ret
    exact ⟨rfl, rfl⟩
  | cons c r =>
    have h1 : (str (c :: r)).toList = c :: r := str_toList _
    have h2 := str_first c r
    have h3 := str_pos c r
    have h4 := byte_eq c s
    clear h
    go_wp2
    go_ret
    exact ⟨rfl, rfl⟩

set_option maxRecDepth 100000 in
set_option maxHeartbeats 1000000 in
theorem endM_yes {MT : TypeId} {ml : List Value} (b : Nat) (w : World) (h : Mxr MT ml b [] w) :
    Calls Tryz.prog 114 #[.pointer (some ⟨b, 0, none⟩)] w fun e w' => e = .returned (.tuple #[]) ∧ w' = w := by
  have c0 := h.cell
  have e0 : str [] = (⟨#[]⟩ : ByteArray) := rfl
  rw [e0] at c0
  go_enter Tryz.func114, Tryz.ntmps114
  go_wp2
  go_end0
  exact ⟨rfl, rfl⟩
set_option maxRecDepth 100000 in
set_option maxHeartbeats 1000000 in
theorem endM_no {MT : TypeId} {ml : List Value} (b : Nat) (l : List UInt8) (hl : l ≠ []) (n : Nat) (a : Addr) (w : World) (h : Mxr MT ml b l w) (hv : Ev w n a) :
    Calls Tryz.prog 114 #[.pointer (some ⟨b, 0, none⟩)] w fun e w' => e = boom a ∧ w' = w := by
  have c0 := h.cell
  have c1 := hv.2
  obtain ⟨c, r, rfl⟩ : ∃ c r, l = c :: r := by
    cases l with
    | nil => exact absurd rfl hl
    | cons c r => exact ⟨c, r, rfl⟩
  have h1 : (str (c :: r)).toList = c :: r := str_toList _
  clear hl
  go_enter Tryz.func114, Tryz.ntmps114
  go_wp2
  exact ⟨rfl, rfl, rfl⟩

set_option maxRecDepth 100000 in
set_option maxHeartbeats 400000 in
theorem takeM_no {MT : TypeId} {ml : List Value} (b : Nat) (l : List UInt8) (s : UInt8) (z : Int) (hz : z = (s.toNat : Int)) (hl : rdTake s l = none) (n : Nat) (a : Addr) (w : World) (h : Mxr MT ml b l w) (hv : Ev w n a) :
    Calls Tryz.prog 150 #[.pointer (some ⟨b, 0, none⟩), .int .u8 z] w fun e w' => e = boom a ∧ w' = w := by
  have c1 := hv.2
  have Hh := hasM_any b l s z hz w h
  rw [hasB_no hl] at Hh
  have HH := Lib.hid Hh
  clear Hh hz hl h hv
  go_enter Tryz.func150, Tryz.ntmps150
  go_wp2_with fail
  refine HH.out.mono ?_
  rintro e w' ⟨rfl, rfl⟩
  go_wp2
  exact ⟨rfl, rfl, rfl⟩
set_option maxRecDepth 100000 in
set_option maxHeartbeats 400000 in
theorem takeM_yes {MT : TypeId} {ml : List Value} (b : Nat) (l r : List UInt8) (s : UInt8) (z : Int) (hz : z = (s.toNat : Int)) (hl : rdTake s l = some r) (w : World) (h : Mxr MT ml b l w) (hm : l.length ≤ 1048576) :
    Calls Tryz.prog 150 #[.pointer (some ⟨b, 0, none⟩), .int .u8 z] w fun e w' => e = .returned (.tuple #[]) ∧ Keep b w w' ∧ Mxr MT ml b r w' := by
  obtain ⟨hh, rfl⟩ := hasB_take hl
  have Hh := hasM_any b _ s z hz w h
  rw [hh] at Hh
  have HH := Lib.hid Hh
  have c0 := h.cell
  have f0 := h.frozen
  have HT := Lib.hid h
  have h5 := str_tail s r
  have h6 : (str (s :: r)).size = r.length + 1 := by rw [str_size]; rfl
  rw [h6] at h5
  simp only [List.length_cons] at hm
  clear h Hh hz hl hh
  go_enter Tryz.func150, Tryz.ntmps150
  go_wp2_with fail
  refine HH.out.mono ?_
  rintro e w' ⟨rfl, rfl⟩
  go_wp2
  go_end0
  refine ⟨rfl, (Keep.refl b _).setb _, ?_⟩
  first | rw [h5] | skip
  exact HT.out.set r
set_option maxRecDepth 100000 in
set_option maxHeartbeats 400000 in
theorem digitM_yes {MT : TypeId} {ml : List Value} (b : Nat) (c : UInt8) (r : List UInt8) (hd : isD c = true) (w : World) (h : Mxr MT ml b (c :: r) w) (hm : r.length + 1 ≤ 1048576) :
    Calls Tryz.prog 152 #[.pointer (some ⟨b, 0, none⟩)] w fun e w' => e = .returned (.int .i64 (valD c)) ∧ Keep b w w' ∧ Mxr MT ml b r w' := by
  have c0 := h.cell
  have f0 := h.frozen
  have HT := Lib.hid h
  have h1 : (str (c :: r)).toList = c :: r := str_toList _
  have h2 := str_first c r
  have h3 := str_pos c r
  have h5 := str_tail c r
  have h6 : (str (c :: r)).size = r.length + 1 := by rw [str_size]; rfl
  rw [h6] at h5 h3
  simp only [isD, Bool.and_eq_true, decide_eq_true_eq] at hd
  obtain ⟨d1, d2⟩ := hd
  have e1 : ¬ ((c.toNat : Nat) : Int) < 48 := by omega
  have e2 : ¬ (57 : Int) < ((c.toNat : Nat) : Int) := by omega
  clear h
  go_enter Tryz.func152, Tryz.ntmps152
  go_wp2
  go_ret
  exact ⟨rfl, (Keep.refl b _).setb _, HT.out.set r⟩
set_option maxRecDepth 100000 in
set_option maxHeartbeats 400000 in
theorem digitM_no {MT : TypeId} {ml : List Value} (b : Nat) (l : List UInt8) (hl : rdDigit l = none) (n : Nat) (a : Addr) (w : World) (h : Mxr MT ml b l w) (hv : Ev w n a) :
    Calls Tryz.prog 152 #[.pointer (some ⟨b, 0, none⟩)] w fun e w' => e = boom a ∧ w' = w := by
  have c0 := h.cell
  have v0 := hv.2
  clear h hv
  cases l with
  | nil =>
    have e0 : str [] = (⟨#[]⟩ : ByteArray) := rfl
    rw [e0] at c0
    clear hl
    go_enter Tryz.func152, Tryz.ntmps152
    go_wp2
    exact ⟨rfl, rfl, rfl⟩
  | cons c r =>
    have h1 : (str (c :: r)).toList = c :: r := str_toList _
    have h2 := str_first c r
    have h3 := str_pos c r
    have hd : isD c = false := by
      cases hc : isD c with
      | false => rfl
      | true => simp [rdDigit, hc] at hl
    simp only [isD, Bool.and_eq_false_iff, decide_eq_false_iff_not] at hd
    clear hl
    by_cases d1 : 48 ≤ c.toNat
    · have e1 : ¬ ((c.toNat : Nat) : Int) < 48 := by omega
      have e2 : (57 : Int) < ((c.toNat : Nat) : Int) := by omega
      clear hd
      go_enter Tryz.func152, Tryz.ntmps152
      go_wp2
      exact ⟨rfl, rfl, rfl⟩
    · have e1 : ((c.toNat : Nat) : Int) < 48 := by omega
      clear hd
      go_enter Tryz.func152, Tryz.ntmps152
      go_wp2
      exact ⟨rfl, rfl, rfl⟩

theorem Mxr.far' {MT : TypeId} {ml : List Value} {b : Nat} {l : List UInt8} {w : World} (h : Mxr MT ml b l w) {p : Addr} (hp : b ≠ p.block) (v : Value) : Mxr MT ml b l (w.setCell p v) := Row.far h hp v
/-- A call of the reader that has laid its result and its variable: two boxes of one kind. -/
structure Rm2 (MT : TypeId) (ml : List Value) (T : TypeId) (b n : Nat) (a : Addr) (w w' : World) (xs ys : List Value) (l : List UInt8) : Prop where
  blt : b < w.heap.size
  nb : n ≤ b
  siz : w.heap.size + 2 ≤ w'.heap.size
  res : Row w' w.heap.size T xs
  var : Row w' (w.heap.size + 1) T ys
  txr : Mxr MT ml b l w'
  kee : Keep b w w'
  ev : Ev w' n a
theorem Rm2.start {MT : TypeId} {ml : List Value} {T : TypeId} {b n : Nat} {a : Addr} {w : World} {l : List UInt8} (h : Mxr MT ml b l w) (hv : Ev w n a) (hnb : n ≤ b) (xs : List Value) : Rm2 MT ml T b n a w ((w.alloc (.cells xs.toArray T)).alloc (.cells xs.toArray T)) xs xs l := by
  have k : Keep b w ((w.alloc (.cells xs.toArray T)).alloc (.cells xs.toArray T)) := ((Keep.refl b w).of_below ((Below.refl _ _).alloc (Nat.le_refl _) _)).of_below ((Below.refl _ _).alloc (Nat.le_refl _) _)
  refine ⟨h.lt, hnb, by simp, (Row.new w T xs).alloc _, ?_, (h.below ((Below.refl _ _).alloc (Nat.le_refl _) _)).below ((Below.refl _ _).alloc (Nat.le_refl _) _), k, hv.keep k hnb⟩
  have hr := Row.new (w.alloc (.cells xs.toArray T)) T xs
  rw [World.size_alloc] at hr
  exact hr
theorem Rm2.go {MT : TypeId} {ml : List Value} {T : TypeId} {b n : Nat} {a : Addr} {w w' w'' : World} {xs ys : List Value} {l r : List UInt8} (h : Rm2 MT ml T b n a w w' xs ys l) (hk : Keep b w' w'') (ht : Mxr MT ml b r w'') : Rm2 MT ml T b n a w w'' xs ys r :=
  ⟨h.blt, h.nb, Nat.le_trans h.siz hk.size, h.res.kept' hk (by have := h.blt; omega), h.var.kept' hk (by have := h.blt; omega), ht, h.kee.trans hk, h.ev.keep hk h.nb⟩
theorem Rm2.setv {MT : TypeId} {ml : List Value} {T : TypeId} {b n : Nat} {a : Addr} {w w' : World} {xs ys : List Value} {l : List UInt8} (h : Rm2 MT ml T b n a w w' xs ys l) (i : Nat) (v : Value) : Rm2 MT ml T b n a w (w'.setCell ⟨w.heap.size + 1, i, none⟩ v) xs (ys.set i v) l :=
  ⟨h.blt, h.nb, by have := h.siz; simp [World.setCell]; omega, h.res.far (by dsimp only; omega) _, h.var.set_ i _, h.txr.far' (by have := h.blt; dsimp only; omega) _, h.kee.seto' (by dsimp only; omega) _, h.ev.far' (by have := h.blt; have := h.nb; dsimp only; omega) _⟩
theorem Rm2.setr {MT : TypeId} {ml : List Value} {T : TypeId} {b n : Nat} {a : Addr} {w w' : World} {xs ys : List Value} {l : List UInt8} (h : Rm2 MT ml T b n a w w' xs ys l) (i : Nat) (v : Value) : Rm2 MT ml T b n a w (w'.setCell ⟨w.heap.size, i, none⟩ v) (xs.set i v) ys l :=
  ⟨h.blt, h.nb, by have := h.siz; simp [World.setCell]; omega, h.res.set_ i _, h.var.far (by dsimp only; omega) _, h.txr.far' (by have := h.blt; dsimp only; omega) _, h.kee.seto' (by dsimp only; omega) _, h.ev.far' (by have := h.blt; have := h.nb; dsimp only; omega) _⟩

/-- What reading a literal comes to. -/
def LitPostM (MT : TypeId) (ml : List Value) (b : Nat) (l : List UInt8) (a : Addr) (w : World) (e : Ending) (w' : World) : Prop :=
  ((∃ k v r, rdLit l = some (.lit k v, r) ∧ e = .returned (.agg #[.int .i64 k, .int .i64 v]) ∧ Mxr MT ml b r w') ∨ (rdLit l = none ∧ e = boom a)) ∧ Keep b w w'

set_option maxRecDepth 100000 in
set_option maxHeartbeats 4000000 in
theorem literalM_any {MT : TypeId} {ml : List Value} (b : Nat) (l : List UInt8) (n : Nat) (a : Addr) (w : World) (h : Mxr MT ml b l w) (hv : Ev w n a) (hnb : n ≤ b) (hm : l.length ≤ 1048576) :
    Calls Tryz.prog 133 #[.pointer (some ⟨b, 0, none⟩)] w fun e w' => LitPostM MT ml b l a w e w' := by
  have hblt := h.lt
  have S0 : Hid (Rm2 MT ml 145 b n a w ((w.alloc (.cells #[.int .i64 0, .int .i64 0] 145)).alloc (.cells #[.int .i64 0, .int .i64 0] 145)) [.int .i64 0, .int .i64 0] [.int .i64 0, .int .i64 0] l) := Rm2.start h hv hnb [.int .i64 0, .int .i64 0]
  clear h hv
  go_enter Tryz.func133, Tryz.ntmps133
  go_wp2_with fail
  cases hd1 : rdDigit l with
  | none =>
    have hno : Hid (rdLit l = none) := by show rdLit l = none; simp [rdLit, hd1]
    refine (digitM_no b l hd1 n a _ S0.out.txr S0.out.ev).mono ?_
    clear hd1
    rintro e w1 ⟨rfl, rfl⟩
    go_wp2
    exact ⟨rfl, .inr ⟨hno.out, rfl⟩, S0.out.kee⟩
  | some p =>
    obtain ⟨z1, r1⟩ := p
    obtain ⟨c1, rfl, hc1, rfl⟩ := rdDigit_cons hd1
    have hco1 : Hid (rdLit (c1 :: r1) = (rdTake 58 r1).bind fun r => (rdDigit r).map fun b => (.lit (valD c1) b.1, b.2)) := by
      show rdLit (c1 :: r1) = _
      simp [rdLit, hd1]
    simp only [List.length_cons] at hm
    clear hd1
    refine (digitM_yes b c1 r1 hc1 _ S0.out.txr (by omega)).mono ?_
    rintro e w1 ⟨rfl, hk1, ht1⟩
    have S1 := Lib.hid (S0.out.go hk1 ht1)
    have m0 := S1.out.var.cell 0
    have f0 := S1.out.var.frozen 0
    simp only [List.getElem?_cons_zero] at m0
    clear hk1 ht1 S0
    go_wp2_with fail
    obtain ⟨u1, hu1⟩ : ∃ u, u = w1.setCell ⟨w.heap.size + 1, 0, none⟩ (.int .i64 (valD c1)) := ⟨_, rfl⟩
    rw [← hu1]
    have S2 : Hid (Rm2 MT ml 145 b n a w u1 [.int .i64 0, .int .i64 0] [.int .i64 (valD c1), .int .i64 0] r1) := by rw [hu1]; exact S1.out.setv 0 _
    clear hu1 S1 m0 f0
    cases htk : rdTake 58 r1 with
    | none =>
      have hno : Hid (rdLit (c1 :: r1) = none) := by show _ = _; rw [hco1.out, htk]; rfl
      refine (takeM_no b r1 58 58 rfl htk n a _ S2.out.txr S2.out.ev).mono ?_
      clear htk
      rintro e w2 ⟨rfl, rfl⟩
      go_wp2
      exact ⟨rfl, .inr ⟨hno.out, rfl⟩, S2.out.kee⟩
    | some q1 =>
      have hq1 := rdTake_len htk
      have hco2 : Hid (rdLit (c1 :: r1) = (rdDigit q1).map fun b => (.lit (valD c1) b.1, b.2)) := by
        show _ = _
        rw [hco1.out, htk]
        rfl
      refine (takeM_yes b r1 q1 58 58 rfl htk _ S2.out.txr (by omega)).mono ?_
      clear htk hco1
      rintro e w2 ⟨rfl, hk2, ht2⟩
      have S3 := Lib.hid (S2.out.go hk2 ht2)
      clear hk2 ht2 S2
      go_wp2_with fail
      cases hd2 : rdDigit q1 with
      | none =>
        have hno : Hid (rdLit (c1 :: r1) = none) := by show _ = _; rw [hco2.out, hd2]; rfl
        refine (digitM_no b q1 hd2 n a _ S3.out.txr S3.out.ev).mono ?_
        clear hd2
        rintro e w3 ⟨rfl, rfl⟩
        go_wp2
        exact ⟨rfl, .inr ⟨hno.out, rfl⟩, S3.out.kee⟩
      | some p =>
        obtain ⟨z2, r2⟩ := p
        obtain ⟨c2, rfl, hc2, rfl⟩ := rdDigit_cons hd2
        have hfin : Hid (rdLit (c1 :: r1) = some (.lit (valD c1) (valD c2), r2)) := by
          show _ = _
          rw [hco2.out, hd2]
          rfl
        simp only [List.length_cons] at hq1
        clear hd2 hco2
        refine (digitM_yes b c2 r2 hc2 _ S3.out.txr (by omega)).mono ?_
        rintro e w3 ⟨rfl, hk3, ht3⟩
        have S4 := Lib.hid (S3.out.go hk3 ht3)
        have m0 := S4.out.var.cell 0
        have m1 := S4.out.var.cell 1
        have f0 := S4.out.var.frozen 0
        have f1 := S4.out.var.frozen 1
        have p0 := S4.out.res.cell 0
        have p1 := S4.out.res.cell 1
        have e0 := S4.out.res.frozen 0
        have e1 := S4.out.res.frozen 1
        simp only [List.getElem?_cons_zero, List.getElem?_cons_succ] at m0 m1 p0 p1
        clear hk3 ht3 S3
        go_wp2
        obtain ⟨u5, hu5⟩ : ∃ u, u = ((w3.setCell ⟨w.heap.size + 1, 1, none⟩ (.int .i64 (valD c2))).setCell ⟨w.heap.size, 0, none⟩ (.int .i64 (valD c1))).setCell ⟨w.heap.size, 1, none⟩ (.int .i64 (valD c2)) := ⟨_, rfl⟩
        rw [← hu5]
        have S5 : Hid (Rm2 MT ml 145 b n a w u5 [.int .i64 (valD c1), .int .i64 (valD c2)] [.int .i64 (valD c1), .int .i64 (valD c2)] r2) := by rw [hu5]; exact ((S4.out.setv 1 _).setr 0 _).setr 1 _
        have d0 := S5.out.res.cell 0
        have d1 := S5.out.res.cell 1
        simp only [List.getElem?_cons_zero, List.getElem?_cons_succ] at d0 d1
        clear hu5
        refine bodyPost_ret (v := .agg #[.int .i64 (valD c1), .int .i64 (valD c2)]) (by simp [results, Tryz.results133, go_sem, d0, d1]) rfl ?_
        exact ⟨.inl ⟨valD c1, valD c2, r2, hfin.out, rfl, S5.out.txr⟩, S5.out.kee⟩

end Go.Proofs.YtgkfddhhkjblgaaGreatDoor

namespace Go.Proofs.YtgkfddhhkjblgaaGreatDoor
open Go.RowKit

set_option maxRecDepth 100000 in
set_option maxHeartbeats 1000000 in
theorem implHas_any (lo hi : Nat) (sv cv : Value) (t : Ty) (k v : Int) (w : World) (hv : TyAt w lo hi sv cv t) (hB : hi ≤ w.heap.size) :
    Calls Tryz.prog 94 #[.agg #[sv, cv], .int .i64 k, .int .i64 v] w fun e w' => e = .returned (.bool (hasV t k v)) ∧ Below w.heap.size w w' := by
  obtain ⟨A, cap, rfl, hl1, hm1, hi1⟩ := hv.1.form
  obtain ⟨B, bap, rfl, hl2, hm2, _⟩ := hv.2.form
  have h3 : Below w.heap.size w (w.alloc (.cells #[.slice A t.sizes.length cap, .slice B t.cos.length bap] 34)) := by go_grown
  have hv3 := Lib.hid (hv.below h3 hB)
  have Hi1 := Lib.hid hi1
  clear hv hi1
  go_enter Tryz.func94, Tryz.ntmps94
  go_wp2_with fail
  refine (implValid_any lo hi _ _ t _ hv3.out (by simp; omega)).mono ?_
  rintro e w1 ⟨rfl, hb1⟩
  have H1 := Lib.hid (box2 (hb1.mono (by simp)))
  obtain ⟨q0, q1, hl, _⟩ := box2 (hb1.mono (by simp))
  clear hb1
  by_cases hok : tyOk t = true
  · have hfin : Hid (hasV t k v = hasV0 t.sizes k v) := by show hasV t k v = _; unfold hasV; rw [hok, Bool.true_and]
    rw [hok]
    by_cases ha : 0 ≤ k ∧ k < t.sizes.length
    · have hA := ixB_yes ha.1 ha.2
      have hlt : k.toNat < t.sizes.length := by omega
      have hfin2 := Lib.hid (hasV0_yes (v := v) hA hlt)
      obtain ⟨b, off, rfl, _, _, c0, _⟩ := (Hi1.out.below H1.out.2.2.2 hB).at_ hlt
      have hk0 := ha.1
      have hk1 := ha.2
      clear ha
      go_wp2_with (go_at_call 91; refine (isIndex_any _ _ _).mono ?_; rintro e w' ⟨rfl, rfl⟩)
      go_ret
      exact ⟨ret_bool (by rw [hfin.out, hfin2.out]), H1.out.2.2.2⟩
    · have hA := ixB_no ha
      have hfin2 := Lib.hid (hasV0_no (v := v) hA)
      clear ha
      go_wp2_with (go_at_call 91; refine (isIndex_any _ _ _).mono ?_; rintro e w' ⟨rfl, rfl⟩)
      go_ret
      exact ⟨ret_bool (by rw [hfin.out, hfin2.out]), H1.out.2.2.2⟩
  · have hokf : tyOk t = false := by simpa using hok
    have hfin : Hid (hasV t k v = false) := by show hasV t k v = _; unfold hasV; rw [hokf, Bool.false_and]
    rw [hokf]
    clear hok
    go_wp2
    go_ret
    exact ⟨ret_bool hfin.out.symm, H1.out.2.2.2⟩
end Go.Proofs.YtgkfddhhkjblgaaGreatDoor

namespace Go.Proofs.YtgkfddhhkjblgaaGreatDoor
open Go.RowKit Go.Shelf

/-- A value stands for an explicit term: its rows lie in blocks from B on. -/
def MNodeAt (w : World) (B : Nat) : Mk → Value → Prop
  | .lit k v, o => o = .iface 145 (.agg #[.int .i64 k, .int .i64 v])
  | .co i m, o => ∃ v, o = .iface 160 (.agg #[.int .i64 i, v]) ∧ MNodeAt w B m v
  | .a0 i, o => ∃ ps, o = .iface 162 (.agg #[.int .i64 i, ps]) ∧ w.ownsRow B 62 1 ps 0 []
  | .a1 i m, o => ∃ ps v, o = .iface 162 (.agg #[.int .i64 i, ps]) ∧ w.ownsRow B 62 1 ps 1 [v] ∧ MNodeAt w B m v
  | .a2 i m p, o => ∃ ps v v2, o = .iface 162 (.agg #[.int .i64 i, ps]) ∧ w.ownsRow B 62 1 ps 2 [v, v2] ∧ MNodeAt w B m v ∧ MNodeAt w B p v2
def MNodesAt (w : World) (B : Nat) : List Mk → List Value → Prop
  | [], [] => True
  | m :: ms, v :: vs => MNodeAt w B m v ∧ MNodesAt w B ms vs
  | _, _ => False
theorem own_same7 {w w' : World} {N : Nat} {t : TypeId} {v : Value} {n : Nat} {xs : List Value} (h : w.ownsRow N t 1 v n xs) (hs : ∀ g, N ≤ g → g < w.heap.size → w'.heap[g]? = w.heap[g]?) : w'.ownsRow N t 1 v n xs := by
  obtain ⟨h1, h2 | ⟨g, cap, cur, e, hg, hh, r⟩⟩ := h
  · exact ⟨h1, .inl h2⟩
  · refine ⟨h1, .inr ⟨g, cap, cur, e, hg, (hs g hg ?_).trans hh, r⟩⟩
    rcases Nat.lt_or_ge g w.heap.size with h' | h'
    · exact h'
    · rw [Array.getElem?_eq_none h'] at hh; cases hh
theorem MNodeAt.same {w w' : World} {B : Nat} (hs : ∀ g, B ≤ g → g < w.heap.size → w'.heap[g]? = w.heap[g]?) : ∀ {m : Mk} {o : Value}, MNodeAt w B m o → MNodeAt w' B m o
  | .lit _ _, _, h => h
  | .co _ _, _, ⟨v, e, h⟩ => ⟨v, e, h.same hs⟩
  | .a0 _, _, ⟨ps, e, h⟩ => ⟨ps, e, own_same7 h hs⟩
  | .a1 _ _, _, ⟨ps, v, e, h, g⟩ => ⟨ps, v, e, own_same7 h hs, g.same hs⟩
  | .a2 _ _ _, _, ⟨ps, v, v2, e, h, g, g2⟩ => ⟨ps, v, v2, e, own_same7 h hs, g.same hs, g2.same hs⟩
theorem MNodeAt.base {w : World} {B C : Nat} (hC : C ≤ B) : ∀ {m : Mk} {o : Value}, MNodeAt w B m o → MNodeAt w C m o
  | .lit _ _, _, h => h
  | .co _ _, _, ⟨v, e, h⟩ => ⟨v, e, h.base hC⟩
  | .a0 _, _, ⟨ps, e, h⟩ => ⟨ps, e, ownsRow_base h hC⟩
  | .a1 _ _, _, ⟨ps, v, e, h, g⟩ => ⟨ps, v, e, ownsRow_base h hC, g.base hC⟩
  | .a2 _ _ _, _, ⟨ps, v, v2, e, h, g, g2⟩ => ⟨ps, v, v2, e, ownsRow_base h hC, g.base hC, g2.base hC⟩
theorem MNodesAt.same {w w' : World} {B : Nat} (hs : ∀ g, B ≤ g → g < w.heap.size → w'.heap[g]? = w.heap[g]?) : ∀ {ms : List Mk} {vs : List Value}, MNodesAt w B ms vs → MNodesAt w' B ms vs
  | [], [], _ => trivial
  | _ :: _, _ :: _, ⟨h, g⟩ => ⟨h.same hs, g.same hs⟩
theorem MNodesAt.base {w : World} {B C : Nat} (hC : C ≤ B) : ∀ {ms : List Mk} {vs : List Value}, MNodesAt w B ms vs → MNodesAt w C ms vs
  | [], [], _ => trivial
  | _ :: _, _ :: _, ⟨h, g⟩ => ⟨h.base hC, g.base hC⟩
theorem MNodesAt.snoc {w : World} {B : Nat} {m : Mk} {v : Value} (ht : MNodeAt w B m v) : ∀ {ms : List Mk} {vs : List Value}, MNodesAt w B ms vs → MNodesAt w B (ms ++ [m]) (vs ++ [v])
  | [], [], _ => ⟨ht, trivial⟩
  | _ :: _, _ :: _, ⟨h, g⟩ => ⟨h, g.snoc ht⟩
theorem MNodesAt.len {w : World} {B : Nat} : ∀ {ms : List Mk} {vs : List Value}, MNodesAt w B ms vs → vs.length = ms.length
  | [], [], _ => rfl
  | _ :: _, _ :: _, ⟨_, g⟩ => by simp [g.len]
theorem MNodeAt.mk {w : World} {B : Nat} {i : Nat} {ps : Value} {ms : List Mk} {vs : List Value} (h2 : ms.length ≤ 2) (hr : w.ownsRow B 62 1 ps ms.length vs) (hn : MNodesAt w B ms vs) : MNodeAt w B (mkA i ms) (.iface 162 (.agg #[.int .i64 i, ps])) := by
  match ms, vs, h2, hr, hn with
  | [], [], _, hr, _ => exact ⟨ps, rfl, hr⟩
  | [m], [v], _, hr, hn => exact ⟨ps, v, rfl, hr, hn.1⟩
  | [m, p], [v, v2], _, hr, hn => exact ⟨ps, v, v2, rfl, hr, hn.1, hn.2.1⟩
theorem MNodeAt.form {w : World} {B : Nat} : ∀ {m : Mk} {o : Value}, MNodeAt w B m o → ∃ T x, o = .iface T x
  | .lit _ _, _, h => ⟨_, _, h⟩
  | .co _ _, _, ⟨_, e, _⟩ => ⟨_, _, e⟩
  | .a0 _, _, ⟨_, e, _⟩ => ⟨_, _, e⟩
  | .a1 _ _, _, ⟨_, _, e, _⟩ => ⟨_, _, e⟩
  | .a2 _ _ _, _, ⟨_, _, _, e, _⟩ => ⟨_, _, e⟩

set_option maxRecDepth 100000 in
set_option maxHeartbeats 1000000 in
theorem kindLit_any (k v : Int) (sv cv fv : Value) (w : World) :
    Calls Tryz.prog 241 #[.agg #[.int .i64 k, .int .i64 v], .agg #[sv, cv, fv]] w fun e w' => e = .returned (.int .i64 k) ∧ Below w.heap.size w w' := by
  have HB : Hid (Below w.heap.size w ((w.alloc (.cells #[.int .i64 k, .int .i64 v] 145)).alloc (.cells #[sv, cv, fv] 37))) := ((Below.refl _ _).alloc (Nat.le_refl _) _).alloc (by simp) _
  have r0 := (Row.new w 145 [.int .i64 k, .int .i64 v]).alloc (.cells #[sv, cv, fv] 37)
  have m0 := r0.cell 0
  simp only [List.getElem?_cons_zero] at m0
  clear r0
  go_enter Tryz.func241, Tryz.ntmps241
  go_wp2
  go_ret
  exact ⟨rfl, HB.out⟩
set_option maxRecDepth 100000 in
set_option maxHeartbeats 1000000 in
theorem kindCo_any (lo hi : Nat) (i : Nat) (o sv cv fv : Value) (y : Sy) (w : World) (hv : SyAt w lo hi sv cv fv y) (hB : hi ≤ w.heap.size) (hi' : i < y.ty.cos.length) :
    Calls Tryz.prog 248 #[.agg #[.int .i64 i, o], .agg #[sv, cv, fv]] w fun e w' => e = .returned (.int .i64 y.ty.cos[i].dst) ∧ Below w.heap.size w w' := by
  obtain ⟨A2, cap2, rfl, _, _, _⟩ := hv.1.2.form
  have hb : Below w.heap.size w ((w.alloc (.cells #[.int .i64 i, o] 160)).alloc (.cells #[sv, .slice A2 y.ty.cos.length cap2, fv] 37)) := ((Below.refl _ _).alloc (Nat.le_refl _) _).alloc (by simp) _
  obtain ⟨b4, off4, A3, cap3, rfl, _, _, _, k1, _, _, _, _, _, _⟩ := (hv.below hb hB).1.2.at_ hi'
  have r0 := (Row.new w 160 [.int .i64 i, o]).alloc (.cells #[sv, .slice (some ⟨b4, off4, none⟩) y.ty.cos.length cap2, fv] 37)
  have r1 := Row.new (w.alloc (.cells #[.int .i64 i, o] 160)) 37 [sv, .slice (some ⟨b4, off4, none⟩) y.ty.cos.length cap2, fv]
  rw [World.size_alloc] at r1
  have m0 := r0.cell 0
  have m1 := r1.cell 1
  simp only [List.getElem?_cons_zero, List.getElem?_cons_succ] at m0 m1
  have HB := Lib.hid hb
  clear r0 r1 hb hv
  go_enter Tryz.func248, Tryz.ntmps248
  go_wp2
  go_ret
  exact ⟨rfl, HB.out⟩
set_option maxRecDepth 100000 in
set_option maxHeartbeats 1000000 in
theorem kindAp_any (lo hi : Nat) (i : Nat) (o sv cv fv : Value) (y : Sy) (w : World) (hv : SyAt w lo hi sv cv fv y) (hB : hi ≤ w.heap.size) (hi' : i < y.fs.length) :
    Calls Tryz.prog 253 #[.agg #[.int .i64 i, o], .agg #[sv, cv, fv]] w fun e w' => e = .returned (.int .i64 y.fs[i].res) ∧ Below w.heap.size w w' := by
  obtain ⟨A2, cap2, rfl, _, _, _⟩ := hv.2.form
  have hb : Below w.heap.size w ((w.alloc (.cells #[.int .i64 i, o] 162)).alloc (.cells #[sv, cv, .slice A2 y.fs.length cap2] 37)) := ((Below.refl _ _).alloc (Nat.le_refl _) _).alloc (by simp) _
  obtain ⟨b4, off4, A3, cap3, A4, cap4, rfl, _, _, _, _, k2, _, _⟩ := (hv.below hb hB).2.at_ hi'
  have r0 := (Row.new w 162 [.int .i64 i, o]).alloc (.cells #[sv, cv, .slice (some ⟨b4, off4, none⟩) y.fs.length cap2] 37)
  have r1 := Row.new (w.alloc (.cells #[.int .i64 i, o] 162)) 37 [sv, cv, .slice (some ⟨b4, off4, none⟩) y.fs.length cap2]
  rw [World.size_alloc] at r1
  have m0 := r0.cell 0
  have m2 := r1.cell 2
  simp only [List.getElem?_cons_zero, List.getElem?_cons_succ] at m0 m2
  have HB := Lib.hid hb
  clear r0 r1 hb hv
  go_enter Tryz.func253, Tryz.ntmps253
  go_wp2
  go_ret
  exact ⟨rfl, HB.out⟩

/-- The type of a node, by the method that its type has. -/
theorem MNodeAt.kind {w : World} {B : Nat} {y : Sy} {m : Mk} {o : Value} (h : MNodeAt w B m o) (hok : MkOk y m) : ∃ T x f, o = .iface T x ∧ (∀ u : World, (Go.method 436 T x "loop.example/overloads/impl.kindIn").run Tryz.prog u = .ok (f, x) u) ∧ (∀ u : World, (Go.nilAhead 436 T x "loop.example/overloads/impl.kindIn").run Tryz.prog u = .ok (some false) u) ∧ (∀ (args : Array Value) (u : World), (callFunc f args).run Tryz.prog u = .ok (.enter f args) u) ∧
    ∀ (lo hi : Nat) (sv cv fv : Value) (u : World), SyAt u lo hi sv cv fv y → hi ≤ u.heap.size → Calls Tryz.prog f #[x, .agg #[sv, cv, fv]] u fun e w' => e = .returned (.int .i64 (kindM y m)) ∧ Below u.heap.size u w' := by
  cases m with
  | lit k v => exact ⟨_, _, 241, h, fun u => by kernel_rfl, fun u => by kernel_rfl, enters_of Tryz.func241 (by kernel_rfl) rfl, fun lo hi sv cv fv u hv hB => kindLit_any k v sv cv fv u⟩
  | co i m =>
    obtain ⟨v, e, _⟩ := h
    exact ⟨_, _, 248, e, fun u => by kernel_rfl, fun u => by kernel_rfl, enters_of Tryz.func248 (by kernel_rfl) rfl, fun lo hi sv cv fv u hv hB => by
      have h := kindCo_any lo hi i v sv cv fv y u hv hB hok.1
      rw [← getD_get (d := default) hok.1] at h
      exact h⟩
  | a0 i =>
    obtain ⟨ps, e, _⟩ := h
    exact ⟨_, _, 253, e, fun u => by kernel_rfl, fun u => by kernel_rfl, enters_of Tryz.func253 (by kernel_rfl) rfl, fun lo hi sv cv fv u hv hB => by
      have h := kindAp_any lo hi i ps sv cv fv y u hv hB hok.1
      rw [← getD_get (d := default) hok.1] at h
      exact h⟩
  | a1 i m =>
    obtain ⟨ps, v, e, _⟩ := h
    exact ⟨_, _, 253, e, fun u => by kernel_rfl, fun u => by kernel_rfl, enters_of Tryz.func253 (by kernel_rfl) rfl, fun lo hi sv cv fv u hv hB => by
      have h := kindAp_any lo hi i ps sv cv fv y u hv hB hok.1
      rw [← getD_get (d := default) hok.1] at h
      exact h⟩
  | a2 i m p =>
    obtain ⟨ps, v, v2, e, _⟩ := h
    exact ⟨_, _, 253, e, fun u => by kernel_rfl, fun u => by kernel_rfl, enters_of Tryz.func253 (by kernel_rfl) rfl, fun lo hi sv cv fv u hv hB => by
      have h := kindAp_any lo hi i ps sv cv fv y u hv hB hok.1
      rw [← getD_get (d := default) hok.1] at h
      exact h⟩

section
variable {lo hi n : Nat} {a : Addr} {sv cv fv : Value} {y : Sy} {b : Nat} {l : List UInt8} {w : World}
end
end Go.Proofs.YtgkfddhhkjblgaaGreatDoor

namespace Go.Proofs.YtgkfddhhkjblgaaGreatDoor
open Go.RowKit

end Go.Proofs.YtgkfddhhkjblgaaGreatDoor

