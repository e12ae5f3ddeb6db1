/-
  strings.Builder at this program's numbers: what a builder holds, as a list of bytes.
-/
import Derived.Test.YthldlbbkbbgdkaaDoorTxd
import Derived.Test.YthldlbbkbbgdkaaDoorLay
import Derived.Test.YthldlbbkbbgdkaaDoorTo
import Derived.BigCall
import Derived.Shelf.Strings.BuilderK
namespace Go.Proofs.YthldlbbkbbgdkaaDoor
open Go.RowKit

theorem layB6 : Builder.Extra Tryd.prog lays166_ren := {
  sizeBuilder := by kernel_rfl
  liesBuilder := by kernel_rfl
  t5 := Tryd.underlying5
  a5 := Tryd.isAgg5
  z5 := Tryd.sizeOf5
  v5 := Tryd.zeroValue5
  infoByte := by kernel_rfl
  cellsByte := by kernel_rfl
  sizeByte := by kernel_rfl
  neB5 := by decide }
theorem layB7 : Builder.Extra Tryd.prog lays167_ren := {
  sizeBuilder := by kernel_rfl
  liesBuilder := by kernel_rfl
  t5 := Tryd.underlying5
  a5 := Tryd.isAgg5
  z5 := Tryd.sizeOf5
  v5 := Tryd.zeroValue5
  infoByte := by kernel_rfl
  cellsByte := by kernel_rfl
  sizeByte := by kernel_rfl
  neB5 := by decide }
theorem layB9 : Builder.Extra Tryd.prog lays169_ren := {
  sizeBuilder := by kernel_rfl
  liesBuilder := by kernel_rfl
  t5 := Tryd.underlying5
  a5 := Tryd.isAgg5
  z5 := Tryd.sizeOf5
  v5 := Tryd.zeroValue5
  infoByte := by kernel_rfl
  cellsByte := by kernel_rfl
  sizeByte := by kernel_rfl
  neB5 := by decide }
/-- The builder in block b holds l. -/
def Bld (b : Nat) (l : List UInt8) (w : World) : Prop := Lib.IsBuilderF 54 5 b b (Lib.byteCells l) w

theorem Bld.new (w : World) : Bld w.heap.size [] (w.alloc (.cells #[.pointer none, .slice none 0 0] 54)) := Lib.IsBuilderF.of (Lib.fresh_isBuilder 54 5 w)
theorem Bld.lt {b : Nat} {l : List UInt8} {w : World} (h : Bld b l w) : b < w.heap.size := by
  rcases h with h | h
  · exact h.lt
  · exact h.lt
theorem Bld.alloc {b : Nat} {l : List UInt8} {w : World} (h : Bld b l w) (o : Obj) : Bld b l (w.alloc o) := Lib.IsBuilderF.alloc h o
theorem bldAt_below {T e : TypeId} {B b : Nat} {p : Value} {bs : List Value} {w w' : World} (h : Lib.BuilderAtF T e B b p bs w) (hb : Below w.heap.size w w') : Lib.BuilderAtF T e B b p bs w' := by
  have hlt := h.lt
  obtain ⟨hB, v, hbk, hown, hne⟩ := h
  refine ⟨hB, v, (hb.block b hlt).trans hbk, ⟨hown.1, ?_⟩, hne⟩
  rcases hown.2 with hn | ⟨g, cap, cur, fz, hv, hbg, hg, rest⟩
  · exact .inl hn
  · exact .inr ⟨g, cap, cur, fz, hv, hbg, (hb.block g (by
      rcases Nat.lt_or_ge g w.heap.size with h' | h'
      · exact h'
      · rw [Array.getElem?_eq_none h'] at hg; cases hg)).trans hg, rest⟩
theorem Bld.below {b : Nat} {l : List UInt8} {w w' : World} (h : Bld b l w) (hb : Below w.heap.size w w') : Bld b l w' := by
  rcases h with h | h
  · exact .inl (bldAt_below h hb)
  · exact .inr (bldAt_below h hb)

/-- What a write keeps beside what lies below the builder. -/
theorem others_row {b g : Nat} {T : TypeId} {xs : List Value} {w w' : World} (h : Lib.OthersKept 5 (some b) w w') (hr : Row w g T xs) (hg : g ≠ b) (hT : T ≠ 5) : Row w' g T xs :=
  h g _ hr (fun e => hg (Option.some.inj e)) fun c fz e => by
    simp only [Obj.cells.injEq] at e
    exact hT e.2.1

theorem writeString_any (b : Nat) (l s : List UInt8) (w : World) (h : Bld b l w) (hl : l.length + s.length ≤ 4294967296) :
    Calls Tryd.prog 25 #[.pointer (some ⟨b, 0, none⟩), .string (str s)] w fun e w' => (∃ v, e = .returned v) ∧ Bld b (l ++ s) w' ∧ Below b w w' ∧ Lib.OthersKept 5 (some b) w w' := by
  have hx := Any.Builder_WriteString_k lays166 layB6 b b (Lib.byteCells l) (str s) w h (by rw [Lib.byteCells_length, str_size]; omega) (Nat.le_of_lt h.lt)
  refine Calls.mono hx ?_
  rintro e w' ⟨rfl, hb, h1, h2⟩
  refine ⟨⟨_, rfl⟩, ?_, h1, h2⟩
  rw [Lib.strCells_eq, ← Lib.byteCells_append] at hb
  have e : (str s).data.toList = s := by simp [str]
  rw [e] at hb
  exact .inr hb
theorem writeByte_any (b : Nat) (l : List UInt8) (c : UInt8) (z : Int) (hz : z = (c.toNat : Int)) (w : World) (h : Bld b l w) (hl : l.length ≤ 4294967296) :
    Calls Tryd.prog 26 #[.pointer (some ⟨b, 0, none⟩), .int .u8 z] w fun e w' => (∃ v, e = .returned v) ∧ Bld b (l ++ [c]) w' ∧ Below b w w' ∧ Lib.OthersKept 5 (some b) w w' := by
  have hx := Any.Builder_WriteByte_k lays167 layB7 b b (Lib.byteCells l) z w h (by rw [Lib.byteCells_length]; omega) (Nat.le_of_lt h.lt)
  refine Calls.mono hx ?_
  rintro e w' ⟨rfl, hb, h1, h2⟩
  refine ⟨⟨_, rfl⟩, ?_, h1, h2⟩
  subst hz
  have e : Lib.byteCells (l ++ [c]) = Lib.byteCells l ++ [.int .u8 (c.toNat : Int)] := by rw [Lib.byteCells_append]; rfl
  exact .inr (by rw [e]; exact hb)
theorem bldString_any (b : Nat) (l : List UInt8) (w : World) (h : Bld b l w) :
    Calls Tryd.prog 27 #[.pointer (some ⟨b, 0, none⟩)] w fun e w' => e = .returned (.string (str l)) ∧ Below b w w' := by
  have hx := Any.Builder_String_any_k lays169 layB9 b b l w h (Nat.le_of_lt h.lt)
  refine Calls.mono hx ?_
  rintro e w' ⟨rfl, _, h1, _⟩
  exact ⟨rfl, h1⟩
end Go.Proofs.YthldlbbkbbgdkaaDoor
