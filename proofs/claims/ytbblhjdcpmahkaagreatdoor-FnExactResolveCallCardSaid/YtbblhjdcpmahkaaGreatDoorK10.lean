/-
  The contract of the law's markText.
  The contracts of the functions that mark a result's memory and look whether the marks hold: numbers in one slice.
  The contracts of the functions that mark coercions and types, and look whether the marks hold.
  Functions in memory of the call's own; the contract of the function that marks them.
  The contracts of the functions that mark types, and look whether the marks hold.
  Systems in memory of the call's own; the contract of the function that marks them.
  Small words for the laws on systems.
  From the reading of an argument to the words for memory: types and a coercion that come in by value.
  From the reading of an argument to the words for memory: a function and a system that come in by value.
-/
import Derived.Test.YtbblhjdcpmahkaaGreatDoorRows
import Derived.Test.YtbblhjdcpmahkaaGreatDoorK1
import Derived.Outline
import Derived.Handy
import Derived.Laws.BytesArg
import Derived.Test.YtbblhjdcpmahkaaGreatDoorK2
import Derived.WalkKit
import Derived.ProofKit
import Derived.OpenShut
import Derived.Lib.SmallJoins
import Derived.Deep.Slices
import Derived.Deep.Fields
namespace Go.Proofs.YtbblhjdcpmahkaaGreatDoor
open Go.RowKit

/-- The digits of a number ahead of a text. -/
def digs : Nat → Int → ByteArray → ByteArray
  | 0, _, b => b
  | f + 1, n, b => if 0 < n then digs f (n / 10) (strOfNums [48 + n % 10] ++ b) else b
/-- The text that marks by a number. -/
def mText (k : Int) : ByteArray := if k ≤ 0 then ⟨#[109, 48]⟩ else ⟨#[109]⟩ ++ digs 11 k ⟨#[]⟩
theorem digs_zero : ∀ (f : Nat) (b : ByteArray), digs f 0 b = b
  | 0, _ => rfl
  | f + 1, b => by show (if (0 : Int) < 0 then _ else b) = b; rw [if_neg (by omega)]
theorem digs_step (f : Nat) (n : Int) (b : ByteArray) (h : 0 < n) : digs (f + 1) n b = digs f (n / 10) (strOfNums [48 + n % 10] ++ b) := if_pos h

theorem digs_size : ∀ (f : Nat) (n : Int) (b : ByteArray), (digs f n b).size ≤ f + b.size
  | 0, _, b => by show b.size ≤ 0 + b.size; omega
  | f + 1, n, b => by
    by_cases h : 0 < n
    · rw [digs_step f n b h]
      have h1 := digs_size f (n / 10) (strOfNums [48 + n % 10] ++ b)
      have h2 : (strOfNums [48 + n % 10]).size = 1 := strOfNums_size _
      rw [ByteArray.size_append] at h1
      omega
    · have e : digs (f + 1) n b = b := if_neg h
      rw [e]; omega
theorem mText_size (k : Int) : (mText k).size ≤ 12 := by
  unfold mText
  split
  · show 2 ≤ 12; omega
  · have h := digs_size 11 k ⟨#[]⟩
    have e : (⟨#[]⟩ : ByteArray).size = 0 := rfl
    have e2 : (⟨#[109]⟩ : ByteArray).size = 1 := rfl
    rw [ByteArray.size_append]
    omega

end Go.Proofs.YtbblhjdcpmahkaaGreatDoor

namespace Go.Proofs.YtbblhjdcpmahkaaGreatDoor
open Go.RowKit

end Go.Proofs.YtbblhjdcpmahkaaGreatDoor

namespace Go.Proofs.YtbblhjdcpmahkaaGreatDoor
open Go.RowKit

end Go.Proofs.YtbblhjdcpmahkaaGreatDoor

namespace Go.Proofs.YtbblhjdcpmahkaaGreatDoor
open Go.RowKit

/-- The types of the arguments; the table. -/
def Fu.zs (f : Fu) : Bool → List Int
  | false => f.args
  | true => f.table
def lenF (f : Nat → Fu) : Nat → Nat
  | 0 => 0
  | i + 1 => lenF f i + (f i).args.length + (f i).table.length
theorem lenF_mono (f : Nat → Fu) {i j : Nat} (h : i ≤ j) : lenF f i ≤ lenF f j := by
  induction j with
  | zero => obtain rfl : i = 0 := by omega
            exact Nat.le_refl _
  | succ j ih =>
    by_cases e : i = j + 1
    · rw [e]; exact Nat.le_refl _
    · have := ih (by omega)
      show _ ≤ lenF f j + _ + _
      omega
def markAtF (f : Nat → Fu) (k0 : Int) (i : Nat) : Int := k0 + 2 * (i : Int) + (lenF f i : Int)
def markFu (f : Nat → Fu) (k0 : Int) (i : Nat) : Fu := ⟨mText (markAtF f k0 i), markL (markAtF f k0 i + 1) (f i).args.length, markAtF f k0 i + 1 + ((f i).args.length : Int), markL (markAtF f k0 i + 1 + ((f i).args.length : Int) + 1) (f i).table.length⟩
def mixFu (f : Nat → Fu) (k0 : Int) (j i : Nat) : Fu := if i < j then markFu f k0 i else f i
theorem mixFu_len (f : Nat → Fu) (k0 : Int) (j i : Nat) (b : Bool) : ((mixFu f k0 j i).zs b).length = ((f i).zs b).length := by
  unfold mixFu
  split
  · cases b <;> simp [markFu, Fu.zs, markL_len]
  · rfl
theorem mixFu_at (f : Nat → Fu) (k0 : Int) (j : Nat) : mixFu f k0 j j = f j := by unfold mixFu; rw [if_neg (by omega)]
theorem mixFu_new (f : Nat → Fu) (k0 : Int) (j : Nat) : mixFu f k0 (j + 1) j = markFu f k0 j := by unfold mixFu; rw [if_pos (by omega)]
theorem mixFu_old (f : Nat → Fu) (k0 : Int) {i j : Nat} (h : i ≠ j) : mixFu f k0 (j + 1) i = mixFu f k0 j i := by
  unfold mixFu
  by_cases h2 : i < j
  · rw [if_pos h2, if_pos (by omega)]
  · rw [if_neg h2, if_neg (by omega)]
theorem markAtF_succ (f : Nat → Fu) (k0 : Int) (i : Nat) : markAtF f k0 (i + 1) = markAtF f k0 i + 1 + ((f i).args.length : Int) + 1 + ((f i).table.length : Int) := by
  unfold markAtF
  show k0 + 2 * ((i + 1 : Nat) : Int) + ((lenF f i + (f i).args.length + (f i).table.length : Nat) : Int) = _
  omega

/-- Functions in memory of the call's own: the slice cv at the head of block gc; the i-th arguments and table the slices mv i false and mv i true at the heads of blocks m i false and m i true. -/
def OwnFus (w : World) (ti tf : TypeId) (gc : Nat) (m : Nat → Bool → Nat) (mv : Nat → Bool → Value) (cv : Value) (n : Nat) (f : Nat → Fu) : Prop :=
  ∃ xs : List Value, SlAt w tf gc cv n xs ∧ xs.length = n * 4 ∧
    (∀ i, i < n → xs[i * 4]? = some (.string (f i).name) ∧ xs[i * 4 + 1]? = some (mv i false) ∧ xs[i * 4 + 2]? = some (.int .i64 (f i).res) ∧ xs[i * 4 + 3]? = some (mv i true)) ∧ ∀ i b, i < n → OwnI w ti (m i b) (mv i b) ((f i).zs b)
def ApartF (gc : Nat) (m : Nat → Bool → Nat) (n : Nat) (f : Nat → Fu) : Prop :=
  ∀ i b, i < n → 0 < ((f i).zs b).length → m i b ≠ gc ∧ ∀ j c, j < n → (j ≠ i ∨ c ≠ b) → 0 < ((f j).zs c).length → m j c ≠ m i b
theorem OwnFus.keep {w w' : World} {ti tf : TypeId} {gc n : Nat} {m : Nat → Bool → Nat} {mv : Nat → Bool → Value} {cv : Value} {f : Nat → Fu} (h : OwnFus w ti tf gc m mv cv n f) (hk : 0 < n → w'.heap[gc]? = w.heap[gc]?)
    (hm : ∀ i b, i < n → 0 < ((f i).zs b).length → w'.heap[m i b]? = w.heap[m i b]?) : OwnFus w' ti tf gc m mv cv n f := by
  obtain ⟨xs, h1, h2, h3, h4⟩ := h
  exact ⟨xs, h1.keep hk, h2, h3, fun i b hi => (h4 i b hi).keep (hm i b hi)⟩
theorem OwnFus.lt {w : World} {ti tf : TypeId} {gc n : Nat} {m : Nat → Bool → Nat} {mv : Nat → Bool → Value} {cv : Value} {f : Nat → Fu} (h : OwnFus w ti tf gc m mv cv n f) :
    (0 < n → gc < w.heap.size) ∧ ∀ i b, i < n → 0 < ((f i).zs b).length → m i b < w.heap.size := by
  obtain ⟨xs, h1, h2, h3, h4⟩ := h
  exact ⟨fun h0 => h1.lt h0, fun i b hi h0 => (h4 i b hi).lt h0⟩
/-- What a marking of such functions keeps. -/
def FuKeeps (gc : Nat) (m : Nat → Bool → Nat) (n : Nat) (f : Nat → Fu) (k : Nat) : Prop := (0 < n → k ≠ gc) ∧ ∀ i b, i < n → 0 < ((f i).zs b).length → k ≠ m i b

end Go.Proofs.YtbblhjdcpmahkaaGreatDoor

namespace Go.Proofs.YtbblhjdcpmahkaaGreatDoor
open Go.RowKit

end Go.Proofs.YtbblhjdcpmahkaaGreatDoor

namespace Go.Proofs.YtbblhjdcpmahkaaGreatDoor
open Go.RowKit

/-- A system in memory of the call's own. -/
structure OwnSy (w : World) (gs gc : Nat) (m : Nat → Nat) (mv : Nat → Value) (sv cv : Value) (ss : List Int) (n : Nat) (f : Nat → Co) (gf : Nat) (mf : Nat → Bool → Nat) (mvf : Nat → Bool → Value) (fv : Value) (nf : Nat) (ff : Nat → Fu) : Prop where
  ty : OwnTy w 3 95 gs gc m mv sv cv ss n f
  fs : OwnFus w 3 74 gf mf mvf fv nf ff
  apart : ApartF gf mf nf ff
  away : ∀ k, OwnTy.uses gs gc m ss n f k → FuKeeps gf mf nf ff k
/-- The blocks of such a system. -/
def OwnSy.uses (gs gc : Nat) (m : Nat → Nat) (ss : List Int) (n : Nat) (f : Nat → Co) (gf : Nat) (mf : Nat → Bool → Nat) (nf : Nat) (ff : Nat → Fu) (k : Nat) : Prop := OwnTy.uses gs gc m ss n f k ∨ ¬ FuKeeps gf mf nf ff k
theorem OwnTy.uses_lt {w : World} {ti tc : TypeId} {gs gc n : Nat} {m : Nat → Nat} {mv : Nat → Value} {sv cv : Value} {ss : List Int} {f : Nat → Co} (h : OwnTy w ti tc gs gc m mv sv cv ss n f) {k : Nat} (hk : OwnTy.uses gs gc m ss n f k) : k < w.heap.size := by
  rcases hk with ⟨h0, rfl⟩ | ⟨h0, rfl⟩ | ⟨i, hi, h0, rfl⟩
  · exact h.sizes.lt h0
  · exact h.cos.lt.1 h0
  · exact h.cos.lt.2 i hi h0
theorem not_keeps {gf nf : Nat} {mf : Nat → Bool → Nat} {ff : Nat → Fu} {k : Nat} (h : ¬ FuKeeps gf mf nf ff k) : (0 < nf ∧ k = gf) ∨ ∃ i b, i < nf ∧ 0 < ((ff i).zs b).length ∧ k = mf i b := by
  unfold FuKeeps at h
  rcases Classical.em (0 < nf → k ≠ gf) with h1 | h1
  · rcases Classical.em (∀ i b, i < nf → 0 < ((ff i).zs b).length → k ≠ mf i b) with h2 | h2
    · exact absurd ⟨h1, h2⟩ h
    · refine .inr ?_
      apply Classical.byContradiction
      intro hn
      exact h2 fun i b hi hl e => hn ⟨i, b, hi, hl, e⟩
  · refine .inl ?_
    apply Classical.byContradiction
    intro hn
    exact h1 fun h0 e => hn ⟨h0, e⟩

/-- A system as the copying lays it is such a system. -/
theorem NewSy.own {w : World} {g : Nat} {y : Sy} (h : NewSy w 3 95 74 g y) (hb : y.bulk ≤ 1048576) :
    OwnSy w g (g + 1) (fun j => g + 1 + 1 + 4 * j + 3) (fun j => .slice (some ⟨g + 1 + 1 + 4 * j + 3, 0, none⟩) (y.ty.cos.getD j default).map.length (y.ty.cos.getD j default).map.length)
      (.slice (some ⟨g, 0, none⟩) y.ty.sizes.length y.ty.sizes.length) (.slice (some ⟨g + 1, 0, none⟩) y.ty.cos.length y.ty.cos.length) y.ty.sizes y.ty.cos.length (fun j => y.ty.cos.getD j default)
      (g + 2 + 4 * y.ty.cos.length) (fun j b => g + 2 + 4 * y.ty.cos.length + 1 + 5 * j + (if b then 4 else 3)) (fun j b => .slice (some ⟨g + 2 + 4 * y.ty.cos.length + 1 + 5 * j + (if b then 4 else 3), 0, none⟩) ((y.fs.getD j default).zs b).length ((y.fs.getD j default).zs b).length)
      (.slice (some ⟨g + 2 + 4 * y.ty.cos.length, 0, none⟩) y.fs.length y.fs.length) y.fs.length (fun j => y.fs.getD j default) := by
  have hb' := hb
  unfold Sy.bulk at hb'
  obtain ⟨h1, ⟨xs, h2, h3⟩, h4⟩ := h
  refine ⟨h1.own (by omega), ⟨xs, ⟨_, _, rfl, Nat.le_refl _, by unfold maxLen; omega, fun h0 => List.eq_nil_of_length_eq_zero (by rw [h3.1, h0]), fun _ => ⟨rfl, [], by simpa using h2⟩⟩, h3.1, fun i hi => ?_, fun i b hi => ?_⟩, fun i b hi _ => ⟨?_, fun j c hj hne _ => ?_⟩, fun k hk => ?_⟩
  · obtain ⟨a, b, c, d⟩ := h3.2 i hi hi
    have e : y.fs.getD i default = y.fs[i] := by rw [List.getD_eq_getElem?_getD, List.getElem?_eq_getElem hi]; rfl
    simp only [e]
    exact ⟨a, b, c, d⟩
  · have e : y.fs.getD i default = y.fs[i] := by rw [List.getD_eq_getElem?_getD, List.getElem?_eq_getElem hi]; rfl
    simp only [e]
    have hw := y.fu_le i hi
    unfold Fu.weight at hw
    cases b with
    | false => exact (h4 i hi).1.own (Nat.le_refl _) (by show y.fs[i].args.length ≤ maxLen; unfold maxLen; omega)
    | true => exact (h4 i hi).2.own (Nat.le_refl _) (by show y.fs[i].table.length ≤ maxLen; unfold maxLen; omega)
  · show g + 2 + 4 * y.ty.cos.length + 1 + 5 * i + _ ≠ g + 2 + 4 * y.ty.cos.length
    split <;> omega
  · show g + 2 + 4 * y.ty.cos.length + 1 + 5 * j + _ ≠ g + 2 + 4 * y.ty.cos.length + 1 + 5 * i + _
    rcases hne with hne | hne
    · cases b <;> cases c <;> simp <;> omega
    · cases b <;> cases c <;> simp at hne ⊢ <;> omega
  · have hk2 : g ≤ k ∧ k < g + 2 + 4 * y.ty.cos.length := by
      rcases hk with ⟨_, rfl⟩ | ⟨_, rfl⟩ | ⟨i, hi, _, rfl⟩
      · omega
      · omega
      · dsimp only; omega
    exact ⟨fun _ => by omega, fun i b hi _ => by dsimp only; split <;> omega⟩

end Go.Proofs.YtbblhjdcpmahkaaGreatDoor

namespace Go.Proofs.YtbblhjdcpmahkaaGreatDoor
open Go.RowKit

theorem markL_wf (k : Int) (n : Nat) (h0 : 0 ≤ k) (h1 : k + n ≤ 1000000000) : ∀ z ∈ markL k n, I64 z := by
  intro z hz
  unfold markL at hz
  obtain ⟨i, hi, rfl⟩ := List.mem_map.1 hz
  have := List.mem_range.1 hi
  unfold I64
  omega
theorem lenSum_maps (t : Ty) (n : Nat) (hn : n ≤ t.cos.length) : lenSum (fun j => t.cos.getD j default) n = mapsLen t.cos n := by
  induction n with
  | zero => rfl
  | succ n ih =>
    rw [mapsLen_succ t.cos n (by omega), ← ih (by omega)]
    rfl

theorem newUses {g n : Nat} {ss : List Int} {f : Nat → Co} {k : Nat} (h : OwnTy.uses g (g + 1) (fun j => g + 1 + 1 + 4 * j + 3) ss n f k) : g ≤ k ∧ k < g + 2 + 4 * n := by
  rcases h with ⟨_, rfl⟩ | ⟨_, rfl⟩ | ⟨i, hi, _, rfl⟩
  · omega
  · omega
  · dsimp only; omega

theorem lenF_sum (fs : List Fu) (n : Nat) (hn : n ≤ fs.length) : lenF (fun j => fs.getD j default) n ≤ fusLen fs n := by
  induction n with
  | zero => exact Nat.zero_le _
  | succ n ih =>
    rw [fusLen_succ fs n (by omega)]
    have := ih (by omega)
    show lenF (fun j => fs.getD j default) n + (fs.getD n default).args.length + (fs.getD n default).table.length ≤ _
    unfold Fu.weight
    omega
theorem newUsesS {g nc nf : Nat} {ss : List Int} {f : Nat → Co} {ff : Nat → Fu} {k : Nat} (h : OwnSy.uses g (g + 1) (fun j => g + 1 + 1 + 4 * j + 3) ss nc f (g + 2 + 4 * nc) (fun j b => g + 2 + 4 * nc + 1 + 5 * j + (if b then 4 else 3)) nf ff k) : g ≤ k ∧ k < g + 3 + 4 * nc + 5 * nf := by
  rcases h with h | h
  · have := newUses h
    omega
  · rcases not_keeps h with ⟨h0, rfl⟩ | ⟨i, b, hi, _, rfl⟩
    · omega
    · cases b <;> simp <;> omega

theorem IntsAt.wfi {w : World} {lo hi : Nat} {v : Value} {zs : List Int} (h : IntsAt w lo hi v zs) : ∀ z ∈ zs, I64 z := by
  obtain ⟨_, _, _, _, _, h, _⟩ := h
  exact h
end Go.Proofs.YtbblhjdcpmahkaaGreatDoor

namespace Go.Proofs.YtbblhjdcpmahkaaGreatDoor
open Go.ChangeShapes Go.WideShapes Go.ChangeAt Go.RowKit Go.Joins Go.Deep

theorem Tryz.own : ownKnob Tryz.prog.godebug = none := by kernel_rfl
theorem Tryz.laidOut : laidOutB Tryz.prog = true := by kernel_rfl
theorem Tryz.cellsInt : Tryz.prog.cellsOf 3 = 1 := by kernel_rfl
theorem Tryz.cellsTypes : Tryz.prog.cellsOf 25 = 2 := by kernel_rfl
theorem Tryz.cellsCo : Tryz.prog.cellsOf 91 = 3 := by kernel_rfl

theorem wf_I64 {z : Int} (h : (Lit.int .i64 z).wf = true) : I64 z := by
  simpa [Lit.wf, IntKind.min, IntKind.max, IntKind.signed, IntKind.bits, I64] using h

section
variable {H : Type} {enc : TypeId × Value → H} {W : World} {base : Nat} {held : Bool}

/-- A slice of ints that comes in. -/
theorem open_intsAt {fuel : Nat} {v : Value} {x : DataW H × List MemPlace} (h : DataW.trod enc Tryz.prog W base (fun _ => true) held fuel 22 [v] = some x) : ∃ zs, IntsAt W 0 W.heap.size v zs := by
  rcases open_ints Tryz.underlying22 Tryz.underlying3 Tryz.cellsInt h with ⟨hcs, _⟩ | ⟨a, len, cap, zs, hcs, _, hl, hm, hz, _, hcell, hwz⟩
  · simp only [List.cons.injEq, and_true] at hcs
    subst hcs
    exact ⟨[], _, _, rfl, Nat.le_refl _, Nat.zero_le _, fun z hz => absurd hz (by simp), fun h => absurd h (by simp)⟩
  · simp only [List.cons.injEq, and_true] at hcs
    subst hcs
    simp only [if_true] at hz
    have e : (zs.take len).length = len := by rw [List.length_take]; omega
    refine ⟨zs.take len, some a, cap, by rw [e], by rw [e]; exact hl, hm, fun z hzm => wf_I64 (hwz z (List.mem_of_mem_take hzm)), fun h0 => ?_⟩
    rw [e] at h0
    obtain ⟨b, off, spot⟩ := a
    have hspot : spot = none := by simpa [Addr.add] using World.cell?_spot (hcell 0 (by omega))
    subst hspot
    refine ⟨b, off, rfl, Nat.zero_le _, World.block_lt_of_cell? W _ (hcell 0 (by omega)), fun k hk => ?_⟩
    rw [e] at hk
    rw [← add_plain, hcell k (by omega), List.getD_eq_getElem?_getD, List.getD_eq_getElem?_getD, List.getElem?_take_of_lt hk]

theorem three_fields {P : Program} {spare : Nat → Bool} {t : TypeId} {f0 f1 f2 : Field} {n : Nat} {x y z : Value} {r : DataW H × List MemPlace} (hs : P.underlying t = some (.struct #[f0, f1, f2])) (hone : oneCellFields P #[f0, f1, f2] = true)
    (h : DataW.trod enc P W base spare held n t [x, y, z] = some r) :
    ∃ (y0 y1 y2 : DataW H × List MemPlace) (m : Nat), DataW.trod enc P W base spare held m f0.type [x] = some y0 ∧ DataW.trod enc P W base spare held m f1.type [y] = some y1 ∧ DataW.trod enc P W base spare held m f2.type [z] = some y2 := by
  obtain ⟨ys, m, _, _, _, hyl, hf⟩ := DataW.trod_struct hs h
  obtain ⟨o0, k0⟩ := hone_of hone 0 f0 rfl
  obtain ⟨o1, k1⟩ := hone_of hone 1 f1 rfl
  obtain ⟨o2, k2⟩ := hone_of hone 2 f2 rfl
  match ys, hyl with
  | [y0, y1, y2], _ =>
    exact ⟨y0, y1, y2, m, by simpa [o0, k0] using hf 0 f0 rfl, by simpa [o1, k1] using hf 1 f1 rfl, by simpa [o2, k2] using hf 2 f2 rfl⟩

/-- A coercion's three cells. -/
theorem open_coAt {n : Nat} {x y z : Value} {r : DataW H × List MemPlace} (h : DataW.trod enc Tryz.prog W base (fun _ => true) held n 91 [x, y, z] = some r) : ∃ c, CoAt W 0 W.heap.size x y z c := by
  obtain ⟨y0, y1, y2, m, e0, e1, e2⟩ := three_fields Tryz.underlying91 (by kernel_rfl) h
  obtain ⟨a, ea, _, wa⟩ := DataW.trod_int Tryz.underlying3 e0
  obtain ⟨b, eb, _, wb⟩ := DataW.trod_int Tryz.underlying3 e1
  obtain ⟨zs, hz⟩ := open_intsAt e2
  simp only [List.cons.injEq, and_true] at ea eb
  exact ⟨⟨a, b, zs⟩, ea, eb, wf_I64 wa, wf_I64 wb, hz⟩

theorem open_cosAt {fuel : Nat} {v : Value} {x : DataW H × List MemPlace} (h : DataW.trod enc Tryz.prog W base (fun _ => true) held fuel 23 [v] = some x) : ∃ cs, CosAt W 0 W.heap.size v cs := by
  rcases open_slice Tryz.underlying23 h with ⟨hcs, _⟩ | ⟨a, len, cap, m, n, D, Pl, hcs, hb, hl, hm, hmm, hx, hi⟩
  · simp only [List.cons.injEq, and_true] at hcs
    subst hcs
    exact ⟨[], _, _, rfl, Nat.le_refl _, Nat.zero_le _, fun h => absurd h (by simp)⟩
  · simp only [List.cons.injEq, and_true] at hcs
    subst hcs
    simp only [if_true] at hmm
    have key : ∀ i, i < len → ∃ c : Co, ∃ x y z, W.cell? (a.add (i * 3)) = some x ∧ W.cell? ((a.add (i * 3)).add 1) = some y ∧ W.cell? ((a.add (i * 3)).add 2) = some z ∧ CoAt W 0 W.heap.size x y z c := by
      intro i hil
      obtain ⟨cs', hc, ht⟩ := hi i (by omega)
      rw [Tryz.cellsCo] at hc
      obtain ⟨_, hcl, hat⟩ := World.cells?_some hc
      match cs', hcl with
      | [x, y, z], _ =>
        obtain ⟨c, hco⟩ := open_coAt ht
        exact ⟨c, x, y, z, by simpa [Addr.add] using hat 0 (by omega), hat 1 (by omega), hat 2 (by omega), hco⟩
    obtain ⟨f, hfx⟩ := choose_lt key
    have e : ((List.range len).map f).length = len := by simp
    refine ⟨(List.range len).map f, some a, cap, by rw [e], by rw [e]; exact hl, hm, fun h0 => ?_⟩
    rw [e] at h0
    obtain ⟨b, off, spot⟩ := a
    obtain ⟨x0, _, _, h00, _⟩ := hfx 0 h0
    have hspot : spot = none := by simpa [Addr.add] using World.cell?_spot h00
    subst hspot
    refine ⟨b, off, rfl, Nat.zero_le _, ?_, fun k hk => ?_⟩
    · have := World.block_lt_of_cell? W _ h00
      simpa [Addr.add] using this
    · rw [e] at hk
      obtain ⟨x, y, z, c0, c1, c2, hco⟩ := hfx k hk
      rw [add_plain] at c0 c1 c2
      rw [add_plain] at c1 c2
      refine ⟨x, y, z, c0, c1, c2, ?_⟩
      rw [List.getD_eq_getElem?_getD, List.getElem?_eq_getElem (by rw [e]; exact hk)]
      simpa using hco

set_option maxRecDepth 100000 in
/-- Types that come in by value. -/
theorem open_tyAt {r : Reach} {b0 : Nat} {v : Value} {d : DataW H} {p : List MemPlace} (hv : Value.okWide Tryz.prog W r b0 25 v) (h : DataW.Trod enc Tryz.prog W base (fun _ => true) held 25 v d p) :
    ∃ sv cv t, v = .agg #[sv, cv] ∧ TyAt W 0 W.heap.size sv cv t := by
  obtain ⟨c0, c1, y0, y1, m, rfl, _, _, hy0, hy1⟩ := open_agg2 Tryz.underlying25 (by kernel_rfl) Tryz.cellsTypes hv h
  obtain ⟨zs, hz⟩ := open_intsAt hy0
  obtain ⟨cs, hc⟩ := open_cosAt hy1
  exact ⟨c0, c1, ⟨zs, cs⟩, rfl, hz, hc⟩

set_option maxRecDepth 100000 in
/-- A coercion that comes in by value. -/
theorem open_coVal {r : Reach} {b0 : Nat} {v : Value} {d : DataW H} {p : List MemPlace} (hv : Value.okWide Tryz.prog W r b0 91 v) (h : DataW.Trod enc Tryz.prog W base (fun _ => true) held 91 v d p) :
    ∃ x y z c, v = .agg #[x, y, z] ∧ CoAt W 0 W.heap.size x y z c := by
  obtain ⟨cs, rfl, hsz⟩ := okWide_struct Tryz.underlying91 hv
  obtain ⟨l⟩ := cs
  match l, hsz.trans Tryz.cellsCo with
  | [x, y, z], _ =>
    obtain ⟨fuel, hf⟩ := h
    obtain ⟨c, hc⟩ := open_coAt (by simpa [Value.cells] using hf)
    exact ⟨x, y, z, c, rfl, hc⟩
end
end Go.Proofs.YtbblhjdcpmahkaaGreatDoor

namespace Go.Proofs.YtbblhjdcpmahkaaGreatDoor
open Go.ChangeShapes Go.WideShapes Go.ChangeAt Go.RowKit Go.Joins Go.Deep

theorem Tryz.cellsFunction : Tryz.prog.cellsOf 69 = 4 := by kernel_rfl
theorem Tryz.cellsSystem : Tryz.prog.cellsOf 28 = 3 := by kernel_rfl

section
variable {H : Type} {enc : TypeId × Value → H} {W : World} {base : Nat} {held : Bool}

theorem four_fields {P : Program} {spare : Nat → Bool} {t : TypeId} {f0 f1 f2 f3 : Field} {n : Nat} {x y z u : Value} {r : DataW H × List MemPlace} (hs : P.underlying t = some (.struct #[f0, f1, f2, f3])) (hone : oneCellFields P #[f0, f1, f2, f3] = true)
    (h : DataW.trod enc P W base spare held n t [x, y, z, u] = some r) :
    ∃ (y0 y1 y2 y3 : DataW H × List MemPlace) (m : Nat), DataW.trod enc P W base spare held m f0.type [x] = some y0 ∧ DataW.trod enc P W base spare held m f1.type [y] = some y1 ∧ DataW.trod enc P W base spare held m f2.type [z] = some y2 ∧ DataW.trod enc P W base spare held m f3.type [u] = some y3 := by
  obtain ⟨ys, m, _, _, _, hyl, hf⟩ := DataW.trod_struct hs h
  obtain ⟨o0, k0⟩ := hone_of hone 0 f0 rfl
  obtain ⟨o1, k1⟩ := hone_of hone 1 f1 rfl
  obtain ⟨o2, k2⟩ := hone_of hone 2 f2 rfl
  obtain ⟨o3, k3⟩ := hone_of hone 3 f3 rfl
  match ys, hyl with
  | [y0, y1, y2, y3], _ =>
    exact ⟨y0, y1, y2, y3, m, by simpa [o0, k0] using hf 0 f0 rfl, by simpa [o1, k1] using hf 1 f1 rfl, by simpa [o2, k2] using hf 2 f2 rfl, by simpa [o3, k3] using hf 3 f3 rfl⟩

theorem two_fields {P : Program} {spare : Nat → Bool} {t : TypeId} {f0 f1 : Field} {n : Nat} {x y : Value} {r : DataW H × List MemPlace} (hs : P.underlying t = some (.struct #[f0, f1])) (hone : oneCellFields P #[f0, f1] = true)
    (h : DataW.trod enc P W base spare held n t [x, y] = some r) :
    ∃ (y0 y1 : DataW H × List MemPlace) (m : Nat), DataW.trod enc P W base spare held m f0.type [x] = some y0 ∧ DataW.trod enc P W base spare held m f1.type [y] = some y1 := by
  obtain ⟨ys, m, _, _, _, hyl, hf⟩ := DataW.trod_struct hs h
  obtain ⟨o0, k0⟩ := hone_of hone 0 f0 rfl
  obtain ⟨o1, k1⟩ := hone_of hone 1 f1 rfl
  match ys, hyl with
  | [y0, y1], _ =>
    exact ⟨y0, y1, m, by simpa [o0, k0] using hf 0 f0 rfl, by simpa [o1, k1] using hf 1 f1 rfl⟩

theorem two_one_fields {P : Program} {spare : Nat → Bool} {t : TypeId} {f0 f1 : Field} {n : Nat} {x y z : Value} {r : DataW H × List MemPlace} (hs : P.underlying t = some (.struct #[f0, f1])) (o0 : f0.offset = 0) (k0 : P.cellsOf f0.type = 2) (o1 : f1.offset = 2) (k1 : P.cellsOf f1.type = 1)
    (h : DataW.trod enc P W base spare held n t [x, y, z] = some r) :
    ∃ (y0 y1 : DataW H × List MemPlace) (m : Nat), DataW.trod enc P W base spare held m f0.type [x, y] = some y0 ∧ DataW.trod enc P W base spare held m f1.type [z] = some y1 := by
  obtain ⟨ys, m, _, _, _, hyl, hf⟩ := DataW.trod_struct hs h
  match ys, hyl with
  | [y0, y1], _ =>
    exact ⟨y0, y1, m, by simpa [o0, k0] using hf 0 f0 rfl, by simpa [o1, k1] using hf 1 f1 rfl⟩

/-- A function's four cells. -/
theorem open_fuAt {n : Nat} {x a r t : Value} {d : DataW H × List MemPlace} (h : DataW.trod enc Tryz.prog W base (fun _ => true) held n 69 [x, a, r, t] = some d) : ∃ f, FuAt W 0 W.heap.size x a r t f := by
  obtain ⟨y0, y1, y2, y3, m, e0, e1, e2, e3⟩ := four_fields Tryz.underlying69 (by kernel_rfl) h
  obtain ⟨s, es, _, hs⟩ := DataW.trod_string Tryz.underlying9 e0
  obtain ⟨zs, hz⟩ := open_intsAt e1
  obtain ⟨b, eb, _, wb⟩ := DataW.trod_int Tryz.underlying3 e2
  obtain ⟨us, hu⟩ := open_intsAt e3
  simp only [List.cons.injEq, and_true] at es eb
  exact ⟨⟨s, zs, b, us⟩, es, eb, hs, wf_I64 wb, hz, hu⟩

theorem open_fusAt {fuel : Nat} {v : Value} {x : DataW H × List MemPlace} (h : DataW.trod enc Tryz.prog W base (fun _ => true) held fuel 26 [v] = some x) : ∃ fs, FusAt W 0 W.heap.size v fs := by
  rcases open_slice Tryz.underlying26 h with ⟨hcs, _⟩ | ⟨a, len, cap, m, n, D, Pl, hcs, hb, hl, hm, hmm, hx, hi⟩
  · simp only [List.cons.injEq, and_true] at hcs
    subst hcs
    exact ⟨[], _, _, rfl, Nat.le_refl _, Nat.zero_le _, fun h => absurd h (by simp)⟩
  · simp only [List.cons.injEq, and_true] at hcs
    subst hcs
    simp only [if_true] at hmm
    have key : ∀ i, i < len → ∃ c : Fu, ∃ x y z u, W.cell? (a.add (i * 4)) = some x ∧ W.cell? ((a.add (i * 4)).add 1) = some y ∧ W.cell? ((a.add (i * 4)).add 2) = some z ∧ W.cell? ((a.add (i * 4)).add 3) = some u ∧ FuAt W 0 W.heap.size x y z u c := by
      intro i hil
      obtain ⟨cs', hc, ht⟩ := hi i (by omega)
      rw [Tryz.cellsFunction] at hc
      obtain ⟨_, hcl, hat⟩ := World.cells?_some hc
      match cs', hcl with
      | [x, y, z, u], _ =>
        obtain ⟨c, hco⟩ := open_fuAt ht
        exact ⟨c, x, y, z, u, by simpa [Addr.add] using hat 0 (by omega), hat 1 (by omega), hat 2 (by omega), hat 3 (by omega), hco⟩
    obtain ⟨f, hfx⟩ := choose_lt key
    have e : ((List.range len).map f).length = len := by simp
    refine ⟨(List.range len).map f, some a, cap, by rw [e], by rw [e]; exact hl, hm, fun h0 => ?_⟩
    rw [e] at h0
    obtain ⟨b, off, spot⟩ := a
    obtain ⟨x0, _, _, _, h00, _⟩ := hfx 0 h0
    have hspot : spot = none := by simpa [Addr.add] using World.cell?_spot h00
    subst hspot
    refine ⟨b, off, rfl, Nat.zero_le _, ?_, fun k hk => ?_⟩
    · have := World.block_lt_of_cell? W _ h00
      simpa [Addr.add] using this
    · rw [e] at hk
      obtain ⟨x, y, z, u, c0, c1, c2, c3, hco⟩ := hfx k hk
      rw [add_plain] at c0 c1 c2 c3
      rw [add_plain] at c1 c2 c3
      refine ⟨x, y, z, u, c0, c1, c2, c3, ?_⟩
      rw [List.getD_eq_getElem?_getD, List.getElem?_eq_getElem (by rw [e]; exact hk)]
      simpa using hco

set_option maxRecDepth 100000 in
/-- A system that comes in by value. -/
theorem open_syAt {r : Reach} {b0 : Nat} {v : Value} {d : DataW H} {p : List MemPlace} (hv : Value.okWide Tryz.prog W r b0 28 v) (h : DataW.Trod enc Tryz.prog W base (fun _ => true) held 28 v d p) :
    ∃ sv cv fv y, v = .agg #[sv, cv, fv] ∧ SyAt W 0 W.heap.size sv cv fv y := by
  obtain ⟨cs, rfl, hsz⟩ := okWide_struct Tryz.underlying28 hv
  obtain ⟨l⟩ := cs
  match l, hsz.trans Tryz.cellsSystem with
  | [x, y, z], _ =>
    obtain ⟨fuel, hf⟩ := h
    obtain ⟨y0, y1, m, e0, e1⟩ := two_one_fields Tryz.underlying28 (by kernel_rfl) (by kernel_rfl) (by kernel_rfl) (by kernel_rfl) (by simpa [Value.cells] using hf)
    obtain ⟨z0, z1, m2, d0, d1⟩ := two_fields Tryz.underlying25 (by kernel_rfl) e0
    obtain ⟨zs, hz⟩ := open_intsAt d0
    obtain ⟨cs, hc⟩ := open_cosAt d1
    obtain ⟨fs, hfu⟩ := open_fusAt e1
    exact ⟨x, y, z, ⟨⟨zs, cs⟩, fs⟩, rfl, ⟨hz, hc⟩, hfu⟩

set_option maxRecDepth 100000 in
/-- A function that comes in by value. -/
theorem open_fuVal {r : Reach} {b0 : Nat} {v : Value} {d : DataW H} {p : List MemPlace} (hv : Value.okWide Tryz.prog W r b0 69 v) (h : DataW.Trod enc Tryz.prog W base (fun _ => true) held 69 v d p) :
    ∃ x a r t f, v = .agg #[x, a, r, t] ∧ FuAt W 0 W.heap.size x a r t f := by
  obtain ⟨cs, rfl, hsz⟩ := okWide_struct Tryz.underlying69 hv
  obtain ⟨l⟩ := cs
  match l, hsz.trans Tryz.cellsFunction with
  | [x, y, z, u], _ =>
    obtain ⟨fuel, hf⟩ := h
    obtain ⟨c, hc⟩ := open_fuAt (by simpa [Value.cells] using hf)
    exact ⟨x, y, z, u, c, rfl, hc⟩
end
end Go.Proofs.YtbblhjdcpmahkaaGreatDoor

