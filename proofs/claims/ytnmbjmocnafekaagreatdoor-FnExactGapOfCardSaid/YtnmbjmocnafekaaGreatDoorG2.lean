/-
  Words for memory: functions and systems. Nothing here speaks of the program.
  The contracts of the functions that weigh a function, some functions, a system.
  The contracts of the functions that copy an argument into new memory.
-/
import Derived.Test.YtnmbjmocnafekaaGreatDoorG1
import Derived.Test.YtnmbjmocnafekaaGreatDoorRows
import Derived.Outline
import Derived.Handy
import Derived.Deep.OwnRows
namespace Go.Proofs.YtnmbjmocnafekaaGreatDoor
open Go.RowKit

/-- A function and a system, as plain data. -/
structure Fu where
  name : ByteArray
  args : List Int
  res : Int
  table : List Int
structure Sy where
  ty : Ty
  fs : List Fu

instance : Inhabited Fu := ⟨⟨ByteArray.empty, [], 0, []⟩⟩

/-- The function value reads as f. -/
def FuAt (w : World) (lo hi : Nat) (x a r t : Value) (f : Fu) : Prop :=
  x = .string f.name ∧ r = .int .i64 f.res ∧ f.name.size ≤ maxLen ∧ I64 f.res ∧ IntsAt w lo hi a f.args ∧ IntsAt w lo hi t f.table

def FusAt (w : World) (lo hi : Nat) (v : Value) (fs : List Fu) : Prop :=
  ∃ (A : Option Addr) (cap : Nat), v = .slice A fs.length cap ∧ fs.length ≤ cap ∧ cap ≤ maxLen ∧
    (0 < fs.length → ∃ b off, A = some ⟨b, off, none⟩ ∧ lo ≤ b ∧ b < hi ∧ ∀ k, k < fs.length → ∃ x a r t,
      w.cell? ⟨b, off + k * 4, none⟩ = some x ∧ w.cell? ⟨b, off + k * 4 + 1, none⟩ = some a ∧ w.cell? ⟨b, off + k * 4 + 2, none⟩ = some r ∧ w.cell? ⟨b, off + k * 4 + 3, none⟩ = some t ∧ FuAt w lo hi x a r t (fs.getD k default))

def SyAt (w : World) (lo hi : Nat) (s c v : Value) (y : Sy) : Prop := TyAt w lo hi s c y.ty ∧ FusAt w lo hi v y.fs

section
variable {w w' w'' : World} {lo hi lo' hi' : Nat} {v x a r t s c : Value} {fs : List Fu} {f : Fu} {y : Sy}

theorem FuAt.keep (h : FuAt w lo hi x a r t f) (hk : ∀ k, lo ≤ k → k < hi → w'.heap[k]? = w.heap[k]?) : FuAt w' lo hi x a r t f :=
  ⟨h.1, h.2.1, h.2.2.1, h.2.2.2.1, h.2.2.2.2.1.keep hk, h.2.2.2.2.2.keep hk⟩
theorem FusAt.keep (h : FusAt w lo hi v fs) (hk : ∀ k, lo ≤ k → k < hi → w'.heap[k]? = w.heap[k]?) : FusAt w' lo hi v fs := by
  obtain ⟨A, cap, e, h1, h2, h4⟩ := h
  refine ⟨A, cap, e, h1, h2, fun h0 => ?_⟩
  obtain ⟨b, off, hA, hl, hh, hc⟩ := h4 h0
  refine ⟨b, off, hA, hl, hh, fun k hkk => ?_⟩
  obtain ⟨x, a, r, t, c0, c1, c2, c3, hco⟩ := hc k hkk
  have e := hk b hl hh
  exact ⟨x, a, r, t, (World.cell?_of_block (w := w) e).trans c0, (World.cell?_of_block (w := w) e).trans c1, (World.cell?_of_block (w := w) e).trans c2, (World.cell?_of_block (w := w) e).trans c3, hco.keep hk⟩
theorem SyAt.keep (h : SyAt w lo hi s c v y) (hk : ∀ k, lo ≤ k → k < hi → w'.heap[k]? = w.heap[k]?) : SyAt w' lo hi s c v y := ⟨h.1.keep hk, h.2.keep hk⟩

theorem FuAt.below {B : Nat} (h : FuAt w lo hi x a r t f) (hb : Below B w w') (hB : hi ≤ B) : FuAt w' lo hi x a r t f := h.keep fun k _ hk => hb.block k (by omega)
theorem FusAt.below {B : Nat} (h : FusAt w lo hi v fs) (hb : Below B w w') (hB : hi ≤ B) : FusAt w' lo hi v fs := h.keep fun k _ hk => hb.block k (by omega)
theorem SyAt.below {B : Nat} (h : SyAt w lo hi s c v y) (hb : Below B w w') (hB : hi ≤ B) : SyAt w' lo hi s c v y := h.keep fun k _ hk => hb.block k (by omega)

theorem FuAt.more (h : FuAt w lo hi x a r t f) (h1 : lo' ≤ lo) (h2 : hi ≤ hi') : FuAt w lo' hi' x a r t f := ⟨h.1, h.2.1, h.2.2.1, h.2.2.2.1, h.2.2.2.2.1.more h1 h2, h.2.2.2.2.2.more h1 h2⟩
theorem FusAt.more (h : FusAt w lo hi v fs) (h1 : lo' ≤ lo) (h2 : hi ≤ hi') : FusAt w lo' hi' v fs := by
  obtain ⟨A, cap, e, a1, a2, a4⟩ := h
  refine ⟨A, cap, e, a1, a2, fun h0 => ?_⟩
  obtain ⟨b, off, hA, hl, hh, hc⟩ := a4 h0
  refine ⟨b, off, hA, by omega, by omega, fun k hk => ?_⟩
  obtain ⟨x, a, r, t, c0, c1, c2, c3, hco⟩ := hc k hk
  exact ⟨x, a, r, t, c0, c1, c2, c3, hco.more h1 h2⟩
theorem SyAt.more (h : SyAt w lo hi s c v y) (h1 : lo' ≤ lo) (h2 : hi ≤ hi') : SyAt w lo' hi' s c v y := ⟨h.1.more h1 h2, h.2.more h1 h2⟩

theorem FusAt.form (h : FusAt w lo hi v fs) : ∃ (A : Option Addr) (cap : Nat), v = .slice A fs.length cap ∧ fs.length ≤ cap ∧ cap ≤ maxLen ∧ FusAt w lo hi (.slice A fs.length cap) fs := by
  obtain ⟨A, cap, rfl, h1, h2, h3⟩ := h
  exact ⟨A, cap, rfl, h1, h2, A, cap, rfl, h1, h2, h3⟩
/-- The k-th function's cells, and what they read as. -/
theorem FusAt.at_ {A : Option Addr} {n cap k : Nat} (h : FusAt w lo hi (.slice A n cap) fs) (hk : k < fs.length) :
    ∃ (b off : Nat) (A1 : Option Addr) (cap1 : Nat) (A2 : Option Addr) (cap2 : Nat), A = some ⟨b, off, none⟩ ∧ lo ≤ b ∧ b < hi ∧ w.cell? ⟨b, off + k * 4, none⟩ = some (.string fs[k].name) ∧ w.cell? ⟨b, off + k * 4 + 1, none⟩ = some (.slice A1 fs[k].args.length cap1) ∧
      w.cell? ⟨b, off + k * 4 + 2, none⟩ = some (.int .i64 fs[k].res) ∧ w.cell? ⟨b, off + k * 4 + 3, none⟩ = some (.slice A2 fs[k].table.length cap2) ∧
      fs[k].args.length ≤ cap1 ∧ cap1 ≤ maxLen ∧ fs[k].table.length ≤ cap2 ∧ cap2 ≤ maxLen ∧ FuAt w lo hi (.string fs[k].name) (.slice A1 fs[k].args.length cap1) (.int .i64 fs[k].res) (.slice A2 fs[k].table.length cap2) fs[k] := by
  obtain ⟨A', cap', e, _, _, h4⟩ := h
  injection e with eA
  subst eA
  obtain ⟨b, off, hA, hl, hh, hc⟩ := h4 (by omega)
  obtain ⟨x, a, r, t, c0, c1, c2, c3, rfl, rfl, hn, hs, ha, ht⟩ := hc k hk
  rw [List.getD_eq_getElem?_getD, List.getElem?_eq_getElem hk] at c0 c2 hn hs ha ht
  obtain ⟨A1, cap1, rfl, h1, h2, ha2⟩ := ha.form
  obtain ⟨A2, cap2, rfl, h3, h4, ht2⟩ := ht.form
  exact ⟨b, off, A1, cap1, A2, cap2, hA, hl, hh, c0, c1, c2, c3, h1, h2, h3, h4, rfl, rfl, hn, hs, ha2, ht2⟩
end

/-- How much a function weighs; the first k of some functions. -/
def Fu.weight (f : Fu) : Nat := f.name.size + f.args.length + f.table.length
def fusLen (fs : List Fu) (k : Nat) : Nat := ((fs.take k).map Fu.weight).sum
theorem fusLen_zero (fs : List Fu) : fusLen fs 0 = 0 := by simp [fusLen]
theorem fusLen_succ (fs : List Fu) (k : Nat) (h : k < fs.length) : fusLen fs (k + 1) = fusLen fs k + (fs.getD k default).weight := by
  unfold fusLen
  rw [List.take_succ_eq_append_getElem h, List.map_append, List.sum_append, List.getD_eq_getElem?_getD, List.getElem?_eq_getElem h]
  rfl
theorem fusLen_mono (fs : List Fu) (k : Nat) : fusLen fs k ≤ fusLen fs fs.length := by
  unfold fusLen
  have e : fs.take fs.length = fs.take k ++ fs.drop k := by rw [List.take_length, List.take_append_drop]
  rw [e, List.map_append, List.sum_append]
  omega
/-- How many values a system holds. -/
def Sy.bulk (y : Sy) : Nat := y.ty.bulk + (y.fs.length + fusLen y.fs y.fs.length)
theorem Sy.fu_le (y : Sy) (j : Nat) (hj : j < y.fs.length) : y.fs[j].weight ≤ y.bulk := by
  have h1 := fusLen_succ y.fs j hj
  have h2 := fusLen_mono y.fs (j + 1)
  rw [List.getD_eq_getElem?_getD, List.getElem?_eq_getElem hj] at h1
  simp only [Option.getD_some] at h1
  unfold Sy.bulk
  omega

/-- The cells of the first k functions; the arguments of the j-th lie at the head of block m j, the table at the head of block u j. -/
def FuRow (xs : List Value) (m u : Nat → Nat) (fs : List Fu) (k : Nat) : Prop :=
  xs.length = fs.length * 4 ∧ ∀ j, j < k → ∀ (hj : j < fs.length), xs[j * 4]? = some (.string fs[j].name) ∧ xs[j * 4 + 1]? = some (.slice (some ⟨m j, 0, none⟩) fs[j].args.length fs[j].args.length) ∧
    xs[j * 4 + 2]? = some (.int .i64 fs[j].res) ∧ xs[j * 4 + 3]? = some (.slice (some ⟨u j, 0, none⟩) fs[j].table.length fs[j].table.length)
theorem FuRow.step {xs : List Value} {m u : Nat → Nat} {fs : List Fu} {k : Nat} (h : FuRow xs m u fs k) (hk : k < fs.length) :
    FuRow ((((xs.set (k * 4) (.string fs[k].name)).set (k * 4 + 1) (.slice (some ⟨m k, 0, none⟩) fs[k].args.length fs[k].args.length)).set (k * 4 + 2) (.int .i64 fs[k].res)).set (k * 4 + 3) (.slice (some ⟨u k, 0, none⟩) fs[k].table.length fs[k].table.length)) m u fs (k + 1) := by
  refine ⟨by simp [h.1], fun j hj hjl => ?_⟩
  have hl := h.1
  by_cases e : j = k
  · subst e
    refine ⟨?_, ?_, ?_, ?_⟩
    · rw [List.getElem?_set_ne (by omega), List.getElem?_set_ne (by omega), List.getElem?_set_ne (by omega), List.getElem?_set_self (by omega)]
    · rw [List.getElem?_set_ne (by omega), List.getElem?_set_ne (by omega), List.getElem?_set_self (by simp; omega)]
    · rw [List.getElem?_set_ne (by omega), List.getElem?_set_self (by simp; omega)]
    · rw [List.getElem?_set_self (by simp; omega)]
  · obtain ⟨a, b, c, d⟩ := h.2 j (by omega) hjl
    refine ⟨?_, ?_, ?_, ?_⟩
    · rw [List.getElem?_set_ne (by omega), List.getElem?_set_ne (by omega), List.getElem?_set_ne (by omega), List.getElem?_set_ne (by omega), a]
    · rw [List.getElem?_set_ne (by omega), List.getElem?_set_ne (by omega), List.getElem?_set_ne (by omega), List.getElem?_set_ne (by omega), b]
    · rw [List.getElem?_set_ne (by omega), List.getElem?_set_ne (by omega), List.getElem?_set_ne (by omega), List.getElem?_set_ne (by omega), c]
    · rw [List.getElem?_set_ne (by omega), List.getElem?_set_ne (by omega), List.getElem?_set_ne (by omega), List.getElem?_set_ne (by omega), d]

/-- Every number of these functions fits an int, every name is short. -/
def Fu.fits (f : Fu) : Prop := f.name.size ≤ maxLen ∧ I64 f.res ∧ (∀ z ∈ f.args, I64 z) ∧ ∀ z ∈ f.table, I64 z
def Sy.fits (y : Sy) : Prop := y.ty.fits ∧ ∀ j, ∀ (hj : j < y.fs.length), y.fs[j].fits
theorem FuAt.fits {w : World} {lo hi : Nat} {x a r t : Value} {f : Fu} (h : FuAt w lo hi x a r t f) : f.fits := by
  obtain ⟨_, _, h1, h2, ⟨_, _, _, _, _, h3, _⟩, ⟨_, _, _, _, _, h4, _⟩⟩ := h
  exact ⟨h1, h2, h3, h4⟩
theorem SyAt.fits {w : World} {lo hi : Nat} {s c v : Value} {y : Sy} (h : SyAt w lo hi s c v y) : y.fits := by
  obtain ⟨h1, h2⟩ := h
  obtain ⟨A, cap, rfl, _, _, h2⟩ := h2.form
  refine ⟨h1.fits, fun j hj => ?_⟩
  obtain ⟨_, _, _, _, _, _, _, _, _, _, _, _, _, _, _, _, _, h⟩ := h2.at_ hj
  exact h.fits

/-- A row of functions reads as these. -/
theorem Row.fus {w : World} {g : Nat} {t ti : TypeId} {xs : List Value} {m u : Nat → Nat} {fs : List Fu} {lo hi cap : Nat} (h : Row w g t xs) (hx : FuRow xs m u fs fs.length) (hw : ∀ j, ∀ (hj : j < fs.length), fs[j].fits)
    (hm : ∀ j, ∀ (hj : j < fs.length), Row w (m j) ti (fs[j].args.map (Value.int .i64)) ∧ lo ≤ m j ∧ m j < hi ∧ fs[j].args.length ≤ maxLen)
    (hu : ∀ j, ∀ (hj : j < fs.length), Row w (u j) ti (fs[j].table.map (Value.int .i64)) ∧ lo ≤ u j ∧ u j < hi ∧ fs[j].table.length ≤ maxLen) (hl : lo ≤ g) (hh : g < hi) (hc : fs.length ≤ cap) (hcm : cap ≤ maxLen) :
    FusAt w lo hi (.slice (some ⟨g, 0, none⟩) fs.length cap) fs := by
  refine ⟨_, _, rfl, hc, hcm, fun _ => ⟨g, 0, rfl, hl, hh, fun k hk => ?_⟩⟩
  obtain ⟨a, b, c, d⟩ := hx.2 k hk hk
  obtain ⟨hr, h1, h2, h3⟩ := hm k hk
  obtain ⟨hr', h1', h2', h3'⟩ := hu k hk
  obtain ⟨i0, i1, i2, i3⟩ := hw k hk
  rw [List.getD_eq_getElem?_getD, List.getElem?_eq_getElem hk]
  refine ⟨_, _, _, _, ?_, ?_, ?_, ?_, rfl, rfl, i0, i1, hr.ints i2 h1 h2 (Nat.le_refl _) h3, hr'.ints i3 h1' h2' (Nat.le_refl _) h3'⟩
  · rw [Nat.zero_add, h.cell, a]; rfl
  · rw [Nat.zero_add, h.cell, b]
  · rw [Nat.zero_add, h.cell, c]; rfl
  · rw [Nat.zero_add, h.cell, d]

/-- Functions in new memory as the copying lays them: the row in block g, the j-th arguments in block g + 4 + 5 j, the j-th table in the next one. -/
def NewFus (w : World) (ti tf : TypeId) (g : Nat) (fs : List Fu) : Prop :=
  (∃ xs, Row w g tf xs ∧ FuRow xs (fun j => g + 1 + 5 * j + 3) (fun j => g + 1 + 5 * j + 4) fs fs.length) ∧
    ∀ j, ∀ (hj : j < fs.length), Row w (g + 1 + 5 * j + 3) ti (fs[j].args.map (Value.int .i64)) ∧ Row w (g + 1 + 5 * j + 4) ti (fs[j].table.map (Value.int .i64))
theorem NewFus.keep {w w' : World} {ti tf : TypeId} {g : Nat} {fs : List Fu} (h : NewFus w ti tf g fs) (hk : ∀ k, g ≤ k → k < g + 1 + 5 * fs.length → w'.heap[k]? = w.heap[k]?) : NewFus w' ti tf g fs := by
  obtain ⟨⟨xs, h2, h3⟩, h4⟩ := h
  exact ⟨⟨xs, h2.keep (hk _ (by omega) (by omega)), h3⟩, fun j hj => ⟨(h4 j hj).1.keep (hk _ (by omega) (by omega)), (h4 j hj).2.keep (hk _ (by omega) (by omega))⟩⟩
theorem NewFus.at_ {w : World} {ti tf : TypeId} {g : Nat} {fs : List Fu} (h : NewFus w ti tf g fs) (hf : ∀ j, ∀ (hj : j < fs.length), fs[j].fits) (hb : fs.length ≤ 1048576) (hw : ∀ j, ∀ (hj : j < fs.length), fs[j].weight ≤ 1048576) :
    FusAt w g (g + 1 + 5 * fs.length) (.slice (some ⟨g, 0, none⟩) fs.length fs.length) fs := by
  obtain ⟨⟨xs, h2, h3⟩, h4⟩ := h
  refine h2.fus (ti := ti) h3 hf (fun j hj => ⟨(h4 j hj).1, by omega, by omega, ?_⟩) (fun j hj => ⟨(h4 j hj).2, by omega, by omega, ?_⟩) (Nat.le_refl _) (by omega) (Nat.le_refl _) (by unfold maxLen; omega)
  · have := hw j hj; unfold Fu.weight at this; unfold maxLen; omega
  · have := hw j hj; unfold Fu.weight at this; unfold maxLen; omega
/-- A system in new memory as the copying lays it. -/
def NewSy (w : World) (ti tc tf : TypeId) (g : Nat) (y : Sy) : Prop := NewTy w ti tc g y.ty ∧ NewFus w ti tf (g + 2 + 4 * y.ty.cos.length) y.fs
theorem NewSy.keep {w w' : World} {ti tc tf : TypeId} {g : Nat} {y : Sy} (h : NewSy w ti tc tf g y) (hk : ∀ k, g ≤ k → k < g + 3 + 4 * y.ty.cos.length + 5 * y.fs.length → w'.heap[k]? = w.heap[k]?) : NewSy w' ti tc tf g y :=
  ⟨h.1.keep fun k h1 h2 => hk k h1 (by omega), h.2.keep fun k h1 h2 => hk k (by omega) (by omega)⟩
theorem NewSy.below {w w' : World} {ti tc tf : TypeId} {g : Nat} {y : Sy} {B : Nat} (h : NewSy w ti tc tf g y) (hb : Below B w w') (hB : g + 3 + 4 * y.ty.cos.length + 5 * y.fs.length ≤ B) : NewSy w' ti tc tf g y := h.keep fun k _ hk => hb.block k (by omega)
theorem NewSy.at_ {w : World} {ti tc tf : TypeId} {g : Nat} {y : Sy} (h : NewSy w ti tc tf g y) (hf : y.fits) (hb : y.bulk ≤ 1048576) :
    SyAt w g (g + 3 + 4 * y.ty.cos.length + 5 * y.fs.length) (.slice (some ⟨g, 0, none⟩) y.ty.sizes.length y.ty.sizes.length) (.slice (some ⟨g + 1, 0, none⟩) y.ty.cos.length y.ty.cos.length) (.slice (some ⟨g + 2 + 4 * y.ty.cos.length, 0, none⟩) y.fs.length y.fs.length) y := by
  have hb' := hb
  unfold Sy.bulk at hb'
  exact ⟨(h.1.at_ hf.1 (by omega)).more (Nat.le_refl _) (by omega), (h.2.at_ hf.2 (by omega) fun j hj => Nat.le_trans (y.fu_le j hj) hb).more (by omega) (by omega)⟩

/-- A box of three cells that the call made first, seen from a later world. -/
theorem box3 {w wk : World} {a b c : Value} {t : TypeId} (h : Below (w.heap.size + 1) (w.alloc (.cells #[a, b, c] t)) wk) :
    wk.cell? ⟨w.heap.size, 0, none⟩ = some a ∧ wk.cell? ⟨w.heap.size, 1, none⟩ = some b ∧ wk.cell? ⟨w.heap.size, 2, none⟩ = some c ∧ w.heap.size < wk.heap.size ∧ Below w.heap.size w wk := by
  have hs := h.size
  simp only [World.size_alloc] at hs
  refine ⟨(h.cell (p := ⟨w.heap.size, 0, none⟩) (by dsimp only; omega)).trans ?_, (h.cell (p := ⟨w.heap.size, 1, none⟩) (by dsimp only; omega)).trans ?_, (h.cell (p := ⟨w.heap.size, 2, none⟩) (by dsimp only; omega)).trans ?_, by omega, ((Below.refl _ _).alloc (Nat.le_refl _) _).trans (h.mono (by omega))⟩
  · simp [go_sem]
  · simp [go_sem]
  · simp [go_sem]
end Go.Proofs.YtnmbjmocnafekaaGreatDoor

namespace Go.Proofs.YtnmbjmocnafekaaGreatDoor
open Go.RowKit

set_option maxRecDepth 100000 in
set_option maxHeartbeats 800000 in
theorem szFunction_any (nm : ByteArray) (r : Value) (A : Option Addr) (n c : Nat) (A2 : Option Addr) (n2 c2 : Nat) (left : Int) (w : World) (h0 : 0 ≤ left) (h1 : left ≤ 1048576) (hs : nm.size ≤ maxLen) (hn : n ≤ maxLen) (hn2 : n2 ≤ maxLen) :
    Calls Tryz.prog 66 #[.agg #[.string nm, .slice A n c, r, .slice A2 n2 c2], .int .i64 left] w fun e w' => e = .returned (.int .i64 (subI left (nm.size + n + n2))) ∧ Below w.heap.size w w' := by
  unfold maxLen at hs hn hn2
  by_cases ha : left - nm.size < 0
  · have hs : Hid (subI left (nm.size + n + n2) = -1) := subI_neg (by omega)
    go_enter Tryz.func66, Tryz.ntmps66
    go_wp2
    go_ret
    exact ⟨ret_int hs.out.symm, by go_grown⟩
  · by_cases hb : left - nm.size - n < 0
    · have hs2 : Hid (subI left (nm.size + n + n2) = -1) := subI_neg (by omega)
      have hs := Lib.hid (subI_neg hb)
      go_enter Tryz.func66, Tryz.ntmps66
      go_wp2_with (go_at_call 64; refine (szIntS_any _ _ _ _ _ (by omega) (by omega) (by unfold maxLen; omega)).mono ?_; rintro e w' ⟨rfl, rfl⟩; rw [hs.out])
      go_ret
      exact ⟨ret_int hs2.out.symm, by go_grown⟩
    · have hs := Lib.hid (subI_pos hb)
      by_cases hc : left - nm.size - n - n2 < 0
      · have hs2 : Hid (subI left (nm.size + n + n2) = -1) := subI_neg (by omega)
        have hs3 := Lib.hid (subI_neg hc)
        go_enter Tryz.func66, Tryz.ntmps66
        go_wp2_with (first | (go_at_call 64; with_reducible refine (szIntS_any A n c (left - nm.size) _ (by omega) (by omega) (by unfold maxLen; omega)).mono ?_; rintro e w' ⟨rfl, rfl⟩; rw [hs.out]) | (go_at_call 64; with_reducible refine (szIntS_any A2 n2 c2 (left - nm.size - n) _ (by omega) (by omega) (by unfold maxLen; omega)).mono ?_; rintro e w' ⟨rfl, rfl⟩; rw [hs3.out]))
        go_ret
        exact ⟨ret_int hs2.out.symm, by go_grown⟩
      · have hs2 : Hid (subI left (nm.size + n + n2) = left - nm.size - n - n2) := by
          show _ = _
          rw [subI_pos (by omega)]; omega
        have hs3 := Lib.hid (subI_pos hc)
        go_enter Tryz.func66, Tryz.ntmps66
        go_wp2_with (first | (go_at_call 64; with_reducible refine (szIntS_any A n c (left - nm.size) _ (by omega) (by omega) (by unfold maxLen; omega)).mono ?_; rintro e w' ⟨rfl, rfl⟩; rw [hs.out]) | (go_at_call 64; with_reducible refine (szIntS_any A2 n2 c2 (left - nm.size - n) _ (by omega) (by omega) (by unfold maxLen; omega)).mono ?_; rintro e w' ⟨rfl, rfl⟩; rw [hs3.out]))
        go_ret
        exact ⟨ret_int hs2.out.symm, by go_grown⟩

set_option maxHeartbeats 400000 in
theorem szFunctionS_any (lo hi : Nat) (v : Value) (fs : List Fu) (left : Int) (w : World) (h0 : 0 ≤ left) (h1 : left ≤ 1048576) (hv : FusAt w lo hi v fs) (hB : hi ≤ w.heap.size) :
    Calls Tryz.prog 35 #[v, .int .i64 left] w fun e w' => e = .returned (.int .i64 (subI left (fs.length + fusLen fs fs.length))) ∧ Below w.heap.size w w' := by
  obtain ⟨A, cap, rfl, hl, hm, hc⟩ := hv.form
  unfold maxLen at hm
  clear hv
  by_cases hneg : left - (fs.length : Int) < 0
  · have hs : Hid (subI left (fs.length + fusLen fs fs.length) = -1) := subI_neg (by omega)
    clear hc
    go_enter Tryz.func35, Tryz.ntmps35
    go_wp2
    go_ret
    exact ⟨ret_int hs.out.symm, Below.refl _ _⟩
  · have hc' := Lib.hid hc
    clear hc
    go_enter Tryz.func35, Tryz.ntmps35
    go_wp2
    go_loopw [1, 5] (fun l i wr => ∃ k : Nat, k ≤ fs.length ∧ i = .int .i64 k ∧ l = .int .i64 (left - ((fs.length : Int) + (fusLen fs k : Int))) ∧ 0 ≤ left - ((fs.length : Int) + (fusLen fs k : Int)) ∧ Below w.heap.size w wr) (fun _ i _ => fs.length - (intOf i).toNat)
    case atStart => exact ⟨0, Nat.zero_le _, rfl, by rw [fusLen_zero]; go_num, by rw [fusLen_zero]; omega, Below.refl _ _⟩
    case round =>
      obtain ⟨k, hk, rfl, rfl, hpos, hb⟩ := hrel
      by_cases hlt : k < fs.length
      · obtain ⟨b, off, A1, cap1, A2, cap2, rfl, hlo, hhi, c0, c1, c2, c3, g1, g2, g3, g4, _, _, hn, _⟩ := (hc'.out.below hb hB).at_ hlt
        have hms := Lib.hid (fusLen_succ fs k hlt)
        have hmm := fusLen_mono fs (k + 1)
        rw [hms.out] at hmm
        have hw : (fs.getD k default).weight = fs[k].name.size + fs[k].args.length + fs[k].table.length := by
          rw [List.getD_eq_getElem?_getD, List.getElem?_eq_getElem hlt]; rfl
        rw [hw] at hmm
        have Hw := Lib.hid hw
        clear hw
        clear hc'
        by_cases hn2 : left - ((fs.length : Int) + (fusLen fs k : Int)) - ((fs[k].name.size + fs[k].args.length + fs[k].table.length : Nat) : Int) < 0
        · have hs := Lib.hid (subI_neg hn2)
          have hs' : Hid (subI left (fs.length + fusLen fs fs.length) = -1) := subI_neg (by omega)
          go_wp2_with (go_at_call 66; refine (szFunction_any _ _ _ _ _ _ _ _ _ _ (by omega) (by omega) hn (Nat.le_trans g1 g2) (Nat.le_trans g3 g4)).mono ?_; rintro e w' ⟨rfl, hb2⟩; rw [hs.out])
          go_ret
          exact ⟨ret_int hs'.out.symm, hb.trans (hb2.mono hb.size)⟩
        · have hs := Lib.hid (subI_pos hn2)
          go_wp2_with (go_at_call 66; refine (szFunction_any _ _ _ _ _ _ _ _ _ _ (by omega) (by omega) hn (Nat.le_trans g1 g2) (Nat.le_trans g3 g4)).mono ?_; rintro e w' ⟨rfl, hb2⟩; rw [hs.out])
          go_roundw
          case rel => exact ⟨k + 1, by omega, by go_num, by rw [hms.out, Hw.out]; go_num, by rw [hms.out, Hw.out]; omega, hb.trans (hb2.mono hb.size)⟩
          case measure => simp [intOf]; omega
      · obtain rfl : k = fs.length := by omega
        have hs' : Hid (subI left (fs.length + fusLen fs fs.length) = left - ((fs.length + fusLen fs fs.length : Nat) : Int)) := subI_pos (by omega)
        go_wp2
        go_ret
        exact ⟨ret_int hs'.out.symm, hb⟩

set_option maxHeartbeats 400000 in
theorem szSystem_any (lo hi : Nat) (s c v : Value) (y : Sy) (left : Int) (w : World) (h0 : 0 ≤ left) (h1 : left ≤ 1048576) (hv : SyAt w lo hi s c v y) (hB : hi ≤ w.heap.size) :
    Calls Tryz.prog 9 #[.agg #[s, c, v], .int .i64 left] w fun e w' => e = .returned (.int .i64 (subI left y.bulk)) ∧ Below w.heap.size w w' := by
  obtain ⟨hty, hfs⟩ := hv
  obtain ⟨A, cap, rfl, _, _, hz⟩ := hty.1.form
  obtain ⟨A2, cap2, rfl, _, _, hco⟩ := hty.2.form
  obtain ⟨A3, cap3, rfl, _, _, hfu⟩ := hfs.form
  have hT : TyAt w lo hi (.slice A y.ty.sizes.length cap) (.slice A2 y.ty.cos.length cap2) y.ty := ⟨hz, hco⟩
  clear hty hfs hz hco
  have e : y.bulk = y.ty.bulk + (y.fs.length + fusLen y.fs y.fs.length) := rfl
  have h3 : Below w.heap.size w (w.alloc (.cells #[.slice A y.ty.sizes.length cap, .slice A2 y.ty.cos.length cap2, .slice A3 y.fs.length cap3] 28)) := by go_grown
  by_cases h : left - (y.ty.bulk : Int) < 0
  · have hs := Lib.hid (subI_neg h)
    have hs2 : Hid (subI left y.bulk = -1) := subI_neg (by rw [e]; omega)
    clear e
    go_enter Tryz.func9, Tryz.ntmps9
    go_wp2_with (go_at_call 34; refine (szTypes_any lo hi _ _ y.ty _ _ h0 h1 (hT.below h3 hB) (by simp; omega)).mono ?_; rintro e w' ⟨rfl, hb⟩; rw [hs.out])
    go_ret
    exact ⟨ret_int hs2.out.symm, h3.trans (hb.mono (by simp))⟩
  · have hs := Lib.hid (subI_pos h)
    have hss := subI_sub (m := y.fs.length + fusLen y.fs y.fs.length) h
    rw [← e] at hss
    have hle : (y.ty.bulk : Int) ≤ left := by omega
    have arm := fun (wx : World) (hbx : Below w.heap.size w wx) => szFunctionS_any lo hi _ y.fs (left - y.ty.bulk) wx (by omega) (by omega) (hfu.below hbx hB) (Nat.le_trans hB hbx.size)
    have Arm := Lib.hid arm
    clear arm
    have Hss := Lib.hid hss
    clear hss e
    go_enter Tryz.func9, Tryz.ntmps9
    go_wp2_with fail
    refine (szTypes_any lo hi _ _ y.ty _ _ h0 h1 (hT.below h3 hB) (by simp; omega)).mono ?_
    rintro e w1 ⟨rfl, hb⟩
    have hbel := h3.trans (hb.mono (by simp))
    obtain ⟨hcl, hfr⟩ := bcell hb
    have hz1 := hb.size
    simp only [World.size_alloc] at hcl hfr hz1
    have Hbel := Lib.hid hbel
    clear hbel hb h3
    have hz2 : w.heap.size < w1.heap.size := by omega
    rw [hs.out]
    by_cases h2 : left - y.ty.bulk - ((y.fs.length + fusLen y.fs y.fs.length : Nat) : Int) < 0
    · have hs2 := Lib.hid (subI_neg h2)
      go_wp2_with (go_at_call 35; refine (Arm.out _ Hbel.out).mono ?_; rintro e w' ⟨rfl, hb2⟩; rw [hs2.out])
      go_ret
      exact ⟨ret_int (by rw [← Hss.out, hs2.out]; try omega), Hbel.out.trans (hb2.mono (by omega))⟩
    · have hs2 := Lib.hid (subI_pos h2)
      go_wp2_with (go_at_call 35; refine (Arm.out _ Hbel.out).mono ?_; rintro e w' ⟨rfl, hb2⟩; rw [hs2.out])
      go_ret
      exact ⟨ret_int (by rw [← Hss.out, hs2.out]; try omega), Hbel.out.trans (hb2.mono (by omega))⟩
end Go.Proofs.YtnmbjmocnafekaaGreatDoor

namespace Go.Proofs.YtnmbjmocnafekaaGreatDoor
open Go.RowKit

theorem Tryz.infoInt : (Tryz.prog.info? 3).map (fun i => (i.zero, i.size, i.bytes)) = some (some (.int .i64 0), 1, 8) := by kernel_rfl

set_option maxHeartbeats 400000 in
theorem toIntS_any (lo hi : Nat) (v : Value) (zs : List Int) (w : World) (hv : IntsAt w lo hi v zs) (hB : hi ≤ w.heap.size) (hlen : zs.length ≤ 1048576) :
    Calls Tryz.prog 70 #[v] w fun e w' => e = .returned (.slice (some ⟨w.heap.size, 0, none⟩) zs.length zs.length) ∧ Below w.heap.size w w' ∧ w'.heap.size = w.heap.size + 1 ∧ Row w' w.heap.size 3 (zs.map (Value.int .i64)) := by
  obtain ⟨A, cap, rfl, hl, hm, hw, hc⟩ := hv
  unfold maxLen at hm
  have hmk := fun wx => run_make_row' (P := Tryz.prog) 22 3 (.int .i64 0) 8 Tryz.underlying22 Tryz.infoInt rfl .i64 .i64 zs.length (by omega) (by omega) wx
  rw [madeCells_one] at hmk
  have hc' := Lib.hid hc
  clear hc
  go_enter Tryz.func70, Tryz.ntmps70
  go_wp2
  go_loopw [4] (fun i wr => ∃ k : Nat, k ≤ zs.length ∧ i = .int .i64 k ∧ Below w.heap.size w wr ∧ wr.heap.size = w.heap.size + 1 ∧ Row wr w.heap.size 3 ((zs.take k).map (Value.int .i64) ++ List.replicate (zs.length - k) (.int .i64 0))) (fun i _ => zs.length - (intOf i).toNat)
  case atStart => exact ⟨0, Nat.zero_le _, rfl, (Below.refl _ _).alloc (Nat.le_refl _) _, by simp, by rw [fill_zero]; exact Row.new _ _ _⟩
  case round =>
    obtain ⟨k, hk, rfl, hb, hsz, hrow⟩ := hrel
    by_cases hlt : k < zs.length
    · obtain ⟨b, off, rfl, hlo, hhi, hcell⟩ := hc'.out (by omega)
      have c0 := (hb.cell (p := ⟨b, off + k, none⟩) (by simp; omega)).trans (hcell k hlt)
      have c1 := hrow.cell_some (i := k) (by rw [fill_len _ _ _ _ hk]; exact hlt)
      have f1 := hrow.frozen k
      have hset := hrow.set_ k (.int .i64 zs[k])
      rw [fill_step _ _ _ _ hlt] at hset
      generalize ((zs.take k).map (Value.int .i64) ++ List.replicate (zs.length - k) (.int .i64 0))[k]'(by rw [fill_len _ _ _ _ hk]; exact hlt) = u at c1
      have H := Lib.hid hset
      clear hset hrow hcell hc'
      go_wp2
      go_roundw
      case rel => exact ⟨k + 1, by omega, by go_num, hb.setCell (Nat.le_refl _) _, by simpa [World.setCell] using hsz, H.out⟩
      case measure => simp [intOf]; omega
    · obtain rfl : k = zs.length := by omega
      rw [fill_all] at hrow
      have H := Lib.hid hrow
      clear hrow hc'
      go_wp2
      go_ret
      exact ⟨rfl, hb, hsz, H.out⟩

set_option maxHeartbeats 400000 in
theorem toCoercion_any (lo hi : Nat) (x y z : Value) (c : Co) (w : World) (hv : CoAt w lo hi x y z c) (hB : hi ≤ w.heap.size) (hlen : c.map.length ≤ 1048576) :
    Calls Tryz.prog 108 #[.agg #[x, y, z]] w fun e w' => e = .returned (.agg #[.int .i64 c.src, .int .i64 c.dst, .slice (some ⟨w.heap.size + 3, 0, none⟩) c.map.length c.map.length]) ∧
      Below w.heap.size w w' ∧ w'.heap.size = w.heap.size + 4 ∧ Row w' (w.heap.size + 3) 3 (c.map.map (Value.int .i64)) := by
  obtain ⟨rfl, rfl, hs, hd, hz⟩ := hv
  obtain ⟨A, cap, rfl, _, _, hz⟩ := hz.form
  go_enter Tryz.func108, Tryz.ntmps108
  have h3 : Below w.heap.size w (((w.alloc (.cells #[.int .i64 c.src, .int .i64 c.dst, .slice A c.map.length cap] 184)).alloc (.cells #[.int .i64 0, .int .i64 0, .slice none 0 0] 185)).alloc (.cells #[.int .i64 c.src, .int .i64 c.dst, .slice none 0 0] 185)) := by go_grown
  go_wp2_with fail
  refine (toIntS_any lo hi _ c.map _ (hz.below h3 hB) (by simp; omega) hlen).mono ?_
  rintro e w1 ⟨rfl, hb, hsz, hrow⟩
  have hbel := h3.trans (hb.mono (by simp; omega))
  obtain ⟨hcl, hfr⟩ := bcell hb
  simp only [World.size_alloc] at hsz hrow hcl hfr
  have hz1 : w.heap.size + 1 + 1 < w1.heap.size := by omega
  have Hrow := Lib.hid hrow
  have Hsz := Lib.hid hsz
  clear hsz hrow
  go_wp2
  refine bodyPost_ret (v := .agg #[.int .i64 c.src, .int .i64 c.dst, .slice (some ⟨w.heap.size + 1 + 1 + 1, 0, none⟩) c.map.length c.map.length]) (by simp [results, Tryz.results108, go_sem, hcl]) rfl ⟨rfl, ?_, ?_, ?_⟩
  · exact (((hbel.setCell (by dsimp only; omega) _).setCell (by dsimp only; omega) _).setCell (by dsimp only; omega) _).setCell (by dsimp only; omega) _
  · simpa [World.setCell] using Hsz.out
  · exact (((Hrow.out.far (by dsimp only; omega) _).far (by dsimp only; omega) _).far (by dsimp only; omega) _).far (by dsimp only; omega) _

theorem infoCoercion : (Tryz.prog.info? 185).map (fun i => (i.zero, i.size, i.bytes)) = some (some (.agg #[.int .i64 0, .int .i64 0, .slice none 0 0]), 3, 40) := by kernel_rfl

theorem run_make_rows {P : Program} (t e : TypeId) (i : TypeInfo) (z : Value) (ht : P.underlying t = some (.slice e)) (hi : P.info? e = some i) (hz : i.zero = some z)
    (kl kc : IntKind) (n : Nat) (hbytes : i.bytes * n ≤ 281474976710656) (h63 : n ≤ 9223372036854775807) (w : World) :
    (Instr.makeSlice t (.int kl (n : Int)) (.int kc (n : Int))).run P w = .ok (.slice (some ⟨w.heap.size, 0, none⟩) n n) (w.alloc (.cells (madeCells z.cells (n * i.size)) e)) := by
  have hb : (i.bytes : Int) * (n : Int) ≤ 281474976710656 := by
    have h : ((i.bytes * n : Nat) : Int) ≤ 281474976710656 := by omega
    rwa [Int.natCast_mul] at h
  have hr := run_make (P := P) w t e i z ht hi hz kl kc n n (by omega) (by omega) hb (by omega)
  simp only [Int.toNat_natCast] at hr
  exact hr

set_option maxHeartbeats 800000 in
theorem toCoercionS_any (lo hi : Nat) (v : Value) (cs : List Co) (w : World) (hv : CosAt w lo hi v cs) (hB : hi ≤ w.heap.size) (hlen : cs.length ≤ 1048576) (hmaps : ∀ j, ∀ (hj : j < cs.length), cs[j].map.length ≤ 1048576) :
    Calls Tryz.prog 71 #[v] w fun e w' => e = .returned (.slice (some ⟨w.heap.size, 0, none⟩) cs.length cs.length) ∧
      Below w.heap.size w w' ∧ w'.heap.size = w.heap.size + 1 + 4 * cs.length ∧ (∃ xs, Row w' w.heap.size 185 xs ∧ CoRow xs (fun j => w.heap.size + 1 + 4 * j + 3) cs cs.length) ∧
      ∀ j, ∀ (hj : j < cs.length), Row w' (w.heap.size + 1 + 4 * j + 3) 3 (cs[j].map.map (Value.int .i64)) := by
  obtain ⟨A, cap, rfl, hl, hm, hcos⟩ := hv.form
  unfold maxLen at hm
  obtain ⟨i0, hi0, hz0, hs0, hb0⟩ := info_parts infoCoercion
  have hmk := fun wx => run_make_rows (P := Tryz.prog) 31 185 i0 _ Tryz.underlying31 hi0 hz0 .i64 .i64 cs.length (by rw [hb0]; omega) (by omega) wx
  rw [hs0] at hmk
  clear hi0 hz0 hs0 hb0
  generalize hX : madeCells (Value.agg #[.int .i64 0, .int .i64 0, .slice none 0 0]).cells (cs.length * 3) = X at hmk
  have hXs : X.toList.length = cs.length * 3 := by rw [← hX]; simp [madeCells]
  have HX := Lib.hid hXs
  clear hX hXs hv
  go_enter Tryz.func71, Tryz.ntmps71
  go_wp2
  go_loopw [4] (fun i wr => ∃ k : Nat, k ≤ cs.length ∧ i = .int .i64 k ∧ Below w.heap.size w wr ∧ wr.heap.size = w.heap.size + 1 + 4 * k ∧ (∃ xs, Row wr w.heap.size 185 xs ∧ CoRow xs (fun j => w.heap.size + 1 + 4 * j + 3) cs k) ∧
      ∀ j, j < k → ∀ (hj : j < cs.length), Row wr (w.heap.size + 1 + 4 * j + 3) 3 (cs[j].map.map (Value.int .i64))) (fun i _ => cs.length - (intOf i).toNat)
  case atStart => exact ⟨0, Nat.zero_le _, rfl, (Below.refl _ _).alloc (Nat.le_refl _) _, by simp, ⟨X.toList, by simpa using Row.new w _ X.toList, HX.out, fun j hj => absurd hj (by omega)⟩, fun j hj => absurd hj (by omega)⟩
  case round =>
    obtain ⟨k, hk, rfl, hb, hsz, ⟨xs, hrow, hxs⟩, hmr⟩ := hrel
    by_cases hlt : k < cs.length
    · have hin := hcos.below hb hB
      obtain ⟨b, off, A2, cap2, rfl, hlo, hhi, c0, c1, c2, h5, h6, hs, hd, hz2⟩ := hin.at_ hlt
      have hmap := hmaps k hlt
      have Hs := Lib.hid hsz
      clear hsz
      have hbs := hb.size
      go_wp2_with fail
      refine (toCoercion_any lo hi _ _ _ cs[k] _ ⟨rfl, rfl, hs, hd, hz2⟩ (by omega) hmap).mono ?_
      rintro e w1 ⟨rfl, hb1, hsz1, hrow1⟩
      have hrow' := hrow.below hb1 hrow.lt
      have hlx := hxs.1
      have d0 := hrow'.cell_some (i := k * 3) (by omega)
      have d1 := hrow'.cell_some (i := k * 3 + 1) (by omega)
      have d2 := hrow'.cell_some (i := k * 3 + 2) (by omega)
      have g0 := hrow'.frozen (k * 3)
      have g1 := hrow'.frozen (k * 3 + 1)
      have g2 := hrow'.frozen (k * 3 + 2)
      generalize xs[k * 3]'(by omega) = y0 at d0
      generalize xs[k * 3 + 1]'(by omega) = y1 at d1
      generalize xs[k * 3 + 2]'(by omega) = y2 at d2
      have Hx := Lib.hid hxs
      have Hs1 := Lib.hid hsz1
      have Hr := Lib.hid hrow'
      have Hr1 := Lib.hid hrow1
      have Hmr := Lib.hid hmr
      have Hb := Lib.hid hb
      have Hb1 := Lib.hid hb1
      clear hxs hsz1 hrow' hrow1 hmr hrow hlx hin hcos hz2 hb hb1
      go_wp2
      go_roundw
      case rel => 
        have e1 := Hs.out
        have e2 := Hs1.out
        have hbb := Hb.out.trans (Hb1.out.mono (by omega : w.heap.size ≤ wr.heap.size))
        refine ⟨k + 1, by omega, by go_num, ((hbb.setCell (Nat.le_refl _) _).setCell (Nat.le_refl _) _).setCell (Nat.le_refl _) _, ?_, ⟨_, ((Hr.out.set_ _ _).set_ _ _).set_ _ _, ?_⟩, ?_⟩
        · simp only [World.setCell, Array.size_modify]; omega
        · have := Hx.out.step hlt
          rw [← e1] at this
          exact this
        · intro j hj hjl
          by_cases ejk : j = k
          · subst ejk
            rw [← e1]
            exact ((Hr1.out.far (by dsimp only; omega) _).far (by dsimp only; omega) _).far (by dsimp only; omega) _
          · exact ((((Hmr.out j (by omega) hjl).below Hb1.out (by omega)).far (by dsimp only; omega) _).far (by dsimp only; omega) _).far (by dsimp only; omega) _
      case measure => simp [intOf]; omega
    · obtain rfl : k = cs.length := by omega
      have H : Hid (Below w.heap.size w wr ∧ wr.heap.size = w.heap.size + 1 + 4 * cs.length ∧ (∃ xs, Row wr w.heap.size 185 xs ∧ CoRow xs (fun j => w.heap.size + 1 + 4 * j + 3) cs cs.length) ∧
        ∀ j, ∀ (hj : j < cs.length), Row wr (w.heap.size + 1 + 4 * j + 3) 3 (cs[j].map.map (Value.int .i64))) := ⟨hb, hsz, ⟨xs, hrow, hxs⟩, fun j hj => hmr j hj hj⟩
      clear hb hsz hrow hxs hmr hcos
      go_wp2
      go_ret
      exact ⟨rfl, H.out⟩

set_option maxHeartbeats 400000 in
theorem toTypes_any (lo hi : Nat) (s c : Value) (t : Ty) (w : World) (hv : TyAt w lo hi s c t) (hB : hi ≤ w.heap.size) (hlen : t.bulk ≤ 1048576) :
    Calls Tryz.prog 37 #[.agg #[s, c]] w fun e w' => e = .returned (.agg #[.slice (some ⟨w.heap.size + 3, 0, none⟩) t.sizes.length t.sizes.length, .slice (some ⟨w.heap.size + 4, 0, none⟩) t.cos.length t.cos.length]) ∧
      Below w.heap.size w w' ∧ w'.heap.size = w.heap.size + 5 + 4 * t.cos.length ∧ NewTy w' 3 185 (w.heap.size + 3) t := by
  obtain ⟨h1, h2⟩ := hv
  obtain ⟨A, cap, rfl, _, _, hz⟩ := h1.form
  obtain ⟨A2, cap2, rfl, _, _, hcos⟩ := h2.form
  have hl1 : t.sizes.length ≤ 1048576 := by unfold Ty.bulk at hlen; omega
  have hl2 : t.cos.length ≤ 1048576 := by unfold Ty.bulk at hlen; omega
  have hl3 : Hid (∀ j, ∀ (hj : j < t.cos.length), t.cos[j].map.length ≤ 1048576) := fun j hj => Nat.le_trans (t.map_le j hj) hlen
  clear h1 h2
  have h3 : Below w.heap.size w (((w.alloc (.cells #[.slice A t.sizes.length cap, .slice A2 t.cos.length cap2] 25)).alloc (.cells #[.slice none 0 0, .slice none 0 0] 33)).alloc (.cells #[.slice none 0 0, .slice none 0 0] 33)) := by go_grown
  go_enter Tryz.func37, Tryz.ntmps37
  go_wp2_with fail
  refine (toIntS_any lo hi _ t.sizes _ (hz.below h3 hB) (by simp; omega) hl1).mono ?_
  rintro e w1 ⟨rfl, hb, hsz, hrow⟩
  have hbel := h3.trans (hb.mono (by simp; omega))
  obtain ⟨hcl, hfr⟩ := bcell hb
  simp only [World.size_alloc] at hsz hrow hcl hfr
  have hz1 : w.heap.size + 1 + 1 < w1.heap.size := by omega
  have Hrow := Lib.hid hrow
  have Hsz := Lib.hid hsz
  have Hbel := Lib.hid hbel
  clear hsz hrow hbel hb h3
  go_wp2_with fail
  have hs1 : (w1.setCell ⟨w.heap.size + 1 + 1, 0, none⟩ (.slice (some ⟨w.heap.size + 1 + 1 + 1, 0, none⟩) t.sizes.length t.sizes.length)).heap.size = w.heap.size + 1 + 1 + 1 + 1 := by simpa [World.setCell] using Hsz.out
  have hb1 : Below w.heap.size w (w1.setCell ⟨w.heap.size + 1 + 1, 0, none⟩ (.slice (some ⟨w.heap.size + 1 + 1 + 1, 0, none⟩) t.sizes.length t.sizes.length)) := Hbel.out.setCell (by dsimp only; omega) _
  have hr1 : Row (w1.setCell ⟨w.heap.size + 1 + 1, 0, none⟩ (.slice (some ⟨w.heap.size + 1 + 1 + 1, 0, none⟩) t.sizes.length t.sizes.length)) (w.heap.size + 1 + 1 + 1) 3 (t.sizes.map (Value.int .i64)) := Hrow.out.far (by dsimp only; omega) _
  refine (toCoercionS_any lo hi _ t.cos _ (hcos.below hb1 hB) (by rw [hs1]; omega) hl2 hl3.out).mono ?_
  rintro e w2 ⟨rfl, hb2, hsz2, ⟨xs, hrow2, hxs⟩, hmr⟩
  obtain ⟨hcl2, hfr2⟩ := bcell hb2
  have hbel2 := hb1.trans (hb2.mono (by rw [hs1]; omega))
  have hr2 := hr1.below hb2 (by rw [hs1]; omega)
  rw [hs1] at hsz2 hrow2 hcl2 hfr2 hxs hmr
  have hs1' := Lib.hid hs1
  have hz2 : w.heap.size + 1 + 1 < w2.heap.size := by omega
  have Hsz2 := Lib.hid hsz2
  have Hbel2 := Lib.hid hbel2
  have Hr2 := Lib.hid hr2
  have Hrow2 := Lib.hid hrow2
  have Hxs := Lib.hid hxs
  have Hmr := Lib.hid hmr
  clear hsz2 hbel2 hr2 hrow2 hxs hmr hs1 hb1 hr1 hb2 hcos hz
  rw [hs1'.out]
  go_wp2
  refine bodyPost_ret (v := .agg #[.slice (some ⟨w.heap.size + 1 + 1 + 1, 0, none⟩) t.sizes.length t.sizes.length, .slice (some ⟨w.heap.size + 1 + 1 + 1 + 1, 0, none⟩) t.cos.length t.cos.length]) (by simp [results, Tryz.results37, go_sem, hcl2, hcl]) rfl ⟨rfl, ?_, ?_, ?_⟩
  · exact ((Hbel2.out.setCell (by dsimp only; omega) _).setCell (by dsimp only; omega) _).setCell (by dsimp only; omega) _
  · have := Hsz2.out
    simp only [World.setCell, Array.size_modify]; omega
  · refine ⟨((Hr2.out.far (by dsimp only; omega) _).far (by dsimp only; omega) _).far (by dsimp only; omega) _, ⟨xs, ((Hrow2.out.far (by dsimp only; omega) _).far (by dsimp only; omega) _).far (by dsimp only; omega) _, Hxs.out⟩, fun j hj => ?_⟩
    exact (((Hmr.out j hj).far (by dsimp only; omega) _).far (by dsimp only; omega) _).far (by dsimp only; omega) _
end Go.Proofs.YtnmbjmocnafekaaGreatDoor

