/-
  Words for memory: functions and systems. Nothing here speaks of the program.
  Functions in memory of the call's own; the contract of the function that marks them.
-/
import Derived.Test.YtplncocfbajefaaD1
import Derived.Test.YtplncocfbajefaaD3
namespace Go.Proofs.Ytplncocfbajefaa
open Go.RowKit

/-- A function and a system, as plain data. -/
structure Fu where
  name : ByteArray
  args : List Int
  res : Int
  table : List Int
structure Sy where
  ty : Ty
  fs : List Fu

instance : Inhabited Fu := ⟨⟨ByteArray.empty, [], 0, []⟩⟩

/-- The function value reads as f. -/
def FuAt (w : World) (lo hi : Nat) (x a r t : Value) (f : Fu) : Prop :=
  x = .string f.name ∧ r = .int .i64 f.res ∧ f.name.size ≤ maxLen ∧ I64 f.res ∧ IntsAt w lo hi a f.args ∧ IntsAt w lo hi t f.table

def FusAt (w : World) (lo hi : Nat) (v : Value) (fs : List Fu) : Prop :=
  ∃ (A : Option Addr) (cap : Nat), v = .slice A fs.length cap ∧ fs.length ≤ cap ∧ cap ≤ maxLen ∧
    (0 < fs.length → ∃ b off, A = some ⟨b, off, none⟩ ∧ lo ≤ b ∧ b < hi ∧ ∀ k, k < fs.length → ∃ x a r t,
      w.cell? ⟨b, off + k * 4, none⟩ = some x ∧ w.cell? ⟨b, off + k * 4 + 1, none⟩ = some a ∧ w.cell? ⟨b, off + k * 4 + 2, none⟩ = some r ∧ w.cell? ⟨b, off + k * 4 + 3, none⟩ = some t ∧ FuAt w lo hi x a r t (fs.getD k default))

def SyAt (w : World) (lo hi : Nat) (s c v : Value) (y : Sy) : Prop := TyAt w lo hi s c y.ty ∧ FusAt w lo hi v y.fs

section
variable {w w' w'' : World} {lo hi lo' hi' : Nat} {v x a r t s c : Value} {fs : List Fu} {f : Fu} {y : Sy}

theorem FuAt.keep (h : FuAt w lo hi x a r t f) (hk : ∀ k, lo ≤ k → k < hi → w'.heap[k]? = w.heap[k]?) : FuAt w' lo hi x a r t f :=
  ⟨h.1, h.2.1, h.2.2.1, h.2.2.2.1, h.2.2.2.2.1.keep hk, h.2.2.2.2.2.keep hk⟩
theorem FusAt.keep (h : FusAt w lo hi v fs) (hk : ∀ k, lo ≤ k → k < hi → w'.heap[k]? = w.heap[k]?) : FusAt w' lo hi v fs := by
  obtain ⟨A, cap, e, h1, h2, h4⟩ := h
  refine ⟨A, cap, e, h1, h2, fun h0 => ?_⟩
  obtain ⟨b, off, hA, hl, hh, hc⟩ := h4 h0
  refine ⟨b, off, hA, hl, hh, fun k hkk => ?_⟩
  obtain ⟨x, a, r, t, c0, c1, c2, c3, hco⟩ := hc k hkk
  have e := hk b hl hh
  exact ⟨x, a, r, t, (World.cell?_of_block (w := w) e).trans c0, (World.cell?_of_block (w := w) e).trans c1, (World.cell?_of_block (w := w) e).trans c2, (World.cell?_of_block (w := w) e).trans c3, hco.keep hk⟩
theorem SyAt.keep (h : SyAt w lo hi s c v y) (hk : ∀ k, lo ≤ k → k < hi → w'.heap[k]? = w.heap[k]?) : SyAt w' lo hi s c v y := ⟨h.1.keep hk, h.2.keep hk⟩

theorem FuAt.below {B : Nat} (h : FuAt w lo hi x a r t f) (hb : Below B w w') (hB : hi ≤ B) : FuAt w' lo hi x a r t f := h.keep fun k _ hk => hb.block k (by omega)
theorem FusAt.below {B : Nat} (h : FusAt w lo hi v fs) (hb : Below B w w') (hB : hi ≤ B) : FusAt w' lo hi v fs := h.keep fun k _ hk => hb.block k (by omega)
theorem SyAt.below {B : Nat} (h : SyAt w lo hi s c v y) (hb : Below B w w') (hB : hi ≤ B) : SyAt w' lo hi s c v y := h.keep fun k _ hk => hb.block k (by omega)

theorem FuAt.more (h : FuAt w lo hi x a r t f) (h1 : lo' ≤ lo) (h2 : hi ≤ hi') : FuAt w lo' hi' x a r t f := ⟨h.1, h.2.1, h.2.2.1, h.2.2.2.1, h.2.2.2.2.1.more h1 h2, h.2.2.2.2.2.more h1 h2⟩
theorem FusAt.more (h : FusAt w lo hi v fs) (h1 : lo' ≤ lo) (h2 : hi ≤ hi') : FusAt w lo' hi' v fs := by
  obtain ⟨A, cap, e, a1, a2, a4⟩ := h
  refine ⟨A, cap, e, a1, a2, fun h0 => ?_⟩
  obtain ⟨b, off, hA, hl, hh, hc⟩ := a4 h0
  refine ⟨b, off, hA, by omega, by omega, fun k hk => ?_⟩
  obtain ⟨x, a, r, t, c0, c1, c2, c3, hco⟩ := hc k hk
  exact ⟨x, a, r, t, c0, c1, c2, c3, hco.more h1 h2⟩
theorem SyAt.more (h : SyAt w lo hi s c v y) (h1 : lo' ≤ lo) (h2 : hi ≤ hi') : SyAt w lo' hi' s c v y := ⟨h.1.more h1 h2, h.2.more h1 h2⟩

theorem FusAt.form (h : FusAt w lo hi v fs) : ∃ (A : Option Addr) (cap : Nat), v = .slice A fs.length cap ∧ fs.length ≤ cap ∧ cap ≤ maxLen ∧ FusAt w lo hi (.slice A fs.length cap) fs := by
  obtain ⟨A, cap, rfl, h1, h2, h3⟩ := h
  exact ⟨A, cap, rfl, h1, h2, A, cap, rfl, h1, h2, h3⟩
/-- The k-th function's cells, and what they read as. -/
theorem FusAt.at_ {A : Option Addr} {n cap k : Nat} (h : FusAt w lo hi (.slice A n cap) fs) (hk : k < fs.length) :
    ∃ (b off : Nat) (A1 : Option Addr) (cap1 : Nat) (A2 : Option Addr) (cap2 : Nat), A = some ⟨b, off, none⟩ ∧ lo ≤ b ∧ b < hi ∧ w.cell? ⟨b, off + k * 4, none⟩ = some (.string fs[k].name) ∧ w.cell? ⟨b, off + k * 4 + 1, none⟩ = some (.slice A1 fs[k].args.length cap1) ∧
      w.cell? ⟨b, off + k * 4 + 2, none⟩ = some (.int .i64 fs[k].res) ∧ w.cell? ⟨b, off + k * 4 + 3, none⟩ = some (.slice A2 fs[k].table.length cap2) ∧
      fs[k].args.length ≤ cap1 ∧ cap1 ≤ maxLen ∧ fs[k].table.length ≤ cap2 ∧ cap2 ≤ maxLen ∧ FuAt w lo hi (.string fs[k].name) (.slice A1 fs[k].args.length cap1) (.int .i64 fs[k].res) (.slice A2 fs[k].table.length cap2) fs[k] := by
  obtain ⟨A', cap', e, _, _, h4⟩ := h
  injection e with eA
  subst eA
  obtain ⟨b, off, hA, hl, hh, hc⟩ := h4 (by omega)
  obtain ⟨x, a, r, t, c0, c1, c2, c3, rfl, rfl, hn, hs, ha, ht⟩ := hc k hk
  rw [List.getD_eq_getElem?_getD, List.getElem?_eq_getElem hk] at c0 c2 hn hs ha ht
  obtain ⟨A1, cap1, rfl, h1, h2, ha2⟩ := ha.form
  obtain ⟨A2, cap2, rfl, h3, h4, ht2⟩ := ht.form
  exact ⟨b, off, A1, cap1, A2, cap2, hA, hl, hh, c0, c1, c2, c3, h1, h2, h3, h4, rfl, rfl, hn, hs, ha2, ht2⟩
end

/-- How much a function weighs; the first k of some functions. -/
def Fu.weight (f : Fu) : Nat := f.name.size + f.args.length + f.table.length
def fusLen (fs : List Fu) (k : Nat) : Nat := ((fs.take k).map Fu.weight).sum
theorem fusLen_zero (fs : List Fu) : fusLen fs 0 = 0 := by simp [fusLen]
theorem fusLen_succ (fs : List Fu) (k : Nat) (h : k < fs.length) : fusLen fs (k + 1) = fusLen fs k + (fs.getD k default).weight := by
  unfold fusLen
  rw [List.take_succ_eq_append_getElem h, List.map_append, List.sum_append, List.getD_eq_getElem?_getD, List.getElem?_eq_getElem h]
  rfl
theorem fusLen_mono (fs : List Fu) (k : Nat) : fusLen fs k ≤ fusLen fs fs.length := by
  unfold fusLen
  have e : fs.take fs.length = fs.take k ++ fs.drop k := by rw [List.take_length, List.take_append_drop]
  rw [e, List.map_append, List.sum_append]
  omega
/-- How many values a system holds. -/
def Sy.bulk (y : Sy) : Nat := y.ty.bulk + (y.fs.length + fusLen y.fs y.fs.length)
theorem Sy.fu_le (y : Sy) (j : Nat) (hj : j < y.fs.length) : y.fs[j].weight ≤ y.bulk := by
  have h1 := fusLen_succ y.fs j hj
  have h2 := fusLen_mono y.fs (j + 1)
  rw [List.getD_eq_getElem?_getD, List.getElem?_eq_getElem hj] at h1
  simp only [Option.getD_some] at h1
  unfold Sy.bulk
  omega

/-- The cells of the first k functions; the arguments of the j-th lie at the head of block m j, the table at the head of block u j. -/
def FuRow (xs : List Value) (m u : Nat → Nat) (fs : List Fu) (k : Nat) : Prop :=
  xs.length = fs.length * 4 ∧ ∀ j, j < k → ∀ (hj : j < fs.length), xs[j * 4]? = some (.string fs[j].name) ∧ xs[j * 4 + 1]? = some (.slice (some ⟨m j, 0, none⟩) fs[j].args.length fs[j].args.length) ∧
    xs[j * 4 + 2]? = some (.int .i64 fs[j].res) ∧ xs[j * 4 + 3]? = some (.slice (some ⟨u j, 0, none⟩) fs[j].table.length fs[j].table.length)
theorem FuRow.step {xs : List Value} {m u : Nat → Nat} {fs : List Fu} {k : Nat} (h : FuRow xs m u fs k) (hk : k < fs.length) :
    FuRow ((((xs.set (k * 4) (.string fs[k].name)).set (k * 4 + 1) (.slice (some ⟨m k, 0, none⟩) fs[k].args.length fs[k].args.length)).set (k * 4 + 2) (.int .i64 fs[k].res)).set (k * 4 + 3) (.slice (some ⟨u k, 0, none⟩) fs[k].table.length fs[k].table.length)) m u fs (k + 1) := by
  refine ⟨by simp [h.1], fun j hj hjl => ?_⟩
  have hl := h.1
  by_cases e : j = k
  · subst e
    refine ⟨?_, ?_, ?_, ?_⟩
    · rw [List.getElem?_set_ne (by omega), List.getElem?_set_ne (by omega), List.getElem?_set_ne (by omega), List.getElem?_set_self (by omega)]
    · rw [List.getElem?_set_ne (by omega), List.getElem?_set_ne (by omega), List.getElem?_set_self (by simp; omega)]
    · rw [List.getElem?_set_ne (by omega), List.getElem?_set_self (by simp; omega)]
    · rw [List.getElem?_set_self (by simp; omega)]
  · obtain ⟨a, b, c, d⟩ := h.2 j (by omega) hjl
    refine ⟨?_, ?_, ?_, ?_⟩
    · rw [List.getElem?_set_ne (by omega), List.getElem?_set_ne (by omega), List.getElem?_set_ne (by omega), List.getElem?_set_ne (by omega), a]
    · rw [List.getElem?_set_ne (by omega), List.getElem?_set_ne (by omega), List.getElem?_set_ne (by omega), List.getElem?_set_ne (by omega), b]
    · rw [List.getElem?_set_ne (by omega), List.getElem?_set_ne (by omega), List.getElem?_set_ne (by omega), List.getElem?_set_ne (by omega), c]
    · rw [List.getElem?_set_ne (by omega), List.getElem?_set_ne (by omega), List.getElem?_set_ne (by omega), List.getElem?_set_ne (by omega), d]

/-- Every number of these functions fits an int, every name is short. -/
def Fu.fits (f : Fu) : Prop := f.name.size ≤ maxLen ∧ I64 f.res ∧ (∀ z ∈ f.args, I64 z) ∧ ∀ z ∈ f.table, I64 z
def Sy.fits (y : Sy) : Prop := y.ty.fits ∧ ∀ j, ∀ (hj : j < y.fs.length), y.fs[j].fits
theorem FuAt.fits {w : World} {lo hi : Nat} {x a r t : Value} {f : Fu} (h : FuAt w lo hi x a r t f) : f.fits := by
  obtain ⟨_, _, h1, h2, ⟨_, _, _, _, _, h3, _⟩, ⟨_, _, _, _, _, h4, _⟩⟩ := h
  exact ⟨h1, h2, h3, h4⟩
theorem SyAt.fits {w : World} {lo hi : Nat} {s c v : Value} {y : Sy} (h : SyAt w lo hi s c v y) : y.fits := by
  obtain ⟨h1, h2⟩ := h
  obtain ⟨A, cap, rfl, _, _, h2⟩ := h2.form
  refine ⟨h1.fits, fun j hj => ?_⟩
  obtain ⟨_, _, _, _, _, _, _, _, _, _, _, _, _, _, _, _, _, h⟩ := h2.at_ hj
  exact h.fits

/-- A row of functions reads as these. -/
theorem Row.fus {w : World} {g : Nat} {t ti : TypeId} {xs : List Value} {m u : Nat → Nat} {fs : List Fu} {lo hi cap : Nat} (h : Row w g t xs) (hx : FuRow xs m u fs fs.length) (hw : ∀ j, ∀ (hj : j < fs.length), fs[j].fits)
    (hm : ∀ j, ∀ (hj : j < fs.length), Row w (m j) ti (fs[j].args.map (Value.int .i64)) ∧ lo ≤ m j ∧ m j < hi ∧ fs[j].args.length ≤ maxLen)
    (hu : ∀ j, ∀ (hj : j < fs.length), Row w (u j) ti (fs[j].table.map (Value.int .i64)) ∧ lo ≤ u j ∧ u j < hi ∧ fs[j].table.length ≤ maxLen) (hl : lo ≤ g) (hh : g < hi) (hc : fs.length ≤ cap) (hcm : cap ≤ maxLen) :
    FusAt w lo hi (.slice (some ⟨g, 0, none⟩) fs.length cap) fs := by
  refine ⟨_, _, rfl, hc, hcm, fun _ => ⟨g, 0, rfl, hl, hh, fun k hk => ?_⟩⟩
  obtain ⟨a, b, c, d⟩ := hx.2 k hk hk
  obtain ⟨hr, h1, h2, h3⟩ := hm k hk
  obtain ⟨hr', h1', h2', h3'⟩ := hu k hk
  obtain ⟨i0, i1, i2, i3⟩ := hw k hk
  rw [List.getD_eq_getElem?_getD, List.getElem?_eq_getElem hk]
  refine ⟨_, _, _, _, ?_, ?_, ?_, ?_, rfl, rfl, i0, i1, hr.ints i2 h1 h2 (Nat.le_refl _) h3, hr'.ints i3 h1' h2' (Nat.le_refl _) h3'⟩
  · rw [Nat.zero_add, h.cell, a]; rfl
  · rw [Nat.zero_add, h.cell, b]
  · rw [Nat.zero_add, h.cell, c]; rfl
  · rw [Nat.zero_add, h.cell, d]

/-- Functions in new memory as the copying lays them: the row in block g, the j-th arguments in block g + 4 + 5 j, the j-th table in the next one. -/
def NewFus (w : World) (ti tf : TypeId) (g : Nat) (fs : List Fu) : Prop :=
  (∃ xs, Row w g tf xs ∧ FuRow xs (fun j => g + 1 + 5 * j + 3) (fun j => g + 1 + 5 * j + 4) fs fs.length) ∧
    ∀ j, ∀ (hj : j < fs.length), Row w (g + 1 + 5 * j + 3) ti (fs[j].args.map (Value.int .i64)) ∧ Row w (g + 1 + 5 * j + 4) ti (fs[j].table.map (Value.int .i64))
theorem NewFus.keep {w w' : World} {ti tf : TypeId} {g : Nat} {fs : List Fu} (h : NewFus w ti tf g fs) (hk : ∀ k, g ≤ k → k < g + 1 + 5 * fs.length → w'.heap[k]? = w.heap[k]?) : NewFus w' ti tf g fs := by
  obtain ⟨⟨xs, h2, h3⟩, h4⟩ := h
  exact ⟨⟨xs, h2.keep (hk _ (by omega) (by omega)), h3⟩, fun j hj => ⟨(h4 j hj).1.keep (hk _ (by omega) (by omega)), (h4 j hj).2.keep (hk _ (by omega) (by omega))⟩⟩
theorem NewFus.at_ {w : World} {ti tf : TypeId} {g : Nat} {fs : List Fu} (h : NewFus w ti tf g fs) (hf : ∀ j, ∀ (hj : j < fs.length), fs[j].fits) (hb : fs.length ≤ 1048576) (hw : ∀ j, ∀ (hj : j < fs.length), fs[j].weight ≤ 1048576) :
    FusAt w g (g + 1 + 5 * fs.length) (.slice (some ⟨g, 0, none⟩) fs.length fs.length) fs := by
  obtain ⟨⟨xs, h2, h3⟩, h4⟩ := h
  refine h2.fus (ti := ti) h3 hf (fun j hj => ⟨(h4 j hj).1, by omega, by omega, ?_⟩) (fun j hj => ⟨(h4 j hj).2, by omega, by omega, ?_⟩) (Nat.le_refl _) (by omega) (Nat.le_refl _) (by unfold maxLen; omega)
  · have := hw j hj; unfold Fu.weight at this; unfold maxLen; omega
  · have := hw j hj; unfold Fu.weight at this; unfold maxLen; omega
/-- A system in new memory as the copying lays it. -/
def NewSy (w : World) (ti tc tf : TypeId) (g : Nat) (y : Sy) : Prop := NewTy w ti tc g y.ty ∧ NewFus w ti tf (g + 2 + 4 * y.ty.cos.length) y.fs
theorem NewSy.keep {w w' : World} {ti tc tf : TypeId} {g : Nat} {y : Sy} (h : NewSy w ti tc tf g y) (hk : ∀ k, g ≤ k → k < g + 3 + 4 * y.ty.cos.length + 5 * y.fs.length → w'.heap[k]? = w.heap[k]?) : NewSy w' ti tc tf g y :=
  ⟨h.1.keep fun k h1 h2 => hk k h1 (by omega), h.2.keep fun k h1 h2 => hk k (by omega) (by omega)⟩
theorem NewSy.below {w w' : World} {ti tc tf : TypeId} {g : Nat} {y : Sy} {B : Nat} (h : NewSy w ti tc tf g y) (hb : Below B w w') (hB : g + 3 + 4 * y.ty.cos.length + 5 * y.fs.length ≤ B) : NewSy w' ti tc tf g y := h.keep fun k _ hk => hb.block k (by omega)
theorem NewSy.at_ {w : World} {ti tc tf : TypeId} {g : Nat} {y : Sy} (h : NewSy w ti tc tf g y) (hf : y.fits) (hb : y.bulk ≤ 1048576) :
    SyAt w g (g + 3 + 4 * y.ty.cos.length + 5 * y.fs.length) (.slice (some ⟨g, 0, none⟩) y.ty.sizes.length y.ty.sizes.length) (.slice (some ⟨g + 1, 0, none⟩) y.ty.cos.length y.ty.cos.length) (.slice (some ⟨g + 2 + 4 * y.ty.cos.length, 0, none⟩) y.fs.length y.fs.length) y := by
  have hb' := hb
  unfold Sy.bulk at hb'
  exact ⟨(h.1.at_ hf.1 (by omega)).more (Nat.le_refl _) (by omega), (h.2.at_ hf.2 (by omega) fun j hj => Nat.le_trans (y.fu_le j hj) hb).more (by omega) (by omega)⟩

/-- A box of three cells that the call made first, seen from a later world. -/
theorem box3 {w wk : World} {a b c : Value} {t : TypeId} (h : Below (w.heap.size + 1) (w.alloc (.cells #[a, b, c] t)) wk) :
    wk.cell? ⟨w.heap.size, 0, none⟩ = some a ∧ wk.cell? ⟨w.heap.size, 1, none⟩ = some b ∧ wk.cell? ⟨w.heap.size, 2, none⟩ = some c ∧ w.heap.size < wk.heap.size ∧ Below w.heap.size w wk := by
  have hs := h.size
  simp only [World.size_alloc] at hs
  refine ⟨(h.cell (p := ⟨w.heap.size, 0, none⟩) (by dsimp only; omega)).trans ?_, (h.cell (p := ⟨w.heap.size, 1, none⟩) (by dsimp only; omega)).trans ?_, (h.cell (p := ⟨w.heap.size, 2, none⟩) (by dsimp only; omega)).trans ?_, by omega, ((Below.refl _ _).alloc (Nat.le_refl _) _).trans (h.mono (by omega))⟩
  · simp [go_sem]
  · simp [go_sem]
  · simp [go_sem]
end Go.Proofs.Ytplncocfbajefaa

namespace Go.Proofs.Ytplncocfbajefaa
open Go.RowKit

/-- The types of the arguments; the table. -/
def Fu.zs (f : Fu) : Bool → List Int
  | false => f.args
  | true => f.table
def lenF (f : Nat → Fu) : Nat → Nat
  | 0 => 0
  | i + 1 => lenF f i + (f i).args.length + (f i).table.length
theorem lenF_mono (f : Nat → Fu) {i j : Nat} (h : i ≤ j) : lenF f i ≤ lenF f j := by
  induction j with
  | zero => obtain rfl : i = 0 := by omega
            exact Nat.le_refl _
  | succ j ih =>
    by_cases e : i = j + 1
    · rw [e]; exact Nat.le_refl _
    · have := ih (by omega)
      show _ ≤ lenF f j + _ + _
      omega
def markAtF (f : Nat → Fu) (k0 : Int) (i : Nat) : Int := k0 + 2 * (i : Int) + (lenF f i : Int)
def markFu (f : Nat → Fu) (k0 : Int) (i : Nat) : Fu := ⟨mText (markAtF f k0 i), markL (markAtF f k0 i + 1) (f i).args.length, markAtF f k0 i + 1 + ((f i).args.length : Int), markL (markAtF f k0 i + 1 + ((f i).args.length : Int) + 1) (f i).table.length⟩
def mixFu (f : Nat → Fu) (k0 : Int) (j i : Nat) : Fu := if i < j then markFu f k0 i else f i
theorem mixFu_len (f : Nat → Fu) (k0 : Int) (j i : Nat) (b : Bool) : ((mixFu f k0 j i).zs b).length = ((f i).zs b).length := by
  unfold mixFu
  split
  · cases b <;> simp [markFu, Fu.zs, markL_len]
  · rfl
theorem mixFu_at (f : Nat → Fu) (k0 : Int) (j : Nat) : mixFu f k0 j j = f j := by unfold mixFu; rw [if_neg (by omega)]
theorem mixFu_new (f : Nat → Fu) (k0 : Int) (j : Nat) : mixFu f k0 (j + 1) j = markFu f k0 j := by unfold mixFu; rw [if_pos (by omega)]
theorem mixFu_old (f : Nat → Fu) (k0 : Int) {i j : Nat} (h : i ≠ j) : mixFu f k0 (j + 1) i = mixFu f k0 j i := by
  unfold mixFu
  by_cases h2 : i < j
  · rw [if_pos h2, if_pos (by omega)]
  · rw [if_neg h2, if_neg (by omega)]
theorem markAtF_succ (f : Nat → Fu) (k0 : Int) (i : Nat) : markAtF f k0 (i + 1) = markAtF f k0 i + 1 + ((f i).args.length : Int) + 1 + ((f i).table.length : Int) := by
  unfold markAtF
  show k0 + 2 * ((i + 1 : Nat) : Int) + ((lenF f i + (f i).args.length + (f i).table.length : Nat) : Int) = _
  omega

/-- Functions in memory of the call's own: the slice cv at the head of block gc; the i-th arguments and table the slices mv i false and mv i true at the heads of blocks m i false and m i true. -/
def OwnFus (w : World) (ti tf : TypeId) (gc : Nat) (m : Nat → Bool → Nat) (mv : Nat → Bool → Value) (cv : Value) (n : Nat) (f : Nat → Fu) : Prop :=
  ∃ xs : List Value, SlAt w tf gc cv n xs ∧ xs.length = n * 4 ∧
    (∀ i, i < n → xs[i * 4]? = some (.string (f i).name) ∧ xs[i * 4 + 1]? = some (mv i false) ∧ xs[i * 4 + 2]? = some (.int .i64 (f i).res) ∧ xs[i * 4 + 3]? = some (mv i true)) ∧ ∀ i b, i < n → OwnI w ti (m i b) (mv i b) ((f i).zs b)
def ApartF (gc : Nat) (m : Nat → Bool → Nat) (n : Nat) (f : Nat → Fu) : Prop :=
  ∀ i b, i < n → 0 < ((f i).zs b).length → m i b ≠ gc ∧ ∀ j c, j < n → (j ≠ i ∨ c ≠ b) → 0 < ((f j).zs c).length → m j c ≠ m i b
theorem OwnFus.keep {w w' : World} {ti tf : TypeId} {gc n : Nat} {m : Nat → Bool → Nat} {mv : Nat → Bool → Value} {cv : Value} {f : Nat → Fu} (h : OwnFus w ti tf gc m mv cv n f) (hk : 0 < n → w'.heap[gc]? = w.heap[gc]?)
    (hm : ∀ i b, i < n → 0 < ((f i).zs b).length → w'.heap[m i b]? = w.heap[m i b]?) : OwnFus w' ti tf gc m mv cv n f := by
  obtain ⟨xs, h1, h2, h3, h4⟩ := h
  exact ⟨xs, h1.keep hk, h2, h3, fun i b hi => (h4 i b hi).keep (hm i b hi)⟩
theorem OwnFus.lt {w : World} {ti tf : TypeId} {gc n : Nat} {m : Nat → Bool → Nat} {mv : Nat → Bool → Value} {cv : Value} {f : Nat → Fu} (h : OwnFus w ti tf gc m mv cv n f) :
    (0 < n → gc < w.heap.size) ∧ ∀ i b, i < n → 0 < ((f i).zs b).length → m i b < w.heap.size := by
  obtain ⟨xs, h1, h2, h3, h4⟩ := h
  exact ⟨fun h0 => h1.lt h0, fun i b hi h0 => (h4 i b hi).lt h0⟩
/-- What a marking of such functions keeps. -/
def FuKeeps (gc : Nat) (m : Nat → Bool → Nat) (n : Nat) (f : Nat → Fu) (k : Nat) : Prop := (0 < n → k ≠ gc) ∧ ∀ i b, i < n → 0 < ((f i).zs b).length → k ≠ m i b

set_option maxRecDepth 100000 in
set_option maxHeartbeats 4000000 in
theorem markFunctionS_any (gc n : Nat) (m : Nat → Bool → Nat) (mv : Nat → Bool → Value) (cv : Value) (f : Nat → Fu) (k0 : Int) (w : World) (hv : OwnFus w 3 79 gc m mv cv n f) (ha : ApartF gc m n f) (h0 : 0 ≤ k0) (h1 : k0 + 2 * (n : Int) + (lenF f n : Int) ≤ 900000000) :
    Calls Try.prog 31 #[cv, .int .i64 k0] w fun e w' => e = .returned (.int .i64 (markAtF f k0 n)) ∧ Kept (FuKeeps gc m n f) w w' ∧ OwnFus w' 3 79 gc m mv cv n (mixFu f k0 n) := by
  have hv0 : OwnFus w 3 79 gc m mv cv n (mixFu f k0 0) := by
    have e : mixFu f k0 0 = f := by funext i; unfold mixFu; rw [if_neg (by omega)]
    rw [e]; exact hv
  obtain ⟨xs0, ⟨A, cap, rfl, hc, hm, hnil, _⟩, _, _, _⟩ := hv
  have hm' := hm
  unfold maxLen at hm'
  have Hv := Lib.hid hv0
  have Ha := Lib.hid ha
  clear hv0 ha hnil
  go_enter Try.func31, Try.ntmps31
  go_wp2
  go_loopw [1, 5] (fun q i wr => ∃ j : Nat, j ≤ n ∧ i = .int .i64 j ∧ q = .int .i64 (markAtF f k0 j) ∧ Hid (Kept (FuKeeps gc m n f) w wr) ∧ Hid (OwnFus wr 3 79 gc m mv (.slice A n cap) n (mixFu f k0 j))) (fun _ i _ => n - (intOf i).toNat)
  case atStart => exact ⟨0, Nat.zero_le _, rfl, by simp [markAtF, lenF], Kept.refl _ _, Hv.out⟩
  case round =>
    obtain ⟨j, hj, rfl, rfl, hk, ho⟩ := hrel
    by_cases hlt : j < n
    · have hms := lenF_mono f (show j + 1 ≤ n by omega)
      have hms1 : lenF f (j + 1) = lenF f j + (f j).args.length + (f j).table.length := rfl
      have hat : markAtF f k0 j = k0 + 2 * (j : Int) + (lenF f j : Int) := rfl
      have hb0 : 0 ≤ markAtF f k0 j := by rw [hat]; omega
      have hb1 : markAtF f k0 j + 2 + ((f j).args.length : Int) + ((f j).table.length : Int) ≤ 900000000 := by rw [hat]; omega
      have hnext := Lib.hid (markAtF_succ f k0 j)
      clear hms hms1 hat
      obtain ⟨xs, ⟨A2, cap2, e2, _, _, _, hrow⟩, hx, hcells, hmaps⟩ := ho.out
      injection e2 with e2 e3 e4
      subst e2 e4
      obtain ⟨rfl, rest, hr⟩ := hrow (by omega)
      have Hr := Lib.hid hr
      have Hx := Lib.hid hx
      have Hcells := Lib.hid hcells
      have Hmaps := Lib.hid hmaps
      have hgl := hr.lt
      clear hr hx hcells hmaps hrow
      go_wp2_with fail
      refine (markText_any _ _ (by omega) (by omega)).mono ?_
      rintro e w1 ⟨rfl, hb1w⟩
      have hgs : (mixFu f k0 j j) = f j := mixFu_at f k0 j
      have hma : OwnI wr 3 (m j false) (mv j false) (f j).args := by have := Hmaps.out j false hlt; rw [hgs] at this; exact this
      have hmt : OwnI wr 3 (m j true) (mv j true) (f j).table := by have := Hmaps.out j true hlt; rw [hgs] at this; exact this
      obtain ⟨A3, cap3, e3, _, _, _, _⟩ := id hma
      obtain ⟨A4, cap4, e4, _, _, _, _⟩ := id hmt
      have hne : ∀ b, 0 < ((f j).zs b).length → m j b ≠ gc := fun b h => (Ha.out j b hlt h).1
      have hr1 := Hr.out.below hb1w hgl
      obtain ⟨x0, x1, x2, x3⟩ := Hcells.out j hlt
      rw [e3] at x1
      rw [e4] at x3
      have hxl : xs.length = n * 4 := Hx.out
      have c0 := hr1.cell_some (i := j * 4) (by simp; omega)
      have f0 := hr1.frozen (j * 4)
      have c1 : w1.cell? ⟨gc, j * 4 + 1, none⟩ = some (.slice A3 (f j).args.length cap3) := by rw [hr1.cell, List.getElem?_append_left (by omega), x1]
      generalize (xs ++ rest)[j * 4]'(by simp; omega) = y0 at c0
      have Hr1 := Lib.hid hr1
      have Hma := Lib.hid hma
      have Hmt := Lib.hid hmt
      have Hb1 := Lib.hid hb1w
      have hs1 := hb1w.size
      have X2 := Lib.hid x2
      have X3 := Lib.hid x3
      have E3 := Lib.hid e3
      have E4 := Lib.hid e4
      clear hr1 hma hmt hb1w x0 x1 x2 x3 e3 e4 hgs
      go_wp2_with fail
      have hset : ∀ b, 0 < ((f j).zs b).length → (w1.setCell ⟨gc, j * 4, none⟩ (.string (mText (markAtF f k0 j)))).heap[m j b]? = w1.heap[m j b]? := fun b h => Below.heap_setCell _ _ _ _ (hne b h)
      have hmaS : OwnI wr 3 (m j false) (.slice A3 (f j).args.length cap3) (f j).args := by rw [← E3.out]; exact Hma.out
      have hmaW : OwnI (w1.setCell ⟨gc, j * 4, none⟩ (.string (mText (markAtF f k0 j)))) 3 (m j false) (.slice A3 (f j).args.length cap3) (f j).args :=
        hmaS.keep fun h => (hset false h).trans (Hb1.out.block _ (hmaS.lt h))
      refine (markIntS_any (m j false) _ (f j).args (markAtF f k0 j + 1) _ hmaW (by omega) (by omega)).mono ?_
      rintro e w2 ⟨rfl, hk2, ho2, hs2⟩
      have hg2 : w2.heap[gc]? = (w1.setCell ⟨gc, j * 4, none⟩ (.string (mText (markAtF f k0 j)))).heap[gc]? := hk2.block gc (by have := Hr1.out.lt; simpa [World.setCell] using this) (fun h => (hne false h).symm)
      have hr2 := (Hr1.out.set_ (j * 4) (.string (mText (markAtF f k0 j)))).keep hg2
      have c2 : w2.cell? ⟨gc, j * 4 + 2, none⟩ = some (.int .i64 (mixFu f k0 j j).res) := by rw [hr2.cell, List.getElem?_set_ne (by omega), List.getElem?_append_left (by omega), X2.out]
      have f2 := hr2.frozen (j * 4 + 2)
      have c3 : w2.cell? ⟨gc, j * 4 + 3, none⟩ = some (.slice A4 (f j).table.length cap4) := by rw [hr2.cell, List.getElem?_set_ne (by omega), List.getElem?_append_left (by omega), X3.out]
      have Hr2 := Lib.hid hr2
      have Hk2 := Lib.hid hk2
      have Ho2 := Lib.hid ho2
      have Hs2 := Lib.hid hs2
      have hs2' : w1.heap.size ≤ w2.heap.size := by rw [hs2]; simp [World.setCell]
      clear hr2 hk2 ho2 hs2 hg2 hmaS hmaW c0 f0 c1 hset
      generalize (mixFu f k0 j j).res = y2 at c2
      have hw23 : ∀ b, 0 < ((f j).zs b).length → (w2.setCell ⟨gc, j * 4 + 2, none⟩ (.int .i64 (markAtF f k0 j + 1 + ((f j).args.length : Int)))).heap[m j b]? = w2.heap[m j b]? := fun b h => Below.heap_setCell _ _ _ _ (hne b h)
      go_wp2_with fail
      have hmtS : OwnI wr 3 (m j true) (.slice A4 (f j).table.length cap4) (f j).table := by rw [← E4.out]; exact Hmt.out
      have hmtW : OwnI (w2.setCell ⟨gc, j * 4 + 2, none⟩ (.int .i64 (markAtF f k0 j + 1 + ((f j).args.length : Int)))) 3 (m j true) (.slice A4 (f j).table.length cap4) (f j).table :=
        hmtS.keep fun h => (hw23 true h).trans ((Hk2.out.block _ (by have := hmtS.lt h; simp [World.setCell]; omega) (fun h2 => ((Ha.out j false hlt h2).2 j true hlt (.inr (by simp)) h))).trans ((Below.heap_setCell _ _ _ _ (hne true h)).trans (Hb1.out.block _ (hmtS.lt h))))
      refine (markIntS_any (m j true) _ (f j).table (markAtF f k0 j + 1 + ((f j).args.length : Int) + 1) _ hmtW (by omega) (by omega)).mono ?_
      rintro e w3 ⟨rfl, hk3, ho3, hs3⟩
      have Hk3 := Lib.hid hk3
      have Ho3 := Lib.hid ho3
      have Hs3 := Lib.hid hs3
      clear hk3 ho3 hs3 hmtS hmtW c2 f2 c3 hw23
      go_wp2
      go_roundw
      case rel =>
        refine ⟨j + 1, by omega, by go_num, by rw [hnext.out], ?_, ?_⟩
        · have k1 : Kept (FuKeeps gc m n f) wr w1 := ⟨Hb1.out.os, Hb1.out.tape, Hb1.out.output, Hb1.out.size, fun k hk _ => Hb1.out.block k hk⟩
          have k2 := (hk.out.trans k1).setCell (p := ⟨gc, j * 4, none⟩) (fun h => h.1 (by omega) rfl) (.string (mText (markAtF f k0 j)))
          have k3 := k2.trans (Hk2.out.weak fun k hS h => hS.2 j false hlt h)
          have k4 := k3.setCell (p := ⟨gc, j * 4 + 2, none⟩) (fun h => h.1 (by omega) rfl) (.int .i64 (markAtF f k0 j + 1 + ((f j).args.length : Int)))
          exact k4.trans (Hk3.out.weak fun k hS h => hS.2 j true hlt h)
        · have hg3 : w3.heap[gc]? = (w2.setCell ⟨gc, j * 4 + 2, none⟩ (.int .i64 (markAtF f k0 j + 1 + ((f j).args.length : Int)))).heap[gc]? := Hk3.out.block gc (by have := Hr2.out.lt; simpa [World.setCell] using this) (fun h => (hne true h).symm)
          have hr3 := (Hr2.out.set_ (j * 4 + 2) (.int .i64 (markAtF f k0 j + 1 + ((f j).args.length : Int)))).keep hg3
          rw [List.set_append_left _ _ (by omega), List.set_append_left _ _ (by simp; omega)] at hr3
          refine ⟨(xs.set (j * 4) (.string (mText (markAtF f k0 j)))).set (j * 4 + 2) (.int .i64 (markAtF f k0 j + 1 + ((f j).args.length : Int))), ⟨_, cap, rfl, hc, hm, fun h => absurd h (by omega), fun _ => ⟨rfl, rest, hr3⟩⟩, by simp [hxl], fun i hi => ?_, fun i b hi => ?_⟩
          · obtain ⟨a, b, c, d⟩ := Hcells.out i hi
            by_cases e : i = j
            · subst e
              rw [mixFu_new]
              refine ⟨?_, ?_, ?_, ?_⟩
              · rw [List.getElem?_set_ne (by omega), List.getElem?_set_self (by omega)]; rfl
              · rw [List.getElem?_set_ne (by omega), List.getElem?_set_ne (by omega), b]
              · rw [List.getElem?_set_self (by simp; omega)]; rfl
              · rw [List.getElem?_set_ne (by omega), List.getElem?_set_ne (by omega), d]
            · rw [mixFu_old f k0 e]
              refine ⟨?_, ?_, ?_, ?_⟩
              · rw [List.getElem?_set_ne (by omega), List.getElem?_set_ne (by omega), a]
              · rw [List.getElem?_set_ne (by omega), List.getElem?_set_ne (by omega), b]
              · rw [List.getElem?_set_ne (by omega), List.getElem?_set_ne (by omega), c]
              · rw [List.getElem?_set_ne (by omega), List.getElem?_set_ne (by omega), d]
          · have hstay : ∀ k, k < wr.heap.size → k ≠ gc → (0 < (f j).args.length → k ≠ m j false) → (0 < (f j).table.length → k ≠ m j true) → w3.heap[k]? = wr.heap[k]? := fun k hkl hkg h1 h2 =>
              (Hk3.out.block k (by simp [World.setCell]; omega) h2).trans ((Below.heap_setCell _ _ _ _ hkg).trans ((Hk2.out.block k (by simp [World.setCell]; omega) h1).trans ((Below.heap_setCell _ _ _ _ hkg).trans (Hb1.out.block k hkl))))
            by_cases e : i = j
            · subst e
              rw [mixFu_new]
              cases b with
              | true => show OwnI w3 _ _ _ _; rw [E4.out]; exact Ho3.out
              | false =>
                show OwnI w3 _ _ _ _
                rw [E3.out]
                refine Ho2.out.keep fun h => ?_
                rw [markL_len] at h
                have hap := (Ha.out i false hlt h)
                exact (Hk3.out.block _ (by have := Ho2.out.lt (by rw [markL_len]; exact h); simpa [World.setCell] using this) (fun h2 => fun e2 => (hap.2 i true hlt (.inr (by simp)) h2) e2.symm)).trans (Below.heap_setCell _ _ _ _ hap.1)
            · rw [mixFu_old f k0 e]
              have hmi := Hmaps.out i b hi
              refine hmi.keep fun h => ?_
              have hl := hmi.lt h
              rw [mixFu_len] at h
              have hap := Ha.out i b hi h
              exact hstay _ hl hap.1 (fun h2 e2 => hap.2 j false hlt (.inl (fun e3 => e e3.symm)) h2 e2.symm) (fun h2 e2 => hap.2 j true hlt (.inl (fun e3 => e e3.symm)) h2 e2.symm)
      case measure => simp [intOf]; omega
    · obtain rfl : j = n := by omega
      go_wp2
      go_ret
      exact ⟨rfl, hk.out, ho.out⟩
end Go.Proofs.Ytplncocfbajefaa

