/-
  Words for memory: functions and systems. Nothing here speaks of the program.
-/
import Derived.Test.YtfcekbjoagogdaaDoorMem
namespace Go.Proofs.YtfcekbjoagogdaaDoor
open Go.RowKit

/-- A function and a system, as plain data. -/
structure Fu where
  name : ByteArray
  args : List Int
  res : Int
  table : List Int
structure Sy where
  ty : Ty
  fs : List Fu

instance : Inhabited Fu := ⟨⟨ByteArray.empty, [], 0, []⟩⟩

/-- The function value reads as f. -/
def FuAt (w : World) (lo hi : Nat) (x a r t : Value) (f : Fu) : Prop :=
  x = .string f.name ∧ r = .int .i64 f.res ∧ f.name.size ≤ maxLen ∧ I64 f.res ∧ IntsAt w lo hi a f.args ∧ IntsAt w lo hi t f.table

def FusAt (w : World) (lo hi : Nat) (v : Value) (fs : List Fu) : Prop :=
  ∃ (A : Option Addr) (cap : Nat), v = .slice A fs.length cap ∧ fs.length ≤ cap ∧ cap ≤ maxLen ∧
    (0 < fs.length → ∃ b off, A = some ⟨b, off, none⟩ ∧ lo ≤ b ∧ b < hi ∧ ∀ k, k < fs.length → ∃ x a r t,
      w.cell? ⟨b, off + k * 4, none⟩ = some x ∧ w.cell? ⟨b, off + k * 4 + 1, none⟩ = some a ∧ w.cell? ⟨b, off + k * 4 + 2, none⟩ = some r ∧ w.cell? ⟨b, off + k * 4 + 3, none⟩ = some t ∧ FuAt w lo hi x a r t (fs.getD k default))

def SyAt (w : World) (lo hi : Nat) (s c v : Value) (y : Sy) : Prop := TyAt w lo hi s c y.ty ∧ FusAt w lo hi v y.fs

section
variable {w w' w'' : World} {lo hi lo' hi' : Nat} {v x a r t s c : Value} {fs : List Fu} {f : Fu} {y : Sy}

theorem FuAt.keep (h : FuAt w lo hi x a r t f) (hk : ∀ k, lo ≤ k → k < hi → w'.heap[k]? = w.heap[k]?) : FuAt w' lo hi x a r t f :=
  ⟨h.1, h.2.1, h.2.2.1, h.2.2.2.1, h.2.2.2.2.1.keep hk, h.2.2.2.2.2.keep hk⟩
theorem FusAt.keep (h : FusAt w lo hi v fs) (hk : ∀ k, lo ≤ k → k < hi → w'.heap[k]? = w.heap[k]?) : FusAt w' lo hi v fs := by
  obtain ⟨A, cap, e, h1, h2, h4⟩ := h
  refine ⟨A, cap, e, h1, h2, fun h0 => ?_⟩
  obtain ⟨b, off, hA, hl, hh, hc⟩ := h4 h0
  refine ⟨b, off, hA, hl, hh, fun k hkk => ?_⟩
  obtain ⟨x, a, r, t, c0, c1, c2, c3, hco⟩ := hc k hkk
  have e := hk b hl hh
  exact ⟨x, a, r, t, (World.cell?_of_block (w := w) e).trans c0, (World.cell?_of_block (w := w) e).trans c1, (World.cell?_of_block (w := w) e).trans c2, (World.cell?_of_block (w := w) e).trans c3, hco.keep hk⟩
theorem SyAt.keep (h : SyAt w lo hi s c v y) (hk : ∀ k, lo ≤ k → k < hi → w'.heap[k]? = w.heap[k]?) : SyAt w' lo hi s c v y := ⟨h.1.keep hk, h.2.keep hk⟩

theorem FuAt.below {B : Nat} (h : FuAt w lo hi x a r t f) (hb : Below B w w') (hB : hi ≤ B) : FuAt w' lo hi x a r t f := h.keep fun k _ hk => hb.block k (by omega)
theorem FusAt.below {B : Nat} (h : FusAt w lo hi v fs) (hb : Below B w w') (hB : hi ≤ B) : FusAt w' lo hi v fs := h.keep fun k _ hk => hb.block k (by omega)
theorem SyAt.below {B : Nat} (h : SyAt w lo hi s c v y) (hb : Below B w w') (hB : hi ≤ B) : SyAt w' lo hi s c v y := h.keep fun k _ hk => hb.block k (by omega)

theorem FuAt.more (h : FuAt w lo hi x a r t f) (h1 : lo' ≤ lo) (h2 : hi ≤ hi') : FuAt w lo' hi' x a r t f := ⟨h.1, h.2.1, h.2.2.1, h.2.2.2.1, h.2.2.2.2.1.more h1 h2, h.2.2.2.2.2.more h1 h2⟩
theorem FusAt.more (h : FusAt w lo hi v fs) (h1 : lo' ≤ lo) (h2 : hi ≤ hi') : FusAt w lo' hi' v fs := by
  obtain ⟨A, cap, e, a1, a2, a4⟩ := h
  refine ⟨A, cap, e, a1, a2, fun h0 => ?_⟩
  obtain ⟨b, off, hA, hl, hh, hc⟩ := a4 h0
  refine ⟨b, off, hA, by omega, by omega, fun k hk => ?_⟩
  obtain ⟨x, a, r, t, c0, c1, c2, c3, hco⟩ := hc k hk
  exact ⟨x, a, r, t, c0, c1, c2, c3, hco.more h1 h2⟩
theorem SyAt.more (h : SyAt w lo hi s c v y) (h1 : lo' ≤ lo) (h2 : hi ≤ hi') : SyAt w lo' hi' s c v y := ⟨h.1.more h1 h2, h.2.more h1 h2⟩

theorem FusAt.form (h : FusAt w lo hi v fs) : ∃ (A : Option Addr) (cap : Nat), v = .slice A fs.length cap ∧ fs.length ≤ cap ∧ cap ≤ maxLen ∧ FusAt w lo hi (.slice A fs.length cap) fs := by
  obtain ⟨A, cap, rfl, h1, h2, h3⟩ := h
  exact ⟨A, cap, rfl, h1, h2, A, cap, rfl, h1, h2, h3⟩
/-- The k-th function's cells, and what they read as. -/
theorem FusAt.at_ {A : Option Addr} {n cap k : Nat} (h : FusAt w lo hi (.slice A n cap) fs) (hk : k < fs.length) :
    ∃ (b off : Nat) (A1 : Option Addr) (cap1 : Nat) (A2 : Option Addr) (cap2 : Nat), A = some ⟨b, off, none⟩ ∧ lo ≤ b ∧ b < hi ∧ w.cell? ⟨b, off + k * 4, none⟩ = some (.string fs[k].name) ∧ w.cell? ⟨b, off + k * 4 + 1, none⟩ = some (.slice A1 fs[k].args.length cap1) ∧
      w.cell? ⟨b, off + k * 4 + 2, none⟩ = some (.int .i64 fs[k].res) ∧ w.cell? ⟨b, off + k * 4 + 3, none⟩ = some (.slice A2 fs[k].table.length cap2) ∧
      fs[k].args.length ≤ cap1 ∧ cap1 ≤ maxLen ∧ fs[k].table.length ≤ cap2 ∧ cap2 ≤ maxLen ∧ FuAt w lo hi (.string fs[k].name) (.slice A1 fs[k].args.length cap1) (.int .i64 fs[k].res) (.slice A2 fs[k].table.length cap2) fs[k] := by
  obtain ⟨A', cap', e, _, _, h4⟩ := h
  injection e with eA
  subst eA
  obtain ⟨b, off, hA, hl, hh, hc⟩ := h4 (by omega)
  obtain ⟨x, a, r, t, c0, c1, c2, c3, rfl, rfl, hn, hs, ha, ht⟩ := hc k hk
  rw [List.getD_eq_getElem?_getD, List.getElem?_eq_getElem hk] at c0 c2 hn hs ha ht
  obtain ⟨A1, cap1, rfl, h1, h2, ha2⟩ := ha.form
  obtain ⟨A2, cap2, rfl, h3, h4, ht2⟩ := ht.form
  exact ⟨b, off, A1, cap1, A2, cap2, hA, hl, hh, c0, c1, c2, c3, h1, h2, h3, h4, rfl, rfl, hn, hs, ha2, ht2⟩
end

/-- How much a function weighs; the first k of some functions. -/
def Fu.weight (f : Fu) : Nat := f.name.size + f.args.length + f.table.length
def fusLen (fs : List Fu) (k : Nat) : Nat := ((fs.take k).map Fu.weight).sum
theorem fusLen_zero (fs : List Fu) : fusLen fs 0 = 0 := by simp [fusLen]
theorem fusLen_succ (fs : List Fu) (k : Nat) (h : k < fs.length) : fusLen fs (k + 1) = fusLen fs k + (fs.getD k default).weight := by
  unfold fusLen
  rw [List.take_succ_eq_append_getElem h, List.map_append, List.sum_append, List.getD_eq_getElem?_getD, List.getElem?_eq_getElem h]
  rfl
theorem fusLen_mono (fs : List Fu) (k : Nat) : fusLen fs k ≤ fusLen fs fs.length := by
  unfold fusLen
  have e : fs.take fs.length = fs.take k ++ fs.drop k := by rw [List.take_length, List.take_append_drop]
  rw [e, List.map_append, List.sum_append]
  omega
/-- How many values a system holds. -/
def Sy.bulk (y : Sy) : Nat := y.ty.bulk + (y.fs.length + fusLen y.fs y.fs.length)
theorem Sy.fu_le (y : Sy) (j : Nat) (hj : j < y.fs.length) : y.fs[j].weight ≤ y.bulk := by
  have h1 := fusLen_succ y.fs j hj
  have h2 := fusLen_mono y.fs (j + 1)
  rw [List.getD_eq_getElem?_getD, List.getElem?_eq_getElem hj] at h1
  simp only [Option.getD_some] at h1
  unfold Sy.bulk
  omega

/-- The cells of the first k functions; the arguments of the j-th lie at the head of block m j, the table at the head of block u j. -/
def FuRow (xs : List Value) (m u : Nat → Nat) (fs : List Fu) (k : Nat) : Prop :=
  xs.length = fs.length * 4 ∧ ∀ j, j < k → ∀ (hj : j < fs.length), xs[j * 4]? = some (.string fs[j].name) ∧ xs[j * 4 + 1]? = some (.slice (some ⟨m j, 0, none⟩) fs[j].args.length fs[j].args.length) ∧
    xs[j * 4 + 2]? = some (.int .i64 fs[j].res) ∧ xs[j * 4 + 3]? = some (.slice (some ⟨u j, 0, none⟩) fs[j].table.length fs[j].table.length)
theorem FuRow.step {xs : List Value} {m u : Nat → Nat} {fs : List Fu} {k : Nat} (h : FuRow xs m u fs k) (hk : k < fs.length) :
    FuRow ((((xs.set (k * 4) (.string fs[k].name)).set (k * 4 + 1) (.slice (some ⟨m k, 0, none⟩) fs[k].args.length fs[k].args.length)).set (k * 4 + 2) (.int .i64 fs[k].res)).set (k * 4 + 3) (.slice (some ⟨u k, 0, none⟩) fs[k].table.length fs[k].table.length)) m u fs (k + 1) := by
  refine ⟨by simp [h.1], fun j hj hjl => ?_⟩
  have hl := h.1
  by_cases e : j = k
  · subst e
    refine ⟨?_, ?_, ?_, ?_⟩
    · rw [List.getElem?_set_ne (by omega), List.getElem?_set_ne (by omega), List.getElem?_set_ne (by omega), List.getElem?_set_self (by omega)]
    · rw [List.getElem?_set_ne (by omega), List.getElem?_set_ne (by omega), List.getElem?_set_self (by simp; omega)]
    · rw [List.getElem?_set_ne (by omega), List.getElem?_set_self (by simp; omega)]
    · rw [List.getElem?_set_self (by simp; omega)]
  · obtain ⟨a, b, c, d⟩ := h.2 j (by omega) hjl
    refine ⟨?_, ?_, ?_, ?_⟩
    · rw [List.getElem?_set_ne (by omega), List.getElem?_set_ne (by omega), List.getElem?_set_ne (by omega), List.getElem?_set_ne (by omega), a]
    · rw [List.getElem?_set_ne (by omega), List.getElem?_set_ne (by omega), List.getElem?_set_ne (by omega), List.getElem?_set_ne (by omega), b]
    · rw [List.getElem?_set_ne (by omega), List.getElem?_set_ne (by omega), List.getElem?_set_ne (by omega), List.getElem?_set_ne (by omega), c]
    · rw [List.getElem?_set_ne (by omega), List.getElem?_set_ne (by omega), List.getElem?_set_ne (by omega), List.getElem?_set_ne (by omega), d]

/-- Every number of these functions fits an int, every name is short. -/
def Fu.fits (f : Fu) : Prop := f.name.size ≤ maxLen ∧ I64 f.res ∧ (∀ z ∈ f.args, I64 z) ∧ ∀ z ∈ f.table, I64 z
def Sy.fits (y : Sy) : Prop := y.ty.fits ∧ ∀ j, ∀ (hj : j < y.fs.length), y.fs[j].fits
theorem FuAt.fits {w : World} {lo hi : Nat} {x a r t : Value} {f : Fu} (h : FuAt w lo hi x a r t f) : f.fits := by
  obtain ⟨_, _, h1, h2, ⟨_, _, _, _, _, h3, _⟩, ⟨_, _, _, _, _, h4, _⟩⟩ := h
  exact ⟨h1, h2, h3, h4⟩
theorem SyAt.fits {w : World} {lo hi : Nat} {s c v : Value} {y : Sy} (h : SyAt w lo hi s c v y) : y.fits := by
  obtain ⟨h1, h2⟩ := h
  obtain ⟨A, cap, rfl, _, _, h2⟩ := h2.form
  refine ⟨h1.fits, fun j hj => ?_⟩
  obtain ⟨_, _, _, _, _, _, _, _, _, _, _, _, _, _, _, _, _, h⟩ := h2.at_ hj
  exact h.fits

/-- A row of functions reads as these. -/
theorem Row.fus {w : World} {g : Nat} {t ti : TypeId} {xs : List Value} {m u : Nat → Nat} {fs : List Fu} {lo hi cap : Nat} (h : Row w g t xs) (hx : FuRow xs m u fs fs.length) (hw : ∀ j, ∀ (hj : j < fs.length), fs[j].fits)
    (hm : ∀ j, ∀ (hj : j < fs.length), Row w (m j) ti (fs[j].args.map (Value.int .i64)) ∧ lo ≤ m j ∧ m j < hi ∧ fs[j].args.length ≤ maxLen)
    (hu : ∀ j, ∀ (hj : j < fs.length), Row w (u j) ti (fs[j].table.map (Value.int .i64)) ∧ lo ≤ u j ∧ u j < hi ∧ fs[j].table.length ≤ maxLen) (hl : lo ≤ g) (hh : g < hi) (hc : fs.length ≤ cap) (hcm : cap ≤ maxLen) :
    FusAt w lo hi (.slice (some ⟨g, 0, none⟩) fs.length cap) fs := by
  refine ⟨_, _, rfl, hc, hcm, fun _ => ⟨g, 0, rfl, hl, hh, fun k hk => ?_⟩⟩
  obtain ⟨a, b, c, d⟩ := hx.2 k hk hk
  obtain ⟨hr, h1, h2, h3⟩ := hm k hk
  obtain ⟨hr', h1', h2', h3'⟩ := hu k hk
  obtain ⟨i0, i1, i2, i3⟩ := hw k hk
  rw [List.getD_eq_getElem?_getD, List.getElem?_eq_getElem hk]
  refine ⟨_, _, _, _, ?_, ?_, ?_, ?_, rfl, rfl, i0, i1, hr.ints i2 h1 h2 (Nat.le_refl _) h3, hr'.ints i3 h1' h2' (Nat.le_refl _) h3'⟩
  · rw [Nat.zero_add, h.cell, a]; rfl
  · rw [Nat.zero_add, h.cell, b]
  · rw [Nat.zero_add, h.cell, c]; rfl
  · rw [Nat.zero_add, h.cell, d]

/-- Functions in new memory as the copying lays them: the row in block g, the j-th arguments in block g + 4 + 5 j, the j-th table in the next one. -/
def NewFus (w : World) (ti tf : TypeId) (g : Nat) (fs : List Fu) : Prop :=
  (∃ xs, Row w g tf xs ∧ FuRow xs (fun j => g + 1 + 5 * j + 3) (fun j => g + 1 + 5 * j + 4) fs fs.length) ∧
    ∀ j, ∀ (hj : j < fs.length), Row w (g + 1 + 5 * j + 3) ti (fs[j].args.map (Value.int .i64)) ∧ Row w (g + 1 + 5 * j + 4) ti (fs[j].table.map (Value.int .i64))
theorem NewFus.keep {w w' : World} {ti tf : TypeId} {g : Nat} {fs : List Fu} (h : NewFus w ti tf g fs) (hk : ∀ k, g ≤ k → k < g + 1 + 5 * fs.length → w'.heap[k]? = w.heap[k]?) : NewFus w' ti tf g fs := by
  obtain ⟨⟨xs, h2, h3⟩, h4⟩ := h
  exact ⟨⟨xs, h2.keep (hk _ (by omega) (by omega)), h3⟩, fun j hj => ⟨(h4 j hj).1.keep (hk _ (by omega) (by omega)), (h4 j hj).2.keep (hk _ (by omega) (by omega))⟩⟩
theorem NewFus.at_ {w : World} {ti tf : TypeId} {g : Nat} {fs : List Fu} (h : NewFus w ti tf g fs) (hf : ∀ j, ∀ (hj : j < fs.length), fs[j].fits) (hb : fs.length ≤ 1048576) (hw : ∀ j, ∀ (hj : j < fs.length), fs[j].weight ≤ 1048576) :
    FusAt w g (g + 1 + 5 * fs.length) (.slice (some ⟨g, 0, none⟩) fs.length fs.length) fs := by
  obtain ⟨⟨xs, h2, h3⟩, h4⟩ := h
  refine h2.fus (ti := ti) h3 hf (fun j hj => ⟨(h4 j hj).1, by omega, by omega, ?_⟩) (fun j hj => ⟨(h4 j hj).2, by omega, by omega, ?_⟩) (Nat.le_refl _) (by omega) (Nat.le_refl _) (by unfold maxLen; omega)
  · have := hw j hj; unfold Fu.weight at this; unfold maxLen; omega
  · have := hw j hj; unfold Fu.weight at this; unfold maxLen; omega
/-- A system in new memory as the copying lays it. -/
def NewSy (w : World) (ti tc tf : TypeId) (g : Nat) (y : Sy) : Prop := NewTy w ti tc g y.ty ∧ NewFus w ti tf (g + 2 + 4 * y.ty.cos.length) y.fs
theorem NewSy.keep {w w' : World} {ti tc tf : TypeId} {g : Nat} {y : Sy} (h : NewSy w ti tc tf g y) (hk : ∀ k, g ≤ k → k < g + 3 + 4 * y.ty.cos.length + 5 * y.fs.length → w'.heap[k]? = w.heap[k]?) : NewSy w' ti tc tf g y :=
  ⟨h.1.keep fun k h1 h2 => hk k h1 (by omega), h.2.keep fun k h1 h2 => hk k (by omega) (by omega)⟩
theorem NewSy.below {w w' : World} {ti tc tf : TypeId} {g : Nat} {y : Sy} {B : Nat} (h : NewSy w ti tc tf g y) (hb : Below B w w') (hB : g + 3 + 4 * y.ty.cos.length + 5 * y.fs.length ≤ B) : NewSy w' ti tc tf g y := h.keep fun k _ hk => hb.block k (by omega)
theorem NewSy.at_ {w : World} {ti tc tf : TypeId} {g : Nat} {y : Sy} (h : NewSy w ti tc tf g y) (hf : y.fits) (hb : y.bulk ≤ 1048576) :
    SyAt w g (g + 3 + 4 * y.ty.cos.length + 5 * y.fs.length) (.slice (some ⟨g, 0, none⟩) y.ty.sizes.length y.ty.sizes.length) (.slice (some ⟨g + 1, 0, none⟩) y.ty.cos.length y.ty.cos.length) (.slice (some ⟨g + 2 + 4 * y.ty.cos.length, 0, none⟩) y.fs.length y.fs.length) y := by
  have hb' := hb
  unfold Sy.bulk at hb'
  exact ⟨(h.1.at_ hf.1 (by omega)).more (Nat.le_refl _) (by omega), (h.2.at_ hf.2 (by omega) fun j hj => Nat.le_trans (y.fu_le j hj) hb).more (by omega) (by omega)⟩

/-- A box of three cells that the call made first, seen from a later world. -/
theorem box3 {w wk : World} {a b c : Value} {t : TypeId} (h : Below (w.heap.size + 1) (w.alloc (.cells #[a, b, c] t)) wk) :
    wk.cell? ⟨w.heap.size, 0, none⟩ = some a ∧ wk.cell? ⟨w.heap.size, 1, none⟩ = some b ∧ wk.cell? ⟨w.heap.size, 2, none⟩ = some c ∧ w.heap.size < wk.heap.size ∧ Below w.heap.size w wk := by
  have hs := h.size
  simp only [World.size_alloc] at hs
  refine ⟨(h.cell (p := ⟨w.heap.size, 0, none⟩) (by dsimp only; omega)).trans ?_, (h.cell (p := ⟨w.heap.size, 1, none⟩) (by dsimp only; omega)).trans ?_, (h.cell (p := ⟨w.heap.size, 2, none⟩) (by dsimp only; omega)).trans ?_, by omega, ((Below.refl _ _).alloc (Nat.le_refl _) _).trans (h.mono (by omega))⟩
  · simp [go_sem]
  · simp [go_sem]
  · simp [go_sem]
end Go.Proofs.YtfcekbjoagogdaaDoor
