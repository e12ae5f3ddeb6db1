/-
  Words for memory: a slice value that reads as a list of numbers, a slice of coercions, types. Nothing here speaks of the program.
-/
import Derived.WalkKit
import Derived.Lib.Hide
import Derived.Deep.QuietTactic
namespace Go.Proofs.Ytplpnammboofiaa
open Go.RowKit

theorem ret_int {k : IntKind} {a b : Int} (h : a = b) : Ending.returned (.int k a) = .returned (.int k b) := by rw [h]
theorem ret_bool {a b : Bool} (h : a = b) : Ending.returned (.bool a) = .returned (.bool b) := by rw [h]
theorem below_drewN {B : Nat} {a w : World} (h : Below B a w) (n : Nat) : Below B a (w.drewN n) := ⟨h.os, h.tape, h.output, h.size, h.block⟩
/-- A contract that leaves the world alone, inside a region that draws. -/
theorem quiet_eq {P : Program} {f : FuncId} {args : Array Value} {w : World} {n : Nat} {v : Value} (h : Calls P f args (w.drewN n) fun e w' => e = .returned v ∧ w.drewN n = w') :
    Calls P f args (w.drewN n) fun e w' => e = .returned v ∧ ∃ m, w' = w.drewN m := h.mono fun _ _ ⟨he, hw⟩ => ⟨he, n, hw.symm⟩

/-- A coercion and types, as plain data. -/
structure Co where
  src : Int
  dst : Int
  map : List Int
structure Ty where
  sizes : List Int
  cos : List Co

instance : Inhabited Co := ⟨⟨0, 0, []⟩⟩

/-- A number that an int can hold. -/
def I64 (z : Int) : Prop := -9223372036854775808 ≤ z ∧ z ≤ 9223372036854775807

/-- The slice value v reads as the numbers zs; its cells, if any, lie in one block from lo on and below hi. -/
def IntsAt (w : World) (lo hi : Nat) (v : Value) (zs : List Int) : Prop :=
  ∃ (A : Option Addr) (cap : Nat), v = .slice A zs.length cap ∧ zs.length ≤ cap ∧ cap ≤ maxLen ∧ (∀ z ∈ zs, I64 z) ∧
    (0 < zs.length → ∃ b off, A = some ⟨b, off, none⟩ ∧ lo ≤ b ∧ b < hi ∧ ∀ k, k < zs.length → w.cell? ⟨b, off + k, none⟩ = some (.int .i64 (zs.getD k 0)))

/-- The coercion value reads as c. -/
def CoAt (w : World) (lo hi : Nat) (x y z : Value) (c : Co) : Prop :=
  x = .int .i64 c.src ∧ y = .int .i64 c.dst ∧ I64 c.src ∧ I64 c.dst ∧ IntsAt w lo hi z c.map

def CosAt (w : World) (lo hi : Nat) (v : Value) (cs : List Co) : Prop :=
  ∃ (A : Option Addr) (cap : Nat), v = .slice A cs.length cap ∧ cs.length ≤ cap ∧ cap ≤ maxLen ∧
    (0 < cs.length → ∃ b off, A = some ⟨b, off, none⟩ ∧ lo ≤ b ∧ b < hi ∧ ∀ k, k < cs.length → ∃ x y z,
      w.cell? ⟨b, off + k * 3, none⟩ = some x ∧ w.cell? ⟨b, off + k * 3 + 1, none⟩ = some y ∧ w.cell? ⟨b, off + k * 3 + 2, none⟩ = some z ∧ CoAt w lo hi x y z (cs.getD k default))

def TyAt (w : World) (lo hi : Nat) (s c : Value) (t : Ty) : Prop := IntsAt w lo hi s t.sizes ∧ CosAt w lo hi c t.cos

/-- Blocks of the set S hold what they held; no block has gone. -/
structure Kept (S : Nat → Prop) (w w' : World) : Prop where
  os : w'.os = w.os
  tape : w'.tape = w.tape
  output : w'.output = w.output
  size : w.heap.size ≤ w'.heap.size
  block : ∀ k, k < w.heap.size → S k → w'.heap[k]? = w.heap[k]?

section
variable {w w' w'' : World} {lo hi lo' hi' : Nat} {v x y z s c : Value} {zs : List Int} {cs : List Co} {co : Co} {t : Ty}

theorem Kept.of_below {B : Nat} (h : Below B w w') : Kept (· < B) w w' := ⟨h.os, h.tape, h.output, h.size, fun k _ hk => h.block k hk⟩
theorem Kept.trans {S : Nat → Prop} (h : Kept S w w') (k : Kept S w' w'') : Kept S w w'' :=
  ⟨k.os.trans h.os, k.tape.trans h.tape, k.output.trans h.output, Nat.le_trans h.size k.size, fun i hi hS => (k.block i (Nat.lt_of_lt_of_le hi h.size) hS).trans (h.block i hi hS)⟩

theorem IntsAt.keep (h : IntsAt w lo hi v zs) (hk : ∀ k, lo ≤ k → k < hi → w'.heap[k]? = w.heap[k]?) : IntsAt w' lo hi v zs := by
  obtain ⟨A, cap, e, h1, h2, h3, h4⟩ := h
  refine ⟨A, cap, e, h1, h2, h3, fun h0 => ?_⟩
  obtain ⟨b, off, hA, hl, hh, hc⟩ := h4 h0
  exact ⟨b, off, hA, hl, hh, fun k hkk => (World.cell?_of_block (w := w) (hk b hl hh)).trans (hc k hkk)⟩
theorem CoAt.keep (h : CoAt w lo hi x y z co) (hk : ∀ k, lo ≤ k → k < hi → w'.heap[k]? = w.heap[k]?) : CoAt w' lo hi x y z co :=
  ⟨h.1, h.2.1, h.2.2.1, h.2.2.2.1, h.2.2.2.2.keep hk⟩
theorem CosAt.keep (h : CosAt w lo hi v cs) (hk : ∀ k, lo ≤ k → k < hi → w'.heap[k]? = w.heap[k]?) : CosAt w' lo hi v cs := by
  obtain ⟨A, cap, e, h1, h2, h4⟩ := h
  refine ⟨A, cap, e, h1, h2, fun h0 => ?_⟩
  obtain ⟨b, off, hA, hl, hh, hc⟩ := h4 h0
  refine ⟨b, off, hA, hl, hh, fun k hkk => ?_⟩
  obtain ⟨x, y, z, c0, c1, c2, hco⟩ := hc k hkk
  have e := hk b hl hh
  exact ⟨x, y, z, (World.cell?_of_block (w := w) e).trans c0, (World.cell?_of_block (w := w) e).trans c1, (World.cell?_of_block (w := w) e).trans c2, hco.keep hk⟩
theorem TyAt.keep (h : TyAt w lo hi s c t) (hk : ∀ k, lo ≤ k → k < hi → w'.heap[k]? = w.heap[k]?) : TyAt w' lo hi s c t := ⟨h.1.keep hk, h.2.keep hk⟩

theorem IntsAt.below {B : Nat} (h : IntsAt w lo hi v zs) (hb : Below B w w') (hB : hi ≤ B) : IntsAt w' lo hi v zs := h.keep fun k _ hk => hb.block k (by omega)
theorem CoAt.below {B : Nat} (h : CoAt w lo hi x y z co) (hb : Below B w w') (hB : hi ≤ B) : CoAt w' lo hi x y z co := h.keep fun k _ hk => hb.block k (by omega)
theorem CosAt.below {B : Nat} (h : CosAt w lo hi v cs) (hb : Below B w w') (hB : hi ≤ B) : CosAt w' lo hi v cs := h.keep fun k _ hk => hb.block k (by omega)
theorem TyAt.below {B : Nat} (h : TyAt w lo hi s c t) (hb : Below B w w') (hB : hi ≤ B) : TyAt w' lo hi s c t := h.keep fun k _ hk => hb.block k (by omega)

theorem IntsAt.more (h : IntsAt w lo hi v zs) (h1 : lo' ≤ lo) (h2 : hi ≤ hi') : IntsAt w lo' hi' v zs := by
  obtain ⟨A, cap, e, a1, a2, a3, a4⟩ := h
  refine ⟨A, cap, e, a1, a2, a3, fun h0 => ?_⟩
  obtain ⟨b, off, hA, hl, hh, hc⟩ := a4 h0
  exact ⟨b, off, hA, by omega, by omega, hc⟩
theorem CoAt.more (h : CoAt w lo hi x y z co) (h1 : lo' ≤ lo) (h2 : hi ≤ hi') : CoAt w lo' hi' x y z co := ⟨h.1, h.2.1, h.2.2.1, h.2.2.2.1, h.2.2.2.2.more h1 h2⟩
theorem CosAt.more (h : CosAt w lo hi v cs) (h1 : lo' ≤ lo) (h2 : hi ≤ hi') : CosAt w lo' hi' v cs := by
  obtain ⟨A, cap, e, a1, a2, a4⟩ := h
  refine ⟨A, cap, e, a1, a2, fun h0 => ?_⟩
  obtain ⟨b, off, hA, hl, hh, hc⟩ := a4 h0
  refine ⟨b, off, hA, by omega, by omega, fun k hk => ?_⟩
  obtain ⟨x, y, z, c0, c1, c2, hco⟩ := hc k hk
  exact ⟨x, y, z, c0, c1, c2, hco.more h1 h2⟩
theorem TyAt.more (h : TyAt w lo hi s c t) (h1 : lo' ≤ lo) (h2 : hi ≤ hi') : TyAt w lo' hi' s c t := ⟨h.1.more h1 h2, h.2.more h1 h2⟩

theorem IntsAt.form (h : IntsAt w lo hi v zs) : ∃ (A : Option Addr) (cap : Nat), v = .slice A zs.length cap ∧ zs.length ≤ cap ∧ cap ≤ maxLen ∧ IntsAt w lo hi (.slice A zs.length cap) zs := by
  obtain ⟨A, cap, rfl, h1, h2, h3⟩ := h
  exact ⟨A, cap, rfl, h1, h2, A, cap, rfl, h1, h2, h3⟩
theorem CosAt.form (h : CosAt w lo hi v cs) : ∃ (A : Option Addr) (cap : Nat), v = .slice A cs.length cap ∧ cs.length ≤ cap ∧ cap ≤ maxLen ∧ CosAt w lo hi (.slice A cs.length cap) cs := by
  obtain ⟨A, cap, rfl, h1, h2, h3⟩ := h
  exact ⟨A, cap, rfl, h1, h2, A, cap, rfl, h1, h2, h3⟩
/-- The k-th coercion's cells, and what they read as. -/
theorem CosAt.at_ {A : Option Addr} {n cap k : Nat} (h : CosAt w lo hi (.slice A n cap) cs) (hk : k < cs.length) :
    ∃ (b off : Nat) (A2 : Option Addr) (cap2 : Nat), A = some ⟨b, off, none⟩ ∧ lo ≤ b ∧ b < hi ∧ w.cell? ⟨b, off + k * 3, none⟩ = some (.int .i64 cs[k].src) ∧ w.cell? ⟨b, off + k * 3 + 1, none⟩ = some (.int .i64 cs[k].dst) ∧
      w.cell? ⟨b, off + k * 3 + 2, none⟩ = some (.slice A2 cs[k].map.length cap2) ∧ cs[k].map.length ≤ cap2 ∧ cap2 ≤ maxLen ∧ I64 cs[k].src ∧ I64 cs[k].dst ∧ IntsAt w lo hi (.slice A2 cs[k].map.length cap2) cs[k].map := by
  obtain ⟨A', cap', e, _, _, h4⟩ := h
  injection e with eA
  subst eA
  obtain ⟨b, off, hA, hl, hh, hc⟩ := h4 (by omega)
  obtain ⟨x, y, z, c0, c1, c2, rfl, rfl, hs, hd, hz⟩ := hc k hk
  rw [List.getD_eq_getElem?_getD, List.getElem?_eq_getElem hk] at c0 c1 hs hd hz
  obtain ⟨A2, cap2, rfl, h1, h2, hz2⟩ := hz.form
  exact ⟨b, off, A2, cap2, hA, hl, hh, c0, c1, c2, h1, h2, hs, hd, hz2⟩
theorem IntsAt.at_ {A : Option Addr} {n cap k : Nat} (h : IntsAt w lo hi (.slice A n cap) zs) (hk : k < zs.length) :
    ∃ (b off : Nat), A = some ⟨b, off, none⟩ ∧ lo ≤ b ∧ b < hi ∧ w.cell? ⟨b, off + k, none⟩ = some (.int .i64 zs[k]) ∧ I64 zs[k] := by
  obtain ⟨A', cap', e, _, _, hw, h4⟩ := h
  injection e with eA
  subst eA
  obtain ⟨b, off, hA, hl, hh, hc⟩ := h4 (by omega)
  have c0 := hc k hk
  rw [List.getD_eq_getElem?_getD, List.getElem?_eq_getElem hk] at c0
  exact ⟨b, off, hA, hl, hh, c0, hw _ (List.getElem_mem hk)⟩
theorem getD_mem_of_lt {α : Type} {l : List α} {k : Nat} {d : α} (h : k < l.length) : l.getD k d ∈ l := by
  rw [List.getD_eq_getElem?_getD, List.getElem?_eq_getElem h]
  exact List.getElem_mem h
end
/-- How many numbers the maps of the first k coercions hold together. -/
def mapsLen (cs : List Co) (k : Nat) : Nat := ((cs.take k).map fun c => c.map.length).sum
theorem mapsLen_zero (cs : List Co) : mapsLen cs 0 = 0 := by simp [mapsLen]
theorem mapsLen_succ (cs : List Co) (k : Nat) (h : k < cs.length) : mapsLen cs (k + 1) = mapsLen cs k + (cs.getD k default).map.length := by
  unfold mapsLen
  rw [List.take_succ_eq_append_getElem h, List.map_append, List.sum_append, List.getD_eq_getElem?_getD, List.getElem?_eq_getElem h]
  rfl
theorem mapsLen_mono (cs : List Co) (k : Nat) : mapsLen cs k ≤ mapsLen cs cs.length := by
  unfold mapsLen
  have e : cs.take cs.length = cs.take k ++ cs.drop k := by rw [List.take_length, List.take_append_drop]
  rw [e, List.map_append, List.sum_append]
  omega
/-- How many values types hold. -/
def Ty.bulk (t : Ty) : Nat := t.sizes.length + t.cos.length + mapsLen t.cos t.cos.length
/-- What lies below B reads as before: two rules for the walk. -/
theorem bcell {B : Nat} {w w' : World} (hb : Below B w w') : (∀ b o, b < B → w'.cell? ⟨b, o, none⟩ = w.cell? ⟨b, o, none⟩) ∧ (∀ b o, b < B → w'.frozen? ⟨b, o, none⟩ = w.frozen? ⟨b, o, none⟩) :=
  ⟨fun b o h => hb.cell (p := ⟨b, o, none⟩) h, fun b o h => hb.frozen (p := ⟨b, o, none⟩) h⟩

/-- Block g is just the cells xs of element type t; none is frozen. -/
def Row (w : World) (g : Nat) (t : TypeId) (xs : List Value) : Prop := w.heap[g]? = some (.cells xs.toArray t (0, 0))

section
variable {w w' : World} {g : Nat} {t : TypeId} {xs : List Value}
theorem Row.lt (h : Row w g t xs) : g < w.heap.size := by
  rcases Nat.lt_or_ge g w.heap.size with hlt | hge
  · exact hlt
  · unfold Row at h; rw [Array.getElem?_eq_none hge] at h; cases h
theorem Row.cell (h : Row w g t xs) (i : Nat) : w.cell? ⟨g, i, none⟩ = xs[i]? := by
  unfold Row at h
  simp [World.cell?, h]
theorem Row.cell_some (h : Row w g t xs) {i : Nat} (hi : i < xs.length) : w.cell? ⟨g, i, none⟩ = some xs[i] := by rw [h.cell, List.getElem?_eq_getElem hi]
theorem Row.frozen (h : Row w g t xs) (i : Nat) : w.frozen? ⟨g, i, none⟩ = false := by
  unfold Row at h
  simp [World.frozen?, h]
theorem Row.new (w : World) (t : TypeId) (xs : List Value) : Row (w.alloc (.cells xs.toArray t)) w.heap.size t xs := heap_alloc_new w _
theorem Row.alloc (h : Row w g t xs) (o : Obj) : Row (w.alloc o) g t xs := (Below.heap_alloc w o g h.lt).trans h
theorem Row.drew (h : Row w g t xs) : Row w.drew g t xs := h
theorem Row.set_ (h : Row w g t xs) (i : Nat) (u : Value) : Row (w.setCell ⟨g, i, none⟩ u) g t (xs.set i u) := by
  unfold Row at h ⊢
  simp [World.setCell, Array.getElem?_modify, h]
theorem Row.far (h : Row w g t xs) {p : Addr} (hp : g ≠ p.block) (u : Value) : Row (w.setCell p u) g t xs := (Below.heap_setCell w p u g hp).trans h
theorem Row.keep (h : Row w g t xs) (hk : w'.heap[g]? = w.heap[g]?) : Row w' g t xs := hk.trans h
theorem Row.below {B : Nat} (h : Row w g t xs) (hb : Below B w w') (hg : g < B) : Row w' g t xs := (hb.block g hg).trans h
end

theorem getD_set_self {xs : List Value} {i : Nat} {u : Value} (h : i < xs.length) : (xs.set i u)[i]? = some u := by
  rw [List.getElem?_set_self h]

/-- One more element of a row that is filled from the left. -/
theorem fill_step {α : Type} (f : α → Value) (zs : List α) (z : Value) (k : Nat) (h : k < zs.length) :
    ((zs.take k).map f ++ List.replicate (zs.length - k) z).set k (f zs[k]) = (zs.take (k + 1)).map f ++ List.replicate (zs.length - (k + 1)) z := by
  have hl : ((zs.take k).map f).length = k := by simp; omega
  have hr : zs.length - k = (zs.length - (k + 1)) + 1 := by omega
  rw [List.set_append_right _ _ (by omega), hl, Nat.sub_self, hr, List.replicate_succ, List.set_cons_zero, List.take_succ_eq_append_getElem h, List.map_append, List.append_assoc]
  rfl
theorem madeCells_one (z : Value) (n : Nat) : madeCells #[z] n = (List.replicate n z).toArray := by
  have h := toList_madeCells_one z n
  rw [← h]
theorem fill_zero {α : Type} (f : α → Value) (zs : List α) (z : Value) : (zs.take 0).map f ++ List.replicate (zs.length - 0) z = List.replicate zs.length z := by simp
theorem fill_all {α : Type} (f : α → Value) (zs : List α) (z : Value) : (zs.take zs.length).map f ++ List.replicate (zs.length - zs.length) z = zs.map f := by simp
theorem fill_len {α : Type} (f : α → Value) (zs : List α) (z : Value) (k : Nat) (h : k ≤ zs.length) : ((zs.take k).map f ++ List.replicate (zs.length - k) z).length = zs.length := by
  simp; omega

/-- A row of numbers reads as these. -/
theorem Row.ints {w : World} {g : Nat} {t : TypeId} {zs : List Int} {lo hi cap : Nat} (h : Row w g t (zs.map (Value.int .i64))) (hw : ∀ z ∈ zs, I64 z) (hl : lo ≤ g) (hh : g < hi) (hc : zs.length ≤ cap) (hm : cap ≤ maxLen) :
    IntsAt w lo hi (.slice (some ⟨g, 0, none⟩) zs.length cap) zs := by
  refine ⟨_, _, rfl, hc, hm, hw, fun _ => ⟨g, 0, rfl, hl, hh, fun k hk => ?_⟩⟩
  rw [Nat.zero_add, h.cell, List.getElem?_map, List.getElem?_eq_getElem hk, List.getD_eq_getElem?_getD, List.getElem?_eq_getElem hk]
  rfl

/-- The cells of the first k coercions; the map of the j-th lies at the head of block m j. -/
def CoRow (xs : List Value) (m : Nat → Nat) (cs : List Co) (k : Nat) : Prop :=
  xs.length = cs.length * 3 ∧ ∀ j, j < k → ∀ (hj : j < cs.length), xs[j * 3]? = some (.int .i64 cs[j].src) ∧ xs[j * 3 + 1]? = some (.int .i64 cs[j].dst) ∧ xs[j * 3 + 2]? = some (.slice (some ⟨m j, 0, none⟩) cs[j].map.length cs[j].map.length)
theorem CoRow.step {xs : List Value} {m : Nat → Nat} {cs : List Co} {k : Nat} (h : CoRow xs m cs k) (hk : k < cs.length) :
    CoRow (((xs.set (k * 3) (.int .i64 cs[k].src)).set (k * 3 + 1) (.int .i64 cs[k].dst)).set (k * 3 + 2) (.slice (some ⟨m k, 0, none⟩) cs[k].map.length cs[k].map.length)) m cs (k + 1) := by
  refine ⟨by simp [h.1], fun j hj hjl => ?_⟩
  have hl := h.1
  by_cases e : j = k
  · subst e
    refine ⟨?_, ?_, ?_⟩
    · rw [List.getElem?_set_ne (by omega), List.getElem?_set_ne (by omega), List.getElem?_set_self (by omega)]
    · rw [List.getElem?_set_ne (by omega), List.getElem?_set_self (by simp; omega)]
    · rw [List.getElem?_set_self (by simp; omega)]
  · obtain ⟨a, b, c⟩ := h.2 j (by omega) hjl
    refine ⟨?_, ?_, ?_⟩
    · rw [List.getElem?_set_ne (by omega), List.getElem?_set_ne (by omega), List.getElem?_set_ne (by omega), a]
    · rw [List.getElem?_set_ne (by omega), List.getElem?_set_ne (by omega), List.getElem?_set_ne (by omega), b]
    · rw [List.getElem?_set_ne (by omega), List.getElem?_set_ne (by omega), List.getElem?_set_ne (by omega), c]

/-- A row of coercions reads as these. -/
theorem Row.cos {w : World} {g : Nat} {t ti : TypeId} {xs : List Value} {m : Nat → Nat} {cs : List Co} {lo hi cap : Nat} (h : Row w g t xs) (hx : CoRow xs m cs cs.length) (hw : ∀ j, ∀ (hj : j < cs.length), I64 cs[j].src ∧ I64 cs[j].dst ∧ ∀ z ∈ cs[j].map, I64 z)
    (hm : ∀ j, ∀ (hj : j < cs.length), Row w (m j) ti (cs[j].map.map (Value.int .i64)) ∧ lo ≤ m j ∧ m j < hi ∧ cs[j].map.length ≤ maxLen) (hl : lo ≤ g) (hh : g < hi) (hc : cs.length ≤ cap) (hcm : cap ≤ maxLen) :
    CosAt w lo hi (.slice (some ⟨g, 0, none⟩) cs.length cap) cs := by
  refine ⟨_, _, rfl, hc, hcm, fun _ => ⟨g, 0, rfl, hl, hh, fun k hk => ?_⟩⟩
  obtain ⟨a, b, c⟩ := hx.2 k hk hk
  obtain ⟨hr, h1, h2, h3⟩ := hm k hk
  obtain ⟨i1, i2, i3⟩ := hw k hk
  rw [List.getD_eq_getElem?_getD, List.getElem?_eq_getElem hk]
  refine ⟨_, _, _, ?_, ?_, ?_, rfl, rfl, i1, i2, hr.ints i3 h1 h2 (Nat.le_refl _) h3⟩
  · rw [Nat.zero_add, h.cell, a]; rfl
  · rw [Nat.zero_add, h.cell, b]; rfl
  · rw [Nat.zero_add, h.cell, c]

/-- Every number of these types fits an int. -/
def Ty.fits (t : Ty) : Prop := (∀ z ∈ t.sizes, I64 z) ∧ ∀ j, ∀ (hj : j < t.cos.length), I64 t.cos[j].src ∧ I64 t.cos[j].dst ∧ ∀ z ∈ t.cos[j].map, I64 z
theorem TyAt.fits {w : World} {lo hi : Nat} {s c : Value} {t : Ty} (h : TyAt w lo hi s c t) : t.fits := by
  obtain ⟨⟨_, _, _, _, _, hw, _⟩, hc⟩ := h
  obtain ⟨A, cap, rfl, _, _, hc⟩ := hc.form
  refine ⟨hw, fun j hj => ?_⟩
  obtain ⟨_, _, _, _, _, _, _, _, _, _, _, _, hs, hd, ⟨_, _, _, _, _, hz, _⟩⟩ := hc.at_ hj
  exact ⟨hs, hd, hz⟩
theorem Ty.map_le (t : Ty) (j : Nat) (hj : j < t.cos.length) : t.cos[j].map.length ≤ t.bulk := by
  have h1 := mapsLen_succ t.cos j hj
  have h2 := mapsLen_mono t.cos (j + 1)
  rw [List.getD_eq_getElem?_getD, List.getElem?_eq_getElem hj] at h1
  simp only [Option.getD_some] at h1
  unfold Ty.bulk
  omega

/-- Types in new memory as the copying lays them: the sizes in block g, the coercions in block g + 1, the j-th map in block g + 5 + 4 j. -/
def NewTy (w : World) (ti tc : TypeId) (g : Nat) (t : Ty) : Prop :=
  Row w g ti (t.sizes.map (Value.int .i64)) ∧ (∃ xs, Row w (g + 1) tc xs ∧ CoRow xs (fun j => g + 1 + 1 + 4 * j + 3) t.cos t.cos.length) ∧
    ∀ j, ∀ (hj : j < t.cos.length), Row w (g + 1 + 1 + 4 * j + 3) ti (t.cos[j].map.map (Value.int .i64))
theorem NewTy.keep {w w' : World} {ti tc : TypeId} {g : Nat} {t : Ty} (h : NewTy w ti tc g t) (hk : ∀ k, g ≤ k → k < g + 2 + 4 * t.cos.length → w'.heap[k]? = w.heap[k]?) : NewTy w' ti tc g t := by
  obtain ⟨h1, ⟨xs, h2, h3⟩, h4⟩ := h
  exact ⟨h1.keep (hk _ (by omega) (by omega)), ⟨xs, h2.keep (hk _ (by omega) (by omega)), h3⟩, fun j hj => (h4 j hj).keep (hk _ (by omega) (by omega))⟩
theorem NewTy.below {w w' : World} {ti tc : TypeId} {g : Nat} {t : Ty} {B : Nat} (h : NewTy w ti tc g t) (hb : Below B w w') (hB : g + 2 + 4 * t.cos.length ≤ B) : NewTy w' ti tc g t := h.keep fun k _ hk => hb.block k (by omega)
theorem NewTy.at_ {w : World} {ti tc : TypeId} {g : Nat} {t : Ty} (h : NewTy w ti tc g t) (hf : t.fits) (hb : t.bulk ≤ 1048576) :
    TyAt w g (g + 2 + 4 * t.cos.length) (.slice (some ⟨g, 0, none⟩) t.sizes.length t.sizes.length) (.slice (some ⟨g + 1, 0, none⟩) t.cos.length t.cos.length) t := by
  obtain ⟨h1, ⟨xs, h2, h3⟩, h4⟩ := h
  have hb' := hb
  unfold Ty.bulk at hb'
  refine ⟨h1.ints hf.1 (Nat.le_refl _) (by omega) (Nat.le_refl _) (by unfold maxLen; omega), h2.cos (ti := ti) h3 hf.2 (fun j hj => ⟨h4 j hj, by omega, by omega, ?_⟩) (by omega) (by omega) (Nat.le_refl _) (by unfold maxLen; omega)⟩
  have := t.map_le j hj
  unfold maxLen
  omega

/-- A box of two cells that the call made first, seen from a later world. -/
theorem box2 {w wk : World} {a b : Value} {t : TypeId} (h : Below (w.heap.size + 1) (w.alloc (.cells #[a, b] t)) wk) :
    wk.cell? ⟨w.heap.size, 0, none⟩ = some a ∧ wk.cell? ⟨w.heap.size, 1, none⟩ = some b ∧ w.heap.size < wk.heap.size ∧ Below w.heap.size w wk := by
  have hs := h.size
  simp only [World.size_alloc] at hs
  refine ⟨(h.cell (p := ⟨w.heap.size, 0, none⟩) (by dsimp only; omega)).trans ?_, (h.cell (p := ⟨w.heap.size, 1, none⟩) (by dsimp only; omega)).trans ?_, by omega, ((Below.refl _ _).alloc (Nat.le_refl _) _).trans (h.mono (by omega))⟩
  · simp [go_sem]
  · simp [go_sem]
end Go.Proofs.Ytplpnammboofiaa
