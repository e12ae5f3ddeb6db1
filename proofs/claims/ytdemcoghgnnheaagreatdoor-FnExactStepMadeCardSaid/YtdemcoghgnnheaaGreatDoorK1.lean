/-
  Words for memory: a slice value that reads as a list of numbers, a slice of coercions, types. Nothing here speaks of the program.
  The contracts of the functions that weigh an argument: they return what is left of the allowance, or -1.
  Words for memory: functions and systems. Nothing here speaks of the program.
  The contracts of the functions that weigh a function, some functions, a system.
  The contracts of the functions that copy an argument into new memory.
  The contracts of the functions that copy a function, some functions, a system into new memory.
  The contracts of the functions that compare: where both sides read as the same data, they return true.
  The contracts of the functions that compare functions and systems: where both sides read as the same data, they return true.
  What it is that types are valid, as a Bool function on plain data; the contracts of the model's functions that ask it.
  The texts of numbers, of coercions, of types; plain data only.
-/
import Derived.WalkKit
import Derived.Lib.Hide
import Derived.Deep.QuietTactic
import Derived.Test.YtdemcoghgnnheaaGreatDoorRows
import Derived.Outline
import Derived.Handy
import Derived.Deep.OwnRows
import Derived.BigQuiet
import Derived.StillTailTactics
import Derived.Deep.RegionWith
import Derived.Lib.Join
import Derived.Lib.ItoaNum
namespace Go.Proofs.YtdemcoghgnnheaaGreatDoor
open Go.RowKit

theorem ret_int {k : IntKind} {a b : Int} (h : a = b) : Ending.returned (.int k a) = .returned (.int k b) := by rw [h]
theorem ret_bool {a b : Bool} (h : a = b) : Ending.returned (.bool a) = .returned (.bool b) := by rw [h]
theorem below_drewN {B : Nat} {a w : World} (h : Below B a w) (n : Nat) : Below B a (w.drewN n) := ⟨h.os, h.tape, h.output, h.size, h.block⟩
/-- A contract that leaves the world alone, inside a region that draws. -/
theorem quiet_eq {P : Program} {f : FuncId} {args : Array Value} {w : World} {n : Nat} {v : Value} (h : Calls P f args (w.drewN n) fun e w' => e = .returned v ∧ w.drewN n = w') :
    Calls P f args (w.drewN n) fun e w' => e = .returned v ∧ ∃ m, w' = w.drewN m := h.mono fun _ _ ⟨he, hw⟩ => ⟨he, n, hw.symm⟩

/-- A coercion and types, as plain data. -/
structure Co where
  src : Int
  dst : Int
  map : List Int
structure Ty where
  sizes : List Int
  cos : List Co

instance : Inhabited Co := ⟨⟨0, 0, []⟩⟩

/-- A number that an int can hold. -/
def I64 (z : Int) : Prop := -9223372036854775808 ≤ z ∧ z ≤ 9223372036854775807

/-- The slice value v reads as the numbers zs; its cells, if any, lie in one block from lo on and below hi. -/
def IntsAt (w : World) (lo hi : Nat) (v : Value) (zs : List Int) : Prop :=
  ∃ (A : Option Addr) (cap : Nat), v = .slice A zs.length cap ∧ zs.length ≤ cap ∧ cap ≤ maxLen ∧ (∀ z ∈ zs, I64 z) ∧
    (0 < zs.length → ∃ b off, A = some ⟨b, off, none⟩ ∧ lo ≤ b ∧ b < hi ∧ ∀ k, k < zs.length → w.cell? ⟨b, off + k, none⟩ = some (.int .i64 (zs.getD k 0)))

/-- The coercion value reads as c. -/
def CoAt (w : World) (lo hi : Nat) (x y z : Value) (c : Co) : Prop :=
  x = .int .i64 c.src ∧ y = .int .i64 c.dst ∧ I64 c.src ∧ I64 c.dst ∧ IntsAt w lo hi z c.map

def CosAt (w : World) (lo hi : Nat) (v : Value) (cs : List Co) : Prop :=
  ∃ (A : Option Addr) (cap : Nat), v = .slice A cs.length cap ∧ cs.length ≤ cap ∧ cap ≤ maxLen ∧
    (0 < cs.length → ∃ b off, A = some ⟨b, off, none⟩ ∧ lo ≤ b ∧ b < hi ∧ ∀ k, k < cs.length → ∃ x y z,
      w.cell? ⟨b, off + k * 3, none⟩ = some x ∧ w.cell? ⟨b, off + k * 3 + 1, none⟩ = some y ∧ w.cell? ⟨b, off + k * 3 + 2, none⟩ = some z ∧ CoAt w lo hi x y z (cs.getD k default))

def TyAt (w : World) (lo hi : Nat) (s c : Value) (t : Ty) : Prop := IntsAt w lo hi s t.sizes ∧ CosAt w lo hi c t.cos

/-- Blocks of the set S hold what they held; no block has gone. -/
structure Kept (S : Nat → Prop) (w w' : World) : Prop where
  os : w'.os = w.os
  tape : w'.tape = w.tape
  output : w'.output = w.output
  size : w.heap.size ≤ w'.heap.size
  block : ∀ k, k < w.heap.size → S k → w'.heap[k]? = w.heap[k]?

section
variable {w w' w'' : World} {lo hi lo' hi' : Nat} {v x y z s c : Value} {zs : List Int} {cs : List Co} {co : Co} {t : Ty}

theorem Kept.of_below {B : Nat} (h : Below B w w') : Kept (· < B) w w' := ⟨h.os, h.tape, h.output, h.size, fun k _ hk => h.block k hk⟩
theorem Kept.trans {S : Nat → Prop} (h : Kept S w w') (k : Kept S w' w'') : Kept S w w'' :=
  ⟨k.os.trans h.os, k.tape.trans h.tape, k.output.trans h.output, Nat.le_trans h.size k.size, fun i hi hS => (k.block i (Nat.lt_of_lt_of_le hi h.size) hS).trans (h.block i hi hS)⟩

theorem IntsAt.keep (h : IntsAt w lo hi v zs) (hk : ∀ k, lo ≤ k → k < hi → w'.heap[k]? = w.heap[k]?) : IntsAt w' lo hi v zs := by
  obtain ⟨A, cap, e, h1, h2, h3, h4⟩ := h
  refine ⟨A, cap, e, h1, h2, h3, fun h0 => ?_⟩
  obtain ⟨b, off, hA, hl, hh, hc⟩ := h4 h0
  exact ⟨b, off, hA, hl, hh, fun k hkk => (World.cell?_of_block (w := w) (hk b hl hh)).trans (hc k hkk)⟩
theorem CoAt.keep (h : CoAt w lo hi x y z co) (hk : ∀ k, lo ≤ k → k < hi → w'.heap[k]? = w.heap[k]?) : CoAt w' lo hi x y z co :=
  ⟨h.1, h.2.1, h.2.2.1, h.2.2.2.1, h.2.2.2.2.keep hk⟩
theorem CosAt.keep (h : CosAt w lo hi v cs) (hk : ∀ k, lo ≤ k → k < hi → w'.heap[k]? = w.heap[k]?) : CosAt w' lo hi v cs := by
  obtain ⟨A, cap, e, h1, h2, h4⟩ := h
  refine ⟨A, cap, e, h1, h2, fun h0 => ?_⟩
  obtain ⟨b, off, hA, hl, hh, hc⟩ := h4 h0
  refine ⟨b, off, hA, hl, hh, fun k hkk => ?_⟩
  obtain ⟨x, y, z, c0, c1, c2, hco⟩ := hc k hkk
  have e := hk b hl hh
  exact ⟨x, y, z, (World.cell?_of_block (w := w) e).trans c0, (World.cell?_of_block (w := w) e).trans c1, (World.cell?_of_block (w := w) e).trans c2, hco.keep hk⟩
theorem TyAt.keep (h : TyAt w lo hi s c t) (hk : ∀ k, lo ≤ k → k < hi → w'.heap[k]? = w.heap[k]?) : TyAt w' lo hi s c t := ⟨h.1.keep hk, h.2.keep hk⟩

theorem IntsAt.below {B : Nat} (h : IntsAt w lo hi v zs) (hb : Below B w w') (hB : hi ≤ B) : IntsAt w' lo hi v zs := h.keep fun k _ hk => hb.block k (by omega)
theorem CoAt.below {B : Nat} (h : CoAt w lo hi x y z co) (hb : Below B w w') (hB : hi ≤ B) : CoAt w' lo hi x y z co := h.keep fun k _ hk => hb.block k (by omega)
theorem CosAt.below {B : Nat} (h : CosAt w lo hi v cs) (hb : Below B w w') (hB : hi ≤ B) : CosAt w' lo hi v cs := h.keep fun k _ hk => hb.block k (by omega)
theorem TyAt.below {B : Nat} (h : TyAt w lo hi s c t) (hb : Below B w w') (hB : hi ≤ B) : TyAt w' lo hi s c t := h.keep fun k _ hk => hb.block k (by omega)

theorem IntsAt.more (h : IntsAt w lo hi v zs) (h1 : lo' ≤ lo) (h2 : hi ≤ hi') : IntsAt w lo' hi' v zs := by
  obtain ⟨A, cap, e, a1, a2, a3, a4⟩ := h
  refine ⟨A, cap, e, a1, a2, a3, fun h0 => ?_⟩
  obtain ⟨b, off, hA, hl, hh, hc⟩ := a4 h0
  exact ⟨b, off, hA, by omega, by omega, hc⟩
theorem CoAt.more (h : CoAt w lo hi x y z co) (h1 : lo' ≤ lo) (h2 : hi ≤ hi') : CoAt w lo' hi' x y z co := ⟨h.1, h.2.1, h.2.2.1, h.2.2.2.1, h.2.2.2.2.more h1 h2⟩
theorem CosAt.more (h : CosAt w lo hi v cs) (h1 : lo' ≤ lo) (h2 : hi ≤ hi') : CosAt w lo' hi' v cs := by
  obtain ⟨A, cap, e, a1, a2, a4⟩ := h
  refine ⟨A, cap, e, a1, a2, fun h0 => ?_⟩
  obtain ⟨b, off, hA, hl, hh, hc⟩ := a4 h0
  refine ⟨b, off, hA, by omega, by omega, fun k hk => ?_⟩
  obtain ⟨x, y, z, c0, c1, c2, hco⟩ := hc k hk
  exact ⟨x, y, z, c0, c1, c2, hco.more h1 h2⟩
theorem TyAt.more (h : TyAt w lo hi s c t) (h1 : lo' ≤ lo) (h2 : hi ≤ hi') : TyAt w lo' hi' s c t := ⟨h.1.more h1 h2, h.2.more h1 h2⟩

theorem IntsAt.form (h : IntsAt w lo hi v zs) : ∃ (A : Option Addr) (cap : Nat), v = .slice A zs.length cap ∧ zs.length ≤ cap ∧ cap ≤ maxLen ∧ IntsAt w lo hi (.slice A zs.length cap) zs := by
  obtain ⟨A, cap, rfl, h1, h2, h3⟩ := h
  exact ⟨A, cap, rfl, h1, h2, A, cap, rfl, h1, h2, h3⟩
theorem CosAt.form (h : CosAt w lo hi v cs) : ∃ (A : Option Addr) (cap : Nat), v = .slice A cs.length cap ∧ cs.length ≤ cap ∧ cap ≤ maxLen ∧ CosAt w lo hi (.slice A cs.length cap) cs := by
  obtain ⟨A, cap, rfl, h1, h2, h3⟩ := h
  exact ⟨A, cap, rfl, h1, h2, A, cap, rfl, h1, h2, h3⟩
/-- The k-th coercion's cells, and what they read as. -/
theorem CosAt.at_ {A : Option Addr} {n cap k : Nat} (h : CosAt w lo hi (.slice A n cap) cs) (hk : k < cs.length) :
    ∃ (b off : Nat) (A2 : Option Addr) (cap2 : Nat), A = some ⟨b, off, none⟩ ∧ lo ≤ b ∧ b < hi ∧ w.cell? ⟨b, off + k * 3, none⟩ = some (.int .i64 cs[k].src) ∧ w.cell? ⟨b, off + k * 3 + 1, none⟩ = some (.int .i64 cs[k].dst) ∧
      w.cell? ⟨b, off + k * 3 + 2, none⟩ = some (.slice A2 cs[k].map.length cap2) ∧ cs[k].map.length ≤ cap2 ∧ cap2 ≤ maxLen ∧ I64 cs[k].src ∧ I64 cs[k].dst ∧ IntsAt w lo hi (.slice A2 cs[k].map.length cap2) cs[k].map := by
  obtain ⟨A', cap', e, _, _, h4⟩ := h
  injection e with eA
  subst eA
  obtain ⟨b, off, hA, hl, hh, hc⟩ := h4 (by omega)
  obtain ⟨x, y, z, c0, c1, c2, rfl, rfl, hs, hd, hz⟩ := hc k hk
  rw [List.getD_eq_getElem?_getD, List.getElem?_eq_getElem hk] at c0 c1 hs hd hz
  obtain ⟨A2, cap2, rfl, h1, h2, hz2⟩ := hz.form
  exact ⟨b, off, A2, cap2, hA, hl, hh, c0, c1, c2, h1, h2, hs, hd, hz2⟩
theorem IntsAt.at_ {A : Option Addr} {n cap k : Nat} (h : IntsAt w lo hi (.slice A n cap) zs) (hk : k < zs.length) :
    ∃ (b off : Nat), A = some ⟨b, off, none⟩ ∧ lo ≤ b ∧ b < hi ∧ w.cell? ⟨b, off + k, none⟩ = some (.int .i64 zs[k]) ∧ I64 zs[k] := by
  obtain ⟨A', cap', e, _, _, hw, h4⟩ := h
  injection e with eA
  subst eA
  obtain ⟨b, off, hA, hl, hh, hc⟩ := h4 (by omega)
  have c0 := hc k hk
  rw [List.getD_eq_getElem?_getD, List.getElem?_eq_getElem hk] at c0
  exact ⟨b, off, hA, hl, hh, c0, hw _ (List.getElem_mem hk)⟩
theorem getD_mem_of_lt {α : Type} {l : List α} {k : Nat} {d : α} (h : k < l.length) : l.getD k d ∈ l := by
  rw [List.getD_eq_getElem?_getD, List.getElem?_eq_getElem h]
  exact List.getElem_mem h
end
/-- How many numbers the maps of the first k coercions hold together. -/
def mapsLen (cs : List Co) (k : Nat) : Nat := ((cs.take k).map fun c => c.map.length).sum
theorem mapsLen_zero (cs : List Co) : mapsLen cs 0 = 0 := by simp [mapsLen]
theorem mapsLen_succ (cs : List Co) (k : Nat) (h : k < cs.length) : mapsLen cs (k + 1) = mapsLen cs k + (cs.getD k default).map.length := by
  unfold mapsLen
  rw [List.take_succ_eq_append_getElem h, List.map_append, List.sum_append, List.getD_eq_getElem?_getD, List.getElem?_eq_getElem h]
  rfl
theorem mapsLen_mono (cs : List Co) (k : Nat) : mapsLen cs k ≤ mapsLen cs cs.length := by
  unfold mapsLen
  have e : cs.take cs.length = cs.take k ++ cs.drop k := by rw [List.take_length, List.take_append_drop]
  rw [e, List.map_append, List.sum_append]
  omega
/-- How many values types hold. -/
def Ty.bulk (t : Ty) : Nat := t.sizes.length + t.cos.length + mapsLen t.cos t.cos.length
/-- What lies below B reads as before: two rules for the walk. -/
theorem bcell {B : Nat} {w w' : World} (hb : Below B w w') : (∀ b o, b < B → w'.cell? ⟨b, o, none⟩ = w.cell? ⟨b, o, none⟩) ∧ (∀ b o, b < B → w'.frozen? ⟨b, o, none⟩ = w.frozen? ⟨b, o, none⟩) :=
  ⟨fun b o h => hb.cell (p := ⟨b, o, none⟩) h, fun b o h => hb.frozen (p := ⟨b, o, none⟩) h⟩

/-- Block g is just the cells xs of element type t; none is frozen. -/
def Row (w : World) (g : Nat) (t : TypeId) (xs : List Value) : Prop := w.heap[g]? = some (.cells xs.toArray t (0, 0))

section
variable {w w' : World} {g : Nat} {t : TypeId} {xs : List Value}
theorem Row.lt (h : Row w g t xs) : g < w.heap.size := by
  rcases Nat.lt_or_ge g w.heap.size with hlt | hge
  · exact hlt
  · unfold Row at h; rw [Array.getElem?_eq_none hge] at h; cases h
theorem Row.cell (h : Row w g t xs) (i : Nat) : w.cell? ⟨g, i, none⟩ = xs[i]? := by
  unfold Row at h
  simp [World.cell?, h]
theorem Row.cell_some (h : Row w g t xs) {i : Nat} (hi : i < xs.length) : w.cell? ⟨g, i, none⟩ = some xs[i] := by rw [h.cell, List.getElem?_eq_getElem hi]
theorem Row.frozen (h : Row w g t xs) (i : Nat) : w.frozen? ⟨g, i, none⟩ = false := by
  unfold Row at h
  simp [World.frozen?, h]
theorem Row.new (w : World) (t : TypeId) (xs : List Value) : Row (w.alloc (.cells xs.toArray t)) w.heap.size t xs := heap_alloc_new w _
theorem Row.alloc (h : Row w g t xs) (o : Obj) : Row (w.alloc o) g t xs := (Below.heap_alloc w o g h.lt).trans h
theorem Row.drew (h : Row w g t xs) : Row w.drew g t xs := h
theorem Row.set_ (h : Row w g t xs) (i : Nat) (u : Value) : Row (w.setCell ⟨g, i, none⟩ u) g t (xs.set i u) := by
  unfold Row at h ⊢
  simp [World.setCell, Array.getElem?_modify, h]
theorem Row.far (h : Row w g t xs) {p : Addr} (hp : g ≠ p.block) (u : Value) : Row (w.setCell p u) g t xs := (Below.heap_setCell w p u g hp).trans h
theorem Row.keep (h : Row w g t xs) (hk : w'.heap[g]? = w.heap[g]?) : Row w' g t xs := hk.trans h
theorem Row.below {B : Nat} (h : Row w g t xs) (hb : Below B w w') (hg : g < B) : Row w' g t xs := (hb.block g hg).trans h
end

theorem getD_set_self {xs : List Value} {i : Nat} {u : Value} (h : i < xs.length) : (xs.set i u)[i]? = some u := by
  rw [List.getElem?_set_self h]

/-- One more element of a row that is filled from the left. -/
theorem fill_step {α : Type} (f : α → Value) (zs : List α) (z : Value) (k : Nat) (h : k < zs.length) :
    ((zs.take k).map f ++ List.replicate (zs.length - k) z).set k (f zs[k]) = (zs.take (k + 1)).map f ++ List.replicate (zs.length - (k + 1)) z := by
  have hl : ((zs.take k).map f).length = k := by simp; omega
  have hr : zs.length - k = (zs.length - (k + 1)) + 1 := by omega
  rw [List.set_append_right _ _ (by omega), hl, Nat.sub_self, hr, List.replicate_succ, List.set_cons_zero, List.take_succ_eq_append_getElem h, List.map_append, List.append_assoc]
  rfl
theorem madeCells_one (z : Value) (n : Nat) : madeCells #[z] n = (List.replicate n z).toArray := by
  have h := toList_madeCells_one z n
  rw [← h]
theorem fill_zero {α : Type} (f : α → Value) (zs : List α) (z : Value) : (zs.take 0).map f ++ List.replicate (zs.length - 0) z = List.replicate zs.length z := by simp
theorem fill_all {α : Type} (f : α → Value) (zs : List α) (z : Value) : (zs.take zs.length).map f ++ List.replicate (zs.length - zs.length) z = zs.map f := by simp
theorem fill_len {α : Type} (f : α → Value) (zs : List α) (z : Value) (k : Nat) (h : k ≤ zs.length) : ((zs.take k).map f ++ List.replicate (zs.length - k) z).length = zs.length := by
  simp; omega

/-- A row of numbers reads as these. -/
theorem Row.ints {w : World} {g : Nat} {t : TypeId} {zs : List Int} {lo hi cap : Nat} (h : Row w g t (zs.map (Value.int .i64))) (hw : ∀ z ∈ zs, I64 z) (hl : lo ≤ g) (hh : g < hi) (hc : zs.length ≤ cap) (hm : cap ≤ maxLen) :
    IntsAt w lo hi (.slice (some ⟨g, 0, none⟩) zs.length cap) zs := by
  refine ⟨_, _, rfl, hc, hm, hw, fun _ => ⟨g, 0, rfl, hl, hh, fun k hk => ?_⟩⟩
  rw [Nat.zero_add, h.cell, List.getElem?_map, List.getElem?_eq_getElem hk, List.getD_eq_getElem?_getD, List.getElem?_eq_getElem hk]
  rfl

/-- The cells of the first k coercions; the map of the j-th lies at the head of block m j. -/
def CoRow (xs : List Value) (m : Nat → Nat) (cs : List Co) (k : Nat) : Prop :=
  xs.length = cs.length * 3 ∧ ∀ j, j < k → ∀ (hj : j < cs.length), xs[j * 3]? = some (.int .i64 cs[j].src) ∧ xs[j * 3 + 1]? = some (.int .i64 cs[j].dst) ∧ xs[j * 3 + 2]? = some (.slice (some ⟨m j, 0, none⟩) cs[j].map.length cs[j].map.length)
theorem CoRow.step {xs : List Value} {m : Nat → Nat} {cs : List Co} {k : Nat} (h : CoRow xs m cs k) (hk : k < cs.length) :
    CoRow (((xs.set (k * 3) (.int .i64 cs[k].src)).set (k * 3 + 1) (.int .i64 cs[k].dst)).set (k * 3 + 2) (.slice (some ⟨m k, 0, none⟩) cs[k].map.length cs[k].map.length)) m cs (k + 1) := by
  refine ⟨by simp [h.1], fun j hj hjl => ?_⟩
  have hl := h.1
  by_cases e : j = k
  · subst e
    refine ⟨?_, ?_, ?_⟩
    · rw [List.getElem?_set_ne (by omega), List.getElem?_set_ne (by omega), List.getElem?_set_self (by omega)]
    · rw [List.getElem?_set_ne (by omega), List.getElem?_set_self (by simp; omega)]
    · rw [List.getElem?_set_self (by simp; omega)]
  · obtain ⟨a, b, c⟩ := h.2 j (by omega) hjl
    refine ⟨?_, ?_, ?_⟩
    · rw [List.getElem?_set_ne (by omega), List.getElem?_set_ne (by omega), List.getElem?_set_ne (by omega), a]
    · rw [List.getElem?_set_ne (by omega), List.getElem?_set_ne (by omega), List.getElem?_set_ne (by omega), b]
    · rw [List.getElem?_set_ne (by omega), List.getElem?_set_ne (by omega), List.getElem?_set_ne (by omega), c]

/-- A row of coercions reads as these. -/
theorem Row.cos {w : World} {g : Nat} {t ti : TypeId} {xs : List Value} {m : Nat → Nat} {cs : List Co} {lo hi cap : Nat} (h : Row w g t xs) (hx : CoRow xs m cs cs.length) (hw : ∀ j, ∀ (hj : j < cs.length), I64 cs[j].src ∧ I64 cs[j].dst ∧ ∀ z ∈ cs[j].map, I64 z)
    (hm : ∀ j, ∀ (hj : j < cs.length), Row w (m j) ti (cs[j].map.map (Value.int .i64)) ∧ lo ≤ m j ∧ m j < hi ∧ cs[j].map.length ≤ maxLen) (hl : lo ≤ g) (hh : g < hi) (hc : cs.length ≤ cap) (hcm : cap ≤ maxLen) :
    CosAt w lo hi (.slice (some ⟨g, 0, none⟩) cs.length cap) cs := by
  refine ⟨_, _, rfl, hc, hcm, fun _ => ⟨g, 0, rfl, hl, hh, fun k hk => ?_⟩⟩
  obtain ⟨a, b, c⟩ := hx.2 k hk hk
  obtain ⟨hr, h1, h2, h3⟩ := hm k hk
  obtain ⟨i1, i2, i3⟩ := hw k hk
  rw [List.getD_eq_getElem?_getD, List.getElem?_eq_getElem hk]
  refine ⟨_, _, _, ?_, ?_, ?_, rfl, rfl, i1, i2, hr.ints i3 h1 h2 (Nat.le_refl _) h3⟩
  · rw [Nat.zero_add, h.cell, a]; rfl
  · rw [Nat.zero_add, h.cell, b]; rfl
  · rw [Nat.zero_add, h.cell, c]

/-- Every number of these types fits an int. -/
def Ty.fits (t : Ty) : Prop := (∀ z ∈ t.sizes, I64 z) ∧ ∀ j, ∀ (hj : j < t.cos.length), I64 t.cos[j].src ∧ I64 t.cos[j].dst ∧ ∀ z ∈ t.cos[j].map, I64 z
theorem TyAt.fits {w : World} {lo hi : Nat} {s c : Value} {t : Ty} (h : TyAt w lo hi s c t) : t.fits := by
  obtain ⟨⟨_, _, _, _, _, hw, _⟩, hc⟩ := h
  obtain ⟨A, cap, rfl, _, _, hc⟩ := hc.form
  refine ⟨hw, fun j hj => ?_⟩
  obtain ⟨_, _, _, _, _, _, _, _, _, _, _, _, hs, hd, ⟨_, _, _, _, _, hz, _⟩⟩ := hc.at_ hj
  exact ⟨hs, hd, hz⟩
theorem Ty.map_le (t : Ty) (j : Nat) (hj : j < t.cos.length) : t.cos[j].map.length ≤ t.bulk := by
  have h1 := mapsLen_succ t.cos j hj
  have h2 := mapsLen_mono t.cos (j + 1)
  rw [List.getD_eq_getElem?_getD, List.getElem?_eq_getElem hj] at h1
  simp only [Option.getD_some] at h1
  unfold Ty.bulk
  omega

/-- Types in new memory as the copying lays them: the sizes in block g, the coercions in block g + 1, the j-th map in block g + 5 + 4 j. -/
def NewTy (w : World) (ti tc : TypeId) (g : Nat) (t : Ty) : Prop :=
  Row w g ti (t.sizes.map (Value.int .i64)) ∧ (∃ xs, Row w (g + 1) tc xs ∧ CoRow xs (fun j => g + 1 + 1 + 4 * j + 3) t.cos t.cos.length) ∧
    ∀ j, ∀ (hj : j < t.cos.length), Row w (g + 1 + 1 + 4 * j + 3) ti (t.cos[j].map.map (Value.int .i64))
theorem NewTy.keep {w w' : World} {ti tc : TypeId} {g : Nat} {t : Ty} (h : NewTy w ti tc g t) (hk : ∀ k, g ≤ k → k < g + 2 + 4 * t.cos.length → w'.heap[k]? = w.heap[k]?) : NewTy w' ti tc g t := by
  obtain ⟨h1, ⟨xs, h2, h3⟩, h4⟩ := h
  exact ⟨h1.keep (hk _ (by omega) (by omega)), ⟨xs, h2.keep (hk _ (by omega) (by omega)), h3⟩, fun j hj => (h4 j hj).keep (hk _ (by omega) (by omega))⟩
theorem NewTy.below {w w' : World} {ti tc : TypeId} {g : Nat} {t : Ty} {B : Nat} (h : NewTy w ti tc g t) (hb : Below B w w') (hB : g + 2 + 4 * t.cos.length ≤ B) : NewTy w' ti tc g t := h.keep fun k _ hk => hb.block k (by omega)
theorem NewTy.at_ {w : World} {ti tc : TypeId} {g : Nat} {t : Ty} (h : NewTy w ti tc g t) (hf : t.fits) (hb : t.bulk ≤ 1048576) :
    TyAt w g (g + 2 + 4 * t.cos.length) (.slice (some ⟨g, 0, none⟩) t.sizes.length t.sizes.length) (.slice (some ⟨g + 1, 0, none⟩) t.cos.length t.cos.length) t := by
  obtain ⟨h1, ⟨xs, h2, h3⟩, h4⟩ := h
  have hb' := hb
  unfold Ty.bulk at hb'
  refine ⟨h1.ints hf.1 (Nat.le_refl _) (by omega) (Nat.le_refl _) (by unfold maxLen; omega), h2.cos (ti := ti) h3 hf.2 (fun j hj => ⟨h4 j hj, by omega, by omega, ?_⟩) (by omega) (by omega) (Nat.le_refl _) (by unfold maxLen; omega)⟩
  have := t.map_le j hj
  unfold maxLen
  omega

/-- A box of two cells that the call made first, seen from a later world. -/
theorem box2 {w wk : World} {a b : Value} {t : TypeId} (h : Below (w.heap.size + 1) (w.alloc (.cells #[a, b] t)) wk) :
    wk.cell? ⟨w.heap.size, 0, none⟩ = some a ∧ wk.cell? ⟨w.heap.size, 1, none⟩ = some b ∧ w.heap.size < wk.heap.size ∧ Below w.heap.size w wk := by
  have hs := h.size
  simp only [World.size_alloc] at hs
  refine ⟨(h.cell (p := ⟨w.heap.size, 0, none⟩) (by dsimp only; omega)).trans ?_, (h.cell (p := ⟨w.heap.size, 1, none⟩) (by dsimp only; omega)).trans ?_, by omega, ((Below.refl _ _).alloc (Nat.le_refl _) _).trans (h.mono (by omega))⟩
  · simp [go_sem]
  · simp [go_sem]
end Go.Proofs.YtdemcoghgnnheaaGreatDoor

namespace Go.Proofs.YtdemcoghgnnheaaGreatDoor
open Go.RowKit

/-- What is left of an allowance when n is taken from it; -1 if it is not enough. -/
def subI (left : Int) (n : Nat) : Int := if left - n < 0 then -1 else left - n
theorem subI_neg {left : Int} {n : Nat} (h : left - n < 0) : subI left n = -1 := if_pos h
theorem subI_pos {left : Int} {n : Nat} (h : ¬ left - n < 0) : subI left n = left - n := if_neg h

theorem szIntS_any (A : Option Addr) (n c : Nat) (left : Int) (w : World) (h0 : 0 ≤ left) (h1 : left ≤ 1048576) (hn : n ≤ maxLen) :
    Calls Tryz.prog 66 #[.slice A n c, .int .i64 left] w fun e w' => e = .returned (.int .i64 (subI left n)) ∧ w = w' := by
  unfold maxLen at hn
  by_cases h : left - n < 0
  · have hs := Lib.hid (subI_neg h)
    go_enter Tryz.func66, Tryz.ntmps66
    go_wp2
    go_ret
    exact ⟨ret_int hs.out.symm, rfl⟩
  · have hs := Lib.hid (subI_pos h)
    go_enter Tryz.func66, Tryz.ntmps66
    go_wp2
    go_ret
    exact ⟨ret_int hs.out.symm, rfl⟩

theorem szCoercion_any (x y : Value) (A : Option Addr) (n c : Nat) (left : Int) (w : World) (h0 : 0 ≤ left) (h1 : left ≤ 1048576) (hn : n ≤ maxLen) :
    Calls Tryz.prog 108 #[.agg #[x, y, .slice A n c], .int .i64 left] w fun e w' => e = .returned (.int .i64 (subI left n)) ∧ Below w.heap.size w w' := by
  by_cases h : left - n < 0
  · have hs := Lib.hid (subI_neg h)
    go_enter Tryz.func108, Tryz.ntmps108
    go_wp2_with (go_at_call 66; refine (szIntS_any _ _ _ _ _ h0 h1 hn).mono ?_; rintro e w' ⟨rfl, rfl⟩; rw [hs.out])
    go_ret
    exact ⟨ret_int hs.out.symm, by go_grown⟩
  · have hs := Lib.hid (subI_pos h)
    go_enter Tryz.func108, Tryz.ntmps108
    go_wp2_with (go_at_call 66; refine (szIntS_any _ _ _ _ _ h0 h1 hn).mono ?_; rintro e w' ⟨rfl, rfl⟩; rw [hs.out])
    go_ret
    exact ⟨ret_int hs.out.symm, by go_grown⟩

set_option maxHeartbeats 400000 in
theorem szCoercionS_any (lo hi : Nat) (v : Value) (cs : List Co) (left : Int) (w : World) (h0 : 0 ≤ left) (h1 : left ≤ 1048576) (hv : CosAt w lo hi v cs) (hB : hi ≤ w.heap.size) :
    Calls Tryz.prog 67 #[v, .int .i64 left] w fun e w' => e = .returned (.int .i64 (subI left (cs.length + mapsLen cs cs.length))) ∧ Below w.heap.size w w' := by
  obtain ⟨A, cap, rfl, hl, hm, hc⟩ := hv
  unfold maxLen at hm
  by_cases hneg : left - (cs.length : Int) < 0
  · have hs : Hid (subI left (cs.length + mapsLen cs cs.length) = -1) := subI_neg (by omega)
    clear hc
    go_enter Tryz.func67, Tryz.ntmps67
    go_wp2
    go_ret
    exact ⟨ret_int hs.out.symm, Below.refl _ _⟩
  · have hc' := Lib.hid hc
    clear hc
    go_enter Tryz.func67, Tryz.ntmps67
    go_wp2
    go_loopw [1, 5] (fun l i wr => ∃ k : Nat, k ≤ cs.length ∧ i = .int .i64 k ∧ l = .int .i64 (left - ((cs.length : Int) + (mapsLen cs k : Int))) ∧ 0 ≤ left - ((cs.length : Int) + (mapsLen cs k : Int)) ∧ Below w.heap.size w wr) (fun _ i _ => cs.length - (intOf i).toNat)
    case atStart => exact ⟨0, Nat.zero_le _, rfl, by rw [mapsLen_zero]; go_num, by rw [mapsLen_zero]; omega, Below.refl _ _⟩
    case round =>
      obtain ⟨k, hk, rfl, rfl, hpos, hb⟩ := hrel
      by_cases hlt : k < cs.length
      · obtain ⟨b, off, rfl, hlo, hhi, hcell⟩ := hc'.out (by omega)
        obtain ⟨x, y, z, c0, c1, c2, rfl, rfl, _, _, A2, cap2, rfl, hl2, hm2, _, _⟩ := hcell k hlt
        have hms := Lib.hid (mapsLen_succ cs k hlt)
        have hmm := mapsLen_mono cs (k + 1)
        rw [hms.out] at hmm
        replace c0 := (hb.cell (p := ⟨b, off + k * 3, none⟩) (by simp; omega)).trans c0
        replace c1 := (hb.cell (p := ⟨b, off + k * 3 + 1, none⟩) (by simp; omega)).trans c1
        replace c2 := (hb.cell (p := ⟨b, off + k * 3 + 2, none⟩) (by simp; omega)).trans c2
        clear hcell hc'
        generalize hM : (cs.getD k default).map.length = m at *
        have HM := Lib.hid hM
        clear hM
        by_cases hn2 : left - ((cs.length : Int) + (mapsLen cs k : Int)) - (m : Int) < 0
        · have hs := Lib.hid (subI_neg hn2)
          have hs' : Hid (subI left (cs.length + mapsLen cs cs.length) = -1) := subI_neg (by omega)
          go_wp2_with (go_at_call 108; refine (szCoercion_any _ _ _ _ _ _ _ (by omega) (by omega) (Nat.le_trans hl2 hm2)).mono ?_; rintro e w' ⟨rfl, hb2⟩; rw [hs.out])
          go_ret
          exact ⟨ret_int hs'.out.symm, hb.trans (hb2.mono hb.size)⟩
        · have hs := Lib.hid (subI_pos hn2)
          go_wp2_with (go_at_call 108; refine (szCoercion_any _ _ _ _ _ _ _ (by omega) (by omega) (Nat.le_trans hl2 hm2)).mono ?_; rintro e w' ⟨rfl, hb2⟩; rw [hs.out])
          go_roundw
          case rel => exact ⟨k + 1, by omega, by go_num, by rw [hms.out]; go_num, by rw [hms.out]; omega, hb.trans (hb2.mono hb.size)⟩
          case measure => simp [intOf]; omega
      · obtain rfl : k = cs.length := by omega
        have hs' : Hid (subI left (cs.length + mapsLen cs cs.length) = left - ((cs.length + mapsLen cs cs.length : Nat) : Int)) := subI_pos (by omega)
        go_wp2
        go_ret
        exact ⟨ret_int hs'.out.symm, hb⟩

theorem subI_sub {left : Int} {n m : Nat} (_h : ¬ left - n < 0) : subI (left - n) m = subI left (n + m) := by
  unfold subI
  by_cases h2 : left - n - m < 0
  · rw [if_pos h2, if_pos (by omega)]
  · rw [if_neg h2, if_neg (by omega)]; omega

set_option maxHeartbeats 400000 in
theorem szTypes_any (lo hi : Nat) (s c : Value) (t : Ty) (left : Int) (w : World) (h0 : 0 ≤ left) (h1 : left ≤ 1048576) (hv : TyAt w lo hi s c t) (hB : hi ≤ w.heap.size) :
    Calls Tryz.prog 40 #[.agg #[s, c], .int .i64 left] w fun e w' => e = .returned (.int .i64 (subI left t.bulk)) ∧ Below w.heap.size w w' := by
  obtain ⟨⟨A, cap, rfl, hl, hm, _, _⟩, hcs⟩ := hv
  have hc := hcs
  obtain ⟨A2, cap2, hc2, _⟩ := hcs
  have hcos : CosAt w lo hi (.slice A2 t.cos.length cap2) t.cos := by rw [← hc2]; exact hc
  subst hc2
  clear hc
  have e : t.bulk = t.sizes.length + (t.cos.length + mapsLen t.cos t.cos.length) := Nat.add_assoc _ _ _
  have hlen := Nat.le_trans hl hm
  by_cases h : left - (t.sizes.length : Int) < 0
  · have hs := Lib.hid (subI_neg h)
    have hs2 : Hid (subI left t.bulk = -1) := subI_neg (by rw [e]; omega)
    clear e
    go_enter Tryz.func40, Tryz.ntmps40
    go_wp2_with (go_at_call 66; refine (szIntS_any _ _ _ _ _ h0 h1 hlen).mono ?_; rintro e w' ⟨rfl, rfl⟩; rw [hs.out])
    go_ret
    exact ⟨ret_int hs2.out.symm, by go_grown⟩
  · have hs := Lib.hid (subI_pos h)
    have hss := subI_sub (m := t.cos.length + mapsLen t.cos t.cos.length) h
    rw [← e] at hss
    by_cases h2 : left - t.sizes.length - ((t.cos.length + mapsLen t.cos t.cos.length : Nat) : Int) < 0
    · have hs2 := Lib.hid (subI_neg h2)
      rw [subI_neg h2] at hss
      have hs3 := Lib.hid hss
      clear e hss
      go_enter Tryz.func40, Tryz.ntmps40
      go_wp2_with (first | (go_at_call 66; refine (szIntS_any _ _ _ _ _ h0 h1 hlen).mono ?_; rintro e w' ⟨rfl, rfl⟩; rw [hs.out]) | (go_at_call 67; refine (szCoercionS_any lo hi _ t.cos _ _ (by omega) (by omega) (hcos.below ((Below.refl _ _).alloc (Nat.le_refl _) _) hB) (by simp; omega)).mono ?_; rintro e w' ⟨rfl, hb⟩; rw [hs2.out]))
      go_ret
      exact ⟨ret_int hs3.out, ((Below.refl _ _).alloc (Nat.le_refl _) _).trans (hb.mono (by simp))⟩
    · have hs2 := Lib.hid (subI_pos h2)
      rw [subI_pos h2] at hss
      have hs3 := Lib.hid hss
      clear e hss
      go_enter Tryz.func40, Tryz.ntmps40
      go_wp2_with (first | (go_at_call 66; refine (szIntS_any _ _ _ _ _ h0 h1 hlen).mono ?_; rintro e w' ⟨rfl, rfl⟩; rw [hs.out]) | (go_at_call 67; refine (szCoercionS_any lo hi _ t.cos _ _ (by omega) (by omega) (hcos.below ((Below.refl _ _).alloc (Nat.le_refl _) _) hB) (by simp; omega)).mono ?_; rintro e w' ⟨rfl, hb⟩; rw [hs2.out]))
      go_ret
      exact ⟨ret_int hs3.out, ((Below.refl _ _).alloc (Nat.le_refl _) _).trans (hb.mono (by simp))⟩
end Go.Proofs.YtdemcoghgnnheaaGreatDoor

namespace Go.Proofs.YtdemcoghgnnheaaGreatDoor
open Go.RowKit

/-- A function and a system, as plain data. -/
structure Fu where
  name : ByteArray
  args : List Int
  res : Int
  table : List Int
structure Sy where
  ty : Ty
  fs : List Fu

instance : Inhabited Fu := ⟨⟨ByteArray.empty, [], 0, []⟩⟩

/-- The function value reads as f. -/
def FuAt (w : World) (lo hi : Nat) (x a r t : Value) (f : Fu) : Prop :=
  x = .string f.name ∧ r = .int .i64 f.res ∧ f.name.size ≤ maxLen ∧ I64 f.res ∧ IntsAt w lo hi a f.args ∧ IntsAt w lo hi t f.table

def FusAt (w : World) (lo hi : Nat) (v : Value) (fs : List Fu) : Prop :=
  ∃ (A : Option Addr) (cap : Nat), v = .slice A fs.length cap ∧ fs.length ≤ cap ∧ cap ≤ maxLen ∧
    (0 < fs.length → ∃ b off, A = some ⟨b, off, none⟩ ∧ lo ≤ b ∧ b < hi ∧ ∀ k, k < fs.length → ∃ x a r t,
      w.cell? ⟨b, off + k * 4, none⟩ = some x ∧ w.cell? ⟨b, off + k * 4 + 1, none⟩ = some a ∧ w.cell? ⟨b, off + k * 4 + 2, none⟩ = some r ∧ w.cell? ⟨b, off + k * 4 + 3, none⟩ = some t ∧ FuAt w lo hi x a r t (fs.getD k default))

def SyAt (w : World) (lo hi : Nat) (s c v : Value) (y : Sy) : Prop := TyAt w lo hi s c y.ty ∧ FusAt w lo hi v y.fs

section
variable {w w' w'' : World} {lo hi lo' hi' : Nat} {v x a r t s c : Value} {fs : List Fu} {f : Fu} {y : Sy}

theorem FuAt.keep (h : FuAt w lo hi x a r t f) (hk : ∀ k, lo ≤ k → k < hi → w'.heap[k]? = w.heap[k]?) : FuAt w' lo hi x a r t f :=
  ⟨h.1, h.2.1, h.2.2.1, h.2.2.2.1, h.2.2.2.2.1.keep hk, h.2.2.2.2.2.keep hk⟩
theorem FusAt.keep (h : FusAt w lo hi v fs) (hk : ∀ k, lo ≤ k → k < hi → w'.heap[k]? = w.heap[k]?) : FusAt w' lo hi v fs := by
  obtain ⟨A, cap, e, h1, h2, h4⟩ := h
  refine ⟨A, cap, e, h1, h2, fun h0 => ?_⟩
  obtain ⟨b, off, hA, hl, hh, hc⟩ := h4 h0
  refine ⟨b, off, hA, hl, hh, fun k hkk => ?_⟩
  obtain ⟨x, a, r, t, c0, c1, c2, c3, hco⟩ := hc k hkk
  have e := hk b hl hh
  exact ⟨x, a, r, t, (World.cell?_of_block (w := w) e).trans c0, (World.cell?_of_block (w := w) e).trans c1, (World.cell?_of_block (w := w) e).trans c2, (World.cell?_of_block (w := w) e).trans c3, hco.keep hk⟩
theorem SyAt.keep (h : SyAt w lo hi s c v y) (hk : ∀ k, lo ≤ k → k < hi → w'.heap[k]? = w.heap[k]?) : SyAt w' lo hi s c v y := ⟨h.1.keep hk, h.2.keep hk⟩

theorem FuAt.below {B : Nat} (h : FuAt w lo hi x a r t f) (hb : Below B w w') (hB : hi ≤ B) : FuAt w' lo hi x a r t f := h.keep fun k _ hk => hb.block k (by omega)
theorem FusAt.below {B : Nat} (h : FusAt w lo hi v fs) (hb : Below B w w') (hB : hi ≤ B) : FusAt w' lo hi v fs := h.keep fun k _ hk => hb.block k (by omega)
theorem SyAt.below {B : Nat} (h : SyAt w lo hi s c v y) (hb : Below B w w') (hB : hi ≤ B) : SyAt w' lo hi s c v y := h.keep fun k _ hk => hb.block k (by omega)

theorem FuAt.more (h : FuAt w lo hi x a r t f) (h1 : lo' ≤ lo) (h2 : hi ≤ hi') : FuAt w lo' hi' x a r t f := ⟨h.1, h.2.1, h.2.2.1, h.2.2.2.1, h.2.2.2.2.1.more h1 h2, h.2.2.2.2.2.more h1 h2⟩
theorem FusAt.more (h : FusAt w lo hi v fs) (h1 : lo' ≤ lo) (h2 : hi ≤ hi') : FusAt w lo' hi' v fs := by
  obtain ⟨A, cap, e, a1, a2, a4⟩ := h
  refine ⟨A, cap, e, a1, a2, fun h0 => ?_⟩
  obtain ⟨b, off, hA, hl, hh, hc⟩ := a4 h0
  refine ⟨b, off, hA, by omega, by omega, fun k hk => ?_⟩
  obtain ⟨x, a, r, t, c0, c1, c2, c3, hco⟩ := hc k hk
  exact ⟨x, a, r, t, c0, c1, c2, c3, hco.more h1 h2⟩
theorem SyAt.more (h : SyAt w lo hi s c v y) (h1 : lo' ≤ lo) (h2 : hi ≤ hi') : SyAt w lo' hi' s c v y := ⟨h.1.more h1 h2, h.2.more h1 h2⟩

theorem FusAt.form (h : FusAt w lo hi v fs) : ∃ (A : Option Addr) (cap : Nat), v = .slice A fs.length cap ∧ fs.length ≤ cap ∧ cap ≤ maxLen ∧ FusAt w lo hi (.slice A fs.length cap) fs := by
  obtain ⟨A, cap, rfl, h1, h2, h3⟩ := h
  exact ⟨A, cap, rfl, h1, h2, A, cap, rfl, h1, h2, h3⟩
/-- The k-th function's cells, and what they read as. -/
theorem FusAt.at_ {A : Option Addr} {n cap k : Nat} (h : FusAt w lo hi (.slice A n cap) fs) (hk : k < fs.length) :
    ∃ (b off : Nat) (A1 : Option Addr) (cap1 : Nat) (A2 : Option Addr) (cap2 : Nat), A = some ⟨b, off, none⟩ ∧ lo ≤ b ∧ b < hi ∧ w.cell? ⟨b, off + k * 4, none⟩ = some (.string fs[k].name) ∧ w.cell? ⟨b, off + k * 4 + 1, none⟩ = some (.slice A1 fs[k].args.length cap1) ∧
      w.cell? ⟨b, off + k * 4 + 2, none⟩ = some (.int .i64 fs[k].res) ∧ w.cell? ⟨b, off + k * 4 + 3, none⟩ = some (.slice A2 fs[k].table.length cap2) ∧
      fs[k].args.length ≤ cap1 ∧ cap1 ≤ maxLen ∧ fs[k].table.length ≤ cap2 ∧ cap2 ≤ maxLen ∧ FuAt w lo hi (.string fs[k].name) (.slice A1 fs[k].args.length cap1) (.int .i64 fs[k].res) (.slice A2 fs[k].table.length cap2) fs[k] := by
  obtain ⟨A', cap', e, _, _, h4⟩ := h
  injection e with eA
  subst eA
  obtain ⟨b, off, hA, hl, hh, hc⟩ := h4 (by omega)
  obtain ⟨x, a, r, t, c0, c1, c2, c3, rfl, rfl, hn, hs, ha, ht⟩ := hc k hk
  rw [List.getD_eq_getElem?_getD, List.getElem?_eq_getElem hk] at c0 c2 hn hs ha ht
  obtain ⟨A1, cap1, rfl, h1, h2, ha2⟩ := ha.form
  obtain ⟨A2, cap2, rfl, h3, h4, ht2⟩ := ht.form
  exact ⟨b, off, A1, cap1, A2, cap2, hA, hl, hh, c0, c1, c2, c3, h1, h2, h3, h4, rfl, rfl, hn, hs, ha2, ht2⟩
end

/-- How much a function weighs; the first k of some functions. -/
def Fu.weight (f : Fu) : Nat := f.name.size + f.args.length + f.table.length
def fusLen (fs : List Fu) (k : Nat) : Nat := ((fs.take k).map Fu.weight).sum
theorem fusLen_zero (fs : List Fu) : fusLen fs 0 = 0 := by simp [fusLen]
theorem fusLen_succ (fs : List Fu) (k : Nat) (h : k < fs.length) : fusLen fs (k + 1) = fusLen fs k + (fs.getD k default).weight := by
  unfold fusLen
  rw [List.take_succ_eq_append_getElem h, List.map_append, List.sum_append, List.getD_eq_getElem?_getD, List.getElem?_eq_getElem h]
  rfl
theorem fusLen_mono (fs : List Fu) (k : Nat) : fusLen fs k ≤ fusLen fs fs.length := by
  unfold fusLen
  have e : fs.take fs.length = fs.take k ++ fs.drop k := by rw [List.take_length, List.take_append_drop]
  rw [e, List.map_append, List.sum_append]
  omega
/-- How many values a system holds. -/
def Sy.bulk (y : Sy) : Nat := y.ty.bulk + (y.fs.length + fusLen y.fs y.fs.length)
theorem Sy.fu_le (y : Sy) (j : Nat) (hj : j < y.fs.length) : y.fs[j].weight ≤ y.bulk := by
  have h1 := fusLen_succ y.fs j hj
  have h2 := fusLen_mono y.fs (j + 1)
  rw [List.getD_eq_getElem?_getD, List.getElem?_eq_getElem hj] at h1
  simp only [Option.getD_some] at h1
  unfold Sy.bulk
  omega

/-- The cells of the first k functions; the arguments of the j-th lie at the head of block m j, the table at the head of block u j. -/
def FuRow (xs : List Value) (m u : Nat → Nat) (fs : List Fu) (k : Nat) : Prop :=
  xs.length = fs.length * 4 ∧ ∀ j, j < k → ∀ (hj : j < fs.length), xs[j * 4]? = some (.string fs[j].name) ∧ xs[j * 4 + 1]? = some (.slice (some ⟨m j, 0, none⟩) fs[j].args.length fs[j].args.length) ∧
    xs[j * 4 + 2]? = some (.int .i64 fs[j].res) ∧ xs[j * 4 + 3]? = some (.slice (some ⟨u j, 0, none⟩) fs[j].table.length fs[j].table.length)
theorem FuRow.step {xs : List Value} {m u : Nat → Nat} {fs : List Fu} {k : Nat} (h : FuRow xs m u fs k) (hk : k < fs.length) :
    FuRow ((((xs.set (k * 4) (.string fs[k].name)).set (k * 4 + 1) (.slice (some ⟨m k, 0, none⟩) fs[k].args.length fs[k].args.length)).set (k * 4 + 2) (.int .i64 fs[k].res)).set (k * 4 + 3) (.slice (some ⟨u k, 0, none⟩) fs[k].table.length fs[k].table.length)) m u fs (k + 1) := by
  refine ⟨by simp [h.1], fun j hj hjl => ?_⟩
  have hl := h.1
  by_cases e : j = k
  · subst e
    refine ⟨?_, ?_, ?_, ?_⟩
    · rw [List.getElem?_set_ne (by omega), List.getElem?_set_ne (by omega), List.getElem?_set_ne (by omega), List.getElem?_set_self (by omega)]
    · rw [List.getElem?_set_ne (by omega), List.getElem?_set_ne (by omega), List.getElem?_set_self (by simp; omega)]
    · rw [List.getElem?_set_ne (by omega), List.getElem?_set_self (by simp; omega)]
    · rw [List.getElem?_set_self (by simp; omega)]
  · obtain ⟨a, b, c, d⟩ := h.2 j (by omega) hjl
    refine ⟨?_, ?_, ?_, ?_⟩
    · rw [List.getElem?_set_ne (by omega), List.getElem?_set_ne (by omega), List.getElem?_set_ne (by omega), List.getElem?_set_ne (by omega), a]
    · rw [List.getElem?_set_ne (by omega), List.getElem?_set_ne (by omega), List.getElem?_set_ne (by omega), List.getElem?_set_ne (by omega), b]
    · rw [List.getElem?_set_ne (by omega), List.getElem?_set_ne (by omega), List.getElem?_set_ne (by omega), List.getElem?_set_ne (by omega), c]
    · rw [List.getElem?_set_ne (by omega), List.getElem?_set_ne (by omega), List.getElem?_set_ne (by omega), List.getElem?_set_ne (by omega), d]

/-- Every number of these functions fits an int, every name is short. -/
def Fu.fits (f : Fu) : Prop := f.name.size ≤ maxLen ∧ I64 f.res ∧ (∀ z ∈ f.args, I64 z) ∧ ∀ z ∈ f.table, I64 z
def Sy.fits (y : Sy) : Prop := y.ty.fits ∧ ∀ j, ∀ (hj : j < y.fs.length), y.fs[j].fits
theorem FuAt.fits {w : World} {lo hi : Nat} {x a r t : Value} {f : Fu} (h : FuAt w lo hi x a r t f) : f.fits := by
  obtain ⟨_, _, h1, h2, ⟨_, _, _, _, _, h3, _⟩, ⟨_, _, _, _, _, h4, _⟩⟩ := h
  exact ⟨h1, h2, h3, h4⟩
theorem SyAt.fits {w : World} {lo hi : Nat} {s c v : Value} {y : Sy} (h : SyAt w lo hi s c v y) : y.fits := by
  obtain ⟨h1, h2⟩ := h
  obtain ⟨A, cap, rfl, _, _, h2⟩ := h2.form
  refine ⟨h1.fits, fun j hj => ?_⟩
  obtain ⟨_, _, _, _, _, _, _, _, _, _, _, _, _, _, _, _, _, h⟩ := h2.at_ hj
  exact h.fits

/-- A row of functions reads as these. -/
theorem Row.fus {w : World} {g : Nat} {t ti : TypeId} {xs : List Value} {m u : Nat → Nat} {fs : List Fu} {lo hi cap : Nat} (h : Row w g t xs) (hx : FuRow xs m u fs fs.length) (hw : ∀ j, ∀ (hj : j < fs.length), fs[j].fits)
    (hm : ∀ j, ∀ (hj : j < fs.length), Row w (m j) ti (fs[j].args.map (Value.int .i64)) ∧ lo ≤ m j ∧ m j < hi ∧ fs[j].args.length ≤ maxLen)
    (hu : ∀ j, ∀ (hj : j < fs.length), Row w (u j) ti (fs[j].table.map (Value.int .i64)) ∧ lo ≤ u j ∧ u j < hi ∧ fs[j].table.length ≤ maxLen) (hl : lo ≤ g) (hh : g < hi) (hc : fs.length ≤ cap) (hcm : cap ≤ maxLen) :
    FusAt w lo hi (.slice (some ⟨g, 0, none⟩) fs.length cap) fs := by
  refine ⟨_, _, rfl, hc, hcm, fun _ => ⟨g, 0, rfl, hl, hh, fun k hk => ?_⟩⟩
  obtain ⟨a, b, c, d⟩ := hx.2 k hk hk
  obtain ⟨hr, h1, h2, h3⟩ := hm k hk
  obtain ⟨hr', h1', h2', h3'⟩ := hu k hk
  obtain ⟨i0, i1, i2, i3⟩ := hw k hk
  rw [List.getD_eq_getElem?_getD, List.getElem?_eq_getElem hk]
  refine ⟨_, _, _, _, ?_, ?_, ?_, ?_, rfl, rfl, i0, i1, hr.ints i2 h1 h2 (Nat.le_refl _) h3, hr'.ints i3 h1' h2' (Nat.le_refl _) h3'⟩
  · rw [Nat.zero_add, h.cell, a]; rfl
  · rw [Nat.zero_add, h.cell, b]
  · rw [Nat.zero_add, h.cell, c]; rfl
  · rw [Nat.zero_add, h.cell, d]

/-- Functions in new memory as the copying lays them: the row in block g, the j-th arguments in block g + 4 + 5 j, the j-th table in the next one. -/
def NewFus (w : World) (ti tf : TypeId) (g : Nat) (fs : List Fu) : Prop :=
  (∃ xs, Row w g tf xs ∧ FuRow xs (fun j => g + 1 + 5 * j + 3) (fun j => g + 1 + 5 * j + 4) fs fs.length) ∧
    ∀ j, ∀ (hj : j < fs.length), Row w (g + 1 + 5 * j + 3) ti (fs[j].args.map (Value.int .i64)) ∧ Row w (g + 1 + 5 * j + 4) ti (fs[j].table.map (Value.int .i64))
theorem NewFus.keep {w w' : World} {ti tf : TypeId} {g : Nat} {fs : List Fu} (h : NewFus w ti tf g fs) (hk : ∀ k, g ≤ k → k < g + 1 + 5 * fs.length → w'.heap[k]? = w.heap[k]?) : NewFus w' ti tf g fs := by
  obtain ⟨⟨xs, h2, h3⟩, h4⟩ := h
  exact ⟨⟨xs, h2.keep (hk _ (by omega) (by omega)), h3⟩, fun j hj => ⟨(h4 j hj).1.keep (hk _ (by omega) (by omega)), (h4 j hj).2.keep (hk _ (by omega) (by omega))⟩⟩
theorem NewFus.at_ {w : World} {ti tf : TypeId} {g : Nat} {fs : List Fu} (h : NewFus w ti tf g fs) (hf : ∀ j, ∀ (hj : j < fs.length), fs[j].fits) (hb : fs.length ≤ 1048576) (hw : ∀ j, ∀ (hj : j < fs.length), fs[j].weight ≤ 1048576) :
    FusAt w g (g + 1 + 5 * fs.length) (.slice (some ⟨g, 0, none⟩) fs.length fs.length) fs := by
  obtain ⟨⟨xs, h2, h3⟩, h4⟩ := h
  refine h2.fus (ti := ti) h3 hf (fun j hj => ⟨(h4 j hj).1, by omega, by omega, ?_⟩) (fun j hj => ⟨(h4 j hj).2, by omega, by omega, ?_⟩) (Nat.le_refl _) (by omega) (Nat.le_refl _) (by unfold maxLen; omega)
  · have := hw j hj; unfold Fu.weight at this; unfold maxLen; omega
  · have := hw j hj; unfold Fu.weight at this; unfold maxLen; omega
/-- A system in new memory as the copying lays it. -/
def NewSy (w : World) (ti tc tf : TypeId) (g : Nat) (y : Sy) : Prop := NewTy w ti tc g y.ty ∧ NewFus w ti tf (g + 2 + 4 * y.ty.cos.length) y.fs
theorem NewSy.keep {w w' : World} {ti tc tf : TypeId} {g : Nat} {y : Sy} (h : NewSy w ti tc tf g y) (hk : ∀ k, g ≤ k → k < g + 3 + 4 * y.ty.cos.length + 5 * y.fs.length → w'.heap[k]? = w.heap[k]?) : NewSy w' ti tc tf g y :=
  ⟨h.1.keep fun k h1 h2 => hk k h1 (by omega), h.2.keep fun k h1 h2 => hk k (by omega) (by omega)⟩
theorem NewSy.below {w w' : World} {ti tc tf : TypeId} {g : Nat} {y : Sy} {B : Nat} (h : NewSy w ti tc tf g y) (hb : Below B w w') (hB : g + 3 + 4 * y.ty.cos.length + 5 * y.fs.length ≤ B) : NewSy w' ti tc tf g y := h.keep fun k _ hk => hb.block k (by omega)
theorem NewSy.at_ {w : World} {ti tc tf : TypeId} {g : Nat} {y : Sy} (h : NewSy w ti tc tf g y) (hf : y.fits) (hb : y.bulk ≤ 1048576) :
    SyAt w g (g + 3 + 4 * y.ty.cos.length + 5 * y.fs.length) (.slice (some ⟨g, 0, none⟩) y.ty.sizes.length y.ty.sizes.length) (.slice (some ⟨g + 1, 0, none⟩) y.ty.cos.length y.ty.cos.length) (.slice (some ⟨g + 2 + 4 * y.ty.cos.length, 0, none⟩) y.fs.length y.fs.length) y := by
  have hb' := hb
  unfold Sy.bulk at hb'
  exact ⟨(h.1.at_ hf.1 (by omega)).more (Nat.le_refl _) (by omega), (h.2.at_ hf.2 (by omega) fun j hj => Nat.le_trans (y.fu_le j hj) hb).more (by omega) (by omega)⟩

/-- A box of three cells that the call made first, seen from a later world. -/
theorem box3 {w wk : World} {a b c : Value} {t : TypeId} (h : Below (w.heap.size + 1) (w.alloc (.cells #[a, b, c] t)) wk) :
    wk.cell? ⟨w.heap.size, 0, none⟩ = some a ∧ wk.cell? ⟨w.heap.size, 1, none⟩ = some b ∧ wk.cell? ⟨w.heap.size, 2, none⟩ = some c ∧ w.heap.size < wk.heap.size ∧ Below w.heap.size w wk := by
  have hs := h.size
  simp only [World.size_alloc] at hs
  refine ⟨(h.cell (p := ⟨w.heap.size, 0, none⟩) (by dsimp only; omega)).trans ?_, (h.cell (p := ⟨w.heap.size, 1, none⟩) (by dsimp only; omega)).trans ?_, (h.cell (p := ⟨w.heap.size, 2, none⟩) (by dsimp only; omega)).trans ?_, by omega, ((Below.refl _ _).alloc (Nat.le_refl _) _).trans (h.mono (by omega))⟩
  · simp [go_sem]
  · simp [go_sem]
  · simp [go_sem]
end Go.Proofs.YtdemcoghgnnheaaGreatDoor

namespace Go.Proofs.YtdemcoghgnnheaaGreatDoor
open Go.RowKit

set_option maxRecDepth 100000 in
set_option maxHeartbeats 800000 in
theorem szFunction_any (nm : ByteArray) (r : Value) (A : Option Addr) (n c : Nat) (A2 : Option Addr) (n2 c2 : Nat) (left : Int) (w : World) (h0 : 0 ≤ left) (h1 : left ≤ 1048576) (hs : nm.size ≤ maxLen) (hn : n ≤ maxLen) (hn2 : n2 ≤ maxLen) :
    Calls Tryz.prog 68 #[.agg #[.string nm, .slice A n c, r, .slice A2 n2 c2], .int .i64 left] w fun e w' => e = .returned (.int .i64 (subI left (nm.size + n + n2))) ∧ Below w.heap.size w w' := by
  unfold maxLen at hs hn hn2
  by_cases ha : left - nm.size < 0
  · have hs : Hid (subI left (nm.size + n + n2) = -1) := subI_neg (by omega)
    go_enter Tryz.func68, Tryz.ntmps68
    go_wp2
    go_ret
    exact ⟨ret_int hs.out.symm, by go_grown⟩
  · by_cases hb : left - nm.size - n < 0
    · have hs2 : Hid (subI left (nm.size + n + n2) = -1) := subI_neg (by omega)
      have hs := Lib.hid (subI_neg hb)
      go_enter Tryz.func68, Tryz.ntmps68
      go_wp2_with (go_at_call 66; refine (szIntS_any _ _ _ _ _ (by omega) (by omega) (by unfold maxLen; omega)).mono ?_; rintro e w' ⟨rfl, rfl⟩; rw [hs.out])
      go_ret
      exact ⟨ret_int hs2.out.symm, by go_grown⟩
    · have hs := Lib.hid (subI_pos hb)
      by_cases hc : left - nm.size - n - n2 < 0
      · have hs2 : Hid (subI left (nm.size + n + n2) = -1) := subI_neg (by omega)
        have hs3 := Lib.hid (subI_neg hc)
        go_enter Tryz.func68, Tryz.ntmps68
        go_wp2_with (first | (go_at_call 66; with_reducible refine (szIntS_any A n c (left - nm.size) _ (by omega) (by omega) (by unfold maxLen; omega)).mono ?_; rintro e w' ⟨rfl, rfl⟩; rw [hs.out]) | (go_at_call 66; with_reducible refine (szIntS_any A2 n2 c2 (left - nm.size - n) _ (by omega) (by omega) (by unfold maxLen; omega)).mono ?_; rintro e w' ⟨rfl, rfl⟩; rw [hs3.out]))
        go_ret
        exact ⟨ret_int hs2.out.symm, by go_grown⟩
      · have hs2 : Hid (subI left (nm.size + n + n2) = left - nm.size - n - n2) := by
          show _ = _
          rw [subI_pos (by omega)]; omega
        have hs3 := Lib.hid (subI_pos hc)
        go_enter Tryz.func68, Tryz.ntmps68
        go_wp2_with (first | (go_at_call 66; with_reducible refine (szIntS_any A n c (left - nm.size) _ (by omega) (by omega) (by unfold maxLen; omega)).mono ?_; rintro e w' ⟨rfl, rfl⟩; rw [hs.out]) | (go_at_call 66; with_reducible refine (szIntS_any A2 n2 c2 (left - nm.size - n) _ (by omega) (by omega) (by unfold maxLen; omega)).mono ?_; rintro e w' ⟨rfl, rfl⟩; rw [hs3.out]))
        go_ret
        exact ⟨ret_int hs2.out.symm, by go_grown⟩

set_option maxHeartbeats 400000 in
theorem szFunctionS_any (lo hi : Nat) (v : Value) (fs : List Fu) (left : Int) (w : World) (h0 : 0 ≤ left) (h1 : left ≤ 1048576) (hv : FusAt w lo hi v fs) (hB : hi ≤ w.heap.size) :
    Calls Tryz.prog 41 #[v, .int .i64 left] w fun e w' => e = .returned (.int .i64 (subI left (fs.length + fusLen fs fs.length))) ∧ Below w.heap.size w w' := by
  obtain ⟨A, cap, rfl, hl, hm, hc⟩ := hv.form
  unfold maxLen at hm
  clear hv
  by_cases hneg : left - (fs.length : Int) < 0
  · have hs : Hid (subI left (fs.length + fusLen fs fs.length) = -1) := subI_neg (by omega)
    clear hc
    go_enter Tryz.func41, Tryz.ntmps41
    go_wp2
    go_ret
    exact ⟨ret_int hs.out.symm, Below.refl _ _⟩
  · have hc' := Lib.hid hc
    clear hc
    go_enter Tryz.func41, Tryz.ntmps41
    go_wp2
    go_loopw [1, 5] (fun l i wr => ∃ k : Nat, k ≤ fs.length ∧ i = .int .i64 k ∧ l = .int .i64 (left - ((fs.length : Int) + (fusLen fs k : Int))) ∧ 0 ≤ left - ((fs.length : Int) + (fusLen fs k : Int)) ∧ Below w.heap.size w wr) (fun _ i _ => fs.length - (intOf i).toNat)
    case atStart => exact ⟨0, Nat.zero_le _, rfl, by rw [fusLen_zero]; go_num, by rw [fusLen_zero]; omega, Below.refl _ _⟩
    case round =>
      obtain ⟨k, hk, rfl, rfl, hpos, hb⟩ := hrel
      by_cases hlt : k < fs.length
      · obtain ⟨b, off, A1, cap1, A2, cap2, rfl, hlo, hhi, c0, c1, c2, c3, g1, g2, g3, g4, _, _, hn, _⟩ := (hc'.out.below hb hB).at_ hlt
        have hms := Lib.hid (fusLen_succ fs k hlt)
        have hmm := fusLen_mono fs (k + 1)
        rw [hms.out] at hmm
        have hw : (fs.getD k default).weight = fs[k].name.size + fs[k].args.length + fs[k].table.length := by
          rw [List.getD_eq_getElem?_getD, List.getElem?_eq_getElem hlt]; rfl
        rw [hw] at hmm
        have Hw := Lib.hid hw
        clear hw
        clear hc'
        by_cases hn2 : left - ((fs.length : Int) + (fusLen fs k : Int)) - ((fs[k].name.size + fs[k].args.length + fs[k].table.length : Nat) : Int) < 0
        · have hs := Lib.hid (subI_neg hn2)
          have hs' : Hid (subI left (fs.length + fusLen fs fs.length) = -1) := subI_neg (by omega)
          go_wp2_with (go_at_call 68; refine (szFunction_any _ _ _ _ _ _ _ _ _ _ (by omega) (by omega) hn (Nat.le_trans g1 g2) (Nat.le_trans g3 g4)).mono ?_; rintro e w' ⟨rfl, hb2⟩; rw [hs.out])
          go_ret
          exact ⟨ret_int hs'.out.symm, hb.trans (hb2.mono hb.size)⟩
        · have hs := Lib.hid (subI_pos hn2)
          go_wp2_with (go_at_call 68; refine (szFunction_any _ _ _ _ _ _ _ _ _ _ (by omega) (by omega) hn (Nat.le_trans g1 g2) (Nat.le_trans g3 g4)).mono ?_; rintro e w' ⟨rfl, hb2⟩; rw [hs.out])
          go_roundw
          case rel => exact ⟨k + 1, by omega, by go_num, by rw [hms.out, Hw.out]; go_num, by rw [hms.out, Hw.out]; omega, hb.trans (hb2.mono hb.size)⟩
          case measure => simp [intOf]; omega
      · obtain rfl : k = fs.length := by omega
        have hs' : Hid (subI left (fs.length + fusLen fs fs.length) = left - ((fs.length + fusLen fs fs.length : Nat) : Int)) := subI_pos (by omega)
        go_wp2
        go_ret
        exact ⟨ret_int hs'.out.symm, hb⟩

set_option maxHeartbeats 400000 in
theorem szSystem_any (lo hi : Nat) (s c v : Value) (y : Sy) (left : Int) (w : World) (h0 : 0 ≤ left) (h1 : left ≤ 1048576) (hv : SyAt w lo hi s c v y) (hB : hi ≤ w.heap.size) :
    Calls Tryz.prog 13 #[.agg #[s, c, v], .int .i64 left] w fun e w' => e = .returned (.int .i64 (subI left y.bulk)) ∧ Below w.heap.size w w' := by
  obtain ⟨hty, hfs⟩ := hv
  obtain ⟨A, cap, rfl, _, _, hz⟩ := hty.1.form
  obtain ⟨A2, cap2, rfl, _, _, hco⟩ := hty.2.form
  obtain ⟨A3, cap3, rfl, _, _, hfu⟩ := hfs.form
  have hT : TyAt w lo hi (.slice A y.ty.sizes.length cap) (.slice A2 y.ty.cos.length cap2) y.ty := ⟨hz, hco⟩
  clear hty hfs hz hco
  have e : y.bulk = y.ty.bulk + (y.fs.length + fusLen y.fs y.fs.length) := rfl
  have h3 : Below w.heap.size w (w.alloc (.cells #[.slice A y.ty.sizes.length cap, .slice A2 y.ty.cos.length cap2, .slice A3 y.fs.length cap3] 28)) := by go_grown
  by_cases h : left - (y.ty.bulk : Int) < 0
  · have hs := Lib.hid (subI_neg h)
    have hs2 : Hid (subI left y.bulk = -1) := subI_neg (by rw [e]; omega)
    clear e
    go_enter Tryz.func13, Tryz.ntmps13
    go_wp2_with (go_at_call 40; refine (szTypes_any lo hi _ _ y.ty _ _ h0 h1 (hT.below h3 hB) (by simp; omega)).mono ?_; rintro e w' ⟨rfl, hb⟩; rw [hs.out])
    go_ret
    exact ⟨ret_int hs2.out.symm, h3.trans (hb.mono (by simp))⟩
  · have hs := Lib.hid (subI_pos h)
    have hss := subI_sub (m := y.fs.length + fusLen y.fs y.fs.length) h
    rw [← e] at hss
    have hle : (y.ty.bulk : Int) ≤ left := by omega
    have arm := fun (wx : World) (hbx : Below w.heap.size w wx) => szFunctionS_any lo hi _ y.fs (left - y.ty.bulk) wx (by omega) (by omega) (hfu.below hbx hB) (Nat.le_trans hB hbx.size)
    have Arm := Lib.hid arm
    clear arm
    have Hss := Lib.hid hss
    clear hss e
    go_enter Tryz.func13, Tryz.ntmps13
    go_wp2_with fail
    refine (szTypes_any lo hi _ _ y.ty _ _ h0 h1 (hT.below h3 hB) (by simp; omega)).mono ?_
    rintro e w1 ⟨rfl, hb⟩
    have hbel := h3.trans (hb.mono (by simp))
    obtain ⟨hcl, hfr⟩ := bcell hb
    have hz1 := hb.size
    simp only [World.size_alloc] at hcl hfr hz1
    have Hbel := Lib.hid hbel
    clear hbel hb h3
    have hz2 : w.heap.size < w1.heap.size := by omega
    rw [hs.out]
    by_cases h2 : left - y.ty.bulk - ((y.fs.length + fusLen y.fs y.fs.length : Nat) : Int) < 0
    · have hs2 := Lib.hid (subI_neg h2)
      go_wp2_with (go_at_call 41; refine (Arm.out _ Hbel.out).mono ?_; rintro e w' ⟨rfl, hb2⟩; rw [hs2.out])
      go_ret
      exact ⟨ret_int (by rw [← Hss.out, hs2.out]; try omega), Hbel.out.trans (hb2.mono (by omega))⟩
    · have hs2 := Lib.hid (subI_pos h2)
      go_wp2_with (go_at_call 41; refine (Arm.out _ Hbel.out).mono ?_; rintro e w' ⟨rfl, hb2⟩; rw [hs2.out])
      go_ret
      exact ⟨ret_int (by rw [← Hss.out, hs2.out]; try omega), Hbel.out.trans (hb2.mono (by omega))⟩
end Go.Proofs.YtdemcoghgnnheaaGreatDoor

namespace Go.Proofs.YtdemcoghgnnheaaGreatDoor
open Go.RowKit

theorem Tryz.infoInt : (Tryz.prog.info? 3).map (fun i => (i.zero, i.size, i.bytes)) = some (some (.int .i64 0), 1, 8) := by kernel_rfl

set_option maxHeartbeats 400000 in
theorem toIntS_any (lo hi : Nat) (v : Value) (zs : List Int) (w : World) (hv : IntsAt w lo hi v zs) (hB : hi ≤ w.heap.size) (hlen : zs.length ≤ 1048576) :
    Calls Tryz.prog 75 #[v] w fun e w' => e = .returned (.slice (some ⟨w.heap.size, 0, none⟩) zs.length zs.length) ∧ Below w.heap.size w w' ∧ w'.heap.size = w.heap.size + 1 ∧ Row w' w.heap.size 3 (zs.map (Value.int .i64)) := by
  obtain ⟨A, cap, rfl, hl, hm, hw, hc⟩ := hv
  unfold maxLen at hm
  have hmk := fun wx => run_make_row' (P := Tryz.prog) 22 3 (.int .i64 0) 8 Tryz.underlying22 Tryz.infoInt rfl .i64 .i64 zs.length (by omega) (by omega) wx
  rw [madeCells_one] at hmk
  have hc' := Lib.hid hc
  clear hc
  go_enter Tryz.func75, Tryz.ntmps75
  go_wp2
  go_loopw [4] (fun i wr => ∃ k : Nat, k ≤ zs.length ∧ i = .int .i64 k ∧ Below w.heap.size w wr ∧ wr.heap.size = w.heap.size + 1 ∧ Row wr w.heap.size 3 ((zs.take k).map (Value.int .i64) ++ List.replicate (zs.length - k) (.int .i64 0))) (fun i _ => zs.length - (intOf i).toNat)
  case atStart => exact ⟨0, Nat.zero_le _, rfl, (Below.refl _ _).alloc (Nat.le_refl _) _, by simp, by rw [fill_zero]; exact Row.new _ _ _⟩
  case round =>
    obtain ⟨k, hk, rfl, hb, hsz, hrow⟩ := hrel
    by_cases hlt : k < zs.length
    · obtain ⟨b, off, rfl, hlo, hhi, hcell⟩ := hc'.out (by omega)
      have c0 := (hb.cell (p := ⟨b, off + k, none⟩) (by simp; omega)).trans (hcell k hlt)
      have c1 := hrow.cell_some (i := k) (by rw [fill_len _ _ _ _ hk]; exact hlt)
      have f1 := hrow.frozen k
      have hset := hrow.set_ k (.int .i64 zs[k])
      rw [fill_step _ _ _ _ hlt] at hset
      generalize ((zs.take k).map (Value.int .i64) ++ List.replicate (zs.length - k) (.int .i64 0))[k]'(by rw [fill_len _ _ _ _ hk]; exact hlt) = u at c1
      have H := Lib.hid hset
      clear hset hrow hcell hc'
      go_wp2
      go_roundw
      case rel => exact ⟨k + 1, by omega, by go_num, hb.setCell (Nat.le_refl _) _, by simpa [World.setCell] using hsz, H.out⟩
      case measure => simp [intOf]; omega
    · obtain rfl : k = zs.length := by omega
      rw [fill_all] at hrow
      have H := Lib.hid hrow
      clear hrow hc'
      go_wp2
      go_ret
      exact ⟨rfl, hb, hsz, H.out⟩

set_option maxHeartbeats 400000 in
theorem toCoercion_any (lo hi : Nat) (x y z : Value) (c : Co) (w : World) (hv : CoAt w lo hi x y z c) (hB : hi ≤ w.heap.size) (hlen : c.map.length ≤ 1048576) :
    Calls Tryz.prog 116 #[.agg #[x, y, z]] w fun e w' => e = .returned (.agg #[.int .i64 c.src, .int .i64 c.dst, .slice (some ⟨w.heap.size + 3, 0, none⟩) c.map.length c.map.length]) ∧
      Below w.heap.size w w' ∧ w'.heap.size = w.heap.size + 4 ∧ Row w' (w.heap.size + 3) 3 (c.map.map (Value.int .i64)) := by
  obtain ⟨rfl, rfl, hs, hd, hz⟩ := hv
  obtain ⟨A, cap, rfl, _, _, hz⟩ := hz.form
  go_enter Tryz.func116, Tryz.ntmps116
  have h3 : Below w.heap.size w (((w.alloc (.cells #[.int .i64 c.src, .int .i64 c.dst, .slice A c.map.length cap] 159)).alloc (.cells #[.int .i64 0, .int .i64 0, .slice none 0 0] 138)).alloc (.cells #[.int .i64 c.src, .int .i64 c.dst, .slice none 0 0] 138)) := by go_grown
  go_wp2_with fail
  refine (toIntS_any lo hi _ c.map _ (hz.below h3 hB) (by simp; omega) hlen).mono ?_
  rintro e w1 ⟨rfl, hb, hsz, hrow⟩
  have hbel := h3.trans (hb.mono (by simp; omega))
  obtain ⟨hcl, hfr⟩ := bcell hb
  simp only [World.size_alloc] at hsz hrow hcl hfr
  have hz1 : w.heap.size + 1 + 1 < w1.heap.size := by omega
  have Hrow := Lib.hid hrow
  have Hsz := Lib.hid hsz
  clear hsz hrow
  go_wp2
  refine bodyPost_ret (v := .agg #[.int .i64 c.src, .int .i64 c.dst, .slice (some ⟨w.heap.size + 1 + 1 + 1, 0, none⟩) c.map.length c.map.length]) (by simp [results, Tryz.results116, go_sem, hcl]) rfl ⟨rfl, ?_, ?_, ?_⟩
  · exact (((hbel.setCell (by dsimp only; omega) _).setCell (by dsimp only; omega) _).setCell (by dsimp only; omega) _).setCell (by dsimp only; omega) _
  · simpa [World.setCell] using Hsz.out
  · exact (((Hrow.out.far (by dsimp only; omega) _).far (by dsimp only; omega) _).far (by dsimp only; omega) _).far (by dsimp only; omega) _

theorem infoCoercion : (Tryz.prog.info? 138).map (fun i => (i.zero, i.size, i.bytes)) = some (some (.agg #[.int .i64 0, .int .i64 0, .slice none 0 0]), 3, 40) := by kernel_rfl

theorem run_make_rows {P : Program} (t e : TypeId) (i : TypeInfo) (z : Value) (ht : P.underlying t = some (.slice e)) (hi : P.info? e = some i) (hz : i.zero = some z)
    (kl kc : IntKind) (n : Nat) (hbytes : i.bytes * n ≤ 281474976710656) (h63 : n ≤ 9223372036854775807) (w : World) :
    (Instr.makeSlice t (.int kl (n : Int)) (.int kc (n : Int))).run P w = .ok (.slice (some ⟨w.heap.size, 0, none⟩) n n) (w.alloc (.cells (madeCells z.cells (n * i.size)) e)) := by
  have hb : (i.bytes : Int) * (n : Int) ≤ 281474976710656 := by
    have h : ((i.bytes * n : Nat) : Int) ≤ 281474976710656 := by omega
    rwa [Int.natCast_mul] at h
  have hr := run_make (P := P) w t e i z ht hi hz kl kc n n (by omega) (by omega) hb (by omega)
  simp only [Int.toNat_natCast] at hr
  exact hr

set_option maxHeartbeats 800000 in
theorem toCoercionS_any (lo hi : Nat) (v : Value) (cs : List Co) (w : World) (hv : CosAt w lo hi v cs) (hB : hi ≤ w.heap.size) (hlen : cs.length ≤ 1048576) (hmaps : ∀ j, ∀ (hj : j < cs.length), cs[j].map.length ≤ 1048576) :
    Calls Tryz.prog 76 #[v] w fun e w' => e = .returned (.slice (some ⟨w.heap.size, 0, none⟩) cs.length cs.length) ∧
      Below w.heap.size w w' ∧ w'.heap.size = w.heap.size + 1 + 4 * cs.length ∧ (∃ xs, Row w' w.heap.size 138 xs ∧ CoRow xs (fun j => w.heap.size + 1 + 4 * j + 3) cs cs.length) ∧
      ∀ j, ∀ (hj : j < cs.length), Row w' (w.heap.size + 1 + 4 * j + 3) 3 (cs[j].map.map (Value.int .i64)) := by
  obtain ⟨A, cap, rfl, hl, hm, hcos⟩ := hv.form
  unfold maxLen at hm
  obtain ⟨i0, hi0, hz0, hs0, hb0⟩ := info_parts infoCoercion
  have hmk := fun wx => run_make_rows (P := Tryz.prog) 32 138 i0 _ Tryz.underlying32 hi0 hz0 .i64 .i64 cs.length (by rw [hb0]; omega) (by omega) wx
  rw [hs0] at hmk
  clear hi0 hz0 hs0 hb0
  generalize hX : madeCells (Value.agg #[.int .i64 0, .int .i64 0, .slice none 0 0]).cells (cs.length * 3) = X at hmk
  have hXs : X.toList.length = cs.length * 3 := by rw [← hX]; simp [madeCells]
  have HX := Lib.hid hXs
  clear hX hXs hv
  go_enter Tryz.func76, Tryz.ntmps76
  go_wp2
  go_loopw [4] (fun i wr => ∃ k : Nat, k ≤ cs.length ∧ i = .int .i64 k ∧ Below w.heap.size w wr ∧ wr.heap.size = w.heap.size + 1 + 4 * k ∧ (∃ xs, Row wr w.heap.size 138 xs ∧ CoRow xs (fun j => w.heap.size + 1 + 4 * j + 3) cs k) ∧
      ∀ j, j < k → ∀ (hj : j < cs.length), Row wr (w.heap.size + 1 + 4 * j + 3) 3 (cs[j].map.map (Value.int .i64))) (fun i _ => cs.length - (intOf i).toNat)
  case atStart => exact ⟨0, Nat.zero_le _, rfl, (Below.refl _ _).alloc (Nat.le_refl _) _, by simp, ⟨X.toList, by simpa using Row.new w _ X.toList, HX.out, fun j hj => absurd hj (by omega)⟩, fun j hj => absurd hj (by omega)⟩
  case round =>
    obtain ⟨k, hk, rfl, hb, hsz, ⟨xs, hrow, hxs⟩, hmr⟩ := hrel
    by_cases hlt : k < cs.length
    · have hin := hcos.below hb hB
      obtain ⟨b, off, A2, cap2, rfl, hlo, hhi, c0, c1, c2, h5, h6, hs, hd, hz2⟩ := hin.at_ hlt
      have hmap := hmaps k hlt
      have Hs := Lib.hid hsz
      clear hsz
      have hbs := hb.size
      go_wp2_with fail
      refine (toCoercion_any lo hi _ _ _ cs[k] _ ⟨rfl, rfl, hs, hd, hz2⟩ (by omega) hmap).mono ?_
      rintro e w1 ⟨rfl, hb1, hsz1, hrow1⟩
      have hrow' := hrow.below hb1 hrow.lt
      have hlx := hxs.1
      have d0 := hrow'.cell_some (i := k * 3) (by omega)
      have d1 := hrow'.cell_some (i := k * 3 + 1) (by omega)
      have d2 := hrow'.cell_some (i := k * 3 + 2) (by omega)
      have g0 := hrow'.frozen (k * 3)
      have g1 := hrow'.frozen (k * 3 + 1)
      have g2 := hrow'.frozen (k * 3 + 2)
      generalize xs[k * 3]'(by omega) = y0 at d0
      generalize xs[k * 3 + 1]'(by omega) = y1 at d1
      generalize xs[k * 3 + 2]'(by omega) = y2 at d2
      have Hx := Lib.hid hxs
      have Hs1 := Lib.hid hsz1
      have Hr := Lib.hid hrow'
      have Hr1 := Lib.hid hrow1
      have Hmr := Lib.hid hmr
      have Hb := Lib.hid hb
      have Hb1 := Lib.hid hb1
      clear hxs hsz1 hrow' hrow1 hmr hrow hlx hin hcos hz2 hb hb1
      go_wp2
      go_roundw
      case rel => 
        have e1 := Hs.out
        have e2 := Hs1.out
        have hbb := Hb.out.trans (Hb1.out.mono (by omega : w.heap.size ≤ wr.heap.size))
        refine ⟨k + 1, by omega, by go_num, ((hbb.setCell (Nat.le_refl _) _).setCell (Nat.le_refl _) _).setCell (Nat.le_refl _) _, ?_, ⟨_, ((Hr.out.set_ _ _).set_ _ _).set_ _ _, ?_⟩, ?_⟩
        · simp only [World.setCell, Array.size_modify]; omega
        · have := Hx.out.step hlt
          rw [← e1] at this
          exact this
        · intro j hj hjl
          by_cases ejk : j = k
          · subst ejk
            rw [← e1]
            exact ((Hr1.out.far (by dsimp only; omega) _).far (by dsimp only; omega) _).far (by dsimp only; omega) _
          · exact ((((Hmr.out j (by omega) hjl).below Hb1.out (by omega)).far (by dsimp only; omega) _).far (by dsimp only; omega) _).far (by dsimp only; omega) _
      case measure => simp [intOf]; omega
    · obtain rfl : k = cs.length := by omega
      have H : Hid (Below w.heap.size w wr ∧ wr.heap.size = w.heap.size + 1 + 4 * cs.length ∧ (∃ xs, Row wr w.heap.size 138 xs ∧ CoRow xs (fun j => w.heap.size + 1 + 4 * j + 3) cs cs.length) ∧
        ∀ j, ∀ (hj : j < cs.length), Row wr (w.heap.size + 1 + 4 * j + 3) 3 (cs[j].map.map (Value.int .i64))) := ⟨hb, hsz, ⟨xs, hrow, hxs⟩, fun j hj => hmr j hj hj⟩
      clear hb hsz hrow hxs hmr hcos
      go_wp2
      go_ret
      exact ⟨rfl, H.out⟩

set_option maxHeartbeats 400000 in
theorem toTypes_any (lo hi : Nat) (s c : Value) (t : Ty) (w : World) (hv : TyAt w lo hi s c t) (hB : hi ≤ w.heap.size) (hlen : t.bulk ≤ 1048576) :
    Calls Tryz.prog 44 #[.agg #[s, c]] w fun e w' => e = .returned (.agg #[.slice (some ⟨w.heap.size + 3, 0, none⟩) t.sizes.length t.sizes.length, .slice (some ⟨w.heap.size + 4, 0, none⟩) t.cos.length t.cos.length]) ∧
      Below w.heap.size w w' ∧ w'.heap.size = w.heap.size + 5 + 4 * t.cos.length ∧ NewTy w' 3 138 (w.heap.size + 3) t := by
  obtain ⟨h1, h2⟩ := hv
  obtain ⟨A, cap, rfl, _, _, hz⟩ := h1.form
  obtain ⟨A2, cap2, rfl, _, _, hcos⟩ := h2.form
  have hl1 : t.sizes.length ≤ 1048576 := by unfold Ty.bulk at hlen; omega
  have hl2 : t.cos.length ≤ 1048576 := by unfold Ty.bulk at hlen; omega
  have hl3 : Hid (∀ j, ∀ (hj : j < t.cos.length), t.cos[j].map.length ≤ 1048576) := fun j hj => Nat.le_trans (t.map_le j hj) hlen
  clear h1 h2
  have h3 : Below w.heap.size w (((w.alloc (.cells #[.slice A t.sizes.length cap, .slice A2 t.cos.length cap2] 25)).alloc (.cells #[.slice none 0 0, .slice none 0 0] 34)).alloc (.cells #[.slice none 0 0, .slice none 0 0] 34)) := by go_grown
  go_enter Tryz.func44, Tryz.ntmps44
  go_wp2_with fail
  refine (toIntS_any lo hi _ t.sizes _ (hz.below h3 hB) (by simp; omega) hl1).mono ?_
  rintro e w1 ⟨rfl, hb, hsz, hrow⟩
  have hbel := h3.trans (hb.mono (by simp; omega))
  obtain ⟨hcl, hfr⟩ := bcell hb
  simp only [World.size_alloc] at hsz hrow hcl hfr
  have hz1 : w.heap.size + 1 + 1 < w1.heap.size := by omega
  have Hrow := Lib.hid hrow
  have Hsz := Lib.hid hsz
  have Hbel := Lib.hid hbel
  clear hsz hrow hbel hb h3
  go_wp2_with fail
  have hs1 : (w1.setCell ⟨w.heap.size + 1 + 1, 0, none⟩ (.slice (some ⟨w.heap.size + 1 + 1 + 1, 0, none⟩) t.sizes.length t.sizes.length)).heap.size = w.heap.size + 1 + 1 + 1 + 1 := by simpa [World.setCell] using Hsz.out
  have hb1 : Below w.heap.size w (w1.setCell ⟨w.heap.size + 1 + 1, 0, none⟩ (.slice (some ⟨w.heap.size + 1 + 1 + 1, 0, none⟩) t.sizes.length t.sizes.length)) := Hbel.out.setCell (by dsimp only; omega) _
  have hr1 : Row (w1.setCell ⟨w.heap.size + 1 + 1, 0, none⟩ (.slice (some ⟨w.heap.size + 1 + 1 + 1, 0, none⟩) t.sizes.length t.sizes.length)) (w.heap.size + 1 + 1 + 1) 3 (t.sizes.map (Value.int .i64)) := Hrow.out.far (by dsimp only; omega) _
  refine (toCoercionS_any lo hi _ t.cos _ (hcos.below hb1 hB) (by rw [hs1]; omega) hl2 hl3.out).mono ?_
  rintro e w2 ⟨rfl, hb2, hsz2, ⟨xs, hrow2, hxs⟩, hmr⟩
  obtain ⟨hcl2, hfr2⟩ := bcell hb2
  have hbel2 := hb1.trans (hb2.mono (by rw [hs1]; omega))
  have hr2 := hr1.below hb2 (by rw [hs1]; omega)
  rw [hs1] at hsz2 hrow2 hcl2 hfr2 hxs hmr
  have hs1' := Lib.hid hs1
  have hz2 : w.heap.size + 1 + 1 < w2.heap.size := by omega
  have Hsz2 := Lib.hid hsz2
  have Hbel2 := Lib.hid hbel2
  have Hr2 := Lib.hid hr2
  have Hrow2 := Lib.hid hrow2
  have Hxs := Lib.hid hxs
  have Hmr := Lib.hid hmr
  clear hsz2 hbel2 hr2 hrow2 hxs hmr hs1 hb1 hr1 hb2 hcos hz
  rw [hs1'.out]
  go_wp2
  refine bodyPost_ret (v := .agg #[.slice (some ⟨w.heap.size + 1 + 1 + 1, 0, none⟩) t.sizes.length t.sizes.length, .slice (some ⟨w.heap.size + 1 + 1 + 1 + 1, 0, none⟩) t.cos.length t.cos.length]) (by simp [results, Tryz.results44, go_sem, hcl2, hcl]) rfl ⟨rfl, ?_, ?_, ?_⟩
  · exact ((Hbel2.out.setCell (by dsimp only; omega) _).setCell (by dsimp only; omega) _).setCell (by dsimp only; omega) _
  · have := Hsz2.out
    simp only [World.setCell, Array.size_modify]; omega
  · refine ⟨((Hr2.out.far (by dsimp only; omega) _).far (by dsimp only; omega) _).far (by dsimp only; omega) _, ⟨xs, ((Hrow2.out.far (by dsimp only; omega) _).far (by dsimp only; omega) _).far (by dsimp only; omega) _, Hxs.out⟩, fun j hj => ?_⟩
    exact (((Hmr.out j hj).far (by dsimp only; omega) _).far (by dsimp only; omega) _).far (by dsimp only; omega) _
end Go.Proofs.YtdemcoghgnnheaaGreatDoor

namespace Go.Proofs.YtdemcoghgnnheaaGreatDoor
open Go.RowKit

set_option maxHeartbeats 800000 in
theorem toFunction_any (lo hi : Nat) (x a r t : Value) (f : Fu) (w : World) (hv : FuAt w lo hi x a r t f) (hB : hi ≤ w.heap.size) (hlen : f.args.length ≤ 1048576) (hlen2 : f.table.length ≤ 1048576) :
    Calls Tryz.prog 77 #[.agg #[x, a, r, t]] w fun e w' => e = .returned (.agg #[.string f.name, .slice (some ⟨w.heap.size + 3, 0, none⟩) f.args.length f.args.length, .int .i64 f.res, .slice (some ⟨w.heap.size + 4, 0, none⟩) f.table.length f.table.length]) ∧
      Below w.heap.size w w' ∧ w'.heap.size = w.heap.size + 5 ∧ Row w' (w.heap.size + 3) 3 (f.args.map (Value.int .i64)) ∧ Row w' (w.heap.size + 4) 3 (f.table.map (Value.int .i64)) := by
  obtain ⟨rfl, rfl, _, hs, ha, ht⟩ := hv
  obtain ⟨A, cap, rfl, _, _, ha⟩ := ha.form
  obtain ⟨B, bap, rfl, _, _, ht⟩ := ht.form
  go_enter Tryz.func77, Tryz.ntmps77
  go_wp2_with fail
  have h3 : Below w.heap.size w ((((w.alloc (.cells #[.string f.name, .slice A f.args.length cap, .int .i64 f.res, .slice B f.table.length bap] 104)).alloc (.cells #[.string ByteArray.empty, .slice none 0 0, .int .i64 0, .slice none 0 0] 110)).alloc (.cells #[.string f.name, .slice none 0 0, .int .i64 0, .slice none 0 0] 110))) := by go_grown
  refine (toIntS_any lo hi _ f.args _ (ha.below h3 hB) (by simp; omega) hlen).mono ?_
  rintro e w1 ⟨rfl, hb, hsz, hrow⟩
  have hbel := h3.trans (hb.mono (by simp; omega))
  obtain ⟨hcl, hfr⟩ := bcell hb
  simp only [World.size_alloc] at hsz hrow hcl hfr
  have hz1 : w.heap.size + 1 + 1 < w1.heap.size := by omega
  have Hrow := Lib.hid hrow
  have Hsz := Lib.hid hsz
  have Hbel := Lib.hid hbel
  have Hbw := Lib.hid hb
  clear hsz hrow hbel hb h3 ha
  go_wp2_with fail
  obtain ⟨wu, hwu⟩ : ∃ wu, wu = ((w1.setCell ⟨w.heap.size + 1 + 1, 1, none⟩ (.slice (some ⟨w.heap.size + 1 + 1 + 1, 0, none⟩) f.args.length f.args.length)).setCell ⟨w.heap.size + 1 + 1, 2, none⟩ (.int .i64 f.res)) := ⟨_, rfl⟩
  have hs1 : wu.heap.size = w.heap.size + 1 + 1 + 1 + 1 := by rw [hwu]; simpa [World.setCell] using Hsz.out
  have hb1 : Below w.heap.size w wu := by rw [hwu]; exact (Hbel.out.setCell (by dsimp only; omega) _).setCell (by dsimp only; omega) _
  have hr1 : Row wu (w.heap.size + 1 + 1 + 1) 3 (f.args.map (Value.int .i64)) := by rw [hwu]; exact (Hrow.out.far (by dsimp only; omega) _).far (by dsimp only; omega) _
  have hR1 : Row w1 (w.heap.size + 1 + 1) 110 [.string f.name, .slice none 0 0, .int .i64 0, .slice none 0 0] := by
    have hnew := Row.new ((w.alloc (.cells #[.string f.name, .slice A f.args.length cap, .int .i64 f.res, .slice B f.table.length bap] 104)).alloc (.cells #[.string ByteArray.empty, .slice none 0 0, .int .i64 0, .slice none 0 0] 110)) 110 [.string f.name, .slice none 0 0, .int .i64 0, .slice none 0 0]
    simp only [World.size_alloc] at hnew
    exact hnew.below Hbw.out (by simp)
  have hRu : Row wu (w.heap.size + 1 + 1) 110 [.string f.name, .slice (some ⟨w.heap.size + 1 + 1 + 1, 0, none⟩) f.args.length f.args.length, .int .i64 f.res, .slice none 0 0] := by rw [hwu]; exact (hR1.set_ 1 _).set_ 2 _
  have hB1 : Row w1 (w.heap.size + 1) 110 [.string ByteArray.empty, .slice none 0 0, .int .i64 0, .slice none 0 0] := by
    have hnew := (Row.new (w.alloc (.cells #[.string f.name, .slice A f.args.length cap, .int .i64 f.res, .slice B f.table.length bap] 104)) 110 [.string ByteArray.empty, .slice none 0 0, .int .i64 0, .slice none 0 0]).alloc (.cells #[.string f.name, .slice none 0 0, .int .i64 0, .slice none 0 0] 110)
    simp only [World.size_alloc] at hnew
    exact hnew.below Hbw.out (by simp)
  have hBu : Row wu (w.heap.size + 1) 110 [.string ByteArray.empty, .slice none 0 0, .int .i64 0, .slice none 0 0] := by rw [hwu]; exact (hB1.far (by dsimp only; omega) _).far (by dsimp only; omega) _
  rw [← hwu]
  clear hwu hcl hfr
  refine (toIntS_any lo hi _ f.table _ (ht.below hb1 hB) (by rw [hs1]; omega) hlen2).mono ?_
  rintro e w2 ⟨rfl, hb2, hsz2, hrow2⟩
  rw [hs1] at hsz2 hrow2
  have hbel2 := Lib.hid (hb1.trans (hb2.mono (by omega)))
  have hr2 := Lib.hid (hr1.below hb2 (by omega))
  have hR2 := hRu.below hb2 (by omega)
  have hR2x := Lib.hid hR2
  have k0 := hR2.cell 0
  have k1 := hR2.cell 1
  have k2 := hR2.cell 2
  have k3 := hR2.cell 3
  have m0 := hR2.frozen 0
  have m1 := hR2.frozen 1
  have m2 := hR2.frozen 2
  have m3 := hR2.frozen 3
  simp only [List.getElem?_cons_zero, List.getElem?_cons_succ] at k0 k1 k2 k3
  have hR3 := Lib.hid (hBu.below hb2 (by omega))
  have e0 := hR3.out.cell 0
  have e1 := hR3.out.cell 1
  have e2 := hR3.out.cell 2
  have e3 := hR3.out.cell 3
  have f0 := hR3.out.frozen 0
  have f1 := hR3.out.frozen 1
  have f2 := hR3.out.frozen 2
  have f3 := hR3.out.frozen 3
  simp only [List.getElem?_cons_zero, List.getElem?_cons_succ] at e0 e1 e2 e3
  have Hsz2 := Lib.hid hsz2
  have Hrow2 := Lib.hid hrow2
  rw [hs1]
  clear hsz2 hrow2 hb2 hb1 hr1 hRu hR2 hs1 hR1 hB1 hBu
  have Hb2 := hbel2
  go_wp2
  refine bodyPost_ret (v := .agg #[.string f.name, .slice (some ⟨w.heap.size + 1 + 1 + 1, 0, none⟩) f.args.length f.args.length, .int .i64 f.res, .slice (some ⟨w.heap.size + 1 + 1 + 1 + 1, 0, none⟩) f.table.length f.table.length]) (by simp [results, Tryz.results77, go_sem, e0, e1, e2, e3]) rfl ⟨rfl, ?_, ?_, ?_, ?_⟩
  · exact ((((Hb2.out.setCell (by dsimp only; omega) _).setCell (by dsimp only; omega) _).setCell (by dsimp only; omega) _).setCell (by dsimp only; omega) _).setCell (by dsimp only; omega) _
  · have := Hsz2.out
    simp only [World.setCell, Array.size_modify]; omega
  · exact ((((hr2.out.far (by dsimp only; omega) _).far (by dsimp only; omega) _).far (by dsimp only; omega) _).far (by dsimp only; omega) _).far (by dsimp only; omega) _
  · exact ((((Hrow2.out.far (by dsimp only; omega) _).far (by dsimp only; omega) _).far (by dsimp only; omega) _).far (by dsimp only; omega) _).far (by dsimp only; omega) _

theorem infoFunction : (Tryz.prog.info? 110).map (fun i => (i.zero, i.size, i.bytes)) = some (some (.agg #[.string ByteArray.empty, .slice none 0 0, .int .i64 0, .slice none 0 0]), 4, 72) := by kernel_rfl

set_option maxHeartbeats 1600000 in
theorem toFunctionS_any (lo hi : Nat) (v : Value) (fs : List Fu) (w : World) (hv : FusAt w lo hi v fs) (hB : hi ≤ w.heap.size) (hlen : fs.length ≤ 1048576) (hmaps : ∀ j, ∀ (hj : j < fs.length), fs[j].weight ≤ 1048576) :
    Calls Tryz.prog 45 #[v] w fun e w' => e = .returned (.slice (some ⟨w.heap.size, 0, none⟩) fs.length fs.length) ∧
      Below w.heap.size w w' ∧ w'.heap.size = w.heap.size + 1 + 5 * fs.length ∧ NewFus w' 3 110 w.heap.size fs := by
  obtain ⟨A, cap, rfl, hl, hm, hcos⟩ := hv.form
  unfold maxLen at hm
  obtain ⟨i0, hi0, hz0, hs0, hb0⟩ := info_parts infoFunction
  have hmk := fun wx => run_make_rows (P := Tryz.prog) 35 110 i0 _ Tryz.underlying35 hi0 hz0 .i64 .i64 fs.length (by rw [hb0]; omega) (by omega) wx
  rw [hs0] at hmk
  clear hi0 hz0 hs0 hb0
  generalize hX : madeCells (Value.agg #[.string ByteArray.empty, .slice none 0 0, .int .i64 0, .slice none 0 0]).cells (fs.length * 4) = X at hmk
  have hXs : X.toList.length = fs.length * 4 := by rw [← hX]; simp [madeCells]
  have HX := Lib.hid hXs
  clear hX hXs hv
  go_enter Tryz.func45, Tryz.ntmps45
  go_wp2
  go_loopw [4] (fun i wr => ∃ k : Nat, k ≤ fs.length ∧ i = .int .i64 k ∧ Below w.heap.size w wr ∧ wr.heap.size = w.heap.size + 1 + 5 * k ∧ (∃ xs, Row wr w.heap.size 110 xs ∧ FuRow xs (fun j => w.heap.size + 1 + 5 * j + 3) (fun j => w.heap.size + 1 + 5 * j + 4) fs k) ∧
      ∀ j, j < k → ∀ (hj : j < fs.length), Row wr (w.heap.size + 1 + 5 * j + 3) 3 (fs[j].args.map (Value.int .i64)) ∧ Row wr (w.heap.size + 1 + 5 * j + 4) 3 (fs[j].table.map (Value.int .i64))) (fun i _ => fs.length - (intOf i).toNat)
  case atStart => exact ⟨0, Nat.zero_le _, rfl, (Below.refl _ _).alloc (Nat.le_refl _) _, by simp, ⟨X.toList, by simpa using Row.new w _ X.toList, HX.out, fun j hj => absurd hj (by omega)⟩, fun j hj => absurd hj (by omega)⟩
  case round =>
    obtain ⟨k, hk, rfl, hb, hsz, ⟨xs, hrow, hxs⟩, hmr⟩ := hrel
    by_cases hlt : k < fs.length
    · have hin := hcos.below hb hB
      obtain ⟨b, off, A1, cap1, A2, cap2, rfl, hlo, hhi, c0, c1, c2, c3, h5, h6, h7, h8, hfu⟩ := hin.at_ hlt
      have hmap := hmaps k hlt
      unfold Fu.weight at hmap
      have Hs := Lib.hid hsz
      clear hsz
      have hbs := hb.size
      go_wp2_with fail
      refine (toFunction_any lo hi _ _ _ _ fs[k] _ hfu (by omega) (by omega) (by omega)).mono ?_
      rintro e w1 ⟨rfl, hb1, hsz1, hrow1, hrow1'⟩
      have hrow' := hrow.below hb1 hrow.lt
      have hlx := hxs.1
      have d0 := hrow'.cell_some (i := k * 4) (by omega)
      have d1 := hrow'.cell_some (i := k * 4 + 1) (by omega)
      have d2 := hrow'.cell_some (i := k * 4 + 2) (by omega)
      have d3 := hrow'.cell_some (i := k * 4 + 3) (by omega)
      have g0 := hrow'.frozen (k * 4)
      have g1 := hrow'.frozen (k * 4 + 1)
      have g2 := hrow'.frozen (k * 4 + 2)
      have g3 := hrow'.frozen (k * 4 + 3)
      generalize xs[k * 4]'(by omega) = y0 at d0
      generalize xs[k * 4 + 1]'(by omega) = y1 at d1
      generalize xs[k * 4 + 2]'(by omega) = y2 at d2
      generalize xs[k * 4 + 3]'(by omega) = y3 at d3
      have Hx := Lib.hid hxs
      have Hs1 := Lib.hid hsz1
      have Hr := Lib.hid hrow'
      have Hr1 := Lib.hid hrow1
      have Hr1' := Lib.hid hrow1'
      have Hmr := Lib.hid hmr
      have Hb := Lib.hid hb
      have Hb1 := Lib.hid hb1
      clear hxs hsz1 hrow' hrow1 hrow1' hmr hrow hlx hin hcos hfu hb hb1
      go_wp2
      go_roundw
      case rel =>
        have e1 := Hs.out
        have e2 := Hs1.out
        have hbb := Hb.out.trans (Hb1.out.mono (by omega : w.heap.size ≤ wr.heap.size))
        refine ⟨k + 1, by omega, by go_num, (((hbb.setCell (Nat.le_refl _) _).setCell (Nat.le_refl _) _).setCell (Nat.le_refl _) _).setCell (Nat.le_refl _) _, ?_, ⟨_, (((Hr.out.set_ _ _).set_ _ _).set_ _ _).set_ _ _, ?_⟩, ?_⟩
        · simp only [World.setCell, Array.size_modify]; omega
        · have := Hx.out.step hlt
          rw [← e1] at this
          exact this
        · intro j hj hjl
          by_cases ejk : j = k
          · subst ejk
            rw [← e1]
            exact ⟨(((Hr1.out.far (by dsimp only; omega) _).far (by dsimp only; omega) _).far (by dsimp only; omega) _).far (by dsimp only; omega) _, (((Hr1'.out.far (by dsimp only; omega) _).far (by dsimp only; omega) _).far (by dsimp only; omega) _).far (by dsimp only; omega) _⟩
          · exact ⟨((((((Hmr.out j (by omega) hjl).1).below Hb1.out (by omega)).far (by dsimp only; omega) _).far (by dsimp only; omega) _).far (by dsimp only; omega) _).far (by dsimp only; omega) _, ((((((Hmr.out j (by omega) hjl).2).below Hb1.out (by omega)).far (by dsimp only; omega) _).far (by dsimp only; omega) _).far (by dsimp only; omega) _).far (by dsimp only; omega) _⟩
      case measure => simp [intOf]; omega
    · obtain rfl : k = fs.length := by omega
      have H : Hid (Below w.heap.size w wr ∧ wr.heap.size = w.heap.size + 1 + 5 * fs.length ∧ NewFus wr 3 110 w.heap.size fs) := ⟨hb, hsz, ⟨xs, hrow, hxs⟩, fun j hj => hmr j hj hj⟩
      clear hb hsz hrow hxs hmr hcos
      go_wp2
      go_ret
      exact ⟨rfl, H.out⟩

set_option maxHeartbeats 800000 in
theorem toSystem_any (lo hi : Nat) (s c v : Value) (y : Sy) (w : World) (hv : SyAt w lo hi s c v y) (hB : hi ≤ w.heap.size) (hlen : y.bulk ≤ 1048576) :
    Calls Tryz.prog 15 #[.agg #[s, c, v]] w fun e w' => e = .returned (.agg #[.slice (some ⟨w.heap.size + 6, 0, none⟩) y.ty.sizes.length y.ty.sizes.length, .slice (some ⟨w.heap.size + 7, 0, none⟩) y.ty.cos.length y.ty.cos.length, .slice (some ⟨w.heap.size + 8 + 4 * y.ty.cos.length, 0, none⟩) y.fs.length y.fs.length]) ∧
      Below w.heap.size w w' ∧ w'.heap.size = w.heap.size + 9 + 4 * y.ty.cos.length + 5 * y.fs.length ∧ NewSy w' 3 138 110 (w.heap.size + 6) y := by
  obtain ⟨hty, hf⟩ := hv
  obtain ⟨A, cap, rfl, _, _, hz⟩ := hty.1.form
  obtain ⟨A2, cap2, rfl, _, _, hcos⟩ := hty.2.form
  obtain ⟨A3, cap3, rfl, _, _, hfu⟩ := hf.form
  have hT : TyAt w lo hi (.slice A y.ty.sizes.length cap) (.slice A2 y.ty.cos.length cap2) y.ty := ⟨hz, hcos⟩
  have hl1 : y.ty.bulk ≤ 1048576 := by unfold Sy.bulk at hlen; omega
  have hl2 : y.fs.length ≤ 1048576 := by unfold Sy.bulk at hlen; omega
  have hl3 : Hid (∀ j, ∀ (hj : j < y.fs.length), y.fs[j].weight ≤ 1048576) := fun j hj => Nat.le_trans (y.fu_le j hj) hlen
  clear hty hf hz hcos
  have h3 : Below w.heap.size w (((w.alloc (.cells #[.slice A y.ty.sizes.length cap, .slice A2 y.ty.cos.length cap2, .slice A3 y.fs.length cap3] 28)).alloc (.cells #[.slice none 0 0, .slice none 0 0, .slice none 0 0] 37)).alloc (.cells #[.slice none 0 0, .slice none 0 0, .slice none 0 0] 37)) := by go_grown
  go_enter Tryz.func15, Tryz.ntmps15
  go_wp2_with fail
  refine (toTypes_any lo hi _ _ y.ty _ (hT.below h3 hB) (by simp; omega) hl1).mono ?_
  rintro e w1 ⟨rfl, hb, hsz, hnew⟩
  have hbel := h3.trans (hb.mono (by simp; omega))
  simp only [World.size_alloc] at hsz hnew
  have hR1 : Row w1 (w.heap.size + 1 + 1) 37 [.slice none 0 0, .slice none 0 0, .slice none 0 0] := by
    have hn := Row.new ((w.alloc (.cells #[.slice A y.ty.sizes.length cap, .slice A2 y.ty.cos.length cap2, .slice A3 y.fs.length cap3] 28)).alloc (.cells #[.slice none 0 0, .slice none 0 0, .slice none 0 0] 37)) 37 [.slice none 0 0, .slice none 0 0, .slice none 0 0]
    simp only [World.size_alloc] at hn
    exact hn.below hb (by simp)
  have hB1 : Row w1 (w.heap.size + 1) 37 [.slice none 0 0, .slice none 0 0, .slice none 0 0] := by
    have hn := (Row.new (w.alloc (.cells #[.slice A y.ty.sizes.length cap, .slice A2 y.ty.cos.length cap2, .slice A3 y.fs.length cap3] 28)) 37 [.slice none 0 0, .slice none 0 0, .slice none 0 0]).alloc (.cells #[.slice none 0 0, .slice none 0 0, .slice none 0 0] 37)
    simp only [World.size_alloc] at hn
    exact hn.below hb (by simp)
  have hA1 : Row w1 w.heap.size 28 [.slice A y.ty.sizes.length cap, .slice A2 y.ty.cos.length cap2, .slice A3 y.fs.length cap3] := by
    have hn := ((Row.new w 28 [.slice A y.ty.sizes.length cap, .slice A2 y.ty.cos.length cap2, .slice A3 y.fs.length cap3]).alloc (.cells #[.slice none 0 0, .slice none 0 0, .slice none 0 0] 37)).alloc (.cells #[.slice none 0 0, .slice none 0 0, .slice none 0 0] 37)
    exact hn.below hb (by simp; omega)
  have a0 := hA1.cell 0
  have a1 := hA1.cell 1
  have a2 := hA1.cell 2
  have k0 := hR1.cell 0
  have k1 := hR1.cell 1
  have k2 := hR1.cell 2
  have m0 := hR1.frozen 0
  have m1 := hR1.frozen 1
  have m2 := hR1.frozen 2
  simp only [List.getElem?_cons_zero, List.getElem?_cons_succ] at a0 a1 a2 k0 k1 k2
  have hz1 : w.heap.size + 1 + 1 < w1.heap.size := by omega
  have Hnew := Lib.hid hnew
  have Hsz := Lib.hid hsz
  have Hbel := Lib.hid hbel
  have HR1 := Lib.hid hR1
  have HB1 := Lib.hid hB1
  clear hsz hnew hbel hb h3 hR1 hB1 hA1 hT
  go_wp2_with fail
  obtain ⟨wu, hwu⟩ : ∃ wu, wu = ((w1.setCell ⟨w.heap.size + 1 + 1, 0, none⟩ (.slice (some ⟨w.heap.size + 1 + 1 + 1 + 3, 0, none⟩) y.ty.sizes.length y.ty.sizes.length)).setCell ⟨w.heap.size + 1 + 1, 1, none⟩ (.slice (some ⟨w.heap.size + 1 + 1 + 1 + 4, 0, none⟩) y.ty.cos.length y.ty.cos.length)) := ⟨_, rfl⟩
  have hs1 : wu.heap.size = w.heap.size + 1 + 1 + 1 + 5 + 4 * y.ty.cos.length := by rw [hwu]; simpa [World.setCell] using Hsz.out
  have hb1 : Below w.heap.size w wu := by rw [hwu]; exact (Hbel.out.setCell (by dsimp only; omega) _).setCell (by dsimp only; omega) _
  have hN1 : NewTy wu 3 138 (w.heap.size + 1 + 1 + 1 + 3) y.ty := by
    rw [hwu]
    exact Hnew.out.keep fun k h1 _ => (Below.heap_setCell _ _ _ k (by dsimp only; omega)).trans (Below.heap_setCell _ _ _ k (by dsimp only; omega))
  have hRu : Row wu (w.heap.size + 1 + 1) 37 [.slice (some ⟨w.heap.size + 1 + 1 + 1 + 3, 0, none⟩) y.ty.sizes.length y.ty.sizes.length, .slice (some ⟨w.heap.size + 1 + 1 + 1 + 4, 0, none⟩) y.ty.cos.length y.ty.cos.length, .slice none 0 0] := by rw [hwu]; exact (HR1.out.set_ 0 _).set_ 1 _
  have hBu : Row wu (w.heap.size + 1) 37 [.slice none 0 0, .slice none 0 0, .slice none 0 0] := by rw [hwu]; exact (HB1.out.far (by dsimp only; omega) _).far (by dsimp only; omega) _
  rw [← hwu]
  clear hwu a0 a1 a2 k0 k1 k2 m0 m1 m2
  refine (toFunctionS_any lo hi _ y.fs _ (hfu.below hb1 hB) (by rw [hs1]; omega) hl2 hl3.out).mono ?_
  rintro e w2 ⟨rfl, hb2, hsz2, hnew2⟩
  rw [hs1] at hsz2 hnew2
  have Hb2 := Lib.hid (hb1.trans (hb2.mono (by omega)))
  have Hn2 := Lib.hid (hN1.below hb2 (by omega))
  have Hn3 := Lib.hid hnew2
  have hR2 := hRu.below hb2 (by omega)
  have hR3 := hBu.below hb2 (by omega)
  have k0 := hR2.cell 0
  have k1 := hR2.cell 1
  have k2 := hR2.cell 2
  have m0 := hR2.frozen 0
  have m1 := hR2.frozen 1
  have m2 := hR2.frozen 2
  have e0 := hR3.cell 0
  have e1 := hR3.cell 1
  have e2 := hR3.cell 2
  have f0 := hR3.frozen 0
  have f1 := hR3.frozen 1
  have f2 := hR3.frozen 2
  simp only [List.getElem?_cons_zero, List.getElem?_cons_succ] at k0 k1 k2 e0 e1 e2
  have hz2 : w.heap.size + 1 + 1 < w2.heap.size := by omega
  have Hsz2 := Lib.hid hsz2
  rw [hs1]
  clear hsz2 hnew2 hb2 hb1 hN1 hRu hBu hR2 hR3 hs1 hfu
  go_wp2
  refine bodyPost_ret (v := .agg #[.slice (some ⟨w.heap.size + 1 + 1 + 1 + 3, 0, none⟩) y.ty.sizes.length y.ty.sizes.length, .slice (some ⟨w.heap.size + 1 + 1 + 1 + 4, 0, none⟩) y.ty.cos.length y.ty.cos.length, .slice (some ⟨w.heap.size + 1 + 1 + 1 + 5 + 4 * y.ty.cos.length, 0, none⟩) y.fs.length y.fs.length]) (by simp [results, Tryz.results15, go_sem, e0, e1, e2]) rfl ⟨rfl, ?_, ?_, ?_, ?_⟩
  · exact (((Hb2.out.setCell (by dsimp only; omega) _).setCell (by dsimp only; omega) _).setCell (by dsimp only; omega) _).setCell (by dsimp only; omega) _
  · have := Hsz2.out
    simp only [World.setCell, Array.size_modify]; omega
  · exact Hn2.out.keep fun k h1 _ => (((Below.heap_setCell _ _ _ k (by dsimp only; omega)).trans (Below.heap_setCell _ _ _ k (by dsimp only; omega))).trans (Below.heap_setCell _ _ _ k (by dsimp only; omega))).trans (Below.heap_setCell _ _ _ k (by dsimp only; omega))
  · exact Hn3.out.keep fun k h1 _ => (((Below.heap_setCell _ _ _ k (by dsimp only; omega)).trans (Below.heap_setCell _ _ _ k (by dsimp only; omega))).trans (Below.heap_setCell _ _ _ k (by dsimp only; omega))).trans (Below.heap_setCell _ _ _ k (by dsimp only; omega))
end Go.Proofs.YtdemcoghgnnheaaGreatDoor

namespace Go.Proofs.YtdemcoghgnnheaaGreatDoor
open Go.RowKit


set_option maxHeartbeats 800000 in
theorem eqIntS_same (lo hi lo' hi' : Nat) (v v' : Value) (zs : List Int) (w : World) (hv : IntsAt w lo hi v zs) (hv' : IntsAt w lo' hi' v' zs) (hB : hi ≤ w.heap.size) (hB' : hi' ≤ w.heap.size) :
    Calls Tryz.prog 30 #[v, v'] w fun e w' => e = .returned (.bool true) ∧ Below w.heap.size w w' := by
  obtain ⟨A, cap, rfl, hl, hm, hz⟩ := hv.form
  obtain ⟨A', cap', rfl, hl', hm', hz'⟩ := hv'.form
  unfold maxLen at hm hm'
  have Hz := Lib.hid hz
  have Hz' := Lib.hid hz'
  clear hz hz' hv hv'
  go_enter Tryz.func30, Tryz.ntmps30
  go_wp2
  go_loopw [5] (fun i wr => ∃ k : Nat, k ≤ zs.length ∧ i = .int .i64 k ∧ Below w.heap.size w wr) (fun i _ => zs.length - (intOf i).toNat)
  case atStart => exact ⟨0, Nat.zero_le _, rfl, Below.refl _ _⟩
  case round =>
    obtain ⟨k, hk, rfl, hb⟩ := hrel
    by_cases hlt : k < zs.length
    · obtain ⟨b, off, rfl, _, _, c0, _⟩ := (Hz.out.below hb hB).at_ hlt
      obtain ⟨b', off', rfl, _, _, c0', _⟩ := (Hz'.out.below hb hB').at_ hlt
      have hi1 : (k : Int) < (zs.length : Int) := by omega
      go_wp2
      go_quiet (fail)
      go_wp2
      go_roundw
      case rel => exact ⟨k + 1, by omega, by go_num, below_drewN hb _⟩
      case measure => simp [intOf]; omega
    · obtain rfl : k = zs.length := by omega
      go_wp2
      go_ret
      exact ⟨rfl, hb⟩

set_option maxHeartbeats 800000 in
theorem eqCoercion_same (lo hi lo' hi' : Nat) (x y z x' y' z' : Value) (c : Co) (w : World) (hv : CoAt w lo hi x y z c) (hv' : CoAt w lo' hi' x' y' z' c) (hB : hi ≤ w.heap.size) (hB' : hi' ≤ w.heap.size) :
    Calls Tryz.prog 126 #[.agg #[x, y, z], .agg #[x', y', z']] w fun e w' => e = .returned (.bool true) ∧ Below w.heap.size w w' := by
  obtain ⟨rfl, rfl, _, _, hz⟩ := hv
  obtain ⟨rfl, rfl, _, _, hz'⟩ := hv'
  obtain ⟨A, cap, rfl, _, _, hz⟩ := hz.form
  obtain ⟨A', cap', rfl, _, _, hz'⟩ := hz'.form
  have h3 : Below w.heap.size w ((w.alloc (.cells #[.int .i64 c.src, .int .i64 c.dst, .slice A c.map.length cap] 138)).alloc (.cells #[.int .i64 c.src, .int .i64 c.dst, .slice A' c.map.length cap'] 138)) := by go_grown
  go_enter Tryz.func126, Tryz.ntmps126
  go_wp2_with (go_at_call 30; refine (eqIntS_same lo hi lo' hi' _ _ c.map _ (hz.below h3 hB) (hz'.below h3 hB') (by simp; omega) (by simp; omega)).mono ?_; rintro e w' ⟨rfl, hb⟩)
  go_ret
  exact ⟨rfl, h3.trans (hb.mono (by simp; omega))⟩

set_option maxRecDepth 100000 in
set_option maxHeartbeats 800000 in
theorem eqCoercionS_same (lo hi lo' hi' : Nat) (v v' : Value) (cs : List Co) (w : World) (hv : CosAt w lo hi v cs) (hv' : CosAt w lo' hi' v' cs) (hB : hi ≤ w.heap.size) (hB' : hi' ≤ w.heap.size) :
    Calls Tryz.prog 84 #[v, v'] w fun e w' => e = .returned (.bool true) ∧ Below w.heap.size w w' := by
  obtain ⟨A, cap, rfl, hl, hm, hz⟩ := hv.form
  obtain ⟨A', cap', rfl, hl', hm', hz'⟩ := hv'.form
  unfold maxLen at hm hm'
  have Hz := Lib.hid hz
  have Hz' := Lib.hid hz'
  clear hz hz' hv hv'
  go_enter Tryz.func84, Tryz.ntmps84
  go_wp2
  go_loopw [5] (fun i wr => ∃ k : Nat, k ≤ cs.length ∧ i = .int .i64 k ∧ Below w.heap.size w wr) (fun i _ => cs.length - (intOf i).toNat)
  case atStart => exact ⟨0, Nat.zero_le _, rfl, Below.refl _ _⟩
  case round =>
    obtain ⟨k, hk, rfl, hb⟩ := hrel
    by_cases hlt : k < cs.length
    · obtain ⟨b, off, B2, p2, rfl, _, _, c0, c1, c2, _, _, hs, hd, hq⟩ := (Hz.out.below hb hB).at_ hlt
      obtain ⟨b', off', B2', p2', rfl, _, _, c0', c1', c2', _, _, hs', hd', hq'⟩ := (Hz'.out.below hb hB').at_ hlt
      have hi1 : (k : Int) < (cs.length : Int) := by omega
      have hbs := hb.size
      go_wp2
      go_still_tail 8, (by kernel_rfl)
      change wpList _ _ _ _ _ wr.drew
      have hbd : Below w.heap.size w wr.drew := hb.drew
      go_wp2_with fail
      refine (eqCoercion_same lo hi lo' hi' _ _ _ _ _ _ cs[k] wr.drew ⟨rfl, rfl, hs, hd, hq⟩ ⟨rfl, rfl, hs', hd', hq'⟩ (Nat.le_trans hB hbd.size) (Nat.le_trans hB' hbd.size)).mono ?_
      rintro e w' ⟨rfl, hb2⟩
      go_wp2
      go_roundw
      case rel => exact ⟨k + 1, by omega, by go_num, hbd.trans (hb2.mono hbd.size)⟩
      case measure => simp [intOf]; omega
    · obtain rfl : k = cs.length := by omega
      go_wp2
      go_ret
      exact ⟨rfl, hb⟩

set_option maxHeartbeats 400000 in
theorem eqTypes_same (lo hi lo' hi' : Nat) (s c s' c' : Value) (t : Ty) (w : World) (hv : TyAt w lo hi s c t) (hv' : TyAt w lo' hi' s' c' t) (hB : hi ≤ w.heap.size) (hB' : hi' ≤ w.heap.size) :
    Calls Tryz.prog 49 #[.agg #[s, c], .agg #[s', c']] w fun e w' => e = .returned (.bool true) ∧ Below w.heap.size w w' := by
  obtain ⟨A, cap, rfl, _, _, hz⟩ := hv.1.form
  obtain ⟨A', cap', rfl, _, _, hz'⟩ := hv'.1.form
  obtain ⟨B, bap, rfl, _, _, hc⟩ := hv.2.form
  obtain ⟨B', bap', rfl, _, _, hc'⟩ := hv'.2.form
  clear hv hv'
  have h3 : Below w.heap.size w ((w.alloc (.cells #[.slice A t.sizes.length cap, .slice B t.cos.length bap] 34)).alloc (.cells #[.slice A' t.sizes.length cap', .slice B' t.cos.length bap'] 34)) := by go_grown
  go_enter Tryz.func49, Tryz.ntmps49
  go_wp2_with fail
  refine (eqIntS_same lo hi lo' hi' _ _ t.sizes _ (hz.below h3 hB) (hz'.below h3 hB') (by simp; omega) (by simp; omega)).mono ?_
  rintro e w1 ⟨rfl, hb⟩
  have hbel := h3.trans (hb.mono (by simp; omega))
  obtain ⟨hcl, hfr⟩ := bcell hb
  have hz1 := hb.size
  simp only [World.size_alloc] at hcl hfr hz1
  have Hbel := Lib.hid hbel
  clear hbel hb h3
  have hz2 : w.heap.size + 1 < w1.heap.size := by omega
  go_wp2_with (go_at_call 84; refine (eqCoercionS_same lo hi lo' hi' _ _ t.cos _ (hc.below Hbel.out hB) (hc'.below Hbel.out hB') (by omega) (by omega)).mono ?_; rintro e w' ⟨rfl, hb2⟩)
  go_ret
  exact ⟨rfl, Hbel.out.trans (hb2.mono (by omega))⟩
end Go.Proofs.YtdemcoghgnnheaaGreatDoor

namespace Go.Proofs.YtdemcoghgnnheaaGreatDoor
open Go.RowKit

set_option maxHeartbeats 800000 in
theorem eqFunction_same (lo hi lo' hi' : Nat) (x a r t x' a' r' t' : Value) (f : Fu) (w : World) (hv : FuAt w lo hi x a r t f) (hv' : FuAt w lo' hi' x' a' r' t' f) (hB : hi ≤ w.heap.size) (hB' : hi' ≤ w.heap.size) :
    Calls Tryz.prog 85 #[.agg #[x, a, r, t], .agg #[x', a', r', t']] w fun e w' => e = .returned (.bool true) ∧ Below w.heap.size w w' := by
  obtain ⟨rfl, rfl, _, _, ha, ht⟩ := hv
  obtain ⟨rfl, rfl, _, _, ha', ht'⟩ := hv'
  obtain ⟨A, cap, rfl, _, _, ha⟩ := ha.form
  obtain ⟨A', cap', rfl, _, _, ha'⟩ := ha'.form
  obtain ⟨B, bap, rfl, _, _, ht⟩ := ht.form
  obtain ⟨B', bap', rfl, _, _, ht'⟩ := ht'.form
  have h3 : Below w.heap.size w ((w.alloc (.cells #[.string f.name, .slice A f.args.length cap, .int .i64 f.res, .slice B f.table.length bap] 110)).alloc (.cells #[.string f.name, .slice A' f.args.length cap', .int .i64 f.res, .slice B' f.table.length bap'] 110)) := by go_grown
  go_enter Tryz.func85, Tryz.ntmps85
  go_wp2_with fail
  refine (eqIntS_same lo hi lo' hi' _ _ f.args _ (ha.below h3 hB) (ha'.below h3 hB') (by simp; omega) (by simp; omega)).mono ?_
  rintro e w1 ⟨rfl, hb⟩
  have hbel := h3.trans (hb.mono (by simp; omega))
  obtain ⟨hcl, hfr⟩ := bcell hb
  have hz1 := hb.size
  simp only [World.size_alloc] at hcl hfr hz1
  have Hbel := Lib.hid hbel
  clear hbel hb h3
  have hz2 : w.heap.size + 1 < w1.heap.size := by omega
  go_wp2_with (go_at_call 30; refine (eqIntS_same lo hi lo' hi' _ _ f.table _ (ht.below Hbel.out hB) (ht'.below Hbel.out hB') (by omega) (by omega)).mono ?_; rintro e w' ⟨rfl, hb2⟩)
  go_ret
  exact ⟨rfl, Hbel.out.trans (hb2.mono (by omega))⟩

set_option maxRecDepth 100000 in
set_option maxHeartbeats 800000 in
theorem eqFunctionS_same (lo hi lo' hi' : Nat) (v v' : Value) (fs : List Fu) (w : World) (hv : FusAt w lo hi v fs) (hv' : FusAt w lo' hi' v' fs) (hB : hi ≤ w.heap.size) (hB' : hi' ≤ w.heap.size) :
    Calls Tryz.prog 50 #[v, v'] w fun e w' => e = .returned (.bool true) ∧ Below w.heap.size w w' := by
  obtain ⟨A, cap, rfl, hl, hm, hz⟩ := hv.form
  obtain ⟨A', cap', rfl, hl', hm', hz'⟩ := hv'.form
  unfold maxLen at hm hm'
  have Hz := Lib.hid hz
  have Hz' := Lib.hid hz'
  clear hz hz' hv hv'
  go_enter Tryz.func50, Tryz.ntmps50
  go_wp2
  go_loopw [5] (fun i wr => ∃ k : Nat, k ≤ fs.length ∧ i = .int .i64 k ∧ Below w.heap.size w wr) (fun i _ => fs.length - (intOf i).toNat)
  case atStart => exact ⟨0, Nat.zero_le _, rfl, Below.refl _ _⟩
  case round =>
    obtain ⟨k, hk, rfl, hb⟩ := hrel
    by_cases hlt : k < fs.length
    · obtain ⟨b, off, B1, p1, B2, p2, rfl, _, _, c0, c1, c2, c3, _, _, _, _, hq⟩ := (Hz.out.below hb hB).at_ hlt
      obtain ⟨b', off', B1', p1', B2', p2', rfl, _, _, c0', c1', c2', c3', _, _, _, _, hq'⟩ := (Hz'.out.below hb hB').at_ hlt
      have hi1 : (k : Int) < (fs.length : Int) := by omega
      have hbs := hb.size
      go_wp2
      go_still_tail 8, (by kernel_rfl)
      change wpList _ _ _ _ _ wr.drew
      have hbd : Below w.heap.size w wr.drew := hb.drew
      go_wp2_with fail
      refine (eqFunction_same lo hi lo' hi' _ _ _ _ _ _ _ _ fs[k] wr.drew hq hq' (Nat.le_trans hB hbd.size) (Nat.le_trans hB' hbd.size)).mono ?_
      rintro e w' ⟨rfl, hb2⟩
      go_wp2
      go_roundw
      case rel => exact ⟨k + 1, by omega, by go_num, hbd.trans (hb2.mono hbd.size)⟩
      case measure => simp [intOf]; omega
    · obtain rfl : k = fs.length := by omega
      go_wp2
      go_ret
      exact ⟨rfl, hb⟩

set_option maxHeartbeats 400000 in
theorem eqSystem_same (lo hi lo' hi' : Nat) (s c v s' c' v' : Value) (y : Sy) (w : World) (hv : SyAt w lo hi s c v y) (hv' : SyAt w lo' hi' s' c' v' y) (hB : hi ≤ w.heap.size) (hB' : hi' ≤ w.heap.size) :
    Calls Tryz.prog 17 #[.agg #[s, c, v], .agg #[s', c', v']] w fun e w' => e = .returned (.bool true) ∧ Below w.heap.size w w' := by
  obtain ⟨hty, hf⟩ := hv
  obtain ⟨hty', hf'⟩ := hv'
  obtain ⟨A, cap, rfl, _, _, hz⟩ := hty.1.form
  obtain ⟨A', cap', rfl, _, _, hz'⟩ := hty'.1.form
  obtain ⟨B, bap, rfl, _, _, hc⟩ := hty.2.form
  obtain ⟨B', bap', rfl, _, _, hc'⟩ := hty'.2.form
  obtain ⟨C, dap, rfl, _, _, hf⟩ := hf.form
  obtain ⟨C', dap', rfl, _, _, hf'⟩ := hf'.form
  have hT : TyAt w lo hi (.slice A y.ty.sizes.length cap) (.slice B y.ty.cos.length bap) y.ty := ⟨hz, hc⟩
  have hT' : TyAt w lo' hi' (.slice A' y.ty.sizes.length cap') (.slice B' y.ty.cos.length bap') y.ty := ⟨hz', hc'⟩
  clear hty hty' hz hz' hc hc'
  have h3 : Below w.heap.size w ((w.alloc (.cells #[.slice A y.ty.sizes.length cap, .slice B y.ty.cos.length bap, .slice C y.fs.length dap] 37)).alloc (.cells #[.slice A' y.ty.sizes.length cap', .slice B' y.ty.cos.length bap', .slice C' y.fs.length dap'] 37)) := by go_grown
  go_enter Tryz.func17, Tryz.ntmps17
  go_wp2_with fail
  refine (eqTypes_same lo hi lo' hi' _ _ _ _ y.ty _ (hT.below h3 hB) (hT'.below h3 hB') (by simp; omega) (by simp; omega)).mono ?_
  rintro e w1 ⟨rfl, hb⟩
  have hbel := h3.trans (hb.mono (by simp; omega))
  obtain ⟨hcl, hfr⟩ := bcell hb
  have hz1 := hb.size
  simp only [World.size_alloc] at hcl hfr hz1
  have Hbel := Lib.hid hbel
  clear hbel hb h3
  have hz2 : w.heap.size + 1 < w1.heap.size := by omega
  go_wp2_with (go_at_call 50; refine (eqFunctionS_same lo hi lo' hi' _ _ y.fs _ (hf.below Hbel.out hB) (hf'.below Hbel.out hB') (by omega) (by omega)).mono ?_; rintro e w' ⟨rfl, hb2⟩)
  go_ret
  exact ⟨rfl, Hbel.out.trans (hb2.mono (by omega))⟩
end Go.Proofs.YtdemcoghgnnheaaGreatDoor

namespace Go.Proofs.YtdemcoghgnnheaaGreatDoor
open Go.RowKit

/-- Does n lie between two numbers? -/
def inB (n lo hi : Int) : Bool := decide (lo ≤ n ∧ n ≤ hi)
theorem inB_yes {n lo hi : Int} (h1 : lo ≤ n) (h2 : n ≤ hi) : inB n lo hi = true := by simp [inB, h1, h2]
theorem inB_low {n lo hi : Int} (h1 : ¬ lo ≤ n) : inB n lo hi = false := by simp [inB, h1]
theorem inB_high {n lo hi : Int} (h1 : ¬ n ≤ hi) : inB n lo hi = false := by simp [inB, h1]
theorem inB_iff {n lo hi : Int} : inB n lo hi = true ↔ lo ≤ n ∧ n ≤ hi := by simp [inB]

theorem l1In_any (n lo hi : Int) (w : World) : Calls Tryz.prog 51 #[.int .i64 n, .int .i64 lo, .int .i64 hi] w fun e w' => e = .returned (.bool (inB n lo hi)) ∧ w = w' := by
  by_cases h1 : lo ≤ n
  · by_cases h2 : n ≤ hi
    · have H := Lib.hid (inB_yes h1 h2)
      go_enter Tryz.func51, Tryz.ntmps51
      go_wp2
      go_ret
      exact ⟨ret_bool H.out.symm, rfl⟩
    · have H := Lib.hid (inB_high (lo := lo) h2)
      go_enter Tryz.func51, Tryz.ntmps51
      go_wp2
      go_ret
      exact ⟨ret_bool H.out.symm, rfl⟩
  · have H := Lib.hid (inB_low (hi := hi) h1)
    go_enter Tryz.func51, Tryz.ntmps51
    go_wp2
    go_ret
    exact ⟨ret_bool H.out.symm, rfl⟩

/-- The sizes are valid. -/
def sizesOk (ss : List Int) : Bool := decide (1 ≤ ss.length ∧ ss.length ≤ 5) && ss.all fun n => inB n 1 4
theorem sizesOk_of {ss : List Int} (h : sizesOk ss = true) : 1 ≤ ss.length ∧ ss.length ≤ 5 ∧ ∀ k, ∀ (hk : k < ss.length), 1 ≤ ss[k] ∧ ss[k] ≤ 4 := by
  simp only [sizesOk, Bool.and_eq_true, decide_eq_true_eq, List.all_eq_true] at h
  exact ⟨h.1.1, h.1.2, fun k hk => inB_iff.1 (h.2 _ (List.getElem_mem hk))⟩

/-- All but the map's numbers of a coercion are right: for valid sizes. -/
def coHead (ss : List Int) (c : Co) : Bool := decide (0 ≤ c.src ∧ c.src < c.dst ∧ c.dst < ss.length ∧ (c.map.length : Int) = ss.getD c.src.toNat 0)
def coOk (ss : List Int) (c : Co) : Bool := coHead ss c && c.map.all fun z => inB z 0 (ss.getD c.dst.toNat 0 - 1)
def tyOk (t : Ty) : Bool := sizesOk t.sizes && decide (t.cos.length ≤ 8) && t.cos.all fun c => coOk t.sizes c
theorem coOk_of {ss : List Int} {c : Co} (h : coOk ss c = true) : 0 ≤ c.src ∧ c.src < c.dst ∧ c.dst < ss.length ∧ (c.map.length : Int) = ss.getD c.src.toNat 0 ∧ ∀ k, ∀ (hk : k < c.map.length), 0 ≤ c.map[k] ∧ c.map[k] ≤ ss.getD c.dst.toNat 0 - 1 := by
  simp only [coOk, coHead, Bool.and_eq_true, decide_eq_true_eq, List.all_eq_true] at h
  exact ⟨h.1.1, h.1.2.1, h.1.2.2.1, h.1.2.2.2, fun k hk => inB_iff.1 (h.2 _ (List.getElem_mem hk))⟩

/-- One element fails; all elements pass. -/
theorem all_false_of {α : Type} {l : List α} {p : α → Bool} (k : Nat) (hk : k < l.length) (h : p l[k] = false) : l.all p = false := by
  rw [List.all_eq_false]
  exact ⟨l[k], List.getElem_mem hk, by simp [h]⟩
theorem all_true_of {α : Type} {l : List α} {p : α → Bool} (h : ∀ j, ∀ (hj : j < l.length), p l[j] = true) : l.all p = true := by
  rw [List.all_eq_true]
  intro x hx
  obtain ⟨i, hi, rfl⟩ := List.getElem_of_mem hx
  exact h i hi

theorem wrapIn (x : Int) (h1 : -9223372036854775808 ≤ x) (h2 : x ≤ 9223372036854775807) : IntKind.i64.wrap x = x := IntWalk.i64_in x (by omega)

set_option maxRecDepth 100000 in
set_option maxHeartbeats 1000000 in
/-- The head of a coercion is wrong: the model says no. -/
theorem l1Map_no (lo hi lo' hi' : Nat) (sv x y z : Value) (ss : List Int) (c : Co) (w : World) (hv : IntsAt w lo hi sv ss) (hc : CoAt w lo' hi' x y z c) (hB : hi ≤ w.heap.size) (_hB' : hi' ≤ w.heap.size) (hok : sizesOk ss = true) (hno : coHead ss c = false) :
    Calls Tryz.prog 149 #[sv, .agg #[x, y, z]] w fun e w' => e = .returned (.bool false) ∧ Below w.heap.size w w' := by
  obtain ⟨h1, h5, hall⟩ := sizesOk_of hok
  obtain ⟨rfl, rfl, hs, hd, hz⟩ := hc
  obtain ⟨A, cap, rfl, _, _, hi1⟩ := hv.form
  obtain ⟨A', cap', rfl, hl2, hm2, hi2⟩ := hz.form
  unfold I64 at hs hd
  unfold maxLen at hm2
  have h3 : Below w.heap.size w (w.alloc (.cells #[.int .i64 c.src, .int .i64 c.dst, .slice A' c.map.length cap'] 138)) := by go_grown
  have hwr := wrapIn ((ss.length : Int) - 1) (by omega) (by omega)
  by_cases ha : 1 ≤ c.dst ∧ c.dst ≤ (ss.length : Int) - 1
  · have hA := inB_yes ha.1 ha.2
    have hwr2 := wrapIn (c.dst - 1) (by omega) (by omega)
    by_cases hb : 0 ≤ c.src ∧ c.src ≤ c.dst - 1
    · have hB2 := inB_yes hb.1 hb.2
      have hlt : c.src.toNat < ss.length := by omega
      obtain ⟨b, off, rfl, _, hbh, c0, _⟩ := (hi1.below h3 hB).at_ hlt
      have hne : ((c.map.length : Int) == ss[c.src.toNat]) = false := by
        have : ¬ (c.map.length : Int) = ss[c.src.toNat] := by
          intro e
          simp only [coHead, decide_eq_false_iff_not] at hno
          apply hno
          rw [List.getD_eq_getElem?_getD, List.getElem?_eq_getElem hlt]
          exact ⟨hb.1, by omega, by omega, e⟩
        simpa using this
      go_enter Tryz.func149, Tryz.ntmps149
      go_wp2_with fail
      go_quiet ((first | (go_at_call 51; exact quiet_eq (l1In_any _ _ _ _))))
      go_wp2
      go_ret
      exact ⟨rfl, below_drewN h3 _⟩
    · have hB2 : inB c.src 0 (c.dst - 1) = false := by
        by_cases h0 : 0 ≤ c.src
        · exact inB_high (fun h => hb ⟨h0, h⟩)
        · exact inB_low h0
      go_enter Tryz.func149, Tryz.ntmps149
      go_wp2_with fail
      go_quiet ((first | (go_at_call 51; exact quiet_eq (l1In_any _ _ _ _))))
      go_wp2
      go_ret
      exact ⟨rfl, below_drewN h3 _⟩
  · have hA : inB c.dst 1 ((ss.length : Int) - 1) = false := by
      by_cases h0 : 1 ≤ c.dst
      · exact inB_high (fun h => ha ⟨h0, h⟩)
      · exact inB_low h0
    go_enter Tryz.func149, Tryz.ntmps149
    go_wp2_with fail
    go_quiet ((first | (go_at_call 51; exact quiet_eq (l1In_any _ _ _ _))))
    go_wp2
    go_ret
    exact ⟨rfl, below_drewN h3 _⟩

set_option maxRecDepth 100000 in
set_option maxHeartbeats 2000000 in
/-- The head of a coercion is right: the model looks at the map's numbers. -/
theorem l1Map_yes (lo hi lo' hi' : Nat) (sv x y z : Value) (ss : List Int) (c : Co) (w : World) (hv : IntsAt w lo hi sv ss) (hc : CoAt w lo' hi' x y z c) (hB : hi ≤ w.heap.size) (hB' : hi' ≤ w.heap.size) (hok : sizesOk ss = true) (hyes : coHead ss c = true) :
    Calls Tryz.prog 149 #[sv, .agg #[x, y, z]] w fun e w' => e = .returned (.bool (coOk ss c)) ∧ Below w.heap.size w w' := by
  obtain ⟨h1, h5, hall⟩ := sizesOk_of hok
  obtain ⟨rfl, rfl, hs, hd, hz⟩ := hc
  obtain ⟨A, cap, rfl, _, _, hi1⟩ := hv.form
  obtain ⟨A', cap', rfl, hl2, hm2, hi2⟩ := hz.form
  unfold I64 at hs hd
  unfold maxLen at hm2
  have hyes' := hyes
  simp only [coHead, decide_eq_true_eq] at hyes'
  obtain ⟨e1, e2, e3, e4⟩ := hyes'
  have h3 : Below w.heap.size w (w.alloc (.cells #[.int .i64 c.src, .int .i64 c.dst, .slice A' c.map.length cap'] 138)) := by go_grown
  have hwr := wrapIn ((ss.length : Int) - 1) (by omega) (by omega)
  have hA := inB_yes (n := c.dst) (lo := 1) (hi := (ss.length : Int) - 1) (by omega) (by omega)
  have hwr2 := wrapIn (c.dst - 1) (by omega) (by omega)
  have hB2 := inB_yes (n := c.src) (lo := 0) (hi := c.dst - 1) (by omega) (by omega)
  have hlt : c.src.toNat < ss.length := by omega
  have hlt2 : c.dst.toNat < ss.length := by omega
  obtain ⟨b, off, rfl, _, hbh, c0, _⟩ := (hi1.below h3 hB).at_ hlt
  rw [List.getD_eq_getElem?_getD, List.getElem?_eq_getElem hlt] at e4
  have hne : ((c.map.length : Int) != ss[c.src.toNat]) = false := by simpa using e4
  have hyz := Lib.hid hyes
  have h4 := Lib.hid e4
  clear hyes e4
  go_enter Tryz.func149, Tryz.ntmps149
  go_wp2_with fail
  go_quiet ((first | (go_at_call 51; exact quiet_eq (l1In_any _ _ _ _))))
  go_wp2
  clear hA hB2 hne hwr hwr2 c0
  obtain ⟨b2, off2, eb2, _, hbh2, c02, _⟩ := (hi1.below h3 hB).at_ hlt2
  injection eb2 with eb2
  injection eb2 with eb2 eo2
  subst eb2 eo2
  have hsz := hall _ hlt2
  have Hi2 := Lib.hid (hi2.below h3 hB')
  have H3 := Lib.hid h3
  clear hi1 hi2 hv hz h3 hall
  go_loop [37] (fun i => ∃ k : Nat, k ≤ c.map.length ∧ i = .int .i64 k ∧ Hid (∀ j, j < k → ∀ (hj : j < c.map.length), inB c.map[j] 0 (ss.getD c.dst.toNat 0 - 1) = true)) (fun i => c.map.length - (intOf i).toNat)
  case atStart => exact ⟨0, Nat.zero_le _, rfl, fun j hj => absurd hj (by omega)⟩
  case round =>
    obtain ⟨k, hk, rfl, hok2⟩ := hrel
    by_cases hkl : k < c.map.length
    · obtain ⟨b3, off3, rfl, _, _, c3, _⟩ := Hi2.out.at_ hkl
      by_cases hin : inB c.map[k] 0 (ss[c.dst.toNat] - 1) = true
      · have hin' : Hid (inB c.map[k] 0 (ss.getD c.dst.toNat 0 - 1) = true) := by
          rw [List.getD_eq_getElem?_getD, List.getElem?_eq_getElem hlt2]; exact hin
        go_wp2_with (go_at_call 51; refine (l1In_any _ _ _ _).mono ?_; rintro e w' ⟨rfl, rfl⟩; rw [hin])
        go_round
        case rel =>
          refine ⟨k + 1, by omega, by go_num, fun j hj hjl => ?_⟩
          by_cases ej : j = k
          · subst ej; exact hin'.out
          · exact hok2.out j (by omega) hjl
        case measure => simp [intOf]; omega
      · have hinf : inB c.map[k] 0 (ss[c.dst.toNat] - 1) = false := by simpa using hin
        have hfin : Hid (coOk ss c = false) := by
          unfold coOk
          rw [hyz.out, Bool.true_and]
          refine all_false_of k hkl ?_
          rw [List.getD_eq_getElem?_getD, List.getElem?_eq_getElem hlt2]; exact hinf
        clear hin
        go_wp2_with (go_at_call 51; refine (l1In_any _ _ _ _).mono ?_; rintro e w' ⟨rfl, rfl⟩; rw [hinf])
        go_ret
        exact ⟨ret_bool hfin.out.symm, below_drewN H3.out _⟩
    · obtain rfl : k = c.map.length := by omega
      have hfin : Hid (coOk ss c = true) := by
        unfold coOk
        rw [hyz.out, Bool.true_and]
        exact all_true_of fun j hj => hok2.out j hj hj
      go_wp2
      go_ret
      exact ⟨ret_bool hfin.out.symm, below_drewN H3.out _⟩

theorem l1Map_any (lo hi lo' hi' : Nat) (sv x y z : Value) (ss : List Int) (c : Co) (w : World) (hv : IntsAt w lo hi sv ss) (hc : CoAt w lo' hi' x y z c) (hB : hi ≤ w.heap.size) (hB' : hi' ≤ w.heap.size) (hok : sizesOk ss = true) :
    Calls Tryz.prog 149 #[sv, .agg #[x, y, z]] w fun e w' => e = .returned (.bool (coOk ss c)) ∧ Below w.heap.size w w' := by
  by_cases h : coHead ss c = true
  · exact l1Map_yes lo hi lo' hi' sv x y z ss c w hv hc hB hB' hok h
  · have hf : coHead ss c = false := by simpa using h
    have e : coOk ss c = false := by unfold coOk; rw [hf, Bool.false_and]
    rw [e]
    exact l1Map_no lo hi lo' hi' sv x y z ss c w hv hc hB hB' hok hf

theorem tyOk_false1 {t : Ty} (h : sizesOk t.sizes = false) : tyOk t = false := by unfold tyOk; rw [h, Bool.false_and, Bool.false_and]
theorem tyOk_false2 {t : Ty} (h : ¬ t.cos.length ≤ 8) : tyOk t = false := by unfold tyOk; simp [h]
theorem tyOk_of {t : Ty} (h1 : sizesOk t.sizes = true) (h2 : t.cos.length ≤ 8) : tyOk t = t.cos.all fun c => coOk t.sizes c := by unfold tyOk; simp [h1, h2]
end Go.Proofs.YtdemcoghgnnheaaGreatDoor

namespace Go.Proofs.YtdemcoghgnnheaaGreatDoor
open Go.RowKit

/-- Bytes as a Go string. -/
def str (l : List UInt8) : ByteArray := ⟨l.toArray⟩
theorem str_append (a b : List UInt8) : str a ++ str b = str (a ++ b) := by
  unfold str
  apply ByteArray.ext
  simp [ByteArray.data_append]
theorem str_size (l : List UInt8) : (str l).size = l.length := by simp [str, ByteArray.size]
theorem str_list (s : ByteArray) : str s.data.toList = s := by cases s; simp [str]
theorem str_inj {a b : List UInt8} (h : str a = str b) : a = b := by
  unfold str at h
  injection h with h
  simpa using h

/-- A number of one digit. -/
def dg (z : Int) : List UInt8 := [UInt8.ofNat (48 + z.toNat)]
def Dig (z : Int) : Prop := 0 ≤ z ∧ z ≤ 9
theorem dg_dec {n : Nat} (h : n ≤ 9) : Lib.decDigits n = dg (n : Int) := by
  rw [Lib.decDigits, dif_pos (by omega)]
  rfl
/-- Numbers with single spaces between them: of the first k, and of all. -/
def numsTo (zs : List Int) : Nat → List UInt8
  | 0 => []
  | 1 => dg (zs.getD 0 0)
  | k + 2 => numsTo zs (k + 1) ++ [32] ++ dg (zs.getD (k + 1) 0)
def numsT (zs : List Int) : List UInt8 := numsTo zs zs.length
theorem numsTo_one (zs : List Int) : numsTo zs 1 = dg (zs.getD 0 0) := rfl
theorem numsTo_succ (zs : List Int) {k : Nat} (h : 0 < k) : numsTo zs (k + 1) = numsTo zs k ++ [32] ++ dg (zs.getD k 0) := by
  match k, h with
  | k + 1, _ => rfl
theorem numsTo_len (zs : List Int) : ∀ k, (numsTo zs k).length ≤ 2 * k
  | 0 => Nat.le_refl _
  | 1 => by simp [numsTo, dg]
  | k + 2 => by
    have := numsTo_len zs (k + 1)
    simp only [numsTo, List.length_append, dg, List.length_cons, List.length_nil]
    omega
theorem numsT_len (zs : List Int) : (numsT zs).length ≤ 2 * zs.length := numsTo_len zs zs.length
theorem join_numsTo (zs : List Int) : ∀ k, k ≤ zs.length → Lib.join ((zs.take k).map dg) [32] = numsTo zs k
  | 0, _ => rfl
  | 1, h => by
    have e : zs.take 1 = [zs[0]] := by
      rw [List.take_succ_eq_append_getElem (by omega)]
      simp
    rw [e, numsTo_one, List.getD_eq_getElem?_getD, List.getElem?_eq_getElem (by omega)]
    exact Lib.join_one _ _
  | k + 2, h => by
    have ih := join_numsTo zs (k + 1) (by omega)
    have hk : k + 1 < zs.length := by omega
    rw [numsTo, ← ih]
    match zs, hk with
    | z :: l, hk =>
      have hk' : k < l.length := by simpa using hk
      simp only [List.take_succ_cons, List.map_cons, Lib.join_cons]
      have e := Lib.joinTail_take_succ [32] (l.map dg) k (dg l[k]) (by simp [hk'])
      rw [← List.map_take, ← List.map_take] at e
      rw [e]
      have e2 : (z :: l).getD (k + 1) 0 = l[k] := by
        rw [List.getD_eq_getElem?_getD, List.getElem?_cons_succ, List.getElem?_eq_getElem hk']
        rfl
      rw [e2]
      simp [List.append_assoc]
theorem join_numsT (zs : List Int) : Lib.join (zs.map dg) [32] = numsT zs := by
  have := join_numsTo zs zs.length (Nat.le_refl _)
  rwa [List.take_length] at this

/-- The text of a coercion. -/
def coT (c : Co) : List UInt8 := dg c.src ++ [62] ++ dg c.dst ++ [58] ++ numsT c.map
/-- The text of types: with the first k coercions, and with all. -/
def tyTo (t : Ty) : Nat → List UInt8
  | 0 => numsT t.sizes
  | k + 1 => tyTo t k ++ [59] ++ coT (t.cos.getD k default)
def tyT (t : Ty) : List UInt8 := tyTo t t.cos.length
def fmtTy (t : Ty) : List UInt8 := if tyOk t = true then tyT t else []
theorem coT_len (c : Co) : (coT c).length ≤ 4 + 2 * c.map.length := by
  have := numsT_len c.map
  simp only [coT, List.length_append, dg, List.length_cons, List.length_nil]
  omega
/-- What valid types have: few numbers, all of one digit. -/
structure TyDigs (t : Ty) : Prop where
  sizes : ∀ z ∈ t.sizes, Dig z
  few : t.sizes.length ≤ 5
  cos : t.cos.length ≤ 8
  each : ∀ j, ∀ (hj : j < t.cos.length), Dig t.cos[j].src ∧ Dig t.cos[j].dst ∧ (∀ z ∈ t.cos[j].map, Dig z) ∧ t.cos[j].map.length ≤ 9
theorem tyTo_len {t : Ty} (h : TyDigs t) : ∀ k, k ≤ t.cos.length → (tyTo t k).length ≤ 10 + 23 * k
  | 0, _ => by
    have := numsT_len t.sizes
    have := h.few
    show (numsT t.sizes).length ≤ _
    omega
  | k + 1, hk => by
    have h1 := tyTo_len h k (by omega)
    have h2 := coT_len (t.cos.getD k default)
    have h3 := (h.each k (by omega)).2.2.2
    have e : t.cos.getD k default = t.cos[k] := by rw [List.getD_eq_getElem?_getD, List.getElem?_eq_getElem (by omega)]; rfl
    rw [e] at h2
    show (tyTo t k ++ [59] ++ coT (t.cos.getD k default)).length ≤ _
    rw [e]
    simp only [List.length_append, List.length_cons, List.length_nil]
    omega
theorem tyDigs {t : Ty} (h : tyOk t = true) : TyDigs t := by
  simp only [tyOk, Bool.and_eq_true, decide_eq_true_eq] at h
  obtain ⟨⟨h1, h2⟩, h3⟩ := h
  obtain ⟨_, g2, g3⟩ := sizesOk_of h1
  have one : ∀ k : Nat, k < t.sizes.length → 1 ≤ t.sizes.getD k 0 ∧ t.sizes.getD k 0 ≤ 4 := fun k hk => by
    rw [List.getD_eq_getElem?_getD, List.getElem?_eq_getElem hk]
    exact g3 k hk
  refine ⟨fun z hz => ?_, g2, h2, fun j hj => ?_⟩
  · obtain ⟨k, hk, rfl⟩ := List.getElem_of_mem hz
    have := g3 k hk
    unfold Dig
    omega
  · obtain ⟨c1, c2, c3, c4, c5⟩ := coOk_of (List.all_eq_true.1 h3 _ (List.getElem_mem hj))
    have e1 := one t.cos[j].src.toNat (by omega)
    have e2 := one t.cos[j].dst.toNat (by omega)
    refine ⟨by unfold Dig; omega, by unfold Dig; omega, fun z hz => ?_, by omega⟩
    obtain ⟨k, hk, rfl⟩ := List.getElem_of_mem hz
    have := c5 k hk
    unfold Dig
    omega
end Go.Proofs.YtdemcoghgnnheaaGreatDoor

