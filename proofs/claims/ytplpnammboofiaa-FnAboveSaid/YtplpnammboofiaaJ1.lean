/-
  Words for memory: a slice value that reads as a list of numbers, a slice of coercions, types. Nothing here speaks of the program.
  The model's source of draws: what it reads, and the contract of pick.
  The contracts of num, l1Kind and l1Index: numbers that fit.
-/
import Derived.WalkKit
import Derived.Lib.Hide
import Derived.Deep.QuietTactic
import Derived.Test.YtplpnammboofiaaRows
import Derived.ProofKit
import Derived.BigQuiet
namespace Go.Proofs.Ytplpnammboofiaa
open Go.RowKit

theorem ret_int {k : IntKind} {a b : Int} (h : a = b) : Ending.returned (.int k a) = .returned (.int k b) := by rw [h]
theorem ret_bool {a b : Bool} (h : a = b) : Ending.returned (.bool a) = .returned (.bool b) := by rw [h]
theorem below_drewN {B : Nat} {a w : World} (h : Below B a w) (n : Nat) : Below B a (w.drewN n) := ⟨h.os, h.tape, h.output, h.size, h.block⟩
/-- A contract that leaves the world alone, inside a region that draws. -/
theorem quiet_eq {P : Program} {f : FuncId} {args : Array Value} {w : World} {n : Nat} {v : Value} (h : Calls P f args (w.drewN n) fun e w' => e = .returned v ∧ w.drewN n = w') :
    Calls P f args (w.drewN n) fun e w' => e = .returned v ∧ ∃ m, w' = w.drewN m := h.mono fun _ _ ⟨he, hw⟩ => ⟨he, n, hw.symm⟩

/-- A coercion and types, as plain data. -/
structure Co where
  src : Int
  dst : Int
  map : List Int
structure Ty where
  sizes : List Int
  cos : List Co

instance : Inhabited Co := ⟨⟨0, 0, []⟩⟩

/-- A number that an int can hold. -/
def I64 (z : Int) : Prop := -9223372036854775808 ≤ z ∧ z ≤ 9223372036854775807

/-- The slice value v reads as the numbers zs; its cells, if any, lie in one block from lo on and below hi. -/
def IntsAt (w : World) (lo hi : Nat) (v : Value) (zs : List Int) : Prop :=
  ∃ (A : Option Addr) (cap : Nat), v = .slice A zs.length cap ∧ zs.length ≤ cap ∧ cap ≤ maxLen ∧ (∀ z ∈ zs, I64 z) ∧
    (0 < zs.length → ∃ b off, A = some ⟨b, off, none⟩ ∧ lo ≤ b ∧ b < hi ∧ ∀ k, k < zs.length → w.cell? ⟨b, off + k, none⟩ = some (.int .i64 (zs.getD k 0)))

/-- The coercion value reads as c. -/
def CoAt (w : World) (lo hi : Nat) (x y z : Value) (c : Co) : Prop :=
  x = .int .i64 c.src ∧ y = .int .i64 c.dst ∧ I64 c.src ∧ I64 c.dst ∧ IntsAt w lo hi z c.map

def CosAt (w : World) (lo hi : Nat) (v : Value) (cs : List Co) : Prop :=
  ∃ (A : Option Addr) (cap : Nat), v = .slice A cs.length cap ∧ cs.length ≤ cap ∧ cap ≤ maxLen ∧
    (0 < cs.length → ∃ b off, A = some ⟨b, off, none⟩ ∧ lo ≤ b ∧ b < hi ∧ ∀ k, k < cs.length → ∃ x y z,
      w.cell? ⟨b, off + k * 3, none⟩ = some x ∧ w.cell? ⟨b, off + k * 3 + 1, none⟩ = some y ∧ w.cell? ⟨b, off + k * 3 + 2, none⟩ = some z ∧ CoAt w lo hi x y z (cs.getD k default))

def TyAt (w : World) (lo hi : Nat) (s c : Value) (t : Ty) : Prop := IntsAt w lo hi s t.sizes ∧ CosAt w lo hi c t.cos

/-- Blocks of the set S hold what they held; no block has gone. -/
structure Kept (S : Nat → Prop) (w w' : World) : Prop where
  os : w'.os = w.os
  tape : w'.tape = w.tape
  output : w'.output = w.output
  size : w.heap.size ≤ w'.heap.size
  block : ∀ k, k < w.heap.size → S k → w'.heap[k]? = w.heap[k]?

section
variable {w w' w'' : World} {lo hi lo' hi' : Nat} {v x y z s c : Value} {zs : List Int} {cs : List Co} {co : Co} {t : Ty}

theorem Kept.of_below {B : Nat} (h : Below B w w') : Kept (· < B) w w' := ⟨h.os, h.tape, h.output, h.size, fun k _ hk => h.block k hk⟩
theorem Kept.trans {S : Nat → Prop} (h : Kept S w w') (k : Kept S w' w'') : Kept S w w'' :=
  ⟨k.os.trans h.os, k.tape.trans h.tape, k.output.trans h.output, Nat.le_trans h.size k.size, fun i hi hS => (k.block i (Nat.lt_of_lt_of_le hi h.size) hS).trans (h.block i hi hS)⟩

theorem IntsAt.keep (h : IntsAt w lo hi v zs) (hk : ∀ k, lo ≤ k → k < hi → w'.heap[k]? = w.heap[k]?) : IntsAt w' lo hi v zs := by
  obtain ⟨A, cap, e, h1, h2, h3, h4⟩ := h
  refine ⟨A, cap, e, h1, h2, h3, fun h0 => ?_⟩
  obtain ⟨b, off, hA, hl, hh, hc⟩ := h4 h0
  exact ⟨b, off, hA, hl, hh, fun k hkk => (World.cell?_of_block (w := w) (hk b hl hh)).trans (hc k hkk)⟩
theorem CoAt.keep (h : CoAt w lo hi x y z co) (hk : ∀ k, lo ≤ k → k < hi → w'.heap[k]? = w.heap[k]?) : CoAt w' lo hi x y z co :=
  ⟨h.1, h.2.1, h.2.2.1, h.2.2.2.1, h.2.2.2.2.keep hk⟩
theorem CosAt.keep (h : CosAt w lo hi v cs) (hk : ∀ k, lo ≤ k → k < hi → w'.heap[k]? = w.heap[k]?) : CosAt w' lo hi v cs := by
  obtain ⟨A, cap, e, h1, h2, h4⟩ := h
  refine ⟨A, cap, e, h1, h2, fun h0 => ?_⟩
  obtain ⟨b, off, hA, hl, hh, hc⟩ := h4 h0
  refine ⟨b, off, hA, hl, hh, fun k hkk => ?_⟩
  obtain ⟨x, y, z, c0, c1, c2, hco⟩ := hc k hkk
  have e := hk b hl hh
  exact ⟨x, y, z, (World.cell?_of_block (w := w) e).trans c0, (World.cell?_of_block (w := w) e).trans c1, (World.cell?_of_block (w := w) e).trans c2, hco.keep hk⟩
theorem TyAt.keep (h : TyAt w lo hi s c t) (hk : ∀ k, lo ≤ k → k < hi → w'.heap[k]? = w.heap[k]?) : TyAt w' lo hi s c t := ⟨h.1.keep hk, h.2.keep hk⟩

theorem IntsAt.below {B : Nat} (h : IntsAt w lo hi v zs) (hb : Below B w w') (hB : hi ≤ B) : IntsAt w' lo hi v zs := h.keep fun k _ hk => hb.block k (by omega)
theorem CoAt.below {B : Nat} (h : CoAt w lo hi x y z co) (hb : Below B w w') (hB : hi ≤ B) : CoAt w' lo hi x y z co := h.keep fun k _ hk => hb.block k (by omega)
theorem CosAt.below {B : Nat} (h : CosAt w lo hi v cs) (hb : Below B w w') (hB : hi ≤ B) : CosAt w' lo hi v cs := h.keep fun k _ hk => hb.block k (by omega)
theorem TyAt.below {B : Nat} (h : TyAt w lo hi s c t) (hb : Below B w w') (hB : hi ≤ B) : TyAt w' lo hi s c t := h.keep fun k _ hk => hb.block k (by omega)

theorem IntsAt.more (h : IntsAt w lo hi v zs) (h1 : lo' ≤ lo) (h2 : hi ≤ hi') : IntsAt w lo' hi' v zs := by
  obtain ⟨A, cap, e, a1, a2, a3, a4⟩ := h
  refine ⟨A, cap, e, a1, a2, a3, fun h0 => ?_⟩
  obtain ⟨b, off, hA, hl, hh, hc⟩ := a4 h0
  exact ⟨b, off, hA, by omega, by omega, hc⟩
theorem CoAt.more (h : CoAt w lo hi x y z co) (h1 : lo' ≤ lo) (h2 : hi ≤ hi') : CoAt w lo' hi' x y z co := ⟨h.1, h.2.1, h.2.2.1, h.2.2.2.1, h.2.2.2.2.more h1 h2⟩
theorem CosAt.more (h : CosAt w lo hi v cs) (h1 : lo' ≤ lo) (h2 : hi ≤ hi') : CosAt w lo' hi' v cs := by
  obtain ⟨A, cap, e, a1, a2, a4⟩ := h
  refine ⟨A, cap, e, a1, a2, fun h0 => ?_⟩
  obtain ⟨b, off, hA, hl, hh, hc⟩ := a4 h0
  refine ⟨b, off, hA, by omega, by omega, fun k hk => ?_⟩
  obtain ⟨x, y, z, c0, c1, c2, hco⟩ := hc k hk
  exact ⟨x, y, z, c0, c1, c2, hco.more h1 h2⟩
theorem TyAt.more (h : TyAt w lo hi s c t) (h1 : lo' ≤ lo) (h2 : hi ≤ hi') : TyAt w lo' hi' s c t := ⟨h.1.more h1 h2, h.2.more h1 h2⟩

theorem IntsAt.form (h : IntsAt w lo hi v zs) : ∃ (A : Option Addr) (cap : Nat), v = .slice A zs.length cap ∧ zs.length ≤ cap ∧ cap ≤ maxLen ∧ IntsAt w lo hi (.slice A zs.length cap) zs := by
  obtain ⟨A, cap, rfl, h1, h2, h3⟩ := h
  exact ⟨A, cap, rfl, h1, h2, A, cap, rfl, h1, h2, h3⟩
theorem CosAt.form (h : CosAt w lo hi v cs) : ∃ (A : Option Addr) (cap : Nat), v = .slice A cs.length cap ∧ cs.length ≤ cap ∧ cap ≤ maxLen ∧ CosAt w lo hi (.slice A cs.length cap) cs := by
  obtain ⟨A, cap, rfl, h1, h2, h3⟩ := h
  exact ⟨A, cap, rfl, h1, h2, A, cap, rfl, h1, h2, h3⟩
/-- The k-th coercion's cells, and what they read as. -/
theorem CosAt.at_ {A : Option Addr} {n cap k : Nat} (h : CosAt w lo hi (.slice A n cap) cs) (hk : k < cs.length) :
    ∃ (b off : Nat) (A2 : Option Addr) (cap2 : Nat), A = some ⟨b, off, none⟩ ∧ lo ≤ b ∧ b < hi ∧ w.cell? ⟨b, off + k * 3, none⟩ = some (.int .i64 cs[k].src) ∧ w.cell? ⟨b, off + k * 3 + 1, none⟩ = some (.int .i64 cs[k].dst) ∧
      w.cell? ⟨b, off + k * 3 + 2, none⟩ = some (.slice A2 cs[k].map.length cap2) ∧ cs[k].map.length ≤ cap2 ∧ cap2 ≤ maxLen ∧ I64 cs[k].src ∧ I64 cs[k].dst ∧ IntsAt w lo hi (.slice A2 cs[k].map.length cap2) cs[k].map := by
  obtain ⟨A', cap', e, _, _, h4⟩ := h
  injection e with eA
  subst eA
  obtain ⟨b, off, hA, hl, hh, hc⟩ := h4 (by omega)
  obtain ⟨x, y, z, c0, c1, c2, rfl, rfl, hs, hd, hz⟩ := hc k hk
  rw [List.getD_eq_getElem?_getD, List.getElem?_eq_getElem hk] at c0 c1 hs hd hz
  obtain ⟨A2, cap2, rfl, h1, h2, hz2⟩ := hz.form
  exact ⟨b, off, A2, cap2, hA, hl, hh, c0, c1, c2, h1, h2, hs, hd, hz2⟩
theorem IntsAt.at_ {A : Option Addr} {n cap k : Nat} (h : IntsAt w lo hi (.slice A n cap) zs) (hk : k < zs.length) :
    ∃ (b off : Nat), A = some ⟨b, off, none⟩ ∧ lo ≤ b ∧ b < hi ∧ w.cell? ⟨b, off + k, none⟩ = some (.int .i64 zs[k]) ∧ I64 zs[k] := by
  obtain ⟨A', cap', e, _, _, hw, h4⟩ := h
  injection e with eA
  subst eA
  obtain ⟨b, off, hA, hl, hh, hc⟩ := h4 (by omega)
  have c0 := hc k hk
  rw [List.getD_eq_getElem?_getD, List.getElem?_eq_getElem hk] at c0
  exact ⟨b, off, hA, hl, hh, c0, hw _ (List.getElem_mem hk)⟩
theorem getD_mem_of_lt {α : Type} {l : List α} {k : Nat} {d : α} (h : k < l.length) : l.getD k d ∈ l := by
  rw [List.getD_eq_getElem?_getD, List.getElem?_eq_getElem h]
  exact List.getElem_mem h
end
/-- How many numbers the maps of the first k coercions hold together. -/
def mapsLen (cs : List Co) (k : Nat) : Nat := ((cs.take k).map fun c => c.map.length).sum
theorem mapsLen_zero (cs : List Co) : mapsLen cs 0 = 0 := by simp [mapsLen]
theorem mapsLen_succ (cs : List Co) (k : Nat) (h : k < cs.length) : mapsLen cs (k + 1) = mapsLen cs k + (cs.getD k default).map.length := by
  unfold mapsLen
  rw [List.take_succ_eq_append_getElem h, List.map_append, List.sum_append, List.getD_eq_getElem?_getD, List.getElem?_eq_getElem h]
  rfl
theorem mapsLen_mono (cs : List Co) (k : Nat) : mapsLen cs k ≤ mapsLen cs cs.length := by
  unfold mapsLen
  have e : cs.take cs.length = cs.take k ++ cs.drop k := by rw [List.take_length, List.take_append_drop]
  rw [e, List.map_append, List.sum_append]
  omega
/-- How many values types hold. -/
def Ty.bulk (t : Ty) : Nat := t.sizes.length + t.cos.length + mapsLen t.cos t.cos.length
/-- What lies below B reads as before: two rules for the walk. -/
theorem bcell {B : Nat} {w w' : World} (hb : Below B w w') : (∀ b o, b < B → w'.cell? ⟨b, o, none⟩ = w.cell? ⟨b, o, none⟩) ∧ (∀ b o, b < B → w'.frozen? ⟨b, o, none⟩ = w.frozen? ⟨b, o, none⟩) :=
  ⟨fun b o h => hb.cell (p := ⟨b, o, none⟩) h, fun b o h => hb.frozen (p := ⟨b, o, none⟩) h⟩

/-- Block g is just the cells xs of element type t; none is frozen. -/
def Row (w : World) (g : Nat) (t : TypeId) (xs : List Value) : Prop := w.heap[g]? = some (.cells xs.toArray t (0, 0))

section
variable {w w' : World} {g : Nat} {t : TypeId} {xs : List Value}
theorem Row.lt (h : Row w g t xs) : g < w.heap.size := by
  rcases Nat.lt_or_ge g w.heap.size with hlt | hge
  · exact hlt
  · unfold Row at h; rw [Array.getElem?_eq_none hge] at h; cases h
theorem Row.cell (h : Row w g t xs) (i : Nat) : w.cell? ⟨g, i, none⟩ = xs[i]? := by
  unfold Row at h
  simp [World.cell?, h]
theorem Row.cell_some (h : Row w g t xs) {i : Nat} (hi : i < xs.length) : w.cell? ⟨g, i, none⟩ = some xs[i] := by rw [h.cell, List.getElem?_eq_getElem hi]
theorem Row.frozen (h : Row w g t xs) (i : Nat) : w.frozen? ⟨g, i, none⟩ = false := by
  unfold Row at h
  simp [World.frozen?, h]
theorem Row.new (w : World) (t : TypeId) (xs : List Value) : Row (w.alloc (.cells xs.toArray t)) w.heap.size t xs := heap_alloc_new w _
theorem Row.alloc (h : Row w g t xs) (o : Obj) : Row (w.alloc o) g t xs := (Below.heap_alloc w o g h.lt).trans h
theorem Row.drew (h : Row w g t xs) : Row w.drew g t xs := h
theorem Row.set_ (h : Row w g t xs) (i : Nat) (u : Value) : Row (w.setCell ⟨g, i, none⟩ u) g t (xs.set i u) := by
  unfold Row at h ⊢
  simp [World.setCell, Array.getElem?_modify, h]
theorem Row.far (h : Row w g t xs) {p : Addr} (hp : g ≠ p.block) (u : Value) : Row (w.setCell p u) g t xs := (Below.heap_setCell w p u g hp).trans h
theorem Row.keep (h : Row w g t xs) (hk : w'.heap[g]? = w.heap[g]?) : Row w' g t xs := hk.trans h
theorem Row.below {B : Nat} (h : Row w g t xs) (hb : Below B w w') (hg : g < B) : Row w' g t xs := (hb.block g hg).trans h
end

theorem getD_set_self {xs : List Value} {i : Nat} {u : Value} (h : i < xs.length) : (xs.set i u)[i]? = some u := by
  rw [List.getElem?_set_self h]

/-- One more element of a row that is filled from the left. -/
theorem fill_step {α : Type} (f : α → Value) (zs : List α) (z : Value) (k : Nat) (h : k < zs.length) :
    ((zs.take k).map f ++ List.replicate (zs.length - k) z).set k (f zs[k]) = (zs.take (k + 1)).map f ++ List.replicate (zs.length - (k + 1)) z := by
  have hl : ((zs.take k).map f).length = k := by simp; omega
  have hr : zs.length - k = (zs.length - (k + 1)) + 1 := by omega
  rw [List.set_append_right _ _ (by omega), hl, Nat.sub_self, hr, List.replicate_succ, List.set_cons_zero, List.take_succ_eq_append_getElem h, List.map_append, List.append_assoc]
  rfl
theorem madeCells_one (z : Value) (n : Nat) : madeCells #[z] n = (List.replicate n z).toArray := by
  have h := toList_madeCells_one z n
  rw [← h]
theorem fill_zero {α : Type} (f : α → Value) (zs : List α) (z : Value) : (zs.take 0).map f ++ List.replicate (zs.length - 0) z = List.replicate zs.length z := by simp
theorem fill_all {α : Type} (f : α → Value) (zs : List α) (z : Value) : (zs.take zs.length).map f ++ List.replicate (zs.length - zs.length) z = zs.map f := by simp
theorem fill_len {α : Type} (f : α → Value) (zs : List α) (z : Value) (k : Nat) (h : k ≤ zs.length) : ((zs.take k).map f ++ List.replicate (zs.length - k) z).length = zs.length := by
  simp; omega

/-- A row of numbers reads as these. -/
theorem Row.ints {w : World} {g : Nat} {t : TypeId} {zs : List Int} {lo hi cap : Nat} (h : Row w g t (zs.map (Value.int .i64))) (hw : ∀ z ∈ zs, I64 z) (hl : lo ≤ g) (hh : g < hi) (hc : zs.length ≤ cap) (hm : cap ≤ maxLen) :
    IntsAt w lo hi (.slice (some ⟨g, 0, none⟩) zs.length cap) zs := by
  refine ⟨_, _, rfl, hc, hm, hw, fun _ => ⟨g, 0, rfl, hl, hh, fun k hk => ?_⟩⟩
  rw [Nat.zero_add, h.cell, List.getElem?_map, List.getElem?_eq_getElem hk, List.getD_eq_getElem?_getD, List.getElem?_eq_getElem hk]
  rfl

/-- The cells of the first k coercions; the map of the j-th lies at the head of block m j. -/
def CoRow (xs : List Value) (m : Nat → Nat) (cs : List Co) (k : Nat) : Prop :=
  xs.length = cs.length * 3 ∧ ∀ j, j < k → ∀ (hj : j < cs.length), xs[j * 3]? = some (.int .i64 cs[j].src) ∧ xs[j * 3 + 1]? = some (.int .i64 cs[j].dst) ∧ xs[j * 3 + 2]? = some (.slice (some ⟨m j, 0, none⟩) cs[j].map.length cs[j].map.length)
theorem CoRow.step {xs : List Value} {m : Nat → Nat} {cs : List Co} {k : Nat} (h : CoRow xs m cs k) (hk : k < cs.length) :
    CoRow (((xs.set (k * 3) (.int .i64 cs[k].src)).set (k * 3 + 1) (.int .i64 cs[k].dst)).set (k * 3 + 2) (.slice (some ⟨m k, 0, none⟩) cs[k].map.length cs[k].map.length)) m cs (k + 1) := by
  refine ⟨by simp [h.1], fun j hj hjl => ?_⟩
  have hl := h.1
  by_cases e : j = k
  · subst e
    refine ⟨?_, ?_, ?_⟩
    · rw [List.getElem?_set_ne (by omega), List.getElem?_set_ne (by omega), List.getElem?_set_self (by omega)]
    · rw [List.getElem?_set_ne (by omega), List.getElem?_set_self (by simp; omega)]
    · rw [List.getElem?_set_self (by simp; omega)]
  · obtain ⟨a, b, c⟩ := h.2 j (by omega) hjl
    refine ⟨?_, ?_, ?_⟩
    · rw [List.getElem?_set_ne (by omega), List.getElem?_set_ne (by omega), List.getElem?_set_ne (by omega), a]
    · rw [List.getElem?_set_ne (by omega), List.getElem?_set_ne (by omega), List.getElem?_set_ne (by omega), b]
    · rw [List.getElem?_set_ne (by omega), List.getElem?_set_ne (by omega), List.getElem?_set_ne (by omega), c]

/-- A row of coercions reads as these. -/
theorem Row.cos {w : World} {g : Nat} {t ti : TypeId} {xs : List Value} {m : Nat → Nat} {cs : List Co} {lo hi cap : Nat} (h : Row w g t xs) (hx : CoRow xs m cs cs.length) (hw : ∀ j, ∀ (hj : j < cs.length), I64 cs[j].src ∧ I64 cs[j].dst ∧ ∀ z ∈ cs[j].map, I64 z)
    (hm : ∀ j, ∀ (hj : j < cs.length), Row w (m j) ti (cs[j].map.map (Value.int .i64)) ∧ lo ≤ m j ∧ m j < hi ∧ cs[j].map.length ≤ maxLen) (hl : lo ≤ g) (hh : g < hi) (hc : cs.length ≤ cap) (hcm : cap ≤ maxLen) :
    CosAt w lo hi (.slice (some ⟨g, 0, none⟩) cs.length cap) cs := by
  refine ⟨_, _, rfl, hc, hcm, fun _ => ⟨g, 0, rfl, hl, hh, fun k hk => ?_⟩⟩
  obtain ⟨a, b, c⟩ := hx.2 k hk hk
  obtain ⟨hr, h1, h2, h3⟩ := hm k hk
  obtain ⟨i1, i2, i3⟩ := hw k hk
  rw [List.getD_eq_getElem?_getD, List.getElem?_eq_getElem hk]
  refine ⟨_, _, _, ?_, ?_, ?_, rfl, rfl, i1, i2, hr.ints i3 h1 h2 (Nat.le_refl _) h3⟩
  · rw [Nat.zero_add, h.cell, a]; rfl
  · rw [Nat.zero_add, h.cell, b]; rfl
  · rw [Nat.zero_add, h.cell, c]

/-- Every number of these types fits an int. -/
def Ty.fits (t : Ty) : Prop := (∀ z ∈ t.sizes, I64 z) ∧ ∀ j, ∀ (hj : j < t.cos.length), I64 t.cos[j].src ∧ I64 t.cos[j].dst ∧ ∀ z ∈ t.cos[j].map, I64 z
theorem TyAt.fits {w : World} {lo hi : Nat} {s c : Value} {t : Ty} (h : TyAt w lo hi s c t) : t.fits := by
  obtain ⟨⟨_, _, _, _, _, hw, _⟩, hc⟩ := h
  obtain ⟨A, cap, rfl, _, _, hc⟩ := hc.form
  refine ⟨hw, fun j hj => ?_⟩
  obtain ⟨_, _, _, _, _, _, _, _, _, _, _, _, hs, hd, ⟨_, _, _, _, _, hz, _⟩⟩ := hc.at_ hj
  exact ⟨hs, hd, hz⟩
theorem Ty.map_le (t : Ty) (j : Nat) (hj : j < t.cos.length) : t.cos[j].map.length ≤ t.bulk := by
  have h1 := mapsLen_succ t.cos j hj
  have h2 := mapsLen_mono t.cos (j + 1)
  rw [List.getD_eq_getElem?_getD, List.getElem?_eq_getElem hj] at h1
  simp only [Option.getD_some] at h1
  unfold Ty.bulk
  omega

/-- Types in new memory as the copying lays them: the sizes in block g, the coercions in block g + 1, the j-th map in block g + 5 + 4 j. -/
def NewTy (w : World) (ti tc : TypeId) (g : Nat) (t : Ty) : Prop :=
  Row w g ti (t.sizes.map (Value.int .i64)) ∧ (∃ xs, Row w (g + 1) tc xs ∧ CoRow xs (fun j => g + 1 + 1 + 4 * j + 3) t.cos t.cos.length) ∧
    ∀ j, ∀ (hj : j < t.cos.length), Row w (g + 1 + 1 + 4 * j + 3) ti (t.cos[j].map.map (Value.int .i64))
theorem NewTy.keep {w w' : World} {ti tc : TypeId} {g : Nat} {t : Ty} (h : NewTy w ti tc g t) (hk : ∀ k, g ≤ k → k < g + 2 + 4 * t.cos.length → w'.heap[k]? = w.heap[k]?) : NewTy w' ti tc g t := by
  obtain ⟨h1, ⟨xs, h2, h3⟩, h4⟩ := h
  exact ⟨h1.keep (hk _ (by omega) (by omega)), ⟨xs, h2.keep (hk _ (by omega) (by omega)), h3⟩, fun j hj => (h4 j hj).keep (hk _ (by omega) (by omega))⟩
theorem NewTy.below {w w' : World} {ti tc : TypeId} {g : Nat} {t : Ty} {B : Nat} (h : NewTy w ti tc g t) (hb : Below B w w') (hB : g + 2 + 4 * t.cos.length ≤ B) : NewTy w' ti tc g t := h.keep fun k _ hk => hb.block k (by omega)
theorem NewTy.at_ {w : World} {ti tc : TypeId} {g : Nat} {t : Ty} (h : NewTy w ti tc g t) (hf : t.fits) (hb : t.bulk ≤ 1048576) :
    TyAt w g (g + 2 + 4 * t.cos.length) (.slice (some ⟨g, 0, none⟩) t.sizes.length t.sizes.length) (.slice (some ⟨g + 1, 0, none⟩) t.cos.length t.cos.length) t := by
  obtain ⟨h1, ⟨xs, h2, h3⟩, h4⟩ := h
  have hb' := hb
  unfold Ty.bulk at hb'
  refine ⟨h1.ints hf.1 (Nat.le_refl _) (by omega) (Nat.le_refl _) (by unfold maxLen; omega), h2.cos (ti := ti) h3 hf.2 (fun j hj => ⟨h4 j hj, by omega, by omega, ?_⟩) (by omega) (by omega) (Nat.le_refl _) (by unfold maxLen; omega)⟩
  have := t.map_le j hj
  unfold maxLen
  omega

/-- A box of two cells that the call made first, seen from a later world. -/
theorem box2 {w wk : World} {a b : Value} {t : TypeId} (h : Below (w.heap.size + 1) (w.alloc (.cells #[a, b] t)) wk) :
    wk.cell? ⟨w.heap.size, 0, none⟩ = some a ∧ wk.cell? ⟨w.heap.size, 1, none⟩ = some b ∧ w.heap.size < wk.heap.size ∧ Below w.heap.size w wk := by
  have hs := h.size
  simp only [World.size_alloc] at hs
  refine ⟨(h.cell (p := ⟨w.heap.size, 0, none⟩) (by dsimp only; omega)).trans ?_, (h.cell (p := ⟨w.heap.size, 1, none⟩) (by dsimp only; omega)).trans ?_, by omega, ((Below.refl _ _).alloc (Nat.le_refl _) _).trans (h.mono (by omega))⟩
  · simp [go_sem]
  · simp [go_sem]
end Go.Proofs.Ytplpnammboofiaa

namespace Go.Proofs.Ytplpnammboofiaa
open Go.RowKit

/-- A source of draws at the block b: at most 2000 bytes that lie before it, and at most B draws so far. -/
def RdAt (w : World) (b B : Nat) : Prop :=
  ∃ (A : Option Addr) (n c p : Nat), Row w b 91 [.slice A n c, .int .i64 (p : Nat)] ∧ p ≤ B ∧ n ≤ 2000 ∧ n ≤ c ∧ c ≤ maxLen ∧
    (0 < n → ∃ a off, A = some ⟨a, off, none⟩ ∧ a < b ∧ ∀ k, k < n → ∃ x : Nat, x < 256 ∧ w.cell? ⟨a, off + k, none⟩ = some (.int .u8 (x : Nat)))

theorem bits_xor_small {x : Nat} (hx : x < 1073741824) (hy : x / 64 < 1073741824) : bits BinOp.xor IntKind.i64 (x : Int) ((x : Int) / 64) = ((x ^^^ (x / 64) : Nat) : Int) := by
  have e : (x : Int) / 64 = ((x / 64 : Nat) : Int) := by omega
  have hl : x ^^^ (x / 64) < 2 ^ 30 := Nat.xor_lt_two_pow (by omega) (by omega)
  rw [e]
  unfold bits
  simp only [BitVec.ofInt_natCast, BitVec.toNat_xor, BitVec.toNat_ofNat]
  rw [show IntKind.i64.bits = 64 from rfl, Nat.mod_eq_of_lt (by omega), Nat.mod_eq_of_lt (by omega), IntKind.wrap_i64]
  omega

set_option maxRecDepth 100000 in
set_option maxHeartbeats 1000000 in
theorem pick_any (b B : Nat) (n : Int) (w : World) (h : RdAt w b B) (hB : B ≤ 1000000) (hn : n ≤ 1000000) :
    Calls Try.prog 36 #[.pointer (some ⟨b, 0, none⟩), .int .i64 n] w fun e w' => ∃ x : Nat, e = .returned (.int .i64 (x : Nat)) ∧ (1 ≤ n → (x : Int) < n) ∧ (n < 1 → x = 0) ∧ RdAt w' b (B + 1) ∧ w.grownBy w' (some b) ∧ w'.heap.size = w.heap.size := by
  obtain ⟨A, m, c, p, hr, hp, hm, hmc, hcm, hbytes⟩ := h
  have q0 := hr.cell 0
  have q1 := hr.cell 1
  have qf1 := hr.frozen 1
  have ql := hr.lt
  simp only [List.getElem?_cons_zero, List.getElem?_cons_succ] at q0 q1
  have hw1 : IntKind.i64.wrap ((p : Int) + 1) = (p : Int) + 1 := by rw [IntKind.wrap_i64]; omega
  have hw2 : IntKind.i64.wrap ((p : Int) + 1 - 1) = (p : Int) := by rw [IntKind.wrap_i64]; omega
  have hfin : Hid (RdAt (w.setCell ⟨b, 1, none⟩ (.int .i64 ((p : Int) + 1))) b (B + 1) ∧ w.grownBy (w.setCell ⟨b, 1, none⟩ (.int .i64 ((p : Int) + 1))) (some b) ∧ (w.setCell ⟨b, 1, none⟩ (.int .i64 ((p : Int) + 1))).heap.size = w.heap.size) := by
    refine ⟨⟨A, m, c, p + 1, hr.set_ 1 _, by omega, hm, hmc, hcm, fun h0 => ?_⟩, ⟨rfl, rfl, rfl, by simp [World.setCell], fun j _ hne => Below.heap_setCell _ _ _ _ (fun e => hne (by rw [e]))⟩, by simp [World.setCell]⟩
    obtain ⟨a, off, e, hab, hc⟩ := hbytes h0
    refine ⟨a, off, e, hab, fun k hk => ?_⟩
    obtain ⟨x, hx, hcx⟩ := hc k hk
    exact ⟨x, hx, (World.cell?_of_block (a := ⟨a, off + k, none⟩) (Below.heap_setCell _ _ _ _ (by dsimp only; omega))).trans hcx⟩
  have Hbytes := Lib.hid hbytes
  clear hbytes hr
  by_cases hn1 : n < 1
  · go_enter Try.func36, Try.ntmps36
    go_wp2
    go_ret
    exact ⟨0, rfl, fun h => by omega, fun _ => rfl, hfin.out⟩
  have hn0 : 1 ≤ n := by omega
  by_cases hm0 : m = 0
  · subst hm0
    go_enter Try.func36, Try.ntmps36
    go_wp2
    go_ret
    exact ⟨0, rfl, by omega, fun _ => rfl, hfin.out⟩
  obtain ⟨a, off, rfl, hab, hc⟩ := Hbytes.out (by omega)
  have hm1 : ((m : Int) == 0) = false := by simp; omega
  have Hc := Lib.hid hc
  clear hc
  by_cases hpm : p < m
  · obtain ⟨x, hx, hcx⟩ := Hc.out p hpm
    have hcx2 : (w.setCell ⟨b, 1, none⟩ (.int .i64 ((p : Int) + 1))).cell? ⟨a, off + p, none⟩ = some (.int .u8 (x : Nat)) := (World.cell?_of_block (a := ⟨a, off + p, none⟩) (Below.heap_setCell _ _ _ _ (by dsimp only; omega))).trans hcx
    go_enter Try.func36, Try.ntmps36
    go_wp2
    go_ret
    have hxm : ((x : Int) % n) = ((x % n.toNat : Nat) : Int) := by rw [Int.natCast_emod, Int.toNat_of_nonneg (by omega)]
    refine ⟨x % n.toNat, by rw [hxm]; rfl, ?_, fun h => by omega, hfin.out⟩
    have := Nat.mod_lt x (show n.toNat > 0 by omega)
    omega
  · obtain ⟨x1, hx1, hc1⟩ := Hc.out (p % m) (Nat.mod_lt _ (by omega))
    obtain ⟨x2, hx2, hc2⟩ := Hc.out ((p * 7 + 3) % m) (Nat.mod_lt _ (by omega))
    have hml : p % m < m := Nat.mod_lt _ (by omega)
    have hml2 : (p * 7 + 3) % m < m := Nat.mod_lt _ (by omega)
    obtain ⟨k3, hk3⟩ : ∃ k, k = p / m := ⟨_, rfl⟩
    have hpd : k3 ≤ p := by rw [hk3]; exact Nat.div_le_self _ _
    have e1 : (p : Int) % (m : Int) = ((p % m : Nat) : Int) := (Int.natCast_emod p m).symm
    have e2 : ((p : Int) * 7 + 3) % (m : Int) = (((p * 7 + 3) % m : Nat) : Int) := by rw [Int.natCast_emod]; rfl
    have e3 : (p : Int) / (m : Int) = (k3 : Int) := by rw [hk3]; exact (Int.natCast_ediv p m).symm
    clear hk3
    have g1 : IntKind.i64.wrap ((x1 : Int) * 131) = (x1 : Int) * 131 := by rw [IntKind.wrap_i64]; omega
    have g2 : IntKind.i64.wrap ((p : Int) * 7) = (p : Int) * 7 := by rw [IntKind.wrap_i64]; omega
    have g3 : IntKind.i64.wrap ((p : Int) * 7 + 3) = (p : Int) * 7 + 3 := by rw [IntKind.wrap_i64]; omega
    have g4 : IntKind.i64.wrap ((x2 : Int) * 1117) = (x2 : Int) * 1117 := by rw [IntKind.wrap_i64]; omega
    have g5 : IntKind.i64.wrap ((x1 : Int) * 131 + (x2 : Int) * 1117) = (x1 : Int) * 131 + (x2 : Int) * 1117 := by rw [IntKind.wrap_i64]; omega
    have g6 : IntKind.i64.wrap ((p : Int) * 29) = (p : Int) * 29 := by rw [IntKind.wrap_i64]; omega
    have g7 : IntKind.i64.wrap ((x1 : Int) * 131 + (x2 : Int) * 1117 + (p : Int) * 29) = (x1 : Int) * 131 + (x2 : Int) * 1117 + (p : Int) * 29 := by rw [IntKind.wrap_i64]; omega
    have g8 : IntKind.i64.wrap ((k3 : Int) * 53) = (k3 : Int) * 53 := by rw [IntKind.wrap_i64]; omega
    have g9 : IntKind.i64.wrap ((x1 : Int) * 131 + (x2 : Int) * 1117 + (p : Int) * 29 + (k3 : Int) * 53) = (x1 : Int) * 131 + (x2 : Int) * 1117 + (p : Int) * 29 + (k3 : Int) * 53 := by rw [IntKind.wrap_i64]; omega
    generalize hk1 : p % m = k1 at *
    generalize hk2 : (p * 7 + 3) % m = k2 at *
    clear hk1 hk2
    go_enter Try.func36, Try.ntmps36
    go_wp2_with fail
    obtain ⟨u, hu⟩ : ∃ u, u = w.setCell ⟨b, 1, none⟩ (.int .i64 ((p : Int) + 1)) := ⟨_, rfl⟩
    rw [← hu]
    have u0 : u.cell? ⟨b, 0, none⟩ = some (.slice (some ⟨a, off, none⟩) m c) := by rw [hu]; simp [go_sem, q0]
    have u1 : u.cell? ⟨a, off + k1, none⟩ = some (.int .u8 (x1 : Nat)) := by rw [hu]; exact (World.cell?_of_block (a := ⟨a, off + k1, none⟩) (Below.heap_setCell _ _ _ _ (by dsimp only; omega))).trans hc1
    have u2 : u.cell? ⟨a, off + k2, none⟩ = some (.int .u8 (x2 : Nat)) := by rw [hu]; exact (World.cell?_of_block (a := ⟨a, off + k2, none⟩) (Below.heap_setCell _ _ _ _ (by dsimp only; omega))).trans hc2
    rw [← hu] at hfin
    clear hu q0 q1 qf1 hc1 hc2
    go_quiet (fail)
    go_wp2
    go_ret
    obtain ⟨X, hX⟩ : ∃ X : Nat, X = x1 * 131 + x2 * 1117 + p * 29 + k3 * 53 := ⟨_, rfl⟩
    have hX1 : X < 1073741824 := by omega
    have hX2 : (x1 : Int) * 131 + (x2 : Int) * 1117 + (p : Int) * 29 + (k3 : Int) * 53 = (X : Int) := by omega
    have hxm : (bits BinOp.xor IntKind.i64 ((x1 : Int) * 131 + (x2 : Int) * 1117 + (p : Int) * 29 + (k3 : Int) * 53) (((x1 : Int) * 131 + (x2 : Int) * 1117 + (p : Int) * 29 + (k3 : Int) * 53) / 64)).tmod n = (((X ^^^ (X / 64)) % n.toNat : Nat) : Int) := by
      rw [hX2, bits_xor_small hX1 (by omega), Int.tmod_eq_emod_of_nonneg (by omega), Int.natCast_emod, Int.toNat_of_nonneg (by omega)]
    refine ⟨(X ^^^ (X / 64)) % n.toNat, by rw [hxm]; rfl, ?_, fun h => by omega, hfin.out.1, ⟨hfin.out.2.1.os, hfin.out.2.1.tape, hfin.out.2.1.output, hfin.out.2.1.size, hfin.out.2.1.block⟩, hfin.out.2.2⟩
    intro _
    have := Nat.mod_lt (X ^^^ (X / 64)) (show n.toNat > 0 by omega)
    omega
end Go.Proofs.Ytplpnammboofiaa

namespace Go.Proofs.Ytplpnammboofiaa
open Go.RowKit

theorem RdAt.keep {w w' : World} {b B : Nat} (h : RdAt w b B) (hk : ∀ g, g ≤ b → w'.heap[g]? = w.heap[g]?) : RdAt w' b B := by
  obtain ⟨A, n, c, p, hr, hp, hn, hc, hm, hb⟩ := h
  refine ⟨A, n, c, p, hr.keep (hk b (Nat.le_refl _)), hp, hn, hc, hm, fun h0 => ?_⟩
  obtain ⟨a, off, e, hab, hcell⟩ := hb h0
  refine ⟨a, off, e, hab, fun k hk2 => ?_⟩
  obtain ⟨x, hx, hcx⟩ := hcell k hk2
  exact ⟨x, hx, (World.cell?_of_block (a := ⟨a, off + k, none⟩) (hk a (by omega))).trans hcx⟩
theorem RdAt.more {w : World} {b B B' : Nat} (h : RdAt w b B) (hB : B ≤ B') : RdAt w b B' := by
  obtain ⟨A, n, c, p, hr, hp, hrest⟩ := h
  exact ⟨A, n, c, p, hr, by omega, hrest⟩
theorem RdAt.lt {w : World} {b B : Nat} (h : RdAt w b B) : b < w.heap.size := by
  obtain ⟨A, n, c, p, hr, _⟩ := h
  exact hr.lt

set_option maxRecDepth 100000 in
set_option maxHeartbeats 1000000 in
theorem num_any (b B lo hi : Nat) (v : Value) (zs : List Int) (w : World) (h : RdAt w b B) (hB : B ≤ 1000000) (hz : IntsAt w lo hi v zs) (hlo : b < lo) (hh : hi ≤ w.heap.size) (h0 : 0 < zs.length) (hl : zs.length ≤ 1000000) :
    Calls Try.prog 59 #[.pointer (some ⟨b, 0, none⟩), v] w fun e w' => ∃ z ∈ zs, e = .returned (.int .i64 z) ∧ RdAt w' b (B + 1) ∧ w.grownBy w' (some b) ∧ w'.heap.size = w.heap.size := by
  obtain ⟨A, cap, rfl, _, _, hz⟩ := hz.form
  have H := Lib.hid h
  have Hz := Lib.hid hz
  clear h hz
  go_enter Try.func59, Try.ntmps59
  go_wp2_with fail
  refine (pick_any b B _ _ H.out hB (by omega)).mono ?_
  rintro e w1 ⟨x, rfl, hx, _, hr1, hg1, hs1⟩
  have hxl : x < zs.length := by have := hx (by omega); omega
  obtain ⟨zb, zo, rfl, hz1, hz2, e0, _⟩ := Hz.out.at_ hxl
  have e1 : w1.cell? ⟨zb, zo + x, none⟩ = some (.int .i64 zs[x]) := (World.cell?_of_block (a := ⟨zb, zo + x, none⟩) (hg1.block zb (by omega) (fun e => by simp only [Option.some.injEq] at e; omega))).trans e0
  have Hr1 := Lib.hid hr1
  have Hg1 := Lib.hid hg1
  have Hs1 := Lib.hid hs1
  clear hr1 hg1 hs1 hx
  go_wp2
  go_ret
  exact ⟨zs[x], List.getElem_mem hxl, rfl, Hr1.out, Hg1.out, Hs1.out⟩

theorem kinds_wf : ∀ z ∈ ([0, 1, 2, 0, 1, 3, 4, -1, 9223372036854775807] : List Int), I64 z := by
  intro z hz
  simp at hz
  unfold I64
  omega
theorem index_wf : ∀ z ∈ ([0, 0, 1, 0, 2, 3, -1, 8] : List Int), I64 z := by
  intro z hz
  simp at hz
  unfold I64
  omega

set_option maxRecDepth 100000 in
set_option maxHeartbeats 1000000 in
theorem l1Kind_any (b B : Nat) (w : World) (h : RdAt w b B) (hB : B ≤ 1000000) :
    Calls Try.prog 38 #[.pointer (some ⟨b, 0, none⟩)] w fun e w' => ∃ z, I64 z ∧ e = .returned (.int .i64 z) ∧ RdAt w' b (B + 1) ∧ w.grownBy w' (some b) := by
  have hl := h.lt
  have H := Lib.hid h
  clear h
  go_enter Try.func38, Try.ntmps38
  go_wp2_with fail
  have hr := Row.new w 3 (([0, 1, 2, 0, 1, 3, 4, -1, 9223372036854775807] : List Int).map (Value.int .i64))
  have hz := hr.ints (lo := w.heap.size) (hi := w.heap.size + 1) (cap := 9) kinds_wf (Nat.le_refl _) (by omega) (by decide) (by unfold maxLen; omega)
  refine (num_any b B w.heap.size (w.heap.size + 1) _ [0, 1, 2, 0, 1, 3, 4, -1, 9223372036854775807] _ (H.out.keep fun g hg => Below.heap_alloc w _ g (by omega)) hB hz hl (by simp) (by decide) (by decide)).mono ?_
  rintro e w1 ⟨z, hzm, rfl, hr1, hg1, hs1⟩
  have hz64 : I64 z := kinds_wf z hzm
  have Hr1 := Lib.hid hr1
  have Hg1 : Hid (w.grownBy w1 (some b)) := ⟨hg1.os, hg1.tape, hg1.output, Nat.le_trans (by simp) hg1.size, fun g hg hne => (hg1.block g (by simp; omega) hne).trans (Below.heap_alloc w _ g hg)⟩
  clear hr1 hg1 hs1 hr hz hzm
  go_wp2
  go_ret
  exact ⟨z, hz64, rfl, Hr1.out, Hg1.out⟩

set_option maxRecDepth 100000 in
set_option maxHeartbeats 1000000 in
theorem l1Index_any (b B : Nat) (w : World) (h : RdAt w b B) (hB : B ≤ 1000000) :
    Calls Try.prog 79 #[.pointer (some ⟨b, 0, none⟩)] w fun e w' => ∃ z, I64 z ∧ e = .returned (.int .i64 z) ∧ RdAt w' b (B + 1) ∧ w.grownBy w' (some b) := by
  have hl := h.lt
  have H := Lib.hid h
  clear h
  go_enter Try.func79, Try.ntmps79
  go_wp2_with fail
  have hr := Row.new w 3 (([0, 0, 1, 0, 2, 3, -1, 8] : List Int).map (Value.int .i64))
  have hz := hr.ints (lo := w.heap.size) (hi := w.heap.size + 1) (cap := 8) index_wf (Nat.le_refl _) (by omega) (by decide) (by unfold maxLen; omega)
  refine (num_any b B w.heap.size (w.heap.size + 1) _ [0, 0, 1, 0, 2, 3, -1, 8] _ (H.out.keep fun g hg => Below.heap_alloc w _ g (by omega)) hB hz hl (by simp) (by decide) (by decide)).mono ?_
  rintro e w1 ⟨z, hzm, rfl, hr1, hg1, hs1⟩
  have hz64 : I64 z := index_wf z hzm
  have Hr1 := Lib.hid hr1
  have Hg1 : Hid (w.grownBy w1 (some b)) := ⟨hg1.os, hg1.tape, hg1.output, Nat.le_trans (by simp) hg1.size, fun g hg hne => (hg1.block g (by simp; omega) hne).trans (Below.heap_alloc w _ g hg)⟩
  clear hr1 hg1 hs1 hr hz hzm
  go_wp2
  go_ret
  exact ⟨z, hz64, rfl, Hr1.out, Hg1.out⟩

/-- A text of bytes in memory below a block. -/
def CodeAt (w : World) (hi : Nat) (v : Value) : Prop :=
  ∃ (A : Option Addr) (n c : Nat), v = .slice A n c ∧ n ≤ c ∧ c ≤ maxLen ∧ (0 < n → ∃ a off, A = some ⟨a, off, none⟩ ∧ a < hi ∧ ∀ k, k < n → ∃ x : Nat, x < 256 ∧ w.cell? ⟨a, off + k, none⟩ = some (.int .u8 (x : Nat)))

set_option maxRecDepth 100000 in
set_option maxHeartbeats 1000000 in
theorem l13Open_any (hi : Nat) (v : Value) (w : World) (h : CodeAt w hi v) (hB : hi ≤ w.heap.size) :
    Calls Try.prog 33 #[v] w fun e w' => e = .returned (.pointer (some ⟨w.heap.size, 0, none⟩)) ∧ Below w.heap.size w w' ∧ w'.heap.size = w.heap.size + 1 ∧ RdAt w' w.heap.size 0 := by
  obtain ⟨A, n, c, rfl, hn, hc, hb⟩ := h
  unfold maxLen at hc
  have Hb := Lib.hid hb
  clear hb
  have key : Hid (∀ m, m ≤ n → m ≤ 2000 → RdAt (w.alloc (.cells #[.slice A m c, .int .i64 0] 91)) w.heap.size 0) := fun m hm h2 => by
    refine ⟨A, m, c, 0, Row.new w 91 [.slice A m c, .int .i64 0], Nat.le_refl _, h2, by omega, by unfold maxLen; omega, fun h0 => ?_⟩
    obtain ⟨a, off, e, ha, hcell⟩ := Hb.out (by omega)
    refine ⟨a, off, e, by omega, fun k hk => ?_⟩
    obtain ⟨x, hx, hcx⟩ := hcell k (by omega)
    exact ⟨x, hx, (World.cell?_of_block (a := ⟨a, off + k, none⟩) (Below.heap_alloc w _ a (by omega))).trans hcx⟩
  have hbel : Hid (∀ o : Obj, Below w.heap.size w (w.alloc o)) := fun o => (Below.refl _ _).alloc (Nat.le_refl _) _
  by_cases h2 : 2000 < n
  · have h2c : 2000 ≤ c := by omega
    have hk := Lib.hid (key.out 2000 (by omega) (Nat.le_refl _))
    have hc0 : c ≠ 0 := by omega
    go_enter Try.func33, Try.ntmps33
    go_wp2
    go_ret
    exact ⟨rfl, hbel.out _, by simp, hk.out⟩
  · have h2n : n ≤ 2000 := by omega
    have hk := Lib.hid (key.out n (Nat.le_refl _) h2n)
    go_enter Try.func33, Try.ntmps33
    go_wp2
    go_ret
    exact ⟨rfl, hbel.out _, by simp, hk.out⟩
end Go.Proofs.Ytplpnammboofiaa

