/-
  A map from names to the indices of the functions that have them: as plain data, and what it is for no two functions to be alike.
  What holds in a region that appends an index to a map's slice: by what has been done.
  The contract of the program's indicesByName: a map from names to ascending indices.
-/
import Derived.Test.YtnmbjmocnafekaaGreatDoorG9
import Derived.Test.YtnmbjmocnafekaaGreatDoorG4
import Derived.Maps.OwnRows
import Derived.Maps.Views
import Derived.Maps.RangeWalk
import Derived.StringKeys
import Derived.Test.YtnmbjmocnafekaaGreatDoorG7
import Derived.Deep.AppendLies
import Derived.Test.YtnmbjmocnafekaaGreatDoorG2
import Derived.Maps.GroupsBeside
import Derived.Outline
import Derived.Handy
namespace Go.Proofs.YtnmbjmocnafekaaGreatDoor
open Go.RowKit Go.Maps
open Go.ChangeShapes (lits)

theorem bytes_eq {a b : ByteArray} (h : a.toList = b.toList) : a = b := by
  rw [ByteArray.toList_eq, ByteArray.toList_eq] at h
  exact Go.WideShapes.bytes_inj h

/-- What a name reads as where it is a map's key. -/
def kN (s : ByteArray) : Lit := .string s.data.toList
theorem kN_inj {a b : ByteArray} (h : kN a = kN b) : a = b := by
  unfold kN at h
  injection h with h
  have h2 : a.data = b.data := Array.toList_inj.1 h
  cases a; cases b; simp_all
theorem lawStr : Keyed Tryz.prog 9 := string_keyed Tryz.underlying9
theorem kN_key {s : ByteArray} (h : s.size ≤ maxLen) : keyOf Tryz.prog 9 (.string s) = some (kN s) := Go.WideMaps.keyOf_string_mk Tryz.underlying9 h
theorem kN_lit {s : ByteArray} (h : s.size ≤ maxLen) : WideAt.IsKeyLit (kN s) := lawStr.key (kN_key h)

open Classical in
/-- The indices of the first k functions that have a name. -/
noncomputable def idxs (fs : List Fu) (k : Nat) (nm : ByteArray) : List Int := ((List.range k).filter fun i => decide ((fs.getD i default).name = nm)).map fun i : Nat => (i : Int)
theorem idxs_same {fs : List Fu} {k : Nat} {nm : ByteArray} (h : (fs.getD k default).name = nm) : idxs fs (k + 1) nm = idxs fs k nm ++ [(k : Int)] := by
  unfold idxs
  rw [List.range_succ, List.filter_append, List.map_append]
  rw [List.getD_eq_getElem?_getD] at h
  simp [h]
theorem idxs_other {fs : List Fu} {k : Nat} {nm : ByteArray} (h : (fs.getD k default).name ≠ nm) : idxs fs (k + 1) nm = idxs fs k nm := by
  unfold idxs
  rw [List.range_succ, List.filter_append, List.map_append]
  rw [List.getD_eq_getElem?_getD] at h
  simp [h]
theorem idxs_mem {fs : List Fu} {k : Nat} {nm : ByteArray} {z : Int} : z ∈ idxs fs k nm ↔ ∃ i : Nat, i < k ∧ (fs.getD i default).name = nm ∧ z = (i : Int) := by
  unfold idxs
  rw [List.mem_map]
  constructor
  · rintro ⟨i, hi, rfl⟩
    obtain ⟨h1, h2⟩ := List.mem_filter.1 hi
    exact ⟨i, List.mem_range.1 h1, by simpa using h2, rfl⟩
  · rintro ⟨i, h1, h2, rfl⟩
    exact ⟨i, List.mem_filter.2 ⟨List.mem_range.2 h1, by simpa using h2⟩, rfl⟩
theorem idxs_asc (fs : List Fu) (k : Nat) (nm : ByteArray) : (idxs fs k nm).Pairwise (· < ·) := by
  unfold idxs
  rw [List.pairwise_map]
  refine List.Pairwise.imp (fun {a b} h => ?_) (List.Pairwise.filter _ (List.pairwise_lt_range (n := k)))
  show (a : Int) < (b : Int)
  omega
theorem idxs_len (fs : List Fu) (k : Nat) (nm : ByteArray) : (idxs fs k nm).length ≤ k := by
  unfold idxs
  rw [List.length_map]
  exact Nat.le_trans (List.length_filter_le _ _) (by simp)
theorem idxs_zero (fs : List Fu) (nm : ByteArray) : idxs fs 0 nm = [] := by simp [idxs]
theorem getD_of {α : Type} {l : List α} {i : Nat} {d : α} (h : i < l.length) : l.getD i d = l[i] := by rw [List.getD_eq_getElem?_getD, List.getElem?_eq_getElem h]; rfl

/-- D is the map of the first k functions. -/
structure Grp (fs : List Fu) (k : Nat) (D : DataW Unit) : Prop where
  map : IsMap D
  at_ : ∀ nm : ByteArray, nm.size ≤ maxLen → idxs fs k nm ≠ [] → D.atKey (kN nm) .nil = .slice (lits .i64 (idxs fs k nm)) []
  none_ : ∀ nm : ByteArray, nm.size ≤ maxLen → idxs fs k nm = [] → D.atKey (kN nm) .nil = .nil
  has : ∀ nm : ByteArray, nm.size ≤ maxLen → (Maps.has D (kN nm) = true ↔ idxs fs k nm ≠ [])
theorem Grp.start (fs : List Fu) : Grp fs 0 (.map []) := ⟨isMap_empty, fun nm _ h => absurd (idxs_zero fs nm) h, fun _ _ _ => rfl, fun nm _ => ⟨fun h => (by cases h), fun h => absurd (idxs_zero fs nm) h⟩⟩
theorem Grp.step {fs : List Fu} {k : Nat} {D : DataW Unit} {nm : ByteArray} (h : Grp fs k D) (hn : (fs.getD k default).name = nm) (hs : nm.size ≤ maxLen) {w : World} {base : Nat} {e : TypeId} {v : Value} {zs : List Int}
    (ho : w.ownsInts base e .i64 v zs) (hat : D.atKey (kN nm) .nil = rowDatum .i64 v zs) : zs = idxs fs k nm ∧ Grp fs (k + 1) (D.put (kN nm) (.slice (lits .i64 (zs ++ [(k : Int)])) [])) := by
  have hz : zs = idxs fs k nm := by
    rcases ho.datum (H := Unit) with ⟨h1, rfl⟩ | h1
    · rw [h1] at hat
      by_cases e : idxs fs k nm = []
      · exact e.symm
      · rw [h.at_ nm hs e] at hat
        cases hat
    · rw [h1] at hat
      by_cases e : idxs fs k nm = []
      · rw [h.none_ nm hs e] at hat
        cases hat
      · rw [h.at_ nm hs e] at hat
        simp only [DataW.slice.injEq, and_true] at hat
        unfold lits at hat
        exact (List.map_inj_right (fun a b hab => by simpa using hab)).1 hat.symm
  refine ⟨hz, h.map.put _ _, fun m hm hne => ?_, fun m hm hne => ?_, fun m hm => ?_⟩
  · by_cases e : nm = m
    · subst e
      rw [atKey_put_same h.map (kN_lit hs), idxs_same hn, hz]
    · rw [atKey_put_other (fun e2 => e (kN_inj e2).symm)]
      rw [idxs_other (by rw [hn]; exact e)] at hne ⊢
      exact h.at_ m hm hne
  · by_cases e : nm = m
    · subst e
      rw [idxs_same hn] at hne
      simp at hne
    · rw [atKey_put_other (fun e2 => e (kN_inj e2).symm)]
      rw [idxs_other (by rw [hn]; exact e)] at hne
      exact h.none_ m hm hne
  · by_cases e : nm = m
    · subst e
      rw [has_put_same h.map (kN_lit hs), idxs_same hn]
      simp
    · rw [has_put_other (fun e2 => e (kN_inj e2).symm), idxs_other (by rw [hn]; exact e)]
      exact h.has m hm

/-- What the look-up of a name gives. -/
theorem Grp.look {fs : List Fu} {k : Nat} {D : DataW Unit} {nm : ByteArray} (h : Grp fs k D) (hs : nm.size ≤ maxLen) {w : World} {base : Nat} {e : TypeId} {v : Value} {zs : List Int}
    (ho : w.ownsInts base e .i64 v zs) (hat : D.atKey (kN nm) .nil = rowDatum .i64 v zs) : zs = idxs fs k nm := by
  rcases ho.datum (H := Unit) with ⟨h1, rfl⟩ | h1
  · rw [h1] at hat
    by_cases e : idxs fs k nm = []
    · exact e.symm
    · rw [h.at_ nm hs e] at hat
      cases hat
  · rw [h1] at hat
    by_cases e : idxs fs k nm = []
    · rw [h.none_ nm hs e] at hat
      cases hat
    · rw [h.at_ nm hs e] at hat
      simp only [DataW.slice.injEq, and_true] at hat
      unfold lits at hat
      exact (List.map_inj_right (fun a b hab => by simpa using hab)).1 hat.symm

/-- No two of some functions have the same types of arguments. -/
def Parts (fs : List Fu) (l : List Int) : Prop := ∀ a b : Nat, a < l.length → b < a → (fs.getD (l.getD a 0).toNat default).args ≠ (fs.getD (l.getD b 0).toNat default).args
theorem differ_of_parts {fs : List Fu} (h : ∀ nm : ByteArray, idxs fs fs.length nm ≠ [] → Parts fs (idxs fs fs.length nm)) : Differ fs := by
  rintro i k hi hk ⟨h1, h2⟩
  have mi : (i : Int) ∈ idxs fs fs.length (fs.getD i default).name := idxs_mem.2 ⟨i, hi, rfl, rfl⟩
  have mk : (k : Int) ∈ idxs fs fs.length (fs.getD i default).name := idxs_mem.2 ⟨k, by omega, h1.symm, rfl⟩
  obtain ⟨a, ha, ea⟩ := List.getElem_of_mem mi
  obtain ⟨b, hb, eb⟩ := List.getElem_of_mem mk
  have hlt : b < a := by
    rcases Nat.lt_trichotomy a b with h3 | h3 | h3
    · have := List.pairwise_iff_getElem.1 (idxs_asc fs fs.length (fs.getD i default).name) a b ha hb h3
      omega
    · subst h3; rw [ea] at eb; omega
    · exact h3
  refine h _ (fun e => by rw [e] at mi; cases mi) a b ha hlt ?_
  rw [getD_of ha, getD_of hb]
  simp only [ea, eb, Int.toNat_natCast]
  exact h2
theorem not_differ {fs : List Fu} {nm : ByteArray} {a b : Nat} (ha : a < (idxs fs fs.length nm).length) (hb : b < a) (he : (fs.getD ((idxs fs fs.length nm).getD a 0).toNat default).args = (fs.getD ((idxs fs fs.length nm).getD b 0).toNat default).args) : ¬ Differ fs := by
  intro h
  have hb' : b < (idxs fs fs.length nm).length := by omega
  obtain ⟨i, hi, hni, ei⟩ := idxs_mem.1 (List.getElem_mem ha)
  obtain ⟨k, hk, hnk, ek⟩ := idxs_mem.1 (List.getElem_mem hb')
  have hlt := List.pairwise_iff_getElem.1 (idxs_asc fs fs.length nm) b a hb' ha hb
  rw [ei, ek] at hlt
  rw [getD_of ha, getD_of hb'] at he
  simp only [ei, ek, Int.toNat_natCast] at he
  exact h i k hi (by omega) ⟨hni.trans hnk.symm, he⟩
open Classical in
noncomputable def differB (fs : List Fu) : Bool := decide (Differ fs)
theorem differB_iff {fs : List Fu} : differB fs = true ↔ Differ fs := by unfold differB; exact @decide_eq_true_iff _ (Classical.propDecidable _)
theorem differB_yes {fs : List Fu} (h : Differ fs) : differB fs = true := by unfold differB; exact @decide_eq_true _ (Classical.propDecidable _) h
theorem differB_no {fs : List Fu} (h : ¬ Differ fs) : differB fs = false := by unfold differB; exact @decide_eq_false _ (Classical.propDecidable _) h

/-- The look-up in any world that holds the map's block as it stood. -/
theorem groups_look {P : Program} {w : World} {t E k e : TypeId} {q : IntKind} {base b n : Nat} {D : DataW Unit} {key : Value} {kl : Lit} (h : w.ownsGroups P k base e q b n D) (K : Keyed P k) (ht : P.underlying t = some (.map k E)) (hz : ∀ u : World, (zeroValue E).run P u = .ok (.slice none 0 0) u) (hn : n < maxLen) (hkey : keyOf P k key = some kl) :
    ∃ v zs, (∀ u : World, u.heap[b]? = w.heap[b]? → (Instr.lookup t (.map (some b)) key false).run P u = .ok v u) ∧ D.atKey kl .nil = rowDatum q v zs ∧ w.ownsInts base e q v zs ∧ zs.length ≤ n ∧ w.groupBack P t k base e q b n D key kl v := by
  have hOwn := h
  obtain ⟨v, zs, hrun, r⟩ := hOwn.at K ht (hz w) hn hkey
  refine ⟨v, zs, fun u hu => ?_, r⟩
  obtain ⟨es, clock, hb, F, hs, rfl, hbb, hlen, hap⟩ := h
  have hub : u.heap[b]? = some (.map es clock) := hu.trans hb
  rcases K.find w hkey es.toList F.keys with ⟨h1, h2⟩ | ⟨j, e0, h1, h2, h3⟩
  · have e1 : (Instr.lookup t (.map (some b)) key false).run P w = .ok (.slice none 0 0) w := by simp [Instr.lookup, run_underlying ht, MapKept.run_getObj_map hb, K.check w _ hkey, h1, hz, Result.andThen]
    rw [hrun] at e1
    obtain rfl : v = .slice none 0 0 := by simpa using e1
    rcases K.find u hkey es.toList F.keys with ⟨g1, g2⟩ | ⟨j, e0, g1, g2, g3⟩
    · simp [Instr.lookup, run_underlying ht, MapKept.run_getObj_map hub, K.check u _ hkey, g1, hz, Result.andThen]
    · exact absurd g3 (h2 e0 (List.mem_of_getElem? g2))
  · have e1 : (Instr.lookup t (.map (some b)) key false).run P w = .ok e0.val w := by simp [Instr.lookup, run_underlying ht, MapKept.run_getObj_map hb, K.check w _ hkey, h1, Result.andThen]
    rw [hrun] at e1
    obtain rfl : v = e0.val := by simpa using e1
    rcases K.find u hkey es.toList F.keys with ⟨g1, g2⟩ | ⟨j', e0', g1, g2, g3⟩
    · exact absurd h3 (g2 e0 (List.mem_of_getElem? h2))
    · have hpw : es.toList.Pairwise (fun x y => x.key ≠ y.key) := ((MapKept.stamped_iff es clock).1 F.stamped).2.2
      obtain rfl := entry_eq_of_key hpw (List.mem_of_getElem? h2) (List.mem_of_getElem? g2) (h3.trans g3.symm)
      simp [Instr.lookup, run_underlying ht, MapKept.run_getObj_map hub, K.check u _ hkey, g1, Result.andThen]
end Go.Proofs.YtnmbjmocnafekaaGreatDoor

namespace Go.Proofs.YtnmbjmocnafekaaGreatDoor
open Go.RowKit Go.Maps
open Go.ChangeShapes (lits)

/-- W: the world where the region begins; B: the map's block; p5: the function's box; v, zs: what stands at the name; f: which operations have been done; the letters: what their slots hold. -/
structure IxF (W : World) (B p5 k : Nat) (nm : ByteArray) (v : Value) (zs : List Int) (fin : World → Prop) (f : Nat → Bool) (x14 x15 x16 x17 x18 x19 x20 x21 x22 x23 : Value) (u : World) : Prop where
  c10 : f 10 = true → ∀ j, j < 10 → f j = true
  c9 : f 9 = true → f 6 = true ∧ f 8 = true
  size : W.heap.size ≤ u.heap.size
  pre : f 9 = false → W.grownBy u none
  post : f 9 = true → f 10 = false → W.grownBy u v.ownBlock ∧ u.ownsInts (B + 1) 3 .i64 x23 (zs ++ [(k : Int)]) ∧ (x23.ownBlock = v.ownBlock ∨ ∃ g, x23.ownBlock = some g ∧ W.heap.size ≤ g)
  fin : f 10 = true → fin u
  a0 : f 0 = true → x14 = .map (some B)
  a1 : f 1 = true → x15 = .pointer (some ⟨p5, 0, none⟩)
  a2 : f 2 = true → x16 = .string nm
  a3 : f 3 = true → x17 = .map (some B)
  a4 : f 4 = true → x18 = .pointer (some ⟨p5, 0, none⟩)
  a5 : f 5 = true → x19 = .string nm
  a6 : f 6 = true → x20 = v
  a7 : f 7 = true → x21 = .int .i64 (k : Int)
  a8 : f 8 = true → f 9 = false → ∃ p, W.heap.size ≤ p ∧ x22 = .slice (some ⟨p, 0, none⟩) 1 1 ∧ Row u p 3 [.int .i64 (k : Int)]

section
variable {W u : World} {B p5 k : Nat} {nm : ByteArray} {v : Value} {zs : List Int} {fin : World → Prop} {f : Nat → Bool} {x14 x15 x16 x17 x18 x19 x20 x21 x22 x23 : Value}

/-- Blocks that stood when the region began, other than v's row, stand as they did until the map is written. -/
theorem IxF.block (h : IxF W B p5 k nm v zs fin f x14 x15 x16 x17 x18 x19 x20 x21 x22 x23 u) (h10 : f 10 = false) {j : Nat} (hj : j < W.heap.size) (hv : v.ownBlock ≠ some j) : u.heap[j]? = W.heap[j]? := by
  cases h9 : f 9 with
  | false => exact (h.pre h9).block j hj (by simp)
  | true => exact (h.post h9 h10).1.block j hj (fun e => hv e.symm)
theorem IxF.not10 (h : IxF W B p5 k nm v zs fin f x14 x15 x16 x17 x18 x19 x20 x21 x22 x23 u) {i : Nat} (hi : f i = false) (hlt : i < 11) : f 10 = false := by
  cases h10 : f 10 with
  | false => rfl
  | true =>
    rcases Nat.lt_or_ge i 10 with h1 | h1
    · rw [h.c10 h10 i h1] at hi; cases hi
    · obtain rfl : i = 10 := by omega
      rw [hi] at h10; cases h10

theorem IxF.s0 (h : IxF W B p5 k nm v zs fin f x14 x15 x16 x17 x18 x19 x20 x21 x22 x23 u) (hfi : f 0 = false) : IxF W B p5 k nm v zs fin (fun k => decide (k = 0) || f k) (.map (some B)) x15 x16 x17 x18 x19 x20 x21 x22 x23 u where
  c10 := fun e => absurd (show f 10 = true by simpa using e) (by rw [h.not10 hfi (by omega)]; decide)
  c9 := fun e => by have := h.c9 (by simpa using e); simp [this]
  size := h.size
  pre := fun e => h.pre (by simpa using e)
  post := fun e e2 => h.post (by simpa using e) (by simpa using e2)
  fin := fun e => h.fin (by simpa using e)
  a0 := fun _ => rfl
  a1 := fun e => h.a1 (by simpa using e)
  a2 := fun e => h.a2 (by simpa using e)
  a3 := fun e => h.a3 (by simpa using e)
  a4 := fun e => h.a4 (by simpa using e)
  a5 := fun e => h.a5 (by simpa using e)
  a6 := fun e => h.a6 (by simpa using e)
  a7 := fun e => h.a7 (by simpa using e)
  a8 := fun e e2 => h.a8 (by simpa using e) (by simpa using e2)
theorem IxF.s1 (h : IxF W B p5 k nm v zs fin f x14 x15 x16 x17 x18 x19 x20 x21 x22 x23 u) (hfi : f 1 = false) : IxF W B p5 k nm v zs fin (fun k => decide (k = 1) || f k) x14 (.pointer (some ⟨p5, 0, none⟩)) x16 x17 x18 x19 x20 x21 x22 x23 u where
  c10 := fun e => absurd (show f 10 = true by simpa using e) (by rw [h.not10 hfi (by omega)]; decide)
  c9 := fun e => by have := h.c9 (by simpa using e); simp [this]
  size := h.size
  pre := fun e => h.pre (by simpa using e)
  post := fun e e2 => h.post (by simpa using e) (by simpa using e2)
  fin := fun e => h.fin (by simpa using e)
  a0 := fun e => h.a0 (by simpa using e)
  a1 := fun _ => rfl
  a2 := fun e => h.a2 (by simpa using e)
  a3 := fun e => h.a3 (by simpa using e)
  a4 := fun e => h.a4 (by simpa using e)
  a5 := fun e => h.a5 (by simpa using e)
  a6 := fun e => h.a6 (by simpa using e)
  a7 := fun e => h.a7 (by simpa using e)
  a8 := fun e e2 => h.a8 (by simpa using e) (by simpa using e2)
theorem IxF.s2 (h : IxF W B p5 k nm v zs fin f x14 x15 x16 x17 x18 x19 x20 x21 x22 x23 u) (hfi : f 2 = false) : IxF W B p5 k nm v zs fin (fun k => decide (k = 2) || f k) x14 x15 (.string nm) x17 x18 x19 x20 x21 x22 x23 u where
  c10 := fun e => absurd (show f 10 = true by simpa using e) (by rw [h.not10 hfi (by omega)]; decide)
  c9 := fun e => by have := h.c9 (by simpa using e); simp [this]
  size := h.size
  pre := fun e => h.pre (by simpa using e)
  post := fun e e2 => h.post (by simpa using e) (by simpa using e2)
  fin := fun e => h.fin (by simpa using e)
  a0 := fun e => h.a0 (by simpa using e)
  a1 := fun e => h.a1 (by simpa using e)
  a2 := fun _ => rfl
  a3 := fun e => h.a3 (by simpa using e)
  a4 := fun e => h.a4 (by simpa using e)
  a5 := fun e => h.a5 (by simpa using e)
  a6 := fun e => h.a6 (by simpa using e)
  a7 := fun e => h.a7 (by simpa using e)
  a8 := fun e e2 => h.a8 (by simpa using e) (by simpa using e2)
theorem IxF.s3 (h : IxF W B p5 k nm v zs fin f x14 x15 x16 x17 x18 x19 x20 x21 x22 x23 u) (hfi : f 3 = false) : IxF W B p5 k nm v zs fin (fun k => decide (k = 3) || f k) x14 x15 x16 (.map (some B)) x18 x19 x20 x21 x22 x23 u where
  c10 := fun e => absurd (show f 10 = true by simpa using e) (by rw [h.not10 hfi (by omega)]; decide)
  c9 := fun e => by have := h.c9 (by simpa using e); simp [this]
  size := h.size
  pre := fun e => h.pre (by simpa using e)
  post := fun e e2 => h.post (by simpa using e) (by simpa using e2)
  fin := fun e => h.fin (by simpa using e)
  a0 := fun e => h.a0 (by simpa using e)
  a1 := fun e => h.a1 (by simpa using e)
  a2 := fun e => h.a2 (by simpa using e)
  a3 := fun _ => rfl
  a4 := fun e => h.a4 (by simpa using e)
  a5 := fun e => h.a5 (by simpa using e)
  a6 := fun e => h.a6 (by simpa using e)
  a7 := fun e => h.a7 (by simpa using e)
  a8 := fun e e2 => h.a8 (by simpa using e) (by simpa using e2)
theorem IxF.s4 (h : IxF W B p5 k nm v zs fin f x14 x15 x16 x17 x18 x19 x20 x21 x22 x23 u) (hfi : f 4 = false) : IxF W B p5 k nm v zs fin (fun k => decide (k = 4) || f k) x14 x15 x16 x17 (.pointer (some ⟨p5, 0, none⟩)) x19 x20 x21 x22 x23 u where
  c10 := fun e => absurd (show f 10 = true by simpa using e) (by rw [h.not10 hfi (by omega)]; decide)
  c9 := fun e => by have := h.c9 (by simpa using e); simp [this]
  size := h.size
  pre := fun e => h.pre (by simpa using e)
  post := fun e e2 => h.post (by simpa using e) (by simpa using e2)
  fin := fun e => h.fin (by simpa using e)
  a0 := fun e => h.a0 (by simpa using e)
  a1 := fun e => h.a1 (by simpa using e)
  a2 := fun e => h.a2 (by simpa using e)
  a3 := fun e => h.a3 (by simpa using e)
  a4 := fun _ => rfl
  a5 := fun e => h.a5 (by simpa using e)
  a6 := fun e => h.a6 (by simpa using e)
  a7 := fun e => h.a7 (by simpa using e)
  a8 := fun e e2 => h.a8 (by simpa using e) (by simpa using e2)
theorem IxF.s5 (h : IxF W B p5 k nm v zs fin f x14 x15 x16 x17 x18 x19 x20 x21 x22 x23 u) (hfi : f 5 = false) : IxF W B p5 k nm v zs fin (fun k => decide (k = 5) || f k) x14 x15 x16 x17 x18 (.string nm) x20 x21 x22 x23 u where
  c10 := fun e => absurd (show f 10 = true by simpa using e) (by rw [h.not10 hfi (by omega)]; decide)
  c9 := fun e => by have := h.c9 (by simpa using e); simp [this]
  size := h.size
  pre := fun e => h.pre (by simpa using e)
  post := fun e e2 => h.post (by simpa using e) (by simpa using e2)
  fin := fun e => h.fin (by simpa using e)
  a0 := fun e => h.a0 (by simpa using e)
  a1 := fun e => h.a1 (by simpa using e)
  a2 := fun e => h.a2 (by simpa using e)
  a3 := fun e => h.a3 (by simpa using e)
  a4 := fun e => h.a4 (by simpa using e)
  a5 := fun _ => rfl
  a6 := fun e => h.a6 (by simpa using e)
  a7 := fun e => h.a7 (by simpa using e)
  a8 := fun e e2 => h.a8 (by simpa using e) (by simpa using e2)
theorem IxF.s6 (h : IxF W B p5 k nm v zs fin f x14 x15 x16 x17 x18 x19 x20 x21 x22 x23 u) (hfi : f 6 = false) : IxF W B p5 k nm v zs fin (fun k => decide (k = 6) || f k) x14 x15 x16 x17 x18 x19 v x21 x22 x23 u where
  c10 := fun e => absurd (show f 10 = true by simpa using e) (by rw [h.not10 hfi (by omega)]; decide)
  c9 := fun e => by have := h.c9 (by simpa using e); simp [this]
  size := h.size
  pre := fun e => h.pre (by simpa using e)
  post := fun e e2 => h.post (by simpa using e) (by simpa using e2)
  fin := fun e => h.fin (by simpa using e)
  a0 := fun e => h.a0 (by simpa using e)
  a1 := fun e => h.a1 (by simpa using e)
  a2 := fun e => h.a2 (by simpa using e)
  a3 := fun e => h.a3 (by simpa using e)
  a4 := fun e => h.a4 (by simpa using e)
  a5 := fun e => h.a5 (by simpa using e)
  a6 := fun _ => rfl
  a7 := fun e => h.a7 (by simpa using e)
  a8 := fun e e2 => h.a8 (by simpa using e) (by simpa using e2)
theorem IxF.s7 (h : IxF W B p5 k nm v zs fin f x14 x15 x16 x17 x18 x19 x20 x21 x22 x23 u) (hfi : f 7 = false) : IxF W B p5 k nm v zs fin (fun k => decide (k = 7) || f k) x14 x15 x16 x17 x18 x19 x20 (.int .i64 (k : Int)) x22 x23 u where
  c10 := fun e => absurd (show f 10 = true by simpa using e) (by rw [h.not10 hfi (by omega)]; decide)
  c9 := fun e => by have := h.c9 (by simpa using e); simp [this]
  size := h.size
  pre := fun e => h.pre (by simpa using e)
  post := fun e e2 => h.post (by simpa using e) (by simpa using e2)
  fin := fun e => h.fin (by simpa using e)
  a0 := fun e => h.a0 (by simpa using e)
  a1 := fun e => h.a1 (by simpa using e)
  a2 := fun e => h.a2 (by simpa using e)
  a3 := fun e => h.a3 (by simpa using e)
  a4 := fun e => h.a4 (by simpa using e)
  a5 := fun e => h.a5 (by simpa using e)
  a6 := fun e => h.a6 (by simpa using e)
  a7 := fun _ => rfl
  a8 := fun e e2 => h.a8 (by simpa using e) (by simpa using e2)
theorem IxF.s8 (h : IxF W B p5 k nm v zs fin f x14 x15 x16 x17 x18 x19 x20 x21 x22 x23 u) (hfi : f 8 = false) : IxF W B p5 k nm v zs fin (fun k => decide (k = 8) || f k) x14 x15 x16 x17 x18 x19 x20 x21 (.slice (some ⟨u.heap.size, 0, none⟩) 1 1) x23 (u.alloc (.cells #[.int .i64 (k : Int)] 3)) where
  c10 := fun e => absurd (show f 10 = true by simpa using e) (by rw [h.not10 hfi (by omega)]; decide)
  c9 := fun e => by have := (h.c9 (by simpa using e)).2; rw [hfi] at this; cases this
  size := by have := h.size; simp; omega
  pre := fun e => (h.pre (by simpa using e)).trans (World.grownBy_alloc _ _ _)
  post := fun e _ => by have := (h.c9 (by simpa using e)).2; rw [hfi] at this; cases this
  fin := fun e => absurd (show f 10 = true by simpa using e) (by rw [h.not10 hfi (by omega)]; decide)
  a0 := fun e => h.a0 (by simpa using e)
  a1 := fun e => h.a1 (by simpa using e)
  a2 := fun e => h.a2 (by simpa using e)
  a3 := fun e => h.a3 (by simpa using e)
  a4 := fun e => h.a4 (by simpa using e)
  a5 := fun e => h.a5 (by simpa using e)
  a6 := fun e => h.a6 (by simpa using e)
  a7 := fun e => h.a7 (by simpa using e)
  a8 := fun _ _ => ⟨u.heap.size, h.size, rfl, Row.new u _ _⟩
theorem IxF.s9 (h : IxF W B p5 k nm v zs fin f x14 x15 x16 x17 x18 x19 x20 x21 x22 x23 u) (hfi : f 9 = false) (h6 : f 6 = true) (h8 : f 8 = true) {v' : Value} {u' : World} (hg : u.grownBy u' v.ownBlock) (hown : u'.ownsInts (B + 1) 3 .i64 v' (zs ++ [(k : Int)])) (hloc : v'.ownBlock = v.ownBlock ∨ v'.ownBlock = some u.heap.size) :
    IxF W B p5 k nm v zs fin (fun k => decide (k = 9) || f k) x14 x15 x16 x17 x18 x19 x20 x21 x22 v' u' where
  c10 := fun e => absurd (show f 10 = true by simpa using e) (by rw [h.not10 hfi (by omega)]; decide)
  c9 := fun _ => by simp [h6, h8]
  size := Nat.le_trans h.size hg.size
  pre := fun e => by simp at e
  post := fun _ _ => by
    have hp := h.pre hfi
    refine ⟨⟨hg.os.trans hp.os, hg.tape.trans hp.tape, hg.output.trans hp.output, Nat.le_trans hp.size hg.size, fun i hi hne => (hg.block i (by have := h.size; omega) hne).trans (hp.block i hi (by simp))⟩, hown, hloc.imp id fun e => ⟨_, e, h.size⟩⟩
  fin := fun e => absurd (show f 10 = true by simpa using e) (by rw [h.not10 hfi (by omega)]; decide)
  a0 := fun e => h.a0 (by simpa using e)
  a1 := fun e => h.a1 (by simpa using e)
  a2 := fun e => h.a2 (by simpa using e)
  a3 := fun e => h.a3 (by simpa using e)
  a4 := fun e => h.a4 (by simpa using e)
  a5 := fun e => h.a5 (by simpa using e)
  a6 := fun e => h.a6 (by simpa using e)
  a7 := fun e => h.a7 (by simpa using e)
  a8 := fun _ e => by simp at e
theorem IxF.s10 (h : IxF W B p5 k nm v zs fin f x14 x15 x16 x17 x18 x19 x20 x21 x22 x23 u) (hall : ∀ j, j < 10 → f j = true) {u' : World} (hs : u.heap.size ≤ u'.heap.size) (hfin : fin u') :
    IxF W B p5 k nm v zs fin (fun k => decide (k = 10) || f k) x14 x15 x16 x17 x18 x19 x20 x21 x22 x23 u' where
  c10 := fun _ j hj => by simp [hall j hj]
  c9 := fun _ => by simp [hall 6 (by omega), hall 8 (by omega)]
  size := Nat.le_trans h.size hs
  pre := fun e => by simp [hall 9 (by omega)] at e
  post := fun _ e => by simp at e
  fin := fun _ => hfin
  a0 := fun e => h.a0 (by simpa using e)
  a1 := fun e => h.a1 (by simpa using e)
  a2 := fun e => h.a2 (by simpa using e)
  a3 := fun e => h.a3 (by simpa using e)
  a4 := fun e => h.a4 (by simpa using e)
  a5 := fun e => h.a5 (by simpa using e)
  a6 := fun e => h.a6 (by simpa using e)
  a7 := fun e => h.a7 (by simpa using e)
  a8 := fun _ e => by simp [hall 9 (by omega)] at e
end
end Go.Proofs.YtnmbjmocnafekaaGreatDoor

namespace Go.Proofs.YtnmbjmocnafekaaGreatDoor
open Go.RowKit Go.Maps
open Go.ChangeShapes (lits)

theorem if_go {c : Bool} {A B : Prop} (h : c = true) (ha : A) : if c = true then A else B := by rw [if_pos h]; exact ha
theorem zeroInts (u : World) : (zeroValue 22).run Tryz.prog u = .ok (.slice none 0 0) u := by kernel_rfl
theorem groups_of_heap {w w' : World} {k e : TypeId} {base b n : Nat} {D : DataW Unit} (h : w.ownsGroups Tryz.prog k base e .i64 b n D) (hg : w.grownBy w' none) : w'.ownsGroups Tryz.prog k base e .i64 b n D :=
  h.kept hg (by simp) fun es clock _ x _ => by cases x.val.ownBlock <;> simp

set_option maxRecDepth 100000 in
set_option maxHeartbeats 4000000 in
theorem indicesByName_any (lo hi : Nat) (v : Value) (fs : List Fu) (w : World) (hv : FusAt w lo hi v fs) (hB : hi ≤ w.heap.size) (hlen : fs.length ≤ 1048576) :
    Calls Tryz.prog 115 #[v] w fun e w' => ∃ D : DataW Unit, e = .returned (.map (some w.heap.size)) ∧ Below w.heap.size w w' ∧ Grp fs fs.length D ∧ w'.ownsGroups Tryz.prog 9 (w.heap.size + 1) 3 .i64 w.heap.size fs.length D := by
  obtain ⟨F, cap, rfl, hl1, hm1, hv1⟩ := hv.form
  unfold maxLen at hm1
  have hmm := @run_makeMap Tryz.prog
  obtain ⟨i0, hi0, hz0, hz1, hz2⟩ := info_parts Tryz.infoInt
  have Hv := Lib.hid hv1
  clear hv hv1
  go_enter Tryz.func115, Tryz.ntmps115
  go_wp2
  go_loopw [9] (fun i wr => ∃ k : Nat, k ≤ fs.length ∧ i = .int .i64 k ∧ Hid (∃ D : DataW Unit, Grp fs k D ∧ wr.ownsGroups Tryz.prog 9 (w.heap.size + 1) 3 .i64 w.heap.size k D) ∧ Hid (Below w.heap.size w wr) ∧ w.heap.size + 1 ≤ wr.heap.size) (fun i _ => fs.length - (intOf i).toNat)
  case atStart => exact ⟨0, Nat.zero_le _, rfl, ⟨.map [], Grp.start fs, World.ownsGroups_made _ _ _ _ _⟩, (Below.refl _ _).alloc (Nat.le_refl _) _, by simp⟩
  case round =>
    obtain ⟨k, hk, rfl, hD, hb, hws⟩ := hrel
    by_cases hlt : k < fs.length
    · obtain ⟨b, off, A1, cap1, A2, cap2, rfl, hlo, hhi, c0, c1, c2, c3, _, _, _, _, hfu⟩ := (Hv.out.below hb.out hB).at_ hlt
      have hsn : Hid (fs[k].name.size ≤ maxLen) := hfu.2.2.1
      have hnm : Hid ((fs.getD k default).name = fs[k].name) := by show _ = _; rw [List.getD_eq_getElem?_getD, List.getElem?_eq_getElem hlt]; rfl
      clear hfu
      generalize fs[k].name = nm at *
      generalize fs[k].args.length = an at *
      generalize fs[k].table.length = tn at *
      generalize fs[k].res = rn at *
      go_wp2_with fail
      obtain ⟨D, hgrp, hown⟩ := hD.out
      obtain ⟨W, hW⟩ : ∃ W, W = (wr.alloc (.cells #[.string nm, .slice A1 an cap1, .int .i64 rn, .slice A2 tn cap2] 111)) := ⟨_, rfl⟩
      have hbox : Row W wr.heap.size 111 [.string nm, .slice A1 an cap1, .int .i64 rn, .slice A2 tn cap2] := by rw [hW]; exact Row.new wr _ _
      have hWs : wr.heap.size < W.heap.size := hbox.lt
      have hWb : Below w.heap.size w W := by rw [hW]; exact hb.out.alloc (by omega) _
      have hWo : W.drew.ownsGroups Tryz.prog 9 (w.heap.size + 1) 3 .i64 w.heap.size k D := by
        refine groups_of_heap hown ?_
        rw [hW]
        exact ⟨rfl, rfl, rfl, by show wr.heap.size ≤ (wr.alloc _).heap.size; simp, fun j hj _ => Below.heap_alloc wr _ j hj⟩
      rw [← hW]
      clear hW
      obtain ⟨v, zs, hlook, hat, hoi, hzl, hback⟩ := groups_look hWo lawStr Tryz.underlying195 zeroInts (by unfold maxLen; omega) (kN_key hsn.out)
      obtain ⟨hzs, hgrp2⟩ := hgrp.step hnm.out hsn.out hoi hat
      have hvB : v.ownBlock ≠ some w.heap.size := fun e => by have := (hoi.1.lt _ e).1; omega
      have hvP : v.ownBlock ≠ some wr.heap.size := fun e => by
        obtain ⟨_, ⟨rfl, _⟩ | ⟨g', cap', cur, rfl, _, hh, _⟩⟩ := hoi.1
        · simp [Value.ownBlock] at e
        · simp only [Value.ownBlock, Option.some.injEq] at e
          subst e
          have hb2 : W.drew.heap[wr.heap.size]? = _ := hbox
          rw [hb2] at hh
          simp only [Option.some.injEq, Obj.cells.injEq] at hh
          exact absurd hh.2.1 (by decide)
      have hvlt : ∀ g, v.ownBlock = some g → g < W.heap.size := fun g e => (hoi.1.lt g e).2
      have Hlook := Lib.hid hlook
      have Hoi := Lib.hid hoi
      have Hback := Lib.hid hback
      have Hgrp2 := Lib.hid hgrp2
      have Hbox := Lib.hid hbox
      have HWb := Lib.hid hWb
      have HvB := Lib.hid hvB
      have HvP := Lib.hid hvP
      have Hvlt := Lib.hid hvlt
      have HwfK : Hid ((Lit.int .i64 (k : Int)).wf = true) := WalkArith.wf_i64 (by omega)
      have Hi0 := Lib.hid hi0
      have Hz0 := Lib.hid hz0
      have Hz1 := Lib.hid hz1
      have Hz2 := Lib.hid hz2
      clear hlook hoi hback hgrp2 hbox hWb hvB hvP hvlt hWo hgrp hown hat hzs c0 c1 c2 c3 hD hb hi0 hz0 hz1 hz2
      refine wp_region_inv (by kernel_rfl) (fun f x u => ∃ x14 x15 x16 x17 x18 x19 x20 x21 x22 x23, x = ⟨#[.slice (some ⟨b, off, none⟩) fs.length cap, undef, .map none, .map (some w.heap.size), .int .i64 (k : Nat), .pointer (some ⟨wr.heap.size, 0, none⟩), .map (some w.heap.size), .slice (some ⟨b, off, none⟩) fs.length cap, .int .i64 (fs.length : Nat), .int .i64 (k : Nat), .bool true, .int .i64 (k : Nat), .pointer (some ⟨b, off + k * 4, none⟩), .agg #[.string nm, .slice A1 an cap1, .int .i64 rn, .slice A2 tn cap2], x14, x15, x16, x17, x18, x19, x20, x21, x22, x23, u24, undef], []⟩ ∧ IxF W.drew w.heap.size wr.heap.size k nm v zs (fun u => (∃ D : DataW Unit, Grp fs (k + 1) D ∧ u.ownsGroups Tryz.prog 9 (w.heap.size + 1) 3 .i64 w.heap.size (k + 1) D) ∧ Below w.heap.size w u) f x14 x15 x16 x17 x18 x19 x20 x21 x22 x23 u) (of_decide_eq_true (by kernel_rfl)) ⟨_, _, _, _, _, _, _, _, _, _, rfl, ⟨nofun, nofun, Nat.le_refl _, fun _ => ⟨rfl, rfl, rfl, Nat.le_refl _, fun _ _ _ => rfl⟩, nofun, nofun, nofun, nofun, nofun, nofun, nofun, nofun, nofun, nofun, nofun⟩⟩ ?_ ?_
      · rintro f x u q o ho hfi hdep ⟨x14, x15, x16, x17, x18, x19, x20, x21, x22, x23, rfl, hF⟩
        have hil : q < 11 := by have := (Array.getElem?_eq_some_iff.1 ho).1; simpa using this
        have h10 := hF.not10 hfi hil
        have hsz : W.heap.size ≤ u.heap.size := hF.size
        have cP : u.cell? ⟨wr.heap.size, 0, none⟩ = some (.string nm) := by
          have hb2 : u.heap[wr.heap.size]? = W.drew.heap[wr.heap.size]? := hF.block h10 hWs HvP.out
          exact (World.cell?_of_block (w := W.drew) hb2).trans (Hbox.out.cell 0)
        have hB : u.heap[w.heap.size]? = W.drew.heap[w.heap.size]? := hF.block h10 (by show _ < W.heap.size; omega) HvB.out
        have hlk := Hlook.out u hB
        clear hB
        obtain rfl | rfl | rfl | rfl | rfl | rfl | rfl | rfl | rfl | rfl | rfl : q = 0 ∨ q = 1 ∨ q = 2 ∨ q = 3 ∨ q = 4 ∨ q = 5 ∨ q = 6 ∨ q = 7 ∨ q = 8 ∨ q = 9 ∨ q = 10 := by omega
        all_goals
          obtain rfl := Option.some.inj ho
          refine wpOp_step ho fun K hK => ?_
          simp [Region.binds] at hdep
          clear ho
        · refine if_go rfl ?_
          have HF := Lib.hid hF
          clear hF
          unfold Oper.wp
          go_simp
          exact hK _ _ ⟨_, _, _, _, _, _, _, _, _, _, rfl, HF.out.s0 hfi⟩
        · refine if_go rfl ?_
          have HF := Lib.hid hF
          clear hF
          unfold Oper.wp
          go_simp
          exact hK _ _ ⟨_, _, _, _, _, _, _, _, _, _, rfl, HF.out.s1 hfi⟩
        · have d1 : f 1 = true := by simp [hdep]
          obtain rfl := hF.a1 d1
          refine if_go rfl ?_
          have HF := Lib.hid hF
          clear hF
          unfold Oper.wp
          go_simp
          exact hK _ _ ⟨_, _, _, _, _, _, _, _, _, _, rfl, HF.out.s2 hfi⟩
        · refine if_go rfl ?_
          have HF := Lib.hid hF
          clear hF
          unfold Oper.wp
          go_simp
          exact hK _ _ ⟨_, _, _, _, _, _, _, _, _, _, rfl, HF.out.s3 hfi⟩
        · refine if_go rfl ?_
          have HF := Lib.hid hF
          clear hF
          unfold Oper.wp
          go_simp
          exact hK _ _ ⟨_, _, _, _, _, _, _, _, _, _, rfl, HF.out.s4 hfi⟩
        · have d4 : f 4 = true := by simp [hdep]
          obtain rfl := hF.a4 d4
          refine if_go rfl ?_
          have HF := Lib.hid hF
          clear hF
          unfold Oper.wp
          go_simp
          exact hK _ _ ⟨_, _, _, _, _, _, _, _, _, _, rfl, HF.out.s5 hfi⟩
        · have d3 : f 3 = true := by simp [hdep]
          obtain rfl := hF.a3 d3
          have d5 : f 5 = true := by simp [hdep]
          obtain rfl := hF.a5 d5
          refine if_go rfl ?_
          have HF := Lib.hid hF
          clear hF
          unfold Oper.wp
          go_simp
          exact hK _ _ ⟨_, _, _, _, _, _, _, _, _, _, rfl, HF.out.s6 hfi⟩
        · refine if_go rfl ?_
          have HF := Lib.hid hF
          clear hF
          unfold Oper.wp
          go_simp
          exact hK _ _ ⟨_, _, _, _, _, _, _, _, _, _, rfl, HF.out.s7 hfi⟩
        · have d7 : f 7 = true := by simp [hdep]
          obtain rfl := hF.a7 d7
          refine if_go rfl ?_
          have HF := Lib.hid hF
          clear hF
          unfold Oper.wp
          go_simp
          exact hK _ _ ⟨_, _, _, _, _, _, _, _, _, _, rfl, HF.out.s8 hfi⟩
        · have d6 : f 6 = true := by simp [hdep]
          have d8 : f 8 = true := by simp [hdep]
          obtain rfl := hF.a6 d6
          obtain ⟨p, hp, rfl, hrow⟩ := hF.a8 d8 hfi
          have hpre := hF.pre hfi
          have hou : u.ownsInts (w.heap.size + 1) 3 .i64 x20 zs := Hoi.out.kept hpre (by cases x20.ownBlock <;> simp)
          refine step_append_lies u rfl (.tmp 20) (.tmp 22) 22 rfl (w.heap.size + 1) 3 i0 (.int .i64 0) 1 8 Tryz.underlying22 Hi0.out Hz0.out Hz1.out Hz2.out rfl (by decide) x20 zs.length _ rfl hou.1 ⟨p, 0, none⟩ 1 1 [.int .i64 (k : Int)] rfl rfl (World.news_of_block hrow) (by simp [Value.oneCell']) (by omega) (by unfold maxLen; omega) (by omega) (by omega) u.heap.size rfl ?_
          intro g cap' u' ho' hg' hloc' hlt'
          exact hK _ _ ⟨_, _, _, _, _, _, _, _, _, _, rfl, hF.s9 hfi d6 d8 hg' (hou.appended ho' HwfK.out) (hloc'.imp (fun e => e.symm) (fun e => by rw [e]; rfl))⟩
        · have hall : ∀ j, j < 10 → f j = true := fun j hj => by
            obtain rfl | rfl | rfl | rfl | rfl | rfl | rfl | rfl | rfl | rfl : j = 0 ∨ j = 1 ∨ j = 2 ∨ j = 3 ∨ j = 4 ∨ j = 5 ∨ j = 6 ∨ j = 7 ∨ j = 8 ∨ j = 9 := by omega
            all_goals simp [hdep]
          obtain rfl := hF.a0 (hall 0 (by omega))
          obtain rfl := hF.a2 (hall 2 (by omega))
          obtain ⟨hgr, hox, hlc⟩ := hF.post (hall 9 (by omega)) hfi
          obtain ⟨u2, hrun, hown2, hgr2⟩ := Hback.out u x23 (zs ++ [(k : Int)]) hgr hox (by simp; omega) hlc
          have hD2 := hox.datum_pos (H := Unit) (by simp)
          rw [hD2] at hown2
          have hfin : Hid ((∃ D : DataW Unit, Grp fs (k + 1) D ∧ u2.ownsGroups Tryz.prog 9 (w.heap.size + 1) 3 .i64 w.heap.size (k + 1) D) ∧ Below w.heap.size w u2) := by
            refine ⟨⟨_, Hgrp2.out, hown2⟩, ⟨hgr2.os.trans (hgr.os.trans HWb.out.os), hgr2.tape.trans (hgr.tape.trans HWb.out.tape), hgr2.output.trans (hgr.output.trans HWb.out.output), Nat.le_trans HWb.out.size (Nat.le_trans hgr.size hgr2.size), fun j hj => ?_⟩⟩
            have hjW : j < W.heap.size := Nat.lt_of_lt_of_le hj HWb.out.size
            exact (hgr2.block j (by omega) (by simp; omega)).trans ((hgr.block j hjW (fun e => by have := (Hoi.out.1.lt j e.symm).1; omega)).trans (HWb.out.block j hj))
          have hs2 := hgr2.size
          refine if_go rfl ?_
          have HF := Lib.hid hF
          clear hF hown2 hgr2 hgr hox hlc hD2 hlk
          unfold Oper.wp
          go_simp
          exact hK _ _ ⟨_, _, _, _, _, _, _, _, _, _, rfl, HF.out.s10 hall hs2 hfin.out⟩
      · rintro f x u hall ⟨x14, x15, x16, x17, x18, x19, x20, x21, x22, x23, rfl, hF⟩
        have hfin := Lib.hid (hF.fin (hall 10 (by simp)))
        have hus : w.heap.size + 1 ≤ u.heap.size := Nat.le_trans (by show _ ≤ W.heap.size; omega) hF.size
        clear hF hall
        go_wp2
        go_roundw
        case rel => exact ⟨k + 1, by omega, by go_num, hfin.out.1, hfin.out.2, hus⟩
        case measure => simp [intOf]; omega
    · obtain rfl : k = fs.length := by omega
      go_wp2
      go_ret
      obtain ⟨D, h1, h2⟩ := hD.out
      exact ⟨D, rfl, hb.out, h1, h2⟩
end Go.Proofs.YtnmbjmocnafekaaGreatDoor

