/-
  A map from names to the indices of the functions that have them: as plain data, and what it is for no two functions to be alike.
-/
import Derived.Test.YtfcekbjoagogdaaDoorFok
import Derived.Test.YtfcekbjoagogdaaDoorOwn
import Derived.Maps.OwnRows
import Derived.Maps.Views
import Derived.Maps.RangeWalk
import Derived.StringKeys
namespace Go.Proofs.YtfcekbjoagogdaaDoor
open Go.RowKit Go.Maps
open Go.ChangeShapes (lits)

theorem bytes_eq {a b : ByteArray} (h : a.toList = b.toList) : a = b := by
  rw [ByteArray.toList_eq, ByteArray.toList_eq] at h
  exact Go.WideShapes.bytes_inj h

/-- What a name reads as where it is a map's key. -/
def kN (s : ByteArray) : Lit := .string s.data.toList
theorem kN_inj {a b : ByteArray} (h : kN a = kN b) : a = b := by
  unfold kN at h
  injection h with h
  have h2 : a.data = b.data := Array.toList_inj.1 h
  cases a; cases b; simp_all
theorem lawStr : Keyed Tryd.prog 9 := string_keyed Tryd.underlying9
theorem kN_key {s : ByteArray} (h : s.size ≤ maxLen) : keyOf Tryd.prog 9 (.string s) = some (kN s) := Go.WideMaps.keyOf_string_mk Tryd.underlying9 h
theorem kN_lit {s : ByteArray} (h : s.size ≤ maxLen) : WideAt.IsKeyLit (kN s) := lawStr.key (kN_key h)

open Classical in
/-- The indices of the first k functions that have a name. -/
noncomputable def idxs (fs : List Fu) (k : Nat) (nm : ByteArray) : List Int := ((List.range k).filter fun i => decide ((fs.getD i default).name = nm)).map fun i : Nat => (i : Int)
theorem idxs_same {fs : List Fu} {k : Nat} {nm : ByteArray} (h : (fs.getD k default).name = nm) : idxs fs (k + 1) nm = idxs fs k nm ++ [(k : Int)] := by
  unfold idxs
  rw [List.range_succ, List.filter_append, List.map_append]
  rw [List.getD_eq_getElem?_getD] at h
  simp [h]
theorem idxs_other {fs : List Fu} {k : Nat} {nm : ByteArray} (h : (fs.getD k default).name ≠ nm) : idxs fs (k + 1) nm = idxs fs k nm := by
  unfold idxs
  rw [List.range_succ, List.filter_append, List.map_append]
  rw [List.getD_eq_getElem?_getD] at h
  simp [h]
theorem idxs_mem {fs : List Fu} {k : Nat} {nm : ByteArray} {z : Int} : z ∈ idxs fs k nm ↔ ∃ i : Nat, i < k ∧ (fs.getD i default).name = nm ∧ z = (i : Int) := by
  unfold idxs
  rw [List.mem_map]
  constructor
  · rintro ⟨i, hi, rfl⟩
    obtain ⟨h1, h2⟩ := List.mem_filter.1 hi
    exact ⟨i, List.mem_range.1 h1, by simpa using h2, rfl⟩
  · rintro ⟨i, h1, h2, rfl⟩
    exact ⟨i, List.mem_filter.2 ⟨List.mem_range.2 h1, by simpa using h2⟩, rfl⟩
theorem idxs_asc (fs : List Fu) (k : Nat) (nm : ByteArray) : (idxs fs k nm).Pairwise (· < ·) := by
  unfold idxs
  rw [List.pairwise_map]
  refine List.Pairwise.imp (fun {a b} h => ?_) (List.Pairwise.filter _ (List.pairwise_lt_range (n := k)))
  show (a : Int) < (b : Int)
  omega
theorem idxs_len (fs : List Fu) (k : Nat) (nm : ByteArray) : (idxs fs k nm).length ≤ k := by
  unfold idxs
  rw [List.length_map]
  exact Nat.le_trans (List.length_filter_le _ _) (by simp)
theorem idxs_zero (fs : List Fu) (nm : ByteArray) : idxs fs 0 nm = [] := by simp [idxs]
theorem getD_of {α : Type} {l : List α} {i : Nat} {d : α} (h : i < l.length) : l.getD i d = l[i] := by rw [List.getD_eq_getElem?_getD, List.getElem?_eq_getElem h]; rfl

/-- D is the map of the first k functions. -/
structure Grp (fs : List Fu) (k : Nat) (D : DataW Unit) : Prop where
  map : IsMap D
  at_ : ∀ nm : ByteArray, nm.size ≤ maxLen → idxs fs k nm ≠ [] → D.atKey (kN nm) .nil = .slice (lits .i64 (idxs fs k nm)) []
  none_ : ∀ nm : ByteArray, nm.size ≤ maxLen → idxs fs k nm = [] → D.atKey (kN nm) .nil = .nil
  has : ∀ nm : ByteArray, nm.size ≤ maxLen → (Maps.has D (kN nm) = true ↔ idxs fs k nm ≠ [])
theorem Grp.start (fs : List Fu) : Grp fs 0 (.map []) := ⟨isMap_empty, fun nm _ h => absurd (idxs_zero fs nm) h, fun _ _ _ => rfl, fun nm _ => ⟨fun h => (by cases h), fun h => absurd (idxs_zero fs nm) h⟩⟩
theorem Grp.step {fs : List Fu} {k : Nat} {D : DataW Unit} {nm : ByteArray} (h : Grp fs k D) (hn : (fs.getD k default).name = nm) (hs : nm.size ≤ maxLen) {w : World} {base : Nat} {e : TypeId} {v : Value} {zs : List Int}
    (ho : w.ownsInts base e .i64 v zs) (hat : D.atKey (kN nm) .nil = rowDatum .i64 v zs) : zs = idxs fs k nm ∧ Grp fs (k + 1) (D.put (kN nm) (.slice (lits .i64 (zs ++ [(k : Int)])) [])) := by
  have hz : zs = idxs fs k nm := by
    rcases ho.datum (H := Unit) with ⟨h1, rfl⟩ | h1
    · rw [h1] at hat
      by_cases e : idxs fs k nm = []
      · exact e.symm
      · rw [h.at_ nm hs e] at hat
        cases hat
    · rw [h1] at hat
      by_cases e : idxs fs k nm = []
      · rw [h.none_ nm hs e] at hat
        cases hat
      · rw [h.at_ nm hs e] at hat
        simp only [DataW.slice.injEq, and_true] at hat
        unfold lits at hat
        exact (List.map_inj_right (fun a b hab => by simpa using hab)).1 hat.symm
  refine ⟨hz, h.map.put _ _, fun m hm hne => ?_, fun m hm hne => ?_, fun m hm => ?_⟩
  · by_cases e : nm = m
    · subst e
      rw [atKey_put_same h.map (kN_lit hs), idxs_same hn, hz]
    · rw [atKey_put_other (fun e2 => e (kN_inj e2).symm)]
      rw [idxs_other (by rw [hn]; exact e)] at hne ⊢
      exact h.at_ m hm hne
  · by_cases e : nm = m
    · subst e
      rw [idxs_same hn] at hne
      simp at hne
    · rw [atKey_put_other (fun e2 => e (kN_inj e2).symm)]
      rw [idxs_other (by rw [hn]; exact e)] at hne
      exact h.none_ m hm hne
  · by_cases e : nm = m
    · subst e
      rw [has_put_same h.map (kN_lit hs), idxs_same hn]
      simp
    · rw [has_put_other (fun e2 => e (kN_inj e2).symm), idxs_other (by rw [hn]; exact e)]
      exact h.has m hm

/-- What the look-up of a name gives. -/
theorem Grp.look {fs : List Fu} {k : Nat} {D : DataW Unit} {nm : ByteArray} (h : Grp fs k D) (hs : nm.size ≤ maxLen) {w : World} {base : Nat} {e : TypeId} {v : Value} {zs : List Int}
    (ho : w.ownsInts base e .i64 v zs) (hat : D.atKey (kN nm) .nil = rowDatum .i64 v zs) : zs = idxs fs k nm := by
  rcases ho.datum (H := Unit) with ⟨h1, rfl⟩ | h1
  · rw [h1] at hat
    by_cases e : idxs fs k nm = []
    · exact e.symm
    · rw [h.at_ nm hs e] at hat
      cases hat
  · rw [h1] at hat
    by_cases e : idxs fs k nm = []
    · rw [h.none_ nm hs e] at hat
      cases hat
    · rw [h.at_ nm hs e] at hat
      simp only [DataW.slice.injEq, and_true] at hat
      unfold lits at hat
      exact (List.map_inj_right (fun a b hab => by simpa using hab)).1 hat.symm

/-- No two of some functions have the same types of arguments. -/
def Parts (fs : List Fu) (l : List Int) : Prop := ∀ a b : Nat, a < l.length → b < a → (fs.getD (l.getD a 0).toNat default).args ≠ (fs.getD (l.getD b 0).toNat default).args
theorem differ_of_parts {fs : List Fu} (h : ∀ nm : ByteArray, idxs fs fs.length nm ≠ [] → Parts fs (idxs fs fs.length nm)) : Differ fs := by
  rintro i k hi hk ⟨h1, h2⟩
  have mi : (i : Int) ∈ idxs fs fs.length (fs.getD i default).name := idxs_mem.2 ⟨i, hi, rfl, rfl⟩
  have mk : (k : Int) ∈ idxs fs fs.length (fs.getD i default).name := idxs_mem.2 ⟨k, by omega, h1.symm, rfl⟩
  obtain ⟨a, ha, ea⟩ := List.getElem_of_mem mi
  obtain ⟨b, hb, eb⟩ := List.getElem_of_mem mk
  have hlt : b < a := by
    rcases Nat.lt_trichotomy a b with h3 | h3 | h3
    · have := List.pairwise_iff_getElem.1 (idxs_asc fs fs.length (fs.getD i default).name) a b ha hb h3
      omega
    · subst h3; rw [ea] at eb; omega
    · exact h3
  refine h _ (fun e => by rw [e] at mi; cases mi) a b ha hlt ?_
  rw [getD_of ha, getD_of hb]
  simp only [ea, eb, Int.toNat_natCast]
  exact h2
theorem not_differ {fs : List Fu} {nm : ByteArray} {a b : Nat} (ha : a < (idxs fs fs.length nm).length) (hb : b < a) (he : (fs.getD ((idxs fs fs.length nm).getD a 0).toNat default).args = (fs.getD ((idxs fs fs.length nm).getD b 0).toNat default).args) : ¬ Differ fs := by
  intro h
  have hb' : b < (idxs fs fs.length nm).length := by omega
  obtain ⟨i, hi, hni, ei⟩ := idxs_mem.1 (List.getElem_mem ha)
  obtain ⟨k, hk, hnk, ek⟩ := idxs_mem.1 (List.getElem_mem hb')
  have hlt := List.pairwise_iff_getElem.1 (idxs_asc fs fs.length nm) b a hb' ha hb
  rw [ei, ek] at hlt
  rw [getD_of ha, getD_of hb'] at he
  simp only [ei, ek, Int.toNat_natCast] at he
  exact h i k hi (by omega) ⟨hni.trans hnk.symm, he⟩
open Classical in
noncomputable def differB (fs : List Fu) : Bool := decide (Differ fs)
theorem differB_iff {fs : List Fu} : differB fs = true ↔ Differ fs := by unfold differB; exact @decide_eq_true_iff _ (Classical.propDecidable _)
theorem differB_yes {fs : List Fu} (h : Differ fs) : differB fs = true := by unfold differB; exact @decide_eq_true _ (Classical.propDecidable _) h
theorem differB_no {fs : List Fu} (h : ¬ Differ fs) : differB fs = false := by unfold differB; exact @decide_eq_false _ (Classical.propDecidable _) h

/-- The look-up in any world that holds the map's block as it stood. -/
theorem groups_look {P : Program} {w : World} {t E k e : TypeId} {q : IntKind} {base b n : Nat} {D : DataW Unit} {key : Value} {kl : Lit} (h : w.ownsGroups P k base e q b n D) (K : Keyed P k) (ht : P.underlying t = some (.map k E)) (hz : ∀ u : World, (zeroValue E).run P u = .ok (.slice none 0 0) u) (hn : n < maxLen) (hkey : keyOf P k key = some kl) :
    ∃ v zs, (∀ u : World, u.heap[b]? = w.heap[b]? → (Instr.lookup t (.map (some b)) key false).run P u = .ok v u) ∧ D.atKey kl .nil = rowDatum q v zs ∧ w.ownsInts base e q v zs ∧ zs.length ≤ n ∧ w.groupBack P t k base e q b n D key kl v := by
  have hOwn := h
  obtain ⟨v, zs, hrun, r⟩ := hOwn.at K ht (hz w) hn hkey
  refine ⟨v, zs, fun u hu => ?_, r⟩
  obtain ⟨es, clock, hb, F, hs, rfl, hbb, hlen, hap⟩ := h
  have hub : u.heap[b]? = some (.map es clock) := hu.trans hb
  rcases K.find w hkey es.toList F.keys with ⟨h1, h2⟩ | ⟨j, e0, h1, h2, h3⟩
  · have e1 : (Instr.lookup t (.map (some b)) key false).run P w = .ok (.slice none 0 0) w := by simp [Instr.lookup, run_underlying ht, MapKept.run_getObj_map hb, K.check w _ hkey, h1, hz, Result.andThen]
    rw [hrun] at e1
    obtain rfl : v = .slice none 0 0 := by simpa using e1
    rcases K.find u hkey es.toList F.keys with ⟨g1, g2⟩ | ⟨j, e0, g1, g2, g3⟩
    · simp [Instr.lookup, run_underlying ht, MapKept.run_getObj_map hub, K.check u _ hkey, g1, hz, Result.andThen]
    · exact absurd g3 (h2 e0 (List.mem_of_getElem? g2))
  · have e1 : (Instr.lookup t (.map (some b)) key false).run P w = .ok e0.val w := by simp [Instr.lookup, run_underlying ht, MapKept.run_getObj_map hb, K.check w _ hkey, h1, Result.andThen]
    rw [hrun] at e1
    obtain rfl : v = e0.val := by simpa using e1
    rcases K.find u hkey es.toList F.keys with ⟨g1, g2⟩ | ⟨j', e0', g1, g2, g3⟩
    · exact absurd h3 (g2 e0 (List.mem_of_getElem? h2))
    · have hpw : es.toList.Pairwise (fun x y => x.key ≠ y.key) := ((MapKept.stamped_iff es clock).1 F.stamped).2.2
      obtain rfl := entry_eq_of_key hpw (List.mem_of_getElem? h2) (List.mem_of_getElem? g2) (h3.trans g3.symm)
      simp [Instr.lookup, run_underlying ht, MapKept.run_getObj_map hub, K.check u _ hkey, g1, Result.andThen]
end Go.Proofs.YtfcekbjoagogdaaDoor
