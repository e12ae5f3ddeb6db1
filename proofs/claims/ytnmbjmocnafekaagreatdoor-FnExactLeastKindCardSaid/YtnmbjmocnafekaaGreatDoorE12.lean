/-
  A map from names to the indices of the functions that have them: as plain data, and what it is for no two functions to be alike.
  The contract of the model's SystemValid.
  A region that draws its order, by an invariant over what has been done: one obligation for each operation.
-/
import Derived.Test.YtnmbjmocnafekaaGreatDoorE10
import Derived.Test.YtnmbjmocnafekaaGreatDoorE4
import Derived.Maps.OwnRows
import Derived.Maps.Views
import Derived.Maps.RangeWalk
import Derived.StringKeys
import Derived.Test.YtnmbjmocnafekaaGreatDoorE11
import Derived.WalkKit
namespace Go.Proofs.YtnmbjmocnafekaaGreatDoor
open Go.RowKit Go.Maps
open Go.ChangeShapes (lits)

theorem bytes_eq {a b : ByteArray} (h : a.toList = b.toList) : a = b := by
  rw [ByteArray.toList_eq, ByteArray.toList_eq] at h
  exact Go.WideShapes.bytes_inj h

/-- What a name reads as where it is a map's key. -/
def kN (s : ByteArray) : Lit := .string s.data.toList
theorem kN_inj {a b : ByteArray} (h : kN a = kN b) : a = b := by
  unfold kN at h
  injection h with h
  have h2 : a.data = b.data := Array.toList_inj.1 h
  cases a; cases b; simp_all
theorem lawStr : Keyed Tryz.prog 9 := string_keyed Tryz.underlying9
theorem kN_key {s : ByteArray} (h : s.size ≤ maxLen) : keyOf Tryz.prog 9 (.string s) = some (kN s) := Go.WideMaps.keyOf_string_mk Tryz.underlying9 h
theorem kN_lit {s : ByteArray} (h : s.size ≤ maxLen) : WideAt.IsKeyLit (kN s) := lawStr.key (kN_key h)

open Classical in
/-- The indices of the first k functions that have a name. -/
noncomputable def idxs (fs : List Fu) (k : Nat) (nm : ByteArray) : List Int := ((List.range k).filter fun i => decide ((fs.getD i default).name = nm)).map fun i : Nat => (i : Int)
theorem idxs_same {fs : List Fu} {k : Nat} {nm : ByteArray} (h : (fs.getD k default).name = nm) : idxs fs (k + 1) nm = idxs fs k nm ++ [(k : Int)] := by
  unfold idxs
  rw [List.range_succ, List.filter_append, List.map_append]
  rw [List.getD_eq_getElem?_getD] at h
  simp [h]
theorem idxs_other {fs : List Fu} {k : Nat} {nm : ByteArray} (h : (fs.getD k default).name ≠ nm) : idxs fs (k + 1) nm = idxs fs k nm := by
  unfold idxs
  rw [List.range_succ, List.filter_append, List.map_append]
  rw [List.getD_eq_getElem?_getD] at h
  simp [h]
theorem idxs_mem {fs : List Fu} {k : Nat} {nm : ByteArray} {z : Int} : z ∈ idxs fs k nm ↔ ∃ i : Nat, i < k ∧ (fs.getD i default).name = nm ∧ z = (i : Int) := by
  unfold idxs
  rw [List.mem_map]
  constructor
  · rintro ⟨i, hi, rfl⟩
    obtain ⟨h1, h2⟩ := List.mem_filter.1 hi
    exact ⟨i, List.mem_range.1 h1, by simpa using h2, rfl⟩
  · rintro ⟨i, h1, h2, rfl⟩
    exact ⟨i, List.mem_filter.2 ⟨List.mem_range.2 h1, by simpa using h2⟩, rfl⟩
theorem idxs_asc (fs : List Fu) (k : Nat) (nm : ByteArray) : (idxs fs k nm).Pairwise (· < ·) := by
  unfold idxs
  rw [List.pairwise_map]
  refine List.Pairwise.imp (fun {a b} h => ?_) (List.Pairwise.filter _ (List.pairwise_lt_range (n := k)))
  show (a : Int) < (b : Int)
  omega
theorem idxs_len (fs : List Fu) (k : Nat) (nm : ByteArray) : (idxs fs k nm).length ≤ k := by
  unfold idxs
  rw [List.length_map]
  exact Nat.le_trans (List.length_filter_le _ _) (by simp)
theorem idxs_zero (fs : List Fu) (nm : ByteArray) : idxs fs 0 nm = [] := by simp [idxs]
theorem getD_of {α : Type} {l : List α} {i : Nat} {d : α} (h : i < l.length) : l.getD i d = l[i] := by rw [List.getD_eq_getElem?_getD, List.getElem?_eq_getElem h]; rfl

/-- D is the map of the first k functions. -/
structure Grp (fs : List Fu) (k : Nat) (D : DataW Unit) : Prop where
  map : IsMap D
  at_ : ∀ nm : ByteArray, nm.size ≤ maxLen → idxs fs k nm ≠ [] → D.atKey (kN nm) .nil = .slice (lits .i64 (idxs fs k nm)) []
  none_ : ∀ nm : ByteArray, nm.size ≤ maxLen → idxs fs k nm = [] → D.atKey (kN nm) .nil = .nil
  has : ∀ nm : ByteArray, nm.size ≤ maxLen → (Maps.has D (kN nm) = true ↔ idxs fs k nm ≠ [])
theorem Grp.start (fs : List Fu) : Grp fs 0 (.map []) := ⟨isMap_empty, fun nm _ h => absurd (idxs_zero fs nm) h, fun _ _ _ => rfl, fun nm _ => ⟨fun h => (by cases h), fun h => absurd (idxs_zero fs nm) h⟩⟩
theorem Grp.step {fs : List Fu} {k : Nat} {D : DataW Unit} {nm : ByteArray} (h : Grp fs k D) (hn : (fs.getD k default).name = nm) (hs : nm.size ≤ maxLen) {w : World} {base : Nat} {e : TypeId} {v : Value} {zs : List Int}
    (ho : w.ownsInts base e .i64 v zs) (hat : D.atKey (kN nm) .nil = rowDatum .i64 v zs) : zs = idxs fs k nm ∧ Grp fs (k + 1) (D.put (kN nm) (.slice (lits .i64 (zs ++ [(k : Int)])) [])) := by
  have hz : zs = idxs fs k nm := by
    rcases ho.datum (H := Unit) with ⟨h1, rfl⟩ | h1
    · rw [h1] at hat
      by_cases e : idxs fs k nm = []
      · exact e.symm
      · rw [h.at_ nm hs e] at hat
        cases hat
    · rw [h1] at hat
      by_cases e : idxs fs k nm = []
      · rw [h.none_ nm hs e] at hat
        cases hat
      · rw [h.at_ nm hs e] at hat
        simp only [DataW.slice.injEq, and_true] at hat
        unfold lits at hat
        exact (List.map_inj_right (fun a b hab => by simpa using hab)).1 hat.symm
  refine ⟨hz, h.map.put _ _, fun m hm hne => ?_, fun m hm hne => ?_, fun m hm => ?_⟩
  · by_cases e : nm = m
    · subst e
      rw [atKey_put_same h.map (kN_lit hs), idxs_same hn, hz]
    · rw [atKey_put_other (fun e2 => e (kN_inj e2).symm)]
      rw [idxs_other (by rw [hn]; exact e)] at hne ⊢
      exact h.at_ m hm hne
  · by_cases e : nm = m
    · subst e
      rw [idxs_same hn] at hne
      simp at hne
    · rw [atKey_put_other (fun e2 => e (kN_inj e2).symm)]
      rw [idxs_other (by rw [hn]; exact e)] at hne
      exact h.none_ m hm hne
  · by_cases e : nm = m
    · subst e
      rw [has_put_same h.map (kN_lit hs), idxs_same hn]
      simp
    · rw [has_put_other (fun e2 => e (kN_inj e2).symm), idxs_other (by rw [hn]; exact e)]
      exact h.has m hm

/-- What the look-up of a name gives. -/
theorem Grp.look {fs : List Fu} {k : Nat} {D : DataW Unit} {nm : ByteArray} (h : Grp fs k D) (hs : nm.size ≤ maxLen) {w : World} {base : Nat} {e : TypeId} {v : Value} {zs : List Int}
    (ho : w.ownsInts base e .i64 v zs) (hat : D.atKey (kN nm) .nil = rowDatum .i64 v zs) : zs = idxs fs k nm := by
  rcases ho.datum (H := Unit) with ⟨h1, rfl⟩ | h1
  · rw [h1] at hat
    by_cases e : idxs fs k nm = []
    · exact e.symm
    · rw [h.at_ nm hs e] at hat
      cases hat
  · rw [h1] at hat
    by_cases e : idxs fs k nm = []
    · rw [h.none_ nm hs e] at hat
      cases hat
    · rw [h.at_ nm hs e] at hat
      simp only [DataW.slice.injEq, and_true] at hat
      unfold lits at hat
      exact (List.map_inj_right (fun a b hab => by simpa using hab)).1 hat.symm

/-- No two of some functions have the same types of arguments. -/
def Parts (fs : List Fu) (l : List Int) : Prop := ∀ a b : Nat, a < l.length → b < a → (fs.getD (l.getD a 0).toNat default).args ≠ (fs.getD (l.getD b 0).toNat default).args
theorem differ_of_parts {fs : List Fu} (h : ∀ nm : ByteArray, idxs fs fs.length nm ≠ [] → Parts fs (idxs fs fs.length nm)) : Differ fs := by
  rintro i k hi hk ⟨h1, h2⟩
  have mi : (i : Int) ∈ idxs fs fs.length (fs.getD i default).name := idxs_mem.2 ⟨i, hi, rfl, rfl⟩
  have mk : (k : Int) ∈ idxs fs fs.length (fs.getD i default).name := idxs_mem.2 ⟨k, by omega, h1.symm, rfl⟩
  obtain ⟨a, ha, ea⟩ := List.getElem_of_mem mi
  obtain ⟨b, hb, eb⟩ := List.getElem_of_mem mk
  have hlt : b < a := by
    rcases Nat.lt_trichotomy a b with h3 | h3 | h3
    · have := List.pairwise_iff_getElem.1 (idxs_asc fs fs.length (fs.getD i default).name) a b ha hb h3
      omega
    · subst h3; rw [ea] at eb; omega
    · exact h3
  refine h _ (fun e => by rw [e] at mi; cases mi) a b ha hlt ?_
  rw [getD_of ha, getD_of hb]
  simp only [ea, eb, Int.toNat_natCast]
  exact h2
theorem not_differ {fs : List Fu} {nm : ByteArray} {a b : Nat} (ha : a < (idxs fs fs.length nm).length) (hb : b < a) (he : (fs.getD ((idxs fs fs.length nm).getD a 0).toNat default).args = (fs.getD ((idxs fs fs.length nm).getD b 0).toNat default).args) : ¬ Differ fs := by
  intro h
  have hb' : b < (idxs fs fs.length nm).length := by omega
  obtain ⟨i, hi, hni, ei⟩ := idxs_mem.1 (List.getElem_mem ha)
  obtain ⟨k, hk, hnk, ek⟩ := idxs_mem.1 (List.getElem_mem hb')
  have hlt := List.pairwise_iff_getElem.1 (idxs_asc fs fs.length nm) b a hb' ha hb
  rw [ei, ek] at hlt
  rw [getD_of ha, getD_of hb'] at he
  simp only [ei, ek, Int.toNat_natCast] at he
  exact h i k hi (by omega) ⟨hni.trans hnk.symm, he⟩
open Classical in
noncomputable def differB (fs : List Fu) : Bool := decide (Differ fs)
theorem differB_iff {fs : List Fu} : differB fs = true ↔ Differ fs := by unfold differB; exact @decide_eq_true_iff _ (Classical.propDecidable _)
theorem differB_yes {fs : List Fu} (h : Differ fs) : differB fs = true := by unfold differB; exact @decide_eq_true _ (Classical.propDecidable _) h
theorem differB_no {fs : List Fu} (h : ¬ Differ fs) : differB fs = false := by unfold differB; exact @decide_eq_false _ (Classical.propDecidable _) h

/-- The look-up in any world that holds the map's block as it stood. -/
theorem groups_look {P : Program} {w : World} {t E k e : TypeId} {q : IntKind} {base b n : Nat} {D : DataW Unit} {key : Value} {kl : Lit} (h : w.ownsGroups P k base e q b n D) (K : Keyed P k) (ht : P.underlying t = some (.map k E)) (hz : ∀ u : World, (zeroValue E).run P u = .ok (.slice none 0 0) u) (hn : n < maxLen) (hkey : keyOf P k key = some kl) :
    ∃ v zs, (∀ u : World, u.heap[b]? = w.heap[b]? → (Instr.lookup t (.map (some b)) key false).run P u = .ok v u) ∧ D.atKey kl .nil = rowDatum q v zs ∧ w.ownsInts base e q v zs ∧ zs.length ≤ n ∧ w.groupBack P t k base e q b n D key kl v := by
  have hOwn := h
  obtain ⟨v, zs, hrun, r⟩ := hOwn.at K ht (hz w) hn hkey
  refine ⟨v, zs, fun u hu => ?_, r⟩
  obtain ⟨es, clock, hb, F, hs, rfl, hbb, hlen, hap⟩ := h
  have hub : u.heap[b]? = some (.map es clock) := hu.trans hb
  rcases K.find w hkey es.toList F.keys with ⟨h1, h2⟩ | ⟨j, e0, h1, h2, h3⟩
  · have e1 : (Instr.lookup t (.map (some b)) key false).run P w = .ok (.slice none 0 0) w := by simp [Instr.lookup, run_underlying ht, MapKept.run_getObj_map hb, K.check w _ hkey, h1, hz, Result.andThen]
    rw [hrun] at e1
    obtain rfl : v = .slice none 0 0 := by simpa using e1
    rcases K.find u hkey es.toList F.keys with ⟨g1, g2⟩ | ⟨j, e0, g1, g2, g3⟩
    · simp [Instr.lookup, run_underlying ht, MapKept.run_getObj_map hub, K.check u _ hkey, g1, hz, Result.andThen]
    · exact absurd g3 (h2 e0 (List.mem_of_getElem? g2))
  · have e1 : (Instr.lookup t (.map (some b)) key false).run P w = .ok e0.val w := by simp [Instr.lookup, run_underlying ht, MapKept.run_getObj_map hb, K.check w _ hkey, h1, Result.andThen]
    rw [hrun] at e1
    obtain rfl : v = e0.val := by simpa using e1
    rcases K.find u hkey es.toList F.keys with ⟨g1, g2⟩ | ⟨j', e0', g1, g2, g3⟩
    · exact absurd h3 (g2 e0 (List.mem_of_getElem? h2))
    · have hpw : es.toList.Pairwise (fun x y => x.key ≠ y.key) := ((MapKept.stamped_iff es clock).1 F.stamped).2.2
      obtain rfl := entry_eq_of_key hpw (List.mem_of_getElem? h2) (List.mem_of_getElem? g2) (h3.trans g3.symm)
      simp [Instr.lookup, run_underlying ht, MapKept.run_getObj_map hub, K.check u _ hkey, g1, Result.andThen]
end Go.Proofs.YtnmbjmocnafekaaGreatDoor

namespace Go.Proofs.YtnmbjmocnafekaaGreatDoor
open Go.RowKit

set_option maxRecDepth 100000 in
set_option maxHeartbeats 4000000 in
theorem specSysValid_any (lo hi : Nat) (sv cv fv : Value) (y : Sy) (w : World) (hv : SyAt w lo hi sv cv fv y) (hB : hi ≤ w.heap.size) :
    Calls Tryz.prog 36 #[.agg #[sv, cv, fv]] w fun e w' => e = .returned (.bool (syB y)) ∧ Below w.heap.size w w' := by
  obtain ⟨hty, hfs⟩ := hv
  obtain ⟨A, cap, rfl, hl1, hm1, hi1⟩ := hty.1.form
  obtain ⟨B, bap, rfl, hl2, hm2, hc1⟩ := hty.2.form
  obtain ⟨F, fap, rfl, hl3, hm3, hf1⟩ := hfs.form
  unfold maxLen at hm1 hm2 hm3
  have h3 : Below w.heap.size w (w.alloc (.cells #[.slice A y.ty.sizes.length cap, .slice B y.ty.cos.length bap, .slice F y.fs.length fap] 36)) := by go_grown
  have Hty := Lib.hid (show TyAt w lo hi (.slice A y.ty.sizes.length cap) (.slice B y.ty.cos.length bap) y.ty from ⟨hi1, hc1⟩)
  have Hf1 := Lib.hid hf1
  clear hty hfs hi1 hc1 hf1
  have H1 := Lib.hid (Below.refl (w.heap.size + 1) (w.alloc (.cells #[.slice A y.ty.sizes.length cap, .slice B y.ty.cos.length bap, .slice F y.fs.length fap] 36)))
  go_enter Tryz.func36, Tryz.ntmps36
  go_wp2_with fail
  refine (specValid_any lo hi _ _ y.ty _ (Hty.out.below h3 hB) (by simp; omega)).mono ?_
  rintro e w1 ⟨rfl, hb1⟩
  have H2 := Lib.hid (H1.out.trans (hb1.mono (by simp)))
  obtain ⟨q0, q1, q2, hl, hB1⟩ := box3 H2.out
  have HB1 := Lib.hid hB1
  clear hb1 h3 hB1 H1
  by_cases c1 : tyOk y.ty = true
  case neg =>
    have H : Hid (syB y = false) := syB_no fun h => c1 h.ty
    have c1f : tyOk y.ty = false := by simpa using c1
    rw [c1f]
    clear c1
    go_wp2
    go_ret
    exact ⟨ret_bool H.out.symm, HB1.out⟩
  have hok := Lib.hid (tyOk_sizes c1)
  have C1 := Lib.hid c1
  rw [c1]
  clear c1
  by_cases c2 : y.fs.length ≤ 8
  case neg =>
    have H : Hid (syB y = false) := syB_no fun h => c2 h.few
    have hd : decide ((8 : Int) < (y.fs.length : Int)) = true := by simp; omega
    go_wp2
    go_ret
    exact ⟨ret_bool H.out.symm, HB1.out⟩
  have hd : decide ((8 : Int) < (y.fs.length : Int)) = false := by simp; omega
  have C2 := Lib.hid c2
  go_wp2
  clear hd
  go_loopw [20] (fun i wr => ∃ k : Nat, k ≤ y.fs.length ∧ i = .int .i64 k ∧ Hid (Below (w.heap.size + 1) w1 wr) ∧ Hid (∀ j, j < k → ∀ (hj : j < y.fs.length), FuOk y.ty.sizes y.fs[j]) ∧
    Hid (∀ i j : Nat, i < k → j < i → ¬ ((y.fs.getD i default).name = (y.fs.getD j default).name ∧ (y.fs.getD i default).args = (y.fs.getD j default).args))) (fun i _ => y.fs.length - (intOf i).toNat)
  case atStart => exact ⟨0, Nat.zero_le _, rfl, Below.refl _ _, fun j hj => absurd hj (by omega), fun i j hi => absurd hi (by omega)⟩
  case round =>
    obtain ⟨k, hk, rfl, hbr, hok2, hdf⟩ := hrel
    have hbo : Below w.heap.size w wr := HB1.out.trans (hbr.out.mono (by omega))
    have hcl : ∀ o, wr.cell? ⟨w.heap.size, o, none⟩ = w1.cell? ⟨w.heap.size, o, none⟩ := fun o => hbr.out.cell (p := ⟨w.heap.size, o, none⟩) (by dsimp only; omega)
    have p0 := (hcl 0).trans q0
    have p1 := (hcl 1).trans q1
    have p2 := (hcl 2).trans q2
    have hlr : w.heap.size < wr.heap.size := Nat.lt_of_lt_of_le hl hbr.out.size
    clear hcl
    by_cases hkl : k < y.fs.length
    · obtain ⟨b, off, A1, cap1, A2, cap2, rfl, _, _, d0, d1, d2, d3, _, _, _, _, hfu⟩ := (Hf1.out.below hbo hB).at_ hkl
      have Hfu := Lib.hid hfu
      have HT4 := Lib.hid (Hty.out.below hbo hB)
      have Hbo := Lib.hid hbo
      clear hfu hbo
      by_cases hin : fuB y.ty.sizes y.fs[k] = true
      case neg =>
        have hinf : fuB y.ty.sizes y.fs[k] = false := by simpa using hin
        have H : Hid (syB y = false) := syB_no fun h => hin (fuB_yes (h.each k hkl))
        clear hin
        go_wp2_with fail
        refine (l4Function_any lo hi lo hi _ _ _ _ _ _ y.ty y.fs[k] (wr.alloc (.cells #[.string y.fs[k].name, .slice A1 y.fs[k].args.length cap1, .int .i64 y.fs[k].res, .slice A2 y.fs[k].table.length cap2] 111)) (HT4.out.below ((Below.refl _ _).alloc (Nat.le_refl _) _) (by omega)) (Hfu.out.below ((Below.refl _ _).alloc (Nat.le_refl _) _) (by omega)) (by simp; omega) (by simp; omega) hok.out).mono ?_
        rintro e w' ⟨rfl, hbb⟩
        have Hbb := Lib.hid hbb
        clear hbb
        rw [hinf]
        go_wp2
        go_ret
        exact ⟨ret_bool H.out.symm, (Hbo.out.alloc (by omega) _).trans (Hbb.out.mono (by simp; omega))⟩
      have hin' := Lib.hid (fuB_iff.1 hin)
      go_wp2_with fail
      refine (l4Function_any lo hi lo hi _ _ _ _ _ _ y.ty y.fs[k] (wr.alloc (.cells #[.string y.fs[k].name, .slice A1 y.fs[k].args.length cap1, .int .i64 y.fs[k].res, .slice A2 y.fs[k].table.length cap2] 111)) (HT4.out.below ((Below.refl _ _).alloc (Nat.le_refl _) _) (by omega)) (Hfu.out.below ((Below.refl _ _).alloc (Nat.le_refl _) _) (by omega)) (by simp; omega) (by simp; omega) hok.out).mono ?_
      rintro e w5 ⟨rfl, hb5⟩
      have hsx : (wr.alloc (.cells #[.string y.fs[k].name, .slice A1 y.fs[k].args.length cap1, .int .i64 y.fs[k].res, .slice A2 y.fs[k].table.length cap2] 111)).heap.size = wr.heap.size + 1 := by simp
      have hrk : Row w5 wr.heap.size 111 [.string y.fs[k].name, .slice A1 y.fs[k].args.length cap1, .int .i64 y.fs[k].res, .slice A2 y.fs[k].table.length cap2] := (Row.new wr _ _).below hb5 (by rw [hsx]; omega)
      have hb05 : Below (w.heap.size + 1) w1 w5 := (hbr.out.alloc (by omega) _).trans (hb5.mono (by rw [hsx]; omega))
      have Hrk := Lib.hid hrk
      have Hfu5 : Hid (IntsAt w5 lo hi (.slice A1 y.fs[k].args.length cap1) y.fs[k].args) := (Hfu.out.2.2.2.2.1.below ((Below.refl _ _).alloc (Nat.le_refl _) _) (by omega)).below hb5 (by rw [hsx]; omega)
      have Hb05 := Lib.hid hb05
      have h5s : wr.heap.size < w5.heap.size := hrk.lt
      have r0 := (hb05.cell (p := ⟨w.heap.size, 2, none⟩) (by dsimp only; omega)).trans q2
      have HbrS := Lib.hid hbr.out.size
      rw [hin]
      clear hb5 hrk hb05 hsx hin p0 p1 p2 d0 d1 d2 d3
      go_wp2
      obtain ⟨N, hN⟩ : ∃ N, N = wr.heap.size := ⟨_, rfl⟩
      rw [← hN] at h5s Hrk HbrS hlr ⊢
      clear hN
      go_loopw [35] (fun q wr => ∃ j : Nat, j ≤ k ∧ q = .int .i64 j ∧ Hid (Below w5.heap.size w5 wr) ∧ Hid (∀ i : Nat, i < j → ¬ ((y.fs.getD k default).name = (y.fs.getD i default).name ∧ (y.fs.getD k default).args = (y.fs.getD i default).args))) (fun q _ => k - (intOf q).toNat)
      case atStart => exact ⟨0, Nat.zero_le _, rfl, Below.refl _ _, fun i hi => absurd hi (by omega)⟩
      case round =>
        obtain ⟨j, hj, rfl, hb5, hd5⟩ := hrel
        have Hb0 : Hid (Below w.heap.size w wr) := HB1.out.trans ((Hb05.out.mono (by omega)).trans (hb5.out.mono (by omega)))
        have s0 := (Hrk.out.below hb5.out h5s).cell 0
        have s1 := (Hrk.out.below hb5.out h5s).cell 1
        have hs5 := hb5.out.size
        have hNw : N < wr.heap.size := by omega
        simp only [List.getElem?_cons_zero, List.getElem?_cons_succ] at s0 s1
        by_cases hjk : j < k
        · have hjl : j < y.fs.length := by omega
          obtain ⟨b', off', A3, cap3, A4, cap4, eF, _, _, d0, d1, d2, d3, _, _, _, _, hfj⟩ := (Hf1.out.below Hb0.out hB).at_ hjl
          obtain ⟨rfl, rfl⟩ : b = b' ∧ off = off' := by simpa using eF
          have Hfj := Lib.hid hfj
          have hjkI : (j : Int) < (k : Int) := by omega
          clear hfj eF
          have HgetK : Hid (y.fs.getD k default = y.fs[k]) := getD_of hkl
          have HgetJ : Hid (y.fs.getD j default = y.fs[j]) := getD_of hjl
          by_cases he : y.fs[k].name = y.fs[j].name
          · have hnm : y.fs[k].name.toList = y.fs[j].name.toList := by rw [he]
            have He := Lib.hid he
            clear he
            go_wp2_with fail
            refine (l3Same_any lo hi lo hi _ _ y.fs[k].args y.fs[j].args _ ((Hfu5.out.below hb5.out (by have := Hb05.out.size; omega)).below ((Below.refl _ _).alloc (Nat.le_refl _) _) (by omega)) (Hfj.out.2.2.2.2.1.below ((Below.refl _ _).alloc (Nat.le_refl _) _) (by omega)) (by simp; omega) (by simp; omega)).mono ?_
            rintro e w' ⟨rfl, hbb⟩
            have Hbb := Lib.hid ((hb5.out.alloc hs5 _).trans (hbb.mono (by simp; omega)))
            clear hbb
            by_cases ha : y.fs[k].args = y.fs[j].args
            · have H : Hid (syB y = false) := syB_no fun h => h.differ k j hkl hjk (by rw [HgetK.out, HgetJ.out]; exact ⟨He.out, ha⟩)
              rw [decide_eq_true ha]
              clear ha
              go_wp2
              go_ret
              exact ⟨ret_bool H.out.symm, HB1.out.trans ((Hb05.out.mono (by omega)).trans (Hbb.out.mono (by omega)))⟩
            · have hd6 : Hid (∀ i : Nat, i < j + 1 → ¬ ((y.fs.getD k default).name = (y.fs.getD i default).name ∧ (y.fs.getD k default).args = (y.fs.getD i default).args)) := fun i hi2 => by
                by_cases e : i = j
                · subst e; rw [HgetK.out, HgetJ.out]; exact fun h => ha h.2
                · exact hd5.out i (by omega)
              rw [decide_eq_false ha]
              clear ha
              go_wp2
              go_roundw
              case rel => exact ⟨j + 1, by omega, by go_num, Hbb.out, hd6⟩
              case measure => simp [intOf]; omega
          · have hnm : ¬ y.fs[k].name.toList = y.fs[j].name.toList := fun h => he (bytes_eq h)
            have hd6 : Hid (∀ i : Nat, i < j + 1 → ¬ ((y.fs.getD k default).name = (y.fs.getD i default).name ∧ (y.fs.getD k default).args = (y.fs.getD i default).args)) := fun i hi2 => by
              by_cases e : i = j
              · subst e; rw [HgetK.out, HgetJ.out]; exact fun h => he h.1
              · exact hd5.out i (by omega)
            clear he
            go_wp2
            go_roundw
            case rel => exact ⟨j + 1, by omega, by go_num, hb5.out.alloc hs5 _, hd6⟩
            case measure => simp [intOf]; omega
        · obtain rfl : j = k := by omega
          have hd6 : Hid (∀ i i' : Nat, i < j + 1 → i' < i → ¬ ((y.fs.getD i default).name = (y.fs.getD i' default).name ∧ (y.fs.getD i default).args = (y.fs.getD i' default).args)) := fun i i' h1 h2 => by
            by_cases e : i = j
            · subst e; exact hd5.out i' h2
            · exact hdf.out i i' (by omega) h2
          have hok6 : Hid (∀ i, i < j + 1 → ∀ (hi2 : i < y.fs.length), FuOk y.ty.sizes y.fs[i]) := fun i h1 h2 => by
            by_cases e : i = j
            · subst e; exact hin'.out
            · exact hok2.out i (by omega) h2
          have hb6 : Hid (Below (w.heap.size + 1) w1 wr) := Hb05.out.trans (hb5.out.mono (by have := Hb05.out.size; omega))
          go_wp2
          go_roundw
          case rel => exact ⟨j + 1, by omega, by go_num, hb6.out, hok6, hd6⟩
          case measure => simp [intOf]; omega
    · obtain rfl : k = y.fs.length := by omega
      have H : Hid (syB y = true) := syB_yes ⟨C1.out, C2.out, fun i hi => hok2.out i hi hi, hdf.out⟩
      go_wp2
      go_ret
      exact ⟨ret_bool H.out.symm, hbo⟩
end Go.Proofs.YtnmbjmocnafekaaGreatDoor

namespace Go.Proofs.YtnmbjmocnafekaaGreatDoor
open Go.RowKit

section
variable {P : Program} {ops : Array Oper} {Q : Exit → Act → World → Prop}

def openCount : List Bool → Nat
  | [] => 0
  | b :: bs => (if b then 0 else 1) + openCount bs
theorem openCount_set : ∀ (l : List Bool) (i : Nat), l[i]? = some false → openCount (l.set i true) + 1 = openCount l := by
  intro l
  induction l with
  | nil => intro i h; simp at h
  | cons b bs ih =>
    intro i h
    cases i with
    | zero =>
      simp at h
      subst h
      simp [openCount]
      omega
    | succ i =>
      simp at h
      have := ih i h
      simp only [List.set_cons_succ, openCount]
      omega
theorem openCount_zero : ∀ (l : List Bool), openCount l = 0 → ∀ b ∈ l, b = true := by
  intro l
  induction l with
  | nil => intro _ b hb; cases hb
  | cons c cs ih =>
    intro h b hb
    cases c with
    | false => simp [openCount] at h
    | true =>
      simp only [openCount, if_true, Nat.zero_add] at h
      rcases List.mem_cons.1 hb with rfl | hb
      · rfl
      · exact ih h b hb

/-- What may come up: it has not been done, and all that binds it has. -/
theorem ready_of {listed : Array Bool} {i : Nat} (h : i ∈ Region.ready .any ops listed) : i < ops.size ∧ listed.getD i true = false ∧ ∃ o, ops[i]? = some o ∧ ∀ e ∈ o.after, Region.binds .any e = true → listed.getD e.on false = true := by
  unfold Region.ready at h
  rw [List.mem_filter] at h
  obtain ⟨h1, h2⟩ := h
  have h1 := List.mem_range.1 h1
  simp only [Bool.and_eq_true, Bool.not_eq_true'] at h2
  obtain ⟨h2, h3⟩ := h2
  refine ⟨h1, h2, ops[i], Array.getElem?_eq_getElem h1, fun e he hb => ?_⟩
  rw [Array.getElem?_eq_getElem h1] at h3
  simp only [Option.map_some, Option.getD_some] at h3
  rw [Array.all_eq_true'] at h3
  have := h3 e he
  simpa [hb] using this
theorem ready_mk {listed : Array Bool} {i : Nat} (h1 : i < ops.size) (h2 : listed.getD i true = false) (h3 : ∀ e ∈ ops[i].after, Region.binds .any e = true → listed.getD e.on false = true) : i ∈ Region.ready .any ops listed := by
  unfold Region.ready
  rw [List.mem_filter]
  refine ⟨List.mem_range.2 h1, ?_⟩
  simp only [Bool.and_eq_true, Bool.not_eq_true']
  refine ⟨h2, ?_⟩
  rw [Array.getElem?_eq_getElem h1]
  simp only [Option.map_some, Option.getD_some]
  rw [Array.all_eq_true']
  intro e he
  cases hb : Region.binds .any e with
  | false => simp
  | true => simp [h3 e he hb]
theorem all_done {listed : Array Bool} (hs : listed.size = ops.size) (hd : ∀ i, ∀ (h : i < ops.size), ∀ e ∈ ops[i].after, Region.binds .any e = true → e.on < i) (hr : Region.ready .any ops listed = []) : ∀ i, i < ops.size → listed.getD i false = true := by
  intro i
  induction i using Nat.strongRecOn with
  | _ i ih =>
    intro hi
    have hl : i < listed.size := by omega
    by_cases h : listed.getD i true = true
    · simpa [Array.getD, hl] using h
    · have hf : listed.getD i true = false := by simpa using h
      have hm := ready_mk (listed := listed) hi hf fun e he hb => ih e.on (hd i hi e he hb) (by have := hd i hi e he hb; omega)
      rw [hr] at hm
      cases hm

theorem wpAny_inv (Inv : (Nat → Bool) → Act → World → Prop) (hd : ∀ i, ∀ (h : i < ops.size), ∀ e ∈ ops[i].after, Region.binds .any e = true → e.on < i)
    (hstep : ∀ (f : Nat → Bool) a w i o, ops[i]? = some o → f i = false → (∀ e ∈ o.after, Region.binds .any e = true → f e.on = true) → Inv f a w → wpOp P ops Q i (Inv fun k => decide (k = i) || f k) a w)
    (hend : ∀ f a w, (∀ k, k < ops.size → f k = true) → Inv f a w → Q .normal a w) :
    ∀ (fuel : Nat) (listed : Array Bool) (a : Act) (w : World), listed.size = ops.size → openCount listed.toList ≤ fuel → Inv (fun k => listed.getD k false) a w → wpAny P .any ops Q fuel listed a w := by
  intro fuel
  induction fuel with
  | zero =>
    intro listed a w hs hf hI
    have hall := openCount_zero listed.toList (by omega)
    have hr : Region.ready .any ops listed = [] := by
      rw [List.eq_nil_iff_forall_not_mem]
      intro i hi
      obtain ⟨h1, h2, _⟩ := ready_of hi
      have hl : i < listed.size := by omega
      have h3 : listed[i] = false := by simpa [Array.getD, hl] using h2
      have h4 := hall listed[i] (by simp)
      rw [h3] at h4
      cases h4
    exact ⟨hr, hend _ a w (all_done hs hd hr) hI⟩
  | succ fuel ih =>
    intro listed a w hs hf hI
    refine ⟨fun hr => hend _ a w (all_done hs hd hr) hI, fun i hi => ?_⟩
    obtain ⟨h1, h2, o, ho, h3⟩ := ready_of hi
    have hl : i < listed.size := by omega
    have h4 : listed[i] = false := by simpa [Array.getD, hl] using h2
    refine wpOp_mono (fun a' w' hI' => ih (listed.setIfInBounds i true) a' w' (by simpa using hs) ?_ ?_) (hstep _ a w i o ho (by simp [Array.getD, hl, h4]) h3 hI)
    · have := openCount_set listed.toList i (by simp [hl, h4])
      simp only [Array.toList_setIfInBounds]
      omega
    · have e : (fun k => decide (k = i) || listed.getD k false) = fun k => (listed.setIfInBounds i true).getD k false := by
        funext k
        by_cases hk : k = i
        · subst hk
          simp [Array.getD, hl]
        · have hk' : ¬ i = k := fun h => hk h.symm
          by_cases hkl : k < listed.size
          · simp [Array.getD, hk, hk', hkl]
          · simp [Array.getD, hk, hkl]
      rw [← e]
      exact hI'

/-- A region that draws its order, by an invariant over what has been done. -/
theorem wp_region_inv {id : Nat} {a : Act} {w : World} (hm : P.follows .mixedOrders = true) (Inv : (Nat → Bool) → Act → World → Prop) (hd : ∀ i, ∀ (h : i < ops.size), ∀ e ∈ ops[i].after, Region.binds .any e = true → e.on < i)
    (h0 : Inv (fun _ => false) a w.drew)
    (hstep : ∀ (f : Nat → Bool) a w i o, ops[i]? = some o → f i = false → (∀ e ∈ o.after, Region.binds .any e = true → f e.on = true) → Inv f a w → wpOp P ops Q i (Inv fun k => decide (k = i) || f k) a w)
    (hend : ∀ f a w, (∀ k, k < ops.size → f k = true) → Inv f a w → Q .normal a w) : (Code.region id ops true).wp P Q a w := by
  refine wp_region_any hm (wpAny_inv Inv hd hstep hend _ _ a _ (by simp) ?_ ?_)
  · have key : ∀ n, openCount (List.replicate n false) = n := by
      intro n
      induction n with
      | zero => rfl
      | succ n ih => simp only [List.replicate_succ, openCount, ih]; simp; omega
    rw [Array.toList_replicate, key]
    exact Nat.le_refl _
  · have e : (fun k => (Array.replicate ops.size false).getD k false) = fun _ => false := by
      funext k
      by_cases hk : k < ops.size
      · simp [Array.getD, hk]
      · simp [Array.getD, hk]
    rw [e]
    exact h0
/-- The same, where the invariant may name the frame that the region begins with. -/
theorem wp_region_inv_at {id : Nat} {a : Act} {w : World} (hm : P.follows .mixedOrders = true) (Inv : Act → (Nat → Bool) → Act → World → Prop) (hd : ∀ i, ∀ (h : i < ops.size), ∀ e ∈ ops[i].after, Region.binds .any e = true → e.on < i)
    (h0 : Inv a (fun _ => false) a w.drew)
    (hstep : ∀ (f : Nat → Bool) a' w i o, ops[i]? = some o → f i = false → (∀ e ∈ o.after, Region.binds .any e = true → f e.on = true) → Inv a f a' w → wpOp P ops Q i (Inv a fun k => decide (k = i) || f k) a' w)
    (hend : ∀ f a' w, (∀ k, k < ops.size → f k = true) → Inv a f a' w → Q .normal a' w) : (Code.region id ops true).wp P Q a w :=
  wp_region_inv hm (Inv a) hd h0 hstep hend
end
end Go.Proofs.YtnmbjmocnafekaaGreatDoor

