/-
  The functions of a name and a number of arguments; plain data only.
  Which functions are applicable to types, and what their arguments cost; plain data only.
  What it is that a function is below another one; plain data only.
  The applicable functions below which no other one is; plain data only.
  The choice of one of some functions; plain data only.
  How the program's reader reads a text from the left; plain data only. What a call of the reader keeps.
-/
import Derived.Test.YtnmbjmocnafekaaGreatDoorE12
import Derived.Test.YtnmbjmocnafekaaGreatDoorE14
import Derived.Maps.Views
import Derived.Test.YtnmbjmocnafekaaGreatDoorE4
namespace Go.Proofs.YtnmbjmocnafekaaGreatDoor
open Go.RowKit Go.Maps

open Classical in
/-- The indices, below j, of the functions with a name and a number of arguments. -/
noncomputable def nmT (fs : List Fu) (nm : ByteArray) (a : Int) (j : Nat) : List Int := ((List.range j).filter fun i => decide ((fs.getD i default).name = nm ∧ ((fs.getD i default).args.length : Int) = a)).map fun i : Nat => (i : Int)
theorem nmT_hit {fs : List Fu} {nm : ByteArray} {a : Int} {j : Nat} (h : (fs.getD j default).name = nm ∧ ((fs.getD j default).args.length : Int) = a) : nmT fs nm a (j + 1) = nmT fs nm a j ++ [(j : Int)] := by
  unfold nmT
  rw [List.range_succ, List.filter_append, List.map_append]
  rw [List.getD_eq_getElem?_getD] at h
  simp [h.1, h.2]
theorem nmT_miss {fs : List Fu} {nm : ByteArray} {a : Int} {j : Nat} (h : ¬ ((fs.getD j default).name = nm ∧ ((fs.getD j default).args.length : Int) = a)) : nmT fs nm a (j + 1) = nmT fs nm a j := by
  unfold nmT
  rw [List.range_succ, List.filter_append, List.map_append]
  rw [List.getD_eq_getElem?_getD] at h
  have e : decide ((fs[j]?.getD default).name = nm ∧ ((fs[j]?.getD default).args.length : Int) = a) = false := decide_eq_false h
  simp only [List.getD_eq_getElem?_getD, List.filter_cons, List.filter_nil, e]
  simp
theorem nmT_le (fs : List Fu) (nm : ByteArray) (a : Int) (j : Nat) : (nmT fs nm a j).length ≤ j := by
  unfold nmT
  rw [List.length_map]
  exact Nat.le_trans (List.length_filter_le _ _) (by simp)
theorem nmT_wf (fs : List Fu) (nm : ByteArray) (a : Int) (j : Nat) (hj : j ≤ 1048576) : ∀ z ∈ nmT fs nm a j, I64 z := by
  intro z hz
  unfold nmT at hz
  obtain ⟨i, hi, rfl⟩ := List.mem_map.1 hz
  have := List.mem_range.1 (List.mem_filter.1 hi).1
  unfold I64
  omega
/-- What NamedOf returns. -/
noncomputable def namedV (y : Sy) (nm : ByteArray) (a : Int) : List Int := if syB y = true then nmT y.fs nm a y.fs.length else []
noncomputable def accN (y : Sy) (nm : ByteArray) (a : Int) (j : Nat) : List Int := if syB y = true then nmT y.fs nm a j else []
theorem accN_le (y : Sy) (nm : ByteArray) (a : Int) (j : Nat) : (accN y nm a j).length ≤ j := by
  unfold accN
  split
  · exact nmT_le _ _ _ _
  · simp
theorem namedV_le (y : Sy) (nm : ByteArray) (a : Int) : (namedV y nm a).length ≤ y.fs.length := by
  unfold namedV
  split
  · exact nmT_le _ _ _ _
  · simp
theorem namedV_wf (y : Sy) (nm : ByteArray) (a : Int) (hb : y.bulk ≤ 1048576) : ∀ z ∈ namedV y nm a, I64 z := by
  unfold namedV
  split
  · exact nmT_wf _ _ _ _ (by unfold Sy.bulk at hb; omega)
  · intro z hz; exact absurd hz (by simp)

/-- Those of some functions that have a number of arguments. -/
def withA (fs : List Fu) (a : Int) (zs : List Int) : List Int := zs.filter fun z => decide (((fs.getD z.toNat default).args.length : Int) = a)
theorem withA_hit {fs : List Fu} {a : Int} {zs : List Int} {j : Nat} (hj : j < zs.length) (h : ((fs.getD zs[j].toNat default).args.length : Int) = a) : withA fs a (zs.take (j + 1)) = withA fs a (zs.take j) ++ [zs[j]] := by
  unfold withA
  rw [List.take_succ_eq_append_getElem hj, List.filter_append]
  congr 1
  simp only [List.filter_cons, List.filter_nil, decide_eq_true h, if_true]
theorem withA_miss {fs : List Fu} {a : Int} {zs : List Int} {j : Nat} (hj : j < zs.length) (h : ¬ ((fs.getD zs[j].toNat default).args.length : Int) = a) : withA fs a (zs.take (j + 1)) = withA fs a (zs.take j) := by
  unfold withA
  rw [List.take_succ_eq_append_getElem hj, List.filter_append]
  have e : [zs[j]].filter (fun z => decide (((fs.getD z.toNat default).args.length : Int) = a)) = [] := by
    simp only [List.filter_cons, List.filter_nil, decide_eq_false h]
    simp
  rw [e, List.append_nil]
theorem withA_le (fs : List Fu) (a : Int) (zs : List Int) : (withA fs a zs).length ≤ zs.length := List.length_filter_le _ _
theorem withA_idxs (fs : List Fu) (nm : ByteArray) (a : Int) (k : Nat) : withA fs a (idxs fs k nm) = nmT fs nm a k := by
  unfold withA idxs nmT
  rw [List.filter_map, List.filter_filter]
  congr 1
  refine List.filter_congr fun i _ => ?_
  simp only [Function.comp, Int.toNat_natCast]
  rw [Bool.eq_iff_iff]
  simp only [Bool.and_eq_true, decide_eq_true_eq]
  exact ⟨fun h => ⟨h.2, h.1⟩, fun h => ⟨h.2, h.1⟩⟩
end Go.Proofs.YtnmbjmocnafekaaGreatDoor

namespace Go.Proofs.YtnmbjmocnafekaaGreatDoor
open Go.RowKit Go.Maps

/-- Each of some types can be coerced to the one in its place. -/
def ApTo (t : Ty) (ks gs : List Int) : Prop := ks.length = gs.length ∧ ∀ j, j < ks.length → canC t (ks.getD j 0) (gs.getD j 0) = true
open Classical in
noncomputable def apToB (t : Ty) (ks gs : List Int) : Bool := decide (ApTo t ks gs)
theorem apToB_iff {t : Ty} {ks gs : List Int} : apToB t ks gs = true ↔ ApTo t ks gs := by unfold apToB; exact @decide_eq_true_iff _ (Classical.propDecidable _)
theorem apToB_yes {t : Ty} {ks gs : List Int} (h : ApTo t ks gs) : apToB t ks gs = true := apToB_iff.2 h
theorem apToB_no {t : Ty} {ks gs : List Int} (h : ¬ ApTo t ks gs) : apToB t ks gs = false := by
  cases e : apToB t ks gs with
  | false => rfl
  | true => exact absurd (apToB_iff.1 e) h

/-- Those of some functions that are applicable. -/
noncomputable def apsIn (y : Sy) (ks zs : List Int) : List Int := zs.filter fun z => apToB y.ty ks (y.fs.getD z.toNat default).args
theorem apsIn_hit {y : Sy} {ks zs : List Int} {j : Nat} (hj : j < zs.length) (h : ApTo y.ty ks (y.fs.getD zs[j].toNat default).args) : apsIn y ks (zs.take (j + 1)) = apsIn y ks (zs.take j) ++ [zs[j]] := by
  unfold apsIn
  rw [List.take_succ_eq_append_getElem hj, List.filter_append]
  congr 1
  simp only [List.filter_cons, List.filter_nil, apToB_yes h, if_true]
theorem apsIn_miss {y : Sy} {ks zs : List Int} {j : Nat} (hj : j < zs.length) (h : ¬ ApTo y.ty ks (y.fs.getD zs[j].toNat default).args) : apsIn y ks (zs.take (j + 1)) = apsIn y ks (zs.take j) := by
  unfold apsIn
  rw [List.take_succ_eq_append_getElem hj, List.filter_append]
  simp only [List.filter_cons, List.filter_nil, apToB_no h]
  simp
theorem apsIn_le (y : Sy) (ks zs : List Int) : (apsIn y ks zs).length ≤ zs.length := List.length_filter_le _ _
theorem apsIn_sub {y : Sy} {ks zs : List Int} {z : Int} (h : z ∈ apsIn y ks zs) : z ∈ zs ∧ ApTo y.ty ks (y.fs.getD z.toNat default).args := by
  unfold apsIn at h
  have h2 := List.mem_filter.1 h
  exact ⟨h2.1, apToB_iff.1 h2.2⟩
theorem apsIn_mem {y : Sy} {ks zs : List Int} {z : Int} (h : z ∈ zs) (ha : ApTo y.ty ks (y.fs.getD z.toNat default).args) : z ∈ apsIn y ks zs := List.mem_filter.2 ⟨h, apToB_yes ha⟩

theorem nmT_mem {fs : List Fu} {nm : ByteArray} {a : Int} {k : Nat} {z : Int} : z ∈ nmT fs nm a k ↔ ∃ i : Nat, i < k ∧ (fs.getD i default).name = nm ∧ ((fs.getD i default).args.length : Int) = a ∧ z = (i : Int) := by
  unfold nmT
  rw [List.mem_map]
  constructor
  · rintro ⟨i, hi, rfl⟩
    obtain ⟨h1, h2⟩ := List.mem_filter.1 hi
    have h3 := of_decide_eq_true h2
    exact ⟨i, List.mem_range.1 h1, h3.1, h3.2, rfl⟩
  · rintro ⟨i, h1, h2, h3, rfl⟩
    exact ⟨i, List.mem_filter.2 ⟨List.mem_range.2 h1, decide_eq_true ⟨h2, h3⟩⟩, rfl⟩
theorem nmT_asc (fs : List Fu) (nm : ByteArray) (a : Int) (k : Nat) : (nmT fs nm a k).Pairwise (· < ·) := by
  unfold nmT
  rw [List.pairwise_map]
  refine List.Pairwise.imp (fun {a b} h => ?_) (List.Pairwise.filter _ (List.pairwise_lt_range (n := k)))
  show (a : Int) < (b : Int)
  omega
theorem namedV_asc (y : Sy) (nm : ByteArray) (a : Int) : (namedV y nm a).Pairwise (· < ·) := by
  unfold namedV
  split
  · exact nmT_asc _ _ _ _
  · exact List.Pairwise.nil
theorem namedV_mem {y : Sy} {nm : ByteArray} {a z : Int} : z ∈ namedV y nm a ↔ SyOk y ∧ ∃ i : Nat, i < y.fs.length ∧ (y.fs.getD i default).name = nm ∧ ((y.fs.getD i default).args.length : Int) = a ∧ z = (i : Int) := by
  unfold namedV
  split
  · rename_i h
    rw [nmT_mem]
    exact ⟨fun h2 => ⟨syB_iff.1 h, h2⟩, fun h2 => h2.2⟩
  · rename_i h
    exact ⟨fun h2 => absurd h2 (by simp), fun h2 => absurd (syB_yes h2.1) h⟩

/-- The functions with a name that are applicable to types. -/
noncomputable def applicV (y : Sy) (nm : ByteArray) (ks : List Int) : List Int := apsIn y ks (namedV y nm (ks.length : Int))
theorem applicV_asc (y : Sy) (nm : ByteArray) (ks : List Int) : (applicV y nm ks).Pairwise (· < ·) := List.Pairwise.filter _ (namedV_asc _ _ _)
theorem applicV_le (y : Sy) (nm : ByteArray) (ks : List Int) : (applicV y nm ks).length ≤ y.fs.length := Nat.le_trans (apsIn_le _ _ _) (namedV_le _ _ _)
theorem applicV_wf (y : Sy) (nm : ByteArray) (ks : List Int) (hb : y.bulk ≤ 1048576) : ∀ z ∈ applicV y nm ks, I64 z := fun z hz => namedV_wf y nm _ hb z (apsIn_sub hz).1
theorem applicV_mem {y : Sy} {nm : ByteArray} {ks : List Int} {z : Int} : z ∈ applicV y nm ks ↔ SyOk y ∧ ∃ i : Nat, i < y.fs.length ∧ (y.fs.getD i default).name = nm ∧ ApTo y.ty ks (y.fs.getD i default).args ∧ z = (i : Int) := by
  constructor
  · intro h
    obtain ⟨h1, h2⟩ := apsIn_sub h
    obtain ⟨hs, i, hi, hn, _, rfl⟩ := namedV_mem.1 h1
    exact ⟨hs, i, hi, hn, by simpa using h2, rfl⟩
  · rintro ⟨hs, i, hi, hn, ha, rfl⟩
    exact apsIn_mem (namedV_mem.2 ⟨hs, i, hi, hn, by rw [ha.1], rfl⟩) (by simpa using ha)
theorem applicV_no {y : Sy} {nm : ByteArray} {ks : List Int} (h : ¬ SyOk y) : applicV y nm ks = [] := by
  rw [List.eq_nil_iff_forall_not_mem]
  exact fun z hz => h (applicV_mem.1 hz).1

/-- How many coercions the first k arguments take, and all. -/
def costTo (t : Ty) (ks gs : List Int) : Nat → Nat
  | 0 => 0
  | k + 1 => costTo t ks gs k + (shortV t (ks.getD k 0) (gs.getD k 0)).length
def costV (t : Ty) (ks gs : List Int) : Int := (costTo t ks gs ks.length : Int)
theorem costTo_le (t : Ty) (ks gs : List Int) : ∀ k, costTo t ks gs k ≤ 5 * k
  | 0 => Nat.le_refl _
  | k + 1 => by
    have h1 := costTo_le t ks gs k
    have h2 := (shortV_wf t (ks.getD k 0) (gs.getD k 0)).2
    show costTo t ks gs k + (shortV t (ks.getD k 0) (gs.getD k 0)).length ≤ 5 * (k + 1)
    omega

/-- The cost of a function of a system. -/
def costOf (y : Sy) (ks : List Int) (z : Int) : Int := costV y.ty ks (y.fs.getD z.toNat default).args
theorem costOf_bd (y : Sy) (ks : List Int) (z : Int) (h : ks.length ≤ 1048576) : 0 ≤ costOf y ks z ∧ costOf y ks z ≤ 5242880 := by
  have := costTo_le y.ty ks (y.fs.getD z.toNat default).args ks.length
  unfold costOf costV
  omega

/-- D holds the costs of the functions of L, and nothing else. -/
structure Cst (y : Sy) (ks L : List Int) (D : DataW Unit) : Prop where
  map : IsMap D
  has : ∀ z, Maps.has D (.int .i64 z) = true ↔ z ∈ L
  at_ : ∀ z ∈ L, D.atKey (.int .i64 z) (.lit (.int .i64 0)) = .lit (.int .i64 (costOf y ks z))
theorem Cst.nil (y : Sy) (ks : List Int) : Cst y ks [] (.map []) := ⟨isMap_empty, fun z => ⟨fun h => (by cases h), fun h => absurd h (by simp)⟩, fun z h => absurd h (by simp)⟩
theorem intKey (z : Int) : WideAt.IsKeyLit (.int .i64 z) := by simp [WideAt.IsKeyLit]
theorem Cst.step {y : Sy} {ks L : List Int} {D : DataW Unit} (h : Cst y ks L D) (z : Int) : Cst y ks (L ++ [z]) (D.put (.int .i64 z) (.lit (.int .i64 (costOf y ks z)))) := by
  refine ⟨h.map.put _ _, fun x => ?_, fun x hx => ?_⟩
  · by_cases e : x = z
    · subst e
      rw [has_put_same h.map (intKey _)]
      simp
    · rw [has_put_other (fun e2 => e (by injection e2)), h.has x]
      simp [e]
  · by_cases e : x = z
    · subst e
      rw [atKey_put_same h.map (intKey _)]
    · rw [atKey_put_other (fun e2 => e (by injection e2))]
      refine h.at_ x ?_
      simpa [e] using hx
theorem Cst.at_no {y : Sy} {ks L : List Int} {D : DataW Unit} (h : Cst y ks L D) {z : Int} (hz : z ∉ L) (zd : DataW Unit) : D.atKey (.int .i64 z) zd = zd := by
  refine atKey_of_not_has ?_ zd
  cases e : Maps.has D (.int .i64 z) with
  | false => rfl
  | true => exact absurd ((h.has z).1 e) hz

/-- The keys, sorted. -/
theorem sort_asc {l : List Int} (h : l.Pairwise (· < ·)) : l.mergeSort (fun x y => decide (x ≤ y)) = l :=
  List.mergeSort_of_pairwise (h.imp fun {a b} h2 => by simp; omega)
end Go.Proofs.YtnmbjmocnafekaaGreatDoor

namespace Go.Proofs.YtnmbjmocnafekaaGreatDoor
open Go.RowKit

theorem if_yes {c : Bool} {A B : Prop} (h : c = true) (ha : A) : if c = true then A else B := by rw [if_pos h]; exact ha

/-- A function of a valid system is below another one. -/
def BelowP (y : Sy) (i k : Int) : Prop := hasFB y i = true ∧ hasFB y k = true ∧ (y.fs.getD i.toNat default).name = (y.fs.getD k.toNat default).name ∧ FitsTo y.ty (y.fs.getD i.toNat default).args (y.fs.getD k.toNat default).args
open Classical in
noncomputable def belowB (y : Sy) (i k : Int) : Bool := decide (BelowP y i k)
theorem belowB_yes {y : Sy} {i k : Int} (h : BelowP y i k) : belowB y i k = true := by unfold belowB; exact @decide_eq_true _ (Classical.propDecidable _) h
theorem belowB_no {y : Sy} {i k : Int} (h : ¬ BelowP y i k) : belowB y i k = false := by unfold belowB; exact @decide_eq_false _ (Classical.propDecidable _) h
theorem belowB_iff {y : Sy} {i k : Int} : belowB y i k = true ↔ BelowP y i k := by unfold belowB; exact @decide_eq_true_iff _ (Classical.propDecidable _)
end Go.Proofs.YtnmbjmocnafekaaGreatDoor

namespace Go.Proofs.YtnmbjmocnafekaaGreatDoor
open Go.RowKit

/-- The types of the arguments of a function. -/
def argsOf (y : Sy) (z : Int) : List Int := (y.fs.getD z.toNat default).args
theorem argsOf_at {y : Sy} {i : Nat} (h : i < y.fs.length) : argsOf y (i : Int) = y.fs[i].args := by unfold argsOf; rw [Int.toNat_natCast, getD_of h]
noncomputable def leastB (y : Sy) (L : List Int) (i : Int) : Bool := L.all fun k => !(decide (k ≠ i) && fitsToB y.ty (argsOf y k) (argsOf y i))
noncomputable def leastT (y : Sy) (L : List Int) (m : Nat) : List Int := (L.take m).filter fun i => leastB y L i
theorem leastT_zero (y : Sy) (L : List Int) : leastT y L 0 = [] := by simp [leastT]
theorem leastT_hit {y : Sy} {L : List Int} {m : Nat} (hm : m < L.length) (h : leastB y L L[m] = true) : leastT y L (m + 1) = leastT y L m ++ [L[m]] := by
  unfold leastT
  rw [List.take_succ_eq_append_getElem hm, List.filter_append]
  simp [h]
theorem leastT_miss {y : Sy} {L : List Int} {m : Nat} (hm : m < L.length) (h : leastB y L L[m] = false) : leastT y L (m + 1) = leastT y L m := by
  unfold leastT
  rw [List.take_succ_eq_append_getElem hm, List.filter_append]
  simp [h]
theorem leastT_le (y : Sy) (L : List Int) (m : Nat) : (leastT y L m).length ≤ m := by
  unfold leastT
  have h1 := List.length_filter_le (fun k => leastB y L k) (L.take m)
  rw [List.length_take] at h1
  omega
theorem leastB_no {y : Sy} {L : List Int} {i : Int} {m : Nat} (hm : m < L.length) (h1 : L[m] ≠ i) (h2 : fitsToB y.ty (argsOf y L[m]) (argsOf y i) = true) : leastB y L i = false := by
  unfold leastB
  exact all_false_of (p := fun k => !(decide (k ≠ i) && fitsToB y.ty (argsOf y k) (argsOf y i))) m hm (by simp [h1, h2])
theorem leastB_yes {y : Sy} {L : List Int} {i : Int} (h : ∀ m, ∀ (hm : m < L.length), ¬ (L[m] ≠ i ∧ fitsToB y.ty (argsOf y L[m]) (argsOf y i) = true)) : leastB y L i = true := by
  unfold leastB
  refine all_true_of (p := fun k => !(decide (k ≠ i) && fitsToB y.ty (argsOf y k) (argsOf y i))) fun m hm => ?_
  have := h m hm
  by_cases e : L[m] = i
  · simp [e]
  · have : fitsToB y.ty (argsOf y L[m]) (argsOf y i) = false := by
      cases hc : fitsToB y.ty (argsOf y L[m]) (argsOf y i)
      · rfl
      · exact absurd ⟨e, hc⟩ this
    simp [this]
/-- What LeastOf returns. -/
noncomputable def leastV (y : Sy) (nm : ByteArray) (ks : List Int) : List Int := leastT y (applicV y nm ks) (applicV y nm ks).length
theorem leastV_le (y : Sy) (nm : ByteArray) (ks : List Int) : (leastV y nm ks).length ≤ y.fs.length := Nat.le_trans (leastT_le _ _ _) (applicV_le _ _ _)
theorem leastV_wf (y : Sy) (nm : ByteArray) (ks : List Int) (hb : y.bulk ≤ 1048576) : ∀ z ∈ leastV y nm ks, I64 z := by
  intro z hz
  unfold leastV leastT at hz
  exact applicV_wf y nm ks hb z (List.mem_of_mem_take (List.mem_filter.1 hz).1)
theorem applicV_at {y : Sy} {nm : ByteArray} {ks : List Int} {m : Nat} (hm : m < (applicV y nm ks).length) : SyOk y ∧ ∃ i : Nat, (applicV y nm ks)[m] = (i : Int) ∧ ∃ hi : i < y.fs.length, y.fs[i].name = nm ∧ ApTo y.ty ks y.fs[i].args := by
  obtain ⟨hs, i, hi, hn, ha, e⟩ := applicV_mem.1 (List.getElem_mem hm)
  rw [getD_of hi] at hn ha
  exact ⟨hs, i, e, hi, hn, ha⟩
theorem below_fits {y : Sy} {a b : Nat} (hs : SyOk y) (ha : a < y.fs.length) (hb : b < y.fs.length) (hn : y.fs[a].name = y.fs[b].name) : hasFB y (a : Int) = true ∧ hasFB y (b : Int) = true ∧ belowB y (a : Int) (b : Int) = fitsToB y.ty (argsOf y (a : Int)) (argsOf y (b : Int)) := by
  have h1 : ∀ c : Nat, c < y.fs.length → hasFB y (c : Int) = true := fun c hc => by
    unfold hasFB
    rw [syB_yes hs, ixB_yes (by omega) (by omega)]
    rfl
  refine ⟨h1 a ha, h1 b hb, ?_⟩
  rw [Bool.eq_iff_iff, belowB_iff, fitsToB_iff]
  refine ⟨fun h => h.2.2.2, fun h => ⟨h1 a ha, h1 b hb, ?_, h⟩⟩
  rw [Int.toNat_natCast, Int.toNat_natCast, getD_of ha, getD_of hb, hn]
end Go.Proofs.YtnmbjmocnafekaaGreatDoor

namespace Go.Proofs.YtnmbjmocnafekaaGreatDoor
open Go.RowKit

/-- The words for how a choice went. -/
def wOne : ByteArray := ⟨#[111, 110, 101]⟩
def wMany : ByteArray := ⟨#[109, 97, 110, 121]⟩
def wNone : ByteArray := ⟨#[110, 111, 110, 101]⟩

/-- Is one of a list before all others of it? -/
def chiefB (lt : Int → Int → Bool) (L : List Int) (i : Int) : Bool := L.all fun k => decide (k = i) || lt i k
theorem chiefB_yes {lt : Int → Int → Bool} {L : List Int} {i : Int} (h : ∀ m, ∀ (hm : m < L.length), L[m] ≠ i → lt i L[m] = true) : chiefB lt L i = true := by
  unfold chiefB
  refine all_true_of (p := fun k => decide (k = i) || lt i k) fun m hm => ?_
  by_cases e : L[m] = i
  · simp [e]
  · simp [h m hm e]
theorem chiefB_no {lt : Int → Int → Bool} {L : List Int} {i : Int} {m : Nat} (hm : m < L.length) (h1 : L[m] ≠ i) (h2 : lt i L[m] = false) : chiefB lt L i = false := by
  unfold chiefB
  exact all_false_of (p := fun k => decide (k = i) || lt i k) m hm (by simp [h1, h2])
theorem chiefB_of {lt : Int → Int → Bool} {L : List Int} {i : Int} (h : chiefB lt L i = true) {k : Int} (hk : k ∈ L) (hne : k ≠ i) : lt i k = true := by
  unfold chiefB at h
  have := List.all_eq_true.1 h k hk
  simpa [hne] using this

/-- What is chosen: the first that is before all others, or -1. -/
def pickI (lt : Int → Int → Bool) (L : List Int) : Int := match L.find? (chiefB lt L) with
  | some i => i
  | none => -1
def pickW (lt : Int → Int → Bool) (L : List Int) : ByteArray := match L.find? (chiefB lt L) with
  | some _ => wOne
  | none => if L = [] then wNone else wMany
theorem pick_nil (lt : Int → Int → Bool) : pickI lt [] = -1 ∧ pickW lt [] = wNone := ⟨rfl, rfl⟩
theorem find_none_take {L : List Int} {p : Int → Bool} (h : ∀ m, ∀ (hm : m < L.length), p L[m] = false) : L.find? p = none := by
  rw [List.find?_eq_none]
  intro x hx
  obtain ⟨m, hm, rfl⟩ := List.getElem_of_mem hx
  simp [h m hm]
theorem find_at {p : Int → Bool} : ∀ (L : List Int) (j : Nat) (hj : j < L.length), (∀ m, m < j → ∀ (hm : m < L.length), p L[m] = false) → p L[j] = true → L.find? p = some L[j]
  | [], j, hj, _, _ => absurd hj (by simp)
  | x :: l, 0, _, _, h => by simp [show p x = true from h]
  | x :: l, j + 1, hj, hm, h => by
    have h0 : p x = false := hm 0 (by omega) (by simp)
    rw [List.find?_cons, h0]
    exact find_at l j (by simpa using hj) (fun m h1 h2 => hm (m + 1) (by omega) (by simpa using h2)) h
theorem pick_at {lt : Int → Int → Bool} {L : List Int} {j : Nat} (hj : j < L.length) (hno : ∀ m, m < j → ∀ (hm : m < L.length), chiefB lt L L[m] = false) (h : chiefB lt L L[j] = true) : pickI lt L = L[j] ∧ pickW lt L = wOne := by
  unfold pickI pickW
  rw [find_at L j hj hno h]
  exact ⟨rfl, rfl⟩
theorem pick_many {lt : Int → Int → Bool} {L : List Int} (h0 : L ≠ []) (hno : ∀ m, ∀ (hm : m < L.length), chiefB lt L L[m] = false) : pickI lt L = -1 ∧ pickW lt L = wMany := by
  unfold pickI pickW
  rw [find_none_take hno, if_neg h0]
  exact ⟨rfl, rfl⟩
theorem pickI_mem (lt : Int → Int → Bool) (L : List Int) : pickI lt L = -1 ∨ pickI lt L ∈ L := by
  unfold pickI
  cases h : L.find? (chiefB lt L) with
  | none => exact .inl rfl
  | some i => exact .inr (List.mem_of_find?_eq_some h)
theorem pickW_size (lt : Int → Int → Bool) (L : List Int) : (pickW lt L).size ≤ 4 := by
  unfold pickW
  split
  · decide
  · split <;> decide
theorem pick_congr {f g : Int → Int → Bool} {L : List Int} (h : ∀ i ∈ L, ∀ k ∈ L, k ≠ i → f i k = g i k) : pickI f L = pickI g L ∧ pickW f L = pickW g L := by
  have e : ∀ i ∈ L, chiefB f L i = chiefB g L i := fun i hi => by
    unfold chiefB
    rw [Bool.eq_iff_iff, List.all_eq_true, List.all_eq_true]
    refine forall_congr' fun k => forall_congr' fun hk => ?_
    by_cases e : k = i
    · simp [e]
    · rw [h i hi k hk e]
  have e2 : L.find? (chiefB f L) = L.find? (chiefB g L) := by
    have : ∀ l : List Int, (∀ i ∈ l, chiefB f L i = chiefB g L i) → l.find? (chiefB f L) = l.find? (chiefB g L) := by
      intro l
      induction l with
      | nil => intro _; rfl
      | cons x l ih =>
        intro hx
        rw [List.find?_cons, List.find?_cons, hx x (by simp), ih fun i hi => hx i (by simp [hi])]
    exact this L e
  unfold pickI pickW
  rw [e2]
  exact ⟨rfl, rfl⟩

/-- One function is below another one. -/
noncomputable def ltB (y : Sy) (i k : Int) : Bool := fitsToB y.ty (argsOf y i) (argsOf y k)
/-- One function costs less than another one. -/
noncomputable def ltC (y : Sy) (ks : List Int) (i k : Int) : Bool := decide (costOf y ks i < costOf y ks k)

/-- The costs of a list, looked through once: the first with the least cost, this cost, and how many have it. -/
structure Best where
  best : Int
  cost : Int
  times : Nat
def bestStep (c : Int → Int) (b : Best) (i : Int) : Best :=
  if b.times = 0 ∨ c i < b.cost then ⟨i, c i, 1⟩ else if c i = b.cost then ⟨b.best, b.cost, b.times + 1⟩ else b
def bestOf (c : Int → Int) (l : List Int) : Best := l.foldl (bestStep c) ⟨-1, 0, 0⟩
theorem bestOf_nil (c : Int → Int) : bestOf c [] = ⟨-1, 0, 0⟩ := rfl
theorem bestOf_snoc (c : Int → Int) (l : List Int) (i : Int) : bestOf c (l ++ [i]) = bestStep c (bestOf c l) i := by simp [bestOf, List.foldl_append]
/-- What is known of it. -/
structure BestIs (c : Int → Int) (l : List Int) (b : Best) : Prop where
  nil : b.times = 0 ↔ l = []
  none : l = [] → b.best = -1
  mem : l ≠ [] → b.best ∈ l ∧ c b.best = b.cost
  low : ∀ k ∈ l, b.cost ≤ c k
  count : b.times = (l.filter fun k => decide (c k = b.cost)).length ∨ l = []
theorem bestIs (c : Int → Int) : ∀ n, ∀ l : List Int, l.length = n → BestIs c l (bestOf c l)
  | 0, l, h => by
    obtain rfl : l = [] := by simpa using h
    exact ⟨by simp [bestOf], fun _ => rfl, fun h => absurd rfl h, fun k hk => absurd hk (by simp), .inr rfl⟩
  | n + 1, l, h => by
    have hl : l ≠ [] := fun e => by simp [e] at h
    obtain ⟨l', i, rfl⟩ : ∃ l' i, l = l' ++ [i] := ⟨l.dropLast, l.getLast hl, (List.dropLast_concat_getLast hl).symm⟩
    have ih := bestIs c n l' (by simpa using h)
    rw [bestOf_snoc]
    generalize bestOf c l' = b at ih
    unfold bestStep
    by_cases h0 : b.times = 0 ∨ c i < b.cost
    · rw [if_pos h0]
      have hlow : ∀ k ∈ l', c i < c k := fun k hk => by
        rcases h0 with h0 | h0
        · rw [ih.nil.1 h0] at hk
          exact absurd hk (by simp)
        · have := ih.low k hk
          omega
      refine ⟨by simp, fun e => absurd e (by simp), fun _ => ⟨by simp, rfl⟩, fun k hk => ?_, .inl ?_⟩
      · rcases List.mem_append.1 hk with hk | hk
        · exact Int.le_of_lt (hlow k hk)
        · simp at hk; rw [hk]; exact Int.le_refl _
      · have e : l'.filter (fun k => decide (c k = c i)) = [] := by
          rw [List.filter_eq_nil_iff]
          intro k hk
          have := hlow k hk
          simp
          omega
        simp [List.filter_append, e]
    · rw [if_neg h0]
      have h1 : b.times ≠ 0 := fun e => h0 (.inl e)
      have h2 : ¬ c i < b.cost := fun e => h0 (.inr e)
      have hl' : l' ≠ [] := fun e => h1 (ih.nil.2 e)
      have hcount : b.times = (l'.filter fun k => decide (c k = b.cost)).length := ih.count.resolve_right hl'
      by_cases h3 : c i = b.cost
      · rw [if_pos h3]
        refine ⟨by simp, fun e => absurd e (by simp), fun _ => ⟨by simp [(ih.mem hl').1], (ih.mem hl').2⟩, fun k hk => ?_, .inl ?_⟩
        · rcases List.mem_append.1 hk with hk | hk
          · exact ih.low k hk
          · simp at hk; rw [hk]; show b.cost ≤ c i; omega
        · simp [List.filter_append, h3, hcount]
      · rw [if_neg h3]
        refine ⟨by simp [h1], fun e => absurd e (by simp), fun _ => ⟨by simp [(ih.mem hl').1], (ih.mem hl').2⟩, fun k hk => ?_, .inl ?_⟩
        · rcases List.mem_append.1 hk with hk | hk
          · exact ih.low k hk
          · simp at hk; rw [hk]; omega
        · simp [List.filter_append, h3, hcount]

/-- The unique one with the least cost is the one that costs less than all others. -/
theorem best_pick {c : Int → Int} {L : List Int} (hnd : L.Nodup) : ((bestOf c L).times = 0 → L = []) ∧ ((bestOf c L).times = 1 → pickI (fun i k => decide (c i < c k)) L = (bestOf c L).best ∧ pickW (fun i k => decide (c i < c k)) L = wOne) ∧
    (2 ≤ (bestOf c L).times → pickI (fun i k => decide (c i < c k)) L = -1 ∧ pickW (fun i k => decide (c i < c k)) L = wMany) := by
  have h := bestIs c L.length L rfl
  generalize bestOf c L = b at h
  refine ⟨h.nil.1, fun h1 => ?_, fun h2 => ?_⟩
  · have hne : L ≠ [] := fun e => by have := h.nil.2 e; omega
    obtain ⟨hm, hc⟩ := h.mem hne
    have hcount := h.count.resolve_right hne
    rw [h1] at hcount
    have huniq : ∀ k ∈ L, k ≠ b.best → c b.best < c k := fun k hk hkb => by
      have hlow := h.low k hk
      by_cases e : c k = b.cost
      · have m1 : k ∈ L.filter fun k => decide (c k = b.cost) := List.mem_filter.2 ⟨hk, by simp [e]⟩
        have m2 : b.best ∈ L.filter fun k => decide (c k = b.cost) := List.mem_filter.2 ⟨hm, by simp [hc]⟩
        obtain ⟨x, hx⟩ := List.length_eq_one_iff.1 hcount.symm
        rw [hx] at m1 m2
        simp at m1 m2
        exact absurd (m1.trans m2.symm) hkb
      · omega
    obtain ⟨j, hj, ej⟩ := List.getElem_of_mem hm
    have := pick_at (lt := fun i k => decide (c i < c k)) hj (fun m hmj hml => ?_) (chiefB_yes fun m hml hne2 => ?_)
    · rw [ej] at this
      exact this
    · have hne3 : L[m] ≠ L[j] := fun e => by
        have := (List.getElem_inj (h₀ := hml) (h₁ := hj) hnd).1 e
        omega
      refine chiefB_no hj (Ne.symm hne3) ?_
      have := huniq L[m] (List.getElem_mem hml) (by rw [← ej]; exact hne3)
      rw [ej]
      simp
      omega
    · have := huniq L[m] (List.getElem_mem hml) (by rw [← ej]; exact hne2)
      rw [ej]
      simpa using this
  · have hne : L ≠ [] := fun e => by have := h.nil.2 e; omega
    have hcount := h.count.resolve_right hne
    refine pick_many hne fun m hm => ?_
    -- another one has the least cost
    by_cases e : ∃ k ∈ L, k ≠ L[m] ∧ c k = b.cost
    · obtain ⟨k, hk, hkm, hkc⟩ := e
      obtain ⟨q, hq, eq⟩ := List.getElem_of_mem hk
      refine chiefB_no hq (by rw [eq]; exact hkm) ?_
      have := h.low L[m] (List.getElem_mem hm)
      rw [eq]
      simp
      omega
    · exfalso
      have hall : ∀ k ∈ L.filter (fun k => decide (c k = b.cost)), k = L[m] := fun k hk => by
        obtain ⟨h3, h4⟩ := List.mem_filter.1 hk
        apply Classical.byContradiction
        intro h5
        exact e ⟨k, h3, h5, of_decide_eq_true h4⟩
      have hnd2 : (L.filter fun k => decide (c k = b.cost)).Nodup := hnd.filter _
      have hle : (L.filter fun k => decide (c k = b.cost)).length ≤ 1 := by
        generalize L.filter (fun k => decide (c k = b.cost)) = F at hall hnd2
        match F, hall, hnd2 with
        | [], _, _ => simp
        | [_], _, _ => simp
        | x :: z :: F, hall, hnd2 =>
          have e1 := hall x (by simp)
          have e2 := hall z (by simp)
          rw [e1, e2] at hnd2
          simp at hnd2
      omega
theorem applicV_nodup (y : Sy) (nm : ByteArray) (ks : List Int) : (applicV y nm ks).Nodup := (applicV_asc y nm ks).imp fun h => by omega

/-- A way leads from each type to itself, so a function's arguments fit themselves. -/
theorem canB_self {t : Ty} {a : Int} : canB t a a = true := by
  unfold canB waysOf
  simp [waysF]
theorem fits_self {y : Sy} (z : Int) : fitsToB y.ty (argsOf y z) (argsOf y z) = true := fitsToB_yes ⟨rfl, fun _ _ => canB_self⟩
end Go.Proofs.YtnmbjmocnafekaaGreatDoor

namespace Go.Proofs.YtnmbjmocnafekaaGreatDoor
open Go.RowKit

def isD (c : UInt8) : Bool := decide (48 ≤ c.toNat) && decide (c.toNat ≤ 57)
def valD (c : UInt8) : Int := (c.toNat : Int) - 48
def rdDigit : List UInt8 → Option (Int × List UInt8)
  | [] => none
  | c :: l => if isD c = true then some (valD c, l) else none
def rdTake (s : UInt8) : List UInt8 → Option (List UInt8)
  | [] => none
  | c :: l => if c = s then some l else none
def hasB (s : UInt8) : List UInt8 → Bool
  | [] => false
  | c :: _ => decide (c = s)
/-- Further numbers, each behind one space. -/
def rdMore : List UInt8 → Option (List Int × List UInt8)
  | [] => some ([], [])
  | [c] => if c = 32 then none else some ([], [c])
  | c :: d :: r => if c = 32 then (if isD d = true then (rdMore r).map fun p => (valD d :: p.1, p.2) else none) else some ([], c :: d :: r)
def rdNums (l : List UInt8) : Option (List Int × List UInt8) := (rdDigit l).bind fun p => (rdMore p.2).map fun q => (p.1 :: q.1, q.2)
def rdCo (l : List UInt8) : Option (Co × List UInt8) :=
  (rdDigit l).bind fun a => (rdTake 62 a.2).bind fun r1 => (rdDigit r1).bind fun b => (rdTake 58 b.2).bind fun r2 => (rdNums r2).map fun m => (⟨a.1, b.1, m.1⟩, m.2)
theorem rdMore_space {l : List UInt8} (h : hasB 32 l = true) : rdMore l = (rdTake 32 l).bind fun r => (rdDigit r).bind fun p => (rdMore p.2).map fun q => (p.1 :: q.1, q.2) := by
  match l, h with
  | [c], h =>
    have hc : c = 32 := by simpa [hasB] using h
    subst hc
    rfl
  | c :: d :: r, h =>
    have hc : c = 32 := by simpa [hasB] using h
    subst hc
    by_cases hd : isD d = true
    · simp [rdMore, rdTake, rdDigit, hd]
    · simp [rdMore, rdTake, rdDigit, hd]
theorem rdMore_end {l : List UInt8} (h : hasB 32 l = false) : rdMore l = some ([], l) := by
  match l, h with
  | [], _ => rfl
  | [c], h =>
    have hc : ¬ c = 32 := by simpa [hasB] using h
    simp [rdMore, hc]
  | c :: d :: r, h =>
    have hc : ¬ c = 32 := by simpa [hasB] using h
    simp [rdMore, hc]
theorem rdDigit_len {l r : List UInt8} {z : Int} (h : rdDigit l = some (z, r)) : r.length + 1 = l.length := by
  match l, h with
  | c :: l, h =>
    simp only [rdDigit] at h
    split at h
    · simp only [Option.some.injEq, Prod.mk.injEq] at h
      rw [← h.2]
      rfl
    · cases h
theorem rdTake_len {s : UInt8} {l r : List UInt8} (h : rdTake s l = some r) : r.length + 1 = l.length := by
  match l, h with
  | c :: l, h =>
    simp only [rdTake] at h
    split at h
    · simp only [Option.some.injEq] at h
      rw [← h]
      rfl
    · cases h
theorem rdDigit_dig {l r : List UInt8} {z : Int} (h : rdDigit l = some (z, r)) : Dig z := by
  match l, h with
  | c :: l, h =>
    simp only [rdDigit] at h
    split at h
    · rename_i hc
      simp only [Option.some.injEq, Prod.mk.injEq] at h
      simp only [isD, Bool.and_eq_true, decide_eq_true_eq] at hc
      rw [← h.1]
      unfold Dig valD
      omega
    · cases h

/-- What a call of the reader in block b keeps: every block that stood, but b. -/
structure Keep (b : Nat) (w w' : World) : Prop where
  grown : w.grownBy w' (some b)
theorem Keep.refl (b : Nat) (w : World) : Keep b w w := ⟨⟨rfl, rfl, rfl, Nat.le_refl _, fun _ _ _ => rfl⟩⟩
theorem Keep.size {b : Nat} {w w' : World} (h : Keep b w w') : w.heap.size ≤ w'.heap.size := h.grown.size
theorem Keep.block {b : Nat} {w w' : World} (h : Keep b w w') {k : Nat} (hk : k < w.heap.size) (hb : k ≠ b) : w'.heap[k]? = w.heap[k]? := h.grown.block k hk fun e => hb (Option.some.inj e)
theorem Keep.trans {b : Nat} {w w' w'' : World} (h : Keep b w w') (k : Keep b w' w'') : Keep b w w'' :=
  ⟨⟨k.grown.os.trans h.grown.os, k.grown.tape.trans h.grown.tape, k.grown.output.trans h.grown.output, Nat.le_trans h.size k.size, fun j hj hb => (k.grown.block j (Nat.lt_of_lt_of_le hj h.size) hb).trans (h.grown.block j hj hb)⟩⟩
theorem Keep.of_below {b : Nat} {w w' w'' : World} (h : Keep b w w') (k : Below w'.heap.size w' w'') : Keep b w w'' :=
  h.trans ⟨⟨k.os, k.tape, k.output, k.size, fun j hj _ => k.block j hj⟩⟩
theorem Keep.setb {b : Nat} {w w' : World} (h : Keep b w w') (v : Value) : Keep b w (w'.setCell ⟨b, 0, none⟩ v) :=
  h.trans ⟨⟨rfl, rfl, rfl, by simp [World.setCell], fun j _ hb => Below.heap_setCell _ _ _ _ (fun e => hb (by simp [e]))⟩⟩
theorem Keep.below {b B : Nat} {w w' : World} (h : Keep b w w') (hb : B ≤ b) (hB : B ≤ w.heap.size) : Below B w w' :=
  ⟨h.grown.os, h.grown.tape, h.grown.output, h.size, fun k hk => h.block (by omega) (by omega)⟩
end Go.Proofs.YtnmbjmocnafekaaGreatDoor

