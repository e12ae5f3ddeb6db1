/-
  The functions of a name and a number of arguments; plain data only.
  Which functions are applicable to types, and what their arguments cost; plain data only.
  What it is that a function is below another one; plain data only.
  The applicable functions below which no other one is; plain data only.
  The choice of one of some functions; plain data only.
  The contracts of the model's l5Kinds, l5Applicable and ApplicableOf.
  The contract of the model's LeastOf.
  The contracts of the model's l5Cost and CostOf.
-/
import Derived.Test.YtbblhjdcpmahkaaGreatDoorK4
import Derived.Test.YtbblhjdcpmahkaaGreatDoorK6
import Derived.Test.YtbblhjdcpmahkaaGreatDoorK7
import Derived.Maps.Views
import Derived.Test.YtbblhjdcpmahkaaGreatDoorK5
import Derived.WalkMore
import Derived.Deep.LoopGhost
import Derived.BigQuiet
import Derived.Deep.RegionHeld3
namespace Go.Proofs.YtbblhjdcpmahkaaGreatDoor
open Go.RowKit Go.Maps

open Classical in
/-- The indices, below j, of the functions with a name and a number of arguments. -/
noncomputable def nmT (fs : List Fu) (nm : ByteArray) (a : Int) (j : Nat) : List Int := ((List.range j).filter fun i => decide ((fs.getD i default).name = nm ∧ ((fs.getD i default).args.length : Int) = a)).map fun i : Nat => (i : Int)
theorem nmT_hit {fs : List Fu} {nm : ByteArray} {a : Int} {j : Nat} (h : (fs.getD j default).name = nm ∧ ((fs.getD j default).args.length : Int) = a) : nmT fs nm a (j + 1) = nmT fs nm a j ++ [(j : Int)] := by
  unfold nmT
  rw [List.range_succ, List.filter_append, List.map_append]
  rw [List.getD_eq_getElem?_getD] at h
  simp [h.1, h.2]
theorem nmT_miss {fs : List Fu} {nm : ByteArray} {a : Int} {j : Nat} (h : ¬ ((fs.getD j default).name = nm ∧ ((fs.getD j default).args.length : Int) = a)) : nmT fs nm a (j + 1) = nmT fs nm a j := by
  unfold nmT
  rw [List.range_succ, List.filter_append, List.map_append]
  rw [List.getD_eq_getElem?_getD] at h
  have e : decide ((fs[j]?.getD default).name = nm ∧ ((fs[j]?.getD default).args.length : Int) = a) = false := decide_eq_false h
  simp only [List.getD_eq_getElem?_getD, List.filter_cons, List.filter_nil, e]
  simp
theorem nmT_le (fs : List Fu) (nm : ByteArray) (a : Int) (j : Nat) : (nmT fs nm a j).length ≤ j := by
  unfold nmT
  rw [List.length_map]
  exact Nat.le_trans (List.length_filter_le _ _) (by simp)
theorem nmT_wf (fs : List Fu) (nm : ByteArray) (a : Int) (j : Nat) (hj : j ≤ 1048576) : ∀ z ∈ nmT fs nm a j, I64 z := by
  intro z hz
  unfold nmT at hz
  obtain ⟨i, hi, rfl⟩ := List.mem_map.1 hz
  have := List.mem_range.1 (List.mem_filter.1 hi).1
  unfold I64
  omega
/-- What NamedOf returns. -/
noncomputable def namedV (y : Sy) (nm : ByteArray) (a : Int) : List Int := if syB y = true then nmT y.fs nm a y.fs.length else []
noncomputable def accN (y : Sy) (nm : ByteArray) (a : Int) (j : Nat) : List Int := if syB y = true then nmT y.fs nm a j else []
theorem accN_le (y : Sy) (nm : ByteArray) (a : Int) (j : Nat) : (accN y nm a j).length ≤ j := by
  unfold accN
  split
  · exact nmT_le _ _ _ _
  · simp
theorem namedV_le (y : Sy) (nm : ByteArray) (a : Int) : (namedV y nm a).length ≤ y.fs.length := by
  unfold namedV
  split
  · exact nmT_le _ _ _ _
  · simp
theorem namedV_wf (y : Sy) (nm : ByteArray) (a : Int) (hb : y.bulk ≤ 1048576) : ∀ z ∈ namedV y nm a, I64 z := by
  unfold namedV
  split
  · exact nmT_wf _ _ _ _ (by unfold Sy.bulk at hb; omega)
  · intro z hz; exact absurd hz (by simp)

/-- Those of some functions that have a number of arguments. -/
def withA (fs : List Fu) (a : Int) (zs : List Int) : List Int := zs.filter fun z => decide (((fs.getD z.toNat default).args.length : Int) = a)
theorem withA_hit {fs : List Fu} {a : Int} {zs : List Int} {j : Nat} (hj : j < zs.length) (h : ((fs.getD zs[j].toNat default).args.length : Int) = a) : withA fs a (zs.take (j + 1)) = withA fs a (zs.take j) ++ [zs[j]] := by
  unfold withA
  rw [List.take_succ_eq_append_getElem hj, List.filter_append]
  congr 1
  simp only [List.filter_cons, List.filter_nil, decide_eq_true h, if_true]
theorem withA_miss {fs : List Fu} {a : Int} {zs : List Int} {j : Nat} (hj : j < zs.length) (h : ¬ ((fs.getD zs[j].toNat default).args.length : Int) = a) : withA fs a (zs.take (j + 1)) = withA fs a (zs.take j) := by
  unfold withA
  rw [List.take_succ_eq_append_getElem hj, List.filter_append]
  have e : [zs[j]].filter (fun z => decide (((fs.getD z.toNat default).args.length : Int) = a)) = [] := by
    simp only [List.filter_cons, List.filter_nil, decide_eq_false h]
    simp
  rw [e, List.append_nil]
theorem withA_le (fs : List Fu) (a : Int) (zs : List Int) : (withA fs a zs).length ≤ zs.length := List.length_filter_le _ _
theorem withA_idxs (fs : List Fu) (nm : ByteArray) (a : Int) (k : Nat) : withA fs a (idxs fs k nm) = nmT fs nm a k := by
  unfold withA idxs nmT
  rw [List.filter_map, List.filter_filter]
  congr 1
  refine List.filter_congr fun i _ => ?_
  simp only [Function.comp, Int.toNat_natCast]
  rw [Bool.eq_iff_iff]
  simp only [Bool.and_eq_true, decide_eq_true_eq]
  exact ⟨fun h => ⟨h.2, h.1⟩, fun h => ⟨h.2, h.1⟩⟩
end Go.Proofs.YtbblhjdcpmahkaaGreatDoor

namespace Go.Proofs.YtbblhjdcpmahkaaGreatDoor
open Go.RowKit Go.Maps

/-- Each of some types can be coerced to the one in its place. -/
def ApTo (t : Ty) (ks gs : List Int) : Prop := ks.length = gs.length ∧ ∀ j, j < ks.length → canC t (ks.getD j 0) (gs.getD j 0) = true
open Classical in
noncomputable def apToB (t : Ty) (ks gs : List Int) : Bool := decide (ApTo t ks gs)
theorem apToB_iff {t : Ty} {ks gs : List Int} : apToB t ks gs = true ↔ ApTo t ks gs := by unfold apToB; exact @decide_eq_true_iff _ (Classical.propDecidable _)
theorem apToB_yes {t : Ty} {ks gs : List Int} (h : ApTo t ks gs) : apToB t ks gs = true := apToB_iff.2 h
theorem apToB_no {t : Ty} {ks gs : List Int} (h : ¬ ApTo t ks gs) : apToB t ks gs = false := by
  cases e : apToB t ks gs with
  | false => rfl
  | true => exact absurd (apToB_iff.1 e) h

/-- Those of some functions that are applicable. -/
noncomputable def apsIn (y : Sy) (ks zs : List Int) : List Int := zs.filter fun z => apToB y.ty ks (y.fs.getD z.toNat default).args
theorem apsIn_hit {y : Sy} {ks zs : List Int} {j : Nat} (hj : j < zs.length) (h : ApTo y.ty ks (y.fs.getD zs[j].toNat default).args) : apsIn y ks (zs.take (j + 1)) = apsIn y ks (zs.take j) ++ [zs[j]] := by
  unfold apsIn
  rw [List.take_succ_eq_append_getElem hj, List.filter_append]
  congr 1
  simp only [List.filter_cons, List.filter_nil, apToB_yes h, if_true]
theorem apsIn_miss {y : Sy} {ks zs : List Int} {j : Nat} (hj : j < zs.length) (h : ¬ ApTo y.ty ks (y.fs.getD zs[j].toNat default).args) : apsIn y ks (zs.take (j + 1)) = apsIn y ks (zs.take j) := by
  unfold apsIn
  rw [List.take_succ_eq_append_getElem hj, List.filter_append]
  simp only [List.filter_cons, List.filter_nil, apToB_no h]
  simp
theorem apsIn_le (y : Sy) (ks zs : List Int) : (apsIn y ks zs).length ≤ zs.length := List.length_filter_le _ _
theorem apsIn_sub {y : Sy} {ks zs : List Int} {z : Int} (h : z ∈ apsIn y ks zs) : z ∈ zs ∧ ApTo y.ty ks (y.fs.getD z.toNat default).args := by
  unfold apsIn at h
  have h2 := List.mem_filter.1 h
  exact ⟨h2.1, apToB_iff.1 h2.2⟩
theorem apsIn_mem {y : Sy} {ks zs : List Int} {z : Int} (h : z ∈ zs) (ha : ApTo y.ty ks (y.fs.getD z.toNat default).args) : z ∈ apsIn y ks zs := List.mem_filter.2 ⟨h, apToB_yes ha⟩

theorem nmT_mem {fs : List Fu} {nm : ByteArray} {a : Int} {k : Nat} {z : Int} : z ∈ nmT fs nm a k ↔ ∃ i : Nat, i < k ∧ (fs.getD i default).name = nm ∧ ((fs.getD i default).args.length : Int) = a ∧ z = (i : Int) := by
  unfold nmT
  rw [List.mem_map]
  constructor
  · rintro ⟨i, hi, rfl⟩
    obtain ⟨h1, h2⟩ := List.mem_filter.1 hi
    have h3 := of_decide_eq_true h2
    exact ⟨i, List.mem_range.1 h1, h3.1, h3.2, rfl⟩
  · rintro ⟨i, h1, h2, h3, rfl⟩
    exact ⟨i, List.mem_filter.2 ⟨List.mem_range.2 h1, decide_eq_true ⟨h2, h3⟩⟩, rfl⟩
theorem nmT_asc (fs : List Fu) (nm : ByteArray) (a : Int) (k : Nat) : (nmT fs nm a k).Pairwise (· < ·) := by
  unfold nmT
  rw [List.pairwise_map]
  refine List.Pairwise.imp (fun {a b} h => ?_) (List.Pairwise.filter _ (List.pairwise_lt_range (n := k)))
  show (a : Int) < (b : Int)
  omega
theorem namedV_asc (y : Sy) (nm : ByteArray) (a : Int) : (namedV y nm a).Pairwise (· < ·) := by
  unfold namedV
  split
  · exact nmT_asc _ _ _ _
  · exact List.Pairwise.nil
theorem namedV_mem {y : Sy} {nm : ByteArray} {a z : Int} : z ∈ namedV y nm a ↔ SyOk y ∧ ∃ i : Nat, i < y.fs.length ∧ (y.fs.getD i default).name = nm ∧ ((y.fs.getD i default).args.length : Int) = a ∧ z = (i : Int) := by
  unfold namedV
  split
  · rename_i h
    rw [nmT_mem]
    exact ⟨fun h2 => ⟨syB_iff.1 h, h2⟩, fun h2 => h2.2⟩
  · rename_i h
    exact ⟨fun h2 => absurd h2 (by simp), fun h2 => absurd (syB_yes h2.1) h⟩

/-- The functions with a name that are applicable to types. -/
noncomputable def applicV (y : Sy) (nm : ByteArray) (ks : List Int) : List Int := apsIn y ks (namedV y nm (ks.length : Int))
theorem applicV_asc (y : Sy) (nm : ByteArray) (ks : List Int) : (applicV y nm ks).Pairwise (· < ·) := List.Pairwise.filter _ (namedV_asc _ _ _)
theorem applicV_le (y : Sy) (nm : ByteArray) (ks : List Int) : (applicV y nm ks).length ≤ y.fs.length := Nat.le_trans (apsIn_le _ _ _) (namedV_le _ _ _)
theorem applicV_wf (y : Sy) (nm : ByteArray) (ks : List Int) (hb : y.bulk ≤ 1048576) : ∀ z ∈ applicV y nm ks, I64 z := fun z hz => namedV_wf y nm _ hb z (apsIn_sub hz).1
theorem applicV_mem {y : Sy} {nm : ByteArray} {ks : List Int} {z : Int} : z ∈ applicV y nm ks ↔ SyOk y ∧ ∃ i : Nat, i < y.fs.length ∧ (y.fs.getD i default).name = nm ∧ ApTo y.ty ks (y.fs.getD i default).args ∧ z = (i : Int) := by
  constructor
  · intro h
    obtain ⟨h1, h2⟩ := apsIn_sub h
    obtain ⟨hs, i, hi, hn, _, rfl⟩ := namedV_mem.1 h1
    exact ⟨hs, i, hi, hn, by simpa using h2, rfl⟩
  · rintro ⟨hs, i, hi, hn, ha, rfl⟩
    exact apsIn_mem (namedV_mem.2 ⟨hs, i, hi, hn, by rw [ha.1], rfl⟩) (by simpa using ha)
theorem applicV_no {y : Sy} {nm : ByteArray} {ks : List Int} (h : ¬ SyOk y) : applicV y nm ks = [] := by
  rw [List.eq_nil_iff_forall_not_mem]
  exact fun z hz => h (applicV_mem.1 hz).1

/-- How many coercions the first k arguments take, and all. -/
def costTo (t : Ty) (ks gs : List Int) : Nat → Nat
  | 0 => 0
  | k + 1 => costTo t ks gs k + (shortV t (ks.getD k 0) (gs.getD k 0)).length
def costV (t : Ty) (ks gs : List Int) : Int := (costTo t ks gs ks.length : Int)
theorem costTo_le (t : Ty) (ks gs : List Int) : ∀ k, costTo t ks gs k ≤ 5 * k
  | 0 => Nat.le_refl _
  | k + 1 => by
    have h1 := costTo_le t ks gs k
    have h2 := (shortV_wf t (ks.getD k 0) (gs.getD k 0)).2
    show costTo t ks gs k + (shortV t (ks.getD k 0) (gs.getD k 0)).length ≤ 5 * (k + 1)
    omega

/-- The cost of a function of a system. -/
def costOf (y : Sy) (ks : List Int) (z : Int) : Int := costV y.ty ks (y.fs.getD z.toNat default).args
theorem costOf_bd (y : Sy) (ks : List Int) (z : Int) (h : ks.length ≤ 1048576) : 0 ≤ costOf y ks z ∧ costOf y ks z ≤ 5242880 := by
  have := costTo_le y.ty ks (y.fs.getD z.toNat default).args ks.length
  unfold costOf costV
  omega

/-- D holds the costs of the functions of L, and nothing else. -/
structure Cst (y : Sy) (ks L : List Int) (D : DataW Unit) : Prop where
  map : IsMap D
  has : ∀ z, Maps.has D (.int .i64 z) = true ↔ z ∈ L
  at_ : ∀ z ∈ L, D.atKey (.int .i64 z) (.lit (.int .i64 0)) = .lit (.int .i64 (costOf y ks z))
theorem Cst.nil (y : Sy) (ks : List Int) : Cst y ks [] (.map []) := ⟨isMap_empty, fun z => ⟨fun h => (by cases h), fun h => absurd h (by simp)⟩, fun z h => absurd h (by simp)⟩
theorem intKey (z : Int) : WideAt.IsKeyLit (.int .i64 z) := by simp [WideAt.IsKeyLit]
theorem Cst.step {y : Sy} {ks L : List Int} {D : DataW Unit} (h : Cst y ks L D) (z : Int) : Cst y ks (L ++ [z]) (D.put (.int .i64 z) (.lit (.int .i64 (costOf y ks z)))) := by
  refine ⟨h.map.put _ _, fun x => ?_, fun x hx => ?_⟩
  · by_cases e : x = z
    · subst e
      rw [has_put_same h.map (intKey _)]
      simp
    · rw [has_put_other (fun e2 => e (by injection e2)), h.has x]
      simp [e]
  · by_cases e : x = z
    · subst e
      rw [atKey_put_same h.map (intKey _)]
    · rw [atKey_put_other (fun e2 => e (by injection e2))]
      refine h.at_ x ?_
      simpa [e] using hx
theorem Cst.at_no {y : Sy} {ks L : List Int} {D : DataW Unit} (h : Cst y ks L D) {z : Int} (hz : z ∉ L) (zd : DataW Unit) : D.atKey (.int .i64 z) zd = zd := by
  refine atKey_of_not_has ?_ zd
  cases e : Maps.has D (.int .i64 z) with
  | false => rfl
  | true => exact absurd ((h.has z).1 e) hz

/-- The keys, sorted. -/
theorem sort_asc {l : List Int} (h : l.Pairwise (· < ·)) : l.mergeSort (fun x y => decide (x ≤ y)) = l :=
  List.mergeSort_of_pairwise (h.imp fun {a b} h2 => by simp; omega)
end Go.Proofs.YtbblhjdcpmahkaaGreatDoor

namespace Go.Proofs.YtbblhjdcpmahkaaGreatDoor
open Go.RowKit

theorem if_yes {c : Bool} {A B : Prop} (h : c = true) (ha : A) : if c = true then A else B := by rw [if_pos h]; exact ha

/-- A function of a valid system is below another one. -/
def BelowP (y : Sy) (i k : Int) : Prop := hasFB y i = true ∧ hasFB y k = true ∧ (y.fs.getD i.toNat default).name = (y.fs.getD k.toNat default).name ∧ FitsTo y.ty (y.fs.getD i.toNat default).args (y.fs.getD k.toNat default).args
open Classical in
noncomputable def belowB (y : Sy) (i k : Int) : Bool := decide (BelowP y i k)
theorem belowB_yes {y : Sy} {i k : Int} (h : BelowP y i k) : belowB y i k = true := by unfold belowB; exact @decide_eq_true _ (Classical.propDecidable _) h
theorem belowB_no {y : Sy} {i k : Int} (h : ¬ BelowP y i k) : belowB y i k = false := by unfold belowB; exact @decide_eq_false _ (Classical.propDecidable _) h
theorem belowB_iff {y : Sy} {i k : Int} : belowB y i k = true ↔ BelowP y i k := by unfold belowB; exact @decide_eq_true_iff _ (Classical.propDecidable _)
end Go.Proofs.YtbblhjdcpmahkaaGreatDoor

namespace Go.Proofs.YtbblhjdcpmahkaaGreatDoor
open Go.RowKit

/-- The types of the arguments of a function. -/
def argsOf (y : Sy) (z : Int) : List Int := (y.fs.getD z.toNat default).args
theorem argsOf_at {y : Sy} {i : Nat} (h : i < y.fs.length) : argsOf y (i : Int) = y.fs[i].args := by unfold argsOf; rw [Int.toNat_natCast, getD_of h]
noncomputable def leastB (y : Sy) (L : List Int) (i : Int) : Bool := L.all fun k => !(decide (k ≠ i) && fitsToB y.ty (argsOf y k) (argsOf y i))
noncomputable def leastT (y : Sy) (L : List Int) (m : Nat) : List Int := (L.take m).filter fun i => leastB y L i
theorem leastT_zero (y : Sy) (L : List Int) : leastT y L 0 = [] := by simp [leastT]
theorem leastT_hit {y : Sy} {L : List Int} {m : Nat} (hm : m < L.length) (h : leastB y L L[m] = true) : leastT y L (m + 1) = leastT y L m ++ [L[m]] := by
  unfold leastT
  rw [List.take_succ_eq_append_getElem hm, List.filter_append]
  simp [h]
theorem leastT_miss {y : Sy} {L : List Int} {m : Nat} (hm : m < L.length) (h : leastB y L L[m] = false) : leastT y L (m + 1) = leastT y L m := by
  unfold leastT
  rw [List.take_succ_eq_append_getElem hm, List.filter_append]
  simp [h]
theorem leastT_le (y : Sy) (L : List Int) (m : Nat) : (leastT y L m).length ≤ m := by
  unfold leastT
  have h1 := List.length_filter_le (fun k => leastB y L k) (L.take m)
  rw [List.length_take] at h1
  omega
theorem leastB_no {y : Sy} {L : List Int} {i : Int} {m : Nat} (hm : m < L.length) (h1 : L[m] ≠ i) (h2 : fitsToB y.ty (argsOf y L[m]) (argsOf y i) = true) : leastB y L i = false := by
  unfold leastB
  exact all_false_of (p := fun k => !(decide (k ≠ i) && fitsToB y.ty (argsOf y k) (argsOf y i))) m hm (by simp [h1, h2])
theorem leastB_yes {y : Sy} {L : List Int} {i : Int} (h : ∀ m, ∀ (hm : m < L.length), ¬ (L[m] ≠ i ∧ fitsToB y.ty (argsOf y L[m]) (argsOf y i) = true)) : leastB y L i = true := by
  unfold leastB
  refine all_true_of (p := fun k => !(decide (k ≠ i) && fitsToB y.ty (argsOf y k) (argsOf y i))) fun m hm => ?_
  have := h m hm
  by_cases e : L[m] = i
  · simp [e]
  · have : fitsToB y.ty (argsOf y L[m]) (argsOf y i) = false := by
      cases hc : fitsToB y.ty (argsOf y L[m]) (argsOf y i)
      · rfl
      · exact absurd ⟨e, hc⟩ this
    simp [this]
/-- What LeastOf returns. -/
noncomputable def leastV (y : Sy) (nm : ByteArray) (ks : List Int) : List Int := leastT y (applicV y nm ks) (applicV y nm ks).length
theorem leastV_le (y : Sy) (nm : ByteArray) (ks : List Int) : (leastV y nm ks).length ≤ y.fs.length := Nat.le_trans (leastT_le _ _ _) (applicV_le _ _ _)
theorem leastV_wf (y : Sy) (nm : ByteArray) (ks : List Int) (hb : y.bulk ≤ 1048576) : ∀ z ∈ leastV y nm ks, I64 z := by
  intro z hz
  unfold leastV leastT at hz
  exact applicV_wf y nm ks hb z (List.mem_of_mem_take (List.mem_filter.1 hz).1)
theorem applicV_at {y : Sy} {nm : ByteArray} {ks : List Int} {m : Nat} (hm : m < (applicV y nm ks).length) : SyOk y ∧ ∃ i : Nat, (applicV y nm ks)[m] = (i : Int) ∧ ∃ hi : i < y.fs.length, y.fs[i].name = nm ∧ ApTo y.ty ks y.fs[i].args := by
  obtain ⟨hs, i, hi, hn, ha, e⟩ := applicV_mem.1 (List.getElem_mem hm)
  rw [getD_of hi] at hn ha
  exact ⟨hs, i, e, hi, hn, ha⟩
theorem below_fits {y : Sy} {a b : Nat} (hs : SyOk y) (ha : a < y.fs.length) (hb : b < y.fs.length) (hn : y.fs[a].name = y.fs[b].name) : hasFB y (a : Int) = true ∧ hasFB y (b : Int) = true ∧ belowB y (a : Int) (b : Int) = fitsToB y.ty (argsOf y (a : Int)) (argsOf y (b : Int)) := by
  have h1 : ∀ c : Nat, c < y.fs.length → hasFB y (c : Int) = true := fun c hc => by
    unfold hasFB
    rw [syB_yes hs, ixB_yes (by omega) (by omega)]
    rfl
  refine ⟨h1 a ha, h1 b hb, ?_⟩
  rw [Bool.eq_iff_iff, belowB_iff, fitsToB_iff]
  refine ⟨fun h => h.2.2.2, fun h => ⟨h1 a ha, h1 b hb, ?_, h⟩⟩
  rw [Int.toNat_natCast, Int.toNat_natCast, getD_of ha, getD_of hb, hn]
end Go.Proofs.YtbblhjdcpmahkaaGreatDoor

namespace Go.Proofs.YtbblhjdcpmahkaaGreatDoor
open Go.RowKit

/-- The words for how a choice went. -/
def wOne : ByteArray := ⟨#[111, 110, 101]⟩
def wMany : ByteArray := ⟨#[109, 97, 110, 121]⟩
def wNone : ByteArray := ⟨#[110, 111, 110, 101]⟩

/-- Is one of a list before all others of it? -/
def chiefB (lt : Int → Int → Bool) (L : List Int) (i : Int) : Bool := L.all fun k => decide (k = i) || lt i k
theorem chiefB_yes {lt : Int → Int → Bool} {L : List Int} {i : Int} (h : ∀ m, ∀ (hm : m < L.length), L[m] ≠ i → lt i L[m] = true) : chiefB lt L i = true := by
  unfold chiefB
  refine all_true_of (p := fun k => decide (k = i) || lt i k) fun m hm => ?_
  by_cases e : L[m] = i
  · simp [e]
  · simp [h m hm e]
theorem chiefB_no {lt : Int → Int → Bool} {L : List Int} {i : Int} {m : Nat} (hm : m < L.length) (h1 : L[m] ≠ i) (h2 : lt i L[m] = false) : chiefB lt L i = false := by
  unfold chiefB
  exact all_false_of (p := fun k => decide (k = i) || lt i k) m hm (by simp [h1, h2])
theorem chiefB_of {lt : Int → Int → Bool} {L : List Int} {i : Int} (h : chiefB lt L i = true) {k : Int} (hk : k ∈ L) (hne : k ≠ i) : lt i k = true := by
  unfold chiefB at h
  have := List.all_eq_true.1 h k hk
  simpa [hne] using this

/-- What is chosen: the first that is before all others, or -1. -/
def pickI (lt : Int → Int → Bool) (L : List Int) : Int := match L.find? (chiefB lt L) with
  | some i => i
  | none => -1
def pickW (lt : Int → Int → Bool) (L : List Int) : ByteArray := match L.find? (chiefB lt L) with
  | some _ => wOne
  | none => if L = [] then wNone else wMany
theorem pick_nil (lt : Int → Int → Bool) : pickI lt [] = -1 ∧ pickW lt [] = wNone := ⟨rfl, rfl⟩
theorem find_none_take {L : List Int} {p : Int → Bool} (h : ∀ m, ∀ (hm : m < L.length), p L[m] = false) : L.find? p = none := by
  rw [List.find?_eq_none]
  intro x hx
  obtain ⟨m, hm, rfl⟩ := List.getElem_of_mem hx
  simp [h m hm]
theorem find_at {p : Int → Bool} : ∀ (L : List Int) (j : Nat) (hj : j < L.length), (∀ m, m < j → ∀ (hm : m < L.length), p L[m] = false) → p L[j] = true → L.find? p = some L[j]
  | [], j, hj, _, _ => absurd hj (by simp)
  | x :: l, 0, _, _, h => by simp [show p x = true from h]
  | x :: l, j + 1, hj, hm, h => by
    have h0 : p x = false := hm 0 (by omega) (by simp)
    rw [List.find?_cons, h0]
    exact find_at l j (by simpa using hj) (fun m h1 h2 => hm (m + 1) (by omega) (by simpa using h2)) h
theorem pick_at {lt : Int → Int → Bool} {L : List Int} {j : Nat} (hj : j < L.length) (hno : ∀ m, m < j → ∀ (hm : m < L.length), chiefB lt L L[m] = false) (h : chiefB lt L L[j] = true) : pickI lt L = L[j] ∧ pickW lt L = wOne := by
  unfold pickI pickW
  rw [find_at L j hj hno h]
  exact ⟨rfl, rfl⟩
theorem pick_many {lt : Int → Int → Bool} {L : List Int} (h0 : L ≠ []) (hno : ∀ m, ∀ (hm : m < L.length), chiefB lt L L[m] = false) : pickI lt L = -1 ∧ pickW lt L = wMany := by
  unfold pickI pickW
  rw [find_none_take hno, if_neg h0]
  exact ⟨rfl, rfl⟩
theorem pickI_mem (lt : Int → Int → Bool) (L : List Int) : pickI lt L = -1 ∨ pickI lt L ∈ L := by
  unfold pickI
  cases h : L.find? (chiefB lt L) with
  | none => exact .inl rfl
  | some i => exact .inr (List.mem_of_find?_eq_some h)
theorem pickW_size (lt : Int → Int → Bool) (L : List Int) : (pickW lt L).size ≤ 4 := by
  unfold pickW
  split
  · decide
  · split <;> decide
theorem pick_congr {f g : Int → Int → Bool} {L : List Int} (h : ∀ i ∈ L, ∀ k ∈ L, k ≠ i → f i k = g i k) : pickI f L = pickI g L ∧ pickW f L = pickW g L := by
  have e : ∀ i ∈ L, chiefB f L i = chiefB g L i := fun i hi => by
    unfold chiefB
    rw [Bool.eq_iff_iff, List.all_eq_true, List.all_eq_true]
    refine forall_congr' fun k => forall_congr' fun hk => ?_
    by_cases e : k = i
    · simp [e]
    · rw [h i hi k hk e]
  have e2 : L.find? (chiefB f L) = L.find? (chiefB g L) := by
    have : ∀ l : List Int, (∀ i ∈ l, chiefB f L i = chiefB g L i) → l.find? (chiefB f L) = l.find? (chiefB g L) := by
      intro l
      induction l with
      | nil => intro _; rfl
      | cons x l ih =>
        intro hx
        rw [List.find?_cons, List.find?_cons, hx x (by simp), ih fun i hi => hx i (by simp [hi])]
    exact this L e
  unfold pickI pickW
  rw [e2]
  exact ⟨rfl, rfl⟩

/-- One function is below another one. -/
noncomputable def ltB (y : Sy) (i k : Int) : Bool := fitsToB y.ty (argsOf y i) (argsOf y k)
/-- One function costs less than another one. -/
noncomputable def ltC (y : Sy) (ks : List Int) (i k : Int) : Bool := decide (costOf y ks i < costOf y ks k)

/-- The costs of a list, looked through once: the first with the least cost, this cost, and how many have it. -/
structure Best where
  best : Int
  cost : Int
  times : Nat
def bestStep (c : Int → Int) (b : Best) (i : Int) : Best :=
  if b.times = 0 ∨ c i < b.cost then ⟨i, c i, 1⟩ else if c i = b.cost then ⟨b.best, b.cost, b.times + 1⟩ else b
def bestOf (c : Int → Int) (l : List Int) : Best := l.foldl (bestStep c) ⟨-1, 0, 0⟩
theorem bestOf_nil (c : Int → Int) : bestOf c [] = ⟨-1, 0, 0⟩ := rfl
theorem bestOf_snoc (c : Int → Int) (l : List Int) (i : Int) : bestOf c (l ++ [i]) = bestStep c (bestOf c l) i := by simp [bestOf, List.foldl_append]
/-- What is known of it. -/
structure BestIs (c : Int → Int) (l : List Int) (b : Best) : Prop where
  nil : b.times = 0 ↔ l = []
  none : l = [] → b.best = -1
  mem : l ≠ [] → b.best ∈ l ∧ c b.best = b.cost
  low : ∀ k ∈ l, b.cost ≤ c k
  count : b.times = (l.filter fun k => decide (c k = b.cost)).length ∨ l = []
theorem bestIs (c : Int → Int) : ∀ n, ∀ l : List Int, l.length = n → BestIs c l (bestOf c l)
  | 0, l, h => by
    obtain rfl : l = [] := by simpa using h
    exact ⟨by simp [bestOf], fun _ => rfl, fun h => absurd rfl h, fun k hk => absurd hk (by simp), .inr rfl⟩
  | n + 1, l, h => by
    have hl : l ≠ [] := fun e => by simp [e] at h
    obtain ⟨l', i, rfl⟩ : ∃ l' i, l = l' ++ [i] := ⟨l.dropLast, l.getLast hl, (List.dropLast_concat_getLast hl).symm⟩
    have ih := bestIs c n l' (by simpa using h)
    rw [bestOf_snoc]
    generalize bestOf c l' = b at ih
    unfold bestStep
    by_cases h0 : b.times = 0 ∨ c i < b.cost
    · rw [if_pos h0]
      have hlow : ∀ k ∈ l', c i < c k := fun k hk => by
        rcases h0 with h0 | h0
        · rw [ih.nil.1 h0] at hk
          exact absurd hk (by simp)
        · have := ih.low k hk
          omega
      refine ⟨by simp, fun e => absurd e (by simp), fun _ => ⟨by simp, rfl⟩, fun k hk => ?_, .inl ?_⟩
      · rcases List.mem_append.1 hk with hk | hk
        · exact Int.le_of_lt (hlow k hk)
        · simp at hk; rw [hk]; exact Int.le_refl _
      · have e : l'.filter (fun k => decide (c k = c i)) = [] := by
          rw [List.filter_eq_nil_iff]
          intro k hk
          have := hlow k hk
          simp
          omega
        simp [List.filter_append, e]
    · rw [if_neg h0]
      have h1 : b.times ≠ 0 := fun e => h0 (.inl e)
      have h2 : ¬ c i < b.cost := fun e => h0 (.inr e)
      have hl' : l' ≠ [] := fun e => h1 (ih.nil.2 e)
      have hcount : b.times = (l'.filter fun k => decide (c k = b.cost)).length := ih.count.resolve_right hl'
      by_cases h3 : c i = b.cost
      · rw [if_pos h3]
        refine ⟨by simp, fun e => absurd e (by simp), fun _ => ⟨by simp [(ih.mem hl').1], (ih.mem hl').2⟩, fun k hk => ?_, .inl ?_⟩
        · rcases List.mem_append.1 hk with hk | hk
          · exact ih.low k hk
          · simp at hk; rw [hk]; show b.cost ≤ c i; omega
        · simp [List.filter_append, h3, hcount]
      · rw [if_neg h3]
        refine ⟨by simp [h1], fun e => absurd e (by simp), fun _ => ⟨by simp [(ih.mem hl').1], (ih.mem hl').2⟩, fun k hk => ?_, .inl ?_⟩
        · rcases List.mem_append.1 hk with hk | hk
          · exact ih.low k hk
          · simp at hk; rw [hk]; omega
        · simp [List.filter_append, h3, hcount]

/-- The unique one with the least cost is the one that costs less than all others. -/
theorem best_pick {c : Int → Int} {L : List Int} (hnd : L.Nodup) : ((bestOf c L).times = 0 → L = []) ∧ ((bestOf c L).times = 1 → pickI (fun i k => decide (c i < c k)) L = (bestOf c L).best ∧ pickW (fun i k => decide (c i < c k)) L = wOne) ∧
    (2 ≤ (bestOf c L).times → pickI (fun i k => decide (c i < c k)) L = -1 ∧ pickW (fun i k => decide (c i < c k)) L = wMany) := by
  have h := bestIs c L.length L rfl
  generalize bestOf c L = b at h
  refine ⟨h.nil.1, fun h1 => ?_, fun h2 => ?_⟩
  · have hne : L ≠ [] := fun e => by have := h.nil.2 e; omega
    obtain ⟨hm, hc⟩ := h.mem hne
    have hcount := h.count.resolve_right hne
    rw [h1] at hcount
    have huniq : ∀ k ∈ L, k ≠ b.best → c b.best < c k := fun k hk hkb => by
      have hlow := h.low k hk
      by_cases e : c k = b.cost
      · have m1 : k ∈ L.filter fun k => decide (c k = b.cost) := List.mem_filter.2 ⟨hk, by simp [e]⟩
        have m2 : b.best ∈ L.filter fun k => decide (c k = b.cost) := List.mem_filter.2 ⟨hm, by simp [hc]⟩
        obtain ⟨x, hx⟩ := List.length_eq_one_iff.1 hcount.symm
        rw [hx] at m1 m2
        simp at m1 m2
        exact absurd (m1.trans m2.symm) hkb
      · omega
    obtain ⟨j, hj, ej⟩ := List.getElem_of_mem hm
    have := pick_at (lt := fun i k => decide (c i < c k)) hj (fun m hmj hml => ?_) (chiefB_yes fun m hml hne2 => ?_)
    · rw [ej] at this
      exact this
    · have hne3 : L[m] ≠ L[j] := fun e => by
        have := (List.getElem_inj (h₀ := hml) (h₁ := hj) hnd).1 e
        omega
      refine chiefB_no hj (Ne.symm hne3) ?_
      have := huniq L[m] (List.getElem_mem hml) (by rw [← ej]; exact hne3)
      rw [ej]
      simp
      omega
    · have := huniq L[m] (List.getElem_mem hml) (by rw [← ej]; exact hne2)
      rw [ej]
      simpa using this
  · have hne : L ≠ [] := fun e => by have := h.nil.2 e; omega
    have hcount := h.count.resolve_right hne
    refine pick_many hne fun m hm => ?_
    -- another one has the least cost
    by_cases e : ∃ k ∈ L, k ≠ L[m] ∧ c k = b.cost
    · obtain ⟨k, hk, hkm, hkc⟩ := e
      obtain ⟨q, hq, eq⟩ := List.getElem_of_mem hk
      refine chiefB_no hq (by rw [eq]; exact hkm) ?_
      have := h.low L[m] (List.getElem_mem hm)
      rw [eq]
      simp
      omega
    · exfalso
      have hall : ∀ k ∈ L.filter (fun k => decide (c k = b.cost)), k = L[m] := fun k hk => by
        obtain ⟨h3, h4⟩ := List.mem_filter.1 hk
        apply Classical.byContradiction
        intro h5
        exact e ⟨k, h3, h5, of_decide_eq_true h4⟩
      have hnd2 : (L.filter fun k => decide (c k = b.cost)).Nodup := hnd.filter _
      have hle : (L.filter fun k => decide (c k = b.cost)).length ≤ 1 := by
        generalize L.filter (fun k => decide (c k = b.cost)) = F at hall hnd2
        match F, hall, hnd2 with
        | [], _, _ => simp
        | [_], _, _ => simp
        | x :: z :: F, hall, hnd2 =>
          have e1 := hall x (by simp)
          have e2 := hall z (by simp)
          rw [e1, e2] at hnd2
          simp at hnd2
      omega
theorem applicV_nodup (y : Sy) (nm : ByteArray) (ks : List Int) : (applicV y nm ks).Nodup := (applicV_asc y nm ks).imp fun h => by omega

/-- A way leads from each type to itself, so a function's arguments fit themselves. -/
theorem canB_self {t : Ty} {a : Int} : canB t a a = true := by
  unfold canB waysOf
  simp [waysF]
theorem fits_self {y : Sy} (z : Int) : fitsToB y.ty (argsOf y z) (argsOf y z) = true := fitsToB_yes ⟨rfl, fun _ _ => canB_self⟩
end Go.Proofs.YtbblhjdcpmahkaaGreatDoor

namespace Go.Proofs.YtbblhjdcpmahkaaGreatDoor
open Go.RowKit
attribute [local go_sem] Oper.semAt_some

/-- Some types are those of a valid system. -/
noncomputable def kindsB (y : Sy) (ks : List Int) : Bool := allIx ks y.ty.sizes.length && syB y

set_option maxRecDepth 100000 in
set_option maxHeartbeats 2000000 in
theorem l5Kinds_any (lo hi lo' hi' : Nat) (sv cv fv kv : Value) (y : Sy) (ks : List Int) (w : World) (hv : SyAt w lo hi sv cv fv y) (hk : IntsAt w lo' hi' kv ks) (hB : hi ≤ w.heap.size) (hB' : hi' ≤ w.heap.size) :
    Calls Tryz.prog 19 #[.agg #[sv, cv, fv], kv] w fun e w' => e = .returned (.bool (kindsB y ks)) ∧ Below w.heap.size w w' := by
  obtain ⟨A, cap, rfl, hl1, hm1, hi1⟩ := hv.1.1.form
  obtain ⟨B, bap, rfl, hl2, hm2, hc1⟩ := hv.1.2.form
  obtain ⟨F, fap, rfl, hl3, hm3, hf1⟩ := hv.2.form
  obtain ⟨K, kap, rfl, hlk, hmk, hk1⟩ := hk.form
  unfold maxLen at hm1 hmk
  have h3 : Below w.heap.size w (w.alloc (.cells #[.slice A y.ty.sizes.length cap, .slice B y.ty.cos.length bap, .slice F y.fs.length fap] 37)) := by go_grown
  have hwr := wrapIn ((y.ty.sizes.length : Int) - 1) (by omega) (by omega)
  have H3 := Lib.hid h3
  have Hv := Lib.hid (hv.below h3 hB)
  have Hk := Lib.hid (hk1.below h3 hB')
  clear hi1 hc1 hf1 hk1 hk hv h3
  go_enter Tryz.func19, Tryz.ntmps19
  go_wp2
  go_loop [9] (fun i => ∃ k : Nat, k ≤ ks.length ∧ i = .int .i64 k ∧ Hid (∀ j, j < k → ∀ (hj : j < ks.length), ixB ks[j] y.ty.sizes.length = true)) (fun i => ks.length - (intOf i).toNat)
  case atStart => exact ⟨0, Nat.zero_le _, rfl, fun j hj => absurd hj (by omega)⟩
  case round =>
    obtain ⟨k, hk, rfl, hok⟩ := hrel
    by_cases hlt : k < ks.length
    · obtain ⟨b, off, rfl, _, _, c0, _⟩ := Hk.out.at_ hlt
      by_cases hin : ixB ks[k] y.ty.sizes.length = true
      · have hin' := Lib.hid hin
        go_wp2_with (go_at_call 35; refine (l1In_any _ _ _ _).mono ?_; rintro e w' ⟨rfl, rfl⟩; rw [inB_ix, hin])
        go_round
        case rel =>
          refine ⟨k + 1, by omega, by go_num, fun j hj hjl => ?_⟩
          by_cases ej : j = k
          · subst ej; exact hin'.out
          · exact hok.out j (by omega) hjl
        case measure => simp [intOf]; omega
      · have hinf : ixB ks[k] y.ty.sizes.length = false := by simpa using hin
        have hfin : Hid (kindsB y ks = false) := by show _ = _; unfold kindsB allIx; rw [all_false_of (p := fun z => ixB z y.ty.sizes.length) k hlt hinf, Bool.false_and]
        clear hin
        go_wp2_with (go_at_call 35; refine (l1In_any _ _ _ _).mono ?_; rintro e w' ⟨rfl, rfl⟩; rw [inB_ix, hinf])
        go_ret
        exact ⟨ret_bool hfin.out.symm, H3.out⟩
    · obtain rfl : k = ks.length := by omega
      have hfin : Hid (kindsB y ks = syB y) := by show _ = _; unfold kindsB allIx; rw [all_true_of (p := fun z => ixB z y.ty.sizes.length) fun j hj => hok.out j hj hj, Bool.true_and]
      go_wp2_with fail
      refine (specSysValid_any lo hi _ _ _ y _ Hv.out (by simp; omega)).mono ?_
      rintro e w1 ⟨rfl, hb1⟩
      have Hb1 := Lib.hid (H3.out.trans (hb1.mono (by simp)))
      clear hb1
      go_wp2
      go_ret
      exact ⟨ret_bool hfin.out.symm, Hb1.out⟩

/-- The applicable ones among the first j functions. -/
noncomputable def accA (y : Sy) (nm : ByteArray) (ks : List Int) (j : Nat) : List Int := apsIn y ks (nmT y.fs nm (ks.length : Int) j)
theorem accA_hit {y : Sy} {nm : ByteArray} {ks : List Int} {j : Nat} (h1 : (y.fs.getD j default).name = nm) (h2 : ApTo y.ty ks (y.fs.getD j default).args) : accA y nm ks (j + 1) = accA y nm ks j ++ [(j : Int)] := by
  unfold accA
  rw [nmT_hit ⟨h1, by rw [h2.1]⟩]
  unfold apsIn
  rw [List.filter_append]
  congr 1
  simp only [List.filter_cons, List.filter_nil, Int.toNat_natCast, apToB_yes h2, if_true]
theorem accA_miss {y : Sy} {nm : ByteArray} {ks : List Int} {j : Nat} (h : ¬ ((y.fs.getD j default).name = nm ∧ ApTo y.ty ks (y.fs.getD j default).args)) : accA y nm ks (j + 1) = accA y nm ks j := by
  unfold accA
  by_cases hn : (y.fs.getD j default).name = nm ∧ ((y.fs.getD j default).args.length : Int) = ks.length
  · rw [nmT_hit hn]
    unfold apsIn
    rw [List.filter_append]
    have e : apToB y.ty ks (y.fs.getD j default).args = false := apToB_no fun h2 => h ⟨hn.1, h2⟩
    simp only [List.filter_cons, List.filter_nil, Int.toNat_natCast, e]
    simp
  · rw [nmT_miss hn]
theorem accA_le (y : Sy) (nm : ByteArray) (ks : List Int) (j : Nat) : (accA y nm ks j).length ≤ j := Nat.le_trans (apsIn_le _ _ _) (nmT_le _ _ _ _)
theorem accA_end {y : Sy} {nm : ByteArray} {ks : List Int} (h : SyOk y) : applicV y nm ks = accA y nm ks y.fs.length := by
  unfold applicV accA namedV
  rw [if_pos (syB_yes h)]
theorem accA_zero (y : Sy) (nm : ByteArray) (ks : List Int) : accA y nm ks 0 = [] := rfl

theorem kindsB_of {y : Sy} {ks : List Int} (h : kindsB y ks = true) : SyOk y ∧ ∀ j, ∀ (hj : j < ks.length), 0 ≤ ks[j] ∧ ks[j] < y.ty.sizes.length := by
  simp only [kindsB, Bool.and_eq_true] at h
  exact ⟨syB_iff.1 h.2, allIx_iff.1 h.1⟩
theorem fits_apTo {y : Sy} {ks gs : List Int} (h : tyOk y.ty = true) (hk : ∀ j, ∀ (hj : j < ks.length), 0 ≤ ks[j] ∧ ks[j] < y.ty.sizes.length) (ha : ∀ j, ∀ (hj : j < gs.length), 0 ≤ gs[j] ∧ gs[j] < y.ty.sizes.length) : FitsTo y.ty ks gs ↔ ApTo y.ty ks gs := by
  unfold FitsTo ApTo canC
  refine and_congr_right fun hl => forall_congr' fun j => forall_congr' fun hj => ?_
  rw [getD_of hj, getD_of (show j < gs.length by omega), typesB_mk h (hk j hj) (ha j (by omega)), Bool.true_and]
theorem applicV_bad {y : Sy} {nm : ByteArray} {ks : List Int} (h : kindsB y ks = false) : applicV y nm ks = [] := by
  by_cases hs : SyOk y
  · rw [List.eq_nil_iff_forall_not_mem]
    intro z hz
    obtain ⟨_, i, hi, hn, ha, rfl⟩ := applicV_mem.1 hz
    have : allIx ks y.ty.sizes.length = true := allIx_iff.2 fun j hj => by
      have hc := ha.2 j hj
      simp only [canC, Bool.and_eq_true] at hc
      have ht := typesB_of hc.1
      rw [getD_of hj] at ht
      exact ⟨ht.2.1, ht.2.2.1⟩
    rw [kindsB, this, syB_yes hs] at h
    cases h
  · exact applicV_no hs

set_option maxRecDepth 100000 in
set_option maxHeartbeats 4000000 in
theorem l5Applicable_any (lo hi lo' hi' : Nat) (sv cv fv kv : Value) (y : Sy) (nm : ByteArray) (ks : List Int) (w : World) (hv : SyAt w lo hi sv cv fv y) (hk : IntsAt w lo' hi' kv ks) (hB : hi ≤ w.heap.size) (hB' : hi' ≤ w.heap.size) (hbk : y.bulk ≤ 1048576) (hok : kindsB y ks = true) :
    Calls Tryz.prog 37 #[.agg #[sv, cv, fv], .string nm, kv] w fun e w' => ∃ v, e = .returned v ∧ Below w.heap.size w w' ∧ w'.ownsRow w.heap.size 3 1 v (applicV y nm ks).length ((applicV y nm ks).map (Value.int .i64)) := by
  obtain ⟨A, cap, rfl, hl1, hm1, hi1⟩ := hv.1.1.form
  obtain ⟨B, bap, rfl, hl2, hm2, hc1⟩ := hv.1.2.form
  obtain ⟨F, fap, rfl, hl3, hm3, hf1⟩ := hv.2.form
  obtain ⟨K, kap, rfl, hlk, hmk, hk1⟩ := hk.form
  unfold maxLen at hm3
  obtain ⟨i0, hi0, hz0, hz1, hz2⟩ := info_parts Tryz.infoInt
  have hn : y.fs.length ≤ 1048576 := by unfold Sy.bulk at hbk; omega
  obtain ⟨hsy, hks⟩ := kindsB_of hok
  have Hsy := Lib.hid hsy
  have Hks := Lib.hid hks
  have hT : TyAt w lo hi (.slice A y.ty.sizes.length cap) (.slice B y.ty.cos.length bap) y.ty := ⟨hi1, hc1⟩
  have HT := Lib.hid hT
  have Hf := Lib.hid hf1
  have Hk := Lib.hid hk1
  clear hi1 hc1 hf1 hk1 hk hv hT hok hsy hks
  obtain ⟨WS, hWS⟩ : ∃ WS, WS = w.alloc (.cells #[.slice A y.ty.sizes.length cap, .slice B y.ty.cos.length bap, .slice F y.fs.length fap] 37) := ⟨_, rfl⟩
  have H3 : Hid (Below (w.heap.size + 1) (w.alloc (.cells #[.slice A y.ty.sizes.length cap, .slice B y.ty.cos.length bap, .slice F y.fs.length fap] 37)) WS) := by rw [hWS]; exact Below.refl _ _
  have hsS : WS.heap.size = w.heap.size + 1 := by rw [hWS]; simp
  clear hWS
  go_enter Tryz.func37, Tryz.ntmps37
  go_wp2
  go_loopw [7, 14] (fun l i wr => ∃ j : Nat, j ≤ y.fs.length ∧ i = .int .i64 j ∧ Hid (Below (w.heap.size + 1) (w.alloc (.cells #[.slice A y.ty.sizes.length cap, .slice B y.ty.cos.length bap, .slice F y.fs.length fap] 37)) wr) ∧ Hid (wr.ownsRow (w.heap.size + 1) 3 1 l (accA y nm ks j).length ((accA y nm ks j).map (Value.int .i64)))) (fun _ i _ => y.fs.length - (intOf i).toNat)
  case atStart =>
    refine ⟨0, Nat.zero_le _, rfl, (Below.refl _ _).alloc (by simp) _, ?_⟩
    show World.ownsRow _ _ _ _ _ _ _
    rw [accA_zero]
    have := World.ownsRow_lit (base := w.heap.size + 1) (e := 3) (size := 1) (w.alloc (.cells #[.slice A y.ty.sizes.length cap, .slice B y.ty.cos.length bap, .slice F y.fs.length fap] 37)) #[] 0 (by simp) (by unfold maxLen; omega) rfl
    simpa using this
  case round =>
    obtain ⟨j, hj, rfl, hb, hown⟩ := hrel
    by_cases hlt : j < y.fs.length
    · obtain ⟨q0, q1, q2, hlr, hb0⟩ := box3 hb.out
      obtain ⟨b, off, A1, cap1, A2, cap2, rfl, hlo, hhi, c0, c1, c2, c3, _, _, _, _, hfj⟩ := (Hf.out.below hb0 hB).at_ hlt
      have hle := accA_le y nm ks j
      have Hb0 := Lib.hid hb0
      have Hfj := Lib.hid hfj
      clear hb0 hfj
      have hg : Hid (y.fs.getD j default = y.fs[j]) := getD_of hlt
      have hbc : Hid (Below wr.heap.size wr (wr.alloc (.cells #[.string y.fs[j].name, .slice A1 y.fs[j].args.length cap1, .int .i64 y.fs[j].res, .slice A2 y.fs[j].table.length cap2] 74))) := (Below.refl _ _).alloc (Nat.le_refl _) _
      by_cases he : y.fs[j].name = nm
      · have hnm : y.fs[j].name.toList = nm.toList := by rw [he]
        have He := Lib.hid he
        clear he
        go_wp2_with fail
        refine (l4Fits_any lo hi lo' hi' lo hi _ _ _ _ y.ty ks y.fs[j].args _ (HT.out.below (Hb0.out.trans (hbc.out.mono (by omega))) hB) (Hk.out.below (Hb0.out.trans (hbc.out.mono (by omega))) hB') (Hfj.out.2.2.2.2.1.below hbc.out (by omega)) (by simp; omega) (by simp; omega) (by simp; omega) Hsy.out.ty Hks.out (Hsy.out.each j hlt).args).mono ?_
        rintro e w1 ⟨rfl, hb1⟩
        have hrw : Row w1 wr.heap.size 74 [.string y.fs[j].name, .slice A1 y.fs[j].args.length cap1, .int .i64 y.fs[j].res, .slice A2 y.fs[j].table.length cap2] := (Row.new wr _ _).below hb1 (by simp)
        have hown1 := ownsRow_below (hown.out.alloc (.cells #[.string y.fs[j].name, .slice A1 y.fs[j].args.length cap1, .int .i64 y.fs[j].res, .slice A2 y.fs[j].table.length cap2] 74)) hb1 (Nat.le_refl _)
        have hbx := (hb.out.alloc (by omega) _).trans (hb1.mono (B' := w.heap.size + 1) (by simp; omega))
        have Hown1 := Lib.hid hown1
        have Hbx := Lib.hid hbx
        have h1s : wr.heap.size < w1.heap.size := hrw.lt
        clear hb1 hrw hown1 hbx c0 c1 c2 c3
        by_cases hfit : fitsToB y.ty ks y.fs[j].args = true
        · have hap : ApTo y.ty ks y.fs[j].args := (fits_apTo Hsy.out.ty Hks.out (Hsy.out.each j hlt).args).1 (fitsToB_iff.1 hfit)
          have hh := Lib.hid (accA_hit (y := y) (nm := nm) (ks := ks) (j := j) (by rw [hg.out]; exact He.out) (by rw [hg.out]; exact hap))
          rw [hfit]
          clear hfit hap
          go_wp2_with (at_builtin; refine wpList_append_own _ rfl (.tmp 31) (.tmp 33) 22 rfl (w.heap.size + 1) 3 i0 (.int .i64 0) 1 8 Tryz.underlying22 hi0 hz0 hz1 hz2 rfl (by decide) _ _ _ rfl (Hown1.out.alloc _) ⟨w1.heap.size, 0, none⟩ 1 1 [.int .i64 j] rfl rfl ?c1 ?c2 ?c3 ?c4 ?c5 ?_)
          case c1 =>
            intro n u hi
            match n, hi with
            | 0, hi => simp at hi; subst hi; simp [Addr.add]
          case c2 => intro u hu; simp at hu; subst hu; rfl
          case c3 => unfold maxLen; omega
          case c4 => omega
          case c5 => simp; omega
          intro v' w2 hown2 hgrow _
          have hb2 := (Hbx.out.alloc (by omega) _).grown hgrow (by simp; omega) (fun k hk => by
            obtain ⟨_, ⟨e, _⟩ | ⟨g, cap3, cur, e, hg, _⟩⟩ := Hown1.out
            · rw [e] at hk; simp [Value.ownBlock] at hk
            · rw [e] at hk; simp [Value.ownBlock] at hk; omega)
          have Hb2 := Lib.hid hb2
          have Hown2 := Lib.hid hown2
          clear hown2 hgrow hb2
          go_wp2
          go_roundw
          case rel => exact ⟨j + 1, by omega, by go_num, Hb2.out, ownsRow_cast Hown2.out (by rw [hh.out]; simp) (by rw [hh.out]; simp)⟩
          case measure => simp [intOf]; omega
        · have hff : fitsToB y.ty ks y.fs[j].args = false := by simpa using hfit
          have hh := Lib.hid (accA_miss (y := y) (nm := nm) (ks := ks) (j := j) (by rw [hg.out]; exact fun h => hfit (fitsToB_yes ((fits_apTo Hsy.out.ty Hks.out (Hsy.out.each j hlt).args).2 h.2))))
          rw [hff]
          clear hfit
          go_wp2
          go_roundw
          case rel => exact ⟨j + 1, by omega, by go_num, Hbx.out, by rw [hh.out]; exact Hown1.out⟩
          case measure => simp [intOf]; omega
      · have hnm : ¬ y.fs[j].name.toList = nm.toList := fun h => he (bytes_eq h)
        have hh := Lib.hid (accA_miss (y := y) (nm := nm) (ks := ks) (j := j) (by rw [hg.out]; exact fun h => he h.1))
        have hbx := Lib.hid (hb.out.alloc (show w.heap.size + 1 ≤ wr.heap.size by omega) (.cells #[.string y.fs[j].name, .slice A1 y.fs[j].args.length cap1, .int .i64 y.fs[j].res, .slice A2 y.fs[j].table.length cap2] 74))
        clear he
        go_wp2
        go_roundw
        case rel => exact ⟨j + 1, by omega, by go_num, hbx.out, by rw [hh.out]; exact hown.out.alloc _⟩
        case measure => simp [intOf]; omega
    · obtain rfl : j = y.fs.length := by omega
      obtain ⟨_, _, _, _, hb0⟩ := box3 hb.out
      have Hb0 := Lib.hid hb0
      clear hb0
      go_wp2
      go_ret
      refine ⟨_, rfl, Hb0.out, ?_⟩
      rw [accA_end Hsy.out]
      exact ownsRow_base hown.out (by omega)

set_option maxRecDepth 100000 in
set_option maxHeartbeats 4000000 in
theorem specApplic_any (lo hi lo' hi' : Nat) (sv cv fv kv : Value) (y : Sy) (nm : ByteArray) (ks : List Int) (w : World) (hv : SyAt w lo hi sv cv fv y) (hk : IntsAt w lo' hi' kv ks) (hB : hi ≤ w.heap.size) (hB' : hi' ≤ w.heap.size) (hbk : y.bulk ≤ 1048576) :
    Calls Tryz.prog 28 #[.agg #[sv, cv, fv], .string nm, kv] w fun e w' => ∃ v, e = .returned v ∧ Below w.heap.size w w' ∧ w'.ownsRow w.heap.size 3 1 v (applicV y nm ks).length ((applicV y nm ks).map (Value.int .i64)) := by
  obtain ⟨A, cap, rfl, hl1, hm1, hi1⟩ := hv.1.1.form
  obtain ⟨B, bap, rfl, hl2, hm2, hc1⟩ := hv.1.2.form
  obtain ⟨F, fap, rfl, hl3, hm3, hf1⟩ := hv.2.form
  obtain ⟨K, kap, rfl, hlk, hmk, hk1⟩ := hk.form
  have h3 : Below w.heap.size w (w.alloc (.cells #[.slice A y.ty.sizes.length cap, .slice B y.ty.cos.length bap, .slice F y.fs.length fap] 37)) := by go_grown
  have H1 := Lib.hid (Below.refl (w.heap.size + 1) (w.alloc (.cells #[.slice A y.ty.sizes.length cap, .slice B y.ty.cos.length bap, .slice F y.fs.length fap] 37)))
  have Hv := Lib.hid hv
  have Hk := Lib.hid hk1
  have H3 := Lib.hid h3
  clear hi1 hc1 hf1 hk1 hk hv h3
  go_enter Tryz.func28, Tryz.ntmps28
  go_wp2_with fail
  refine (l5Kinds_any lo hi lo' hi' _ _ _ _ y ks _ (Hv.out.below H3.out hB) (Hk.out.below H3.out hB') (by simp; omega) (by simp; omega)).mono ?_
  rintro e w1 ⟨rfl, hb1⟩
  have H2 := Lib.hid (H1.out.trans (hb1.mono (by simp)))
  obtain ⟨q0, q1, q2, hl, hB1⟩ := box3 H2.out
  have HB1 := Lib.hid hB1
  clear hb1 hB1 H1
  by_cases hok : kindsB y ks = true
  · have Hok := Lib.hid hok
    rw [hok]
    clear hok
    go_wp2_with fail
    refine (l5Applicable_any lo hi lo' hi' _ _ _ _ y nm ks _ (Hv.out.below HB1.out hB) (Hk.out.below HB1.out hB') (by omega) (by omega) hbk Hok.out).mono ?_
    rintro e w2 ⟨v, rfl, hb2, hown⟩
    have Hown := Lib.hid (ownsRow_base (base' := w.heap.size) hown (by omega))
    have Hb2 := Lib.hid (HB1.out.trans (hb2.mono (by omega)))
    clear hb2 hown
    go_wp2
    go_ret
    exact ⟨_, rfl, Hb2.out, Hown.out⟩
  · have hf : kindsB y ks = false := by simpa using hok
    have he := Lib.hid (applicV_bad (nm := nm) hf)
    rw [hf]
    clear hok
    go_wp2
    go_ret
    refine ⟨_, rfl, HB1.out.alloc (by omega) _, ?_⟩
    rw [he.out]
    have := World.ownsRow_lit (base := w.heap.size) (e := 3) (size := 1) w1 #[] 0 (by omega) (by unfold maxLen; omega) rfl
    simpa using this
end Go.Proofs.YtbblhjdcpmahkaaGreatDoor

namespace Go.Proofs.YtbblhjdcpmahkaaGreatDoor
open Go.RowKit
attribute [local go_sem] Oper.semAt_some

end Go.Proofs.YtbblhjdcpmahkaaGreatDoor

namespace Go.Proofs.YtbblhjdcpmahkaaGreatDoor
open Go.RowKit
attribute [local go_sem] Oper.semAt_some

theorem kinds_of_ap {y : Sy} {ks gs : List Int} (hs : SyOk y) (ha : ApTo y.ty ks gs) : kindsB y ks = true := by
  have : allIx ks y.ty.sizes.length = true := allIx_iff.2 fun j hj => by
    have hc := ha.2 j hj
    simp only [canC, Bool.and_eq_true] at hc
    have ht := typesB_of hc.1
    rw [getD_of hj] at ht
    exact ⟨ht.2.1, ht.2.2.1⟩
  rw [kindsB, this, syB_yes hs]
  rfl

/-- What CostOf returns. -/
def CostP (y : Sy) (i : Int) (ks : List Int) : Prop := hasFB y i = true ∧ ApTo y.ty ks (y.fs.getD i.toNat default).args
open Classical in
noncomputable def costR (y : Sy) (i : Int) (ks : List Int) : Int := if CostP y i ks then costOf y ks i else -1
theorem costR_yes {y : Sy} {i : Int} {ks : List Int} (h : CostP y i ks) : costR y i ks = costOf y ks i := by unfold costR; rw [if_pos h]
theorem costR_no {y : Sy} {i : Int} {ks : List Int} (h : ¬ CostP y i ks) : costR y i ks = -1 := by unfold costR; rw [if_neg h]

set_option maxRecDepth 100000 in
set_option maxHeartbeats 4000000 in
theorem l5Cost_any (lo hi lo' hi' : Nat) (sv cv fv kv : Value) (y : Sy) (i : Nat) (ks : List Int) (w : World) (hv : SyAt w lo hi sv cv fv y) (hk : IntsAt w lo' hi' kv ks) (hB : hi ≤ w.heap.size) (hB' : hi' ≤ w.heap.size) (hil : i < y.fs.length) (hap : ApTo y.ty ks y.fs[i].args) (hfew : ks.length ≤ 2) :
    Calls Tryz.prog 29 #[.agg #[sv, cv, fv], .int .i64 i, kv] w fun e w' => e = .returned (.int .i64 (costOf y ks i)) ∧ Below w.heap.size w w' := by
  obtain ⟨A, cap, rfl, hl1, hm1, hi1⟩ := hv.1.1.form
  obtain ⟨B, bap, rfl, hl2, hm2, hc1⟩ := hv.1.2.form
  obtain ⟨F, fap, rfl, hl3, hm3, hf1⟩ := hv.2.form
  obtain ⟨K, kap, rfl, hlk, hmk, hk1⟩ := hk.form
  unfold maxLen at hm3 hmk
  have hT : TyAt w lo hi (.slice A y.ty.sizes.length cap) (.slice B y.ty.cos.length bap) y.ty := ⟨hi1, hc1⟩
  have HT := Lib.hid hT
  have Hf := Lib.hid hf1
  have Hk := Lib.hid hk1
  have Hap := Lib.hid hap
  have H1 := Lib.hid (Below.refl (w.heap.size + 1) (w.alloc (.cells #[.slice A y.ty.sizes.length cap, .slice B y.ty.cos.length bap, .slice F y.fs.length fap] 37)))
  have hcost : Hid (costOf y ks i = costV y.ty ks y.fs[i].args) := by show _ = _; unfold costOf; rw [Int.toNat_natCast, getD_of hil]
  have Hal := Lib.hid (show ks.length = y.fs[i].args.length from hap.1)
  clear hi1 hc1 hf1 hk1 hk hv hT hap
  go_enter Tryz.func29, Tryz.ntmps29
  go_wp2
  go_loopw [7, 14] (fun n p wr => ∃ k : Nat, k ≤ ks.length ∧ p = .int .i64 k ∧ n = .int .i64 (costTo y.ty ks y.fs[i].args k : Nat) ∧ Hid (Below (w.heap.size + 1) (w.alloc (.cells #[.slice A y.ty.sizes.length cap, .slice B y.ty.cos.length bap, .slice F y.fs.length fap] 37)) wr)) (fun _ p _ => ks.length - (intOf p).toNat)
  case atStart => exact ⟨0, Nat.zero_le _, rfl, rfl, H1.out⟩
  case round =>
    obtain ⟨k, hk, rfl, rfl, hb⟩ := hrel
    obtain ⟨q0, q1, q2, hl, hB1⟩ := box3 hb.out
    have HB1 := Lib.hid hB1
    clear hB1
    have hct := costTo_le y.ty ks y.fs[i].args k
    by_cases hlt : k < ks.length
    · have hla : k < y.fs[i].args.length := by have := Hal.out; omega
      obtain ⟨b, off, A1, cap1, A2, cap2, rfl, hlo, hhi, c0, c1, c2, c3, _, _, _, _, hfj⟩ := (Hf.out.below HB1.out hB).at_ hil
      obtain ⟨b1, o1, eK, _, hb1, e0, _⟩ := (Hk.out.below HB1.out hB').at_ hlt
      obtain rfl := eK
      obtain ⟨b2, o2, eA, _, hb2, e1, _⟩ := hfj.2.2.2.2.1.at_ hla
      obtain rfl := eA
      have hcan := Hap.out.2 k hlt
      rw [getD_of hlt, getD_of hla] at hcan
      simp only [canC, Bool.and_eq_true] at hcan
      have htb := Lib.hid hcan.1
      have hsucc : Hid (costTo y.ty ks y.fs[i].args (k + 1) = costTo y.ty ks y.fs[i].args k + (shortV y.ty ks[k] y.fs[i].args[k]).length) := by
        show _ = _
        unfold costTo
        rw [getD_of hlt, getD_of hla]
        cases k <;> rfl
      have hsl := (shortV_wf y.ty ks[k] y.fs[i].args[k]).2
      have hsum : costTo y.ty ks y.fs[i].args k + (shortV y.ty ks[k] y.fs[i].args[k]).length ≤ 4611686018427387904 := by omega
      have hilI : (i : Int) < (y.fs.length : Int) := by omega
      have hlaI : (k : Int) < (y.fs[i].args.length : Int) := by omega
      have K1 : Hid (wr.drew.cell? ⟨w.heap.size, 0, none⟩ = some (.slice A y.ty.sizes.length cap) ∧ wr.drew.cell? ⟨w.heap.size, 1, none⟩ = some (.slice B y.ty.cos.length bap) ∧ wr.drew.cell? ⟨w.heap.size, 2, none⟩ = some (.slice (some ⟨b, off, none⟩) y.fs.length fap) ∧ wr.drew.cell? ⟨b, off + i * 4 + 1, none⟩ = some (.slice (some ⟨b2, o2, none⟩) y.fs[i].args.length cap1) ∧ wr.drew.cell? ⟨b2, o2 + k, none⟩ = some (.int .i64 y.fs[i].args[k])) := ⟨q0, q1, q2, c1, e1⟩
      clear hcan hfj c0 c1 c2 c3 e1 q0 q1 q2
      go_wp2_with fail
      go_region_held3 (fun w' => w'.cell? ⟨w.heap.size, 0, none⟩ = some (.slice A y.ty.sizes.length cap) ∧ w'.cell? ⟨w.heap.size, 1, none⟩ = some (.slice B y.ty.cos.length bap) ∧ w'.cell? ⟨w.heap.size, 2, none⟩ = some (.slice (some ⟨b, off, none⟩) y.fs.length fap) ∧ w'.cell? ⟨b, off + i * 4 + 1, none⟩ = some (.slice (some ⟨b2, o2, none⟩) y.fs[i].args.length cap1) ∧ w'.cell? ⟨b2, o2 + k, none⟩ = some (.int .i64 y.fs[i].args[k]))
        (first | exact K1.out | exact K2.out)
        (first
          | (go_at_call 44
             refine (l2Shortest_any lo hi _ _ y.ty ks[k] y.fs[i].args[k] wr.drew (HT.out.below HB1.out.drew hB) (by show _ ≤ wr.heap.size; omega) htb.out).mono ?_
             rintro e w8 ⟨v, rfl, hb8, hi8⟩
             obtain ⟨V, vap, rfl, _, _, _⟩ := hi8.form
             have K2 : Hid (w8.cell? ⟨w.heap.size, 0, none⟩ = some (.slice A y.ty.sizes.length cap) ∧ w8.cell? ⟨w.heap.size, 1, none⟩ = some (.slice B y.ty.cos.length bap) ∧ w8.cell? ⟨w.heap.size, 2, none⟩ = some (.slice (some ⟨b, off, none⟩) y.fs.length fap) ∧ w8.cell? ⟨b, off + i * 4 + 1, none⟩ = some (.slice (some ⟨b2, o2, none⟩) y.fs[i].args.length cap1) ∧ w8.cell? ⟨b2, o2 + k, none⟩ = some (.int .i64 y.fs[i].args[k])) :=
             ⟨(hb8.cell (p := ⟨w.heap.size, 0, none⟩) hl).trans K1.out.1, (hb8.cell (p := ⟨w.heap.size, 1, none⟩) hl).trans K1.out.2.1, (hb8.cell (p := ⟨w.heap.size, 2, none⟩) hl).trans K1.out.2.2.1, (hb8.cell (p := ⟨b, off + i * 4 + 1, none⟩) (by show b < wr.heap.size; omega)).trans K1.out.2.2.2.1, (hb8.cell (p := ⟨b2, o2 + k, none⟩) (by show b2 < wr.heap.size; omega)).trans K1.out.2.2.2.2⟩
             have Hb8 := Lib.hid (hb.out.drew.trans (hb8.mono (B' := w.heap.size + 1) (by show _ ≤ wr.heap.size; omega)))
             clear hb8 hi8))
      go_wp2
      go_roundw
      case rel => exact ⟨k + 1, by omega, by go_num, by rw [hsucc.out, Int.natCast_add], Hb8.out⟩
      case measure => simp [intOf]; omega
    · obtain rfl : k = ks.length := by omega
      go_wp2
      go_ret
      exact ⟨ret_int (by rw [hcost.out]; rfl), HB1.out⟩

end Go.Proofs.YtbblhjdcpmahkaaGreatDoor

