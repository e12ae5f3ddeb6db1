/-
  What is told of a term: its size, its depth, its head, its parts; plain data only.
-/
import Derived.Test.YtcecljolnknapaaDoorTme
namespace Go.Proofs.YtcecljolnknapaaDoor
open Go.RowKit

def sizeT : Tm → Nat
  | .lit _ _ => 1
  | .c0 _ => 1
  | .c1 _ a => 1 + sizeT a
  | .c2 _ a b => 1 + sizeT a + sizeT b
def depthT : Tm → Nat
  | .lit _ _ => 0
  | .c0 _ => 1
  | .c1 _ a => depthT a + 1
  | .c2 _ a b => max (depthT a) (depthT b) + 1
def isCallT : Tm → Bool
  | .lit _ _ => false
  | _ => true
def headT : Tm → List UInt8
  | .lit _ _ => []
  | .c0 n => [n]
  | .c1 n _ => [n]
  | .c2 n _ _ => [n]
def litT : Tm → Int × Int × Bool
  | .lit k v => (k, v, true)
  | _ => (0, 0, false)
theorem sizeT_le : ∀ (t : Tm), sizeT t ≤ (tmT t).length
  | .lit k v => by simp [sizeT, tmT]; omega
  | .c0 n => by simp [sizeT, tmT]
  | .c1 n a => by have := sizeT_le a; simp [sizeT, tmT]; omega
  | .c2 n a b => by have := sizeT_le a; have := sizeT_le b; simp [sizeT, tmT]; omega
theorem depthT_le : ∀ (t : Tm), depthT t ≤ (tmT t).length
  | .lit k v => by simp [depthT, tmT]
  | .c0 n => by simp [depthT, tmT]
  | .c1 n a => by have := depthT_le a; simp [depthT, tmT]; omega
  | .c2 n a b => by have := depthT_le a; have := depthT_le b; simp [depthT, tmT]; omega
/-- The parts of a call are shorter than it. -/
theorem partsT_len {t p : Tm} (h : p ∈ partsT t) : (tmT p).length + 3 ≤ (tmT t).length := by
  cases t with
  | lit k v => simp [partsT] at h
  | c0 n => simp [partsT] at h
  | c1 n a => simp [partsT] at h; subst h; simp [tmT]
  | c2 n a b => simp [partsT] at h; rcases h with rfl | rfl <;> · simp [tmT]; try omega
theorem partsT_ok {t p : Tm} (ht : TmOk t) (h : p ∈ partsT t) : TmOk p := by
  cases t with
  | lit k v => simp [partsT] at h
  | c0 n => simp [partsT] at h
  | c1 n a => simp [partsT] at h; subst h; exact ht.2
  | c2 n a b =>
    simp [partsT] at h
    rcases h with rfl | rfl
    · exact ht.2.1
    · exact ht.2.2
theorem partsT_two (t : Tm) : (partsT t).length ≤ 2 := by cases t <;> simp [partsT]
theorem partsT_mk (n : UInt8) {ts : List Tm} (h : ts.length ≤ 2) : partsT (mkCall n ts) = ts := by
  match ts, h with
  | [], _ => rfl
  | [a], _ => rfl
  | [a, b], _ => rfl
theorem size_sum (t : Tm) : sizeT t = 1 + ((partsT t).map sizeT).sum := by
  cases t <;> simp [sizeT, partsT]
  omega
theorem sum_take {l : List Nat} {k : Nat} (hk : k < l.length) : (l.take (k + 1)).sum = (l.take k).sum + l[k] := by
  rw [List.take_succ_eq_append_getElem hk, List.sum_append]
  rfl
theorem maxTo_take (l : List Nat) {k : Nat} (hk : k < l.length) : (l.take (k + 1)).foldl max 0 = max ((l.take k).foldl max 0) l[k] := by
  rw [List.take_succ_eq_append_getElem hk, List.foldl_append]
  rfl
theorem depth_max (t : Tm) (h : isCallT t = true) : depthT t = ((partsT t).map depthT).foldl max 0 + 1 := by
  cases t with
  | lit k v => cases h
  | c0 n => rfl
  | c1 n a => simp [depthT, partsT]
  | c2 n a b => simp [depthT, partsT]
/-- The second sign tells calls from literals. -/
theorem tmT_second {t : Tm} (h : TmOk t) : ∃ a c l, tmT t = a :: (if isCallT t = true then 40 else 58) :: c :: l ∧ (isCallT t = true → headT t = [a] ∧ isN a = true) := by
  cases t with
  | lit k v => exact ⟨_, _, _, rfl, fun h => by cases h⟩
  | c0 n => exact ⟨n, 41, [], rfl, fun _ => ⟨rfl, h⟩⟩
  | c1 n a =>
    obtain ⟨c, l, e, _, _⟩ := tmT_first h.2 [41]
    exact ⟨n, c, l, by show n :: 40 :: (tmT a ++ [41]) = _; rw [e]; rfl, fun _ => ⟨rfl, h.1⟩⟩
  | c2 n a b =>
    obtain ⟨c, l, e, _, _⟩ := tmT_first h.2.1 ([44] ++ tmT b ++ [41])
    exact ⟨n, c, l, by show n :: 40 :: (tmT a ++ [44] ++ tmT b ++ [41]) = _; rw [List.append_assoc, List.append_assoc, ← List.append_assoc [44], e]; rfl, fun _ => ⟨rfl, h.1⟩⟩
theorem headT_call {t : Tm} (h : isCallT t = false) : headT t = [] ∧ partsT t = [] := by
  cases t with
  | lit k v => exact ⟨rfl, rfl⟩
  | c0 n => cases h
  | c1 n a => cases h
  | c2 n a b => cases h
end Go.Proofs.YtcecljolnknapaaDoor
