/-
  The texts of numbers, of coercions, of types; plain data only.
-/
import Derived.Test.YtajannebpejpkaaDoorValid
import Derived.Lib.Join
import Derived.Lib.ItoaNum
namespace Go.Proofs.YtajannebpejpkaaDoor
open Go.RowKit

/-- Bytes as a Go string. -/
def str (l : List UInt8) : ByteArray := ⟨l.toArray⟩
theorem str_append (a b : List UInt8) : str a ++ str b = str (a ++ b) := by
  unfold str
  apply ByteArray.ext
  simp [ByteArray.data_append]
theorem str_size (l : List UInt8) : (str l).size = l.length := by simp [str, ByteArray.size]
theorem str_list (s : ByteArray) : str s.data.toList = s := by cases s; simp [str]
theorem str_inj {a b : List UInt8} (h : str a = str b) : a = b := by
  unfold str at h
  injection h with h
  simpa using h

/-- A number of one digit. -/
def dg (z : Int) : List UInt8 := [UInt8.ofNat (48 + z.toNat)]
def Dig (z : Int) : Prop := 0 ≤ z ∧ z ≤ 9
theorem dg_dec {n : Nat} (h : n ≤ 9) : Lib.decDigits n = dg (n : Int) := by
  rw [Lib.decDigits, dif_pos (by omega)]
  rfl
/-- Numbers with single spaces between them: of the first k, and of all. -/
def numsTo (zs : List Int) : Nat → List UInt8
  | 0 => []
  | 1 => dg (zs.getD 0 0)
  | k + 2 => numsTo zs (k + 1) ++ [32] ++ dg (zs.getD (k + 1) 0)
def numsT (zs : List Int) : List UInt8 := numsTo zs zs.length
theorem numsTo_one (zs : List Int) : numsTo zs 1 = dg (zs.getD 0 0) := rfl
theorem numsTo_succ (zs : List Int) {k : Nat} (h : 0 < k) : numsTo zs (k + 1) = numsTo zs k ++ [32] ++ dg (zs.getD k 0) := by
  match k, h with
  | k + 1, _ => rfl
theorem numsTo_len (zs : List Int) : ∀ k, (numsTo zs k).length ≤ 2 * k
  | 0 => Nat.le_refl _
  | 1 => by simp [numsTo, dg]
  | k + 2 => by
    have := numsTo_len zs (k + 1)
    simp only [numsTo, List.length_append, dg, List.length_cons, List.length_nil]
    omega
theorem numsT_len (zs : List Int) : (numsT zs).length ≤ 2 * zs.length := numsTo_len zs zs.length
theorem join_numsTo (zs : List Int) : ∀ k, k ≤ zs.length → Lib.join ((zs.take k).map dg) [32] = numsTo zs k
  | 0, _ => rfl
  | 1, h => by
    have e : zs.take 1 = [zs[0]] := by
      rw [List.take_succ_eq_append_getElem (by omega)]
      simp
    rw [e, numsTo_one, List.getD_eq_getElem?_getD, List.getElem?_eq_getElem (by omega)]
    exact Lib.join_one _ _
  | k + 2, h => by
    have ih := join_numsTo zs (k + 1) (by omega)
    have hk : k + 1 < zs.length := by omega
    rw [numsTo, ← ih]
    match zs, hk with
    | z :: l, hk =>
      have hk' : k < l.length := by simpa using hk
      simp only [List.take_succ_cons, List.map_cons, Lib.join_cons]
      have e := Lib.joinTail_take_succ [32] (l.map dg) k (dg l[k]) (by simp [hk'])
      rw [← List.map_take, ← List.map_take] at e
      rw [e]
      have e2 : (z :: l).getD (k + 1) 0 = l[k] := by
        rw [List.getD_eq_getElem?_getD, List.getElem?_cons_succ, List.getElem?_eq_getElem hk']
        rfl
      rw [e2]
      simp [List.append_assoc]
theorem join_numsT (zs : List Int) : Lib.join (zs.map dg) [32] = numsT zs := by
  have := join_numsTo zs zs.length (Nat.le_refl _)
  rwa [List.take_length] at this

/-- The text of a coercion. -/
def coT (c : Co) : List UInt8 := dg c.src ++ [62] ++ dg c.dst ++ [58] ++ numsT c.map
/-- The text of types: with the first k coercions, and with all. -/
def tyTo (t : Ty) : Nat → List UInt8
  | 0 => numsT t.sizes
  | k + 1 => tyTo t k ++ [59] ++ coT (t.cos.getD k default)
def tyT (t : Ty) : List UInt8 := tyTo t t.cos.length
def fmtTy (t : Ty) : List UInt8 := if tyOk t = true then tyT t else []
theorem coT_len (c : Co) : (coT c).length ≤ 4 + 2 * c.map.length := by
  have := numsT_len c.map
  simp only [coT, List.length_append, dg, List.length_cons, List.length_nil]
  omega
/-- What valid types have: few numbers, all of one digit. -/
structure TyDigs (t : Ty) : Prop where
  sizes : ∀ z ∈ t.sizes, Dig z
  few : t.sizes.length ≤ 5
  cos : t.cos.length ≤ 8
  each : ∀ j, ∀ (hj : j < t.cos.length), Dig t.cos[j].src ∧ Dig t.cos[j].dst ∧ (∀ z ∈ t.cos[j].map, Dig z) ∧ t.cos[j].map.length ≤ 9
theorem tyTo_len {t : Ty} (h : TyDigs t) : ∀ k, k ≤ t.cos.length → (tyTo t k).length ≤ 10 + 23 * k
  | 0, _ => by
    have := numsT_len t.sizes
    have := h.few
    show (numsT t.sizes).length ≤ _
    omega
  | k + 1, hk => by
    have h1 := tyTo_len h k (by omega)
    have h2 := coT_len (t.cos.getD k default)
    have h3 := (h.each k (by omega)).2.2.2
    have e : t.cos.getD k default = t.cos[k] := by rw [List.getD_eq_getElem?_getD, List.getElem?_eq_getElem (by omega)]; rfl
    rw [e] at h2
    show (tyTo t k ++ [59] ++ coT (t.cos.getD k default)).length ≤ _
    rw [e]
    simp only [List.length_append, List.length_cons, List.length_nil]
    omega
theorem tyDigs {t : Ty} (h : tyOk t = true) : TyDigs t := by
  simp only [tyOk, Bool.and_eq_true, decide_eq_true_eq] at h
  obtain ⟨⟨h1, h2⟩, h3⟩ := h
  obtain ⟨_, g2, g3⟩ := sizesOk_of h1
  have one : ∀ k : Nat, k < t.sizes.length → 1 ≤ t.sizes.getD k 0 ∧ t.sizes.getD k 0 ≤ 4 := fun k hk => by
    rw [List.getD_eq_getElem?_getD, List.getElem?_eq_getElem hk]
    exact g3 k hk
  refine ⟨fun z hz => ?_, g2, h2, fun j hj => ?_⟩
  · obtain ⟨k, hk, rfl⟩ := List.getElem_of_mem hz
    have := g3 k hk
    unfold Dig
    omega
  · obtain ⟨c1, c2, c3, c4, c5⟩ := coOk_of (List.all_eq_true.1 h3 _ (List.getElem_mem hj))
    have e1 := one t.cos[j].src.toNat (by omega)
    have e2 := one t.cos[j].dst.toNat (by omega)
    refine ⟨by unfold Dig; omega, by unfold Dig; omega, fun z hz => ?_, by omega⟩
    obtain ⟨k, hk, rfl⟩ := List.getElem_of_mem hz
    have := c5 k hk
    unfold Dig
    omega
end Go.Proofs.YtajannebpejpkaaDoor
