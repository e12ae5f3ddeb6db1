/-
  The texts of functions, of systems; plain data only.
-/
import Derived.Test.YtfcekbjoagogdaaDoorTxd
import Derived.Test.YtfcekbjoagogdaaDoorFok
import Derived.Lib.Replace
namespace Go.Proofs.YtfcekbjoagogdaaDoor
open Go.RowKit

/-- Numbers with commas between them: of the first k, and of all. -/
def comsTo (zs : List Int) : Nat → List UInt8
  | 0 => []
  | 1 => dg (zs.getD 0 0)
  | k + 2 => comsTo zs (k + 1) ++ [44] ++ dg (zs.getD (k + 1) 0)
def comsT (zs : List Int) : List UInt8 := comsTo zs zs.length
theorem comsTo_succ (zs : List Int) {k : Nat} (h : 0 < k) : comsTo zs (k + 1) = comsTo zs k ++ [44] ++ dg (zs.getD k 0) := by
  match k, h with
  | k + 1, _ => rfl
theorem comsTo_len (zs : List Int) : ∀ k, (comsTo zs k).length ≤ 2 * k
  | 0 => Nat.le_refl _
  | 1 => by simp [comsTo, dg]
  | k + 2 => by
    have := comsTo_len zs (k + 1)
    simp only [comsTo, List.length_append, dg, List.length_cons, List.length_nil]
    omega
theorem comsTo_step (zs : List Int) (k : Nat) : (if 0 < k then comsTo zs k ++ [44] else comsTo zs k) ++ dg (zs.getD k 0) = comsTo zs (k + 1) := by
  rcases Nat.eq_zero_or_pos k with rfl | h
  · rfl
  · rw [if_pos h, comsTo_succ zs h]

theorem repl_one : ∀ n : Fin 10, Lib.replaceAll [UInt8.ofNat (48 + n.val)] [32] [44] = [UInt8.ofNat (48 + n.val)] := by decide +kernel
theorem repl_two : ∀ n m : Fin 10, Lib.replaceAll [UInt8.ofNat (48 + n.val), 32, UInt8.ofNat (48 + m.val)] [32] [44] = [UInt8.ofNat (48 + n.val), 44, UInt8.ofNat (48 + m.val)] := by decide +kernel
/-- Commas in the place of the spaces, of two numbers at most. -/
theorem repl_nums (zs : List Int) (hl : zs.length ≤ 2) (hd : ∀ z ∈ zs, Dig z) : Lib.replaceAll (numsT zs) [32] [44] = comsT zs := by
  match zs, hl, hd with
  | [], _, _ => rfl
  | [a], _, hd =>
    have ha : Dig a := hd a (by simp)
    exact repl_one ⟨a.toNat, by unfold Dig at ha; omega⟩
  | [a, b], _, hd =>
    have ha : Dig a := hd a (by simp)
    have hb : Dig b := hd b (by simp)
    exact repl_two ⟨a.toNat, by unfold Dig at ha; omega⟩ ⟨b.toNat, by unfold Dig at hb; omega⟩

/-- The text of what a function takes and gives; of a function; of a system: with the first k functions, and with all. -/
def sigT (f : Fu) : List UInt8 := f.name.data.toList ++ [40] ++ comsT f.args ++ [41] ++ dg f.res
def fuT (f : Fu) : List UInt8 := sigT f ++ [58] ++ numsT f.table
def syTo (y : Sy) : Nat → List UInt8
  | 0 => tyT y.ty
  | k + 1 => syTo y k ++ [47] ++ fuT (y.fs.getD k default)
def syT (y : Sy) : List UInt8 := syTo y y.fs.length
noncomputable def fmtSy (y : Sy) : List UInt8 := if syB y = true then syT y else []

/-- What a function of a valid system has: a name of one byte, few numbers, all of one digit. -/
structure FuDigs (f : Fu) : Prop where
  name : f.name.size = 1
  args : ∀ z ∈ f.args, Dig z
  few : f.args.length ≤ 2
  res : Dig f.res
  table : ∀ z ∈ f.table, Dig z
  short : f.table.length ≤ 16
theorem sigT_len {f : Fu} (h : FuDigs f) : (sigT f).length ≤ 8 := by
  have h1 := comsTo_len f.args f.args.length
  have h2 := h.few
  have h3 := h.name
  have e : f.name.data.toList.length = f.name.size := rfl
  simp only [sigT, comsT, List.length_append, dg, List.length_cons, List.length_nil, e]
  omega
theorem fuT_len {f : Fu} (h : FuDigs f) : (fuT f).length ≤ 41 := by
  have h1 := sigT_len h
  have h2 := numsT_len f.table
  have h3 := h.short
  simp only [fuT, List.length_append, List.length_cons, List.length_nil]
  omega
theorem fuDigs {ss : List Int} {f : Fu} (hs : sizesOk ss = true) (h : FuOk ss f) : FuDigs f := by
  obtain ⟨_, g2, g3⟩ := sizesOk_of hs
  have one : ∀ k : Nat, k < ss.length → 1 ≤ ss.getD k 0 ∧ ss.getD k 0 ≤ 4 := fun k hk => by
    rw [List.getD_eq_getElem?_getD, List.getElem?_eq_getElem hk]
    exact g3 k hk
  obtain ⟨b, hb, _⟩ := h.name
  refine ⟨by rw [hb]; rfl, fun z hz => ?_, h.few, ?_, fun z hz => ?_, ?_⟩
  · obtain ⟨k, hk, rfl⟩ := List.getElem_of_mem hz
    have := h.args k hk
    unfold Dig
    omega
  · have := h.res
    unfold Dig
    omega
  · obtain ⟨k, hk, rfl⟩ := List.getElem_of_mem hz
    have h1 := h.table k hk
    have h2 := h.res
    have h3 := one f.res.toNat (by omega)
    unfold Dig
    omega
  · have h1 := h.len
    have h2 := (cellsTo_small hs h.args h.few f.args.length (Nat.le_refl _)).2
    unfold cellsI at h1
    omega
theorem syDigs {y : Sy} (h : SyOk y) : ∀ k, ∀ (hk : k < y.fs.length), FuDigs y.fs[k] := fun k hk => by
  have h1 := h.ty
  simp only [tyOk, Bool.and_eq_true] at h1
  exact fuDigs h1.1.1 (h.each k hk)
theorem syTo_len {y : Sy} (h : SyOk y) : ∀ k, k ≤ y.fs.length → (syTo y k).length ≤ 194 + 42 * k
  | 0, _ => by
    have h1 := tyDigs h.ty
    have h2 := tyTo_len h1 y.ty.cos.length (Nat.le_refl _)
    have h3 := h1.cos
    show (tyTo y.ty y.ty.cos.length).length ≤ _
    omega
  | k + 1, hk => by
    have h1 := syTo_len h k (by omega)
    have e : y.fs.getD k default = y.fs[k] := by rw [List.getD_eq_getElem?_getD, List.getElem?_eq_getElem (by omega)]; rfl
    have h2 := fuT_len (syDigs h k (by omega))
    show (syTo y k ++ [47] ++ fuT (y.fs.getD k default)).length ≤ _
    rw [e]
    simp only [List.length_append, List.length_cons, List.length_nil]
    omega
end Go.Proofs.YtfcekbjoagogdaaDoor
