/-
  Redundant coercions, as plain data: how many ways make what a coercion makes.
-/
import Derived.Test.YtokklaoldgdkaaaCohd
import Derived.Test.YtokklaoldgdkaaaCnt
namespace Go.Proofs.Ytokklaoldgdkaaa
open Go.RowKit

/-- What IsRedundant answers. -/
def redV (t : Ty) (i : Int) : Bool := hasC t i && redB t i.toNat (t.cos.getD i.toNat default)

theorem more_iff {α : Type} {L : List α} {a : α} (hn : L.Pairwise (· ≠ ·)) (ha : a ∈ L) : 1 < L.length ↔ ∃ z ∈ L, z ≠ a := by
  match L, hn, ha with
  | [x], _, ha =>
    simp only [List.mem_singleton] at ha
    subst ha
    simp
  | x :: y :: r, hn, _ =>
    have hxy := (List.pairwise_cons.1 hn).1 y (by simp)
    constructor
    · intro _
      by_cases h : x = a
      · exact ⟨y, by simp, fun e => hxy (h.trans e.symm)⟩
      · exact ⟨x, by simp, h⟩
    · intro _
      simp

theorem img_map {t : Ty} (hty : tyOk t = true) {n : Nat} (hn : n < t.cos.length) (z : List Int) : imgV t t.cos[n].src z = imgV t t.cos[n].src [(n : Int)] ↔ mapL t.cos z (t.sizes.getD t.cos[n].src.toNat 0).toNat = t.cos[n].map := by
  obtain ⟨h1, h2, h3, h4, h5⟩ := coOk_of (tyOk_co hty hn)
  rw [imgV_eq hty h1 (by omega)]
  have hone : ∀ v : Nat, ∀ (hv : v < t.cos[n].map.length), goV t.cos (v : Int) [(n : Int)] = t.cos[n].map[v] := fun v hv => by
    have e : goV t.cos (v : Int) [(n : Int)] = lookOf t.cos[n].map (v : Int) := by
      show goV t.cos (lookOf (t.cos.getD ((n : Int)).toNat default).map v) [] = _
      rw [show ((n : Int)).toNat = n from Int.toNat_natCast n, getD_at hn]; rfl
    rw [e]
    have := lookOf_in (zs := t.cos[n].map) (v := (v : Int)) (by omega) (by simpa using hv)
    simpa using this
  have hlen : (t.sizes.getD t.cos[n].src.toNat 0).toNat = t.cos[n].map.length := by omega
  rw [hlen]
  constructor
  · intro h
    refine List.ext_getElem (by rw [mapL_len]) fun v hv1 hv2 => ?_
    rw [mapL_len] at hv1
    have := h v (by omega)
    rw [hone v hv1] at this
    rw [← this]
    simp [mapL]
  · intro h v hv
    have hv1 : v < t.cos[n].map.length := by omega
    rw [hone v hv1]
    have hv2 : v < (mapL t.cos z t.cos[n].map.length).length := by rw [mapL_len]; exact hv1
    have : (mapL t.cos z t.cos[n].map.length)[v]'hv2 = t.cos[n].map[v] := by simp only [h]
    rw [← this]
    simp [mapL]

theorem red_count {t : Ty} (hty : tyOk t = true) {n : Nat} (hn : n < t.cos.length) :
    decide (1 < cntI ((waysOf t t.cos[n].src t.cos[n].dst).map (imgV t t.cos[n].src)) (imgV t t.cos[n].src [(n : Int)])) = redB t n t.cos[n] := by
  rw [Bool.eq_iff_iff, decide_eq_true_eq]
  have hnd : (waysOf t t.cos[n].src t.cos[n].dst).Pairwise (· ≠ ·) := waysF_nodup 5 _ _
  have hin := waysOf_one hty hn
  have e : cntI ((waysOf t t.cos[n].src t.cos[n].dst).map (imgV t t.cos[n].src)) (imgV t t.cos[n].src [(n : Int)]) = (((waysOf t t.cos[n].src t.cos[n].dst).filter fun z => decide (imgV t t.cos[n].src z = imgV t t.cos[n].src [(n : Int)])).length : Int) := by
    unfold cntI
    rw [List.filter_map, List.length_map]
    rfl
  rw [e]
  have hm := more_iff (a := [(n : Int)]) (hnd.filter fun z => decide (imgV t t.cos[n].src z = imgV t t.cos[n].src [(n : Int)])) (List.mem_filter.2 ⟨hin, decide_eq_true rfl⟩)
  have e2 : (1 : Int) < (((waysOf t t.cos[n].src t.cos[n].dst).filter fun z => decide (imgV t t.cos[n].src z = imgV t t.cos[n].src [(n : Int)])).length : Int) ↔ 1 < ((waysOf t t.cos[n].src t.cos[n].dst).filter fun z => decide (imgV t t.cos[n].src z = imgV t t.cos[n].src [(n : Int)])).length := by omega
  rw [e2, hm]
  unfold redB
  rw [List.any_eq_true]
  constructor
  · rintro ⟨z, hz, hne⟩
    obtain ⟨h1, h2⟩ := List.mem_filter.1 hz
    refine ⟨z, h1, ?_⟩
    rw [decide_eq_false hne, decide_eq_true ((img_map hty hn z).1 (of_decide_eq_true h2))]; rfl
  · rintro ⟨z, hz, hb⟩
    simp only [Bool.and_eq_true, Bool.not_eq_true', decide_eq_false_iff_not, decide_eq_true_eq] at hb
    exact ⟨z, List.mem_filter.2 ⟨hz, decide_eq_true ((img_map hty hn z).2 hb.2)⟩, hb.1⟩
end Go.Proofs.Ytokklaoldgdkaaa
