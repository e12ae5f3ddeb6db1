/-
  A literal put into a term gives a term of the same size and names: plain data only.
-/
import Derived.Test.YtcecljolnknapaaDoorPud
import Derived.Test.YtcecljolnknapaaDoorNmd
namespace Go.Proofs.YtcecljolnknapaaDoor
open Go.RowKit

def putL (L : List UInt8) (k v : Int) (p : Nat) : List UInt8 := L.take (p - 1) ++ (dg k ++ [58] ++ dg v) ++ L.drop (p + 2)
def cols (L : List UInt8) : List Bool := L.map fun c => decide (c = 58)
theorem putL_mid (A X B : List UInt8) (k v : Int) (p : Nat) (h1 : 1 ≤ p) (h2 : p + 2 ≤ X.length) : putL (A ++ (X ++ B)) k v (A.length + p) = A ++ (putL X k v p ++ B) := by
  unfold putL
  have e1 : (A ++ (X ++ B)).take (A.length + p - 1) = A ++ X.take (p - 1) := by
    rw [show A.length + p - 1 = A.length + (p - 1) by omega, List.take_append, List.take_of_length_le (by omega), show A.length + (p - 1) - A.length = p - 1 by omega, List.take_append_of_le_length (by omega)]
  have e2 : (A ++ (X ++ B)).drop (A.length + p + 2) = X.drop (p + 2) ++ B := by
    rw [List.drop_append, List.drop_eq_nil_of_le (by omega), List.nil_append, show A.length + p + 2 - A.length = p + 2 by omega, List.drop_append_of_le_length (by omega)]
  rw [e1, e2]
  simp only [List.append_assoc]
theorem getElem_mid {A X B : List UInt8} {p : Nat} (h : (A ++ (X ++ B))[A.length + p]? = some 58) (hB : ∀ c ∈ B, c ≠ 58) : X[p]? = some 58 := by
  rw [List.getElem?_append_right (by omega), show A.length + p - A.length = p by omega] at h
  by_cases hl : p < X.length
  · rw [List.getElem?_append_left hl] at h
    exact h
  · rw [List.getElem?_append_right (by omega)] at h
    exact absurd rfl (hB 58 (List.mem_of_getElem? h))
theorem dg_ne {z : Int} (h : Dig z) : UInt8.ofNat (48 + z.toNat) ≠ 58 := by
  intro e
  have h1 := isD_of (isD_dg h).1
  rw [e] at h1
  revert h1
  decide
structure PutOk (t : Tm) (k v : Int) (p : Nat) (t' : Tm) : Prop where
  ok : TmOk t'
  text : tmT t' = putL (tmT t) k v p
  len : (tmT t').length = (tmT t).length
  size : sizeT t' = sizeT t
  nms : nmsT t' = nmsT t
  cols : cols (tmT t') = cols (tmT t)
theorem put_term {k v : Int} (hk : Dig k) (hv : Dig v) : ∀ (t : Tm), TmOk t → ∀ p : Nat, (tmT t)[p]? = some 58 → ∃ t', PutOk t k v p t'
  | .lit x y, h, p, hp => by
    have hin := colon_in _ h p hp
    have hl : (tmT (.lit x y)).length = 3 := rfl
    rw [hl] at hin
    obtain rfl : p = 1 := by omega
    have c1 : ∀ {z : Int}, Dig z → decide (UInt8.ofNat (48 + z.toNat) = 58) = false := fun h => decide_eq_false (dg_ne h)
    refine ⟨.lit k v, ⟨hk, hv⟩, ?_, rfl, rfl, rfl, ?_⟩
    · simp [tmT, putL, dg]
    · show [decide (UInt8.ofNat (48 + k.toNat) = 58), decide ((58 : UInt8) = 58), decide (UInt8.ofNat (48 + v.toNat) = 58)] = [decide (UInt8.ofNat (48 + x.toNat) = 58), decide ((58 : UInt8) = 58), decide (UInt8.ofNat (48 + y.toNat) = 58)]
      rw [c1 hk, c1 hv, c1 h.1, c1 h.2]
  | .c0 n, h, p, hp => by
    have hin := colon_in _ h p hp
    have hl : (tmT (.c0 n)).length = 3 := rfl
    rw [hl] at hin
    obtain rfl : p = 1 := by omega
    simp [tmT] at hp
  | .c1 n a, h, p, hp => by
    have hin := colon_in _ h p hp
    have hn : n ≠ 58 := by rintro rfl; exact absurd h.1 (by decide)
    have e : tmT (.c1 n a) = [n, 40] ++ (tmT a ++ [41]) := by simp [tmT]
    rw [e] at hp
    obtain ⟨q, rfl⟩ : ∃ q, p = q + 2 := by
      match p, hp, hin with
      | 1, hp, _ => simp at hp
      | q + 2, _, _ => exact ⟨q, rfl⟩
    have hq : (tmT a)[q]? = some 58 := getElem_mid (A := [n, 40]) (by rw [show ([n, 40] : List UInt8).length + q = q + 2 by simp; omega]; exact hp) (by simp)
    have hin2 := colon_in a h.2 q hq
    obtain ⟨a', h1, h2, h3, h4, h5, h6⟩ := put_term hk hv a h.2 q hq
    have e' : tmT (.c1 n a') = [n, 40] ++ (tmT a' ++ [41]) := by simp [tmT]
    refine ⟨.c1 n a', ⟨h.1, h1⟩, ?_, ?_, ?_, ?_, ?_⟩
    · rw [e, e', h2, show q + 2 = ([n, 40] : List UInt8).length + q by simp; omega, putL_mid _ _ _ _ _ _ hin2.1 hin2.2]
    · rw [e, e']; simp [h3]
    · simp [sizeT, h4]
    · simp [nmsT, h5]
    · rw [e, e']; unfold cols at h6 ⊢; simp only [List.map_append, h6]
  | .c2 n a b, h, p, hp => by
    have hin := colon_in _ h p hp
    have hn : n ≠ 58 := by rintro rfl; exact absurd h.1 (by decide)
    have e : tmT (.c2 n a b) = [n, 40] ++ (tmT a ++ (44 :: (tmT b ++ [41]))) := by simp [tmT]
    have e2 : tmT (.c2 n a b) = ([n, 40] ++ tmT a ++ [44]) ++ (tmT b ++ [41]) := by simp [tmT]
    obtain ⟨q, rfl⟩ : ∃ q, p = q + 2 := by
      rw [e] at hp
      match p, hp, hin with
      | 1, hp, _ => simp at hp
      | q + 2, _, _ => exact ⟨q, rfl⟩
    by_cases hqa : q < (tmT a).length
    · have hq : (tmT a)[q]? = some 58 := by
        rw [e, List.getElem?_append_right (by simp), show q + 2 - ([n, 40] : List UInt8).length = q by simp, List.getElem?_append_left hqa] at hp
        exact hp
      have hin2 := colon_in a h.2.1 q hq
      obtain ⟨a', h1, h2, h3, h4, h5, h6⟩ := put_term hk hv a h.2.1 q hq
      have e' : tmT (.c2 n a' b) = [n, 40] ++ (tmT a' ++ (44 :: (tmT b ++ [41]))) := by simp [tmT]
      refine ⟨.c2 n a' b, ⟨h.1, h1, h.2.2⟩, ?_, ?_, ?_, ?_, ?_⟩
      · rw [e, e', h2, show q + 2 = ([n, 40] : List UInt8).length + q by simp; omega, putL_mid _ _ _ _ _ _ hin2.1 hin2.2]
      · rw [e, e']; simp [h3]
      · simp [sizeT, h4]
      · simp [nmsT, h5]
      · rw [e, e']; unfold cols at h6 ⊢; simp only [List.map_append, h6]
    · have hlA : ([n, 40] ++ tmT a ++ [44]).length = (tmT a).length + 3 := by simp
      obtain ⟨r, rfl⟩ : ∃ r, q = (tmT a).length + 1 + r := by
        by_cases he : q = (tmT a).length
        · exfalso
          rw [e, List.getElem?_append_right (by simp), show q + 2 - ([n, 40] : List UInt8).length = q by simp, List.getElem?_append_right (by omega), show q - (tmT a).length = 0 by omega] at hp
          simp at hp
        · exact ⟨q - (tmT a).length - 1, by omega⟩
      have hpl : (tmT a).length + 1 + r + 2 = ([n, 40] ++ tmT a ++ [44]).length + r := by rw [hlA]; omega
      have hq : (tmT b)[r]? = some 58 := getElem_mid (A := [n, 40] ++ tmT a ++ [44]) (B := [41]) (by rw [← hpl, ← e2]; exact hp) (by simp)
      have hin2 := colon_in b h.2.2 r hq
      obtain ⟨b', h1, h2, h3, h4, h5, h6⟩ := put_term hk hv b h.2.2 r hq
      have e' : tmT (.c2 n a b') = ([n, 40] ++ tmT a ++ [44]) ++ (tmT b' ++ [41]) := by simp [tmT]
      refine ⟨.c2 n a b', ⟨h.1, h.2.1, h1⟩, ?_, ?_, ?_, ?_, ?_⟩
      · rw [e2, e', h2, hpl, putL_mid _ _ _ _ _ _ hin2.1 hin2.2]
      · rw [e2, e']; simp [h3]
      · simp [sizeT, h4]
      · simp [nmsT, h5]
      · rw [e2, e']; unfold cols at h6 ⊢; simp only [List.map_append, h6]
theorem findC_cols (i : Int) : ∀ (l l' : List UInt8) (k : Nat) (n : Int), cols l' = cols l → findC i l' k n = findC i l k n
  | [], [], _, _, _ => rfl
  | [], c :: r, _, _, h => by cases h
  | c :: r, [], _, _, h => by cases h
  | c :: r, c' :: r', k, n, h => by
    simp only [cols, List.map_cons, List.cons.injEq, decide_eq_decide] at h
    have ih := fun k n => findC_cols i r r' k n h.2
    rw [findC, findC]
    by_cases e : c = 58
    · rw [if_pos e, if_pos (h.1.2 e), ih]
    · rw [if_neg e, if_neg fun e' => e (h.1.1 e'), ih]
theorem putL_twice {L : List UInt8} {k v : Int} {p : Nat} (h1 : 1 ≤ p) (h2 : p + 2 ≤ L.length) : putL (putL L k v p) k v p = putL L k v p := by
  have l1 : (L.take (p - 1)).length = p - 1 := by rw [List.length_take]; omega
  have e1 : (putL L k v p).take (p - 1) = L.take (p - 1) := by
    unfold putL
    rw [List.append_assoc, List.take_append_of_le_length (by omega), List.take_of_length_le (by omega)]
  have e2 : (putL L k v p).drop (p + 2) = L.drop (p + 2) := by
    unfold putL
    have l2 : (L.take (p - 1) ++ (dg k ++ [58] ++ dg v)).length = p + 2 := by rw [List.length_append, l1]; simp [dg]; omega
    rw [List.drop_append, List.drop_eq_nil_of_le (by omega), l2, Nat.sub_self]
    simp
  show List.take (p - 1) (putL L k v p) ++ (dg k ++ [58] ++ dg v) ++ List.drop (p + 2) (putL L k v p) = putL L k v p
  rw [e1, e2]
  rfl
theorem put_facts {L M : List UInt8} {i k v : Int} (h : putV L i k v = some M) : ∃ t t', parseT L = some t ∧ parseT M = some t' ∧ M.length = L.length ∧ sizeT t' = sizeT t ∧ nmV M = nmV L ∧ putV M i k v = some M := by
  unfold putV at h
  split at h
  · rename_i hc
    simp only [Bool.and_eq_true] at hc
    obtain ⟨⟨hs, hk⟩, hv⟩ := hc
    obtain ⟨t, ht⟩ := Option.isSome_iff_exists.1 hs
    obtain ⟨ho, e, hl⟩ := parseT_tmT.1 ht
    cases hf : findC i L 0 0 with
    | none => rw [hf] at h; cases h
    | some p =>
      rw [hf] at h
      have hM : M = putL L k v p := (Option.some.inj h).symm
      have hin := findC_in hs hf
      have hp := (findC_at i L 0 0 p hf).2
      rw [Nat.sub_zero, e] at hp
      obtain ⟨t', h1, h2, h3, h4, h5, h6⟩ := put_term (inDig_of hk) (inDig_of hv) t ho p hp
      rw [← e, ← hM] at h2
      rw [h2, ← e] at h3 h6
      have ht' : parseT M = some t' := parseT_tmT.2 ⟨h1, h2.symm, by omega⟩
      refine ⟨t, t', ht, ht', h3, h4, ?_, ?_⟩
      · unfold nmV
        rw [ht, ht', if_pos (show (some t').isSome = true from rfl), if_pos (show (some t).isSome = true from rfl)]
        apply List.filter_congr
        intro c hc
        have hN := (letters_mem c).1 hc
        have m1 := nmsT_mem t ho c
        have m2 := nmsT_mem t' h1 c
        rw [h5, h2] at m2
        rw [← e] at m1
        rw [decide_eq_decide]
        constructor
        · intro h; exact (m1.1 (m2.2 ⟨hN, h⟩)).2
        · intro h; exact (m2.1 (m1.2 ⟨hN, h⟩)).2
      · unfold putV
        rw [ht', hk, hv, findC_cols i L M 0 0 h6, hf]
        show some (putL M k v p) = some M
        rw [hM, putL_twice hin.1 hin.2]
  · cases h
end Go.Proofs.YtcecljolnknapaaDoor
