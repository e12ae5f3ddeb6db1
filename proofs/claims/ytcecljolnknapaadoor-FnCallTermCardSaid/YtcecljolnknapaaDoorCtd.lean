/-
  Calls put together from texts: as data; plain data only.
-/
import Derived.Test.YtcecljolnknapaaDoorTmg
import Derived.Lib.Join
namespace Go.Proofs.YtcecljolnknapaaDoor
open Go.RowKit

/-- What stands ahead of the bracket that is open when a reversed text has been read. -/
def mat : List UInt8 → Nat → Option (List UInt8)
  | [], _ => none
  | c :: r, e => if c = 41 then mat r (e + 1) else if c = 40 then (if e ≤ 1 then some r else mat r (e - 1)) else mat r e
theorem mat_skip {c : UInt8} {r : List UInt8} {e : Nat} (h1 : c ≠ 41) (h2 : c ≠ 40) : mat (c :: r) e = mat r e := by rw [mat, if_neg h1, if_neg h2]
theorem mat_close (r : List UInt8) (e : Nat) : mat (41 :: r) e = mat r (e + 1) := by rw [mat, if_pos rfl]
theorem mat_open {r : List UInt8} {e : Nat} (h : 2 ≤ e) : mat (40 :: r) e = mat r (e - 1) := by rw [mat, if_neg (by decide), if_pos rfl, if_neg (by omega)]
theorem digit_ne {z : Int} (h : Dig z) : UInt8.ofNat (48 + z.toNat) ≠ 41 ∧ UInt8.ofNat (48 + z.toNat) ≠ 40 := by
  have hd := isD_of (isD_dg h).1
  constructor
  · intro e; rw [e] at hd; revert hd; decide
  · intro e; rw [e] at hd; revert hd; decide
theorem name_ne {n : UInt8} (h : isN n = true) : n ≠ 41 ∧ n ≠ 40 := by
  constructor
  · rintro rfl; exact absurd h (by decide)
  · rintro rfl; exact absurd h (by decide)
/-- A term's text has its brackets within itself. -/
theorem mat_term : ∀ (t : Tm), TmOk t → ∀ (r : List UInt8) (e : Nat), 1 ≤ e → mat ((tmT t).reverse ++ r) e = mat r e
  | .lit k v, h, r, e, he => by
    have e1 : (tmT (.lit k v)).reverse ++ r = UInt8.ofNat (48 + v.toNat) :: 58 :: UInt8.ofNat (48 + k.toNat) :: r := by simp [tmT, dg]
    rw [e1, mat_skip (digit_ne h.2).1 (digit_ne h.2).2, mat_skip (by decide) (by decide), mat_skip (digit_ne h.1).1 (digit_ne h.1).2]
  | .c0 n, h, r, e, he => by
    have e1 : (tmT (.c0 n)).reverse ++ r = 41 :: 40 :: n :: r := by simp [tmT]
    have hn := name_ne (show isN n = true from h)
    rw [e1, mat_close, mat_open (by omega), Nat.add_sub_cancel, mat_skip hn.1 hn.2]
  | .c1 n a, h, r, e, he => by
    have e1 : (tmT (.c1 n a)).reverse ++ r = 41 :: ((tmT a).reverse ++ (40 :: n :: r)) := by simp [tmT]
    have hn := name_ne h.1
    rw [e1, mat_close, mat_term a h.2 _ _ (by omega), mat_open (by omega), Nat.add_sub_cancel, mat_skip hn.1 hn.2]
  | .c2 n a b, h, r, e, he => by
    have e1 : (tmT (.c2 n a b)).reverse ++ r = 41 :: ((tmT b).reverse ++ (44 :: ((tmT a).reverse ++ (40 :: n :: r)))) := by simp [tmT]
    have hn := name_ne h.1
    rw [e1, mat_close, mat_term b h.2.2 _ _ (by omega), mat_skip (by decide) (by decide), mat_term a h.2.1 _ _ (by omega), mat_open (by omega), Nat.add_sub_cancel, mat_skip hn.1 hn.2]
/-- Terms with commas between. -/
theorem mat_join : ∀ (ts : List Tm), (∀ t ∈ ts, TmOk t) → ∀ (r : List UInt8) (e : Nat), 1 ≤ e → mat ((Lib.join (ts.map tmT) [44]).reverse ++ r) e = mat r e
  | [], _, r, e, _ => by simp [Lib.join]
  | [t], h, r, e, he => by
    rw [List.map_cons, List.map_nil, Lib.join_one]
    exact mat_term t (h t (by simp)) r e he
  | t :: u :: ts, h, r, e, he => by
    have e1 : Lib.join ((t :: u :: ts).map tmT) [44] = tmT t ++ ([44] ++ Lib.join ((u :: ts).map tmT) [44]) := by
      simp only [List.map_cons, Lib.join_cons]
      rfl
    rw [e1]
    simp only [List.reverse_append, List.append_assoc, List.reverse_cons, List.nil_append, List.cons_append]
    rw [mat_join (u :: ts) (fun x hx => h x (List.mem_cons_of_mem _ hx)) _ _ he, mat_skip (by decide) (by decide), mat_term t (h t (by simp)) _ _ he]

/-- The text of a call with arguments. -/
def callL (nm : List UInt8) (ps : List (List UInt8)) : List UInt8 := nm ++ [40] ++ Lib.join ps [44] ++ [41]
theorem mat_call (nm : List UInt8) (ts : List Tm) (h : ∀ t ∈ ts, TmOk t) : mat (callL nm (ts.map tmT)).reverse 0 = some nm.reverse := by
  have e1 : (callL nm (ts.map tmT)).reverse = 41 :: ((Lib.join (ts.map tmT) [44]).reverse ++ (40 :: nm.reverse)) := by simp [callL]
  rw [e1, mat_close, mat_join ts h _ _ (Nat.le_refl _), mat, if_neg (by decide), if_pos rfl, if_pos (by decide)]
/-- A term that ends with a bracket has one sign ahead of the one that opens it. -/
theorem mat_one {t : Tm} (h : TmOk t) {nm : List UInt8} (hm : mat (tmT t).reverse 0 = some nm.reverse) : ∃ n, nm = [n] ∧ isN n = true := by
  have fin : ∀ {n : UInt8} {x : List UInt8}, isN n = true → some [n] = some nm.reverse → ∃ n, nm = [n] ∧ isN n = true := by
    intro n _ hn e
    injection e with e
    refine ⟨n, ?_, hn⟩
    rw [← List.reverse_reverse nm, ← e]
    rfl
  cases t with
  | lit k v =>
    exfalso
    have e1 : (tmT (.lit k v)).reverse = [UInt8.ofNat (48 + v.toNat), 58, UInt8.ofNat (48 + k.toNat)] := by simp [tmT, dg]
    rw [e1, mat_skip (digit_ne h.2).1 (digit_ne h.2).2, mat_skip (by decide) (by decide), mat_skip (digit_ne h.1).1 (digit_ne h.1).2] at hm
    cases hm
  | c0 n =>
    have e1 : (tmT (.c0 n)).reverse = 41 :: 40 :: [n] := by simp [tmT]
    rw [e1, mat_close, mat, if_neg (by decide), if_pos rfl, if_pos (by decide)] at hm
    exact fin (x := []) h hm
  | c1 n a =>
    have e1 : (tmT (.c1 n a)).reverse = 41 :: ((tmT a).reverse ++ (40 :: [n])) := by simp [tmT]
    rw [e1, mat_close, mat_term a h.2 _ _ (by omega), mat, if_neg (by decide), if_pos rfl, if_pos (by decide)] at hm
    exact fin (x := []) h.1 hm
  | c2 n a b =>
    have e1 : (tmT (.c2 n a b)).reverse = 41 :: ((tmT b).reverse ++ (44 :: ((tmT a).reverse ++ (40 :: [n])))) := by simp [tmT]
    rw [e1, mat_close, mat_term b h.2.2 _ _ (by omega), mat_skip (by decide) (by decide), mat_term a h.2.1 _ _ (by omega), mat, if_neg (by decide), if_pos rfl, if_pos (by decide)] at hm
    exact fin (x := []) h.1 hm

def allV (ps : List (List UInt8)) : Bool := ps.all fun p => (parseT p).isSome
theorem allV_terms : ∀ {ps : List (List UInt8)}, allV ps = true → ∃ ts : List Tm, ps = ts.map tmT ∧ ∀ t ∈ ts, TmOk t
  | [], _ => ⟨[], rfl, fun t h => by cases h⟩
  | p :: ps, h => by
    simp only [allV, List.all_cons, Bool.and_eq_true] at h
    obtain ⟨t, ht⟩ := Option.isSome_iff_exists.1 h.1
    obtain ⟨ho, e, _⟩ := parseT_tmT.1 ht
    obtain ⟨ts, e2, h2⟩ := allV_terms (ps := ps) h.2
    exact ⟨t :: ts, by rw [e, e2]; rfl, fun x hx => by
      rcases List.mem_cons.1 hx with rfl | hx
      · exact ho
      · exact h2 x hx⟩
/-- No call has more than two arguments. -/
theorem call_two {nm : List UInt8} {ps : List (List UInt8)} (hv : allV ps = true) (h2 : 2 < ps.length) : parseT (callL nm ps) = none := by
  obtain ⟨ts, rfl, hts⟩ := allV_terms hv
  cases hp : parseT (callL nm (ts.map tmT)) with
  | none => rfl
  | some t =>
    exfalso
    obtain ⟨ho, e, hl⟩ := parseT_tmT.1 hp
    have hm := mat_call nm ts hts
    rw [e] at hm
    obtain ⟨n, rfl, hn⟩ := mat_one ho hm
    match ts, h2, hts with
    | a :: b :: c :: r, _, hts =>
      have e1 : callL [n] ((a :: b :: c :: r).map tmT) = n :: 40 :: (tmT a ++ (44 :: (tmT b ++ (44 :: (Lib.join ((c :: r).map tmT) [44] ++ [41]))))) := by
        simp only [callL, List.map_cons, Lib.join_cons, Lib.joinTail]
        simp [List.append_assoc]
      obtain ⟨f, hf⟩ : ∃ f, (callL [n] ((a :: b :: c :: r).map tmT)).length = f + 1 := ⟨_, by rw [e1]; rfl⟩
      have hq := hp
      unfold parseT at hq
      rw [if_pos hl, hf, e1, rdTm_name f _ hn] at hq
      have hla : (tmT a).length ≤ f ∧ (tmT b).length ≤ f := by
        have := congrArg List.length e1
        simp only [List.length_cons, List.length_append] at this
        omega
      unfold rdCall at hq
      rw [rdTake_cons] at hq
      simp only [Option.bind_some] at hq
      rw [rdArgs, if_neg (by rw [hasB_41 (hts a (by simp))]; simp), rdTm_tmT f _ (hts a (by simp)) hla.1] at hq
      simp only [Option.bind_some] at hq
      rw [if_pos (by simp [hasB]), rdTake_cons] at hq
      simp only [Option.bind_some] at hq
      rw [rdTm_tmT f _ (hts b (by simp)) hla.2] at hq
      simp [rdTake] at hq
def callV (nm : List UInt8) (ps : List (List UInt8)) : Option (List UInt8) := if (allV ps && (parseT (callL nm ps)).isSome) = true then some (callL nm ps) else none
def callM (nm : List UInt8) (ps : List (List UInt8)) : Option (List UInt8) := if (allV ps && decide (ps.length ≤ 2) && (parseT (callL nm ps)).isSome) = true then some (callL nm ps) else none
theorem call_same (nm : List UInt8) (ps : List (List UInt8)) : callM nm ps = callV nm ps := by
  unfold callM callV
  cases ha : allV ps with
  | false => rfl
  | true =>
    by_cases h2 : ps.length ≤ 2
    · rw [show decide (ps.length ≤ 2) = true by simpa using h2]
      rfl
    · rw [call_two ha (by omega), show decide (ps.length ≤ 2) = false by simpa using h2]
      rfl
/-- The text as the model makes it: the first k parts. -/
def joinTo (nm : List UInt8) (ps : List (List UInt8)) : Nat → List UInt8
  | 0 => nm ++ [40]
  | k + 1 => joinTo nm ps k ++ (if 0 < k then [44] else []) ++ ps.getD k []
theorem joinTo_eq (nm : List UInt8) (ps : List (List UInt8)) : ∀ k, k ≤ ps.length → joinTo nm ps k = nm ++ [40] ++ Lib.join (ps.take k) [44]
  | 0, _ => by simp [joinTo, Lib.join]
  | 1, h => by
    have e : ps.take 1 = [ps[0]] := by
      rw [List.take_succ_eq_append_getElem (by omega)]
      simp
    rw [e, Lib.join_one]
    simp [joinTo, List.getD_eq_getElem?_getD, List.getElem?_eq_getElem (show 0 < ps.length by omega)]
  | k + 2, h => by
    have ih := joinTo_eq nm ps (k + 1) (by omega)
    rw [joinTo, ih, if_pos (by omega)]
    match ps, h with
    | z :: l, h =>
      have hk' : k < l.length := by simp at h; omega
      simp only [List.take_succ_cons, Lib.join_cons]
      have e := Lib.joinTail_take_succ [44] l k l[k] (by simp [hk'])
      rw [e]
      have e2 : (z :: l).getD (k + 1) [] = l[k] := by
        rw [List.getD_eq_getElem?_getD, List.getElem?_cons_succ, List.getElem?_eq_getElem hk']
        rfl
      rw [e2]
      simp [List.append_assoc]
theorem joinTo_all (nm : List UInt8) (ps : List (List UInt8)) : joinTo nm ps ps.length ++ [41] = callL nm ps := by
  rw [joinTo_eq nm ps _ (Nat.le_refl _), List.take_length]
  rfl
theorem joinTo_len (nm : List UInt8) (ps : List (List UInt8)) : ∀ k, k ≤ ps.length → (joinTo nm ps k).length ≤ nm.length + 1 + k + ((ps.map List.length).take k).sum
  | 0, _ => by simp [joinTo]
  | k + 1, h => by
    have ih := joinTo_len nm ps k (by omega)
    have e : ps.getD k [] = ps[k] := by rw [List.getD_eq_getElem?_getD, List.getElem?_eq_getElem (by omega)]; rfl
    have e2 : ((ps.map List.length).take (k + 1)).sum = ((ps.map List.length).take k).sum + ps[k].length := by
      rw [List.take_succ_eq_append_getElem (by simpa using (show k < ps.length by omega)), List.sum_append]
      simp
    rw [joinTo, e, e2, List.length_append, List.length_append]
    split
    · simp; omega
    · simp; omega
end Go.Proofs.YtcecljolnknapaaDoor
