/-
  The contracts of the model's l7Asked, and of Elaborate where l7Make's is given.
  Calls put together from texts: as data; plain data only.
  Rows of strings in memory; the contracts of the law's szStringS, toStringS, eqStringS.
  The contracts of the model's l6Join, CallTerm.
  The contracts of strconv.Itoa and strings.Join at this program's numbers; of isDigit; of a literal's text.
  The error of reading texts stays where it is.
  The contracts of the program's callText, CallTerm.
-/
import Derived.Test.YtnmbjmocnafekaaGreatDoorE17
import Derived.Test.YtnmbjmocnafekaaGreatDoorE12
import Derived.Test.YtnmbjmocnafekaaGreatDoorE20
import Derived.Test.YtnmbjmocnafekaaGreatDoorE16
import Derived.Lib.Join
import Derived.Test.YtnmbjmocnafekaaGreatDoorE1
import Derived.BigQuiet
import Derived.Test.YtnmbjmocnafekaaGreatDoorLay
import Derived.Test.YtnmbjmocnafekaaGreatDoorE21
namespace Go.Proofs.YtnmbjmocnafekaaGreatDoor
open Go.RowKit

/-- What making a term explicit gives, as values. -/
noncomputable def elRes (y : Sy) (t : Tm) : Value := match elM y t with
  | .ok m => .tuple #[.string (str (mkT m)), .int .i64 (kindM y m), .string wOk]
  | .error wd => .tuple #[.string ⟨#[]⟩, .int .i64 (-1), .string wd]
/-- What Elaborate gives. -/
noncomputable def elT (y : Sy) (L : List UInt8) : List UInt8 × Int × ByteArray :=
  if syB y = true then match parseT L with
    | some t => match elM y t with
      | .ok m => if (mkT m).length ≤ 400 then (mkT m, kindM y m, wOk) else ([], -1, wLong)
      | .error wd => ([], -1, wd)
    | none => ([], -1, wUnk)
  else ([], -1, wUnk)

set_option maxRecDepth 100000 in
set_option maxHeartbeats 1000000 in
theorem l7Asked_any (lo hi : Nat) (sv cv fv : Value) (y : Sy) (L : List UInt8) (w : World) (hv : SyAt w lo hi sv cv fv y) (hB : hi ≤ w.heap.size) (hL : L.length ≤ 1048576) :
    Calls Tryz.prog 48 #[.agg #[sv, cv, fv], .string (str L)] w fun e w' => e = .returned (.bool (syB y && (parseT L).isSome)) ∧ Below w.heap.size w w' := by
  obtain ⟨A1, cap1, rfl, _, _, _⟩ := hv.1.1.form
  obtain ⟨A2, cap2, rfl, _, _, _⟩ := hv.1.2.form
  obtain ⟨A3, cap3, rfl, _, _, _⟩ := hv.2.form
  have hb1 : Below w.heap.size w (w.alloc (.cells #[.slice A1 y.ty.sizes.length cap1, .slice A2 y.ty.cos.length cap2, .slice A3 y.fs.length cap3] 36)) := (Below.refl _ _).alloc (Nat.le_refl _) _
  have HS := Lib.hid (specSysValid_any lo hi _ _ _ y _ (hv.below hb1 hB) (by rw [World.size_alloc]; omega))
  have HT := Lib.hid (specTermValid_any L hL)
  have HR1 := Row.new w 36 [.slice A1 y.ty.sizes.length cap1, .slice A2 y.ty.cos.length cap2, .slice A3 y.fs.length cap3]
  have p0 := HR1.cell 0
  have p1 := HR1.cell 1
  have p2 := HR1.cell 2
  simp only [List.getElem?_cons_zero, List.getElem?_cons_succ] at p0 p1 p2
  have HB1 := Lib.hid hb1
  clear hv hb1 HR1
  go_enter Tryz.func48, Tryz.ntmps48
  go_wp2_with fail
  refine HS.out.mono ?_
  clear p0 p1 p2 HS
  rintro e w2 ⟨rfl, hb2⟩
  have HB2 := Lib.hid (HB1.out.trans (hb2.mono (by rw [World.size_alloc]; omega)))
  clear hb2 HB1
  cases hy : syB y with
  | false =>
    go_wp2
    go_ret
    exact ⟨by rw [hy]; rfl, HB2.out⟩
  | true =>
    go_wp2_with fail
    refine (HT.out w2).mono ?_
    rintro e w3 ⟨rfl, rfl⟩
    go_wp2
    go_ret
    exact ⟨by rw [hy, Bool.true_and]; rfl, HB2.out⟩

end Go.Proofs.YtnmbjmocnafekaaGreatDoor

namespace Go.Proofs.YtnmbjmocnafekaaGreatDoor
open Go.RowKit

/-- What stands ahead of the bracket that is open when a reversed text has been read. -/
def mat : List UInt8 → Nat → Option (List UInt8)
  | [], _ => none
  | c :: r, e => if c = 41 then mat r (e + 1) else if c = 40 then (if e ≤ 1 then some r else mat r (e - 1)) else mat r e
theorem mat_skip {c : UInt8} {r : List UInt8} {e : Nat} (h1 : c ≠ 41) (h2 : c ≠ 40) : mat (c :: r) e = mat r e := by rw [mat, if_neg h1, if_neg h2]
theorem mat_close (r : List UInt8) (e : Nat) : mat (41 :: r) e = mat r (e + 1) := by rw [mat, if_pos rfl]
theorem mat_open {r : List UInt8} {e : Nat} (h : 2 ≤ e) : mat (40 :: r) e = mat r (e - 1) := by rw [mat, if_neg (by decide), if_pos rfl, if_neg (by omega)]
theorem digit_ne {z : Int} (h : Dig z) : UInt8.ofNat (48 + z.toNat) ≠ 41 ∧ UInt8.ofNat (48 + z.toNat) ≠ 40 := by
  have hd := isD_of (isD_dg h).1
  constructor
  · intro e; rw [e] at hd; revert hd; decide
  · intro e; rw [e] at hd; revert hd; decide
theorem name_ne {n : UInt8} (h : isN n = true) : n ≠ 41 ∧ n ≠ 40 := by
  constructor
  · rintro rfl; exact absurd h (by decide)
  · rintro rfl; exact absurd h (by decide)
/-- A term's text has its brackets within itself. -/
theorem mat_term : ∀ (t : Tm), TmOk t → ∀ (r : List UInt8) (e : Nat), 1 ≤ e → mat ((tmT t).reverse ++ r) e = mat r e
  | .lit k v, h, r, e, he => by
    have e1 : (tmT (.lit k v)).reverse ++ r = UInt8.ofNat (48 + v.toNat) :: 58 :: UInt8.ofNat (48 + k.toNat) :: r := by simp [tmT, dg]
    rw [e1, mat_skip (digit_ne h.2).1 (digit_ne h.2).2, mat_skip (by decide) (by decide), mat_skip (digit_ne h.1).1 (digit_ne h.1).2]
  | .c0 n, h, r, e, he => by
    have e1 : (tmT (.c0 n)).reverse ++ r = 41 :: 40 :: n :: r := by simp [tmT]
    have hn := name_ne (show isN n = true from h)
    rw [e1, mat_close, mat_open (by omega), Nat.add_sub_cancel, mat_skip hn.1 hn.2]
  | .c1 n a, h, r, e, he => by
    have e1 : (tmT (.c1 n a)).reverse ++ r = 41 :: ((tmT a).reverse ++ (40 :: n :: r)) := by simp [tmT]
    have hn := name_ne h.1
    rw [e1, mat_close, mat_term a h.2 _ _ (by omega), mat_open (by omega), Nat.add_sub_cancel, mat_skip hn.1 hn.2]
  | .c2 n a b, h, r, e, he => by
    have e1 : (tmT (.c2 n a b)).reverse ++ r = 41 :: ((tmT b).reverse ++ (44 :: ((tmT a).reverse ++ (40 :: n :: r)))) := by simp [tmT]
    have hn := name_ne h.1
    rw [e1, mat_close, mat_term b h.2.2 _ _ (by omega), mat_skip (by decide) (by decide), mat_term a h.2.1 _ _ (by omega), mat_open (by omega), Nat.add_sub_cancel, mat_skip hn.1 hn.2]
/-- Terms with commas between. -/
theorem mat_join : ∀ (ts : List Tm), (∀ t ∈ ts, TmOk t) → ∀ (r : List UInt8) (e : Nat), 1 ≤ e → mat ((Lib.join (ts.map tmT) [44]).reverse ++ r) e = mat r e
  | [], _, r, e, _ => by simp [Lib.join]
  | [t], h, r, e, he => by
    rw [List.map_cons, List.map_nil, Lib.join_one]
    exact mat_term t (h t (by simp)) r e he
  | t :: u :: ts, h, r, e, he => by
    have e1 : Lib.join ((t :: u :: ts).map tmT) [44] = tmT t ++ ([44] ++ Lib.join ((u :: ts).map tmT) [44]) := by
      simp only [List.map_cons, Lib.join_cons]
      rfl
    rw [e1]
    simp only [List.reverse_append, List.append_assoc, List.reverse_cons, List.nil_append, List.cons_append]
    rw [mat_join (u :: ts) (fun x hx => h x (List.mem_cons_of_mem _ hx)) _ _ he, mat_skip (by decide) (by decide), mat_term t (h t (by simp)) _ _ he]

/-- The text of a call with arguments. -/
def callL (nm : List UInt8) (ps : List (List UInt8)) : List UInt8 := nm ++ [40] ++ Lib.join ps [44] ++ [41]
theorem mat_call (nm : List UInt8) (ts : List Tm) (h : ∀ t ∈ ts, TmOk t) : mat (callL nm (ts.map tmT)).reverse 0 = some nm.reverse := by
  have e1 : (callL nm (ts.map tmT)).reverse = 41 :: ((Lib.join (ts.map tmT) [44]).reverse ++ (40 :: nm.reverse)) := by simp [callL]
  rw [e1, mat_close, mat_join ts h _ _ (Nat.le_refl _), mat, if_neg (by decide), if_pos rfl, if_pos (by decide)]
/-- A term that ends with a bracket has one sign ahead of the one that opens it. -/
theorem mat_one {t : Tm} (h : TmOk t) {nm : List UInt8} (hm : mat (tmT t).reverse 0 = some nm.reverse) : ∃ n, nm = [n] ∧ isN n = true := by
  have fin : ∀ {n : UInt8} {x : List UInt8}, isN n = true → some [n] = some nm.reverse → ∃ n, nm = [n] ∧ isN n = true := by
    intro n _ hn e
    injection e with e
    refine ⟨n, ?_, hn⟩
    rw [← List.reverse_reverse nm, ← e]
    rfl
  cases t with
  | lit k v =>
    exfalso
    have e1 : (tmT (.lit k v)).reverse = [UInt8.ofNat (48 + v.toNat), 58, UInt8.ofNat (48 + k.toNat)] := by simp [tmT, dg]
    rw [e1, mat_skip (digit_ne h.2).1 (digit_ne h.2).2, mat_skip (by decide) (by decide), mat_skip (digit_ne h.1).1 (digit_ne h.1).2] at hm
    cases hm
  | c0 n =>
    have e1 : (tmT (.c0 n)).reverse = 41 :: 40 :: [n] := by simp [tmT]
    rw [e1, mat_close, mat, if_neg (by decide), if_pos rfl, if_pos (by decide)] at hm
    exact fin (x := []) h hm
  | c1 n a =>
    have e1 : (tmT (.c1 n a)).reverse = 41 :: ((tmT a).reverse ++ (40 :: [n])) := by simp [tmT]
    rw [e1, mat_close, mat_term a h.2 _ _ (by omega), mat, if_neg (by decide), if_pos rfl, if_pos (by decide)] at hm
    exact fin (x := []) h.1 hm
  | c2 n a b =>
    have e1 : (tmT (.c2 n a b)).reverse = 41 :: ((tmT b).reverse ++ (44 :: ((tmT a).reverse ++ (40 :: [n])))) := by simp [tmT]
    rw [e1, mat_close, mat_term b h.2.2 _ _ (by omega), mat_skip (by decide) (by decide), mat_term a h.2.1 _ _ (by omega), mat, if_neg (by decide), if_pos rfl, if_pos (by decide)] at hm
    exact fin (x := []) h.1 hm

def allV (ps : List (List UInt8)) : Bool := ps.all fun p => (parseT p).isSome
theorem allV_terms : ∀ {ps : List (List UInt8)}, allV ps = true → ∃ ts : List Tm, ps = ts.map tmT ∧ ∀ t ∈ ts, TmOk t
  | [], _ => ⟨[], rfl, fun t h => by cases h⟩
  | p :: ps, h => by
    simp only [allV, List.all_cons, Bool.and_eq_true] at h
    obtain ⟨t, ht⟩ := Option.isSome_iff_exists.1 h.1
    obtain ⟨ho, e, _⟩ := parseT_tmT.1 ht
    obtain ⟨ts, e2, h2⟩ := allV_terms (ps := ps) h.2
    exact ⟨t :: ts, by rw [e, e2]; rfl, fun x hx => by
      rcases List.mem_cons.1 hx with rfl | hx
      · exact ho
      · exact h2 x hx⟩
/-- No call has more than two arguments. -/
theorem call_two {nm : List UInt8} {ps : List (List UInt8)} (hv : allV ps = true) (h2 : 2 < ps.length) : parseT (callL nm ps) = none := by
  obtain ⟨ts, rfl, hts⟩ := allV_terms hv
  cases hp : parseT (callL nm (ts.map tmT)) with
  | none => rfl
  | some t =>
    exfalso
    obtain ⟨ho, e, hl⟩ := parseT_tmT.1 hp
    have hm := mat_call nm ts hts
    rw [e] at hm
    obtain ⟨n, rfl, hn⟩ := mat_one ho hm
    match ts, h2, hts with
    | a :: b :: c :: r, _, hts =>
      have e1 : callL [n] ((a :: b :: c :: r).map tmT) = n :: 40 :: (tmT a ++ (44 :: (tmT b ++ (44 :: (Lib.join ((c :: r).map tmT) [44] ++ [41]))))) := by
        simp only [callL, List.map_cons, Lib.join_cons, Lib.joinTail]
        simp [List.append_assoc]
      obtain ⟨f, hf⟩ : ∃ f, (callL [n] ((a :: b :: c :: r).map tmT)).length = f + 1 := ⟨_, by rw [e1]; rfl⟩
      have hq := hp
      unfold parseT at hq
      rw [if_pos hl, hf, e1, rdTm_name f _ hn] at hq
      have hla : (tmT a).length ≤ f ∧ (tmT b).length ≤ f := by
        have := congrArg List.length e1
        simp only [List.length_cons, List.length_append] at this
        omega
      unfold rdCall at hq
      rw [rdTake_cons] at hq
      simp only [Option.bind_some] at hq
      rw [rdArgs, if_neg (by rw [hasB_41 (hts a (by simp))]; simp), rdTm_tmT f _ (hts a (by simp)) hla.1] at hq
      simp only [Option.bind_some] at hq
      rw [if_pos (by simp [hasB]), rdTake_cons] at hq
      simp only [Option.bind_some] at hq
      rw [rdTm_tmT f _ (hts b (by simp)) hla.2] at hq
      simp [rdTake] at hq
def callV (nm : List UInt8) (ps : List (List UInt8)) : Option (List UInt8) := if (allV ps && (parseT (callL nm ps)).isSome) = true then some (callL nm ps) else none
def callM (nm : List UInt8) (ps : List (List UInt8)) : Option (List UInt8) := if (allV ps && decide (ps.length ≤ 2) && (parseT (callL nm ps)).isSome) = true then some (callL nm ps) else none
theorem call_same (nm : List UInt8) (ps : List (List UInt8)) : callM nm ps = callV nm ps := by
  unfold callM callV
  cases ha : allV ps with
  | false => rfl
  | true =>
    by_cases h2 : ps.length ≤ 2
    · rw [show decide (ps.length ≤ 2) = true by simpa using h2]
      rfl
    · rw [call_two ha (by omega), show decide (ps.length ≤ 2) = false by simpa using h2]
      rfl
/-- The text as the model makes it: the first k parts. -/
def joinTo (nm : List UInt8) (ps : List (List UInt8)) : Nat → List UInt8
  | 0 => nm ++ [40]
  | k + 1 => joinTo nm ps k ++ (if 0 < k then [44] else []) ++ ps.getD k []
theorem joinTo_eq (nm : List UInt8) (ps : List (List UInt8)) : ∀ k, k ≤ ps.length → joinTo nm ps k = nm ++ [40] ++ Lib.join (ps.take k) [44]
  | 0, _ => by simp [joinTo, Lib.join]
  | 1, h => by
    have e : ps.take 1 = [ps[0]] := by
      rw [List.take_succ_eq_append_getElem (by omega)]
      simp
    rw [e, Lib.join_one]
    simp [joinTo, List.getD_eq_getElem?_getD, List.getElem?_eq_getElem (show 0 < ps.length by omega)]
  | k + 2, h => by
    have ih := joinTo_eq nm ps (k + 1) (by omega)
    rw [joinTo, ih, if_pos (by omega)]
    match ps, h with
    | z :: l, h =>
      have hk' : k < l.length := by simp at h; omega
      simp only [List.take_succ_cons, Lib.join_cons]
      have e := Lib.joinTail_take_succ [44] l k l[k] (by simp [hk'])
      rw [e]
      have e2 : (z :: l).getD (k + 1) [] = l[k] := by
        rw [List.getD_eq_getElem?_getD, List.getElem?_cons_succ, List.getElem?_eq_getElem hk']
        rfl
      rw [e2]
      simp [List.append_assoc]
theorem joinTo_all (nm : List UInt8) (ps : List (List UInt8)) : joinTo nm ps ps.length ++ [41] = callL nm ps := by
  rw [joinTo_eq nm ps _ (Nat.le_refl _), List.take_length]
  rfl
theorem joinTo_len (nm : List UInt8) (ps : List (List UInt8)) : ∀ k, k ≤ ps.length → (joinTo nm ps k).length ≤ nm.length + 1 + k + ((ps.map List.length).take k).sum
  | 0, _ => by simp [joinTo]
  | k + 1, h => by
    have ih := joinTo_len nm ps k (by omega)
    have e : ps.getD k [] = ps[k] := by rw [List.getD_eq_getElem?_getD, List.getElem?_eq_getElem (by omega)]; rfl
    have e2 : ((ps.map List.length).take (k + 1)).sum = ((ps.map List.length).take k).sum + ps[k].length := by
      rw [List.take_succ_eq_append_getElem (by simpa using (show k < ps.length by omega)), List.sum_append]
      simp
    rw [joinTo, e, e2, List.length_append, List.length_append]
    split
    · simp; omega
    · simp; omega
end Go.Proofs.YtnmbjmocnafekaaGreatDoor

namespace Go.Proofs.YtnmbjmocnafekaaGreatDoor
open Go.RowKit

/-- A slice reads as texts. -/
def StrsAt (w : World) (v : Value) (ps : List (List UInt8)) : Prop := ∃ A c, v = .slice A ps.length c ∧ ps.length ≤ c ∧ (0 < ps.length → ∃ g off, A = some ⟨g, off, none⟩ ∧ g < w.heap.size ∧ ∀ j, ∀ hj : j < ps.length, w.cell? ⟨g, off + j, none⟩ = some (.string (str ps[j])))
theorem StrsAt.below {w w' : World} {v : Value} {ps : List (List UInt8)} (h : StrsAt w v ps) (hb : Below w.heap.size w w') : StrsAt w' v ps := by
  obtain ⟨A, c, e, hc, h⟩ := h
  refine ⟨A, c, e, hc, fun h0 => ?_⟩
  obtain ⟨g, off, e2, hg, hcell⟩ := h h0
  exact ⟨g, off, e2, Nat.lt_of_lt_of_le hg hb.size, fun j hj => (World.cell?_of_block (w := w) (hb.block g hg)).trans (hcell j hj)⟩
def strVs (ps : List (List UInt8)) : List Value := ps.map fun p => Value.string (str p)
theorem strsAt_own {w : World} {N : Nat} {t : TypeId} {v : Value} {ps : List (List UInt8)} (h : w.ownsRow N t 1 v ps.length (strVs ps)) : StrsAt w v ps := by
  obtain ⟨_, ⟨rfl, e⟩ | ⟨g, cap, cur, rfl, hg, hh, hc1, hc2, hcs, htake⟩⟩ := h
  · exact ⟨none, 0, by rw [e], by omega, fun h0 => by omega⟩
  · refine ⟨some ⟨g, 0, none⟩, cap, rfl, hc1, fun h0 => ⟨g, 0, rfl, ?_, fun j hj => ?_⟩⟩
    · rcases Nat.lt_or_ge g w.heap.size with h' | h'
      · exact h'
      · rw [Array.getElem?_eq_none h'] at hh; cases hh
    · have e : w.cell? ⟨g, 0 + j, none⟩ = cur[j]? := by simp [World.cell?, hh]
      rw [e]
      have e2 : cur[j]? = (cur.toList.take (ps.length * 1))[j]? := by
        rw [List.getElem?_take_of_lt (by omega)]
        simp
      rw [e2, htake]
      simp [strVs, hj]
theorem str_tl (l : List UInt8) : (str l).toList = l := ByteArray.toList_mk l
/-- How much texts are. -/
def bulkS (ps : List (List UInt8)) : Nat := ps.length + (ps.map List.length).sum
theorem sum_take_le' : ∀ (l : List Nat) (k : Nat), (l.take k).sum ≤ l.sum
  | [], k => by simp
  | a :: l, 0 => by simp
  | a :: l, k + 1 => by have := sum_take_le' l k; simp only [List.take_succ_cons, List.sum_cons]; omega
theorem sumlen_take {ps : List (List UInt8)} {k : Nat} (hk : k < ps.length) : ((ps.map List.length).take (k + 1)).sum = ((ps.map List.length).take k).sum + ps[k].length := by
  rw [List.take_succ_eq_append_getElem (by simpa using hk), List.sum_append]
  simp

set_option maxRecDepth 100000 in
set_option maxHeartbeats 2000000 in
theorem eqStrs_any (v1 v2 : Value) (ps qs : List (List UInt8)) (w : World) (h1 : StrsAt w v1 ps) (h2 : StrsAt w v2 qs) (hn : ps.length ≤ 1048576) :
    Calls Tryz.prog 22 #[v1, v2] w fun e w' => e = .returned (.bool (decide (ps = qs))) ∧ Below w.heap.size w w' := by
  obtain ⟨A, c, rfl, hcap, hcells⟩ := h1
  obtain ⟨A2, c2, rfl, hcap2, hcells2⟩ := h2
  have HC := Lib.hid hcells
  have HC2 := Lib.hid hcells2
  clear hcells hcells2
  go_enter Tryz.func22, Tryz.ntmps22
  by_cases hlen : ps.length = qs.length
  · have n0 : ((ps.length : Int) != (qs.length : Int)) = false := by simp [hlen]
    go_wp2
    go_loopw [5] (fun i wr => ∃ k : Nat, k ≤ ps.length ∧ i = .int .i64 k ∧ Hid (∃ m, wr = w.drewN m) ∧ Hid (∀ j, ∀ (h1 : j < ps.length) (h2 : j < qs.length), j < k → ps[j] = qs[j])) (fun i _ => ps.length - (intOf i).toNat)
    case atStart => exact ⟨0, Nat.zero_le _, rfl, ⟨0, rfl⟩, fun j _ _ h => absurd h (by omega)⟩
    case round =>
      obtain ⟨k, hk, rfl, hwr, heq⟩ := hrel
      have hbw : Hid (Below w.heap.size w wr) := by obtain ⟨m, rfl⟩ := hwr.out; exact below_drewN (Below.refl _ _) m
      by_cases hkl : k < ps.length
      · obtain ⟨g, off, hA, hgw, hcs⟩ := HC.out (by omega)
        obtain ⟨g2, off2, hA2, hgw2, hcs2⟩ := HC2.out (by omega)
        subst hA; subst hA2
        have hck : wr.cell? ⟨g, off + k, none⟩ = some (.string (str ps[k])) := (World.cell?_of_block (w := w) (hbw.out.block g hgw)).trans (hcs k hkl)
        have hck2 : wr.cell? ⟨g2, off2 + k, none⟩ = some (.string (str (qs[k]'(by omega)))) := (World.cell?_of_block (w := w) (hbw.out.block g2 hgw2)).trans (hcs2 k (by omega))
        obtain ⟨p, hp⟩ : ∃ p, p = ps[k] := ⟨_, rfl⟩
        obtain ⟨q, hq⟩ : ∃ q, q = qs[k]'(by omega) := ⟨_, rfl⟩
        rw [← hp] at hck
        rw [← hq] at hck2
        have t1 := str_tl p
        have t2 := str_tl q
        have hk2 : (k : Int) < (qs.length : Int) := by omega
        by_cases hpq : p = q
        · have hnx : Hid (∀ j, ∀ (h1 : j < ps.length) (h2 : j < qs.length), j < k + 1 → ps[j] = qs[j]) := by
            intro j h1 h2 hj
            by_cases e : j = k
            · subst e; rw [← hp, ← hq, hpq]
            · exact heq.out j h1 h2 (by omega)
          have hne : (p == q) = true := by simpa using hpq
          have hne2 : (p != q) = false := by simp [bne, hne]
          subst hpq
          clear hcs hcs2 hp hq heq hbw
          go_wp2_with fail
          go_quiet (fail)
          go_wp2
          go_roundw
          case rel => exact ⟨k + 1, by omega, by go_num, (by show ∃ m, _ = _; obtain ⟨m, h⟩ := hwr.out; exact ⟨_, by rw [h]; exact World.drewN_drewN ..⟩), hnx.out⟩
          case measure => simp [intOf]; omega
        · have hno : Hid (¬ ps = qs) := by
            intro h
            apply hpq
            rw [hp, hq]
            subst h
            rfl
          have hne : (p == q) = false := by simpa using hpq
          have hne2 : (p != q) = true := by simp [bne, hne]
          clear hcs hcs2 hp hq heq hpq
          go_wp2_with fail
          go_quiet (fail)
          go_wp2
          go_ret
          exact ⟨ret_bool (by simpa using hno.out), below_drewN hbw.out _⟩
      · have hke : k = ps.length := by omega
        have hall : Hid (ps = qs) := List.ext_getElem hlen fun j h1 h2 => heq.out j h1 h2 (by omega)
        have hki : ¬ ((k : Int) < (ps.length : Int)) := by omega
        go_wp2
        go_ret
        exact ⟨ret_bool (by simpa using hall.out), hbw.out⟩
  · have n0 : ((ps.length : Int) != (qs.length : Int)) = true := by simp; omega
    have hne : Hid (¬ ps = qs) := fun h => hlen (by rw [h])
    go_wp2
    go_ret
    exact ⟨ret_bool (by simpa using hne.out), Below.refl _ _⟩
end Go.Proofs.YtnmbjmocnafekaaGreatDoor

namespace Go.Proofs.YtnmbjmocnafekaaGreatDoor
open Go.RowKit

abbrev optE (o : Option (List UInt8)) : Ending := .returned (.tuple #[.string (str (o.getD [])), .bool o.isSome])

set_option maxRecDepth 100000 in
set_option maxHeartbeats 1000000 in
theorem specTermValid_free (L : List UInt8) (w : World) :
    Calls Tryz.prog 86 #[.string (str L)] w fun e w' => e = .returned (.bool (parseT L).isSome) ∧ w' = w := by
  by_cases h : L.length ≤ 60
  · exact specTermValid_any L (by omega) w
  · have hsz := str_size L
    have h1 : ¬ (L.length : Int) ≤ 60 := by omega
    have hp : Hid (parseT L = none) := by show _ = _; unfold parseT; rw [if_neg h]
    clear h
    go_enter Tryz.func86, Tryz.ntmps86
    go_wp2
    go_ret
    exact ⟨by rw [hp.out]; rfl, rfl⟩

set_option maxRecDepth 100000 in
set_option maxHeartbeats 2000000 in
theorem l6Join_any (nm : List UInt8) (v : Value) (ps : List (List UInt8)) (w : World) (hv : StrsAt w v ps) (hn : nm.length ≤ 1048576) (hb : bulkS ps ≤ 1048576) :
    Calls Tryz.prog 155 #[.string (str nm), v] w fun e w' => e = .returned (.string (str (callL nm ps))) ∧ w' = w := by
  obtain ⟨A, c, rfl, hcap, hcells⟩ := hv
  have HC := Lib.hid hcells
  have hnp : ps.length + ((ps.map List.length).sum) ≤ 1048576 := hb
  have h0 : str nm ++ (⟨#[40]⟩ : ByteArray) = str (nm ++ [40]) := str_append _ _
  have n0 : ¬ 9223372036854775807 < (str nm).size + 1 := by rw [str_size]; omega
  have hst : Hid (nm ++ [40] = joinTo nm ps 0) := rfl
  obtain ⟨L0, hL0⟩ : ∃ L0, L0 = nm ++ [40] := ⟨_, rfl⟩
  rw [← hL0] at h0 hst
  clear hcells hL0 hb
  go_enter Tryz.func155, Tryz.ntmps155
  go_wp2
  clear h0 n0
  go_loopw [5, 12] (fun o i wr => ∃ k : Nat, k ≤ ps.length ∧ i = .int .i64 k ∧ wr = w ∧ ∃ Lk, o = .string (str Lk) ∧ Hid (Lk = joinTo nm ps k)) (fun _ i _ => ps.length - (intOf i).toNat)
  case atStart => exact ⟨0, Nat.zero_le _, rfl, rfl, _, rfl, hst.out⟩
  case round =>
    obtain ⟨k, hk, rfl, rfl, Lk, rfl, hLk⟩ := hrel
    have hjl := joinTo_len nm ps k hk
    rw [← hLk.out] at hjl
    by_cases hkl : k < ps.length
    · obtain ⟨g, off, hA, hgw, hcs⟩ := HC.out (by omega)
      subst hA
      have hck := hcs k hkl
      have hsum := sum_take_le' (ps.map List.length) (k + 1)
      rw [sumlen_take hkl] at hsum
      obtain ⟨q, hq⟩ : ∃ q, q = ps[k] := ⟨_, rfl⟩
      have hgd : ps.getD k [] = q := by rw [hq, List.getD_eq_getElem?_getD, List.getElem?_eq_getElem hkl]; rfl
      have hjs : Hid (joinTo nm ps (k + 1) = Lk ++ (if 0 < k then [44] else []) ++ q) := by show _ = _; rw [joinTo, hgd, hLk.out]
      rw [← hq] at hck hsum
      have s1 : str Lk ++ (⟨#[44]⟩ : ByteArray) = str (Lk ++ [44]) := str_append _ _
      have n1 : ¬ 9223372036854775807 < (str Lk).size + 1 := by rw [str_size]; omega
      have s2 : str (Lk ++ [44]) ++ str q = str (Lk ++ [44] ++ q) := str_append _ _
      have n2 : ¬ 9223372036854775807 < (str (Lk ++ [44])).size + (str q).size := by rw [str_size, str_size, List.length_append]; simp; omega
      have s3 : str Lk ++ str q = str (Lk ++ q) := str_append _ _
      have n3 : ¬ 9223372036854775807 < (str Lk).size + (str q).size := by rw [str_size, str_size]; omega
      obtain ⟨La, ha⟩ : ∃ La, La = Lk ++ [44] := ⟨_, rfl⟩
      rw [← ha] at s1 s2 n2
      obtain ⟨Lb, hb⟩ : ∃ Lb, Lb = La ++ q := ⟨_, rfl⟩
      rw [← hb] at s2
      obtain ⟨Lc, hc⟩ : ∃ Lc, Lc = Lk ++ q := ⟨_, rfl⟩
      rw [← hc] at s3
      by_cases h0 : 0 < k
      · have hnx : Hid (Lb = joinTo nm ps (k + 1)) := by show _ = _; rw [hjs.out, if_pos h0, hb, ha]
        have hk0 : (0 : Int) < (k : Int) := by omega
        clear hcs hq hgd ha hb hc s3 n3
        go_wp2
        go_roundw
        case rel => exact ⟨k + 1, by omega, by go_num, trivial, _, rfl, hnx.out⟩
        case measure => simp [intOf]; omega
      · have hnx : Hid (Lc = joinTo nm ps (k + 1)) := by show _ = _; rw [hjs.out, if_neg h0, hc]; simp
        have hk0 : ¬ (0 : Int) < (k : Int) := by omega
        clear hcs hq hgd ha hb hc s1 s2 n1 n2
        go_wp2
        go_roundw
        case rel => exact ⟨k + 1, by omega, by go_num, trivial, _, rfl, hnx.out⟩
        case measure => simp [intOf]; omega
    · have hke : k = ps.length := by omega
      have hfin : Hid (Lk ++ [41] = callL nm ps) := by show _ = _; rw [hLk.out, hke]; exact joinTo_all nm ps
      have hsum := sum_take_le' (ps.map List.length) k
      have s1 : str Lk ++ (⟨#[41]⟩ : ByteArray) = str (Lk ++ [41]) := str_append _ _
      have n1 : ¬ 9223372036854775807 < (str Lk).size + 1 := by rw [str_size]; omega
      obtain ⟨La, ha⟩ : ∃ La, La = Lk ++ [41] := ⟨_, rfl⟩
      rw [← ha] at s1 hfin
      have hki : ¬ ((k : Int) < (ps.length : Int)) := by omega
      clear ha
      go_wp2
      go_ret
      exact ⟨by rw [hfin.out]; rfl, rfl⟩

theorem allV_all {ps : List (List UInt8)} (h : ∀ j, ∀ hj : j < ps.length, (parseT ps[j]).isSome = true) : allV ps = true := by
  unfold allV
  rw [List.all_eq_true]
  intro p hp
  obtain ⟨j, hj, rfl⟩ := List.getElem_of_mem hp
  exact h j hj
theorem allV_not {ps : List (List UInt8)} {j : Nat} (hj : j < ps.length) (h : (parseT ps[j]).isSome = false) : allV ps = false := by
  unfold allV
  rw [List.all_eq_false]
  exact ⟨ps[j], List.getElem_mem hj, by rw [h]; simp⟩

end Go.Proofs.YtnmbjmocnafekaaGreatDoor

namespace Go.Proofs.YtnmbjmocnafekaaGreatDoor
open Go.RowKit

theorem layJ : Builder.Extra Tryz.prog lays156_ren := {
  sizeBuilder := by kernel_rfl
  liesBuilder := by kernel_rfl
  t5 := Tryz.underlying5
  a5 := Tryz.isAgg5
  z5 := Tryz.sizeOf5
  v5 := Tryz.zeroValue5
  infoByte := by kernel_rfl
  cellsByte := by kernel_rfl
  sizeByte := by kernel_rfl
  neB5 := by decide }
theorem itoa_dig (z : Int) (hz : Dig z) (w : World) :
    Calls Tryz.prog 241 #[.int .i64 z] w fun e w' => e = .returned (.string (str (dg z))) ∧ w' = w := by
  obtain ⟨h0, h9⟩ := hz
  obtain ⟨n, rfl⟩ : ∃ n : Nat, z = n := ⟨z.toNat, by omega⟩
  refine (Any.strconv_Itoa_small lays171 n (by omega) w).mono ?_
  rintro e w' ⟨rfl, rfl⟩
  refine ⟨?_, rfl⟩
  rw [dg_dec (by omega)]
  rfl
/-- strings.Join, a comma between. -/
theorem join_comma (b c : Nat) (ps : List (List UInt8)) (w : World) (hcells : ∀ j, ∀ (hj : j < ps.length), w.cell? ⟨b, j, none⟩ = some (.string (str ps[j]))) (hb : b < w.heap.size) (hn : ps.length ≤ 1048576) (hc : ps.length ≤ c) (hl : (Lib.join ps [44]).length ≤ 1048576) :
    Calls Tryz.prog 242 #[.slice (some ⟨b, 0, none⟩) ps.length c, .string ⟨#[44]⟩] w fun e w' => e = .returned (.string (str (Lib.join ps [44]))) ∧ Below w.heap.size w w' := by
  have hm : (ps.map fun z => str z).map (·.data.toList) = ps := by
    rw [List.map_map]
    simp [str, Function.comp_def]
  have h := Any.strings_Join lays156 layJ b 0 c (ps.map fun z => str z) ⟨#[44]⟩ w (fun j x hx => by
    rw [List.getElem?_map] at hx
    obtain ⟨z, hz, rfl⟩ := Option.map_eq_some_iff.1 hx
    obtain ⟨hj, rfl⟩ := List.getElem?_eq_some_iff.1 hz
    rw [Nat.zero_add]
    exact hcells j hj) hb (by rw [List.length_map]; omega) (by rw [List.length_map]; exact hc) (by rw [hm]; show (Lib.join ps [44]).length ≤ _; omega)
  rw [List.length_map, hm] at h
  refine Calls.mono h ?_
  rintro e w' ⟨rfl, hb'⟩
  exact ⟨rfl, hb'⟩

set_option maxRecDepth 100000 in
set_option maxHeartbeats 1000000 in
theorem litText_any (k v : Int) (hk : Dig k) (hv : Dig v) (w : World) :
    Calls Tryz.prog 281 #[.agg #[.int .i64 k, .int .i64 v]] w fun e w' => e = .returned (.string (str (dg k ++ [58] ++ dg v))) ∧ Below w.heap.size w w' := by
  have HB := Lib.hid ((Below.refl w.heap.size w).alloc (Nat.le_refl _) (.cells #[.int .i64 k, .int .i64 v] 164))
  have r2 := Row.new w 164 [.int .i64 k, .int .i64 v]
  have m0 := r2.cell 0
  have m1 := r2.cell 1
  simp only [List.getElem?_cons_zero, List.getElem?_cons_succ] at m0 m1
  have s1 : str (dg k) ++ (⟨#[58]⟩ : ByteArray) = str (dg k ++ [58]) := str_append _ _
  have s2 : str (dg k ++ [58]) ++ str (dg v) = str (dg k ++ [58] ++ dg v) := str_append _ _
  obtain ⟨L2, l2⟩ : ∃ L, L = dg k ++ [58] := ⟨_, rfl⟩
  obtain ⟨L3, l3⟩ : ∃ L, L = L2 ++ dg v := ⟨_, rfl⟩
  rw [← l2] at s1 s2 ⊢
  rw [← l3] at s2 ⊢
  have n1 : ¬ 9223372036854775807 < (str (dg k)).size + 1 := by rw [str_size, show (dg k).length = 1 from rfl]; omega
  have n2 : ¬ 9223372036854775807 < (str L2).size + (str (dg v)).size := by rw [str_size, str_size, l2, show (dg v).length = 1 from rfl]; simp [dg]
  have HK := Lib.hid hk
  have HV := Lib.hid hv
  clear r2 hk hv l2 l3
  go_enter Tryz.func281, Tryz.ntmps281
  go_wp2_with fail
  go_quiet ((first | (go_at_call 241; exact quiet_eq ((itoa_dig k HK.out _).mono fun _ _ h => ⟨h.1, h.2.symm⟩)) | (go_at_call 241; exact quiet_eq ((itoa_dig v HV.out _).mono fun _ _ h => ⟨h.1, h.2.symm⟩))))
  go_wp2
  go_ret
  exact ⟨rfl, below_drewN HB.out _⟩
end Go.Proofs.YtnmbjmocnafekaaGreatDoor

namespace Go.Proofs.YtnmbjmocnafekaaGreatDoor
open Go.RowKit

theorem Ev.under {w w' : World} {n : Nat} {a : Addr} (h : Ev w n a) (hb : Below w.heap.size w w') : Ev w' n a :=
  ⟨h.1, (World.cell?_of_block (w := w) (hb.block _ (World.block_lt_of_cell? _ _ h.2))).trans h.2⟩
end Go.Proofs.YtnmbjmocnafekaaGreatDoor

namespace Go.Proofs.YtnmbjmocnafekaaGreatDoor
open Go.RowKit

theorem joinS_len : ∀ (ps : List (List UInt8)), (Lib.join ps [44]).length ≤ bulkS ps
  | [] => by simp [Lib.join]
  | [p] => by rw [Lib.join_one]; simp [bulkS]
  | p :: q :: r => by
    have ih := joinS_len (q :: r)
    have e1 : Lib.join (p :: q :: r) [44] = p ++ ([44] ++ Lib.join (q :: r) [44]) := by
      simp only [Lib.join_cons]
      rfl
    rw [e1]
    unfold bulkS at ih ⊢
    simp only [List.length_append, List.length_cons, List.length_nil, List.map_cons, List.sum_cons] at ih ⊢
    omega
theorem joinS_any (v : Value) (ps : List (List UInt8)) (w : World) (hv : StrsAt w v ps) (hb : bulkS ps ≤ 4194304) :
    Calls Tryz.prog 242 #[v, .string ⟨#[44]⟩] w fun e w' => e = .returned (.string (str (Lib.join ps [44]))) ∧ Below w.heap.size w w' := by
  obtain ⟨A, c, rfl, hcap, hcells⟩ := hv
  have hl := joinS_len ps
  have hnp : ps.length ≤ 4194304 := by unfold bulkS at hb; omega
  by_cases h0 : 0 < ps.length
  · obtain ⟨g, off, rfl, hg, hcs⟩ := hcells h0
    have hm : (ps.map fun z => str z).map (·.data.toList) = ps := by
      rw [List.map_map]
      simp [str, Function.comp_def]
    have h := Any.strings_Join lays156 layJ g off c (ps.map fun z => str z) ⟨#[44]⟩ w (fun j x hx => by
      rw [List.getElem?_map] at hx
      obtain ⟨z, hz, rfl⟩ := Option.map_eq_some_iff.1 hx
      obtain ⟨hj, rfl⟩ := List.getElem?_eq_some_iff.1 hz
      exact hcs j hj) hg (by rw [List.length_map]; omega) (by rw [List.length_map]; exact hcap) (by rw [hm]; show (Lib.join ps [44]).length ≤ _; omega)
    rw [List.length_map, hm] at h
    refine Calls.mono h ?_
    rintro e w' ⟨rfl, hb'⟩
    exact ⟨rfl, hb'⟩
  · have e : ps = [] := List.eq_nil_of_length_eq_zero (by omega)
    subst e
    refine (Any.strings_Join_none lays156 layJ A c ⟨#[44]⟩ w).mono ?_
    rintro e w' ⟨rfl, rfl⟩
    exact ⟨rfl, Below.refl _ _⟩

set_option maxRecDepth 100000 in
set_option maxHeartbeats 1000000 in
theorem callText_any (nm : List UInt8) (v : Value) (ps : List (List UInt8)) (w : World) (hv : StrsAt w v ps) (hn : nm.length ≤ 4194304) (hb : bulkS ps ≤ 4194304) :
    Calls Tryz.prog 284 #[.string (str nm), v] w fun e w' => e = .returned (.string (str (callL nm ps))) ∧ Below w.heap.size w w' := by
  have HJ := Lib.hid (joinS_any v ps w hv hb)
  have hl := joinS_len ps
  have hcl : Hid (callL nm ps = nm ++ [40] ++ Lib.join ps [44] ++ [41]) := rfl
  obtain ⟨X, hX⟩ : ∃ X, X = callL nm ps := ⟨_, rfl⟩
  obtain ⟨J, hJ⟩ : ∃ J, J = Lib.join ps [44] := ⟨_, rfl⟩
  rw [← hX, ← hJ] at hcl
  rw [← hX]
  rw [← hJ] at HJ hl
  obtain ⟨L1, h1⟩ : ∃ L, L = nm ++ [40] := ⟨_, rfl⟩
  obtain ⟨L2, h2⟩ : ∃ L, L = L1 ++ J := ⟨_, rfl⟩
  obtain ⟨L3, h3⟩ : ∃ L, L = L2 ++ [41] := ⟨_, rfl⟩
  have s1 : str nm ++ (⟨#[40]⟩ : ByteArray) = str L1 := by rw [h1]; exact str_append _ _
  have s2 : str L1 ++ str J = str L2 := by rw [h2]; exact str_append _ _
  have s3 : str L2 ++ (⟨#[41]⟩ : ByteArray) = str L3 := by rw [h3]; exact str_append _ _
  have k1 : L1.length = nm.length + 1 := by rw [h1]; simp
  have k2 : L2.length = L1.length + J.length := by rw [h2]; simp
  have n1 : ¬ 9223372036854775807 < (str nm).size + 1 := by rw [str_size]; omega
  have n2 : ¬ 9223372036854775807 < (str L1).size + (str J).size := by rw [str_size, str_size]; omega
  have n3 : ¬ 9223372036854775807 < (str L2).size + 1 := by rw [str_size]; omega
  have hX3 : Hid (L3 = X) := by show _ = _; rw [h3, h2, h1, hcl.out]
  clear h1 h2 h3 hX hJ hcl k1 k2 hl hv
  go_enter Tryz.func284, Tryz.ntmps284
  go_wp2_with fail
  refine HJ.out.mono ?_
  rintro e w1 ⟨rfl, hb1⟩
  have HB := Lib.hid hb1
  clear hb1
  go_wp2
  go_ret
  exact ⟨by rw [hX3.out]; rfl, HB.out⟩

set_option maxRecDepth 100000 in
set_option maxHeartbeats 4000000 in
theorem readTerm_long (l : List UInt8) (w : World) (h60 : ¬ l.length ≤ 60) (hm : l.length ≤ 9223372036854775807) :
    Calls Tryz.prog 96 #[.string (str l)] w fun e w' => ReadPost l w e w' := by
  have hsz := str_size l
  have h1 : (60 : Int) < (l.length : Int) := by omega
  have hp : Hid (parseT l = none) := by show _ = _; unfold parseT; rw [if_neg h60]
  go_enter_defers Tryz.func96, Tryz.ntmps96
  go_wp2
  simp [bodyPostD, Leaves, results, Tryz.results96, go_sem]
  exact ⟨.inr ⟨hp.out, rfl⟩, Below.refl _ _⟩
end Go.Proofs.YtnmbjmocnafekaaGreatDoor

