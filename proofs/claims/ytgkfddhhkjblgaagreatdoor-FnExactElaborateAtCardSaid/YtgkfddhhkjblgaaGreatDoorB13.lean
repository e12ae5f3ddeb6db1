/-
  Explicit terms as data: how a reader reads them from the left, their types, what they are erased to; plain data only.
  A text within the coercions of a way, as data: the model wraps it step by step, the program writes what stands in front and behind.
  What ways make of all values, as plain data: images, agreement, redundancy. Nothing here speaks of the program.
  Making a term explicit, as data: its explicit term, or the word for why there is none; plain data only.
  Calls put together from texts: as data; plain data only.
-/
import Derived.Test.YtgkfddhhkjblgaaGreatDoorB12
import Derived.Test.YtgkfddhhkjblgaaGreatDoorB3
import Derived.Test.YtgkfddhhkjblgaaGreatDoorB4
import Derived.Lib.ItoaNum
import Derived.Test.YtgkfddhhkjblgaaGreatDoorB11
import Derived.Lib.Join
namespace Go.Proofs.YtgkfddhhkjblgaaGreatDoor
open Go.RowKit

inductive Mk where
  | lit (k v : Int) : Mk
  | co (i : Nat) (m : Mk) : Mk
  | a0 (i : Nat) : Mk
  | a1 (i : Nat) (m : Mk) : Mk
  | a2 (i : Nat) (m p : Mk) : Mk

def mkA (i : Nat) : List Mk → Mk
  | [] => .a0 i
  | [a] => .a1 i a
  | a :: b :: _ => .a2 i a b
/-- The type of an explicit term. -/
def kindM (y : Sy) : Mk → Int
  | .lit k _ => k
  | .co i _ => (y.ty.cos.getD i default).dst
  | .a0 i => (y.fs.getD i default).res
  | .a1 i _ => (y.fs.getD i default).res
  | .a2 i _ _ => (y.fs.getD i default).res
theorem kindM_mkA (y : Sy) (i : Nat) (ms : List Mk) : kindM y (mkA i ms) = (y.fs.getD i default).res := by
  match ms with
  | [] => rfl
  | [_] => rfl
  | _ :: _ :: _ => rfl
def nmOf (y : Sy) (i : Nat) : UInt8 := ((y.fs.getD i default).name.data.toList).getD 0 0
/-- The term that is left. -/
def erM (y : Sy) : Mk → Tm
  | .lit k v => .lit k v
  | .co _ m => erM y m
  | .a0 i => .c0 (nmOf y i)
  | .a1 i m => .c1 (nmOf y i) (erM y m)
  | .a2 i m p => .c2 (nmOf y i) (erM y m) (erM y p)
theorem erM_mkA (y : Sy) (i : Nat) (ms : List Mk) (h : ms.length ≤ 2) : erM y (mkA i ms) = mkCall (nmOf y i) (ms.map (erM y)) := by
  match ms, h with
  | [], _ => rfl
  | [_], _ => rfl
  | [_, _], _ => rfl
def coN : Mk → Nat
  | .lit _ _ => 0
  | .co _ m => 1 + coN m
  | .a0 _ => 0
  | .a1 _ m => coN m
  | .a2 _ m p => coN m + coN p
theorem coN_mkA (i : Nat) (ms : List Mk) (h : ms.length ≤ 2) : coN (mkA i ms) = (ms.map coN).sum := by
  match ms, h with
  | [], _ => rfl
  | [_], _ => simp [mkA, coN]
  | [_, _], _ => simp [mkA, coN]
def fnM : Mk → List Int
  | .lit _ _ => []
  | .co _ m => fnM m
  | .a0 i => [(i : Int)]
  | .a1 i m => (i : Int) :: fnM m
  | .a2 i m p => (i : Int) :: (fnM m ++ fnM p)
theorem fnM_mkA (i : Nat) (ms : List Mk) (h : ms.length ≤ 2) : fnM (mkA i ms) = (i : Int) :: (ms.map fnM).flatten := by
  match ms, h with
  | [], _ => rfl
  | [_], _ => simp [mkA, fnM]
  | [_, _], _ => simp [mkA, fnM]
/-- The text of an explicit term. -/
def mkT : Mk → List UInt8
  | .lit k v => dg k ++ [58] ++ dg v
  | .co i m => [35] ++ dg i ++ [40] ++ mkT m ++ [41]
  | .a0 i => [64] ++ dg i ++ [40, 41]
  | .a1 i m => [64] ++ dg i ++ [40] ++ mkT m ++ [41]
  | .a2 i m p => [64] ++ dg i ++ [40] ++ mkT m ++ [44] ++ mkT p ++ [41]

/-- The digit of an index below n. -/
def rdIx (n : Nat) (l : List UInt8) : Option (Nat × List UInt8) :=
  (rdDigit l).bind fun p => if p.1 < (n : Int) then some (p.1.toNat, p.2) else none
def rdOpen (s : UInt8) (n : Nat) (l : List UInt8) : Option (Nat × List UInt8) :=
  (rdTake s l).bind fun r => (rdIx n r).bind fun p => (rdTake 40 p.2).map fun q => (p.1, q)
def rdVal (y : Sy) (l : List UInt8) : Option (Mk × List UInt8) :=
  (rdDigit l).bind fun a => (rdTake 58 a.2).bind fun r => (rdDigit r).bind fun b => if hasV0 y.ty.sizes a.1 b.1 = true then some (.lit a.1 b.1, b.2) else none
def rdOf (rd : List UInt8 → Option (Mk × List UInt8)) (y : Sy) (k : Int) (l : List UInt8) : Option (Mk × List UInt8) :=
  (rd l).bind fun p => if kindM y p.1 = k then some p else none
/-- The first arguments of a function. -/
def rdTo (rd : List UInt8 → Option (Mk × List UInt8)) (y : Sy) (args : List Int) : Nat → List UInt8 → Option (List Mk × List UInt8)
  | 0, l => some ([], l)
  | k + 1, l => (rdTo rd y args k l).bind fun p => (if k = 0 then some p.2 else rdTake 44 p.2).bind fun r => (rdOf rd y (args.getD k 0) r).map fun q => (p.1 ++ [q.1], q.2)
def rdCoM (rd : List UInt8 → Option (Mk × List UInt8)) (y : Sy) (l : List UInt8) : Option (Mk × List UInt8) :=
  (rdOpen 35 y.ty.cos.length l).bind fun p => (rdOf rd y (y.ty.cos.getD p.1 default).src p.2).bind fun q => (rdTake 41 q.2).map fun r => (.co p.1 q.1, r)
def rdApM (rd : List UInt8 → Option (Mk × List UInt8)) (y : Sy) (l : List UInt8) : Option (Mk × List UInt8) :=
  (rdOpen 64 y.fs.length l).bind fun p => (rdTo rd y (y.fs.getD p.1 default).args (y.fs.getD p.1 default).args.length p.2).bind fun q => (rdTake 41 q.2).map fun r => (mkA p.1 q.1, r)
def rdMk (y : Sy) : Nat → List UInt8 → Option (Mk × List UInt8)
  | 0, _ => none
  | f + 1, l => if hasB 35 l = true then rdCoM (rdMk y f) y l else if hasB 64 l = true then rdApM (rdMk y f) y l else rdVal y l
/-- What a text is as an explicit term. -/
def parseM (y : Sy) (l : List UInt8) : Option Mk :=
  if l.length ≤ 400 then match rdMk y l.length l with
    | some (m, []) => some m
    | _ => none
  else none
noncomputable def readM (y : Sy) (l : List UInt8) : Option Mk := if syB y = true then parseM y l else none

theorem rdMk_co (y : Sy) (f : Nat) {l : List UInt8} (h : hasB 35 l = true) : rdMk y (f + 1) l = rdCoM (rdMk y f) y l := by rw [rdMk, if_pos h]
theorem rdMk_ap (y : Sy) (f : Nat) {l : List UInt8} (h0 : hasB 35 l = false) (h : hasB 64 l = true) : rdMk y (f + 1) l = rdApM (rdMk y f) y l := by rw [rdMk, if_neg (by simp [h0]), if_pos h]
theorem rdMk_val (y : Sy) (f : Nat) {l : List UInt8} (h0 : hasB 35 l = false) (h : hasB 64 l = false) : rdMk y (f + 1) l = rdVal y l := by rw [rdMk, if_neg (by simp [h0]), if_neg (by simp [h])]
theorem rdMk_nil (y : Sy) (f : Nat) : rdMk y f [] = none := by
  cases f with
  | zero => rfl
  | succ f => rw [rdMk_val y f rfl rfl]; rfl

theorem rdIx_eq {n : Nat} {l r : List UInt8} {i : Nat} (h : rdIx n l = some (i, r)) : i < n ∧ i ≤ 9 ∧ l = dg (i : Int) ++ r := by
  unfold rdIx at h
  simp only [Option.bind_eq_some_iff] at h
  obtain ⟨⟨z, r1⟩, h1, h2⟩ := h
  obtain ⟨d1, e1⟩ := rdDigit_eq h1
  unfold Dig at d1
  dsimp only at h2
  split at h2
  · rename_i hz
    injection h2 with h2
    injection h2 with h2 h3
    subst h2; subst h3
    refine ⟨by omega, by omega, ?_⟩
    rw [e1]
    congr 2
    omega
  · cases h2
theorem rdOpen_eq {s : UInt8} {n : Nat} {l r : List UInt8} {i : Nat} (h : rdOpen s n l = some (i, r)) : i < n ∧ i ≤ 9 ∧ l = [s] ++ dg (i : Int) ++ [40] ++ r := by
  unfold rdOpen at h
  simp only [Option.bind_eq_some_iff, Option.map_eq_some_iff] at h
  obtain ⟨r1, h1, ⟨j, r2⟩, h2, r3, h3, h4⟩ := h
  injection h4 with h4 h5
  dsimp only at h3 h4
  subst h4; subst h5
  obtain ⟨a1, a2, a3⟩ := rdIx_eq h2
  exact ⟨a1, a2, by rw [rdTake_eq h1, a3, rdTake_eq h3]; simp⟩
theorem rdOf_eq {rd : List UInt8 → Option (Mk × List UInt8)} {y : Sy} {k : Int} {l r : List UInt8} {m : Mk} (h : rdOf rd y k l = some (m, r)) : rd l = some (m, r) ∧ kindM y m = k := by
  unfold rdOf at h
  simp only [Option.bind_eq_some_iff] at h
  obtain ⟨⟨m1, r1⟩, h1, h2⟩ := h
  dsimp only at h2
  split at h2
  · injection h2 with h2
    injection h2 with h2 h3
    subst h2; subst h3
    exact ⟨h1, by assumption⟩
  · cases h2

/-- What an explicit term of a system is. -/
def MkOk (y : Sy) : Mk → Prop
  | .lit k v => Dig k ∧ Dig v ∧ hasV0 y.ty.sizes k v = true
  | .co i m => i < y.ty.cos.length ∧ i ≤ 9 ∧ MkOk y m ∧ kindM y m = (y.ty.cos.getD i default).src
  | .a0 i => i < y.fs.length ∧ i ≤ 9 ∧ (y.fs.getD i default).args.length = 0
  | .a1 i m => i < y.fs.length ∧ i ≤ 9 ∧ (y.fs.getD i default).args.length = 1 ∧ MkOk y m ∧ kindM y m = (y.fs.getD i default).args.getD 0 0
  | .a2 i m p => i < y.fs.length ∧ i ≤ 9 ∧ (y.fs.getD i default).args.length = 2 ∧ MkOk y m ∧ MkOk y p ∧ kindM y m = (y.fs.getD i default).args.getD 0 0 ∧ kindM y p = (y.fs.getD i default).args.getD 1 0
theorem getD_get {α : Type} {l : List α} {d : α} {i : Nat} (h : i < l.length) : l.getD i d = l[i] := by
  rw [List.getD_eq_getElem?_getD, List.getElem?_eq_getElem h]; rfl

/-- What is read is the text of what it is read as. -/
theorem rdMk_eq (y : Sy) (hy : SyOk y) : ∀ (f : Nat) {l r : List UInt8} {m : Mk}, rdMk y f l = some (m, r) → MkOk y m ∧ l = mkT m ++ r
  | 0, l, r, m, h => by cases h
  | f + 1, l, r, m, h => by
    cases h35 : hasB 35 l with
    | true =>
      rw [rdMk_co y f h35] at h
      unfold rdCoM at h
      simp only [Option.bind_eq_some_iff, Option.map_eq_some_iff] at h
      obtain ⟨⟨i, l1⟩, h1, ⟨m1, l2⟩, h2, l3, h3, h4⟩ := h
      obtain ⟨a1, a2, a3⟩ := rdOpen_eq h1
      obtain ⟨b1, b2⟩ := rdOf_eq h2
      obtain ⟨c1, c2⟩ := rdMk_eq y hy f b1
      injection h4 with h4 h5
      subst h4; subst h5
      dsimp only at h3 c2 b2 ⊢
      exact ⟨⟨a1, a2, c1, b2⟩, by rw [a3, c2, rdTake_eq h3]; simp [mkT]⟩
    | false =>
      cases h64 : hasB 64 l with
      | true =>
        rw [rdMk_ap y f h35 h64] at h
        unfold rdApM at h
        simp only [Option.bind_eq_some_iff, Option.map_eq_some_iff] at h
        obtain ⟨⟨i, l1⟩, h1, ⟨ms, l2⟩, h2, l3, h3, h4⟩ := h
        obtain ⟨a1, a2, a3⟩ := rdOpen_eq h1
        injection h4 with h4 h5
        subst h4; subst h5
        dsimp only at h3 h2 ⊢
        have hfew := (hy.each i a1).few
        rw [← getD_get (d := default) a1] at hfew
        have e3 := rdTake_eq h3
        match hn : (y.fs.getD i default).args.length, hfew with
        | 0, _ =>
          rw [hn] at h2
          injection h2 with h2
          injection h2 with h2 h5
          subst h2; subst h5
          exact ⟨⟨a1, a2, hn⟩, by rw [a3, e3]; simp [mkA, mkT]⟩
        | 1, _ =>
          rw [hn] at h2
          simp only [rdTo, Option.bind_some, if_true, Option.map_eq_some_iff] at h2
          obtain ⟨⟨m1, l4⟩, h6, h7⟩ := h2
          injection h7 with h7 h8
          subst h7; subst h8
          obtain ⟨b1, b2⟩ := rdOf_eq h6
          obtain ⟨c1, c2⟩ := rdMk_eq y hy f b1
          dsimp only at e3 c2 b2 ⊢
          exact ⟨⟨a1, a2, hn, c1, b2⟩, by rw [a3, c2, e3]; simp [mkA, mkT]⟩
        | 2, _ =>
          rw [hn] at h2
          simp only [rdTo, Option.bind_some, if_true, Option.map_eq_some_iff, Option.bind_eq_some_iff] at h2
          obtain ⟨⟨ms1, l4⟩, ⟨⟨m1, l5⟩, h6, h7⟩, l6, h8, ⟨m2, l7⟩, h9, h10⟩ := h2
          injection h7 with h7 h11
          subst h7; subst h11
          injection h10 with h10 h11
          subst h10; subst h11
          obtain ⟨b1, b2⟩ := rdOf_eq h6
          obtain ⟨c1, c2⟩ := rdMk_eq y hy f b1
          obtain ⟨b3, b4⟩ := rdOf_eq h9
          obtain ⟨c3, c4⟩ := rdMk_eq y hy f b3
          have e8 : rdTake 44 l5 = some l6 := by simpa using h8
          dsimp only at e3 c2 c4 b2 b4 ⊢
          exact ⟨⟨a1, a2, hn, c1, c3, b2, b4⟩, by rw [a3, c2, rdTake_eq e8, c4, e3]; simp [mkA, mkT]⟩
      | false =>
        rw [rdMk_val y f h35 h64] at h
        unfold rdVal at h
        simp only [Option.bind_eq_some_iff] at h
        obtain ⟨⟨k, l1⟩, h1, l2, h2, ⟨v, l3⟩, h3, h4⟩ := h
        obtain ⟨d1, e1⟩ := rdDigit_eq h1
        obtain ⟨d3, e3⟩ := rdDigit_eq h3
        dsimp only at h2 h4
        split at h4
        · rename_i hv
          injection h4 with h4
          injection h4 with h4 h5
          subst h4; subst h5
          exact ⟨⟨d1, d3, hv⟩, by rw [e1, rdTake_eq h2, e3]; simp [mkT]⟩
        · cases h4
theorem rdMk_len {y : Sy} (hy : SyOk y) {f : Nat} {l r : List UInt8} {m : Mk} (h : rdMk y f l = some (m, r)) : r.length + 3 ≤ l.length := by
  obtain ⟨_, e⟩ := rdMk_eq y hy f h
  rw [e, List.length_append]
  cases m <;> simp [mkT, dg] <;> omega
/-- Reading one more argument fails as the first ones do. -/
theorem rdTo_none {rd : List UInt8 → Option (Mk × List UInt8)} {y : Sy} {args : List Int} {k : Nat} {l : List UInt8} (h : rdTo rd y args k l = none) : ∀ n, k ≤ n → rdTo rd y args n l = none
  | 0, hn => by obtain rfl : k = 0 := by omega
                exact h
  | n + 1, hn => by
    rcases Nat.eq_or_lt_of_le hn with e | e
    · rw [← e]; exact h
    · rw [rdTo, rdTo_none h n (by omega)]; rfl
theorem rdTo_len {rd : List UInt8 → Option (Mk × List UInt8)} {y : Sy} {args : List Int} : ∀ (k : Nat) {l r : List UInt8} {ms : List Mk}, rdTo rd y args k l = some (ms, r) → ms.length = k
  | 0, l, r, ms, h => by
    injection h with h
    injection h with h h2
    rw [← h]; rfl
  | k + 1, l, r, ms, h => by
    rw [rdTo] at h
    simp only [Option.bind_eq_some_iff, Option.map_eq_some_iff] at h
    obtain ⟨⟨ms1, r1⟩, h1, r2, _, ⟨m, r3⟩, _, h3⟩ := h
    injection h3 with h3 h4
    rw [← h3]
    simp [rdTo_len k h1]
theorem mkT_er (y : Sy) : ∀ m : Mk, (tmT (erM y m)).length ≤ (mkT m).length
  | .lit k v => by simp [erM, tmT, mkT]
  | .co i m => by have := mkT_er y m; simp only [erM, mkT, List.length_append]; omega
  | .a0 i => by simp [erM, tmT, mkT, dg]
  | .a1 i m => by have := mkT_er y m; simp [erM, mkT, tmT, dg]; omega
  | .a2 i m p => by have := mkT_er y m; have := mkT_er y p; simp [erM, mkT, tmT, dg]; omega
theorem coN_le : ∀ m : Mk, coN m ≤ (mkT m).length
  | .lit k v => by simp [coN]
  | .co i m => by have := coN_le m; simp [coN, mkT]; omega
  | .a0 i => by simp [coN]
  | .a1 i m => by have := coN_le m; simp [coN, mkT]; omega
  | .a2 i m p => by have := coN_le m; have := coN_le p; simp [coN, mkT]; omega
theorem fnM_le : ∀ m : Mk, (fnM m).length ≤ (mkT m).length
  | .lit k v => by simp [fnM]
  | .co i m => by have := fnM_le m; simp [fnM, mkT]; omega
  | .a0 i => by simp [fnM, mkT]
  | .a1 i m => by have := fnM_le m; simp [fnM, mkT]; omega
  | .a2 i m p => by have := fnM_le m; have := fnM_le p; simp [fnM, mkT]; omega
theorem nmOf_name {y : Sy} {i : Nat} (hy : SyOk y) (hi : i < y.fs.length) : y.fs[i].name = str [nmOf y i] ∧ isN (nmOf y i) = true := by
  obtain ⟨b, hb, h1, h2⟩ := (hy.each i hi).name
  have e : nmOf y i = b := by
    unfold nmOf
    rw [getD_get hi, hb]
    rfl
  rw [e]
  exact ⟨hb, by simp [isN, h1, h2]⟩
theorem erM_ok {y : Sy} (hy : SyOk y) : ∀ {m : Mk}, MkOk y m → TmOk (erM y m)
  | .lit _k _v, h => ⟨h.1, h.2.1⟩
  | .co _i m, h => erM_ok hy (m := m) h.2.2.1
  | .a0 _i, h => (nmOf_name hy h.1).2
  | .a1 _i m, h => ⟨(nmOf_name hy h.1).2, erM_ok hy (m := m) h.2.2.2.1⟩
  | .a2 _i m p, h => ⟨(nmOf_name hy h.1).2, erM_ok hy (m := m) h.2.2.2.1, erM_ok hy (m := p) h.2.2.2.2.1⟩
theorem fnM_64 {y : Sy} : ∀ {m : Mk}, MkOk y m → ∀ z ∈ fnM m, I64 z
  | .lit k v, _, z, hz => by cases hz
  | .co i m, h, z, hz => fnM_64 (m := m) h.2.2.1 z hz
  | .a0 i, h, z, hz => by simp [fnM] at hz; have := h.2.1; unfold I64; omega
  | .a1 i m, h, z, hz => by
    simp [fnM] at hz
    rcases hz with hz | hz
    · have := h.2.1; unfold I64; omega
    · exact fnM_64 (m := m) h.2.2.2.1 z hz
  | .a2 i m p, h, z, hz => by
    simp [fnM] at hz
    rcases hz with hz | hz | hz
    · have := h.2.1; unfold I64; omega
    · exact fnM_64 (m := m) h.2.2.2.1 z hz
    · exact fnM_64 (m := p) h.2.2.2.2.1 z hz
end Go.Proofs.YtgkfddhhkjblgaaGreatDoor

namespace Go.Proofs.YtgkfddhhkjblgaaGreatDoor
open Go.RowKit

/-- What stands in front of what is within a coercion. -/
def opn (i : Int) : List UInt8 := [35] ++ Lib.itoa i ++ [40]
def wrT (m : List UInt8) : List Int → List UInt8
  | [] => m
  | i :: w => wrT (opn i ++ m ++ [41]) w
/-- The last ones first. -/
def opns : List Int → List UInt8
  | [] => []
  | i :: w => opns w ++ opn i
theorem wrT_eq (w : List Int) : ∀ m, wrT m w = opns w ++ m ++ List.replicate w.length 41 := by
  induction w with
  | nil => intro m; simp [wrT, opns]
  | cons i w ih =>
    intro m
    rw [wrT, ih]
    simp [opns, List.append_assoc, List.replicate_succ]
theorem wrT_snoc (m : List UInt8) (w : List Int) (i : Int) : wrT m (w ++ [i]) = opn i ++ wrT m w ++ [41] := by
  induction w generalizing m with
  | nil => rfl
  | cons j w ih => simp only [List.cons_append, wrT, ih]
theorem wrT_take (m : List UInt8) (w : List Int) {k : Nat} (h : k < w.length) : wrT m (w.take (k + 1)) = opn w[k] ++ wrT m (w.take k) ++ [41] := by
  rw [List.take_succ_eq_append_getElem h, wrT_snoc]
theorem opns_drop (w : List Int) {k : Nat} (h : k < w.length) : opns (w.drop k) = opns (w.drop (k + 1)) ++ opn w[k] := by
  rw [List.drop_eq_getElem_cons h]
  rfl
theorem itoa_len {z : Int} (h : -9223372036854775808 ≤ z ∧ z ≤ 9223372036854775807) : 1 ≤ (Lib.itoa z).length ∧ (Lib.itoa z).length ≤ 20 := by
  have hd : ∀ u : Nat, u ≤ 9223372036854775808 → 1 ≤ (Lib.decDigits u).length ∧ (Lib.decDigits u).length ≤ 19 := fun u hu => by
    rw [Lib.decDigits_length]
    refine ⟨Lib.nDigits_pos u, ?_⟩
    rcases Nat.lt_or_ge u (10 ^ 18) with h | h
    · by_cases h0 : Lib.nDigits u ≤ 19
      · exact h0
      · have : ∀ (k v : Nat), v < 10 ^ (k + 1) → Lib.nDigits v ≤ k + 1 := by
          intro k
          induction k with
          | zero => intro v hv; rw [Lib.nDigits_small (by omega)]; omega
          | succ k ih =>
            intro v hv
            by_cases hv10 : v < 10
            · rw [Lib.nDigits_small hv10]; omega
            · rw [Lib.nDigits_big hv10]
              have := ih (v / 10) (by rw [Nat.pow_succ] at hv; omega)
              omega
        have := this 17 u (by omega)
        omega
    · have := Lib.nDigits_unique 18 u h (by omega)
      omega
  unfold Lib.itoa
  split
  · have := hd z.natAbs (by omega)
    simp only [List.length_cons]
    omega
  · have := hd z.toNat (by omega)
    omega
theorem opn_len {z : Int} (h : -9223372036854775808 ≤ z ∧ z ≤ 9223372036854775807) : 3 ≤ (opn z).length ∧ (opn z).length ≤ 22 := by
  have := itoa_len h
  unfold opn
  simp only [List.length_append, List.length_cons, List.length_nil]
  omega
theorem opns_len {w : List Int} (h : ∀ z ∈ w, I64 z) : (opns w).length ≤ 22 * w.length := by
  induction w with
  | nil => simp [opns]
  | cons i w ih =>
    have h1 := opn_len (h i (by simp))
    have h2 := ih fun z hz => h z (by simp [hz])
    simp only [opns, List.length_append, List.length_cons]
    omega
theorem wrT_len {m : List UInt8} {w : List Int} (h : ∀ z ∈ w, I64 z) : (wrT m w).length ≤ m.length + 23 * w.length := by
  have := opns_len h
  rw [wrT_eq]
  simp only [List.length_append, List.length_replicate]
  omega
end Go.Proofs.YtgkfddhhkjblgaaGreatDoor

namespace Go.Proofs.YtgkfddhhkjblgaaGreatDoor
open Go.RowKit

theorem waysJ_mem {cs : List Co} {n : Nat} {k goal : Int} {j : Nat} {z : List Int} : z ∈ waysJ cs n k goal j ↔ ∃ i, i < j ∧ (cs.getD i default).src = k ∧ ∃ y, y ∈ waysF cs n (cs.getD i default).dst goal ∧ (i : Int) :: y = z := by
  unfold waysJ
  simp only [List.mem_flatMap, List.mem_range]
  constructor
  · rintro ⟨i, hi, hz⟩
    split at hz
    case isTrue hs =>
      obtain ⟨y, hy, e⟩ := List.mem_map.1 hz
      exact ⟨i, hi, hs, y, hy, e⟩
    case isFalse => simp at hz
  · rintro ⟨i, hi, hs, y, hy, e⟩
    exact ⟨i, hi, by rw [if_pos hs]; exact List.mem_map.2 ⟨y, hy, e⟩⟩

/-- All ways lead to the goal. -/
theorem waysF_end {cs : List Co} : ∀ (n : Nat) (k goal : Int), ∀ z ∈ waysF cs n k goal, wayEnd cs k z = some goal := by
  intro n
  induction n with
  | zero => intro k goal z hz; simp [waysF] at hz
  | succ n ih =>
    intro k goal z hz
    by_cases h : k = goal
    · subst h; rw [waysF_eq] at hz; simp at hz; subst hz; rfl
    · rw [waysF_ne h] at hz
      obtain ⟨i, hi, hs, y, hy, rfl⟩ := waysJ_mem.1 hz
      rw [wayEnd, show ((i : Int)).toNat = i from Int.toNat_natCast i, if_pos ⟨ixB_yes (by omega) (by omega), hs⟩]
      exact ih _ _ y hy
theorem waysOf_end {t : Ty} {a b : Int} {z : List Int} (h : z ∈ waysOf t a b) : wayEnd t.cos a z = some b := waysF_end 5 a b z h

/-- No way is there twice. -/
theorem waysF_nodup {cs : List Co} : ∀ (n : Nat) (k goal : Int), (waysF cs n k goal).Pairwise (· ≠ ·) := by
  intro n
  induction n with
  | zero => intro k goal; simp [waysF]
  | succ n ih =>
    intro k goal
    by_cases h : k = goal
    · subst h; rw [waysF_eq]; simp
    · rw [waysF_ne h]
      have key : ∀ j, j ≤ cs.length → (waysJ cs n k goal j).Pairwise (· ≠ ·) := by
        intro j
        induction j with
        | zero => intro _; simp [waysJ_zero]
        | succ j ihj =>
          intro hj
          by_cases hs : cs[j].src = k
          · rw [waysJ_hit (by omega) hs, List.pairwise_append]
            refine ⟨ihj (by omega), ?_, fun a ha b hb e => ?_⟩
            · rw [List.pairwise_map]
              exact (ih _ _).imp fun hab e => hab (List.cons.inj e).2
            · obtain ⟨i, hi, _, y, _, rfl⟩ := waysJ_mem.1 ha
              obtain ⟨y2, _, rfl⟩ := List.mem_map.1 hb
              have := (List.cons.inj e).1
              omega
          · rw [waysJ_miss (by omega) hs]
            exact ihj (by omega)
      exact key _ (Nat.le_refl _)

/-- A coercion by itself is a way. -/
theorem waysOf_one {t : Ty} (h : tyOk t = true) {i : Nat} (hi : i < t.cos.length) : [(i : Int)] ∈ waysOf t t.cos[i].src t.cos[i].dst := by
  obtain ⟨h1, h2, h3, _⟩ := coOk_of (tyOk_co h hi)
  show _ ∈ waysF t.cos (4 + 1) _ _
  rw [waysF_ne (by omega)]
  exact waysJ_mem.2 ⟨i, hi, by rw [getD_at hi], [], by rw [getD_at hi]; show _ ∈ waysF t.cos (3 + 1) _ _; rw [waysF_eq]; simp, rfl⟩

/-- What a way makes of each of the four numbers, -1 of those that are no value. -/
def imgAt (t : Ty) (k : Int) (z : List Int) (v : Nat) : Int := if (v : Int) < t.sizes.getD k.toNat 0 then goV t.cos (v : Int) z else -1
def imgV (t : Ty) (k : Int) (z : List Int) : List Int := [imgAt t k z 0, imgAt t k z 1, imgAt t k z 2, imgAt t k z 3]
theorem imgAt_in {t : Ty} {k : Int} {z : List Int} {v : Nat} (h : (v : Int) < t.sizes.getD k.toNat 0) : imgAt t k z v = goV t.cos (v : Int) z := if_pos h
theorem imgAt_out {t : Ty} {k : Int} {z : List Int} {v : Nat} (h : ¬ (v : Int) < t.sizes.getD k.toNat 0) : imgAt t k z v = -1 := if_neg h
theorem imgAt_wf {t : Ty} (h : tyOk t = true) {k : Int} {z : List Int} {v : Nat} (hk : 0 ≤ k) (hk2 : k < t.sizes.length) (hz : (wayEnd t.cos k z).isSome = true) : I64 (imgAt t k z v) := by
  by_cases hv : (v : Int) < t.sizes.getD k.toNat 0
  · rw [imgAt_in hv]
    obtain ⟨q, hq⟩ := goV_val h z k (v : Int) ⟨hk, hk2, by omega, hv⟩ hz
    exact valOf_I64 h hq
  · rw [imgAt_out hv]; unfold I64; omega
theorem sizes_four {t : Ty} (h : tyOk t = true) {k : Int} (hk : 0 ≤ k) (hk2 : k < t.sizes.length) : t.sizes.getD k.toNat 0 ≤ 4 := by
  have hs : k.toNat < t.sizes.length := by omega
  have := (sizesOk_of (tyOk_sizes h)).2.2 _ hs
  rw [List.getD_eq_getElem?_getD, List.getElem?_eq_getElem hs]
  simp only [Option.getD_some]
  omega
/-- Two ways make the same of all values just if their images are one. -/
theorem imgV_eq {t : Ty} (h : tyOk t = true) {k : Int} (hk : 0 ≤ k) (hk2 : k < t.sizes.length) {y z : List Int} : imgV t k y = imgV t k z ↔ ∀ v : Nat, (v : Int) < t.sizes.getD k.toNat 0 → goV t.cos (v : Int) y = goV t.cos (v : Int) z := by
  have h4 := sizes_four h hk hk2
  constructor
  · intro e v hv
    simp only [imgV, List.cons.injEq, and_true] at e
    obtain ⟨e0, e1, e2, e3⟩ := e
    have hlt : v < 4 := by omega
    rw [← imgAt_in (z := y) hv, ← imgAt_in (z := z) hv]
    rcases (by omega : v = 0 ∨ v = 1 ∨ v = 2 ∨ v = 3) with rfl | rfl | rfl | rfl <;> assumption
  · intro e
    have key : ∀ v : Nat, imgAt t k y v = imgAt t k z v := fun v => by
      by_cases hv : (v : Int) < t.sizes.getD k.toNat 0
      · rw [imgAt_in hv, imgAt_in hv, e v hv]
      · rw [imgAt_out hv, imgAt_out hv]
    simp only [imgV, key]

/-- Do all ways make the same of a value? -/
def sameB (t : Ty) (a b v : Int) : Bool := (waysOf t a b).all fun z => goV t.cos v z == goV t.cos v ((waysOf t a b).headD [])
def agreeV (t : Ty) (a b v : Int) : Bool := typesB t a b && (hasV0 t.sizes a v && sameB t a b v)
/-- Does another way make the same as a coercion? -/
def redB (t : Ty) (i : Nat) (c : Co) : Bool := (waysOf t c.src c.dst).any fun z => !(decide (z = [(i : Int)])) && decide (mapL t.cos z (t.sizes.getD c.src.toNat 0).toNat = c.map)
end Go.Proofs.YtgkfddhhkjblgaaGreatDoor

namespace Go.Proofs.YtgkfddhhkjblgaaGreatDoor
open Go.RowKit

/-- An explicit term within the coercions of a way, the first one innermost. -/
def coM : List Int → Mk → Mk
  | [], m => m
  | i :: w, m => coM w (.co i.toNat m)
theorem itoa_dg {z : Int} (h : Dig z) : Lib.itoa z = dg z := by
  obtain ⟨h0, h9⟩ := h
  obtain ⟨n, rfl⟩ : ∃ n : Nat, z = n := ⟨z.toNat, by omega⟩
  unfold Lib.itoa
  rw [if_neg (by omega), Int.toNat_natCast, dg_dec (by omega)]
theorem coM_text : ∀ (zs : List Int) (m : Mk), (∀ z ∈ zs, Dig z) → mkT (coM zs m) = wrT (mkT m) zs
  | [], m, _ => rfl
  | i :: w, m, h => by
    have hi := h i (by simp)
    have e : ((i.toNat : Nat) : Int) = i := by unfold Dig at hi; omega
    rw [coM, coM_text w _ fun z hz => h z (by simp [hz]), wrT, mkT, e]
    unfold opn
    rw [itoa_dg hi]
theorem coM_len : ∀ (zs : List Int) (m : Mk), (mkT (coM zs m)).length = (mkT m).length + 4 * zs.length
  | [], m => rfl
  | i :: w, m => by
    rw [coM, coM_len w]
    simp [mkT, dg]
    omega
/-- A way leads an explicit term to its end. -/
theorem coM_ok {y : Sy} (hc : y.ty.cos.length ≤ 8) {b : Int} : ∀ (zs : List Int) (m : Mk), MkOk y m → wayEnd y.ty.cos (kindM y m) zs = some b → MkOk y (coM zs m) ∧ kindM y (coM zs m) = b ∧ ∀ z ∈ zs, Dig z
  | [], m, h, e => by
    simp only [wayEnd, Option.some.injEq] at e
    exact ⟨h, e, fun z hz => by cases hz⟩
  | i :: w, m, h, e => by
    rw [wayEnd] at e
    split at e
    · rename_i hi
      have h1 : 0 ≤ i ∧ i < (y.ty.cos.length : Int) := by
        have := hi.1
        unfold ixB at this
        simp only [decide_eq_true_eq] at this
        omega
      have hk : kindM y (.co i.toNat m) = (y.ty.cos.getD i.toNat default).dst := rfl
      have h2 : MkOk y (.co i.toNat m) := ⟨by omega, by omega, h, hi.2.symm⟩
      obtain ⟨h3, h4, h5⟩ := coM_ok hc w (.co i.toNat m) h2 (by rw [hk]; exact e)
      refine ⟨h3, h4, fun z hz => ?_⟩
      rcases List.mem_cons.1 hz with h6 | h6
      · subst h6; unfold Dig; omega
      · exact h5 z h6
    · cases e

/-- The words for how it went. -/
def wUnk : ByteArray := ⟨#[117, 110, 107, 110, 111, 119, 110]⟩
def wLong : ByteArray := ⟨#[108, 111, 110, 103]⟩
def wOk : ByteArray := ⟨#[111, 107]⟩
/-- The explicit terms of a call's arguments, each within its shortest way. -/
def coArgs (y : Sy) (args : List Int) : List Mk → Nat → List Mk
  | [], _ => []
  | m :: ms, k => coM (shortV y.ty (kindM y m) (args.getD k 0)) m :: coArgs y args ms (k + 1)
/-- What is made of a call whose arguments have been made explicit, or the word for why nothing is. -/
noncomputable def elCall (y : Sy) (nm : UInt8) (ms : List Mk) : Except ByteArray Mk :=
  if pickW (ltB y) (applicV y (str [nm]) (ms.map (kindM y))) = wOne then
    .ok (mkA (pickI (ltB y) (applicV y (str [nm]) (ms.map (kindM y)))).toNat (coArgs y (argsOf y (pickI (ltB y) (applicV y (str [nm]) (ms.map (kindM y))))) ms 0))
  else .error (pickW (ltB y) (applicV y (str [nm]) (ms.map (kindM y))))
noncomputable def elM (y : Sy) : Tm → Except ByteArray Mk
  | .lit k v => if hasV0 y.ty.sizes k v = true then .ok (.lit k v) else .error wUnk
  | .c0 n => elCall y n []
  | .c1 n a => match elM y a with
    | .ok p => elCall y n [p]
    | .error e => .error e
  | .c2 n a b => match elM y a with
    | .ok p => match elM y b with
      | .ok q => elCall y n [p, q]
      | .error e => .error e
    | .error e => .error e
theorem coArgs_len (y : Sy) (args : List Int) : ∀ (ms : List Mk) (k : Nat), (coArgs y args ms k).length = ms.length
  | [], _ => rfl
  | m :: ms, k => by simp [coArgs, coArgs_len y args ms (k + 1)]
theorem shortV_end {t : Ty} {a b : Int} (h : canC t a b = true) : wayEnd t.cos a (shortV t a b) = some b := by
  unfold canC at h
  simp only [Bool.and_eq_true] at h
  rw [shortV_yes h.1]
  cases hs : shortO (waysOf t a b) with
  | some z => exact waysOf_end (shortO_mem _ _ hs)
  | none =>
    exfalso
    have hne : waysOf t a b ≠ [] := by
      intro e
      have h2 := h.2
      unfold canB at h2
      simp [e] at h2
    obtain ⟨z, hz⟩ := shortO_some _ hne
    rw [hz] at hs
    cases hs
/-- What has been chosen is applicable. -/
theorem pick_one {lt : Int → Int → Bool} {L : List Int} (h : pickW lt L = wOne) : pickI lt L ∈ L := by
  unfold pickW at h
  unfold pickI
  cases hf : L.find? (chiefB lt L) with
  | some i => exact List.mem_of_find?_eq_some hf
  | none =>
    rw [hf] at h
    dsimp only at h
    split at h
    · exact absurd h (by decide)
    · exact absurd h (by decide)
theorem elCall_ok {y : Sy} (hy : SyOk y) {nm : UInt8} {ms : List Mk} {m : Mk} (h2 : ms.length ≤ 2) (hms : ∀ p ∈ ms, MkOk y p) (h : elCall y nm ms = .ok m) : MkOk y m := by
  unfold elCall at h
  split at h
  · rename_i hw
    obtain ⟨_, i, hi, _, ha, e⟩ := applicV_mem.1 (pick_one hw)
    rw [e] at h
    injection h with h
    subst h
    rw [Int.toNat_natCast]
    have hai : argsOf y (i : Int) = (y.fs.getD i default).args := by unfold argsOf; rw [Int.toNat_natCast]
    rw [hai]
    have h8 := hy.few
    have hc8 := tyOk_few hy.ty
    obtain ⟨hl, hc⟩ := ha
    rw [List.length_map] at hl hc
    match ms, h2, hms, hl, hc with
    | [], _, _, hl, _ => exact ⟨hi, by omega, by simpa using hl.symm⟩
    | [p], _, hms, hl, hc =>
      have c0 := hc 0 (by simp)
      simp at c0
      obtain ⟨o1, k1, _⟩ := coM_ok hc8 _ p (hms p (by simp)) (shortV_end c0)
      exact ⟨hi, by omega, by simpa using hl.symm, o1, k1⟩
    | [p, q], _, hms, hl, hc =>
      have c0 := hc 0 (by simp)
      have c1 := hc 1 (by simp)
      simp at c0 c1
      obtain ⟨o1, k1, _⟩ := coM_ok hc8 _ p (hms p (by simp)) (shortV_end c0)
      obtain ⟨o2, k2, _⟩ := coM_ok hc8 _ q (hms q (by simp)) (shortV_end c1)
      exact ⟨hi, by omega, by simpa using hl.symm, o1, o2, k1, k2⟩
  · cases h
theorem elM_ok {y : Sy} (hy : SyOk y) : ∀ {t : Tm} {m : Mk}, TmOk t → elM y t = .ok m → MkOk y m
  | .lit k v, m, ht, h => by
    rw [elM] at h
    split at h
    · rename_i hv
      injection h with h
      subst h
      exact ⟨ht.1, ht.2, hv⟩
    · cases h
  | .c0 n, m, _, h => elCall_ok hy (by simp) (fun p hp => by cases hp) h
  | .c1 n a, m, ht, h => by
    rw [elM] at h
    split at h
    · rename_i p hp
      exact elCall_ok hy (by simp) (fun x hx => by simp at hx; subst hx; exact elM_ok hy ht.2 hp) h
    · cases h
  | .c2 n a b, m, ht, h => by
    rw [elM] at h
    split at h
    · rename_i p hp
      split at h
      · rename_i q hq
        refine elCall_ok hy (by simp) (fun x hx => ?_) h
        simp at hx
        rcases hx with hx | hx
        · subst hx; exact elM_ok hy ht.2.1 hp
        · subst hx; exact elM_ok hy ht.2.2 hq
      · cases h
    · cases h
/-- What is made of a call is not much longer than what is made of its arguments. -/
theorem elCall_len {y : Sy} {nm : UInt8} {ms : List Mk} {m : Mk} (h2 : ms.length ≤ 2) (h : elCall y nm ms = .ok m) : (mkT m).length ≤ 5 + (ms.map fun p => (mkT p).length + 20).sum := by
  unfold elCall at h
  split at h
  · injection h with h
    subst h
    have hs := fun a b => (shortV_wf y.ty a b).2
    match ms, h2 with
    | [], _ => simp [coArgs, mkA, mkT, dg]
    | [p], _ =>
      have h1 := hs (kindM y p) ((argsOf y (pickI (ltB y) (applicV y (str [nm]) ([p].map (kindM y))))).getD 0 0)
      simp only [coArgs, mkA, mkT, List.length_append, coM_len, List.map_cons, List.map_nil, List.sum_cons, List.sum_nil, dg, List.length_cons, List.length_nil] at h1 ⊢
      omega
    | [p, q], _ =>
      have h1 := hs (kindM y p) ((argsOf y (pickI (ltB y) (applicV y (str [nm]) ([p, q].map (kindM y))))).getD 0 0)
      have h2 := hs (kindM y q) ((argsOf y (pickI (ltB y) (applicV y (str [nm]) ([p, q].map (kindM y))))).getD (0 + 1) 0)
      simp only [coArgs, mkA, mkT, List.length_append, coM_len, List.map_cons, List.map_nil, List.sum_cons, List.sum_nil, dg, List.length_cons, List.length_nil] at h1 h2 ⊢
      omega
  · cases h
theorem elM_len {y : Sy} : ∀ {t : Tm} {m : Mk}, elM y t = .ok m → (mkT m).length ≤ 24 * (tmT t).length
  | .lit k v, m, h => by
    rw [elM] at h
    split at h
    · injection h with h
      subst h
      simp [mkT, tmT, dg]
    · cases h
  | .c0 n, m, h => by
    have h1 := elCall_len (by simp) h
    simp at h1
    simp [tmT]
    omega
  | .c1 n a, m, h => by
    rw [elM] at h
    split at h
    · rename_i p hp
      have h1 := elCall_len (by simp) h
      have h2 := elM_len hp
      simp at h1
      simp [tmT]
      omega
    · cases h
  | .c2 n a b, m, h => by
    rw [elM] at h
    split at h
    · rename_i p hp
      split at h
      · rename_i q hq
        have h1 := elCall_len (by simp) h
        have h2 := elM_len hp
        have h3 := elM_len hq
        simp at h1
        simp [tmT]
        omega
      · cases h
    · cases h
end Go.Proofs.YtgkfddhhkjblgaaGreatDoor

namespace Go.Proofs.YtgkfddhhkjblgaaGreatDoor
open Go.RowKit

/-- What stands ahead of the bracket that is open when a reversed text has been read. -/
def mat : List UInt8 → Nat → Option (List UInt8)
  | [], _ => none
  | c :: r, e => if c = 41 then mat r (e + 1) else if c = 40 then (if e ≤ 1 then some r else mat r (e - 1)) else mat r e
theorem mat_skip {c : UInt8} {r : List UInt8} {e : Nat} (h1 : c ≠ 41) (h2 : c ≠ 40) : mat (c :: r) e = mat r e := by rw [mat, if_neg h1, if_neg h2]
theorem mat_close (r : List UInt8) (e : Nat) : mat (41 :: r) e = mat r (e + 1) := by rw [mat, if_pos rfl]
theorem mat_open {r : List UInt8} {e : Nat} (h : 2 ≤ e) : mat (40 :: r) e = mat r (e - 1) := by rw [mat, if_neg (by decide), if_pos rfl, if_neg (by omega)]
theorem digit_ne {z : Int} (h : Dig z) : UInt8.ofNat (48 + z.toNat) ≠ 41 ∧ UInt8.ofNat (48 + z.toNat) ≠ 40 := by
  have hd := isD_of (isD_dg h).1
  constructor
  · intro e; rw [e] at hd; revert hd; decide
  · intro e; rw [e] at hd; revert hd; decide
theorem name_ne {n : UInt8} (h : isN n = true) : n ≠ 41 ∧ n ≠ 40 := by
  constructor
  · rintro rfl; exact absurd h (by decide)
  · rintro rfl; exact absurd h (by decide)
/-- A term's text has its brackets within itself. -/
theorem mat_term : ∀ (t : Tm), TmOk t → ∀ (r : List UInt8) (e : Nat), 1 ≤ e → mat ((tmT t).reverse ++ r) e = mat r e
  | .lit k v, h, r, e, he => by
    have e1 : (tmT (.lit k v)).reverse ++ r = UInt8.ofNat (48 + v.toNat) :: 58 :: UInt8.ofNat (48 + k.toNat) :: r := by simp [tmT, dg]
    rw [e1, mat_skip (digit_ne h.2).1 (digit_ne h.2).2, mat_skip (by decide) (by decide), mat_skip (digit_ne h.1).1 (digit_ne h.1).2]
  | .c0 n, h, r, e, he => by
    have e1 : (tmT (.c0 n)).reverse ++ r = 41 :: 40 :: n :: r := by simp [tmT]
    have hn := name_ne (show isN n = true from h)
    rw [e1, mat_close, mat_open (by omega), Nat.add_sub_cancel, mat_skip hn.1 hn.2]
  | .c1 n a, h, r, e, he => by
    have e1 : (tmT (.c1 n a)).reverse ++ r = 41 :: ((tmT a).reverse ++ (40 :: n :: r)) := by simp [tmT]
    have hn := name_ne h.1
    rw [e1, mat_close, mat_term a h.2 _ _ (by omega), mat_open (by omega), Nat.add_sub_cancel, mat_skip hn.1 hn.2]
  | .c2 n a b, h, r, e, he => by
    have e1 : (tmT (.c2 n a b)).reverse ++ r = 41 :: ((tmT b).reverse ++ (44 :: ((tmT a).reverse ++ (40 :: n :: r)))) := by simp [tmT]
    have hn := name_ne h.1
    rw [e1, mat_close, mat_term b h.2.2 _ _ (by omega), mat_skip (by decide) (by decide), mat_term a h.2.1 _ _ (by omega), mat_open (by omega), Nat.add_sub_cancel, mat_skip hn.1 hn.2]
/-- Terms with commas between. -/
theorem mat_join : ∀ (ts : List Tm), (∀ t ∈ ts, TmOk t) → ∀ (r : List UInt8) (e : Nat), 1 ≤ e → mat ((Lib.join (ts.map tmT) [44]).reverse ++ r) e = mat r e
  | [], _, r, e, _ => by simp [Lib.join]
  | [t], h, r, e, he => by
    rw [List.map_cons, List.map_nil, Lib.join_one]
    exact mat_term t (h t (by simp)) r e he
  | t :: u :: ts, h, r, e, he => by
    have e1 : Lib.join ((t :: u :: ts).map tmT) [44] = tmT t ++ ([44] ++ Lib.join ((u :: ts).map tmT) [44]) := by
      simp only [List.map_cons, Lib.join_cons]
      rfl
    rw [e1]
    simp only [List.reverse_append, List.append_assoc, List.reverse_cons, List.nil_append, List.cons_append]
    rw [mat_join (u :: ts) (fun x hx => h x (List.mem_cons_of_mem _ hx)) _ _ he, mat_skip (by decide) (by decide), mat_term t (h t (by simp)) _ _ he]

/-- The text of a call with arguments. -/
def callL (nm : List UInt8) (ps : List (List UInt8)) : List UInt8 := nm ++ [40] ++ Lib.join ps [44] ++ [41]
theorem mat_call (nm : List UInt8) (ts : List Tm) (h : ∀ t ∈ ts, TmOk t) : mat (callL nm (ts.map tmT)).reverse 0 = some nm.reverse := by
  have e1 : (callL nm (ts.map tmT)).reverse = 41 :: ((Lib.join (ts.map tmT) [44]).reverse ++ (40 :: nm.reverse)) := by simp [callL]
  rw [e1, mat_close, mat_join ts h _ _ (Nat.le_refl _), mat, if_neg (by decide), if_pos rfl, if_pos (by decide)]
/-- A term that ends with a bracket has one sign ahead of the one that opens it. -/
theorem mat_one {t : Tm} (h : TmOk t) {nm : List UInt8} (hm : mat (tmT t).reverse 0 = some nm.reverse) : ∃ n, nm = [n] ∧ isN n = true := by
  have fin : ∀ {n : UInt8} {x : List UInt8}, isN n = true → some [n] = some nm.reverse → ∃ n, nm = [n] ∧ isN n = true := by
    intro n _ hn e
    injection e with e
    refine ⟨n, ?_, hn⟩
    rw [← List.reverse_reverse nm, ← e]
    rfl
  cases t with
  | lit k v =>
    exfalso
    have e1 : (tmT (.lit k v)).reverse = [UInt8.ofNat (48 + v.toNat), 58, UInt8.ofNat (48 + k.toNat)] := by simp [tmT, dg]
    rw [e1, mat_skip (digit_ne h.2).1 (digit_ne h.2).2, mat_skip (by decide) (by decide), mat_skip (digit_ne h.1).1 (digit_ne h.1).2] at hm
    cases hm
  | c0 n =>
    have e1 : (tmT (.c0 n)).reverse = 41 :: 40 :: [n] := by simp [tmT]
    rw [e1, mat_close, mat, if_neg (by decide), if_pos rfl, if_pos (by decide)] at hm
    exact fin (x := []) h hm
  | c1 n a =>
    have e1 : (tmT (.c1 n a)).reverse = 41 :: ((tmT a).reverse ++ (40 :: [n])) := by simp [tmT]
    rw [e1, mat_close, mat_term a h.2 _ _ (by omega), mat, if_neg (by decide), if_pos rfl, if_pos (by decide)] at hm
    exact fin (x := []) h.1 hm
  | c2 n a b =>
    have e1 : (tmT (.c2 n a b)).reverse = 41 :: ((tmT b).reverse ++ (44 :: ((tmT a).reverse ++ (40 :: [n])))) := by simp [tmT]
    rw [e1, mat_close, mat_term b h.2.2 _ _ (by omega), mat_skip (by decide) (by decide), mat_term a h.2.1 _ _ (by omega), mat, if_neg (by decide), if_pos rfl, if_pos (by decide)] at hm
    exact fin (x := []) h.1 hm

def allV (ps : List (List UInt8)) : Bool := ps.all fun p => (parseT p).isSome
theorem allV_terms : ∀ {ps : List (List UInt8)}, allV ps = true → ∃ ts : List Tm, ps = ts.map tmT ∧ ∀ t ∈ ts, TmOk t
  | [], _ => ⟨[], rfl, fun t h => by cases h⟩
  | p :: ps, h => by
    simp only [allV, List.all_cons, Bool.and_eq_true] at h
    obtain ⟨t, ht⟩ := Option.isSome_iff_exists.1 h.1
    obtain ⟨ho, e, _⟩ := parseT_tmT.1 ht
    obtain ⟨ts, e2, h2⟩ := allV_terms (ps := ps) h.2
    exact ⟨t :: ts, by rw [e, e2]; rfl, fun x hx => by
      rcases List.mem_cons.1 hx with rfl | hx
      · exact ho
      · exact h2 x hx⟩
/-- No call has more than two arguments. -/
theorem call_two {nm : List UInt8} {ps : List (List UInt8)} (hv : allV ps = true) (h2 : 2 < ps.length) : parseT (callL nm ps) = none := by
  obtain ⟨ts, rfl, hts⟩ := allV_terms hv
  cases hp : parseT (callL nm (ts.map tmT)) with
  | none => rfl
  | some t =>
    exfalso
    obtain ⟨ho, e, hl⟩ := parseT_tmT.1 hp
    have hm := mat_call nm ts hts
    rw [e] at hm
    obtain ⟨n, rfl, hn⟩ := mat_one ho hm
    match ts, h2, hts with
    | a :: b :: c :: r, _, hts =>
      have e1 : callL [n] ((a :: b :: c :: r).map tmT) = n :: 40 :: (tmT a ++ (44 :: (tmT b ++ (44 :: (Lib.join ((c :: r).map tmT) [44] ++ [41]))))) := by
        simp only [callL, List.map_cons, Lib.join_cons, Lib.joinTail]
        simp [List.append_assoc]
      obtain ⟨f, hf⟩ : ∃ f, (callL [n] ((a :: b :: c :: r).map tmT)).length = f + 1 := ⟨_, by rw [e1]; rfl⟩
      have hq := hp
      unfold parseT at hq
      rw [if_pos hl, hf, e1, rdTm_name f _ hn] at hq
      have hla : (tmT a).length ≤ f ∧ (tmT b).length ≤ f := by
        have := congrArg List.length e1
        simp only [List.length_cons, List.length_append] at this
        omega
      unfold rdCall at hq
      rw [rdTake_cons] at hq
      simp only [Option.bind_some] at hq
      rw [rdArgs, if_neg (by rw [hasB_41 (hts a (by simp))]; simp), rdTm_tmT f _ (hts a (by simp)) hla.1] at hq
      simp only [Option.bind_some] at hq
      rw [if_pos (by simp [hasB]), rdTake_cons] at hq
      simp only [Option.bind_some] at hq
      rw [rdTm_tmT f _ (hts b (by simp)) hla.2] at hq
      simp [rdTake] at hq
def callV (nm : List UInt8) (ps : List (List UInt8)) : Option (List UInt8) := if (allV ps && (parseT (callL nm ps)).isSome) = true then some (callL nm ps) else none
def callM (nm : List UInt8) (ps : List (List UInt8)) : Option (List UInt8) := if (allV ps && decide (ps.length ≤ 2) && (parseT (callL nm ps)).isSome) = true then some (callL nm ps) else none
theorem call_same (nm : List UInt8) (ps : List (List UInt8)) : callM nm ps = callV nm ps := by
  unfold callM callV
  cases ha : allV ps with
  | false => rfl
  | true =>
    by_cases h2 : ps.length ≤ 2
    · rw [show decide (ps.length ≤ 2) = true by simpa using h2]
      rfl
    · rw [call_two ha (by omega), show decide (ps.length ≤ 2) = false by simpa using h2]
      rfl
/-- The text as the model makes it: the first k parts. -/
def joinTo (nm : List UInt8) (ps : List (List UInt8)) : Nat → List UInt8
  | 0 => nm ++ [40]
  | k + 1 => joinTo nm ps k ++ (if 0 < k then [44] else []) ++ ps.getD k []
theorem joinTo_eq (nm : List UInt8) (ps : List (List UInt8)) : ∀ k, k ≤ ps.length → joinTo nm ps k = nm ++ [40] ++ Lib.join (ps.take k) [44]
  | 0, _ => by simp [joinTo, Lib.join]
  | 1, h => by
    have e : ps.take 1 = [ps[0]] := by
      rw [List.take_succ_eq_append_getElem (by omega)]
      simp
    rw [e, Lib.join_one]
    simp [joinTo, List.getD_eq_getElem?_getD, List.getElem?_eq_getElem (show 0 < ps.length by omega)]
  | k + 2, h => by
    have ih := joinTo_eq nm ps (k + 1) (by omega)
    rw [joinTo, ih, if_pos (by omega)]
    match ps, h with
    | z :: l, h =>
      have hk' : k < l.length := by simp at h; omega
      simp only [List.take_succ_cons, Lib.join_cons]
      have e := Lib.joinTail_take_succ [44] l k l[k] (by simp [hk'])
      rw [e]
      have e2 : (z :: l).getD (k + 1) [] = l[k] := by
        rw [List.getD_eq_getElem?_getD, List.getElem?_cons_succ, List.getElem?_eq_getElem hk']
        rfl
      rw [e2]
      simp [List.append_assoc]
theorem joinTo_all (nm : List UInt8) (ps : List (List UInt8)) : joinTo nm ps ps.length ++ [41] = callL nm ps := by
  rw [joinTo_eq nm ps _ (Nat.le_refl _), List.take_length]
  rfl
theorem joinTo_len (nm : List UInt8) (ps : List (List UInt8)) : ∀ k, k ≤ ps.length → (joinTo nm ps k).length ≤ nm.length + 1 + k + ((ps.map List.length).take k).sum
  | 0, _ => by simp [joinTo]
  | k + 1, h => by
    have ih := joinTo_len nm ps k (by omega)
    have e : ps.getD k [] = ps[k] := by rw [List.getD_eq_getElem?_getD, List.getElem?_eq_getElem (by omega)]; rfl
    have e2 : ((ps.map List.length).take (k + 1)).sum = ((ps.map List.length).take k).sum + ps[k].length := by
      rw [List.take_succ_eq_append_getElem (by simpa using (show k < ps.length by omega)), List.sum_append]
      simp
    rw [joinTo, e, e2, List.length_append, List.length_append]
    split
    · simp; omega
    · simp; omega
end Go.Proofs.YtgkfddhhkjblgaaGreatDoor

