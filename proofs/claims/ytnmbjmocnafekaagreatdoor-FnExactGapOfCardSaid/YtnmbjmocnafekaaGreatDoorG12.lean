/-
  How the program's reader reads a text from the left; plain data only. What a call of the reader keeps.
  The contracts of the program's reader: has, take, end, digit.
  The contracts of CoercionsFrom, the program's and the model's.
  The contract of the program's reader: digits.
  Terms as data: their texts, and how a reader reads them from the left; plain data only.
  Where a term ends: as data (what the model's reader says of a text); plain data only.
  What is told of a term: its size, its depth, its head, its parts; plain data only.
-/
import Derived.Test.YtnmbjmocnafekaaGreatDoorG4
import Derived.WalkLawsBesides
import Derived.Test.YtnmbjmocnafekaaGreatDoorG5
import Derived.Test.YtnmbjmocnafekaaGreatDoorG2
namespace Go.Proofs.YtnmbjmocnafekaaGreatDoor
open Go.RowKit

def isD (c : UInt8) : Bool := decide (48 ≤ c.toNat) && decide (c.toNat ≤ 57)
def valD (c : UInt8) : Int := (c.toNat : Int) - 48
def rdDigit : List UInt8 → Option (Int × List UInt8)
  | [] => none
  | c :: l => if isD c = true then some (valD c, l) else none
def rdTake (s : UInt8) : List UInt8 → Option (List UInt8)
  | [] => none
  | c :: l => if c = s then some l else none
def hasB (s : UInt8) : List UInt8 → Bool
  | [] => false
  | c :: _ => decide (c = s)
/-- Further numbers, each behind one space. -/
def rdMore : List UInt8 → Option (List Int × List UInt8)
  | [] => some ([], [])
  | [c] => if c = 32 then none else some ([], [c])
  | c :: d :: r => if c = 32 then (if isD d = true then (rdMore r).map fun p => (valD d :: p.1, p.2) else none) else some ([], c :: d :: r)
def rdNums (l : List UInt8) : Option (List Int × List UInt8) := (rdDigit l).bind fun p => (rdMore p.2).map fun q => (p.1 :: q.1, q.2)
def rdCo (l : List UInt8) : Option (Co × List UInt8) :=
  (rdDigit l).bind fun a => (rdTake 62 a.2).bind fun r1 => (rdDigit r1).bind fun b => (rdTake 58 b.2).bind fun r2 => (rdNums r2).map fun m => (⟨a.1, b.1, m.1⟩, m.2)
theorem rdMore_space {l : List UInt8} (h : hasB 32 l = true) : rdMore l = (rdTake 32 l).bind fun r => (rdDigit r).bind fun p => (rdMore p.2).map fun q => (p.1 :: q.1, q.2) := by
  match l, h with
  | [c], h =>
    have hc : c = 32 := by simpa [hasB] using h
    subst hc
    rfl
  | c :: d :: r, h =>
    have hc : c = 32 := by simpa [hasB] using h
    subst hc
    by_cases hd : isD d = true
    · simp [rdMore, rdTake, rdDigit, hd]
    · simp [rdMore, rdTake, rdDigit, hd]
theorem rdMore_end {l : List UInt8} (h : hasB 32 l = false) : rdMore l = some ([], l) := by
  match l, h with
  | [], _ => rfl
  | [c], h =>
    have hc : ¬ c = 32 := by simpa [hasB] using h
    simp [rdMore, hc]
  | c :: d :: r, h =>
    have hc : ¬ c = 32 := by simpa [hasB] using h
    simp [rdMore, hc]
theorem rdDigit_len {l r : List UInt8} {z : Int} (h : rdDigit l = some (z, r)) : r.length + 1 = l.length := by
  match l, h with
  | c :: l, h =>
    simp only [rdDigit] at h
    split at h
    · simp only [Option.some.injEq, Prod.mk.injEq] at h
      rw [← h.2]
      rfl
    · cases h
theorem rdTake_len {s : UInt8} {l r : List UInt8} (h : rdTake s l = some r) : r.length + 1 = l.length := by
  match l, h with
  | c :: l, h =>
    simp only [rdTake] at h
    split at h
    · simp only [Option.some.injEq] at h
      rw [← h]
      rfl
    · cases h
theorem rdDigit_dig {l r : List UInt8} {z : Int} (h : rdDigit l = some (z, r)) : Dig z := by
  match l, h with
  | c :: l, h =>
    simp only [rdDigit] at h
    split at h
    · rename_i hc
      simp only [Option.some.injEq, Prod.mk.injEq] at h
      simp only [isD, Bool.and_eq_true, decide_eq_true_eq] at hc
      rw [← h.1]
      unfold Dig valD
      omega
    · cases h

/-- What a call of the reader in block b keeps: every block that stood, but b. -/
structure Keep (b : Nat) (w w' : World) : Prop where
  grown : w.grownBy w' (some b)
theorem Keep.refl (b : Nat) (w : World) : Keep b w w := ⟨⟨rfl, rfl, rfl, Nat.le_refl _, fun _ _ _ => rfl⟩⟩
theorem Keep.size {b : Nat} {w w' : World} (h : Keep b w w') : w.heap.size ≤ w'.heap.size := h.grown.size
theorem Keep.block {b : Nat} {w w' : World} (h : Keep b w w') {k : Nat} (hk : k < w.heap.size) (hb : k ≠ b) : w'.heap[k]? = w.heap[k]? := h.grown.block k hk fun e => hb (Option.some.inj e)
theorem Keep.trans {b : Nat} {w w' w'' : World} (h : Keep b w w') (k : Keep b w' w'') : Keep b w w'' :=
  ⟨⟨k.grown.os.trans h.grown.os, k.grown.tape.trans h.grown.tape, k.grown.output.trans h.grown.output, Nat.le_trans h.size k.size, fun j hj hb => (k.grown.block j (Nat.lt_of_lt_of_le hj h.size) hb).trans (h.grown.block j hj hb)⟩⟩
theorem Keep.of_below {b : Nat} {w w' w'' : World} (h : Keep b w w') (k : Below w'.heap.size w' w'') : Keep b w w'' :=
  h.trans ⟨⟨k.os, k.tape, k.output, k.size, fun j hj _ => k.block j hj⟩⟩
theorem Keep.setb {b : Nat} {w w' : World} (h : Keep b w w') (v : Value) : Keep b w (w'.setCell ⟨b, 0, none⟩ v) :=
  h.trans ⟨⟨rfl, rfl, rfl, by simp [World.setCell], fun j _ hb => Below.heap_setCell _ _ _ _ (fun e => hb (by simp [e]))⟩⟩
theorem Keep.below {b B : Nat} {w w' : World} (h : Keep b w w') (hb : B ≤ b) (hB : B ≤ w.heap.size) : Below B w w' :=
  ⟨h.grown.os, h.grown.tape, h.grown.output, h.size, fun k hk => h.block (by omega) (by omega)⟩
end Go.Proofs.YtnmbjmocnafekaaGreatDoor

namespace Go.Proofs.YtnmbjmocnafekaaGreatDoor
open Go.RowKit

/-- The reader in block b is before l. -/
def Txr (b : Nat) (l : List UInt8) (w : World) : Prop := Row w b 235 [.string (str l)]
theorem Txr.lt {b : Nat} {l : List UInt8} {w : World} (h : Txr b l w) : b < w.heap.size := Row.lt h
theorem Txr.cell {b : Nat} {l : List UInt8} {w : World} (h : Txr b l w) : w.cell? ⟨b, 0, none⟩ = some (.string (str l)) := Row.cell h 0
theorem Txr.frozen {b : Nat} {l : List UInt8} {w : World} (h : Txr b l w) : w.frozen? ⟨b, 0, none⟩ = false := Row.frozen h 0
theorem Txr.below {b : Nat} {l : List UInt8} {w w' : World} (h : Txr b l w) (hb : Below w.heap.size w w') : Txr b l w' := Row.below h hb (Row.lt h)
theorem Txr.set {b : Nat} {l : List UInt8} {w : World} (h : Txr b l w) (r : List UInt8) : Txr b r (w.setCell ⟨b, 0, none⟩ (.string (str r))) := Row.set_ h 0 _

theorem str_toList (l : List UInt8) : (str l).toList = l := ByteArray.toList_mk l
theorem str_first (c : UInt8) (r : List UInt8) (h : 0 < (str (c :: r)).size) : (str (c :: r))[0]'h = c := rfl
theorem str_pos (c : UInt8) (r : List UInt8) : 0 < (str (c :: r)).size := by rw [str_size]; simp
theorem byte_eq (c s : UInt8) : ((c.toNat : Int) == (s.toNat : Int)) = decide (c = s) := by
  by_cases h : c = s
  · subst h; simp
  · have : ¬ (c.toNat : Int) = (s.toNat : Int) := fun e => h (UInt8.toNat_inj.1 (by omega))
    simp [h, this]

set_option maxRecDepth 100000 in
set_option maxHeartbeats 1000000 in
theorem has_any (b : Nat) (l : List UInt8) (s : UInt8) (z : Int) (hz : z = (s.toNat : Int)) (w : World) (h : Txr b l w) :
    Calls Tryz.prog 195 #[.pointer (some ⟨b, 0, none⟩), .int .u8 z] w fun e w' => e = .returned (.bool (hasB s l)) ∧ w' = w := by
  have c0 := h.cell
  subst hz
  go_enter Tryz.func195, Tryz.ntmps195
  cases l with
  | nil =>
    have e0 : str [] = (⟨#[]⟩ : ByteArray) := rfl
    rw [e0] at c0
    go_wp2
    go_ret
    exact ⟨rfl, rfl⟩
  | cons c r =>
    have h1 : (str (c :: r)).toList = c :: r := str_toList _
    have h2 := str_first c r
    have h3 := str_pos c r
    have h4 := byte_eq c s
    clear h
    go_wp2
    go_ret
    exact ⟨rfl, rfl⟩

/-- What the reader panics with. -/
def Ev (w : World) (n : Nat) (a : Addr) : Prop := 4 < n ∧ w.cell? ⟨4, 0, none⟩ = some (.iface 314 (.pointer (some a)))
theorem Ev.keep {w w' : World} {n b : Nat} {a : Addr} (h : Ev w n a) (hk : Keep b w w') (hb : n ≤ b) : Ev w' n a :=
  ⟨h.1, (World.cell?_of_block (w := w) (hk.block (World.block_lt_of_cell? _ _ h.2) (by have := h.1; dsimp only; omega))).trans h.2⟩

/-- The panic of a text that does not fit. -/
abbrev boom (a : Addr) : Ending := .panicked [{ v := .iface 314 (.pointer (some a)), recovered := false }]

set_option maxRecDepth 100000 in
set_option maxHeartbeats 1000000 in
theorem end_yes (b : Nat) (w : World) (h : Txr b [] w) :
    Calls Tryz.prog 139 #[.pointer (some ⟨b, 0, none⟩)] w fun e w' => e = .returned (.tuple #[]) ∧ w' = w := by
  have c0 := h.cell
  have e0 : str [] = (⟨#[]⟩ : ByteArray) := rfl
  rw [e0] at c0
  go_enter Tryz.func139, Tryz.ntmps139
  go_wp2
  go_end0
  exact ⟨rfl, rfl⟩
set_option maxRecDepth 100000 in
set_option maxHeartbeats 1000000 in
theorem end_no (b : Nat) (l : List UInt8) (hl : l ≠ []) (n : Nat) (a : Addr) (w : World) (h : Txr b l w) (hv : Ev w n a) :
    Calls Tryz.prog 139 #[.pointer (some ⟨b, 0, none⟩)] w fun e w' => e = boom a ∧ w' = w := by
  have c0 := h.cell
  have c1 := hv.2
  obtain ⟨c, r, rfl⟩ : ∃ c r, l = c :: r := by
    cases l with
    | nil => exact absurd rfl hl
    | cons c r => exact ⟨c, r, rfl⟩
  have h1 : (str (c :: r)).toList = c :: r := str_toList _
  clear hl
  go_enter Tryz.func139, Tryz.ntmps139
  go_wp2
  exact ⟨rfl, rfl, rfl⟩

theorem hasB_take {s : UInt8} {l r : List UInt8} (h : rdTake s l = some r) : hasB s l = true ∧ l = s :: r := by
  cases l with
  | nil => cases h
  | cons c l =>
    by_cases hc : c = s
    · rw [rdTake, if_pos hc] at h
      injection h with h
      exact ⟨by show decide (c = s) = true; simp [hc], by rw [hc, h]⟩
    · rw [rdTake, if_neg hc] at h
      cases h
theorem hasB_no {s : UInt8} {l : List UInt8} (h : rdTake s l = none) : hasB s l = false := by
  cases l with
  | nil => rfl
  | cons c l =>
    by_cases hc : c = s
    · rw [rdTake, if_pos hc] at h
      cases h
    · show decide (c = s) = false
      simp [hc]
theorem str_tail (c : UInt8) (r : List UInt8) : (str (c :: r)).extract 1 (str (c :: r)).size = str r := by
  apply ByteArray.ext
  have h : (str (c :: r)).size = r.length + 1 := by rw [str_size]; rfl
  rw [h]
  simp [str, ByteArray.data_extract]

set_option maxRecDepth 100000 in
set_option maxHeartbeats 400000 in
theorem take_no (b : Nat) (l : List UInt8) (s : UInt8) (z : Int) (hz : z = (s.toNat : Int)) (hl : rdTake s l = none) (n : Nat) (a : Addr) (w : World) (h : Txr b l w) (hv : Ev w n a) :
    Calls Tryz.prog 177 #[.pointer (some ⟨b, 0, none⟩), .int .u8 z] w fun e w' => e = boom a ∧ w' = w := by
  have c1 := hv.2
  have Hh := has_any b l s z hz w h
  rw [hasB_no hl] at Hh
  have HH := Lib.hid Hh
  clear Hh hz hl h hv
  go_enter Tryz.func177, Tryz.ntmps177
  go_wp2_with fail
  refine HH.out.mono ?_
  rintro e w' ⟨rfl, rfl⟩
  go_wp2
  exact ⟨rfl, rfl, rfl⟩
set_option maxRecDepth 100000 in
set_option maxHeartbeats 400000 in
theorem take_yes (b : Nat) (l r : List UInt8) (s : UInt8) (z : Int) (hz : z = (s.toNat : Int)) (hl : rdTake s l = some r) (w : World) (h : Txr b l w) (hm : l.length ≤ 1048576) :
    Calls Tryz.prog 177 #[.pointer (some ⟨b, 0, none⟩), .int .u8 z] w fun e w' => e = .returned (.tuple #[]) ∧ Keep b w w' ∧ Txr b r w' := by
  obtain ⟨hh, rfl⟩ := hasB_take hl
  have Hh := has_any b _ s z hz w h
  rw [hh] at Hh
  have HH := Lib.hid Hh
  have c0 := h.cell
  have f0 := h.frozen
  have HT := Lib.hid h
  have h5 := str_tail s r
  have h6 : (str (s :: r)).size = r.length + 1 := by rw [str_size]; rfl
  rw [h6] at h5
  simp only [List.length_cons] at hm
  clear h Hh hz hl hh
  go_enter Tryz.func177, Tryz.ntmps177
  go_wp2_with fail
  refine HH.out.mono ?_
  rintro e w' ⟨rfl, rfl⟩
  go_wp2
  go_end0
  refine ⟨rfl, (Keep.refl b _).setb _, ?_⟩
  first | rw [h5] | skip
  exact HT.out.set r
set_option maxRecDepth 100000 in
set_option maxHeartbeats 400000 in
theorem digit_yes (b : Nat) (c : UInt8) (r : List UInt8) (hd : isD c = true) (w : World) (h : Txr b (c :: r) w) (hm : r.length + 1 ≤ 1048576) :
    Calls Tryz.prog 179 #[.pointer (some ⟨b, 0, none⟩)] w fun e w' => e = .returned (.int .i64 (valD c)) ∧ Keep b w w' ∧ Txr b r w' := by
  have c0 := h.cell
  have f0 := h.frozen
  have HT := Lib.hid h
  have h1 : (str (c :: r)).toList = c :: r := str_toList _
  have h2 := str_first c r
  have h3 := str_pos c r
  have h5 := str_tail c r
  have h6 : (str (c :: r)).size = r.length + 1 := by rw [str_size]; rfl
  rw [h6] at h5 h3
  simp only [isD, Bool.and_eq_true, decide_eq_true_eq] at hd
  obtain ⟨d1, d2⟩ := hd
  have e1 : ¬ ((c.toNat : Nat) : Int) < 48 := by omega
  have e2 : ¬ (57 : Int) < ((c.toNat : Nat) : Int) := by omega
  clear h
  go_enter Tryz.func179, Tryz.ntmps179
  go_wp2
  go_ret
  exact ⟨rfl, (Keep.refl b _).setb _, HT.out.set r⟩
set_option maxRecDepth 100000 in
set_option maxHeartbeats 400000 in
theorem digit_no (b : Nat) (l : List UInt8) (hl : rdDigit l = none) (n : Nat) (a : Addr) (w : World) (h : Txr b l w) (hv : Ev w n a) :
    Calls Tryz.prog 179 #[.pointer (some ⟨b, 0, none⟩)] w fun e w' => e = boom a ∧ w' = w := by
  have c0 := h.cell
  have v0 := hv.2
  clear h hv
  cases l with
  | nil =>
    have e0 : str [] = (⟨#[]⟩ : ByteArray) := rfl
    rw [e0] at c0
    clear hl
    go_enter Tryz.func179, Tryz.ntmps179
    go_wp2
    exact ⟨rfl, rfl, rfl⟩
  | cons c r =>
    have h1 : (str (c :: r)).toList = c :: r := str_toList _
    have h2 := str_first c r
    have h3 := str_pos c r
    have hd : isD c = false := by
      cases hc : isD c with
      | false => rfl
      | true => simp [rdDigit, hc] at hl
    simp only [isD, Bool.and_eq_false_iff, decide_eq_false_iff_not] at hd
    clear hl
    by_cases d1 : 48 ≤ c.toNat
    · have e1 : ¬ ((c.toNat : Nat) : Int) < 48 := by omega
      have e2 : (57 : Int) < ((c.toNat : Nat) : Int) := by omega
      clear hd
      go_enter Tryz.func179, Tryz.ntmps179
      go_wp2
      exact ⟨rfl, rfl, rfl⟩
    · have e1 : ((c.toNat : Nat) : Int) < 48 := by omega
      clear hd
      go_enter Tryz.func179, Tryz.ntmps179
      go_wp2
      exact ⟨rfl, rfl, rfl⟩
end Go.Proofs.YtnmbjmocnafekaaGreatDoor

namespace Go.Proofs.YtnmbjmocnafekaaGreatDoor
open Go.RowKit

/-- The indices, below j, of the coercions that begin with a type. -/
def cfr (cs : List Co) (k : Int) (j : Nat) : List Int := ((List.range j).filter fun i => decide ((cs.getD i default).src = k)).map fun i : Nat => (i : Int)
theorem cfr_zero (cs : List Co) (k : Int) : cfr cs k 0 = [] := rfl
theorem cfr_hit {cs : List Co} {k : Int} {j : Nat} (hj : j < cs.length) (h : cs[j].src = k) : cfr cs k (j + 1) = cfr cs k j ++ [(j : Int)] := by
  unfold cfr
  rw [List.range_succ, List.filter_append, List.map_append]
  have e : (cs[j]?.getD default).src = k := by rw [List.getElem?_eq_getElem hj]; exact h
  simp [e]
theorem cfr_miss {cs : List Co} {k : Int} {j : Nat} (hj : j < cs.length) (h : ¬ cs[j].src = k) : cfr cs k (j + 1) = cfr cs k j := by
  unfold cfr
  rw [List.range_succ, List.filter_append, List.map_append]
  have e : ¬ (cs[j]?.getD default).src = k := by rw [List.getElem?_eq_getElem hj]; exact h
  simp [e]
theorem cfr_le (cs : List Co) (k : Int) (j : Nat) : (cfr cs k j).length ≤ j := by
  unfold cfr
  rw [List.length_map]
  have := List.length_filter_le (fun i => decide ((cs.getD i default).src = k)) (List.range j)
  simpa using this
theorem cfr_wf (cs : List Co) (k : Int) (j : Nat) (hj : j ≤ 1048576) : ∀ z ∈ cfr cs k j, I64 z := by
  intro z hz
  unfold cfr at hz
  obtain ⟨i, hi, rfl⟩ := List.mem_map.1 hz
  have := List.mem_range.1 (List.mem_filter.1 hi).1
  unfold I64
  omega
def cFrom (t : Ty) (k : Int) : List Int := if tyOk t = true then cfr t.cos k t.cos.length else []

def accF (t : Ty) (q : Int) (j : Nat) : List Int := if tyOk t = true then cfr t.cos q j else []
theorem accF_le (t : Ty) (q : Int) (j : Nat) : (accF t q j).length ≤ j := by
  unfold accF
  split
  · exact cfr_le _ _ _
  · simp
theorem ownsRow_cast {w : World} {base : Nat} {t : TypeId} {v : Value} {n n' : Nat} {xs xs' : List Value} (h : w.ownsRow base t 1 v n xs) (hn : n = n') (hx : xs = xs') : w.ownsRow base t 1 v n' xs' := by subst hn; subst hx; exact h

theorem ownsRow_base {w : World} {base base' : Nat} {t : TypeId} {v : Value} {n : Nat} {xs : List Value} (h : w.ownsRow base t 1 v n xs) (hb : base' ≤ base) : w.ownsRow base' t 1 v n xs := by
  obtain ⟨h1, h2 | ⟨g, cap, cur, e, hg, r⟩⟩ := h
  · exact ⟨h1, .inl h2⟩
  · exact ⟨h1, .inr ⟨g, cap, cur, e, by omega, r⟩⟩
theorem ownsRow_below {w w' : World} {base B : Nat} {t : TypeId} {v : Value} {n : Nat} {xs : List Value} (h : w.ownsRow base t 1 v n xs) (hb : Below B w w') (hB : w.heap.size ≤ B) : w'.ownsRow base t 1 v n xs := by
  obtain ⟨h1, h2 | ⟨g, cap, cur, e, hg, hh, r⟩⟩ := h
  · exact ⟨h1, .inl h2⟩
  · have hlt : g < w.heap.size := by
      rcases Nat.lt_or_ge g w.heap.size with hlt | hge
      · exact hlt
      · rw [Array.getElem?_eq_none hge] at hh; cases hh
    exact ⟨h1, .inr ⟨g, cap, cur, e, hg, (hb.block g (by omega)).trans hh, r⟩⟩
end Go.Proofs.YtnmbjmocnafekaaGreatDoor

namespace Go.Proofs.YtnmbjmocnafekaaGreatDoor
open Go.RowKit

/-- How much is left to read. -/
def restLen (b : Nat) (w : World) : Nat := match w.cell? ⟨b, 0, none⟩ with
  | some (.string s) => s.size
  | _ => 0
theorem Txr.restLen {b : Nat} {l : List UInt8} {w : World} (h : Txr b l w) : restLen b w = l.length := by
  unfold Go.Proofs.YtnmbjmocnafekaaGreatDoor.restLen
  rw [h.cell]
  exact str_size l
theorem hasB_cons {s : UInt8} {l : List UInt8} (h : hasB s l = true) : ∃ r, l = s :: r ∧ rdTake s l = some r := by
  cases l with
  | nil => cases h
  | cons c r =>
    have hc : c = s := by simpa [hasB] using h
    subst hc
    exact ⟨r, rfl, by simp [rdTake]⟩
theorem rdDigit_cons {l r : List UInt8} {z : Int} (h : rdDigit l = some (z, r)) : ∃ c, l = c :: r ∧ isD c = true ∧ z = valD c := by
  cases l with
  | nil => cases h
  | cons c t =>
    cases hc : isD c with
    | false => simp [rdDigit, hc] at h
    | true =>
      simp [rdDigit, hc] at h
      exact ⟨c, by rw [h.2], hc, h.1.symm⟩
theorem Txr.keep_own {b : Nat} {l : List UInt8} {w w' : World} {row : Option Nat} (h : Txr b l w) (hg : w.grownBy w' row) (hr : ∀ g, row = some g → g ≠ b) : Txr b l w' :=
  (hg.block b h.lt fun e => hr b e.symm rfl).trans h
theorem Keep.own {b : Nat} {w w' w'' : World} {row : Option Nat} (h : Keep b w w') (hg : w'.grownBy w'' row) (hr : ∀ g, row = some g → w.heap.size ≤ g) : Keep b w w'' :=
  ⟨⟨hg.os.trans h.grown.os, hg.tape.trans h.grown.tape, hg.output.trans h.grown.output, Nat.le_trans h.size hg.size, fun j hj hb => (hg.block j (Nat.lt_of_lt_of_le hj h.size) fun e => by have := hr j e.symm; omega).trans (h.grown.block j hj hb)⟩⟩
theorem own_ge {w : World} {N : Nat} {t : TypeId} {v : Value} {n : Nat} {xs : List Value} (h : w.ownsRow N t 1 v n xs) : ∀ g, v.ownBlock = some g → N ≤ g := by
  intro k hk
  obtain ⟨_, ⟨e, _⟩ | ⟨g, cap3, cur, e, hg, _⟩⟩ := h
  · rw [e] at hk; simp [Value.ownBlock] at hk
  · rw [e] at hk; simp [Value.ownBlock] at hk; omega
theorem own_keep {b N : Nat} {w w' : World} {t : TypeId} {v : Value} {n : Nat} {xs : List Value} (h : w.ownsRow N t 1 v n xs) (hk : Keep b w w') (hb : b < N) : w'.ownsRow N t 1 v n xs :=
  h.kept (row := some b) hk.grown (by
    cases hv : v.ownBlock with
    | none => exact .inl rfl
    | some g =>
      refine .inr fun e => ?_
      have h1 := own_ge h g hv
      injection e with e
      omega)

/-- What reading numbers comes to. -/
def NumsPost (b : Nat) (l : List UInt8) (a : Addr) (w : World) (e : Ending) (w' : World) : Prop :=
  ((∃ zs r v, rdNums l = some (zs, r) ∧ e = .returned v ∧ w'.ownsRow w.heap.size 3 1 v zs.length (zs.map (Value.int .i64)) ∧ Txr b r w') ∨ (rdNums l = none ∧ e = boom a)) ∧ Keep b w w'

end Go.Proofs.YtnmbjmocnafekaaGreatDoor

namespace Go.Proofs.YtnmbjmocnafekaaGreatDoor
open Go.RowKit

inductive Tm where
  | lit (k v : Int) : Tm
  | c0 (n : UInt8) : Tm
  | c1 (n : UInt8) (a : Tm) : Tm
  | c2 (n : UInt8) (a b : Tm) : Tm

/-- The name of a function. -/
def isN (c : UInt8) : Bool := decide (102 ≤ c.toNat) && decide (c.toNat ≤ 107)
theorem isN_of {c : UInt8} (h : isN c = true) : 102 ≤ c.toNat ∧ c.toNat ≤ 107 := by simpa [isN] using h
theorem isD_of {c : UInt8} (h : isD c = true) : 48 ≤ c.toNat ∧ c.toNat ≤ 57 := by simpa [isD] using h
def mkCall (n : UInt8) : List Tm → Tm
  | [] => .c0 n
  | [a] => .c1 n a
  | a :: b :: _ => .c2 n a b
def rdLit (l : List UInt8) : Option (Tm × List UInt8) :=
  (rdDigit l).bind fun a => (rdTake 58 a.2).bind fun r => (rdDigit r).map fun b => (.lit a.1 b.1, b.2)
def rdArgs (rd : List UInt8 → Option (Tm × List UInt8)) (l : List UInt8) : Option (List Tm × List UInt8) :=
  if hasB 41 l = true then some ([], l)
  else (rd l).bind fun p => if hasB 44 p.2 = true then (rdTake 44 p.2).bind fun r => (rd r).map fun q => ([p.1, q.1], q.2) else some ([p.1], p.2)
def rdCall (rd : List UInt8 → Option (Tm × List UInt8)) (c : UInt8) (l : List UInt8) : Option (Tm × List UInt8) :=
  (rdTake 40 l).bind fun r => (rdArgs rd r).bind fun p => (rdTake 41 p.2).map fun r2 => (mkCall c p.1, r2)
def rdTm : Nat → List UInt8 → Option (Tm × List UInt8)
  | 0, _ => none
  | _ + 1, [] => none
  | f + 1, c :: l => if isN c = true then rdCall (rdTm f) c l else rdLit (c :: l)

def tmT : Tm → List UInt8
  | .lit k v => dg k ++ [58] ++ dg v
  | .c0 n => [n, 40, 41]
  | .c1 n a => [n, 40] ++ tmT a ++ [41]
  | .c2 n a b => [n, 40] ++ tmT a ++ [44] ++ tmT b ++ [41]
def TmOk : Tm → Prop
  | .lit k v => Dig k ∧ Dig v
  | .c0 n => isN n = true
  | .c1 n a => isN n = true ∧ TmOk a
  | .c2 n a b => isN n = true ∧ TmOk a ∧ TmOk b
def partsT : Tm → List Tm
  | .lit _ _ => []
  | .c0 _ => []
  | .c1 _ a => [a]
  | .c2 _ a b => [a, b]

theorem rdTm_nil (f : Nat) : rdTm f [] = none := by cases f <;> rfl
theorem rdTm_name (f : Nat) {c : UInt8} (l : List UInt8) (h : isN c = true) : rdTm (f + 1) (c :: l) = rdCall (rdTm f) c l := by rw [rdTm, if_pos h]
theorem rdTm_lit (f : Nat) {c : UInt8} (l : List UInt8) (h : isN c = false) : rdTm (f + 1) (c :: l) = rdLit (c :: l) := by rw [rdTm, if_neg (by simp [h])]

theorem dg_val {c : UInt8} (h : isD c = true) : dg (valD c) = [c] := by
  have h := isD_of h
  unfold dg valD
  have e : 48 + ((c.toNat : Int) - 48).toNat = c.toNat := by omega
  rw [e]
  simp
theorem rdDigit_eq {l r : List UInt8} {z : Int} (h : rdDigit l = some (z, r)) : Dig z ∧ l = dg z ++ r := by
  refine ⟨rdDigit_dig h, ?_⟩
  match l, h with
  | c :: l, h =>
    simp only [rdDigit] at h
    split at h
    · rename_i hc
      simp only [Option.some.injEq, Prod.mk.injEq] at h
      rw [← h.1, dg_val hc, ← h.2]
      rfl
    · cases h
theorem rdTake_eq {s : UInt8} {l r : List UInt8} (h : rdTake s l = some r) : l = s :: r := by
  match l, h with
  | c :: l, h =>
    simp only [rdTake] at h
    split at h
    · rename_i hc
      simp only [Option.some.injEq] at h
      rw [hc, h]
    · cases h
theorem rdTake_cons (s : UInt8) (l : List UInt8) : rdTake s (s :: l) = some l := by simp [rdTake]
theorem isD_dg {z : Int} (h : Dig z) : isD (UInt8.ofNat (48 + z.toNat)) = true ∧ valD (UInt8.ofNat (48 + z.toNat)) = z := by
  unfold Dig at h
  have e : (UInt8.ofNat (48 + z.toNat)).toNat = 48 + z.toNat := by
    rw [UInt8.toNat_ofNat']
    omega
  unfold isD valD
  rw [e]
  simp only [Bool.and_eq_true, decide_eq_true_eq]
  omega
theorem rdDigit_dg {z : Int} (h : Dig z) (r : List UInt8) : rdDigit (dg z ++ r) = some (z, r) := by
  have hd := isD_dg h
  show rdDigit (UInt8.ofNat (48 + z.toNat) :: r) = _
  rw [rdDigit, if_pos hd.1, hd.2]

/-- What is read is the text of what it is read as. -/
theorem rdTm_eq : ∀ (f : Nat) {l r : List UInt8} {t : Tm}, rdTm f l = some (t, r) → TmOk t ∧ l = tmT t ++ r
  | 0, l, r, t, h => by cases h
  | f + 1, [], r, t, h => by cases h
  | f + 1, c :: l, r, t, h => by
    cases hc : isN c with
    | false =>
      rw [rdTm_lit f l hc] at h
      unfold rdLit at h
      simp only [Option.bind_eq_some_iff, Option.map_eq_some_iff] at h
      obtain ⟨⟨k, l1⟩, h1, l2, h2, ⟨v, l3⟩, h3, h4⟩ := h
      obtain ⟨d1, e1⟩ := rdDigit_eq h1
      have e2 := rdTake_eq h2
      obtain ⟨d3, e3⟩ := rdDigit_eq h3
      injection h4 with h4 h5
      subst h4; subst h5
      dsimp only at e2 e3
      subst e3; subst e2
      exact ⟨⟨d1, d3⟩, by rw [e1]; simp [tmT]⟩
    | true =>
      rw [rdTm_name f l hc] at h
      unfold rdCall at h
      simp only [Option.bind_eq_some_iff, Option.map_eq_some_iff] at h
      obtain ⟨l1, h1, ⟨ts, l2⟩, h2, l3, h3, h4⟩ := h
      have e1 := rdTake_eq h1
      have e3 := rdTake_eq h3
      injection h4 with h4 h5
      subst h4; subst h5
      dsimp only at e3 h2 ⊢
      unfold rdArgs at h2
      split at h2
      · injection h2 with h2
        injection h2 with h2 h5
        subst h2; subst h5
        exact ⟨hc, by rw [e1, e3]; rfl⟩
      · simp only [Option.bind_eq_some_iff] at h2
        obtain ⟨⟨a, la⟩, h6, h7⟩ := h2
        obtain ⟨o6, e6⟩ := rdTm_eq f h6
        dsimp only at h7
        split at h7
        · simp only [Option.bind_eq_some_iff, Option.map_eq_some_iff] at h7
          obtain ⟨lb, h8, ⟨b, lc⟩, h9, h10⟩ := h7
          have e8 := rdTake_eq h8
          obtain ⟨o9, e9⟩ := rdTm_eq f h9
          injection h10 with h10 h11
          subst h10; subst h11
          dsimp only at e3
          exact ⟨⟨hc, o6, o9⟩, by rw [e1, e6, e8, e9, e3]; simp [mkCall, tmT]⟩
        · injection h7 with h7
          injection h7 with h7 h8
          subst h7; subst h8
          exact ⟨⟨hc, o6⟩, by rw [e1, e6, e3]; simp [mkCall, tmT]⟩

theorem tmT_first {t : Tm} (h : TmOk t) (r : List UInt8) : ∃ c l, tmT t ++ r = c :: l ∧ 2 ≤ l.length ∧ (isN c = true ∨ isD c = true) := by
  cases t with
  | lit k v => exact ⟨_, _, rfl, by simp [dg], .inr (isD_dg h.1).1⟩
  | c0 n => exact ⟨n, _, rfl, by simp, .inl h⟩
  | c1 n a => exact ⟨n, _, rfl, by simp; omega, .inl h.1⟩
  | c2 n a b => exact ⟨n, _, rfl, by simp; omega, .inl h.1⟩
theorem isN_not {c : UInt8} (h : isD c = true) : isN c = false := by
  have := isD_of h
  unfold isN
  simp only [Bool.and_eq_false_iff, decide_eq_false_iff_not]
  omega
theorem hasB_41 {t : Tm} (h : TmOk t) (r : List UInt8) : hasB 41 (tmT t ++ r) = false := by
  obtain ⟨c, l, e, _, hc⟩ := tmT_first h r
  rw [e]
  show decide (c = 41) = false
  rw [decide_eq_false_iff_not]
  rintro rfl
  rcases hc with hc | hc <;> exact absurd hc (by decide)
theorem tmT_len {t : Tm} (h : TmOk t) : 3 ≤ (tmT t).length := by
  obtain ⟨c, l, e, hl, _⟩ := tmT_first h []
  rw [List.append_nil] at e
  rw [e]
  simp only [List.length_cons]
  omega
/-- The text of a term is read as the term. -/
theorem rdTm_tmT : ∀ (f : Nat) {t : Tm} (r : List UInt8), TmOk t → (tmT t).length ≤ f → rdTm f (tmT t ++ r) = some (t, r)
  | 0, t, r, h, hl => by have := tmT_len h; omega
  | f + 1, .lit k v, r, h, hl => by
    have hd := isD_dg h.1
    have e : tmT (.lit k v) ++ r = UInt8.ofNat (48 + k.toNat) :: ([58] ++ dg v ++ r) := by simp [tmT, dg]
    rw [e, rdTm_lit f _ (isN_not hd.1)]
    have e2 : UInt8.ofNat (48 + k.toNat) :: ([58] ++ dg v ++ r) = dg k ++ ([58] ++ dg v ++ r) := rfl
    unfold rdLit
    rw [e2, rdDigit_dg h.1]
    have e3 : [58] ++ dg v ++ r = (58 : UInt8) :: (dg v ++ r) := by simp
    simp only [Option.bind_some]
    rw [e3, rdTake_cons]
    simp only [Option.bind_some]
    rw [rdDigit_dg h.2]
    rfl
  | f + 1, .c0 n, r, h, hl => by
    have e : tmT (.c0 n) ++ r = n :: 40 :: 41 :: r := rfl
    rw [e, rdTm_name f _ h]
    unfold rdCall
    rw [rdTake_cons]
    simp only [Option.bind_some]
    rw [rdArgs, if_pos (by simp [hasB])]
    simp only [Option.bind_some]
    rw [rdTake_cons]
    rfl
  | f + 1, .c1 n a, r, h, hl => by
    have e : tmT (.c1 n a) ++ r = n :: 40 :: (tmT a ++ (41 :: r)) := by simp [tmT]
    have hl2 : (tmT a).length ≤ f := by
      simp only [tmT, List.length_append, List.length_cons, List.length_nil] at hl
      omega
    rw [e, rdTm_name f _ h.1]
    unfold rdCall
    rw [rdTake_cons]
    simp only [Option.bind_some]
    rw [rdArgs, if_neg (by rw [hasB_41 h.2]; simp), rdTm_tmT f _ h.2 hl2]
    simp only [Option.bind_some]
    rw [if_neg (by simp [hasB])]
    simp only [Option.bind_some]
    rw [rdTake_cons]
    rfl
  | f + 1, .c2 n a b, r, h, hl => by
    have e : tmT (.c2 n a b) ++ r = n :: 40 :: (tmT a ++ (44 :: (tmT b ++ (41 :: r)))) := by simp [tmT]
    have hl2 : (tmT a).length ≤ f ∧ (tmT b).length ≤ f := by
      simp only [tmT, List.length_append, List.length_cons, List.length_nil] at hl
      omega
    rw [e, rdTm_name f _ h.1]
    unfold rdCall
    rw [rdTake_cons]
    simp only [Option.bind_some]
    rw [rdArgs, if_neg (by rw [hasB_41 h.2.1]; simp), rdTm_tmT f _ h.2.1 hl2.1]
    simp only [Option.bind_some]
    rw [if_pos (by simp [hasB]), rdTake_cons]
    simp only [Option.bind_some]
    rw [rdTm_tmT f _ h.2.2 hl2.2]
    simp only [Option.map_some, Option.bind_some]
    rw [rdTake_cons]
    rfl
theorem rdTm_len {f : Nat} {l r : List UInt8} {t : Tm} (h : rdTm f l = some (t, r)) : r.length + 3 ≤ l.length := by
  obtain ⟨ho, e⟩ := rdTm_eq f h
  have := tmT_len ho
  rw [e, List.length_append]
  omega
/-- With enough fuel it does not matter how much. -/
theorem rdTm_fuel {f g : Nat} {l : List UInt8} (hf : l.length ≤ f) (hg : l.length ≤ g) : rdTm f l = rdTm g l := by
  have key : ∀ {f g : Nat} {p : Tm × List UInt8}, l.length ≤ g → rdTm f l = some p → rdTm g l = some p := by
    intro f g p hg h
    obtain ⟨t, r⟩ := p
    obtain ⟨ho, e⟩ := rdTm_eq f h
    have hl : (tmT t).length ≤ g := by rw [e, List.length_append] at hg; omega
    rw [e]
    exact rdTm_tmT g r ho hl
  cases h : rdTm f l with
  | some p => exact (key hg h).symm
  | none =>
    cases h2 : rdTm g l with
    | none => rfl
    | some p => rw [key hf h2] at h; cases h

/-- What a text is read as, if it is a term. -/
def parseT (l : List UInt8) : Option Tm :=
  if l.length ≤ 60 then (match rdTm l.length l with
    | some (t, []) => some t
    | _ => none) else none
theorem parseT_tmT {l : List UInt8} {t : Tm} : parseT l = some t ↔ TmOk t ∧ l = tmT t ∧ l.length ≤ 60 := by
  unfold parseT
  constructor
  · intro h
    split at h
    · rename_i hl
      split at h
      · rename_i t' he
        injection h with h
        subst h
        obtain ⟨ho, e⟩ := rdTm_eq _ he
        rw [List.append_nil] at e
        exact ⟨ho, e, hl⟩
      · cases h
    · cases h
  · rintro ⟨ho, rfl, hl⟩
    rw [if_pos hl]
    have := rdTm_tmT (tmT t).length [] ho (Nat.le_refl _)
    rw [List.append_nil] at this
    rw [this]
end Go.Proofs.YtnmbjmocnafekaaGreatDoor

namespace Go.Proofs.YtnmbjmocnafekaaGreatDoor
open Go.RowKit

/-- What is left behind at most k further arguments and the bracket. -/
def endArgs (rd : List UInt8 → Option (Tm × List UInt8)) : Nat → List UInt8 → Option (List UInt8)
  | 0, _ => none
  | k + 1, l => match rd l with
    | none => none
    | some (_, []) => none
    | some (_, c :: r) => if c = 41 then some r else if c = 44 then endArgs rd k r else none
/-- What is left behind the term that a text begins with. -/
def endT (f : Nat) (l : List UInt8) : Option (List UInt8) := (rdTm f l).map fun p => p.2
theorem endT_short {f : Nat} {l : List UInt8} (h : l.length < 3) : endT f l = none := by
  unfold endT
  cases e : rdTm f l with
  | none => rfl
  | some p => obtain ⟨t, r⟩ := p; have := rdTm_len e; omega
theorem endT_lit {f : Nat} (a c : UInt8) (r : List UInt8) : endT (f + 1) (a :: 58 :: c :: r) = if (isD a && isD c) = true then some r else none := by
  unfold endT
  cases ha : isN a with
  | true =>
    have hd : isD a = false := by
      cases hd : isD a with
      | false => rfl
      | true => rw [isN_not hd] at ha; cases ha
    rw [rdTm_name f _ ha, hd]
    simp [rdCall, rdTake]
  | false =>
    rw [rdTm_lit f _ ha]
    cases hd : isD a with
    | false => simp [rdLit, rdDigit, hd]
    | true =>
      cases hc : isD c with
      | false => simp [rdLit, rdDigit, rdTake, hd, hc]
      | true => simp [rdLit, rdDigit, rdTake, hd, hc]
theorem endT_other {f : Nat} (a b : UInt8) (r : List UInt8) (hb : b ≠ 58) (h : (isN a && decide (b = 40)) = false) : endT f (a :: b :: r) = none := by
  unfold endT
  cases f with
  | zero => rfl
  | succ f =>
    cases ha : isN a with
    | true =>
      have hb : ¬ b = 40 := by simpa [ha] using h
      rw [rdTm_name f _ ha]
      simp [rdCall, rdTake, hb]
    | false =>
      rw [rdTm_lit f _ ha]
      cases hd : isD a with
      | false => simp [rdLit, rdDigit, hd]
      | true => simp [rdLit, rdDigit, rdTake, hd, hb]
theorem endT_call {f : Nat} (a d : UInt8) (r : List UInt8) (ha : isN a = true) : endT (f + 1) (a :: 40 :: d :: r) = if d = 41 then some r else endArgs (rdTm f) 2 (d :: r) := by
  unfold endT
  rw [rdTm_name f _ ha, rdCall, rdTake_cons]
  simp only [Option.bind_some]
  by_cases hd : d = 41
  · subst hd
    rw [rdArgs, if_pos (by simp [hasB]), if_pos rfl]
    simp [rdTake]
  · rw [rdArgs, if_neg (by simp [hasB, hd]), if_neg hd, endArgs]
    cases h1 : rdTm f (d :: r) with
    | none => rfl
    | some p =>
      obtain ⟨t, r1⟩ := p
      simp only [Option.bind_some]
      cases r1 with
      | nil => simp [hasB, rdTake]
      | cons c r1 =>
        by_cases h44 : c = 44
        · subst h44
          simp only [hasB, decide_true, if_true, rdTake_cons, Option.bind_some]
          rw [if_neg (by decide), endArgs]
          cases h2 : rdTm f r1 with
          | none => rfl
          | some q =>
            obtain ⟨t2, r2⟩ := q
            simp only [Option.map_some, Option.bind_some]
            cases r2 with
            | nil => rfl
            | cons c2 r2 =>
              by_cases h41 : c2 = 41
              · subst h41; simp [rdTake]
              · simp [rdTake, h41, endArgs]
        · rw [if_neg (by simp [hasB, h44])]
          by_cases h41 : c = 41
          · subst h41; simp [rdTake]
          · simp [rdTake, h41, h44]
/-- The index behind the term that begins at an index, or -1. -/
def endZ (L : List UInt8) (o : Option (List UInt8)) : Int := match o with
  | none => -1
  | some r => (L.length : Int) - (r.length : Int)
theorem endT_suffix {f : Nat} {l r : List UInt8} (h : endT f l = some r) : r.length + 3 ≤ l.length ∧ l.drop (l.length - r.length) = r := by
  unfold endT at h
  simp only [Option.map_eq_some_iff] at h
  obtain ⟨⟨t, r'⟩, h, rfl⟩ := h
  refine ⟨rdTm_len h, ?_⟩
  obtain ⟨_, e⟩ := rdTm_eq f h
  rw [e]
  simp
theorem parseT_some {l : List UInt8} : (parseT l).isSome = (decide (l.length ≤ 60) && decide (endT l.length l = some [])) := by
  unfold parseT endT
  by_cases hl : l.length ≤ 60
  · rw [if_pos hl]
    cases h : rdTm l.length l with
    | none => simp
    | some p =>
      obtain ⟨t, r⟩ := p
      cases r with
      | nil => simp [hl]
      | cons c r => simp
  · simp [hl]
end Go.Proofs.YtnmbjmocnafekaaGreatDoor

namespace Go.Proofs.YtnmbjmocnafekaaGreatDoor
open Go.RowKit

def sizeT : Tm → Nat
  | .lit _ _ => 1
  | .c0 _ => 1
  | .c1 _ a => 1 + sizeT a
  | .c2 _ a b => 1 + sizeT a + sizeT b
def depthT : Tm → Nat
  | .lit _ _ => 0
  | .c0 _ => 1
  | .c1 _ a => depthT a + 1
  | .c2 _ a b => max (depthT a) (depthT b) + 1
def isCallT : Tm → Bool
  | .lit _ _ => false
  | _ => true
def headT : Tm → List UInt8
  | .lit _ _ => []
  | .c0 n => [n]
  | .c1 n _ => [n]
  | .c2 n _ _ => [n]
def litT : Tm → Int × Int × Bool
  | .lit k v => (k, v, true)
  | _ => (0, 0, false)
theorem sizeT_le : ∀ (t : Tm), sizeT t ≤ (tmT t).length
  | .lit k v => by simp [sizeT, tmT]; omega
  | .c0 n => by simp [sizeT, tmT]
  | .c1 n a => by have := sizeT_le a; simp [sizeT, tmT]; omega
  | .c2 n a b => by have := sizeT_le a; have := sizeT_le b; simp [sizeT, tmT]; omega
theorem depthT_le : ∀ (t : Tm), depthT t ≤ (tmT t).length
  | .lit k v => by simp [depthT, tmT]
  | .c0 n => by simp [depthT, tmT]
  | .c1 n a => by have := depthT_le a; simp [depthT, tmT]; omega
  | .c2 n a b => by have := depthT_le a; have := depthT_le b; simp [depthT, tmT]; omega
/-- The parts of a call are shorter than it. -/
theorem partsT_len {t p : Tm} (h : p ∈ partsT t) : (tmT p).length + 3 ≤ (tmT t).length := by
  cases t with
  | lit k v => simp [partsT] at h
  | c0 n => simp [partsT] at h
  | c1 n a => simp [partsT] at h; subst h; simp [tmT]
  | c2 n a b => simp [partsT] at h; rcases h with rfl | rfl <;> · simp [tmT]; try omega
theorem partsT_ok {t p : Tm} (ht : TmOk t) (h : p ∈ partsT t) : TmOk p := by
  cases t with
  | lit k v => simp [partsT] at h
  | c0 n => simp [partsT] at h
  | c1 n a => simp [partsT] at h; subst h; exact ht.2
  | c2 n a b =>
    simp [partsT] at h
    rcases h with rfl | rfl
    · exact ht.2.1
    · exact ht.2.2
theorem partsT_two (t : Tm) : (partsT t).length ≤ 2 := by cases t <;> simp [partsT]
theorem partsT_mk (n : UInt8) {ts : List Tm} (h : ts.length ≤ 2) : partsT (mkCall n ts) = ts := by
  match ts, h with
  | [], _ => rfl
  | [a], _ => rfl
  | [a, b], _ => rfl
theorem size_sum (t : Tm) : sizeT t = 1 + ((partsT t).map sizeT).sum := by
  cases t <;> simp [sizeT, partsT]
  omega
theorem sum_take {l : List Nat} {k : Nat} (hk : k < l.length) : (l.take (k + 1)).sum = (l.take k).sum + l[k] := by
  rw [List.take_succ_eq_append_getElem hk, List.sum_append]
  rfl
theorem maxTo_take (l : List Nat) {k : Nat} (hk : k < l.length) : (l.take (k + 1)).foldl max 0 = max ((l.take k).foldl max 0) l[k] := by
  rw [List.take_succ_eq_append_getElem hk, List.foldl_append]
  rfl
theorem depth_max (t : Tm) (h : isCallT t = true) : depthT t = ((partsT t).map depthT).foldl max 0 + 1 := by
  cases t with
  | lit k v => cases h
  | c0 n => rfl
  | c1 n a => simp [depthT, partsT]
  | c2 n a b => simp [depthT, partsT]
/-- The second sign tells calls from literals. -/
theorem tmT_second {t : Tm} (h : TmOk t) : ∃ a c l, tmT t = a :: (if isCallT t = true then 40 else 58) :: c :: l ∧ (isCallT t = true → headT t = [a] ∧ isN a = true) := by
  cases t with
  | lit k v => exact ⟨_, _, _, rfl, fun h => by cases h⟩
  | c0 n => exact ⟨n, 41, [], rfl, fun _ => ⟨rfl, h⟩⟩
  | c1 n a =>
    obtain ⟨c, l, e, _, _⟩ := tmT_first h.2 [41]
    exact ⟨n, c, l, by show n :: 40 :: (tmT a ++ [41]) = _; rw [e]; rfl, fun _ => ⟨rfl, h.1⟩⟩
  | c2 n a b =>
    obtain ⟨c, l, e, _, _⟩ := tmT_first h.2.1 ([44] ++ tmT b ++ [41])
    exact ⟨n, c, l, by show n :: 40 :: (tmT a ++ [44] ++ tmT b ++ [41]) = _; rw [List.append_assoc, List.append_assoc, ← List.append_assoc [44], e]; rfl, fun _ => ⟨rfl, h.1⟩⟩
theorem headT_call {t : Tm} (h : isCallT t = false) : headT t = [] ∧ partsT t = [] := by
  cases t with
  | lit k v => exact ⟨rfl, rfl⟩
  | c0 n => cases h
  | c1 n a => cases h
  | c2 n a b => cases h
end Go.Proofs.YtnmbjmocnafekaaGreatDoor

