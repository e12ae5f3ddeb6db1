/-
  The contracts of the program's reader: has, take, end, digit.
-/
import Derived.Test.YtcecljolnknapaaDoorPrd
import Derived.WalkLawsBesides
namespace Go.Proofs.YtcecljolnknapaaDoor
open Go.RowKit

/-- The reader in block b is before l. -/
def Txr (b : Nat) (l : List UInt8) (w : World) : Prop := Row w b 78 [.string (str l)]
theorem Txr.lt {b : Nat} {l : List UInt8} {w : World} (h : Txr b l w) : b < w.heap.size := Row.lt h
theorem Txr.cell {b : Nat} {l : List UInt8} {w : World} (h : Txr b l w) : w.cell? ⟨b, 0, none⟩ = some (.string (str l)) := Row.cell h 0
theorem Txr.frozen {b : Nat} {l : List UInt8} {w : World} (h : Txr b l w) : w.frozen? ⟨b, 0, none⟩ = false := Row.frozen h 0
theorem Txr.below {b : Nat} {l : List UInt8} {w w' : World} (h : Txr b l w) (hb : Below w.heap.size w w') : Txr b l w' := Row.below h hb (Row.lt h)
theorem Txr.set {b : Nat} {l : List UInt8} {w : World} (h : Txr b l w) (r : List UInt8) : Txr b r (w.setCell ⟨b, 0, none⟩ (.string (str r))) := Row.set_ h 0 _

theorem str_toList (l : List UInt8) : (str l).toList = l := ByteArray.toList_mk l
theorem str_first (c : UInt8) (r : List UInt8) (h : 0 < (str (c :: r)).size) : (str (c :: r))[0]'h = c := rfl
theorem str_pos (c : UInt8) (r : List UInt8) : 0 < (str (c :: r)).size := by rw [str_size]; simp
theorem byte_eq (c s : UInt8) : ((c.toNat : Int) == (s.toNat : Int)) = decide (c = s) := by
  by_cases h : c = s
  · subst h; simp
  · have : ¬ (c.toNat : Int) = (s.toNat : Int) := fun e => h (UInt8.toNat_inj.1 (by omega))
    simp [h, this]

set_option maxRecDepth 100000 in
set_option maxHeartbeats 1000000 in
theorem has_any (b : Nat) (l : List UInt8) (s : UInt8) (z : Int) (hz : z = (s.toNat : Int)) (w : World) (h : Txr b l w) :
    Calls Tryd.prog 113 #[.pointer (some ⟨b, 0, none⟩), .int .u8 z] w fun e w' => e = .returned (.bool (hasB s l)) ∧ w' = w := by
  have c0 := h.cell
  subst hz
  go_enter Tryd.func113, Tryd.ntmps113
  cases l with
  | nil =>
    have e0 : str [] = (⟨#[]⟩ : ByteArray) := rfl
    rw [e0] at c0
    go_wp2
    go_ret
    exact ⟨rfl, rfl⟩
  | cons c r =>
    have h1 : (str (c :: r)).toList = c :: r := str_toList _
    have h2 := str_first c r
    have h3 := str_pos c r
    have h4 := byte_eq c s
    clear h
    go_wp2
    go_ret
    exact ⟨rfl, rfl⟩

/-- What the reader panics with. -/
def Ev (w : World) (n : Nat) (a : Addr) : Prop := 0 < n ∧ w.cell? ⟨0, 0, none⟩ = some (.iface 136 (.pointer (some a)))
theorem Ev.keep {w w' : World} {n b : Nat} {a : Addr} (h : Ev w n a) (hk : Keep b w w') (hb : n ≤ b) : Ev w' n a :=
  ⟨h.1, (World.cell?_of_block (w := w) (hk.block (World.block_lt_of_cell? _ _ h.2) (by have := h.1; dsimp only; omega))).trans h.2⟩

/-- The panic of a text that does not fit. -/
abbrev boom (a : Addr) : Ending := .panicked [{ v := .iface 136 (.pointer (some a)), recovered := false }]

set_option maxRecDepth 100000 in
set_option maxHeartbeats 1000000 in
theorem end_yes (b : Nat) (w : World) (h : Txr b [] w) :
    Calls Tryd.prog 74 #[.pointer (some ⟨b, 0, none⟩)] w fun e w' => e = .returned (.tuple #[]) ∧ w' = w := by
  have c0 := h.cell
  have e0 : str [] = (⟨#[]⟩ : ByteArray) := rfl
  rw [e0] at c0
  go_enter Tryd.func74, Tryd.ntmps74
  go_wp2
  go_end0
  exact ⟨rfl, rfl⟩
set_option maxRecDepth 100000 in
set_option maxHeartbeats 1000000 in
theorem end_no (b : Nat) (l : List UInt8) (hl : l ≠ []) (n : Nat) (a : Addr) (w : World) (h : Txr b l w) (hv : Ev w n a) :
    Calls Tryd.prog 74 #[.pointer (some ⟨b, 0, none⟩)] w fun e w' => e = boom a ∧ w' = w := by
  have c0 := h.cell
  have c1 := hv.2
  obtain ⟨c, r, rfl⟩ : ∃ c r, l = c :: r := by
    cases l with
    | nil => exact absurd rfl hl
    | cons c r => exact ⟨c, r, rfl⟩
  have h1 : (str (c :: r)).toList = c :: r := str_toList _
  clear hl
  go_enter Tryd.func74, Tryd.ntmps74
  go_wp2
  exact ⟨rfl, rfl, rfl⟩

theorem hasB_take {s : UInt8} {l r : List UInt8} (h : rdTake s l = some r) : hasB s l = true ∧ l = s :: r := by
  cases l with
  | nil => cases h
  | cons c l =>
    by_cases hc : c = s
    · rw [rdTake, if_pos hc] at h
      injection h with h
      exact ⟨by show decide (c = s) = true; simp [hc], by rw [hc, h]⟩
    · rw [rdTake, if_neg hc] at h
      cases h
theorem hasB_no {s : UInt8} {l : List UInt8} (h : rdTake s l = none) : hasB s l = false := by
  cases l with
  | nil => rfl
  | cons c l =>
    by_cases hc : c = s
    · rw [rdTake, if_pos hc] at h
      cases h
    · show decide (c = s) = false
      simp [hc]
theorem str_tail (c : UInt8) (r : List UInt8) : (str (c :: r)).extract 1 (str (c :: r)).size = str r := by
  apply ByteArray.ext
  have h : (str (c :: r)).size = r.length + 1 := by rw [str_size]; rfl
  rw [h]
  simp [str, ByteArray.data_extract]

set_option maxRecDepth 100000 in
set_option maxHeartbeats 400000 in
theorem take_no (b : Nat) (l : List UInt8) (s : UInt8) (z : Int) (hz : z = (s.toNat : Int)) (hl : rdTake s l = none) (n : Nat) (a : Addr) (w : World) (h : Txr b l w) (hv : Ev w n a) :
    Calls Tryd.prog 100 #[.pointer (some ⟨b, 0, none⟩), .int .u8 z] w fun e w' => e = boom a ∧ w' = w := by
  have c1 := hv.2
  have Hh := has_any b l s z hz w h
  rw [hasB_no hl] at Hh
  have HH := Lib.hid Hh
  clear Hh hz hl h hv
  go_enter Tryd.func100, Tryd.ntmps100
  go_wp2_with fail
  refine HH.out.mono ?_
  rintro e w' ⟨rfl, rfl⟩
  go_wp2
  exact ⟨rfl, rfl, rfl⟩
set_option maxRecDepth 100000 in
set_option maxHeartbeats 400000 in
theorem take_yes (b : Nat) (l r : List UInt8) (s : UInt8) (z : Int) (hz : z = (s.toNat : Int)) (hl : rdTake s l = some r) (w : World) (h : Txr b l w) (hm : l.length ≤ 1048576) :
    Calls Tryd.prog 100 #[.pointer (some ⟨b, 0, none⟩), .int .u8 z] w fun e w' => e = .returned (.tuple #[]) ∧ Keep b w w' ∧ Txr b r w' := by
  obtain ⟨hh, rfl⟩ := hasB_take hl
  have Hh := has_any b _ s z hz w h
  rw [hh] at Hh
  have HH := Lib.hid Hh
  have c0 := h.cell
  have f0 := h.frozen
  have HT := Lib.hid h
  have h5 := str_tail s r
  have h6 : (str (s :: r)).size = r.length + 1 := by rw [str_size]; rfl
  rw [h6] at h5
  simp only [List.length_cons] at hm
  clear h Hh hz hl hh
  go_enter Tryd.func100, Tryd.ntmps100
  go_wp2_with fail
  refine HH.out.mono ?_
  rintro e w' ⟨rfl, rfl⟩
  go_wp2
  go_end0
  refine ⟨rfl, (Keep.refl b _).setb _, ?_⟩
  first | rw [h5] | skip
  exact HT.out.set r
set_option maxRecDepth 100000 in
set_option maxHeartbeats 400000 in
theorem digit_yes (b : Nat) (c : UInt8) (r : List UInt8) (hd : isD c = true) (w : World) (h : Txr b (c :: r) w) (hm : r.length + 1 ≤ 1048576) :
    Calls Tryd.prog 102 #[.pointer (some ⟨b, 0, none⟩)] w fun e w' => e = .returned (.int .i64 (valD c)) ∧ Keep b w w' ∧ Txr b r w' := by
  have c0 := h.cell
  have f0 := h.frozen
  have HT := Lib.hid h
  have h1 : (str (c :: r)).toList = c :: r := str_toList _
  have h2 := str_first c r
  have h3 := str_pos c r
  have h5 := str_tail c r
  have h6 : (str (c :: r)).size = r.length + 1 := by rw [str_size]; rfl
  rw [h6] at h5 h3
  simp only [isD, Bool.and_eq_true, decide_eq_true_eq] at hd
  obtain ⟨d1, d2⟩ := hd
  have e1 : ¬ ((c.toNat : Nat) : Int) < 48 := by omega
  have e2 : ¬ (57 : Int) < ((c.toNat : Nat) : Int) := by omega
  clear h
  go_enter Tryd.func102, Tryd.ntmps102
  go_wp2
  go_ret
  exact ⟨rfl, (Keep.refl b _).setb _, HT.out.set r⟩
set_option maxRecDepth 100000 in
set_option maxHeartbeats 400000 in
theorem digit_no (b : Nat) (l : List UInt8) (hl : rdDigit l = none) (n : Nat) (a : Addr) (w : World) (h : Txr b l w) (hv : Ev w n a) :
    Calls Tryd.prog 102 #[.pointer (some ⟨b, 0, none⟩)] w fun e w' => e = boom a ∧ w' = w := by
  have c0 := h.cell
  have v0 := hv.2
  clear h hv
  cases l with
  | nil =>
    have e0 : str [] = (⟨#[]⟩ : ByteArray) := rfl
    rw [e0] at c0
    clear hl
    go_enter Tryd.func102, Tryd.ntmps102
    go_wp2
    exact ⟨rfl, rfl, rfl⟩
  | cons c r =>
    have h1 : (str (c :: r)).toList = c :: r := str_toList _
    have h2 := str_first c r
    have h3 := str_pos c r
    have hd : isD c = false := by
      cases hc : isD c with
      | false => rfl
      | true => simp [rdDigit, hc] at hl
    simp only [isD, Bool.and_eq_false_iff, decide_eq_false_iff_not] at hd
    clear hl
    by_cases d1 : 48 ≤ c.toNat
    · have e1 : ¬ ((c.toNat : Nat) : Int) < 48 := by omega
      have e2 : (57 : Int) < ((c.toNat : Nat) : Int) := by omega
      clear hd
      go_enter Tryd.func102, Tryd.ntmps102
      go_wp2
      exact ⟨rfl, rfl, rfl⟩
    · have e1 : ((c.toNat : Nat) : Int) < 48 := by omega
      clear hd
      go_enter Tryd.func102, Tryd.ntmps102
      go_wp2
      exact ⟨rfl, rfl, rfl⟩
end Go.Proofs.YtcecljolnknapaaDoor
