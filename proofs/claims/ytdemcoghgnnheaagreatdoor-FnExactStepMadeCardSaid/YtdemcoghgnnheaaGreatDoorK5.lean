/-
  The model's reader of explicit terms in memory: its state; the contracts of next, digit, take.
  Calls put together from texts: as data; plain data only.
  Rows of strings in memory; the contracts of the law's szStringS, toStringS, eqStringS.
  A text cut at every sign: as data; the contract of the model's l13Cut.
  The contracts of the model's l6End and TermValid.
  The contracts of the model's l6Join, CallTerm.
  sync.Once in one goroutine, the lock free and nothing done yet: the parts of its slow road, each a contract of its own.
  The table that a coercion makes once: filled by the function that is handed to the Once.
  sync.Once's Do, not done yet, the lock free, over the table of a coercion; and the look-up in the table.
  The contracts of ApplyCoercion, the program's and the model's.
  Ways as plain data: where a row of coercions leads, and what it makes of a value. Nothing here speaks of the program.
  append of one element to a row of the call's own: the new slice lies in the old row or in a new block, and the old slice can be had back.
  The contract of the model's reader of explicit terms: call.
-/
import Derived.Test.YtdemcoghgnnheaaGreatDoorK4
import Derived.BigQuiet
import Derived.Lib.Join
import Derived.Test.YtdemcoghgnnheaaGreatDoorK1
import Derived.Test.YtdemcoghgnnheaaGreatDoorRows
import Derived.Test.YtdemcoghgnnheaaGreatDoorK2
import Derived.Tactics
import Derived.Tactics2
import Derived.Defers
import Derived.Laws.Pointers
import Derived.Laws.LoneSync
import Derived.RegionTactic
import Derived.RegionCalls
import Derived.ChangeAlike
import Derived.Outline
import Derived.Handy
import Derived.StillTailTactics
import Derived.Laws.CopyOwn
import Derived.Deep.RegionHeld3
import Derived.Deep.DeepAppendRoom
import Derived.ArgAppend
namespace Go.Proofs.YtdemcoghgnnheaaGreatDoor
open Go.RowKit

/-- The model's reader stands in block b, over a system that lies below it. -/
structure Sr (lo hi b : Nat) (sv cv fv : Value) (y : Sy) (L : List UInt8) (q : Nat) (bad : Bool) (used : Int) (cal : Value) (w : World) : Prop where
  row : Row w b 195 [sv, cv, fv, .string (str L), .int .i64 q, .bool bad, .int .i64 used, cal]
  sy : SyAt w lo hi sv cv fv y
  hib : hi ≤ b
section
variable {lo hi b : Nat} {sv cv fv : Value} {y : Sy} {L : List UInt8} {q : Nat} {bad : Bool} {used : Int} {cal : Value} {w : World}
theorem Sr.lt (h : Sr lo hi b sv cv fv y L q bad used cal w) : b < w.heap.size := h.row.lt
theorem Sr.setAt (h : Sr lo hi b sv cv fv y L q bad used cal w) (q' : Nat) : Sr lo hi b sv cv fv y L q' bad used cal (w.setCell ⟨b, 4, none⟩ (.int .i64 q')) :=
  ⟨h.row.set_ 4 _, h.sy.keep fun k _ hk => Below.heap_setCell _ _ _ _ (by have := h.hib; dsimp only; omega), h.hib⟩
theorem Sr.setBad (h : Sr lo hi b sv cv fv y L q bad used cal w) (v : Bool) : Sr lo hi b sv cv fv y L q v used cal (w.setCell ⟨b, 5, none⟩ (.bool v)) :=
  ⟨h.row.set_ 5 _, h.sy.keep fun k _ hk => Below.heap_setCell _ _ _ _ (by have := h.hib; dsimp only; omega), h.hib⟩
theorem Sr.setUsed (h : Sr lo hi b sv cv fv y L q bad used cal w) (v : Int) : Sr lo hi b sv cv fv y L q bad v cal (w.setCell ⟨b, 6, none⟩ (.int .i64 v)) :=
  ⟨h.row.set_ 6 _, h.sy.keep fun k _ hk => Below.heap_setCell _ _ _ _ (by have := h.hib; dsimp only; omega), h.hib⟩
theorem Sr.setCal (h : Sr lo hi b sv cv fv y L q bad used cal w) (v : Value) : Sr lo hi b sv cv fv y L q bad used v (w.setCell ⟨b, 7, none⟩ v) :=
  ⟨h.row.set_ 7 _, h.sy.keep fun k _ hk => Below.heap_setCell _ _ _ _ (by have := h.hib; dsimp only; omega), h.hib⟩
theorem Sr.keep {w' : World} (h : Sr lo hi b sv cv fv y L q bad used cal w) (hk : ∀ k, k ≤ b → w'.heap[k]? = w.heap[k]?) : Sr lo hi b sv cv fv y L q bad used cal w' :=
  ⟨h.row.keep (hk b (Nat.le_refl _)), h.sy.keep fun k _ hk' => hk k (by have := h.hib; omega), h.hib⟩
theorem Sr.same {w' : World} (h : Sr lo hi b sv cv fv y L q bad used cal w) (e : w'.heap = w.heap) : Sr lo hi b sv cv fv y L q bad used cal w' := h.keep fun k _ => by rw [e]
theorem Sr.drew (h : Sr lo hi b sv cv fv y L q bad used cal w) : Sr lo hi b sv cv fv y L q bad used cal w.drew := ⟨h.row, h.sy, h.hib⟩
theorem Sr.cells (h : Sr lo hi b sv cv fv y L q bad used cal w) : w.cell? ⟨b, 0, none⟩ = some sv ∧ w.cell? ⟨b, 1, none⟩ = some cv ∧ w.cell? ⟨b, 2, none⟩ = some fv ∧ w.cell? ⟨b, 3, none⟩ = some (.string (str L)) ∧ w.cell? ⟨b, 4, none⟩ = some (.int .i64 q) ∧ w.cell? ⟨b, 5, none⟩ = some (.bool bad) ∧ w.cell? ⟨b, 6, none⟩ = some (.int .i64 used) ∧ w.cell? ⟨b, 7, none⟩ = some cal :=
  ⟨h.row.cell 0, h.row.cell 1, h.row.cell 2, h.row.cell 3, h.row.cell 4, h.row.cell 5, h.row.cell 6, h.row.cell 7⟩
theorem Sr.frozen (h : Sr lo hi b sv cv fv y L q bad used cal w) (i : Nat) : w.frozen? ⟨b, i, none⟩ = false := h.row.frozen i
end
theorem Keep.set7 (b i : Nat) (w : World) (v : Value) : Keep b w (w.setCell ⟨b, i, none⟩ v) :=
  ⟨⟨rfl, rfl, rfl, by simp [World.setCell], fun j _ hb => Below.heap_setCell _ _ _ _ fun e => hb (by rw [e])⟩⟩
theorem drop_cons_of {L : List UInt8} {q : Nat} {c : UInt8} {r : List UInt8} (h : L.drop q = c :: r) : q < L.length ∧ L.drop (q + 1) = r ∧ ∀ hq, (str L)[q]'hq = c := by
  have hl : (L.drop q).length = r.length + 1 := by rw [h]; rfl
  rw [List.length_drop] at hl
  have hq : q < L.length := by omega
  rw [List.drop_eq_getElem_cons hq] at h
  injection h with h1 h2
  refine ⟨hq, h2, fun hq' => ?_⟩
  rw [← h1]
  rfl
theorem drop_nil_of {L : List UInt8} {q : Nat} (h : L.drop q = []) : L.length ≤ q := by
  have hl : (L.drop q).length = 0 := by rw [h]; rfl
  rw [List.length_drop] at hl
  omega

theorem Keep.drewN {b : Nat} {w w' : World} (n : Nat) (h : Keep b (w.drewN n) w') : Keep b w w' := ⟨⟨h.grown.os, h.grown.tape, h.grown.output, h.grown.size, h.grown.block⟩⟩

set_option maxRecDepth 100000 in
set_option maxHeartbeats 1000000 in
theorem next_yes (lo hi b : Nat) (sv cv fv : Value) (y : Sy) (L : List UInt8) (q : Nat) (bad : Bool) (used : Int) (cal : Value) (c : UInt8) (r : List UInt8) (w : World) (h : Sr lo hi b sv cv fv y L q bad used cal w) (hL : L.length ≤ 400) (hd : L.drop q = c :: r) :
    Calls Tryz.prog 165 #[.pointer (some ⟨b, 0, none⟩)] w fun e w' => e = .returned (.int .u8 (c.toNat : Int)) ∧ Sr lo hi b sv cv fv y L (q + 1) bad used cal w' ∧ Keep b w w' := by
  obtain ⟨hq, -, hc⟩ := drop_cons_of hd
  obtain ⟨-, -, -, c3, c4, -, -, -⟩ := h.cells
  have hsz := str_size L
  have f4 := h.frozen 4
  have HS := Lib.hid h
  have n1 : ¬ L.length ≤ q := by omega
  have hcq : ∀ h, (str L)[q]'h = c := fun h' => hc h'
  clear h hd hc
  go_enter Tryz.func165, Tryz.ntmps165
  go_wp2_with fail
  go_quiet (fail)
  have c4' : (w.drewN nq).cell? ⟨b, 4, none⟩ = some (.int .i64 q) := c4
  have f4' : (w.drewN nq).frozen? ⟨b, 4, none⟩ = false := f4
  go_wp2_with fail
  have e1 : ((q : Int) + 1) = ((q + 1 : Nat) : Int) := by omega
  obtain ⟨u1, hu1⟩ : ∃ u, u = (w.drewN nq).setCell ⟨b, 4, none⟩ (.int .i64 ((q : Int) + 1)) := ⟨_, rfl⟩
  rw [← hu1]
  have HS1 : Hid (Sr lo hi b sv cv fv y L (q + 1) bad used cal u1) := by
    show Sr _ _ _ _ _ _ _ _ _ _ _ _ _
    rw [hu1, e1]
    exact (HS.out.same (w' := w.drewN nq) rfl).setAt (q + 1)
  have HK1 : Hid (Keep b w u1) := by
    show Keep _ _ _
    rw [hu1]
    exact Keep.drewN nq (Keep.set7 b 4 _ _)
  obtain ⟨-, -, -, c3', c4'', -, -, -⟩ := HS1.out.cells
  rw [← e1] at c4''
  clear hu1 c3 c4 c4' f4 f4' e1 n1
  go_quiet (fail)
  go_wp2
  go_ret
  exact ⟨rfl, HS1.out.keep fun _ _ => rfl, HK1.out.of_below (below_drewN (Below.refl _ _) _)⟩

set_option maxRecDepth 100000 in
set_option maxHeartbeats 1000000 in
theorem next_no (lo hi b : Nat) (sv cv fv : Value) (y : Sy) (L : List UInt8) (q : Nat) (bad : Bool) (used : Int) (cal : Value) (w : World) (h : Sr lo hi b sv cv fv y L q bad used cal w) (hd : L.length ≤ q) :
    Calls Tryz.prog 165 #[.pointer (some ⟨b, 0, none⟩)] w fun e w' => e = .returned (.int .u8 0) ∧ Sr lo hi b sv cv fv y L q true used cal w' ∧ Keep b w w' := by
  obtain ⟨-, -, -, c3, c4, c5, -, -⟩ := h.cells
  have hsz := str_size L
  have f5 := h.frozen 5
  have HS := Lib.hid h
  clear h
  go_enter Tryz.func165, Tryz.ntmps165
  go_wp2_with fail
  go_quiet (fail)
  have c5' : (w.drewN nq).cell? ⟨b, 5, none⟩ = some (.bool bad) := c5
  have f5' : (w.drewN nq).frozen? ⟨b, 5, none⟩ = false := f5
  go_wp2
  go_ret
  exact ⟨rfl, (HS.out.same (w' := w.drewN nq) rfl).setBad true, Keep.drewN nq (Keep.set7 b 5 _ _)⟩

theorem rdIx_yes {n : Nat} {c : UInt8} {r r' : List UInt8} {i : Nat} (h : rdIx n (c :: r) = some (i, r')) : r' = r ∧ (c.toNat : Int) = 48 + i ∧ i < n := by
  obtain ⟨h1, h2, h3⟩ := rdIx_eq h
  have e : c :: r = UInt8.ofNat (48 + ((i : Nat) : Int).toNat) :: r' := h3
  injection e with e1 e2
  refine ⟨e2.symm, ?_, h1⟩
  rw [e1, UInt8.toNat_ofNat']
  omega
theorem rdIx_no {n : Nat} (hn : n ≤ 8) {c : UInt8} {r : List UInt8} (h : rdIx n (c :: r) = none) : ¬ (0 ≤ (c.toNat : Int) - 48 ∧ (c.toNat : Int) - 48 ≤ (n : Int) - 1) := by
  intro hc
  have hd : isD c = true := by unfold isD; simp; omega
  have e : rdDigit (c :: r) = some (valD c, r) := by rw [rdDigit, if_pos hd]
  unfold rdIx at h
  rw [e] at h
  simp only [Option.bind_some] at h
  split at h
  · cases h
  · rename_i hv
    unfold valD at hv
    omega

set_option maxRecDepth 100000 in
set_option maxHeartbeats 1000000 in
theorem digit7_yes (lo hi b : Nat) (sv cv fv : Value) (y : Sy) (L : List UInt8) (q : Nat) (used : Int) (cal : Value) (n i : Nat) (r : List UInt8) (w : World) (h : Sr lo hi b sv cv fv y L q false used cal w) (hL : L.length ≤ 400) (hn : n ≤ 8) (hd : rdIx n (L.drop q) = some (i, r)) :
    Calls Tryz.prog 166 #[.pointer (some ⟨b, 0, none⟩), .int .i64 n] w fun e w' => e = .returned (.int .i64 i) ∧ Sr lo hi b sv cv fv y L (q + 1) false used cal w' ∧ L.drop (q + 1) = r ∧ Keep b w w' := by
  obtain ⟨c, r0, hcr⟩ : ∃ c r0, L.drop q = c :: r0 := by
    cases hq : L.drop q with
    | nil => rw [hq] at hd; cases hd
    | cons c r0 => exact ⟨c, r0, rfl⟩
  rw [hcr] at hd
  obtain ⟨rfl, hc, hin⟩ := rdIx_yes hd
  have hdr := Lib.hid (drop_cons_of hcr).2.1
  have HN := Lib.hid (next_yes lo hi b sv cv fv y L q false used cal c r w h hL hcr)
  have hlt := h.lt
  have HC := Lib.hid hc
  have hcb : (c.toNat : Int) ≤ 255 := by have := UInt8.toNat_lt c; omega
  have Hin : Hid (inB ((c.toNat : Int) - 48) 0 ((n : Int) - 1) = true) := inB_yes (by omega) (by omega)
  clear h hd hcr hc
  go_enter Tryz.func166, Tryz.ntmps166
  go_wp2_with fail
  refine HN.out.mono ?_
  rintro e w1 ⟨rfl, hs1, hk1⟩
  obtain ⟨-, -, -, -, -, c5, -, -⟩ := hs1.cells
  have HS1 := Lib.hid hs1
  have HK1 := Lib.hid hk1
  clear hs1 hk1 HN
  go_wp2_with fail
  refine (l1In_any _ _ _ w1).mono ?_
  rintro e w2 ⟨rfl, rfl⟩
  rw [Hin.out]
  go_wp2
  go_ret
  exact ⟨ret_int (by have := HC.out; omega), HS1.out, hdr.out, HK1.out⟩
set_option maxRecDepth 100000 in
set_option maxHeartbeats 1000000 in
theorem digit7_no (lo hi b : Nat) (sv cv fv : Value) (y : Sy) (L : List UInt8) (q : Nat) (used : Int) (cal : Value) (n : Nat) (w : World) (h : Sr lo hi b sv cv fv y L q false used cal w) (hL : L.length ≤ 400) (hq : q ≤ L.length) (hn : n ≤ 8) (hd : rdIx n (L.drop q) = none) :
    Calls Tryz.prog 166 #[.pointer (some ⟨b, 0, none⟩), .int .i64 n] w fun e w' => e = .returned (.int .i64 0) ∧ (∃ q', q' ≤ L.length ∧ Sr lo hi b sv cv fv y L q' true used cal w') ∧ Keep b w w' := by
  cases hcr : L.drop q with
  | nil =>
    have HN := Lib.hid (next_no lo hi b sv cv fv y L q false used cal w h (drop_nil_of hcr))
    have Hin : Hid (inB (-48) 0 ((n : Int) - 1) = false) := inB_low (by omega)
    clear h hd hcr
    go_enter Tryz.func166, Tryz.ntmps166
    go_wp2_with fail
    refine HN.out.mono ?_
    rintro e w1 ⟨rfl, hs1, hk1⟩
    obtain ⟨-, -, -, -, -, c5, -, -⟩ := hs1.cells
    have f5 := hs1.frozen 5
    have HS1 := Lib.hid hs1
    have HK1 := Lib.hid hk1
    clear hs1 hk1 HN
    go_wp2_with fail
    refine (l1In_any _ _ _ w1).mono ?_
    rintro e w2 ⟨rfl, rfl⟩
    rw [Hin.out]
    go_wp2
    go_ret
    exact ⟨rfl, ⟨q, hq, HS1.out.setBad true⟩, HK1.out.trans (Keep.set7 b 5 _ _)⟩
  | cons c r =>
    rw [hcr] at hd
    have HN := Lib.hid (next_yes lo hi b sv cv fv y L q false used cal c r w h hL hcr)
    have hql := (drop_cons_of hcr).1
    have hno := rdIx_no hn hd
    have hcb : (c.toNat : Int) ≤ 255 := by have := UInt8.toNat_lt c; omega
    have Hin : Hid (inB ((c.toNat : Int) - 48) 0 ((n : Int) - 1) = false) := by
      show _ = _
      by_cases h0 : 0 ≤ (c.toNat : Int) - 48
      · exact inB_high fun h1 => hno ⟨h0, h1⟩
      · exact inB_low h0
    clear h hd hcr hno
    go_enter Tryz.func166, Tryz.ntmps166
    go_wp2_with fail
    refine HN.out.mono ?_
    rintro e w1 ⟨rfl, hs1, hk1⟩
    obtain ⟨-, -, -, -, -, c5, -, -⟩ := hs1.cells
    have f5 := hs1.frozen 5
    have HS1 := Lib.hid hs1
    have HK1 := Lib.hid hk1
    clear hs1 hk1 HN
    go_wp2_with fail
    refine (l1In_any _ _ _ w1).mono ?_
    rintro e w2 ⟨rfl, rfl⟩
    rw [Hin.out]
    go_wp2
    go_ret
    exact ⟨rfl, ⟨q + 1, hql, HS1.out.setBad true⟩, HK1.out.trans (Keep.set7 b 5 _ _)⟩

set_option maxRecDepth 100000 in
set_option maxHeartbeats 1000000 in
theorem take7_yes (lo hi b : Nat) (sv cv fv : Value) (y : Sy) (L : List UInt8) (q : Nat) (used : Int) (cal : Value) (s : UInt8) (z : Int) (hz : z = (s.toNat : Int)) (r : List UInt8) (w : World) (h : Sr lo hi b sv cv fv y L q false used cal w) (hL : L.length ≤ 400) (hd : rdTake s (L.drop q) = some r) :
    Calls Tryz.prog 167 #[.pointer (some ⟨b, 0, none⟩), .int .u8 z] w fun e w' => e = .returned (.tuple #[]) ∧ Sr lo hi b sv cv fv y L (q + 1) false used cal w' ∧ L.drop (q + 1) = r ∧ q + 1 ≤ L.length ∧ Keep b w w' := by
  have hcr := rdTake_eq hd
  have hdr := Lib.hid (drop_cons_of hcr).2.1
  have hql := (drop_cons_of hcr).1
  subst hz
  have HN := Lib.hid (next_yes lo hi b sv cv fv y L q false used cal s r w h hL hcr)
  have hlt := h.lt
  clear h hd hcr
  go_enter Tryz.func167, Tryz.ntmps167
  go_wp2_with fail
  refine HN.out.mono ?_
  rintro e w1 ⟨rfl, hs1, hk1⟩
  obtain ⟨-, -, -, -, -, c5, -, -⟩ := hs1.cells
  have f5 := hs1.frozen 5
  have HS1 := Lib.hid hs1
  have HK1 := Lib.hid hk1
  clear hs1 hk1 HN
  go_wp2
  go_end0
  exact ⟨rfl, HS1.out.setBad false, hdr.out, hql, HK1.out.trans (Keep.set7 b 5 _ _)⟩
/-- Where what is to be read is not there, or something was wrong before. -/
def BadAt (lo hi b : Nat) (sv cv fv : Value) (y : Sy) (L : List UInt8) (used : Int) (cal : Value) (w : World) : Prop := ∃ q', q' ≤ L.length ∧ Sr lo hi b sv cv fv y L q' true used cal w
set_option maxRecDepth 100000 in
set_option maxHeartbeats 1000000 in
theorem take7_no (lo hi b : Nat) (sv cv fv : Value) (y : Sy) (L : List UInt8) (q : Nat) (used : Int) (cal : Value) (s : UInt8) (z : Int) (hz : z = (s.toNat : Int)) (hs0 : s ≠ 0) (w : World) (h : Sr lo hi b sv cv fv y L q false used cal w) (hL : L.length ≤ 400) (hq : q ≤ L.length) (hd : rdTake s (L.drop q) = none) :
    Calls Tryz.prog 167 #[.pointer (some ⟨b, 0, none⟩), .int .u8 z] w fun e w' => e = .returned (.tuple #[]) ∧ BadAt lo hi b sv cv fv y L used cal w' ∧ Keep b w w' := by
  subst hz
  cases hcr : L.drop q with
  | nil =>
    have HN := Lib.hid (next_no lo hi b sv cv fv y L q false used cal w h (drop_nil_of hcr))
    have hne : ((0 : Int) != (s.toNat : Int)) = true := by
      have : s.toNat ≠ 0 := fun e => hs0 (UInt8.toNat_inj.1 e)
      simp
      omega
    clear h hd hcr
    go_enter Tryz.func167, Tryz.ntmps167
    go_wp2_with fail
    refine HN.out.mono ?_
    rintro e w1 ⟨rfl, hs1, hk1⟩
    obtain ⟨-, -, -, -, -, c5, -, -⟩ := hs1.cells
    have f5 := hs1.frozen 5
    have HS1 := Lib.hid hs1
    have HK1 := Lib.hid hk1
    clear hs1 hk1 HN
    go_wp2
    go_end0
    exact ⟨rfl, ⟨q, hq, HS1.out.setBad true⟩, HK1.out.trans (Keep.set7 b 5 _ _)⟩
  | cons c r =>
    rw [hcr] at hd
    have HN := Lib.hid (next_yes lo hi b sv cv fv y L q false used cal c r w h hL hcr)
    have hql := (drop_cons_of hcr).1
    have hne : ((c.toNat : Int) != (s.toNat : Int)) = true := by
      have : c ≠ s := fun e => by rw [rdTake, if_pos e] at hd; cases hd
      have h2 : ¬ c.toNat = s.toNat := fun e => this (UInt8.toNat_inj.1 e)
      simp
      omega
    clear h hd hcr
    go_enter Tryz.func167, Tryz.ntmps167
    go_wp2_with fail
    refine HN.out.mono ?_
    rintro e w1 ⟨rfl, hs1, hk1⟩
    obtain ⟨-, -, -, -, -, c5, -, -⟩ := hs1.cells
    have f5 := hs1.frozen 5
    have HS1 := Lib.hid hs1
    have HK1 := Lib.hid hk1
    clear hs1 hk1 HN
    go_wp2
    go_end0
    exact ⟨rfl, ⟨q + 1, hql, HS1.out.setBad true⟩, HK1.out.trans (Keep.set7 b 5 _ _)⟩
set_option maxRecDepth 100000 in
set_option maxHeartbeats 1000000 in
theorem take7_bad (lo hi b : Nat) (sv cv fv : Value) (y : Sy) (L : List UInt8) (used : Int) (cal : Value) (z : Int) (w : World) (h : BadAt lo hi b sv cv fv y L used cal w) (hL : L.length ≤ 400) :
    Calls Tryz.prog 167 #[.pointer (some ⟨b, 0, none⟩), .int .u8 z] w fun e w' => e = .returned (.tuple #[]) ∧ BadAt lo hi b sv cv fv y L used cal w' ∧ Keep b w w' := by
  obtain ⟨q, hq, h⟩ := h
  have HN : Hid (Calls Tryz.prog 165 #[.pointer (some ⟨b, 0, none⟩)] w fun e w' => (∃ x : Int, e = .returned (.int .u8 x)) ∧ BadAt lo hi b sv cv fv y L used cal w' ∧ Keep b w w') := by
    show Calls _ _ _ _ _
    cases hcr : L.drop q with
    | nil => exact (next_no lo hi b sv cv fv y L q true used cal w h (drop_nil_of hcr)).mono fun e w' ⟨he, hs, hk⟩ => ⟨⟨_, he⟩, ⟨q, hq, hs⟩, hk⟩
    | cons c r => exact (next_yes lo hi b sv cv fv y L q true used cal c r w h hL hcr).mono fun e w' ⟨he, hs, hk⟩ => ⟨⟨_, he⟩, ⟨q + 1, (drop_cons_of hcr).1, hs⟩, hk⟩
  clear h
  go_enter Tryz.func167, Tryz.ntmps167
  go_wp2_with fail
  refine HN.out.mono ?_
  rintro e w1 ⟨⟨x, rfl⟩, ⟨q1, hq1, hs1⟩, hk1⟩
  obtain ⟨-, -, -, -, -, c5, -, -⟩ := hs1.cells
  have f5 := hs1.frozen 5
  have HS1 := Lib.hid hs1
  have HK1 := Lib.hid hk1
  clear hs1 hk1 HN
  by_cases hx : x = z
  · subst hx
    go_wp2
    go_end0
    exact ⟨rfl, ⟨q1, hq1, HS1.out.setBad true⟩, HK1.out.trans (Keep.set7 b 5 _ _)⟩
  · have hne : (x != z) = true := by simp [hx]
    go_wp2
    go_end0
    exact ⟨rfl, ⟨q1, hq1, HS1.out.setBad true⟩, HK1.out.trans (Keep.set7 b 5 _ _)⟩
end Go.Proofs.YtdemcoghgnnheaaGreatDoor

namespace Go.Proofs.YtdemcoghgnnheaaGreatDoor
open Go.RowKit

/-- What stands ahead of the bracket that is open when a reversed text has been read. -/
def mat : List UInt8 → Nat → Option (List UInt8)
  | [], _ => none
  | c :: r, e => if c = 41 then mat r (e + 1) else if c = 40 then (if e ≤ 1 then some r else mat r (e - 1)) else mat r e
theorem mat_skip {c : UInt8} {r : List UInt8} {e : Nat} (h1 : c ≠ 41) (h2 : c ≠ 40) : mat (c :: r) e = mat r e := by rw [mat, if_neg h1, if_neg h2]
theorem mat_close (r : List UInt8) (e : Nat) : mat (41 :: r) e = mat r (e + 1) := by rw [mat, if_pos rfl]
theorem mat_open {r : List UInt8} {e : Nat} (h : 2 ≤ e) : mat (40 :: r) e = mat r (e - 1) := by rw [mat, if_neg (by decide), if_pos rfl, if_neg (by omega)]
theorem digit_ne {z : Int} (h : Dig z) : UInt8.ofNat (48 + z.toNat) ≠ 41 ∧ UInt8.ofNat (48 + z.toNat) ≠ 40 := by
  have hd := isD_of (isD_dg h).1
  constructor
  · intro e; rw [e] at hd; revert hd; decide
  · intro e; rw [e] at hd; revert hd; decide
theorem name_ne {n : UInt8} (h : isN n = true) : n ≠ 41 ∧ n ≠ 40 := by
  constructor
  · rintro rfl; exact absurd h (by decide)
  · rintro rfl; exact absurd h (by decide)
/-- A term's text has its brackets within itself. -/
theorem mat_term : ∀ (t : Tm), TmOk t → ∀ (r : List UInt8) (e : Nat), 1 ≤ e → mat ((tmT t).reverse ++ r) e = mat r e
  | .lit k v, h, r, e, he => by
    have e1 : (tmT (.lit k v)).reverse ++ r = UInt8.ofNat (48 + v.toNat) :: 58 :: UInt8.ofNat (48 + k.toNat) :: r := by simp [tmT, dg]
    rw [e1, mat_skip (digit_ne h.2).1 (digit_ne h.2).2, mat_skip (by decide) (by decide), mat_skip (digit_ne h.1).1 (digit_ne h.1).2]
  | .c0 n, h, r, e, he => by
    have e1 : (tmT (.c0 n)).reverse ++ r = 41 :: 40 :: n :: r := by simp [tmT]
    have hn := name_ne (show isN n = true from h)
    rw [e1, mat_close, mat_open (by omega), Nat.add_sub_cancel, mat_skip hn.1 hn.2]
  | .c1 n a, h, r, e, he => by
    have e1 : (tmT (.c1 n a)).reverse ++ r = 41 :: ((tmT a).reverse ++ (40 :: n :: r)) := by simp [tmT]
    have hn := name_ne h.1
    rw [e1, mat_close, mat_term a h.2 _ _ (by omega), mat_open (by omega), Nat.add_sub_cancel, mat_skip hn.1 hn.2]
  | .c2 n a b, h, r, e, he => by
    have e1 : (tmT (.c2 n a b)).reverse ++ r = 41 :: ((tmT b).reverse ++ (44 :: ((tmT a).reverse ++ (40 :: n :: r)))) := by simp [tmT]
    have hn := name_ne h.1
    rw [e1, mat_close, mat_term b h.2.2 _ _ (by omega), mat_skip (by decide) (by decide), mat_term a h.2.1 _ _ (by omega), mat_open (by omega), Nat.add_sub_cancel, mat_skip hn.1 hn.2]
/-- Terms with commas between. -/
theorem mat_join : ∀ (ts : List Tm), (∀ t ∈ ts, TmOk t) → ∀ (r : List UInt8) (e : Nat), 1 ≤ e → mat ((Lib.join (ts.map tmT) [44]).reverse ++ r) e = mat r e
  | [], _, r, e, _ => by simp [Lib.join]
  | [t], h, r, e, he => by
    rw [List.map_cons, List.map_nil, Lib.join_one]
    exact mat_term t (h t (by simp)) r e he
  | t :: u :: ts, h, r, e, he => by
    have e1 : Lib.join ((t :: u :: ts).map tmT) [44] = tmT t ++ ([44] ++ Lib.join ((u :: ts).map tmT) [44]) := by
      simp only [List.map_cons, Lib.join_cons]
      rfl
    rw [e1]
    simp only [List.reverse_append, List.append_assoc, List.reverse_cons, List.nil_append, List.cons_append]
    rw [mat_join (u :: ts) (fun x hx => h x (List.mem_cons_of_mem _ hx)) _ _ he, mat_skip (by decide) (by decide), mat_term t (h t (by simp)) _ _ he]

/-- The text of a call with arguments. -/
def callL (nm : List UInt8) (ps : List (List UInt8)) : List UInt8 := nm ++ [40] ++ Lib.join ps [44] ++ [41]
theorem mat_call (nm : List UInt8) (ts : List Tm) (h : ∀ t ∈ ts, TmOk t) : mat (callL nm (ts.map tmT)).reverse 0 = some nm.reverse := by
  have e1 : (callL nm (ts.map tmT)).reverse = 41 :: ((Lib.join (ts.map tmT) [44]).reverse ++ (40 :: nm.reverse)) := by simp [callL]
  rw [e1, mat_close, mat_join ts h _ _ (Nat.le_refl _), mat, if_neg (by decide), if_pos rfl, if_pos (by decide)]
/-- A term that ends with a bracket has one sign ahead of the one that opens it. -/
theorem mat_one {t : Tm} (h : TmOk t) {nm : List UInt8} (hm : mat (tmT t).reverse 0 = some nm.reverse) : ∃ n, nm = [n] ∧ isN n = true := by
  have fin : ∀ {n : UInt8} {x : List UInt8}, isN n = true → some [n] = some nm.reverse → ∃ n, nm = [n] ∧ isN n = true := by
    intro n _ hn e
    injection e with e
    refine ⟨n, ?_, hn⟩
    rw [← List.reverse_reverse nm, ← e]
    rfl
  cases t with
  | lit k v =>
    exfalso
    have e1 : (tmT (.lit k v)).reverse = [UInt8.ofNat (48 + v.toNat), 58, UInt8.ofNat (48 + k.toNat)] := by simp [tmT, dg]
    rw [e1, mat_skip (digit_ne h.2).1 (digit_ne h.2).2, mat_skip (by decide) (by decide), mat_skip (digit_ne h.1).1 (digit_ne h.1).2] at hm
    cases hm
  | c0 n =>
    have e1 : (tmT (.c0 n)).reverse = 41 :: 40 :: [n] := by simp [tmT]
    rw [e1, mat_close, mat, if_neg (by decide), if_pos rfl, if_pos (by decide)] at hm
    exact fin (x := []) h hm
  | c1 n a =>
    have e1 : (tmT (.c1 n a)).reverse = 41 :: ((tmT a).reverse ++ (40 :: [n])) := by simp [tmT]
    rw [e1, mat_close, mat_term a h.2 _ _ (by omega), mat, if_neg (by decide), if_pos rfl, if_pos (by decide)] at hm
    exact fin (x := []) h.1 hm
  | c2 n a b =>
    have e1 : (tmT (.c2 n a b)).reverse = 41 :: ((tmT b).reverse ++ (44 :: ((tmT a).reverse ++ (40 :: [n])))) := by simp [tmT]
    rw [e1, mat_close, mat_term b h.2.2 _ _ (by omega), mat_skip (by decide) (by decide), mat_term a h.2.1 _ _ (by omega), mat, if_neg (by decide), if_pos rfl, if_pos (by decide)] at hm
    exact fin (x := []) h.1 hm

def allV (ps : List (List UInt8)) : Bool := ps.all fun p => (parseT p).isSome
theorem allV_terms : ∀ {ps : List (List UInt8)}, allV ps = true → ∃ ts : List Tm, ps = ts.map tmT ∧ ∀ t ∈ ts, TmOk t
  | [], _ => ⟨[], rfl, fun t h => by cases h⟩
  | p :: ps, h => by
    simp only [allV, List.all_cons, Bool.and_eq_true] at h
    obtain ⟨t, ht⟩ := Option.isSome_iff_exists.1 h.1
    obtain ⟨ho, e, _⟩ := parseT_tmT.1 ht
    obtain ⟨ts, e2, h2⟩ := allV_terms (ps := ps) h.2
    exact ⟨t :: ts, by rw [e, e2]; rfl, fun x hx => by
      rcases List.mem_cons.1 hx with rfl | hx
      · exact ho
      · exact h2 x hx⟩
/-- No call has more than two arguments. -/
theorem call_two {nm : List UInt8} {ps : List (List UInt8)} (hv : allV ps = true) (h2 : 2 < ps.length) : parseT (callL nm ps) = none := by
  obtain ⟨ts, rfl, hts⟩ := allV_terms hv
  cases hp : parseT (callL nm (ts.map tmT)) with
  | none => rfl
  | some t =>
    exfalso
    obtain ⟨ho, e, hl⟩ := parseT_tmT.1 hp
    have hm := mat_call nm ts hts
    rw [e] at hm
    obtain ⟨n, rfl, hn⟩ := mat_one ho hm
    match ts, h2, hts with
    | a :: b :: c :: r, _, hts =>
      have e1 : callL [n] ((a :: b :: c :: r).map tmT) = n :: 40 :: (tmT a ++ (44 :: (tmT b ++ (44 :: (Lib.join ((c :: r).map tmT) [44] ++ [41]))))) := by
        simp only [callL, List.map_cons, Lib.join_cons, Lib.joinTail]
        simp [List.append_assoc]
      obtain ⟨f, hf⟩ : ∃ f, (callL [n] ((a :: b :: c :: r).map tmT)).length = f + 1 := ⟨_, by rw [e1]; rfl⟩
      have hq := hp
      unfold parseT at hq
      rw [if_pos hl, hf, e1, rdTm_name f _ hn] at hq
      have hla : (tmT a).length ≤ f ∧ (tmT b).length ≤ f := by
        have := congrArg List.length e1
        simp only [List.length_cons, List.length_append] at this
        omega
      unfold rdCall at hq
      rw [rdTake_cons] at hq
      simp only [Option.bind_some] at hq
      rw [rdArgs, if_neg (by rw [hasB_41 (hts a (by simp))]; simp), rdTm_tmT f _ (hts a (by simp)) hla.1] at hq
      simp only [Option.bind_some] at hq
      rw [if_pos (by simp [hasB]), rdTake_cons] at hq
      simp only [Option.bind_some] at hq
      rw [rdTm_tmT f _ (hts b (by simp)) hla.2] at hq
      simp [rdTake] at hq
def callV (nm : List UInt8) (ps : List (List UInt8)) : Option (List UInt8) := if (allV ps && (parseT (callL nm ps)).isSome) = true then some (callL nm ps) else none
def callM (nm : List UInt8) (ps : List (List UInt8)) : Option (List UInt8) := if (allV ps && decide (ps.length ≤ 2) && (parseT (callL nm ps)).isSome) = true then some (callL nm ps) else none
theorem call_same (nm : List UInt8) (ps : List (List UInt8)) : callM nm ps = callV nm ps := by
  unfold callM callV
  cases ha : allV ps with
  | false => rfl
  | true =>
    by_cases h2 : ps.length ≤ 2
    · rw [show decide (ps.length ≤ 2) = true by simpa using h2]
      rfl
    · rw [call_two ha (by omega), show decide (ps.length ≤ 2) = false by simpa using h2]
      rfl
/-- The text as the model makes it: the first k parts. -/
def joinTo (nm : List UInt8) (ps : List (List UInt8)) : Nat → List UInt8
  | 0 => nm ++ [40]
  | k + 1 => joinTo nm ps k ++ (if 0 < k then [44] else []) ++ ps.getD k []
theorem joinTo_eq (nm : List UInt8) (ps : List (List UInt8)) : ∀ k, k ≤ ps.length → joinTo nm ps k = nm ++ [40] ++ Lib.join (ps.take k) [44]
  | 0, _ => by simp [joinTo, Lib.join]
  | 1, h => by
    have e : ps.take 1 = [ps[0]] := by
      rw [List.take_succ_eq_append_getElem (by omega)]
      simp
    rw [e, Lib.join_one]
    simp [joinTo, List.getD_eq_getElem?_getD, List.getElem?_eq_getElem (show 0 < ps.length by omega)]
  | k + 2, h => by
    have ih := joinTo_eq nm ps (k + 1) (by omega)
    rw [joinTo, ih, if_pos (by omega)]
    match ps, h with
    | z :: l, h =>
      have hk' : k < l.length := by simp at h; omega
      simp only [List.take_succ_cons, Lib.join_cons]
      have e := Lib.joinTail_take_succ [44] l k l[k] (by simp [hk'])
      rw [e]
      have e2 : (z :: l).getD (k + 1) [] = l[k] := by
        rw [List.getD_eq_getElem?_getD, List.getElem?_cons_succ, List.getElem?_eq_getElem hk']
        rfl
      rw [e2]
      simp [List.append_assoc]
theorem joinTo_all (nm : List UInt8) (ps : List (List UInt8)) : joinTo nm ps ps.length ++ [41] = callL nm ps := by
  rw [joinTo_eq nm ps _ (Nat.le_refl _), List.take_length]
  rfl
theorem joinTo_len (nm : List UInt8) (ps : List (List UInt8)) : ∀ k, k ≤ ps.length → (joinTo nm ps k).length ≤ nm.length + 1 + k + ((ps.map List.length).take k).sum
  | 0, _ => by simp [joinTo]
  | k + 1, h => by
    have ih := joinTo_len nm ps k (by omega)
    have e : ps.getD k [] = ps[k] := by rw [List.getD_eq_getElem?_getD, List.getElem?_eq_getElem (by omega)]; rfl
    have e2 : ((ps.map List.length).take (k + 1)).sum = ((ps.map List.length).take k).sum + ps[k].length := by
      rw [List.take_succ_eq_append_getElem (by simpa using (show k < ps.length by omega)), List.sum_append]
      simp
    rw [joinTo, e, e2, List.length_append, List.length_append]
    split
    · simp; omega
    · simp; omega
end Go.Proofs.YtdemcoghgnnheaaGreatDoor

namespace Go.Proofs.YtdemcoghgnnheaaGreatDoor
open Go.RowKit

/-- A slice reads as texts. -/
def StrsAt (w : World) (v : Value) (ps : List (List UInt8)) : Prop := ∃ A c, v = .slice A ps.length c ∧ ps.length ≤ c ∧ (0 < ps.length → ∃ g off, A = some ⟨g, off, none⟩ ∧ g < w.heap.size ∧ ∀ j, ∀ hj : j < ps.length, w.cell? ⟨g, off + j, none⟩ = some (.string (str ps[j])))
theorem StrsAt.below {w w' : World} {v : Value} {ps : List (List UInt8)} (h : StrsAt w v ps) (hb : Below w.heap.size w w') : StrsAt w' v ps := by
  obtain ⟨A, c, e, hc, h⟩ := h
  refine ⟨A, c, e, hc, fun h0 => ?_⟩
  obtain ⟨g, off, e2, hg, hcell⟩ := h h0
  exact ⟨g, off, e2, Nat.lt_of_lt_of_le hg hb.size, fun j hj => (World.cell?_of_block (w := w) (hb.block g hg)).trans (hcell j hj)⟩
def strVs (ps : List (List UInt8)) : List Value := ps.map fun p => Value.string (str p)
theorem strsAt_own {w : World} {N : Nat} {t : TypeId} {v : Value} {ps : List (List UInt8)} (h : w.ownsRow N t 1 v ps.length (strVs ps)) : StrsAt w v ps := by
  obtain ⟨_, ⟨rfl, e⟩ | ⟨g, cap, cur, rfl, hg, hh, hc1, hc2, hcs, htake⟩⟩ := h
  · exact ⟨none, 0, by rw [e], by omega, fun h0 => by omega⟩
  · refine ⟨some ⟨g, 0, none⟩, cap, rfl, hc1, fun h0 => ⟨g, 0, rfl, ?_, fun j hj => ?_⟩⟩
    · rcases Nat.lt_or_ge g w.heap.size with h' | h'
      · exact h'
      · rw [Array.getElem?_eq_none h'] at hh; cases hh
    · have e : w.cell? ⟨g, 0 + j, none⟩ = cur[j]? := by simp [World.cell?, hh]
      rw [e]
      have e2 : cur[j]? = (cur.toList.take (ps.length * 1))[j]? := by
        rw [List.getElem?_take_of_lt (by omega)]
        simp
      rw [e2, htake]
      simp [strVs, hj]
theorem str_tl (l : List UInt8) : (str l).toList = l := ByteArray.toList_mk l
/-- How much texts are. -/
def bulkS (ps : List (List UInt8)) : Nat := ps.length + (ps.map List.length).sum
theorem sum_take_le' : ∀ (l : List Nat) (k : Nat), (l.take k).sum ≤ l.sum
  | [], k => by simp
  | a :: l, 0 => by simp
  | a :: l, k + 1 => by have := sum_take_le' l k; simp only [List.take_succ_cons, List.sum_cons]; omega
theorem sumlen_take {ps : List (List UInt8)} {k : Nat} (hk : k < ps.length) : ((ps.map List.length).take (k + 1)).sum = ((ps.map List.length).take k).sum + ps[k].length := by
  rw [List.take_succ_eq_append_getElem (by simpa using hk), List.sum_append]
  simp

end Go.Proofs.YtdemcoghgnnheaaGreatDoor

namespace Go.Proofs.YtdemcoghgnnheaaGreatDoor
open Go.RowKit

/-- A text cut at every c. -/
def glue (p : List UInt8) : List (List UInt8) → List (List UInt8)
  | [] => [p]
  | h :: t => (p ++ h) :: t
def cutL (c : UInt8) : List UInt8 → List (List UInt8)
  | [] => [[]]
  | x :: l => if x = c then [] :: cutL c l else glue [x] (cutL c l)
theorem glue_nil {x : List (List UInt8)} (h : x ≠ []) : glue [] x = x := by
  cases x with
  | nil => exact absurd rfl h
  | cons h t => rfl
theorem glue_glue (p q : List UInt8) (x : List (List UInt8)) : glue p (glue q x) = glue (p ++ q) x := by
  cases x with
  | nil => rfl
  | cons h t => simp [glue, List.append_assoc]
theorem cutL_ne (c : UInt8) (l : List UInt8) : cutL c l ≠ [] := by
  cases l with
  | nil => simp [cutL]
  | cons x l =>
    simp only [cutL]
    split
    · simp
    · cases h : cutL c l <;> simp [glue]
/-- The piece from one place to another. -/
def sub (l : List UInt8) (f i : Nat) : List UInt8 := (l.drop f).take (i - f)
theorem sub_self (l : List UInt8) (i : Nat) : sub l i i = [] := by simp [sub]
theorem sub_succ {l : List UInt8} {f i : Nat} (hf : f ≤ i) (hi : i < l.length) : sub l f (i + 1) = sub l f i ++ [l[i]] := by
  unfold sub
  have e : i + 1 - f = (i - f) + 1 := by omega
  rw [e, List.take_succ_eq_append_getElem (by rw [List.length_drop]; omega)]
  congr 1
  simp
  congr 1
  omega
theorem str_sub (l : List UInt8) (f i : Nat) : (str l).extract f i = str (sub l f i) := by
  apply ByteArray.ext
  simp [str, sub, ByteArray.data_extract, List.extract_eq_take_drop]
/-- What the loop keeps, at place i, with the pieces that are done, and the place at which the last one begins. -/
def CutAt (c : UInt8) (l : List UInt8) (done : List (List UInt8)) (f i : Nat) : Prop := f ≤ i ∧ cutL c l = done ++ glue (sub l f i) (cutL c (l.drop i))
theorem CutAt.start (c : UInt8) (l : List UInt8) : CutAt c l [] 0 0 := ⟨Nat.le_refl _, by rw [sub_self, List.drop_zero, glue_nil (cutL_ne c l)]; rfl⟩
theorem CutAt.go {c : UInt8} {l : List UInt8} {done : List (List UInt8)} {f i : Nat} (h : CutAt c l done f i) (hi : i < l.length) (hne : l[i] ≠ c) : CutAt c l done f (i + 1) := by
  refine ⟨by have := h.1; omega, ?_⟩
  rw [h.2, List.drop_eq_getElem_cons hi, cutL, if_neg hne, glue_glue, sub_succ h.1 hi]
theorem CutAt.hit {c : UInt8} {l : List UInt8} {done : List (List UInt8)} {f i : Nat} (h : CutAt c l done f i) (hi : i < l.length) (he : l[i] = c) : CutAt c l (done ++ [sub l f i]) (i + 1) (i + 1) := by
  refine ⟨Nat.le_refl _, ?_⟩
  rw [h.2, List.drop_eq_getElem_cons hi, cutL, if_pos he, sub_self, glue_nil (cutL_ne _ _)]
  simp [glue]
theorem CutAt.last {c : UInt8} {l : List UInt8} {done : List (List UInt8)} {f : Nat} (h : CutAt c l done f l.length) : cutL c l = done ++ [sub l f l.length] := by
  rw [h.2, List.drop_length]
  simp [cutL, glue]
theorem cut_byte (l : List UInt8) (i : Nat) (_hi : i < l.length) (h : i < (str l).size) : (str l)[i]'h = l[i]'_hi := by
  show (str l).data[i] = l[i]
  simp [str]
  first | rfl | skip
theorem cut_eq (c s : UInt8) : ((c.toNat : Int) == (s.toNat : Int)) = decide (c = s) := by
  by_cases h : c = s
  · subst h; simp
  · have : ¬ (c.toNat : Int) = (s.toNat : Int) := fun e => h (UInt8.toNat_inj.1 (by omega))
    simp [h, this]

end Go.Proofs.YtdemcoghgnnheaaGreatDoor

namespace Go.Proofs.YtdemcoghgnnheaaGreatDoor
open Go.RowKit

theorem drop3 {L : List UInt8} {k : Nat} (h : k + 3 ≤ L.length) : ∃ a b c r, L.drop k = a :: b :: c :: r ∧ L.length = k + 3 + r.length ∧ (∀ h, (str L)[k]'h = a) ∧ (∀ h, (str L)[k + 1]'h = b) ∧ (∀ h, (str L)[k + 2]'h = c) ∧ L.drop (k + 3) = r ∧ L.drop (k + 2) = c :: r := by
  refine ⟨L[k], L[k + 1], L[k + 2], L.drop (k + 3), ?_, ?_, cut_byte L k (by omega), cut_byte L (k + 1) (by omega), cut_byte L (k + 2) (by omega), rfl, ?_⟩
  · rw [List.drop_eq_getElem_cons (by omega), List.drop_eq_getElem_cons (i := k + 1) (by omega), List.drop_eq_getElem_cons (i := k + 2) (by omega)]
  · rw [List.length_drop]; omega
  · rw [List.drop_eq_getElem_cons (i := k + 2) (by omega)]
theorem inB_D (c : UInt8) : inB (wrap64 (c.toNat : Int)) 48 57 = isD c := by
  have h := c.toNat_lt
  rw [show wrap64 (c.toNat : Int) = (c.toNat : Int) by unfold wrap64; omega]
  unfold inB isD
  rw [← Bool.decide_and]
  apply decide_eq_decide.2
  omega
theorem inB_N (c : UInt8) : inB (wrap64 (c.toNat : Int)) 102 107 = isN c := by
  have h := c.toNat_lt
  rw [show wrap64 (c.toNat : Int) = (c.toNat : Int) by unfold wrap64; omega]
  unfold inB isN
  rw [← Bool.decide_and]
  apply decide_eq_decide.2
  omega
theorem ret_eqInt {x y : Int} (h : x = y) : Ending.returned (.int .i64 x) = Ending.returned (.int .i64 y) := by rw [h]
theorem drop1 {L : List UInt8} {q : Nat} (h : q < L.length) : ∃ c r, L.drop q = c :: r ∧ (∀ h, (str L)[q]'h = c) ∧ L.drop (q + 1) = r :=
  ⟨L[q], L.drop (q + 1), List.drop_eq_getElem_cons h, cut_byte L q h, rfl⟩

set_option maxRecDepth 100000 in
set_option maxHeartbeats 4000000 in
theorem end6_any (L : List UInt8) (hL : L.length ≤ 1048576) : ∀ (f k : Nat) (w : World), k ≤ L.length → L.length ≤ k + f →
    Calls Tryz.prog 112 #[.string (str L), .int .i64 k] w fun e w' => e = .returned (.int .i64 (endZ L (endT f (L.drop k)))) ∧ w' = w := by
  intro f
  induction f with
  | zero =>
    intro k w hk hf
    have hsz := str_size L
    have hv : Hid (endZ L (endT 0 (L.drop k)) = -1) := by show _ = _; rw [endT_short (by rw [List.length_drop]; omega)]; rfl
    go_enter Tryz.func112, Tryz.ntmps112
    have h1 : (L.length : Int) < (k : Int) + 3 := by omega
    go_wp2
    go_ret
    exact ⟨ret_eqInt hv.out.symm, rfl⟩
  | succ f ih =>
    intro k w hk hf
    have hsz := str_size L
    have IH := Lib.hid ih
    clear ih
    by_cases hs : L.length < k + 3
    · have hv : Hid (endZ L (endT (f + 1) (L.drop k)) = -1) := by show _ = _; rw [endT_short (by rw [List.length_drop]; omega)]; rfl
      go_enter Tryz.func112, Tryz.ntmps112
      have h1 : (L.length : Int) < (k : Int) + 3 := by omega
      go_wp2
      go_ret
      exact ⟨ret_eqInt hv.out.symm, rfl⟩
    · obtain ⟨a, b, c, r, hd, hlen, b0, b1, b2, d3, d2⟩ := drop3 (L := L) (k := k) (by omega)
      have h1 : ¬ (L.length : Int) < (k : Int) + 3 := by omega
      have q58 : ((b.toNat : Int) == 58) = decide (b = 58) := cut_eq b 58
      by_cases hb : b = 58
      · subst hb
        have hv : Hid (endZ L (endT (f + 1) (L.drop k)) = if (isD a && isD c) = true then (k : Int) + 3 else -1) := by
          show _ = _
          rw [hd, endT_lit]
          split
          · show (L.length : Int) - (r.length : Int) = _
            omega
          · rfl
        clear hd d3 d2 q58
        cases ha : isD a with
        | false =>
          rw [ha] at hv
          go_enter Tryz.func112, Tryz.ntmps112
          go_wp2_with (go_at_call 51; refine (l1In_any _ _ _ _).mono ?_; rintro e w1 ⟨rfl, rfl⟩; first | rw [inB_D a, ha] | skip)
          go_ret
          exact ⟨ret_eqInt hv.out.symm, rfl⟩
        | true =>
          cases hc : isD c with
          | false =>
            rw [ha, hc] at hv
            go_enter Tryz.func112, Tryz.ntmps112
            go_wp2_with (go_at_call 51; refine (l1In_any _ _ _ _).mono ?_; rintro e w1 ⟨rfl, rfl⟩; first | rw [inB_D a, ha] | rw [inB_D c, hc])
            go_ret
            exact ⟨ret_eqInt hv.out.symm, rfl⟩
          | true =>
            rw [ha, hc] at hv
            go_enter Tryz.func112, Tryz.ntmps112
            go_wp2_with (go_at_call 51; refine (l1In_any _ _ _ _).mono ?_; rintro e w1 ⟨rfl, rfl⟩; first | rw [inB_D a, ha] | rw [inB_D c, hc])
            go_ret
            exact ⟨ret_eqInt hv.out.symm, rfl⟩
      · have hbf : decide (b = 58) = false := by simpa using hb
        rw [hbf] at q58
        have q40 : ((b.toNat : Int) == 40) = decide (b = 40) := cut_eq b 40
        cases hN : isN a with
        | false =>
          have hv : Hid (endZ L (endT (f + 1) (L.drop k)) = -1) := by show _ = _; rw [hd, endT_other a b _ hb (by simp [hN])]; rfl
          clear hd d3 d2 hb hbf q40
          go_enter Tryz.func112, Tryz.ntmps112
          go_wp2_with (go_at_call 51; refine (l1In_any _ _ _ _).mono ?_; rintro e w1 ⟨rfl, rfl⟩; rw [inB_N a, hN])
          go_ret
          exact ⟨ret_eqInt hv.out.symm, rfl⟩
        | true =>
          by_cases hb4 : b = 40
          · subst hb4
            have hca := Lib.hid (endT_call (f := f) a c r hN)
            rw [← hd] at hca
            have HD := Lib.hid d2
            have HD3 := Lib.hid d3
            clear hd d3 d2 hb hbf q40
            have q41 : ((c.toNat : Int) == 41) = decide (c = 41) := cut_eq c 41
            by_cases hc : c = 41
            · subst hc
              have hv : Hid (endZ L (endT (f + 1) (L.drop k)) = (k : Int) + 2 + 1) := by
                show _ = _
                rw [hca.out, if_pos rfl]
                show (L.length : Int) - (r.length : Int) = _
                omega
              clear q41 hca
              go_enter Tryz.func112, Tryz.ntmps112
              go_wp2_with (go_at_call 51; refine (l1In_any _ _ _ _).mono ?_; rintro e w1 ⟨rfl, rfl⟩; rw [inB_N a, hN])
              go_ret
              exact ⟨ret_eqInt hv.out.symm, rfl⟩
            · have hcf : decide (c = 41) = false := by simpa using hc
              rw [hcf] at q41
              have hstart : Hid (endT (f + 1) (L.drop k) = endArgs (rdTm f) 2 (L.drop (k + 2))) := by
                show _ = _
                rw [hca.out, if_neg hc, HD.out]
              clear hca hc hcf HD HD3
              go_enter Tryz.func112, Tryz.ntmps112
              go_wp2_with (first | (go_at_call 51; refine (l1In_any _ _ _ _).mono ?_; rintro e w1 ⟨rfl, rfl⟩; rw [inB_N a, hN]))
              clear b0 b1 b2 q58 q41 h1 hN
              go_loopw [1, 51] (fun v1 vm wr => ∃ (m q : Nat), m ≤ 2 ∧ k < q ∧ q ≤ L.length ∧ v1 = .int .i64 q ∧ vm = .int .i64 m ∧ wr = w ∧ Hid (endT (f + 1) (L.drop k) = endArgs (rdTm f) (2 - m) (L.drop q))) (fun _ vm _ => 2 - (intOf vm).toNat)
              case atStart => exact ⟨0, k + 2, by omega, by omega, by omega, by go_num, rfl, rfl, hstart.out⟩
              case round =>
                obtain ⟨m, q, hm, hq1, hq2, rfl, rfl, rfl, hrel2⟩ := hrel
                by_cases hm2 : m < 2
                · have IHq := Lib.hid (IH.out q wr hq2 (by omega))
                  have he : 2 - m = (1 - m) + 1 := by omega
                  rw [he] at hrel2
                  cases ho : rdTm f (L.drop q) with
                  | none =>
                    have hv : Hid (endZ L (endT (f + 1) (L.drop k)) = -1) := by show _ = _; rw [hrel2.out, endArgs, ho]; rfl
                    have hz : Hid (endZ L (endT f (L.drop q)) = -1) := by show _ = _; unfold endT; rw [ho]; rfl
                    clear hrel2 ho
                    rw [hz.out] at IHq
                    go_wp2_with (first | (go_at_call 112; refine IHq.out.mono ?_; rintro e w1 ⟨rfl, rfl⟩))
                    go_ret
                    exact ⟨ret_eqInt hv.out.symm, rfl⟩
                  | some p =>
                    obtain ⟨t, r2⟩ := p
                    have hse : endT f (L.drop q) = some r2 := by unfold endT; rw [ho]; rfl
                    obtain ⟨hl2, hdr⟩ := endT_suffix hse
                    rw [List.length_drop] at hl2 hdr
                    rw [List.drop_drop] at hdr
                    obtain ⟨q2, hq⟩ : ∃ q2, q2 + r2.length = L.length := ⟨L.length - r2.length, by omega⟩
                    have hz : Hid (endZ L (endT f (L.drop q)) = (q2 : Int)) := by
                      show _ = _
                      rw [hse]
                      show (L.length : Int) - (r2.length : Int) = _
                      omega
                    rw [show q + (L.length - q - r2.length) = q2 by omega] at hdr
                    rw [hz.out] at IHq
                    clear hse
                    cases r2 with
                    | nil =>
                      have hv : Hid (endZ L (endT (f + 1) (L.drop k)) = -1) := by show _ = _; rw [hrel2.out, endArgs, ho]; rfl
                      have hq3 : (L.length : Int) ≤ (q2 : Int) := by simp at hq; omega
                      clear hrel2 ho hdr hq hl2
                      go_wp2_with (first | (go_at_call 112; refine IHq.out.mono ?_; rintro e w1 ⟨rfl, rfl⟩))
                      go_ret
                      exact ⟨ret_eqInt hv.out.symm, rfl⟩
                    | cons d r3 =>
                      simp only [List.length_cons] at hq hl2
                      obtain ⟨d', r', hd', by0, hdr2⟩ := drop1 (L := L) (q := q2) (by omega)
                      rw [hdr] at hd'
                      injection hd' with hd1 hd2
                      subst hd1; subst hd2
                      have hq3 : ¬ (L.length : Int) ≤ (q2 : Int) := by omega
                      have hv0 : Hid (endT (f + 1) (L.drop k) = if d = 41 then some r3 else if d = 44 then endArgs (rdTm f) (1 - m) (L.drop (q2 + 1)) else none) := by show _ = _; rw [hrel2.out, endArgs, ho, hdr2]
                      have q41 : ((d.toNat : Int) == 41) = decide (d = 41) := cut_eq d 41
                      have q44 : ((d.toNat : Int) == 44) = decide (d = 44) := cut_eq d 44
                      clear hrel2 ho hdr hdr2
                      by_cases hd4 : d = 41
                      · subst hd4
                        have hv : Hid (endZ L (endT (f + 1) (L.drop k)) = (q2 : Int) + 1) := by
                          show _ = _
                          rw [hv0.out, if_pos rfl]
                          show (L.length : Int) - (r3.length : Int) = _
                          omega
                        clear hv0 q41 q44
                        go_wp2_with (first | (go_at_call 112; refine IHq.out.mono ?_; rintro e w1 ⟨rfl, rfl⟩))
                        go_ret
                        exact ⟨ret_eqInt hv.out.symm, rfl⟩
                      · have hdf : decide (d = 41) = false := by simpa using hd4
                        rw [hdf] at q41
                        have hv1 : Hid (endT (f + 1) (L.drop k) = if d = 44 then endArgs (rdTm f) (1 - m) (L.drop (q2 + 1)) else none) := by show _ = _; rw [hv0.out, if_neg hd4]
                        clear hv0 hd4 hdf
                        by_cases hd5 : d = 44
                        · have hdt : decide (d = 44) = true := by simpa using hd5
                          rw [hdt] at q44
                          have hv : Hid (endT (f + 1) (L.drop k) = endArgs (rdTm f) (2 - (m + 1)) (L.drop (q2 + 1))) := by show _ = _; rw [hv1.out, if_pos hd5, show 2 - (m + 1) = 1 - m by omega]
                          clear hv1 hd5 hdt
                          go_wp2_with (first | (go_at_call 112; refine IHq.out.mono ?_; rintro e w1 ⟨rfl, rfl⟩))
                          go_roundw
                          case rel => exact ⟨m + 1, q2 + 1, by omega, by omega, by omega, by go_num, by go_num, trivial, hv.out⟩
                          case measure => simp [intOf]; omega
                        · have hdt : decide (d = 44) = false := by simpa using hd5
                          rw [hdt] at q44
                          have hv : Hid (endZ L (endT (f + 1) (L.drop k)) = -1) := by show _ = _; rw [hv1.out, if_neg hd5]; rfl
                          clear hv1 hd5 hdt
                          go_wp2_with (first | (go_at_call 112; refine IHq.out.mono ?_; rintro e w1 ⟨rfl, rfl⟩))
                          go_ret
                          exact ⟨ret_eqInt hv.out.symm, rfl⟩
                · have hm3 : m = 2 := by omega
                  subst hm3
                  have hv : Hid (endZ L (endT (f + 1) (L.drop k)) = -1) := by show _ = _; rw [hrel2.out]; rfl
                  clear hrel2
                  go_wp2
                  go_ret
                  exact ⟨ret_eqInt hv.out.symm, rfl⟩
          · have hb4f : decide (b = 40) = false := by simpa using hb4
            rw [hb4f] at q40
            have hv : Hid (endZ L (endT (f + 1) (L.drop k)) = -1) := by show _ = _; rw [hd, endT_other a b _ hb (by simp [hN, hb4])]; rfl
            clear hd d3 d2 hb hbf hb4 hb4f
            go_enter Tryz.func112, Tryz.ntmps112
            go_wp2_with (go_at_call 51; refine (l1In_any _ _ _ _).mono ?_; rintro e w1 ⟨rfl, rfl⟩; rw [inB_N a, hN])
            go_ret
            exact ⟨ret_eqInt hv.out.symm, rfl⟩

theorem parseT_endZ {L : List UInt8} (h : L.length ≤ 60) : (endZ L (endT L.length L) == (L.length : Int)) = (parseT L).isSome := by
  rw [parseT_some]
  cases e : endT L.length L with
  | none =>
    simp [endZ]
  | some r =>
    have := (endT_suffix e).1
    simp only [endZ]
    by_cases hr : r = []
    · subst hr
      simp [h]
    · have : 0 < r.length := List.length_pos_iff.2 hr
      have e1 : decide (some r = some ([] : List UInt8)) = false := by simpa using hr
      rw [e1, Bool.and_false]
      simp
      omega

set_option maxRecDepth 100000 in
set_option maxHeartbeats 1000000 in
theorem specTermValid_any (L : List UInt8) (hL : L.length ≤ 1048576) (w : World) :
    Calls Tryz.prog 70 #[.string (str L)] w fun e w' => e = .returned (.bool (parseT L).isSome) ∧ w' = w := by
  have hsz := str_size L
  by_cases h : L.length ≤ 60
  · have h1 : (L.length : Int) ≤ 60 := by omega
    have hE := Lib.hid (end6_any L hL L.length 0 w (Nat.zero_le _) (by omega))
    have hp := Lib.hid (parseT_endZ h)
    clear h
    go_enter Tryz.func70, Tryz.ntmps70
    go_wp2_with (first | (go_at_call 112; refine hE.out.mono ?_; rintro e w1 ⟨rfl, rfl⟩))
    go_ret
    exact ⟨by rw [← hp.out]; rfl, rfl⟩
  · have h1 : ¬ (L.length : Int) ≤ 60 := by omega
    have hp : Hid (parseT L = none) := by show _ = _; unfold parseT; rw [if_neg h]
    clear h
    go_enter Tryz.func70, Tryz.ntmps70
    go_wp2
    go_ret
    exact ⟨by rw [hp.out]; rfl, rfl⟩
end Go.Proofs.YtdemcoghgnnheaaGreatDoor

namespace Go.Proofs.YtdemcoghgnnheaaGreatDoor
open Go.RowKit

abbrev optE (o : Option (List UInt8)) : Ending := .returned (.tuple #[.string (str (o.getD [])), .bool o.isSome])

set_option maxRecDepth 100000 in
set_option maxHeartbeats 1000000 in
theorem specTermValid_free (L : List UInt8) (w : World) :
    Calls Tryz.prog 70 #[.string (str L)] w fun e w' => e = .returned (.bool (parseT L).isSome) ∧ w' = w := by
  by_cases h : L.length ≤ 60
  · exact specTermValid_any L (by omega) w
  · have hsz := str_size L
    have h1 : ¬ (L.length : Int) ≤ 60 := by omega
    have hp : Hid (parseT L = none) := by show _ = _; unfold parseT; rw [if_neg h]
    clear h
    go_enter Tryz.func70, Tryz.ntmps70
    go_wp2
    go_ret
    exact ⟨by rw [hp.out]; rfl, rfl⟩

set_option maxRecDepth 100000 in
set_option maxHeartbeats 2000000 in
theorem l6Join_any (nm : List UInt8) (v : Value) (ps : List (List UInt8)) (w : World) (hv : StrsAt w v ps) (hn : nm.length ≤ 1048576) (hb : bulkS ps ≤ 1048576) :
    Calls Tryz.prog 115 #[.string (str nm), v] w fun e w' => e = .returned (.string (str (callL nm ps))) ∧ w' = w := by
  obtain ⟨A, c, rfl, hcap, hcells⟩ := hv
  have HC := Lib.hid hcells
  have hnp : ps.length + ((ps.map List.length).sum) ≤ 1048576 := hb
  have h0 : str nm ++ (⟨#[40]⟩ : ByteArray) = str (nm ++ [40]) := str_append _ _
  have n0 : ¬ 9223372036854775807 < (str nm).size + 1 := by rw [str_size]; omega
  have hst : Hid (nm ++ [40] = joinTo nm ps 0) := rfl
  obtain ⟨L0, hL0⟩ : ∃ L0, L0 = nm ++ [40] := ⟨_, rfl⟩
  rw [← hL0] at h0 hst
  clear hcells hL0 hb
  go_enter Tryz.func115, Tryz.ntmps115
  go_wp2
  clear h0 n0
  go_loopw [5, 12] (fun o i wr => ∃ k : Nat, k ≤ ps.length ∧ i = .int .i64 k ∧ wr = w ∧ ∃ Lk, o = .string (str Lk) ∧ Hid (Lk = joinTo nm ps k)) (fun _ i _ => ps.length - (intOf i).toNat)
  case atStart => exact ⟨0, Nat.zero_le _, rfl, rfl, _, rfl, hst.out⟩
  case round =>
    obtain ⟨k, hk, rfl, rfl, Lk, rfl, hLk⟩ := hrel
    have hjl := joinTo_len nm ps k hk
    rw [← hLk.out] at hjl
    by_cases hkl : k < ps.length
    · obtain ⟨g, off, hA, hgw, hcs⟩ := HC.out (by omega)
      subst hA
      have hck := hcs k hkl
      have hsum := sum_take_le' (ps.map List.length) (k + 1)
      rw [sumlen_take hkl] at hsum
      obtain ⟨q, hq⟩ : ∃ q, q = ps[k] := ⟨_, rfl⟩
      have hgd : ps.getD k [] = q := by rw [hq, List.getD_eq_getElem?_getD, List.getElem?_eq_getElem hkl]; rfl
      have hjs : Hid (joinTo nm ps (k + 1) = Lk ++ (if 0 < k then [44] else []) ++ q) := by show _ = _; rw [joinTo, hgd, hLk.out]
      rw [← hq] at hck hsum
      have s1 : str Lk ++ (⟨#[44]⟩ : ByteArray) = str (Lk ++ [44]) := str_append _ _
      have n1 : ¬ 9223372036854775807 < (str Lk).size + 1 := by rw [str_size]; omega
      have s2 : str (Lk ++ [44]) ++ str q = str (Lk ++ [44] ++ q) := str_append _ _
      have n2 : ¬ 9223372036854775807 < (str (Lk ++ [44])).size + (str q).size := by rw [str_size, str_size, List.length_append]; simp; omega
      have s3 : str Lk ++ str q = str (Lk ++ q) := str_append _ _
      have n3 : ¬ 9223372036854775807 < (str Lk).size + (str q).size := by rw [str_size, str_size]; omega
      obtain ⟨La, ha⟩ : ∃ La, La = Lk ++ [44] := ⟨_, rfl⟩
      rw [← ha] at s1 s2 n2
      obtain ⟨Lb, hb⟩ : ∃ Lb, Lb = La ++ q := ⟨_, rfl⟩
      rw [← hb] at s2
      obtain ⟨Lc, hc⟩ : ∃ Lc, Lc = Lk ++ q := ⟨_, rfl⟩
      rw [← hc] at s3
      by_cases h0 : 0 < k
      · have hnx : Hid (Lb = joinTo nm ps (k + 1)) := by show _ = _; rw [hjs.out, if_pos h0, hb, ha]
        have hk0 : (0 : Int) < (k : Int) := by omega
        clear hcs hq hgd ha hb hc s3 n3
        go_wp2
        go_roundw
        case rel => exact ⟨k + 1, by omega, by go_num, trivial, _, rfl, hnx.out⟩
        case measure => simp [intOf]; omega
      · have hnx : Hid (Lc = joinTo nm ps (k + 1)) := by show _ = _; rw [hjs.out, if_neg h0, hc]; simp
        have hk0 : ¬ (0 : Int) < (k : Int) := by omega
        clear hcs hq hgd ha hb hc s1 s2 n1 n2
        go_wp2
        go_roundw
        case rel => exact ⟨k + 1, by omega, by go_num, trivial, _, rfl, hnx.out⟩
        case measure => simp [intOf]; omega
    · have hke : k = ps.length := by omega
      have hfin : Hid (Lk ++ [41] = callL nm ps) := by show _ = _; rw [hLk.out, hke]; exact joinTo_all nm ps
      have hsum := sum_take_le' (ps.map List.length) k
      have s1 : str Lk ++ (⟨#[41]⟩ : ByteArray) = str (Lk ++ [41]) := str_append _ _
      have n1 : ¬ 9223372036854775807 < (str Lk).size + 1 := by rw [str_size]; omega
      obtain ⟨La, ha⟩ : ∃ La, La = Lk ++ [41] := ⟨_, rfl⟩
      rw [← ha] at s1 hfin
      have hki : ¬ ((k : Int) < (ps.length : Int)) := by omega
      clear ha
      go_wp2
      go_ret
      exact ⟨by rw [hfin.out]; rfl, rfl⟩

theorem allV_all {ps : List (List UInt8)} (h : ∀ j, ∀ hj : j < ps.length, (parseT ps[j]).isSome = true) : allV ps = true := by
  unfold allV
  rw [List.all_eq_true]
  intro p hp
  obtain ⟨j, hj, rfl⟩ := List.getElem_of_mem hp
  exact h j hj
theorem allV_not {ps : List (List UInt8)} {j : Nat} (hj : j < ps.length) (h : (parseT ps[j]).isSome = false) : allV ps = false := by
  unfold allV
  rw [List.all_eq_false]
  exact ⟨ps[j], List.getElem_mem hj, by rw [h]; simp⟩

end Go.Proofs.YtdemcoghgnnheaaGreatDoor

namespace Go.Proofs.YtdemcoghgnnheaaGreatDoor
open Go.RowKit

theorem disable (w : World) : (callFunc 223 #[]).run Tryz.prog w = .ok (.value (.tuple #[])) w := run_call_mark0 Tryz.func223 (by kernel_rfl) (by kernel_rfl) (by kernel_rfl) .disable (by kernel_rfl) w
theorem enable (w : World) : (callFunc 225 #[]).run Tryz.prog w = .ok (.value (.tuple #[])) w := run_call_mark0 Tryz.func225 (by kernel_rfl) (by kernel_rfl) (by kernel_rfl) .enable (by kernel_rfl) w
theorem acquire (a : Addr) (w : World) : (callFunc 226 #[.pointer (some a)]).run Tryz.prog w = .ok (.value (.tuple #[])) w := run_call_marked Tryz.func226 (by kernel_rfl) (by kernel_rfl) (by kernel_rfl) .acquire (by kernel_rfl) a w
theorem releaseMerge (a : Addr) (w : World) : (callFunc 228 #[.pointer (some a)]).run Tryz.prog w = .ok (.value (.tuple #[])) w := run_call_marked Tryz.func228 (by kernel_rfl) (by kernel_rfl) (by kernel_rfl) .releaseMerge (by kernel_rfl) a w

set_option maxRecDepth 100000 in
set_option maxHeartbeats 800000 in
/-- The flag is stored, as a deferred call. -/
theorem store_deferred (a : Addr) (x : Value) (u : FrameMode) (w : World) (hc : w.cell? a = some x) (hz : w.frozen? a = false) :
    CallsD Tryz.prog 205 #[.pointer (some a), .bool true] u w fun e u' w' => u' = u ∧ (e = .returned (.tuple #[]) ∧ w' = w.drew.setCell a (.int .u32 1)) := by
  have hc' : w.drew.cell? a = some x := by go_simp
  have hz' : w.drew.frozen? a = false := by go_simp
  have hst := run_call_store (P := Tryz.prog) Tryz.func216 (by kernel_rfl) (by kernel_rfl) (by kernel_rfl) (by kernel_rfl) (k := .u32) (y := 1) hc' hz'
  go_enter_d Tryz.func205, Tryz.ntmps205
  go_wp2
  go_region_calls
  all_goals (go_end0; exact ⟨rfl, rfl⟩)

set_option maxRecDepth 100000 in
set_option maxHeartbeats 800000 in
/-- The lock is let go, as a deferred call. -/
theorem unlock_deferred (a : Addr) (u : FrameMode) (w : World) (hc : w.cell? a = some (.int .i32 1)) (hz : w.frozen? a = false) :
    CallsD Tryz.prog 204 #[.pointer (some a)] u w fun e u' w' => u' = u ∧ (e = .returned (.tuple #[]) ∧ w' = w.setCell a (.int .i32 0)) := by
  have hd := disable
  have he := enable
  have hr := releaseMerge
  have hadd := run_call_add (P := Tryz.prog) Tryz.func229 (by kernel_rfl) (by kernel_rfl) (by kernel_rfl) .i32 (by kernel_rfl) (y := -1) (s := 0) hc hz (by simp [go_sem]; rfl)
  have hcv := run_convert_to_unsafe (P := Tryz.prog) (src := 308) (dst := 263) Tryz.underlying308 Tryz.underlying263 (by kernel_rfl) hc
  go_enter_d Tryz.func204, Tryz.ntmps204
  go_wp2
  go_end0
  go_wp2
  all_goals go_end0
  all_goals exact ⟨rfl, rfl⟩

set_option maxRecDepth 100000 in
set_option maxHeartbeats 800000 in
/-- The lock is taken. -/
theorem lock_free (a : Addr) (w : World) (hc : w.cell? a = some (.int .i32 0)) (hz : w.frozen? a = false) :
    Calls Tryz.prog 203 #[.pointer (some a)] w fun e w' => e = .returned (.tuple #[]) ∧ w' = w.setCell a (.int .i32 1) := by
  have hd := disable
  have he := enable
  have ha := acquire
  have hcas := run_call_cas_hit (P := Tryz.prog) Tryz.func224 (by kernel_rfl) (by kernel_rfl) (by kernel_rfl) .i32 (by kernel_rfl) (y := 1) hc hz
  have hc' : (w.setCell a (.int .i32 1)).cell? a = some (.int .i32 1) := World.cell?_setCell_same w a _ hc
  have hcv := run_convert_to_unsafe (P := Tryz.prog) (src := 308) (dst := 263) Tryz.underlying308 Tryz.underlying263 (by kernel_rfl) hc'
  go_enter Tryz.func203, Tryz.ntmps203
  go_wp2
  first | go_end0 | (simp only [Exit.inBlock, Exit.then]; refine bodyPost_ret (results_none rfl _ _ _) rfl ?_) | refine bodyPost_ret (results_none rfl _ _ _) rfl ?_
  go_wp2
  all_goals go_end0
  all_goals exact ⟨rfl, rfl⟩
end Go.Proofs.YtdemcoghgnnheaaGreatDoor

namespace Go.Proofs.YtdemcoghgnnheaaGreatDoor
open Go.RowKit

/-- What the table holds. -/
def tabOf (zs : List Int) : List Value := zs.map (Value.int .i64) ++ List.replicate (4 - zs.length) (.int .i64 (-1))

set_option maxRecDepth 100000 in
set_option maxHeartbeats 2000000 in
theorem fill_any (lo hi g : Nat) (a b y3 y4 y5 z0 z1 z2 z3 : Value) (A : Option Addr) (cap : Nat) (zs : List Int) (w : World) (hr : Row w g 258 [a, b, .slice A zs.length cap, y3, y4, y5, z0, z1, z2, z3])
    (hz : IntsAt w lo hi (.slice A zs.length cap) zs) (hB : hi ≤ g) (hn : zs.length ≤ 4) (hpos : 0 < zs.length) :
    Calls Tryz.prog 174 #[.pointer (some ⟨g, 0, none⟩)] w fun e w' => e = .returned (.tuple #[]) ∧ Kept (· ≠ g) w w' ∧ Row w' g 258 ([a, b, .slice A zs.length cap, y3, y4, y5] ++ tabOf zs) := by
  have c2 : w.cell? ⟨g, 2, none⟩ = some (.slice A zs.length cap) := hr.cell 2
  have c6 : w.cell? ⟨g, 6, none⟩ = some z0 := hr.cell 6
  have c7 : w.cell? ⟨g, 7, none⟩ = some z1 := hr.cell 7
  have c8 : w.cell? ⟨g, 8, none⟩ = some z2 := hr.cell 8
  have c9 : w.cell? ⟨g, 9, none⟩ = some z3 := hr.cell 9
  have f6 := hr.frozen 6
  have f7 := hr.frozen 7
  have f8 := hr.frozen 8
  have f9 := hr.frozen 9
  have Hr := Lib.hid hr
  have Hz := Lib.hid hz
  clear hr hz
  go_enter Tryz.func174, Tryz.ntmps174
  go_wp2
  refine wp_loop_rounds 5 ?_
  rw [rounds_succ]; go_wp2
  rw [rounds_succ]; go_wp2
  rw [rounds_succ]; go_wp2
  rw [rounds_succ]; go_wp2
  rw [rounds_succ]; go_wp2
  obtain ⟨W, hW⟩ : ∃ W : World, W = ((((w.setCell ⟨g, 6, none⟩ (.int .i64 (-1))).setCell ⟨g, 7, none⟩ (.int .i64 (-1))).setCell ⟨g, 8, none⟩ (.int .i64 (-1))).setCell ⟨g, 9, none⟩ (.int .i64 (-1))) := ⟨_, rfl⟩
  have hk : Kept (· ≠ g) w W := by
    rw [hW]
    exact ((((Kept.refl _ w).setCell (fun h => h rfl) _).setCell (fun h => h rfl) _).setCell (fun h => h rfl) _).setCell (fun h => h rfl) _
  have hrW : Row W g 258 [a, b, .slice A zs.length cap, y3, y4, y5, .int .i64 (-1), .int .i64 (-1), .int .i64 (-1), .int .i64 (-1)] := by
    rw [hW]
    exact (((Hr.out.set_ 6 (.int .i64 (-1))).set_ 7 (.int .i64 (-1))).set_ 8 (.int .i64 (-1))).set_ 9 (.int .i64 (-1))
  rw [← hW]
  clear hW
  have hzW : IntsAt W lo hi (.slice A zs.length cap) zs := Hz.out.keep fun k _ hkk => hk.block k (by have := Hr.out.lt; omega) (by omega)
  have c2 : W.cell? ⟨g, 2, none⟩ = some (.slice A zs.length cap) := hrW.cell 2
  obtain ⟨A2, cap2, e, _, _, _, hcells⟩ := hzW
  injection e with e1 e2 e3
  subst e1 e3
  obtain ⟨b3, off3, rfl, _, _, hc⟩ := hcells hpos
  have hcp := run_copy_row (P := Tryz.prog) W.drew 22 22 3 3 g 6 4 4 ⟨b3, off3, none⟩ zs.length cap [a, b, Value.slice (some ⟨b3, off3, none⟩) zs.length cap, y3, y4, y5, .int .i64 (-1), .int .i64 (-1), .int .i64 (-1), .int .i64 (-1)].toArray 258 (zs.map (Value.int .i64))
    Tryz.underlying22 (by kernel_rfl) hrW (by rw [List.length_map]; exact (Nat.min_eq_left hn).symm) (by
      intro j v hj
      have hjl : j < zs.length := by
        have := (List.getElem?_eq_some_iff.1 hj).1
        simpa using this
      rw [Go.WideShapes.add_plain]
      have := hc j hjl
      rw [List.getElem?_map, List.getElem?_eq_getElem hjl] at hj
      rw [List.getD_eq_getElem?_getD, List.getElem?_eq_getElem hjl] at this
      simp only [Option.map_some, Option.some.injEq] at hj
      subst hj
      exact this) (by simp; omega) (by intro v hv; obtain ⟨z, _, rfl⟩ := List.mem_map.1 hv; rfl)
  have hdrop : [a, b, Value.slice (some ⟨b3, off3, none⟩) zs.length cap, y3, y4, y5, .int .i64 (-1), .int .i64 (-1), .int .i64 (-1), .int .i64 (-1)].drop (6 + zs.length) = List.replicate (4 - zs.length) (.int .i64 (-1)) := by
    have h4 : zs.length = 1 ∨ zs.length = 2 ∨ zs.length = 3 ∨ zs.length = 4 := by omega
    rcases h4 with e | e | e | e <;> simp [e, List.replicate]
  rw [List.length_map] at hcp
  have hlist : ([a, b, Value.slice (some ⟨b3, off3, none⟩) zs.length cap, y3, y4, y5, .int .i64 (-1), .int .i64 (-1), .int .i64 (-1), .int .i64 (-1)].toArray.toList.take 6 ++ zs.map (Value.int .i64) ++ [a, b, Value.slice (some ⟨b3, off3, none⟩) zs.length cap, y3, y4, y5, .int .i64 (-1), .int .i64 (-1), .int .i64 (-1), .int .i64 (-1)].toArray.toList.drop (6 + zs.length)) = [a, b, Value.slice (some ⟨b3, off3, none⟩) zs.length cap, y3, y4, y5] ++ tabOf zs := by
    rw [hdrop]
    unfold tabOf
    simp
  rw [hlist] at hcp
  have hnew := setRow_heap W.drew g _ ([a, b, Value.slice (some ⟨b3, off3, none⟩) zs.length cap, y3, y4, y5] ++ tabOf zs).toArray _ _ hrW
  generalize hWn : W.drew.setRow g ([a, b, Value.slice (some ⟨b3, off3, none⟩) zs.length cap, y3, y4, y5] ++ tabOf zs).toArray = Wn at hcp hnew
  have hkn : Kept (· ≠ g) w Wn := by
    rw [← hWn]
    exact ⟨hk.os, hk.tape, hk.output, by rw [size_setRow]; exact hk.size, fun k hkk hS => (setRow_other _ g k _ hS).trans (hk.block k hkk hS)⟩
  have Hkn := Lib.hid hkn
  have Hnew := Lib.hid hnew
  clear hk hrW hc hcells hkn hnew hWn hdrop hlist
  go_still_tail 9, (by kernel_rfl)
  change wpList _ _ _ _ _ W.drew
  go_wp2
  go_end0
  exact ⟨rfl, Hkn.out, Hnew.out⟩
end Go.Proofs.YtdemcoghgnnheaaGreatDoor

namespace Go.Proofs.YtdemcoghgnnheaaGreatDoor
open Go.RowKit

set_option maxRecDepth 100000 in
set_option maxHeartbeats 2000000 in
theorem slow_any (lo hi g : Nat) (a b y5 z0 z1 z2 z3 : Value) (A : Option Addr) (cap : Nat) (zs : List Int) (w : World) (hr : Row w g 258 [a, b, .slice A zs.length cap, .int .u32 0, .int .i32 0, y5, z0, z1, z2, z3])
    (hz : IntsAt w lo hi (.slice A zs.length cap) zs) (hB : hi ≤ g) (hn : zs.length ≤ 4) (hpos : 0 < zs.length) :
    Calls Tryz.prog 191 #[.pointer (some ⟨g, 3, none⟩), .func (.func 174) #[.pointer (some ⟨g, 0, none⟩)] #[]] w fun e w' => e = .returned (.tuple #[]) ∧ Kept (· ≠ g) w w' ∧
      Row w' g 258 ([a, b, .slice A zs.length cap, .int .u32 1, .int .i32 0, y5] ++ tabOf zs) := by
  have hr1 : Row (w.setCell ⟨g, 4, none⟩ (.int .i32 1)) g 258 [a, b, .slice A zs.length cap, .int .u32 0, .int .i32 1, y5, z0, z1, z2, z3] := hr.set_ 4 (.int .i32 1)
  have hk1 : Kept (· ≠ g) w (w.setCell ⟨g, 4, none⟩ (.int .i32 1)) := (Kept.refl _ w).setCell (fun h => h rfl) _
  have hz1 : IntsAt (w.setCell ⟨g, 4, none⟩ (.int .i32 1)) lo hi (.slice A zs.length cap) zs := hz.keep fun k _ hkk => hk1.block k (by have := hr.lt; omega) (by omega)
  have hl := run_call_load (P := Tryz.prog) Tryz.func202 (by kernel_rfl) (by kernel_rfl) (by kernel_rfl) .u32 (by kernel_rfl) (w := w.setCell ⟨g, 4, none⟩ (.int .i32 1)) (a := ⟨g, 3, none⟩) (x := 0) (hr1.cell 3)
  have hnot : ∀ (x : Bool) (w : World), (Op.unary .not (.bool x)).run Tryz.prog w = .ok (.bool (!x)) w := fun _ _ => rfl
  have c4 : w.cell? ⟨g, 4, none⟩ = some (.int .i32 0) := hr.cell 4
  have f4 := hr.frozen 4
  have Hr1 := Lib.hid hr1
  have Hk1 := Lib.hid hk1
  have Hz1 := Lib.hid hz1
  clear hr1 hk1 hz1 hr hz
  go_enter_defers Tryz.func191, Tryz.ntmps191
  go_wp2_with (first
    | (go_at_call 203; refine (lock_free ⟨g, 4, none⟩ _ c4 f4).mono ?_; rintro e w' ⟨rfl, rfl⟩)
    | (go_at_call 190; go_in)
    | (go_at_call 174; refine (fill_any lo hi g a b _ _ _ z0 z1 z2 z3 A cap zs _ Hr1.out Hz1.out hB hn hpos).mono ?_; rintro e w2 ⟨rfl, hk2, hr2⟩))
  have hk02 := Hk1.out.trans hk2
  -- the door: two deferred calls, the last laid first
  refine leaves_cons (f := 205) (args := #[.pointer (some ⟨g, 3, none⟩), .bool true]) (by simp) (by simp [go_sem]) ?_
  refine (store_deferred ⟨g, 3, none⟩ (.int .u32 0) .returning _ (hr2.cell 3) (hr2.frozen 3)).mono ?_
  rintro e u' w'' ⟨rfl, rfl, rfl⟩
  have hr3 : Row (w2.drew.setCell ⟨g, 3, none⟩ (.int .u32 1)) g 258 ([a, b, .slice A zs.length cap, .int .u32 1, .int .i32 1, y5] ++ tabOf zs) := (Row.drew hr2).set_ 3 (.int .u32 1)
  have hk3 := (hk02.drew).setCell (p := ⟨g, 3, none⟩) (fun h => h rfl) (.int .u32 1)
  refine leaves_cons (f := 204) (args := #[.pointer (some ⟨g, 4, none⟩)]) (by simp [settle]) (by simp [go_sem]) ?_
  refine (unlock_deferred ⟨g, 4, none⟩ _ _ (hr3.cell 4) (hr3.frozen 4)).mono ?_
  rintro e u' w'' ⟨rfl, rfl, rfl⟩
  have hr4 : Row ((w2.drew.setCell ⟨g, 3, none⟩ (.int .u32 1)).setCell ⟨g, 4, none⟩ (.int .i32 0)) g 258 ([a, b, .slice A zs.length cap, .int .u32 1, .int .i32 0, y5] ++ tabOf zs) := hr3.set_ 4 (.int .i32 0)
  have hk4 := hk3.setCell (p := ⟨g, 4, none⟩) (fun h => h rfl) (.int .i32 0)
  generalize (w2.drew.setCell ⟨g, 3, none⟩ (.int .u32 1)).setCell ⟨g, 4, none⟩ (.int .i32 0) = w4 at hr4 hk4 ⊢
  exact ⟨.tuple #[], by simp [results, Tryz.results191], rfl, hk4, hr4⟩

set_option maxRecDepth 100000 in
set_option maxHeartbeats 2000000 in
theorem do_first (lo hi g : Nat) (a b y5 z0 z1 z2 z3 : Value) (A : Option Addr) (cap : Nat) (zs : List Int) (w : World) (hr : Row w g 258 [a, b, .slice A zs.length cap, .int .u32 0, .int .i32 0, y5, z0, z1, z2, z3])
    (hz : IntsAt w lo hi (.slice A zs.length cap) zs) (hB : hi ≤ g) (hn : zs.length ≤ 4) (hpos : 0 < zs.length) :
    Calls Tryz.prog 173 #[.pointer (some ⟨g, 3, none⟩), .func (.func 174) #[.pointer (some ⟨g, 0, none⟩)] #[]] w fun e w' => e = .returned (.tuple #[]) ∧ Kept (· ≠ g) w w' ∧
      Row w' g 258 ([a, b, .slice A zs.length cap, .int .u32 1, .int .i32 0, y5] ++ tabOf zs) := by
  have hl := run_call_load (P := Tryz.prog) Tryz.func202 (by kernel_rfl) (by kernel_rfl) (by kernel_rfl) .u32 (by kernel_rfl) (w := w) (a := ⟨g, 3, none⟩) (x := 0) (hr.cell 3)
  have hnot : ∀ (x : Bool) (w : World), (Op.unary .not (.bool x)).run Tryz.prog w = .ok (.bool (!x)) w := fun _ _ => rfl
  have Hr := Lib.hid hr
  have Hz := Lib.hid hz
  clear hr hz
  go_enter Tryz.func173, Tryz.ntmps173
  go_wp2_with (first
    | (go_at_call 191; refine (slow_any lo hi g a b y5 z0 z1 z2 z3 A cap zs _ Hr.out Hz.out hB hn hpos).mono ?_; rintro e w' ⟨rfl, hk, hr2⟩)
    | (go_at_call 190; go_in))
  go_end0
  exact ⟨rfl, hk, hr2⟩

set_option maxRecDepth 100000 in
set_option maxHeartbeats 1000000 in
/-- Done already: the function is not called. -/
theorem do_done (a : Addr) (fv : Value) (w : World) (h0 : w.cell? a = some (.int .u32 1)) :
    Calls Tryz.prog 173 #[.pointer (some a), fv] w fun e w' => e = .returned (.tuple #[]) ∧ w = w' := by
  have hl := run_call_load (P := Tryz.prog) Tryz.func202 (by kernel_rfl) (by kernel_rfl) (by kernel_rfl) .u32 (by kernel_rfl) h0
  have hnot : ∀ (x : Bool) (w : World), (Op.unary .not (.bool x)).run Tryz.prog w = .ok (.bool (!x)) w := fun _ _ => rfl
  go_enter Tryz.func173, Tryz.ntmps173
  go_wp2_with (go_at_call 190; go_in)
  go_end0
  exact ⟨rfl, rfl⟩

/-- What the table gives for a value. -/
def lookOf (zs : List Int) (v : Int) : Int := if 0 ≤ v ∧ v < zs.length then zs.getD v.toNat 0 else -1
theorem tabOf_get (zs : List Int) (hn : zs.length ≤ 4) (v : Int) (h0 : 0 ≤ v) (h4 : v < 4) : (tabOf zs)[v.toNat]? = some (.int .i64 (lookOf zs v)) := by
  unfold tabOf lookOf
  by_cases h : v < zs.length
  · rw [List.getElem?_append_left (by simp; omega), List.getElem?_map, List.getElem?_eq_getElem (by omega), if_pos ⟨h0, h⟩, List.getD_eq_getElem?_getD, List.getElem?_eq_getElem (by omega)]
    rfl
  · rw [List.getElem?_append_right (by simp; omega), if_neg (fun hh => h hh.2), List.length_map, List.getElem?_replicate, if_pos (by omega)]
theorem lookOf_out (zs : List Int) (hn : zs.length ≤ 4) (v : Int) (h : ¬ (0 ≤ v ∧ v < 4)) : lookOf zs v = -1 := by
  unfold lookOf
  rw [if_neg (fun hh => h ⟨hh.1, by omega⟩)]

set_option maxRecDepth 100000 in
set_option maxHeartbeats 2000000 in
/-- The first look. -/
theorem of_first (lo hi g : Nat) (a b y5 z0 z1 z2 z3 : Value) (A : Option Addr) (cap : Nat) (zs : List Int) (v : Int) (w : World) (hr : Row w g 258 [a, b, .slice A zs.length cap, .int .u32 0, .int .i32 0, y5, z0, z1, z2, z3])
    (hz : IntsAt w lo hi (.slice A zs.length cap) zs) (hB : hi ≤ g) (hn : zs.length ≤ 4) (hpos : 0 < zs.length) :
    Calls Tryz.prog 139 #[.pointer (some ⟨g, 0, none⟩), .int .i64 v] w fun e w' => e = .returned (.int .i64 (lookOf zs v)) ∧ Kept (· ≠ g) w w' ∧
      Row w' g 258 ([a, b, .slice A zs.length cap, .int .u32 1, .int .i32 0, y5] ++ tabOf zs) := by
  have hmf : ∀ (fn : Fn) (first cap : Array Value) (w : World), (Instr.makeFunc fn first cap).run Tryz.prog w = .ok (.func fn first cap) w := fun _ _ _ _ => rfl
  have c0 : w.cell? ⟨g, 0, none⟩ = some a := hr.cell 0
  have Hr := Lib.hid hr
  have Hz := Lib.hid hz
  clear hr hz
  go_enter Tryz.func139, Tryz.ntmps139
  go_wp2_with fail
  refine (do_first lo hi g a b y5 z0 z1 z2 z3 A cap zs _ Hr.out Hz.out hB hn hpos).mono ?_
  rintro e w1 ⟨rfl, hk, hr2⟩
  have Hk := Lib.hid hk
  have Hr2 := Lib.hid hr2
  by_cases hv : 0 ≤ v ∧ v < 4
  · have hix := ixB_yes hv.1 hv.2
    have hcell : w1.cell? ⟨g, 6 + v.toNat, none⟩ = some (.int .i64 (lookOf zs v)) := by
      rw [hr2.cell, List.getElem?_append_right (by simp), List.length_cons, List.length_cons, List.length_cons, List.length_cons, List.length_cons, List.length_cons, List.length_nil]
      rw [show 6 + v.toNat - (0 + 1 + 1 + 1 + 1 + 1 + 1) = v.toNat from by omega]
      exact tabOf_get zs hn v hv.1 hv.2
    have hv0 := hv.1
    have hv1 := hv.2
    clear hk hr2 c0 hv
    go_wp2_with (go_at_call 158; refine (isIndex_any _ _ _).mono ?_; rintro e w' ⟨rfl, rfl⟩; rw [hix])
    go_ret
    exact ⟨rfl, Hk.out, Hr2.out⟩
  · have hix := ixB_no hv
    have hout := Lib.hid (lookOf_out zs hn v hv)
    clear hk hr2 c0 hv
    go_wp2_with (go_at_call 158; refine (isIndex_any _ _ _).mono ?_; rintro e w' ⟨rfl, rfl⟩; rw [hix])
    go_ret
    exact ⟨ret_int hout.out.symm, Hk.out, Hr2.out⟩
end Go.Proofs.YtdemcoghgnnheaaGreatDoor

namespace Go.Proofs.YtdemcoghgnnheaaGreatDoor
open Go.RowKit

/-- A world of a class. -/
structure InC (D : World → Prop) where
  val : World
  inD : D val
/-- A region that draws its order, every operation of which yields one value in every world of a class and leaves a world of the class: one walk serves every order. -/
theorem wp_region_class {P : Program} (D : World → Prop) {id : Nat} {Q : Exit → Act → World → Prop} {a : Act} {w : World} {l : List Oper} (hm : P.follows .mixedOrders = true) (hB : Region.lexB .any l.toArray = true) (hD : D w.drew)
    (h : wpQuiet P l.toArray (fun w' => ∃ x : InC D, w' = x.val) (fun a' => ∀ w', (∃ x : InC D, w' = x.val) → Q .normal a' w') l a) : (Code.region id l.toArray true).wp P Q a w :=
  wp_region_quiet (C := fun w' => ∃ x : InC D, w' = x.val) hm hB ⟨⟨_, hD⟩, rfl⟩ (by simpa using h)

theorem lookOf_in {zs : List Int} {v : Int} (h0 : 0 ≤ v) (h : v.toNat < zs.length) : lookOf zs v = zs[v.toNat] := by
  unfold lookOf
  rw [if_pos ⟨h0, by omega⟩, List.getD_eq_getElem?_getD, List.getElem?_eq_getElem h]; rfl

/-- Are the types valid, and is there such a coercion? -/
def hasC (t : Ty) (i : Int) : Bool := tyOk t && ixB i t.cos.length
theorem hasC_of {t : Ty} {i : Int} (h : hasC t i = true) : tyOk t = true ∧ 0 ≤ i ∧ i < t.cos.length ∧ i.toNat < t.cos.length := by
  simp only [hasC, Bool.and_eq_true, ixB, decide_eq_true_eq] at h
  exact ⟨h.1, h.2.1, h.2.2, by omega⟩
theorem hasC_co {t : Ty} {i : Int} (h : hasC t i = true) (hi : i.toNat < t.cos.length) : coOk t.sizes t.cos[i.toNat] = true := by
  have h1 := (hasC_of h).1
  simp only [tyOk, Bool.and_eq_true, List.all_eq_true] at h1
  exact h1.2 _ (List.getElem_mem hi)
/-- What a coercion makes of a value. -/
def applyV (t : Ty) (i v : Int) : Int := if hasC t i = true then lookOf (t.cos.getD i.toNat default).map v else -1
theorem applyV_no {t : Ty} {i v : Int} (h : hasC t i = false) : applyV t i v = -1 := by unfold applyV; rw [h]; rfl
theorem applyV_yes {t : Ty} {i v : Int} (h : hasC t i = true) (hi : i.toNat < t.cos.length) : applyV t i v = lookOf t.cos[i.toNat].map v := by
  unfold applyV; rw [if_pos h, List.getD_eq_getElem?_getD, List.getElem?_eq_getElem hi]; rfl

set_option maxRecDepth 100000 in
set_option maxHeartbeats 1000000 in
theorem images_any (a b c : Value) (w : World) :
    Calls Tryz.prog 137 #[.agg #[a, b, c]] w fun e w' => e = .returned (.pointer (some ⟨w.heap.size + 1, 0, none⟩)) ∧
      (w.alloc (.cells #[a, b, c] 138)).alloc (.cells [a, b, c, .int .u32 0, .int .i32 0, .int .u32 0, .int .i64 0, .int .i64 0, .int .i64 0, .int .i64 0].toArray 258) = w' := by
  go_enter Tryz.func137, Tryz.ntmps137
  go_wp2
  go_ret
  exact ⟨rfl, rfl⟩

end Go.Proofs.YtdemcoghgnnheaaGreatDoor

namespace Go.Proofs.YtdemcoghgnnheaaGreatDoor
open Go.RowKit

/-- The type to which a row of coercions leads from a type, if it is a way. -/
def wayEnd (cs : List Co) : Int → List Int → Option Int
  | k, [] => some k
  | k, i :: is => if ixB i cs.length = true ∧ (cs.getD i.toNat default).src = k then wayEnd cs (cs.getD i.toNat default).dst is else none
/-- What the maps of a row of coercions make of a value. -/
def goV (cs : List Co) : Int → List Int → Int
  | v, [] => v
  | v, i :: is => goV cs (lookOf (cs.getD i.toNat default).map v) is

theorem drop_get {zs : List Int} {j : Nat} (hj : j < zs.length) : zs.drop j = zs[j] :: zs.drop (j + 1) := List.drop_eq_getElem_cons hj
theorem getD_at {cs : List Co} {i : Nat} (hi : i < cs.length) : cs.getD i default = cs[i] := by rw [List.getD_eq_getElem?_getD, List.getElem?_eq_getElem hi]; rfl

theorem wayEnd_yes {cs : List Co} {k : Int} {zs : List Int} {j : Nat} (hj : j < zs.length) (h0 : 0 ≤ zs[j]) (hi : zs[j].toNat < cs.length) (hs : cs[zs[j].toNat].src = k) :
    wayEnd cs k (zs.drop j) = wayEnd cs cs[zs[j].toNat].dst (zs.drop (j + 1)) := by
  rw [drop_get hj, wayEnd, getD_at hi, if_pos ⟨ixB_yes h0 (by omega), hs⟩]
theorem wayEnd_out {cs : List Co} {k : Int} {zs : List Int} {j : Nat} (hj : j < zs.length) (h : ixB zs[j] cs.length = false) : wayEnd cs k (zs.drop j) = none := by
  rw [drop_get hj, wayEnd, if_neg (fun hh => by rw [h] at hh; exact absurd hh.1 (by simp))]
theorem wayEnd_other {cs : List Co} {k : Int} {zs : List Int} {j : Nat} (hj : j < zs.length) (hi : zs[j].toNat < cs.length) (hs : ¬ cs[zs[j].toNat].src = k) : wayEnd cs k (zs.drop j) = none := by
  rw [drop_get hj, wayEnd, getD_at hi, if_neg (fun hh => hs hh.2)]
theorem wayEnd_done (cs : List Co) (k : Int) (zs : List Int) : wayEnd cs k (zs.drop zs.length) = some k := by rw [List.drop_length]; rfl
theorem goV_step {cs : List Co} {v : Int} {zs : List Int} {j : Nat} (hj : j < zs.length) (hi : zs[j].toNat < cs.length) : goV cs v (zs.drop j) = goV cs (lookOf cs[zs[j].toNat].map v) (zs.drop (j + 1)) := by
  rw [drop_get hj, goV, getD_at hi]
theorem goV_done (cs : List Co) (v : Int) (zs : List Int) : goV cs v (zs.drop zs.length) = v := by rw [List.drop_length]; rfl

/-- A row that is a way still is one when its first coercion is gone; that coercion begins with the type. -/
theorem wayEnd_some {cs : List Co} {k : Int} {zs : List Int} {j : Nat} (hj : j < zs.length) (h : (wayEnd cs k (zs.drop j)).isSome = true) :
    0 ≤ zs[j] ∧ zs[j] < cs.length ∧ ∃ hi : zs[j].toNat < cs.length, cs[zs[j].toNat].src = k ∧ (wayEnd cs cs[zs[j].toNat].dst (zs.drop (j + 1))).isSome = true := by
  rw [drop_get hj, wayEnd] at h
  split at h
  case isTrue hh =>
    obtain ⟨h1, h2⟩ := hh
    simp only [ixB, decide_eq_true_eq] at h1
    have hi : zs[j].toNat < cs.length := by omega
    rw [getD_at hi] at h2 h
    exact ⟨h1.1, h1.2, hi, h2, h⟩
  case isFalse => simp at h

/-- A value of a type. -/
def ValOf (ss : List Int) (k v : Int) : Prop := 0 ≤ k ∧ k < ss.length ∧ 0 ≤ v ∧ v < ss.getD k.toNat 0
/-- The coercion i of valid types, and a value of its type. -/
theorem tyOk_co {t : Ty} (h : tyOk t = true) {i : Nat} (hi : i < t.cos.length) : coOk t.sizes t.cos[i] = true := by
  simp only [tyOk, Bool.and_eq_true, List.all_eq_true] at h
  exact h.2 _ (List.getElem_mem hi)
theorem tyOk_few {t : Ty} (h : tyOk t = true) : t.cos.length ≤ 8 := by
  simp only [tyOk, Bool.and_eq_true, decide_eq_true_eq] at h
  exact h.1.2
theorem valOf_step {t : Ty} (h : tyOk t = true) {i : Nat} (hi : i < t.cos.length) {v : Int} (hv : ValOf t.sizes t.cos[i].src v) :
    0 ≤ v ∧ v < t.cos[i].map.length ∧ t.cos[i].map.length ≤ 4 ∧ ∃ hn : v.toNat < t.cos[i].map.length, lookOf t.cos[i].map v = t.cos[i].map[v.toNat] ∧ ValOf t.sizes t.cos[i].dst (lookOf t.cos[i].map v) := by
  obtain ⟨h1, h2, h3, h4, h5⟩ := coOk_of (tyOk_co h hi)
  obtain ⟨g1, g2, g3, g4⟩ := hv
  have hs : t.cos[i].src.toNat < t.sizes.length := by omega
  have hsz := (sizesOk_of (tyOk_sizes h)).2.2 _ hs
  have e : t.sizes.getD t.cos[i].src.toNat 0 = t.sizes[t.cos[i].src.toNat] := by rw [List.getD_eq_getElem?_getD, List.getElem?_eq_getElem hs]; rfl
  have hn : v.toNat < t.cos[i].map.length := by omega
  have hl := lookOf_in g3 hn
  obtain ⟨h6, h7⟩ := h5 _ hn
  exact ⟨g3, by omega, by omega, hn, hl, by omega, h3, by omega, by omega⟩
theorem valOf_hasV0 {ss : List Int} {k v : Int} : hasV0 ss k v = true ↔ ValOf ss k v := by
  simp only [hasV0, ixB, Bool.and_eq_true, decide_eq_true_eq, ValOf]
  exact ⟨fun h => ⟨h.1.1, h.1.2, h.2.1, h.2.2⟩, fun h => ⟨⟨h.1, h.2.1⟩, h.2.2.1, h.2.2.2⟩⟩

/-- What GoWay answers. -/
def goWayV (t : Ty) (k : Int) (zs : List Int) (v : Int) : Int := if hasV t k v = true ∧ (wayEnd t.cos k zs).isSome = true then goV t.cos v zs else -1
/-- The end of a way, -1 if it is none. -/
def endV (t : Ty) (k : Int) (zs : List Int) : Int := (wayEnd t.cos k zs).getD (-1)
theorem wayEnd_ge {t : Ty} (h : tyOk t = true) : ∀ (zs : List Int) (k e : Int), 0 ≤ k → wayEnd t.cos k zs = some e → 0 ≤ e := by
  intro zs
  induction zs with
  | nil => intro k e hk he; simp only [wayEnd, Option.some.injEq] at he; omega
  | cons i is ih =>
    intro k e hk he
    rw [wayEnd] at he
    split at he
    case isTrue hh =>
      have h1 := hh.1
      simp only [ixB, decide_eq_true_eq] at h1
      have hi : i.toNat < t.cos.length := by omega
      rw [getD_at hi] at he
      have := coOk_of (tyOk_co h hi)
      exact ih _ _ (by omega) he
    case isFalse => cases he
theorem endV_neg {t : Ty} (h : tyOk t = true) {zs : List Int} {k : Int} (hk : 0 ≤ k) : decide (endV t k zs < 0) = !(wayEnd t.cos k zs).isSome := by
  unfold endV
  cases he : wayEnd t.cos k zs with
  | none => rfl
  | some e =>
    have := wayEnd_ge h zs k e hk he
    simp
    omega
end Go.Proofs.YtdemcoghgnnheaaGreatDoor

namespace Go.Proofs.YtdemcoghgnnheaaGreatDoor
open Go.RowKit

section
variable {w w' : World} {base : Nat} {e : TypeId} {v : Value} {n : Nat} {xs : List Value}
/-- The row without its last element. -/
theorem owns_shrink {g cap : Nat} {x : Value} (h : w.ownsRow base e 1 (.slice (some ⟨g, 0, none⟩) (n + 1) cap) (n + 1) (xs ++ [x])) : w.ownsRow base e 1 (.slice (some ⟨g, 0, none⟩) n cap) n xs := by
  obtain ⟨h1, ⟨h2, _⟩ | ⟨g', cap', cur, hv, hb, hh, hc, hm, hs, ht⟩⟩ := h
  · cases h2
  · simp only [Value.slice.injEq, Option.some.injEq, Addr.mk.injEq, and_true, true_and] at hv
    obtain ⟨rfl, rfl⟩ := hv
    have hl : xs.length = n * 1 := by simp at h1; omega
    refine ⟨hl, .inr ⟨g, cap, cur, rfl, hb, hh, by omega, hm, hs, ?_⟩⟩
    have h2 : (cur.toList.take ((n + 1) * 1)).take (n * 1) = (xs ++ [x]).take (n * 1) := by rw [ht]
    rw [List.take_take, Nat.min_eq_left (by omega), ← hl, List.take_left] at h2
    rw [← hl]
    exact h2
/-- What append of one element leaves: v' owns one element more; with v' still whole, v can be had back. -/
structure Pushed (w w' : World) (base : Nat) (e : TypeId) (v v' : Value) (n : Nat) (xs : List Value) (x : Value) : Prop where
  own : w'.ownsRow base e 1 v' (n + 1) (xs ++ [x])
  grown : w.grownBy w' v.ownBlock
  at_ : v'.ownBlock = v.ownBlock ∨ ∃ g, v'.ownBlock = some g ∧ w.heap.size ≤ g ∧ g < w'.heap.size
  back : ∀ u : World, u.ownsRow base e 1 v' (n + 1) (xs ++ [x]) → (∀ b, v.ownBlock = some b → v'.ownBlock ≠ some b → u.heap[b]? = w'.heap[b]?) → u.ownsRow base e 1 v n xs
  form : ∃ g cap, v' = .slice (some ⟨g, 0, none⟩) (n + 1) cap

theorem run_push {P : Program} (t ty : TypeId) (i : TypeInfo) (z : Value) (bytes : Nat) (ht : P.underlying t = some (.slice e)) (hi : P.info? e = some i) (hz : i.zero = some z) (hsize : i.size = 1) (hby : i.bytes = bytes) (hzs : z.cells.size = 1)
    (hown : w.ownsRow base e 1 v n xs) (a : Addr) (c : Nat) (x : Value) (hx : w.cell? a = some x) (h1 : x.oneCell' = true) (h63 : n + 1 ≤ maxLen) (hbytes : (n + 1) * bytes ≤ 140737488355328) (hbase : base ≤ w.heap.size) :
    ∃ v' w', (Builtin.append_ #[t, t] ty #[v, .slice (some a) 1 c]).run P w = .ok v' w' ∧ Pushed w w' base e v v' n xs x := by
  have hnews : ∀ j u, [x][j]? = some u → w.cell? (a.add j) = some u := fun j u hj => by
    match j, hj with
    | 0, hj => simp at hj; subst hj; simpa [Addr.add] using hx
  have hone : ∀ u ∈ [x], u.oneCell' = true := fun u hu => by simp at hu; subst hu; exact h1
  have fresh : ∀ v' w', w'.ownsRow w.heap.size e 1 v' (n + 1) (xs ++ [x]) → w.grownBy w' none → Pushed w w' base e v v' n xs x := by
    intro v' w' ho hg
    have hlt := owns_lt ho
    obtain ⟨g', cap', hv'⟩ : ∃ g cap, v' = .slice (some ⟨g, 0, none⟩) (n + 1) cap := by
      obtain ⟨_, ⟨_, h⟩ | ⟨g, cap, cur, hv, _⟩⟩ := ho
      · omega
      · exact ⟨g, cap, hv⟩
    refine ⟨ownsRow_lower ho hbase, ⟨hg.os, hg.tape, hg.output, hg.size, fun k hk _ => hg.block k hk (by simp)⟩, .inr ⟨g', by rw [hv']; rfl, hlt g' (by rw [hv']; rfl)⟩, fun u hu hk => ?_, ⟨g', cap', hv'⟩⟩
    refine ownsRow_keep1 hown fun b hb => (hk b hb ?_).trans (hg.block b (owns_lt hown b hb).2 (by simp))
    rw [hv']
    intro h
    simp only [Value.ownBlock, Option.some.injEq] at h
    have h2 := (hlt g' (by rw [hv']; rfl)).1
    have h3 := (owns_lt hown b hb).2
    omega
  obtain ⟨hl, ⟨rfl, rfl⟩ | ⟨g, cap, cur, rfl, hb, hh, hc, hm, hs, htk⟩⟩ := hown
  · obtain rfl : xs = [] := List.eq_nil_of_length_eq_zero (by simpa using hl)
    obtain ⟨v', w', hr, ho, hg, _⟩ := run_append_own (P := P) w w.heap.size t ty e i z 1 bytes ht hi hz hsize hby hzs (by omega) (.slice none 0 0) 0 [] (World.ownsRow_nil w _ e 1) a 1 c [x] rfl hnews hone h63 hbytes (Nat.le_refl _)
    exact ⟨v', w', hr, fresh v' w' ho hg⟩
  · have hown2 : w.ownsRow base e 1 (.slice (some ⟨g, 0, none⟩) n cap) n xs := ⟨hl, .inr ⟨g, cap, cur, rfl, hb, hh, hc, hm, hs, htk⟩⟩
    by_cases hroom : n + 1 ≤ cap
    · obtain ⟨w', hr, ho, hg⟩ := run_append_own_spare (P := P) w base t ty e i 1 ht hi hsize g n cap xs hown2 a 1 c [x] rfl hnews hone hroom
      exact ⟨_, w', hr, ⟨ho, hg, .inl rfl, fun u hu _ => owns_shrink hu, ⟨_, _, rfl⟩⟩⟩
    · obtain ⟨v', w', hr, ho, hg⟩ := run_append_arg_grows (P := P) w t ty e i z 1 bytes ht hi hz hsize hby hzs (by omega) ⟨g, 0, none⟩ n cap xs hl (hown2.cells (g := g) rfl) a 1 c [x] rfl hnews (by omega) h63 hbytes
      exact ⟨v', w', hr, fresh v' w' ho hg⟩

/-- As a step of a region that draws its order. -/
theorem step_push {P : Program} {ops : Array Oper} {o : Oper} {a : Act} {K : Act → World → Prop} {Q : Exit → Act → World → Prop} {E : Prop} (hw : Region.wanted o (yielded ops a.tmps) = true) (s y : Operand) (t : TypeId)
    (hop : o.op = .call { callee := .builtin .append, args := #[s, y], argTypes := #[t, t] }) (i : TypeInfo) (z : Value) (bytes : Nat) (ht : P.underlying t = some (.slice e)) (hi : P.info? e = some i) (hz : i.zero = some z) (hsize : i.size = 1) (hby : i.bytes = bytes) (hzs : z.cells.size = 1)
    (hs : a.eval s = v) (hown : w.ownsRow base e 1 v n xs) (ad : Addr) (c : Nat) (x : Value) (hy : a.eval y = .slice (some ad) 1 c) (hx : w.cell? ad = some x) (h1 : x.oneCell' = true) (h63 : n + 1 ≤ maxLen) (hbytes : (n + 1) * bytes ≤ 140737488355328) (hbase : base ≤ w.heap.size)
    (h : ∀ v' w', Pushed w w' base e v v' n xs x → K (a.put o.dst v') w') :
    if Region.wanted o (yielded ops a.tmps) = true then Oper.wp P o a w K Q else E := by
  rw [if_pos hw]
  obtain ⟨v', w', hr, hp⟩ := run_push (P := P) t o.type i z bytes ht hi hz hsize hby hzs hown ad c x hx h1 h63 hbytes hbase
  unfold Oper.wp execOp
  simp only [hop, resolve, invoke, builtin, Sem.run_bind, Sem.run_pure, Result.andThen_ok, List.map_toArray, List.map_cons, List.map_nil, hs, hy, hr]
  exact h v' w' hp
theorem wpList_push {P : Program} {ops : Array Oper} {rest : List Oper} {o : Oper} {a : Act} {Q : Exit → Act → World → Prop} (hgd : o.guard = none) (s y : Operand) (t : TypeId)
    (hop : o.op = .call { callee := .builtin .append, args := #[s, y], argTypes := #[t, t] }) (i : TypeInfo) (z : Value) (bytes : Nat) (ht : P.underlying t = some (.slice e)) (hi : P.info? e = some i) (hz : i.zero = some z) (hsize : i.size = 1) (hby : i.bytes = bytes) (hzs : z.cells.size = 1)
    (hs : a.eval s = v) (hown : w.ownsRow base e 1 v n xs) (ad : Addr) (c : Nat) (x : Value) (hy : a.eval y = .slice (some ad) 1 c) (hx : w.cell? ad = some x) (h1 : x.oneCell' = true) (h63 : n + 1 ≤ maxLen) (hbytes : (n + 1) * bytes ≤ 140737488355328) (hbase : base ≤ w.heap.size)
    (h : ∀ v' w', Pushed w w' base e v v' n xs x → wpList P ops Q rest (a.put o.dst v') w') : wpList P ops Q (o :: rest) a w := by
  refine wpList_plain hgd fun K hK => ?_
  obtain ⟨v', w', hr, hp⟩ := run_push (P := P) t o.type i z bytes ht hi hz hsize hby hzs hown ad c x hx h1 h63 hbytes hbase
  unfold Oper.wp execOp
  simp only [hop, resolve, invoke, builtin, Sem.run_bind, Sem.run_pure, Result.andThen_ok, List.map_toArray, List.map_cons, List.map_nil, hs, hy, hr]
  exact hK _ _ (h v' w' hp)
end

/-- The slice v reads as the numbers zs; its cells, if any, lie in a block of S. -/
def IntsIn (w : World) (S : Nat → Prop) (v : Value) (zs : List Int) : Prop :=
  ∃ (A : Option Addr) (cap : Nat), v = .slice A zs.length cap ∧ zs.length ≤ cap ∧ cap ≤ maxLen ∧ (∀ z ∈ zs, I64 z) ∧
    (0 < zs.length → ∃ b off, A = some ⟨b, off, none⟩ ∧ S b ∧ ∀ k, k < zs.length → w.cell? ⟨b, off + k, none⟩ = some (.int .i64 (zs.getD k 0)))
theorem IntsIn.keep {w w' : World} {S : Nat → Prop} {v : Value} {zs : List Int} (h : IntsIn w S v zs) (hk : ∀ b, S b → w'.heap[b]? = w.heap[b]?) : IntsIn w' S v zs := by
  obtain ⟨A, cap, e, h1, h2, h3, h4⟩ := h
  refine ⟨A, cap, e, h1, h2, h3, fun h0 => ?_⟩
  obtain ⟨b, off, hA, hS, hc⟩ := h4 h0
  exact ⟨b, off, hA, hS, fun k hkk => (World.cell?_of_block (w := w) (hk b hS)).trans (hc k hkk)⟩
theorem IntsIn.more {w : World} {S S' : Nat → Prop} {v : Value} {zs : List Int} (h : IntsIn w S v zs) (hS : ∀ b, S b → S' b) : IntsIn w S' v zs := by
  obtain ⟨A, cap, e, h1, h2, h3, h4⟩ := h
  refine ⟨A, cap, e, h1, h2, h3, fun h0 => ?_⟩
  obtain ⟨b, off, hA, hb, hc⟩ := h4 h0
  exact ⟨b, off, hA, hS b hb, hc⟩
theorem IntsIn.at {w : World} {S : Nat → Prop} {v : Value} {zs : List Int} {lo hi : Nat} (h : IntsIn w S v zs) (hS : ∀ b, S b → lo ≤ b ∧ b < hi) : IntsAt w lo hi v zs := by
  obtain ⟨A, cap, e, h1, h2, h3, h4⟩ := h
  refine ⟨A, cap, e, h1, h2, h3, fun h0 => ?_⟩
  obtain ⟨b, off, hA, hb, hc⟩ := h4 h0
  exact ⟨b, off, hA, (hS b hb).1, (hS b hb).2, hc⟩
theorem IntsIn.one {w : World} {S : Nat → Prop} {v : Value} {zs : List Int} (h : IntsIn w S v zs) : v.oneCell' = true := by
  obtain ⟨A, cap, rfl, _⟩ := h
  rfl
end Go.Proofs.YtdemcoghgnnheaaGreatDoor

namespace Go.Proofs.YtdemcoghgnnheaaGreatDoor
open Go.RowKit

/-- What lies neither in the block b nor in the row of the value c stays. -/
structure K2 (b : Nat) (c : Value) (w w' : World) : Prop where
  os : w'.os = w.os
  tape : w'.tape = w.tape
  output : w'.output = w.output
  size : w.heap.size ≤ w'.heap.size
  block : ∀ k, k < w.heap.size → k ≠ b → c.ownBlock ≠ some k → w'.heap[k]? = w.heap[k]?
/-- The row of c' is that of c, or a new one. -/
def Own2 (c c' : Value) (w w' : World) : Prop := c'.ownBlock = c.ownBlock ∨ ∃ g, c'.ownBlock = some g ∧ w.heap.size ≤ g ∧ g < w'.heap.size
theorem K2.refl (b : Nat) (c : Value) (w : World) : K2 b c w w := ⟨rfl, rfl, rfl, Nat.le_refl _, fun _ _ _ _ => rfl⟩
theorem K2.keep {b : Nat} {c : Value} {w w' w'' : World} (h : K2 b c w w') (k : Keep b w' w'') : K2 b c w w'' :=
  ⟨k.grown.os.trans h.os, k.grown.tape.trans h.tape, k.grown.output.trans h.output, Nat.le_trans h.size k.size, fun j hj hb hc => (k.block (Nat.lt_of_lt_of_le hj h.size) hb).trans (h.block j hj hb hc)⟩
theorem K2.trans {b : Nat} {c c' : Value} {w w' w'' : World} (h : K2 b c w w') (ho : Own2 c c' w w') (k : K2 b c' w' w'') : K2 b c w w'' :=
  ⟨k.os.trans h.os, k.tape.trans h.tape, k.output.trans h.output, Nat.le_trans h.size k.size, fun j hj hb hc => (k.block j (Nat.lt_of_lt_of_le hj h.size) hb (by
    rcases ho with e | ⟨g, e, hg, _⟩
    · rw [e]; exact hc
    · rw [e]; intro h'; injection h' with h'; omega)).trans (h.block j hj hb hc)⟩
theorem Own2.refl (c : Value) (w w' : World) : Own2 c c w w' := .inl rfl
theorem Own2.trans {c c' c'' : Value} {w w' w'' : World} (h : Own2 c c' w w') (hs : w.heap.size ≤ w'.heap.size) (k : Own2 c' c'' w' w'') (hs2 : w'.heap.size ≤ w''.heap.size) : Own2 c c'' w w'' := by
  rcases k with e | ⟨g, e, hg, hg2⟩
  · rcases h with e' | ⟨g, e', hg, hg2⟩
    · exact .inl (e.trans e')
    · exact .inr ⟨g, e.trans e', hg, by omega⟩
  · exact .inr ⟨g, e, by omega, hg2⟩
theorem Own2.grow {c c' : Value} {w w' w'' : World} (h : Own2 c c' w w') (hs : w'.heap.size ≤ w''.heap.size) : Own2 c c' w w'' := by
  rcases h with e | ⟨g, e, hg, hg2⟩
  · exact .inl e
  · exact .inr ⟨g, e, hg, by omega⟩
theorem K2.below {b B : Nat} {c : Value} {w w' : World} (h : K2 b c w w') (hb : B ≤ b) (hc : ∀ g, c.ownBlock = some g → B ≤ g) (hB : B ≤ w.heap.size) : Below B w w' :=
  ⟨h.os, h.tape, h.output, h.size, fun k hk => h.block k (by omega) (by omega) fun e => by have := hc k e; omega⟩

theorem K2.grown {b : Nat} {c : Value} {w w' w'' : World} (h : K2 b c w w') (g : w'.grownBy w'' c.ownBlock) : K2 b c w w'' :=
  ⟨g.os.trans h.os, g.tape.trans h.tape, g.output.trans h.output, Nat.le_trans h.size g.size, fun j hj hb hc => (g.block j (Nat.lt_of_lt_of_le hj h.size) fun e => hc e.symm).trans (h.block j hj hb hc)⟩
theorem K2.under {b : Nat} {c : Value} {w w' w'' : World} (h : K2 b c w w') (k : Below w'.heap.size w' w'') : K2 b c w w'' :=
  ⟨k.os.trans h.os, k.tape.trans h.tape, k.output.trans h.output, Nat.le_trans h.size k.size, fun j hj hb hc => (k.block j (Nat.lt_of_lt_of_le hj h.size)).trans (h.block j hj hb hc)⟩
theorem drop_suffix {L m r : List UInt8} {q : Nat} (h : L.drop q = m ++ r) : L.drop (L.length - r.length) = r ∧ r.length + m.length + q ≤ max L.length q := by
  have hl : (L.drop q).length = m.length + r.length := by rw [h]; simp
  rw [List.length_drop] at hl
  refine ⟨?_, by omega⟩
  rcases Nat.lt_or_ge q L.length with hq | hq
  · have e : L.length - r.length = q + m.length := by omega
    rw [e, ← List.drop_drop, h]
    simp
  · have h1 : m.length = 0 ∧ r.length = 0 := by omega
    have e : r = [] := List.eq_nil_of_length_eq_zero h1.2
    rw [e]
    simp
theorem own_lt {w : World} {N : Nat} {t : TypeId} {v : Value} {n : Nat} {xs : List Value} (h : w.ownsRow N t 1 v n xs) : ∀ g, v.ownBlock = some g → N ≤ g ∧ g < w.heap.size := by
  obtain ⟨_, ⟨e, _⟩ | ⟨g, cap3, cur, e, hg, hh, _⟩⟩ := h
  · intro g' hg'
    rw [e] at hg'
    cases hg'
  · intro g' hg'
    rw [e] at hg'
    simp [Value.ownBlock] at hg'
    subst hg'
    refine ⟨hg, ?_⟩
    rcases Nat.lt_or_ge g w.heap.size with h' | h'
    · exact h'
    · rw [Array.getElem?_eq_none h'] at hh; cases hh
theorem own_slice7 {w : World} {N : Nat} {t : TypeId} {v : Value} {n : Nat} {xs : List Value} (h : w.ownsRow N t 1 v n xs) : ∃ A c, v = .slice A n c := by
  obtain ⟨_, ⟨rfl, rfl⟩ | ⟨g, cap3, cur, rfl, _⟩⟩ := h
  · exact ⟨_, _, rfl⟩
  · exact ⟨_, _, rfl⟩
theorem own_k2 {w w' : World} {N b : Nat} {c v : Value} {t : TypeId} {n : Nat} {xs : List Value} (h : w.ownsRow N t 1 v n xs) (hk : K2 b c w w') (hb : b < N) (hc : ∀ g, v.ownBlock = some g → c.ownBlock ≠ some g) : w'.ownsRow N t 1 v n xs := by
  obtain ⟨h1, h2 | ⟨g, cap, cur, e, hg, hh, r⟩⟩ := h
  · exact ⟨h1, .inl h2⟩
  · refine ⟨h1, .inr ⟨g, cap, cur, e, hg, (hk.block g ?_ (by omega) (hc g (by rw [e]; rfl))).trans hh, r⟩⟩
    rcases Nat.lt_or_ge g w.heap.size with h' | h'
    · exact h'
    · rw [Array.getElem?_eq_none h'] at hh; cases hh
theorem Row.k2 {w w' : World} {b g : Nat} {c : Value} {t : TypeId} {xs : List Value} (h : Row w g t xs) (hk : K2 b c w w') (hb : g ≠ b) (hc : c.ownBlock ≠ some g) : Row w' g t xs := h.keep (hk.block g h.lt hb hc)
theorem call_tmM {t : Tm} (h : isCallT t = true) : callL (headT t) ((partsT t).map tmT) = tmT t := by
  cases t with
  | lit k v => cases h
  | c0 n => rfl
  | c1 n a => simp [callL, headT, partsT, tmT, Lib.join_one]
  | c2 n a b => simp [callL, headT, partsT, tmT, Lib.join_cons, Lib.joinTail]
theorem mkCall_is (n : UInt8) (ts : List Tm) : isCallT (mkCall n ts) = true := by
  match ts with
  | [] => rfl
  | [_] => rfl
  | _ :: _ :: _ => rfl
theorem headT_mk (n : UInt8) {ts : List Tm} (h : ts.length ≤ 2) : headT (mkCall n ts) = [n] := by
  match ts, h with
  | [], _ => rfl
  | [_], _ => rfl
  | [_, _], _ => rfl
theorem rdIx_len {n : Nat} {l r : List UInt8} {i : Nat} (h : rdIx n l = some (i, r)) : r.length + 1 = l.length := by
  have := (rdIx_eq h).2.2
  rw [this]
  simp [dg]
def txM (y : Sy) (m : Mk) : List UInt8 := tmT (erM y m)

/-- What the model's reader comes to, from where it stands; c holds what was called before. -/
def ReadPost7 (lo hi b : Nat) (sv cv fv : Value) (y : Sy) (L : List UInt8) (q : Nat) (used : Int) (c : Value) (cs : List Int) (o : Option (Mk × List UInt8)) (w : World) (e : Ending) (w' : World) : Prop :=
  ((∃ m r c', o = some (m, r) ∧ MkOk y m ∧ L.drop q = mkT m ++ r ∧ e = .returned (.tuple #[.string (str (tmT (erM y m))), .int .i64 (kindM y m)]) ∧ Sr lo hi b sv cv fv y L (L.length - r.length) false (used + (coN m : Int)) c' w' ∧ w'.ownsRow (b + 1) 3 1 c' (cs ++ fnM m).length ((cs ++ fnM m).map (Value.int .i64)) ∧ Own2 c c' w w') ∨
   (o = none ∧ ∃ s k used' c', e = .returned (.tuple #[.string s, .int .i64 k]) ∧ BadAt lo hi b sv cv fv y L used' c' w' ∧ Own2 c c' w w')) ∧ K2 b c w w'
def Reads7 (lo hi b : Nat) (sv cv fv : Value) (y : Sy) (L : List UInt8) (f : Nat) : Prop :=
  ∀ (q : Nat) (used : Int) (c : Value) (cs : List Int) (w : World), Sr lo hi b sv cv fv y L q false used c w → w.ownsRow (b + 1) 3 1 c cs.length (cs.map (Value.int .i64)) → q ≤ L.length → L.length - q ≤ f → 0 ≤ used → used ≤ q → cs.length ≤ q →
    Calls Tryz.prog 130 #[.pointer (some ⟨b, 0, none⟩)] w fun e w' => ReadPost7 lo hi b sv cv fv y L q used c cs (rdMk y f (L.drop q)) w e w'

set_option maxRecDepth 100000 in
set_option maxHeartbeats 1000000 in
/-- Where something was wrong before. -/
theorem term7_bad (lo hi b : Nat) (sv cv fv : Value) (y : Sy) (L : List UInt8) (used : Int) (cal : Value) (w : World) (h : BadAt lo hi b sv cv fv y L used cal w) (hL : L.length ≤ 400) :
    Calls Tryz.prog 130 #[.pointer (some ⟨b, 0, none⟩)] w fun e w' => e = .returned (.tuple #[.string ⟨#[]⟩, .int .i64 (-1)]) ∧ BadAt lo hi b sv cv fv y L used cal w' ∧ Keep b w w' := by
  obtain ⟨q, hq, h⟩ := h
  have HN : Hid (Calls Tryz.prog 165 #[.pointer (some ⟨b, 0, none⟩)] w fun e w' => (∃ x : Int, e = .returned (.int .u8 x)) ∧ BadAt lo hi b sv cv fv y L used cal w' ∧ Keep b w w') := by
    show Calls _ _ _ _ _
    cases hcr : L.drop q with
    | nil => exact (next_no lo hi b sv cv fv y L q true used cal w h (drop_nil_of hcr)).mono fun e w' ⟨he, hs, hk⟩ => ⟨⟨_, he⟩, ⟨q, hq, hs⟩, hk⟩
    | cons c r => exact (next_yes lo hi b sv cv fv y L q true used cal c r w h hL hcr).mono fun e w' ⟨he, hs, hk⟩ => ⟨⟨_, he⟩, ⟨q + 1, (drop_cons_of hcr).1, hs⟩, hk⟩
  clear h
  go_enter Tryz.func130, Tryz.ntmps130
  go_wp2_with fail
  refine HN.out.mono ?_
  rintro e w1 ⟨⟨x, rfl⟩, hb1, hk1⟩
  have HB1 := Lib.hid hb1
  have HK1 := Lib.hid hk1
  obtain ⟨q1, hq1, hs1⟩ := hb1
  obtain ⟨-, -, -, -, -, c5, -, -⟩ := hs1.cells
  clear hk1 hs1 HN
  go_wp2
  try rw [Exit.noGoto_ret]
  refine bodyPost_ret (v := .tuple #[.string ⟨#[]⟩, .int .i64 (-1)]) (by simp [results, Tryz.results130, go_sem]) rfl ?_
  exact ⟨rfl, HB1.out, HK1.out⟩

set_option maxRecDepth 100000 in
set_option maxHeartbeats 4000000 in
theorem call7_any (lo hi b : Nat) (sv cv fv : Value) (y : Sy) (hy : SyOk y) (L : List UInt8) (hL : L.length ≤ 400) (f : Nat) (IH : Reads7 lo hi b sv cv fv y L f) (q : Nat) (used : Int) (c : Value) (cs : List Int) (l : List UInt8) (w : World)
    (h : Sr lo hi b sv cv fv y L (q + 1) false used c w) (ho : w.ownsRow (b + 1) 3 1 c cs.length (cs.map (Value.int .i64))) (hd : L.drop q = 64 :: l) (hf : L.length - (q + 1) ≤ f) (hu0 : 0 ≤ used) (hu : used ≤ q) (hcs : cs.length ≤ q) :
    Calls Tryz.prog 168 #[.pointer (some ⟨b, 0, none⟩)] w fun e w' => ReadPost7 lo hi b sv cv fv y L q used c cs (rdApM (rdMk y f) y (L.drop q)) w e w' := by
  obtain ⟨hql, hdr, -⟩ := drop_cons_of hd
  obtain ⟨F, fap, rfl, hl3, hm3, _⟩ := h.sy.2.form
  obtain ⟨-, -, c2, -, -, -, -, -⟩ := h.cells
  have hbw := h.lt
  have HS := Lib.hid h
  have HO := Lib.hid ho
  have HI := Lib.hid IH
  have hn8 : y.fs.length ≤ 8 := hy.few
  have hco : Hid (rdApM (rdMk y f) y (L.drop q) = (rdIx y.fs.length l).bind fun p => (rdTake 40 p.2).bind fun r => (rdTo (rdMk y f) y (y.fs.getD p.1 default).args (y.fs.getD p.1 default).args.length r).bind fun q => (rdTake 41 q.2).map fun r => (mkA p.1 q.1, r)) := by
    show _ = _
    unfold rdApM rdOpen
    rw [hd, rdTake_cons]
    cases h1 : rdIx y.fs.length l with
    | none => simp [h1]
    | some p =>
      cases h2 : rdTake 40 p.2 with
      | none => simp [h1, h2]
      | some r => simp [h1, h2]
  have hd64 := Lib.hid hd
  clear h ho IH hd hl3 hm3
  go_enter Tryz.func168, Tryz.ntmps168
  go_wp2_with fail
  cases hix : rdIx y.fs.length l with
  | none =>
    have hno : Hid (rdApM (rdMk y f) y (L.drop q) = none) := by show _ = _; rw [hco.out, hix]; rfl
    refine (digit7_no lo hi b _ _ _ y L (q + 1) used c y.fs.length w HS.out hL (by omega) hn8 (by rw [hdr]; exact hix)).mono ?_
    clear hix hco
    rintro e w1 ⟨rfl, hb1, hk1⟩
    have HB1 : Hid (BadAt lo hi b sv cv (.slice F y.fs.length fap) y L used c w1) := hb1
    have HK1 := Lib.hid ((K2.refl b c w).keep hk1)
    clear hb1 hk1 HS
    go_wp2_with fail
    refine (take7_bad lo hi b _ _ _ y L used c 40 w1 HB1.out hL).mono ?_
    rintro e w2 ⟨rfl, hb2, hk2⟩
    have HK2 := Lib.hid (HK1.out.keep hk2)
    have HB2 := Lib.hid hb2
    obtain ⟨q2, hq2, hs2⟩ := hb2
    obtain ⟨-, -, -, -, -, c5, -, -⟩ := hs2.cells
    clear hk2 HK1 HB1 hs2
    go_wp2
    try rw [Exit.noGoto_ret]
    refine bodyPost_ret (v := .tuple #[.string ⟨#[]⟩, .int .i64 (-1)]) (by simp [results, Tryz.results168, go_sem]) rfl ?_
    exact ⟨.inr ⟨hno.out, _, _, used, c, rfl, HB2.out, Own2.refl _ _ _⟩, HK2.out⟩
  | some p =>
    obtain ⟨i, r1⟩ := p
    have hi9 := (rdIx_eq hix).2.1
    have hif := (rdIx_eq hix).1
    have hco1 : Hid (rdApM (rdMk y f) y (L.drop q) = (rdTake 40 r1).bind fun r => (rdTo (rdMk y f) y (y.fs.getD i default).args (y.fs.getD i default).args.length r).bind fun q => (rdTake 41 q.2).map fun r => (mkA i q.1, r)) := by show _ = _; rw [hco.out, hix]; rfl
    have hq2 : q + 2 ≤ L.length := by have h := congrArg List.length hdr; have h2 := rdIx_len hix; rw [List.length_drop] at h; omega
    refine (digit7_yes lo hi b _ _ _ y L (q + 1) used c y.fs.length i r1 w HS.out hL hn8 (by rw [hdr]; exact hix)).mono ?_
    clear hix hco
    rintro e w1 ⟨rfl, hs1, hd1, hk1⟩
    have HS1 := Lib.hid hs1
    have HK1 := Lib.hid ((K2.refl b c w).keep hk1)
    have HO1 := Lib.hid (own_keep HO.out hk1 (by omega))
    clear hs1 hk1 HS HO
    go_wp2_with fail
    cases htk : rdTake 40 r1 with
    | none =>
      have hno : Hid (rdApM (rdMk y f) y (L.drop q) = none) := by show _ = _; rw [hco1.out, htk]; rfl
      refine (take7_no lo hi b _ _ _ y L (q + 2) used c 40 40 rfl (by decide) w1 HS1.out hL hq2 (by rw [hd1]; exact htk)).mono ?_
      clear htk hco1
      rintro e w2 ⟨rfl, hb2, hk2⟩
      have HK2 := Lib.hid (HK1.out.keep hk2)
      have HB2 := Lib.hid hb2
      obtain ⟨q2, hq2, hs2⟩ := hb2
      obtain ⟨-, -, -, -, -, c5, -, -⟩ := hs2.cells
      clear hk2 HK1 HS1 hs2
      go_wp2
      try rw [Exit.noGoto_ret]
      refine bodyPost_ret (v := .tuple #[.string ⟨#[]⟩, .int .i64 (-1)]) (by simp [results, Tryz.results168, go_sem]) rfl ?_
      exact ⟨.inr ⟨hno.out, _, _, used, c, rfl, HB2.out, Own2.refl _ _ _⟩, HK2.out⟩
    | some r2 =>
      have hco2 : Hid (rdApM (rdMk y f) y (L.drop q) = (rdTo (rdMk y f) y (y.fs.getD i default).args (y.fs.getD i default).args.length r2).bind fun q => (rdTake 41 q.2).map fun r => (mkA i q.1, r)) := by show _ = _; rw [hco1.out, htk]; rfl
      refine (take7_yes lo hi b _ _ _ y L (q + 2) used c 40 40 rfl r2 w1 HS1.out hL (by rw [hd1]; exact htk)).mono ?_
      clear htk hco1
      rintro e w2 ⟨rfl, hs2, hd2, hq2, hk2⟩
      obtain ⟨-, -, -, -, -, c5, -, c7⟩ := hs2.cells
      have f7 := hs2.frozen 7
      have hblt := hs2.lt
      have HS2 := Lib.hid hs2
      have HK2 := Lib.hid (HK1.out.keep hk2)
      have HO2 := Lib.hid (own_keep HO1.out hk2 (by omega))
      obtain ⟨i0, hi0, hz0, hz1, hz2⟩ := info_parts (show (Tryz.prog.info? 3).map (fun i => (i.zero, i.size, i.bytes)) = some (some (.int .i64 0), 1, 8) by kernel_rfl)
      clear hs2 hk2 HS1 HK1 HO1
      go_wp2_with (at_builtin; refine wpList_push rfl (.tmp 29) (.tmp 31) 22 rfl i0 (.int .i64 0) 8 Tryz.underlying22 hi0 hz0 hz1 hz2 rfl rfl (HO2.out.alloc _) ⟨w2.heap.size, 0, none⟩ 1 (.int .i64 i) rfl (by simp [go_sem]) rfl (by unfold maxLen; omega) (by omega) (by simp; omega) ?_)
      intro c3 w3 hpu
      obtain ⟨g3, cap3, rfl⟩ := hpu.form
      have hown2 := HO2.out
      have hcge := fun g hg => (own_lt hown2 g hg).1
      have hclt := fun g hg => (own_lt hown2 g hg).2
      have hs3 : w2.heap.size + 1 ≤ w3.heap.size := by have := hpu.grown.size; simpa using this
      have HS3 : Hid (Sr lo hi b sv cv (.slice F y.fs.length fap) y L (q + 3) false used c w3) := HS2.out.keep fun k hk => (hpu.grown.block k (by simp; omega) fun e => by have := hcge k e.symm; omega).trans ((Below.refl _ _).alloc (Nat.le_refl _) (.cells #[.int .i64 i] 3) |>.block k (by omega))
      have c7' := HS3.out.cells.2.2.2.2.2.2.2
      have f7' := HS3.out.frozen 7
      have HK3 : Hid (K2 b c w w3) := (HK2.out.under ((Below.refl _ _).alloc (Nat.le_refl _) _)).grown hpu.grown
      have HO3 := Lib.hid hpu.own
      have Hat3 : Hid (Own2 c (.slice (some ⟨g3, 0, none⟩) (cs.length + 1) cap3) w w3) := by
        rcases hpu.at_ with e | ⟨g, e, h1, h2⟩
        · exact .inl e
        · exact .inr ⟨g, e, by have := HK2.out.size; simp at h1; omega, h2⟩
      have HCge : Hid (∀ g, c.ownBlock = some g → b + 1 ≤ g) := hcge
      clear hpu c5 c7 f7 hown2 hcge hclt HS2 HK2 HO2
      obtain ⟨u4, hu4⟩ : ∃ u, u = w3.setCell ⟨b, 7, none⟩ (.slice (some ⟨g3, 0, none⟩) (cs.length + 1) cap3) := ⟨_, rfl⟩
      have HS4 : Hid (Sr lo hi b sv cv (.slice F y.fs.length fap) y L (q + 3) false used (.slice (some ⟨g3, 0, none⟩) (cs.length + 1) cap3) u4) := by rw [hu4]; exact HS3.out.setCal _
      have HK4 : Hid (K2 b c w u4) := by rw [hu4]; exact HK3.out.keep (Keep.set7 b 7 _ _)
      have HO4 : Hid (u4.ownsRow (b + 1) 3 1 (.slice (some ⟨g3, 0, none⟩) (cs.length + 1) cap3) (cs.length + 1) (cs.map (Value.int .i64) ++ [.int .i64 i])) := by rw [hu4]; exact own_keep HO3.out (Keep.set7 b 7 _ _) (by omega)
      have hs4 : u4.heap.size = w3.heap.size := by rw [hu4]; simp [World.setCell]
      have Hat4 : Hid (Own2 c (.slice (some ⟨g3, 0, none⟩) (cs.length + 1) cap3) w u4) := Hat3.out.grow (by omega)
      clear HS3 HK3 HO3 Hat3
      obtain ⟨fb, foff, A1, cap1, A2, cap2, rfl, hfb1, hfb2, k0, k1, k2, k3, _, hm1, _, _, hfa⟩ := HS4.out.sy.2.at_ hif
      have c2 := HS4.out.cells.2.2.1
      rw [hu4] at k0 k1 k2 k3 c2
      unfold maxLen at hm1
      have hgd : y.fs.getD i default = y.fs[i] := getD_get hif
      have hnm := (nmOf_name hy hif).1
      rw [hnm] at k0
      rw [hgd] at hco2
      have hfew := (hy.each i hif).few
      obtain ⟨B, hB⟩ : ∃ B, B = w3.heap.size := ⟨_, rfl⟩
      have hIA := Lib.hid hfa.2.2.2.2.1
      clear hfa hnm hgd
      go_wp2_with fail
      rw [← hu4]
      obtain ⟨u5, hu5⟩ : ∃ u, u = (u4.alloc (.cells #[.string (str [nmOf y i]), .slice A1 y.fs[i].args.length cap1, .int .i64 y.fs[i].res, .slice A2 y.fs[i].table.length cap2] 110)).alloc (.cells #[] 9) := ⟨_, rfl⟩
      rw [← hu5, ← hB]
      have hb5 : Below u4.heap.size u4 u5 := by rw [hu5]; exact ((Below.refl _ _).alloc (Nat.le_refl _) _).alloc (by simp) _
      have HR5 : Hid (Row u5 B 110 [.string (str [nmOf y i]), .slice A1 y.fs[i].args.length cap1, .int .i64 y.fs[i].res, .slice A2 y.fs[i].table.length cap2]) := by
        show Row _ _ _ _
        rw [hu5, hB, ← hs4]
        exact (Row.new u4 _ _).alloc _
      have HP5 : Hid (u5.ownsRow (B + 1) 9 1 (.slice (some ⟨B + 1, 0, none⟩) 0 0) 0 []) := by
        show World.ownsRow _ _ _ _ _ _ _
        rw [hu5, hB, ← hs4]
        have h := World.ownsRow_lit (e := 9) (base := u4.heap.size + 1) (size := 1) (u4.alloc (.cells #[.string (str [nmOf y i]), .slice A1 y.fs[i].args.length cap1, .int .i64 y.fs[i].res, .slice A2 y.fs[i].table.length cap2] 110)) #[] 0 (by simp) (by unfold maxLen; omega) rfl
        simpa using h
      have HS5 : Hid (Sr lo hi b sv cv (.slice (some ⟨fb, foff, none⟩) y.fs.length fap) y L (q + 3) false used (.slice (some ⟨g3, 0, none⟩) (cs.length + 1) cap3) u5) := HS4.out.keep fun k hk => hb5.block k (by have := HS4.out.lt; omega)
      have HO5 : Hid (u5.ownsRow (b + 1) 3 1 (.slice (some ⟨g3, 0, none⟩) (cs.length + 1) cap3) (cs.length + 1) (cs.map (Value.int .i64) ++ [.int .i64 i])) := ownsRow_below HO4.out hb5 (Nat.le_refl _)
      have HK5 := Lib.hid (HK4.out.under hb5)
      have Hat5 := Lib.hid (Hat4.out.grow hb5.size)
      have hg3 : g3 < B := by have := (own_lt HO4.out g3 rfl).2; omega
      have HIA : Hid (∀ u : World, K2 b c w u → IntsAt u lo hi (.slice A1 y.fs[i].args.length cap1) y.fs[i].args) := fun u hu => hIA.out.keep fun k _ hk => by
        have hhb := HS4.out.hib
        have hcg := Hid.out HCge k
        exact (hu.block k (by omega) (by omega) fun e => by have := hcg e; omega).trans (HK4.out.block k (by omega) (by omega) fun e => by have := hcg e; omega).symm
      have hq3 : L.length - r2.length = q + 3 := by
        have h := congrArg List.length hd2
        rw [List.length_drop] at h
        omega
      have hr2 : r2.length + q + 3 ≤ L.length := by omega
      have HBw : Hid (b + 1 ≤ B ∧ w.heap.size ≤ B) := by show _ ∧ _; have := HK5.out.size; have := HK4.out.size; omega
      obtain ⟨j0, hj0, hy0, hy1, hy2⟩ := info_parts (show (Tryz.prog.info? 9).map (fun i => (i.zero, i.size, i.bytes)) = some (some (.string ⟨#[]⟩), 1, 16) by kernel_rfl)
      clear hb5 hIA HS4 HO4 HK4 Hat4 hu5 hu4 hs4 hB k0 k1 k2 k3 c2 c7' f7' hi0 hz0 hz1 hz2
      go_loopw [6, 47] (fun ps ix wr => ∃ (k : Nat) (ms : List Mk) (r3 : List UInt8) (used2 : Int) (c2 : Value) (cs2 : List Int), k ≤ y.fs[i].args.length ∧ ix = .int .i64 k ∧ Hid (ms.length = k) ∧ r3.length + q + 3 ≤ L.length ∧ 0 ≤ used2 ∧ used2 ≤ ((L.length - r3.length : Nat) : Int) ∧ cs2.length ≤ L.length - r3.length ∧ c2.ownBlock ≠ some B ∧ Hid (rdTo (rdMk y f) y y.fs[i].args k r2 = some (ms, r3)) ∧ Hid (L.drop (L.length - r3.length) = r3) ∧ Hid (used2 = used + (((ms.map coN).sum : Nat) : Int)) ∧ Hid (cs2 = cs ++ (i : Int) :: (ms.map fnM).flatten) ∧ Hid (∀ m ∈ ms, MkOk y m ∧ (mkT m).length ≤ 400) ∧ Hid (Sr lo hi b sv cv (.slice (some ⟨fb, foff, none⟩) y.fs.length fap) y L (L.length - r3.length) false used2 c2 wr) ∧ Hid (wr.ownsRow (b + 1) 3 1 c2 cs2.length (cs2.map (Value.int .i64))) ∧ Hid (Own2 c c2 w wr) ∧ Hid (K2 b c w wr) ∧ Hid (Row wr B 110 [.string (str [nmOf y i]), .slice A1 y.fs[i].args.length cap1, .int .i64 y.fs[i].res, .slice A2 y.fs[i].table.length cap2]) ∧ Hid (wr.ownsRow (B + 1) 9 1 ps ms.length (strVs (ms.map (txM y)))) ∧ Hid (∀ g, ps.ownBlock = some g → c2.ownBlock ≠ some g)) (fun _ ix _ => y.fs[i].args.length - (intOf ix).toNat)
      case atStart =>
        have q1 : used ≤ ((L.length - r2.length : Nat) : Int) := by rw [hq3]; omega
        have q2 : (cs ++ [(i : Int)]).length ≤ L.length - r2.length := by rw [hq3]; simp; omega
        have q3 : (Value.slice (some ⟨g3, 0, none⟩) (cs.length + 1) cap3).ownBlock ≠ some B := by
          show some g3 ≠ some B
          intro e; injection e with e; omega
        have q4 : L.drop (L.length - r2.length) = r2 := by rw [hq3]; exact hd2
        have q5 : used = used + ((((([] : List Mk)).map coN).sum : Nat) : Int) := by simp
        have q6 : cs ++ [(i : Int)] = cs ++ (i : Int) :: (([] : List Mk).map fnM).flatten := by simp
        have q7 : ∀ m ∈ ([] : List Mk), MkOk y m ∧ (mkT m).length ≤ 400 := fun m hm => by cases hm
        have q8 : Sr lo hi b sv cv (.slice (some ⟨fb, foff, none⟩) y.fs.length fap) y L (L.length - r2.length) false used (.slice (some ⟨g3, 0, none⟩) (cs.length + 1) cap3) u5 := by rw [hq3]; exact HS5.out
        have q9 : u5.ownsRow (b + 1) 3 1 (.slice (some ⟨g3, 0, none⟩) (cs.length + 1) cap3) (cs ++ [(i : Int)]).length ((cs ++ [(i : Int)]).map (Value.int .i64)) := by simpa using HO5.out
        have q10 : ∀ g, (Value.slice (some ⟨B + 1, 0, none⟩) 0 0).ownBlock = some g → (Value.slice (some ⟨g3, 0, none⟩) (cs.length + 1) cap3).ownBlock ≠ some g := fun g hg => by
          have e1 : B + 1 = g := by simpa [Value.ownBlock] using hg
          show some g3 ≠ some g
          intro e; injection e with e; omega
        exact ⟨0, [], r2, used, .slice (some ⟨g3, 0, none⟩) (cs.length + 1) cap3, cs ++ [(i : Int)], Nat.zero_le _, rfl, rfl, hr2, hu0, q1, q2, q3, rfl, q4, q5, q6, q7, q8, q9, Hat5.out, HK5.out, HR5.out, HP5.out, q10⟩
      case round =>
        obtain ⟨k, ms, r3, used2, c2, cs2, hk, rfl, hml, hr3, hu2, hu3, hcs2, hcB, hrd0, hdr3, hus, hcss, hmsok, HSr, HOr, Hatr, HKr, HRr, HPr, HNEr⟩ := hrel
        clear HS5 HO5 HK5 Hat5 HR5 HP5
        have hwr := HKr.out.size
        have hblr := HSr.out.lt
        have hBl := HRr.out.lt
        obtain ⟨PA, PC, rfl⟩ := own_slice7 HPr.out
        by_cases hkl : k < y.fs[i].args.length
        · obtain ⟨b3, off3, rfl, _, _, a3, i3⟩ := (HIA.out _ HKr.out).at_ hkl
          by_cases hk0 : k = 0
          · subst hk0
            have hrd : Hid (rdTo (rdMk y f) y y.fs[i].args (0 + 1) r2 = (rdOf (rdMk y f) y y.fs[i].args[0] r3).map fun q => (ms ++ [q.1], q.2)) := by
              show _ = _
              rw [rdTo, hrd0.out, getD_get hkl]
              simp
            have hdr4 := hdr3
            rw [Nat.add_zero] at a3
            clear i3 hrd0
            go_wp2_with fail
            refine (HI.out (L.length - r3.length) used2 c2 cs2 wr HSr.out HOr.out (by omega) (by omega) hu2 (by omega) (by omega)).mono ?_
            rintro e w6 ⟨⟨m, r5, c6, hm, hok, htx, rfl, hs6, ho6, hat6⟩ | ⟨hm, s6, k6, u6, c6, rfl, hb6, hat6⟩, hk6⟩
            · rw [hdr4.out] at hm
              have hsuf := drop_suffix htx
              have hln : (mkT m).length + r5.length = r3.length := by
                have h1 := congrArg List.length htx
                rw [List.length_drop, List.length_append] at h1
                omega
              have hcl := coN_le m
              have hfl := fnM_le m
              have HK6 := Lib.hid (HKr.out.trans Hatr.out hk6)
              have hs6w := hk6.size
              have Hat6 := Lib.hid (Hatr.out.trans HKr.out.size hat6 hs6w)
              have HS6 := Lib.hid hs6
              have HO6 := Lib.hid ho6
              have HR6 := Lib.hid (Row.k2 HRr.out hk6 (by have := HBw.out; omega) hcB)
              have HP6 := Lib.hid (own_k2 HPr.out hk6 (by have := HBw.out; omega) HNEr.out)
              have hcB6 : c6.ownBlock ≠ some B := by
                have hBl := HRr.out.lt
                rcases hat6 with e | ⟨g, e, hg, _⟩
                · rw [e]; exact hcB
                · rw [e]; intro h'; injection h' with h'; omega
              have HNE6 : Hid (∀ g, (Value.slice PA ms.length PC).ownBlock = some g → c6.ownBlock ≠ some g) := fun g hg => by
                have hgl := (own_lt HPr.out g hg).2
                rcases hat6 with e | ⟨g', e, hg', _⟩
                · rw [e]; exact HNEr.out g hg
                · rw [e]; intro h'; injection h' with h'; omega
              obtain ⟨-, -, -, -, -, c5, -, -⟩ := hs6.cells
              have f5 := hs6.frozen 5
              have hrd1 : Hid (rdTo (rdMk y f) y y.fs[i].args (0 + 1) r2 = if kindM y m = y.fs[i].args[0] then some (ms ++ [m], r5) else none) := by
                show _ = _
                rw [hrd.out]
                unfold rdOf
                rw [hm]
                simp only [Option.bind_some]
                split <;> rfl
              clear hk6 hat6 hs6 ho6 hm hrd
              by_cases hkind : kindM y m = y.fs[i].args[0]
              · have hrd2 : Hid (rdTo (rdMk y f) y y.fs[i].args (0 + 1) r2 = some (ms ++ [m], r5)) := by show _ = _; rw [hrd1.out, if_pos hkind]
                have Htx : Hid (str (txM y m) = str (tmT (erM y m))) := rfl
                have HOK := Lib.hid hok
                have Hsuf := Lib.hid hsuf.1
                clear hrd1 hok htx hsuf
                have hm2 : ms.length ≤ 2 := by have := hml.out; omega
                have hBl6 : B < w6.heap.size := HR6.out.lt
                go_wp2_with (at_builtin; refine wpList_push rfl (.tmp 73) (.tmp 75) 107 rfl j0 (.string ⟨#[]⟩) 16 Tryz.underlying107 hj0 hy0 hy1 hy2 rfl rfl (HP6.out.alloc _) ⟨w6.heap.size, 0, none⟩ 1 (.string (str (tmT (erM y m)))) rfl (by simp [go_sem]) rfl (by unfold maxLen; omega) (by omega) (by simp; omega) ?_)
                intro ps7 w7 hpu
                obtain ⟨g7, cap7, rfl⟩ := hpu.form
                have hmk := hml.out
                have hpge : ∀ g, (Value.slice PA ms.length PC).ownBlock = some g → B + 1 ≤ g ∧ g < w6.heap.size := own_lt HP6.out
                have hs7 : w6.heap.size + 1 ≤ w7.heap.size := by have := hpu.grown.size; simpa using this
                have hk7 : ∀ j, j < w6.heap.size → (∀ g, (Value.slice PA ms.length PC).ownBlock = some g → j ≠ g) → w7.heap[j]? = w6.heap[j]? := fun j hj hn =>
                  (hpu.grown.block j (by simp; omega) fun e => hn j e.symm rfl).trans (((Below.refl w6.heap.size w6).alloc (Nat.le_refl _) _).block j hj)
                have hb7 : Below (B + 1) w6 w7 := ⟨hpu.grown.os, hpu.grown.tape, hpu.grown.output, by omega, fun j hj => hk7 j (by have := HR6.out.lt; omega) fun g hg => by have := (hpge g hg).1; omega⟩
                have HK7 : Hid (K2 b c w w7) := ⟨hb7.os.trans HK6.out.os, hb7.tape.trans HK6.out.tape, hb7.output.trans HK6.out.output, by have := HK6.out.size; omega, fun j hj hb hc => (hb7.block j (by have := HBw.out; omega)).trans (HK6.out.block j hj hb hc)⟩
                have HS7 : Hid (Sr lo hi b sv cv (.slice (some ⟨fb, foff, none⟩) y.fs.length fap) y L (L.length - r5.length) false (used2 + (coN m : Int)) c6 w7) := HS6.out.keep fun j hj => hb7.block j (by have := HBw.out; omega)
                have HO7 : Hid (w7.ownsRow (b + 1) 3 1 c6 (cs2 ++ fnM m).length ((cs2 ++ fnM m).map (Value.int .i64))) := by
                  obtain ⟨h1, h2 | ⟨g, cap, cur, e, hg, hh, hr⟩⟩ := HO6.out
                  · exact ⟨h1, .inl h2⟩
                  · refine ⟨h1, .inr ⟨g, cap, cur, e, hg, (hk7 g ?_ fun g' hg' e' => ?_).trans hh, hr⟩⟩
                    · rcases Nat.lt_or_ge g w6.heap.size with h' | h'
                      · exact h'
                      · rw [Array.getElem?_eq_none h'] at hh; cases hh
                    · exact HNE6.out g' hg' (by rw [e, e']; rfl)
                have HR7 : Hid (Row w7 B 110 [.string (str [nmOf y i]), .slice (some ⟨b3, off3, none⟩) y.fs[i].args.length cap1, .int .i64 y.fs[i].res, .slice A2 y.fs[i].table.length cap2]) := HR6.out.below hb7 (by omega)
                have Hat7 : Hid (Own2 c c6 w w7) := Hat6.out.grow (by omega)
                have HP7 : Hid (w7.ownsRow (B + 1) 9 1 (.slice (some ⟨g7, 0, none⟩) (ms.length + 1) cap7) (ms ++ [m]).length (strVs ((ms ++ [m]).map (txM y)))) := by
                  have h := hpu.own
                  refine ownsRow_cast h (by simp) ?_
                  simp [strVs, txM]
                have HNE7 : Hid (∀ g, (Value.slice (some ⟨g7, 0, none⟩) (ms.length + 1) cap7).ownBlock = some g → c6.ownBlock ≠ some g) := fun g hg => by
                  rcases hpu.at_ with e | ⟨g', e, hg', _⟩
                  · rw [e] at hg; exact HNE6.out g hg
                  · rw [e] at hg
                    injection hg with hg
                    subst hg
                    intro e2
                    have := (own_lt HO6.out _ e2).2
                    simp at hg'
                    omega
                have e7 : (((ms.length + 1 : Nat)) : Int) = (ms.length : Int) + 1 := by omega
                have q5 : Hid (used2 + (coN m : Int) = used + ((((ms ++ [m]).map coN).sum : Nat) : Int)) := by show _ = _; rw [hus.out]; simp; omega
                have q6 : Hid (cs2 ++ fnM m = cs ++ (i : Int) :: ((ms ++ [m]).map fnM).flatten) := by show _ = _; rw [hcss.out]; simp
                have q7 : Hid (∀ m' ∈ ms ++ [m], MkOk y m' ∧ (mkT m').length ≤ 400) := fun m' hm' => by
                  rcases List.mem_append.1 hm' with h | h
                  · exact hmsok.out m' h
                  · simp at h; subst h; exact ⟨HOK.out, by omega⟩
                have q8 : Hid ((ms ++ [m]).length = 0 + 1) := by show _ = _; simp [hmk]
                have q9 : Hid ((cs2 ++ fnM m).length ≤ L.length - r5.length) := by show _ ≤ _; simp; omega
                have q10 : Hid (used2 + (coN m : Int) ≤ ((L.length - r5.length : Nat) : Int)) := by show _ ≤ _; omega
                have q11 : Hid ((0 : Int) ≤ used2 + (coN m : Int)) := by show _ ≤ _; omega
                clear hpu hpge hk7 hb7 HS6 HO6 HR6 HP6 HNE6 Hat6 HK6 hmk e7
                go_wp2
                go_roundw
                case rel => exact ⟨0 + 1, ms ++ [m], r5, used2 + (coN m : Int), c6, cs2 ++ fnM m, by omega, by go_num, q8.out, by omega, q11.out, q10.out, q9.out, hcB6, hrd2.out, Hsuf.out, q5.out, q6.out, q7.out, HS7.out, HO7.out, Hat7.out, HK7.out, HR7.out, by refine ownsRow_cast HP7.out rfl rfl, HNE7.out⟩
                case measure => simp [intOf]; omega
              · have hkne : (kindM y m != y.fs[i].args[0]) = true := by simp [hkind]
                have hno : Hid (rdApM (rdMk y f) y (L.drop q) = none) := by
                  show _ = _
                  rw [hco2.out, rdTo_none (k := 0 + 1) (by rw [hrd1.out, if_neg hkind]) _ (by omega)]
                  rfl
                clear hrd1 hok htx hsuf
                go_wp2
                try rw [Exit.noGoto_ret]
                refine bodyPost_ret (v := .tuple #[.string ⟨#[]⟩, .int .i64 (-1)]) (by simp [results, Tryz.results168, go_sem]) rfl ?_
                exact ⟨.inr ⟨hno.out, _, _, _, c6, rfl, ⟨_, Nat.sub_le _ _, HS6.out.setBad true⟩, Hat6.out.grow (by simp [World.setCell])⟩, HK6.out.keep (Keep.set7 b 5 _ _)⟩
            · rw [hdr4.out] at hm
              have HK6 := Lib.hid (HKr.out.trans Hatr.out hk6)
              have Hat6 := Lib.hid (Hatr.out.trans HKr.out.size hat6 hk6.size)
              have hno : Hid (rdApM (rdMk y f) y (L.drop q) = none) := by
                show _ = _
                rw [hco2.out, rdTo_none (k := 0 + 1) (by rw [hrd.out]; unfold rdOf; rw [hm]; rfl) _ (by omega)]
                rfl
              obtain ⟨q6, hq6, hs6⟩ := hb6
              obtain ⟨-, -, -, -, -, c5, -, -⟩ := hs6.cells
              have f5 := hs6.frozen 5
              have HS6 := Lib.hid hs6
              clear hk6 hat6 hs6 hm hrd
              go_wp2
              try rw [Exit.noGoto_ret]
              refine bodyPost_ret (v := .tuple #[.string ⟨#[]⟩, .int .i64 (-1)]) (by simp [results, Tryz.results168, go_sem]) rfl ?_
              exact ⟨.inr ⟨hno.out, _, _, _, c6, rfl, ⟨q6, hq6, HS6.out.setBad true⟩, Hat6.out.grow (by simp [World.setCell])⟩, HK6.out.keep (Keep.set7 b 5 _ _)⟩
          · have hkz : (0 : Int) < (k : Int) := by omega
            clear i3
            go_wp2_with fail
            cases htk : rdTake 44 r3 with
            | none =>
              have hno : Hid (rdApM (rdMk y f) y (L.drop q) = none) := by
                show _ = _
                rw [hco2.out, rdTo_none (k := k + 1) (by rw [rdTo, hrd0.out]; simp [hk0, htk]) _ (by omega)]
                rfl
              refine (take7_no lo hi b _ _ _ y L (L.length - r3.length) used2 c2 44 44 rfl (by decide) wr HSr.out hL (Nat.sub_le _ _) (by rw [hdr3.out]; exact htk)).mono ?_
              clear htk hrd0
              rintro e w5 ⟨rfl, hb5, hk5⟩
              have HB5 := Lib.hid hb5
              have HK5 := Lib.hid (HKr.out.keep hk5)
              have Hat5 := Lib.hid (Hatr.out.grow hk5.size)
              clear hb5 hk5 HSr HOr
              go_wp2_with fail
              refine (term7_bad lo hi b _ _ _ y L used2 c2 w5 HB5.out hL).mono ?_
              rintro e w6 ⟨rfl, hb6, hk6⟩
              have HK6 := Lib.hid (HK5.out.keep hk6)
              have Hat6 := Lib.hid (Hat5.out.grow hk6.size)
              obtain ⟨q6, hq6, hs6⟩ := hb6
              obtain ⟨-, -, -, -, -, c5, -, -⟩ := hs6.cells
              have f5 := hs6.frozen 5
              have HS6 := Lib.hid hs6
              clear hk6 hs6 HK5 HB5
              go_wp2
              try rw [Exit.noGoto_ret]
              refine bodyPost_ret (v := .tuple #[.string ⟨#[]⟩, .int .i64 (-1)]) (by simp [results, Tryz.results168, go_sem]) rfl ?_
              exact ⟨.inr ⟨hno.out, _, _, _, c2, rfl, ⟨q6, hq6, HS6.out.setBad true⟩, Hat6.out.grow (by simp [World.setCell])⟩, HK6.out.keep (Keep.set7 b 5 _ _)⟩
            | some r4 =>
              have hl4 := rdTake_len htk
              have hrd : Hid (rdTo (rdMk y f) y y.fs[i].args (k + 1) r2 = (rdOf (rdMk y f) y y.fs[i].args[k] r4).map fun q => (ms ++ [q.1], q.2)) := by
                show _ = _
                rw [rdTo, hrd0.out, getD_get hkl]
                simp [hk0, htk]
              refine (take7_yes lo hi b _ _ _ y L (L.length - r3.length) used2 c2 44 44 rfl r4 wr HSr.out hL (by rw [hdr3.out]; exact htk)).mono ?_
              clear htk hrd0
              rintro e wa ⟨rfl, hsa, hda, hqa, hka⟩
              have eqa : L.length - r3.length + 1 = L.length - r4.length := by omega
              rw [eqa] at hsa hda
              have HSa := Lib.hid hsa
              have hdr4 := Lib.hid hda
              have HOa := Lib.hid (own_keep HOr.out hka (by omega))
              have HKa := Lib.hid (HKr.out.keep hka)
              have Hata := Lib.hid (Hatr.out.grow hka.size)
              have HRa := Lib.hid (HRr.out.keep (hka.block hBl (by have := HBw.out; omega)))
              have HPa := Lib.hid (own_keep HPr.out hka (by have := HBw.out; omega))
              have hwa := HKa.out.size
              clear hsa hda hka HSr HOr HKr Hatr HRr HPr eqa
              go_wp2_with fail
              refine (HI.out (L.length - r4.length) used2 c2 cs2 wa HSa.out HOa.out (by omega) (by omega) hu2 (by omega) (by omega)).mono ?_
              rintro e w6 ⟨⟨m, r5, c6, hm, hok, htx, rfl, hs6, ho6, hat6⟩ | ⟨hm, s6, k6, u6, c6, rfl, hb6, hat6⟩, hk6⟩
              · rw [hdr4.out] at hm
                have hsuf := drop_suffix htx
                have hln : (mkT m).length + r5.length = r4.length := by
                  have h1 := congrArg List.length htx
                  rw [List.length_drop, List.length_append] at h1
                  omega
                have hcl := coN_le m
                have hfl := fnM_le m
                have HK6 := Lib.hid (HKa.out.trans Hata.out hk6)
                have hs6w := hk6.size
                have Hat6 := Lib.hid (Hata.out.trans HKa.out.size hat6 hs6w)
                have HS6 := Lib.hid hs6
                have HO6 := Lib.hid ho6
                have HR6 := Lib.hid (Row.k2 HRa.out hk6 (by have := HBw.out; omega) hcB)
                have HP6 := Lib.hid (own_k2 HPa.out hk6 (by have := HBw.out; omega) HNEr.out)
                have hcB6 : c6.ownBlock ≠ some B := by
                  have hBl := HRa.out.lt
                  rcases hat6 with e | ⟨g, e, hg, _⟩
                  · rw [e]; exact hcB
                  · rw [e]; intro h'; injection h' with h'; omega
                have HNE6 : Hid (∀ g, (Value.slice PA ms.length PC).ownBlock = some g → c6.ownBlock ≠ some g) := fun g hg => by
                  have hgl := (own_lt HPa.out g hg).2
                  rcases hat6 with e | ⟨g', e, hg', _⟩
                  · rw [e]; exact HNEr.out g hg
                  · rw [e]; intro h'; injection h' with h'; omega
                obtain ⟨-, -, -, -, -, c5, -, -⟩ := hs6.cells
                have f5 := hs6.frozen 5
                have hrd1 : Hid (rdTo (rdMk y f) y y.fs[i].args (k + 1) r2 = if kindM y m = y.fs[i].args[k] then some (ms ++ [m], r5) else none) := by
                  show _ = _
                  rw [hrd.out]
                  unfold rdOf
                  rw [hm]
                  simp only [Option.bind_some]
                  split <;> rfl
                clear hk6 hat6 hs6 ho6 hm hrd
                by_cases hkind : kindM y m = y.fs[i].args[k]
                · have hrd2 : Hid (rdTo (rdMk y f) y y.fs[i].args (k + 1) r2 = some (ms ++ [m], r5)) := by show _ = _; rw [hrd1.out, if_pos hkind]
                  have Htx : Hid (str (txM y m) = str (tmT (erM y m))) := rfl
                  have HOK := Lib.hid hok
                  have Hsuf := Lib.hid hsuf.1
                  clear hrd1 hok htx hsuf
                  have hm2 : ms.length ≤ 2 := by have := hml.out; omega
                  have hBl6 : B < w6.heap.size := HR6.out.lt
                  go_wp2_with (at_builtin; refine wpList_push rfl (.tmp 73) (.tmp 75) 107 rfl j0 (.string ⟨#[]⟩) 16 Tryz.underlying107 hj0 hy0 hy1 hy2 rfl rfl (HP6.out.alloc _) ⟨w6.heap.size, 0, none⟩ 1 (.string (str (tmT (erM y m)))) rfl (by simp [go_sem]) rfl (by unfold maxLen; omega) (by omega) (by simp; omega) ?_)
                  intro ps7 w7 hpu
                  obtain ⟨g7, cap7, rfl⟩ := hpu.form
                  have hmk := hml.out
                  have hpge : ∀ g, (Value.slice PA ms.length PC).ownBlock = some g → B + 1 ≤ g ∧ g < w6.heap.size := own_lt HP6.out
                  have hs7 : w6.heap.size + 1 ≤ w7.heap.size := by have := hpu.grown.size; simpa using this
                  have hk7 : ∀ j, j < w6.heap.size → (∀ g, (Value.slice PA ms.length PC).ownBlock = some g → j ≠ g) → w7.heap[j]? = w6.heap[j]? := fun j hj hn =>
                    (hpu.grown.block j (by simp; omega) fun e => hn j e.symm rfl).trans (((Below.refl w6.heap.size w6).alloc (Nat.le_refl _) _).block j hj)
                  have hb7 : Below (B + 1) w6 w7 := ⟨hpu.grown.os, hpu.grown.tape, hpu.grown.output, by omega, fun j hj => hk7 j (by have := HR6.out.lt; omega) fun g hg => by have := (hpge g hg).1; omega⟩
                  have HK7 : Hid (K2 b c w w7) := ⟨hb7.os.trans HK6.out.os, hb7.tape.trans HK6.out.tape, hb7.output.trans HK6.out.output, by have := HK6.out.size; omega, fun j hj hb hc => (hb7.block j (by have := HBw.out; omega)).trans (HK6.out.block j hj hb hc)⟩
                  have HS7 : Hid (Sr lo hi b sv cv (.slice (some ⟨fb, foff, none⟩) y.fs.length fap) y L (L.length - r5.length) false (used2 + (coN m : Int)) c6 w7) := HS6.out.keep fun j hj => hb7.block j (by have := HBw.out; omega)
                  have HO7 : Hid (w7.ownsRow (b + 1) 3 1 c6 (cs2 ++ fnM m).length ((cs2 ++ fnM m).map (Value.int .i64))) := by
                    obtain ⟨h1, h2 | ⟨g, cap, cur, e, hg, hh, hr⟩⟩ := HO6.out
                    · exact ⟨h1, .inl h2⟩
                    · refine ⟨h1, .inr ⟨g, cap, cur, e, hg, (hk7 g ?_ fun g' hg' e' => ?_).trans hh, hr⟩⟩
                      · rcases Nat.lt_or_ge g w6.heap.size with h' | h'
                        · exact h'
                        · rw [Array.getElem?_eq_none h'] at hh; cases hh
                      · exact HNE6.out g' hg' (by rw [e, e']; rfl)
                  have HR7 : Hid (Row w7 B 110 [.string (str [nmOf y i]), .slice (some ⟨b3, off3, none⟩) y.fs[i].args.length cap1, .int .i64 y.fs[i].res, .slice A2 y.fs[i].table.length cap2]) := HR6.out.below hb7 (by omega)
                  have Hat7 : Hid (Own2 c c6 w w7) := Hat6.out.grow (by omega)
                  have HP7 : Hid (w7.ownsRow (B + 1) 9 1 (.slice (some ⟨g7, 0, none⟩) (ms.length + 1) cap7) (ms ++ [m]).length (strVs ((ms ++ [m]).map (txM y)))) := by
                    have h := hpu.own
                    refine ownsRow_cast h (by simp) ?_
                    simp [strVs, txM]
                  have HNE7 : Hid (∀ g, (Value.slice (some ⟨g7, 0, none⟩) (ms.length + 1) cap7).ownBlock = some g → c6.ownBlock ≠ some g) := fun g hg => by
                    rcases hpu.at_ with e | ⟨g', e, hg', _⟩
                    · rw [e] at hg; exact HNE6.out g hg
                    · rw [e] at hg
                      injection hg with hg
                      subst hg
                      intro e2
                      have := (own_lt HO6.out _ e2).2
                      simp at hg'
                      omega
                  have e7 : (((ms.length + 1 : Nat)) : Int) = (ms.length : Int) + 1 := by omega
                  have q5 : Hid (used2 + (coN m : Int) = used + ((((ms ++ [m]).map coN).sum : Nat) : Int)) := by show _ = _; rw [hus.out]; simp; omega
                  have q6 : Hid (cs2 ++ fnM m = cs ++ (i : Int) :: ((ms ++ [m]).map fnM).flatten) := by show _ = _; rw [hcss.out]; simp
                  have q7 : Hid (∀ m' ∈ ms ++ [m], MkOk y m' ∧ (mkT m').length ≤ 400) := fun m' hm' => by
                    rcases List.mem_append.1 hm' with h | h
                    · exact hmsok.out m' h
                    · simp at h; subst h; exact ⟨HOK.out, by omega⟩
                  have q8 : Hid ((ms ++ [m]).length = k + 1) := by show _ = _; simp [hmk]
                  have q9 : Hid ((cs2 ++ fnM m).length ≤ L.length - r5.length) := by show _ ≤ _; simp; omega
                  have q10 : Hid (used2 + (coN m : Int) ≤ ((L.length - r5.length : Nat) : Int)) := by show _ ≤ _; omega
                  have q11 : Hid ((0 : Int) ≤ used2 + (coN m : Int)) := by show _ ≤ _; omega
                  clear hpu hpge hk7 hb7 HS6 HO6 HR6 HP6 HNE6 Hat6 HK6 hmk e7
                  go_wp2
                  go_roundw
                  case rel => exact ⟨k + 1, ms ++ [m], r5, used2 + (coN m : Int), c6, cs2 ++ fnM m, by omega, by go_num, q8.out, by omega, q11.out, q10.out, q9.out, hcB6, hrd2.out, Hsuf.out, q5.out, q6.out, q7.out, HS7.out, HO7.out, Hat7.out, HK7.out, HR7.out, by refine ownsRow_cast HP7.out rfl rfl, HNE7.out⟩
                  case measure => simp [intOf]; omega
                · have hkne : (kindM y m != y.fs[i].args[k]) = true := by simp [hkind]
                  have hno : Hid (rdApM (rdMk y f) y (L.drop q) = none) := by
                    show _ = _
                    rw [hco2.out, rdTo_none (k := k + 1) (by rw [hrd1.out, if_neg hkind]) _ (by omega)]
                    rfl
                  clear hrd1 hok htx hsuf
                  go_wp2
                  try rw [Exit.noGoto_ret]
                  refine bodyPost_ret (v := .tuple #[.string ⟨#[]⟩, .int .i64 (-1)]) (by simp [results, Tryz.results168, go_sem]) rfl ?_
                  exact ⟨.inr ⟨hno.out, _, _, _, c6, rfl, ⟨_, Nat.sub_le _ _, HS6.out.setBad true⟩, Hat6.out.grow (by simp [World.setCell])⟩, HK6.out.keep (Keep.set7 b 5 _ _)⟩
              · rw [hdr4.out] at hm
                have HK6 := Lib.hid (HKa.out.trans Hata.out hk6)
                have Hat6 := Lib.hid (Hata.out.trans HKa.out.size hat6 hk6.size)
                have hno : Hid (rdApM (rdMk y f) y (L.drop q) = none) := by
                  show _ = _
                  rw [hco2.out, rdTo_none (k := k + 1) (by rw [hrd.out]; unfold rdOf; rw [hm]; rfl) _ (by omega)]
                  rfl
                obtain ⟨q6, hq6, hs6⟩ := hb6
                obtain ⟨-, -, -, -, -, c5, -, -⟩ := hs6.cells
                have f5 := hs6.frozen 5
                have HS6 := Lib.hid hs6
                clear hk6 hat6 hs6 hm hrd
                go_wp2
                try rw [Exit.noGoto_ret]
                refine bodyPost_ret (v := .tuple #[.string ⟨#[]⟩, .int .i64 (-1)]) (by simp [results, Tryz.results168, go_sem]) rfl ?_
                exact ⟨.inr ⟨hno.out, _, _, _, c6, rfl, ⟨q6, hq6, HS6.out.setBad true⟩, Hat6.out.grow (by simp [World.setCell])⟩, HK6.out.keep (Keep.set7 b 5 _ _)⟩
        · obtain rfl : k = y.fs[i].args.length := by omega
          have hnm : Hid (tmT (erM y (mkA i ms)) = callL [nmOf y i] (ms.map (txM y))) := by
            show _ = _
            have hm2 : ms.length ≤ 2 := by have := hml.out; omega
            rw [erM_mkA y i ms hm2]
            have h := call_tmM (t := mkCall (nmOf y i) (ms.map (erM y))) (mkCall_is _ _)
            rw [headT_mk _ (by simpa using hm2), partsT_mk _ (by simpa using hm2), List.map_map] at h
            exact h.symm
          have HST : Hid (∀ u : World, Below wr.heap.size wr u → StrsAt u (.slice PA ms.length PC) (ms.map (txM y))) := fun u hu => by
            have h := HPr.out
            rw [show ms.length = (ms.map (txM y)).length by simp] at h ⊢
            exact (strsAt_own h).below hu
          have hbulk : Hid (bulkS (ms.map (txM y)) ≤ 1048576) := by
            show _ ≤ _
            have hm2 : ms.length ≤ 2 := by have := hml.out; omega
            have hall := hmsok.out
            unfold bulkS
            match ms, hm2, hall with
            | [], _, _ => simp
            | [m], _, hall =>
              have h1 := (hall m (by simp)).2
              have h2 := mkT_er y m
              simp [txM]
              omega
            | [m, p], _, hall =>
              have h1 := (hall m (by simp)).2
              have h2 := mkT_er y m
              have h3 := (hall p (by simp)).2
              have h4 := mkT_er y p
              simp [txM]
              omega
          clear hkl
          go_wp2_with fail
          cases htk : rdTake 41 r3 with
          | none =>
            have hno : Hid (rdApM (rdMk y f) y (L.drop q) = none) := by show _ = _; rw [hco2.out, hrd0.out]; simp [htk]
            refine (take7_no lo hi b _ _ _ y L (L.length - r3.length) used2 c2 41 41 rfl (by decide) wr HSr.out hL (Nat.sub_le _ _) (by rw [hdr3.out]; exact htk)).mono ?_
            clear htk hrd0
            rintro e w5 ⟨rfl, hb5, hk5⟩
            have HB5 := Lib.hid hb5
            have HK5 := Lib.hid (HKr.out.keep hk5)
            have Hat5 := Lib.hid (Hatr.out.grow hk5.size)
            have r5 := HRr.out.keep (hk5.block hBl (by have := HBw.out; omega))
            have HST5 : Hid (∀ n, StrsAt (w5.drewN n) (.slice PA ms.length PC) (ms.map (txM y))) := fun n => by
              have h := HPr.out
              have h2 := own_keep h hk5 (by have := HBw.out; omega)
              rw [show ms.length = (ms.map (txM y)).length by simp] at h2 ⊢
              exact (strsAt_own h2).below (below_drewN (Below.refl _ _) _)
            have m0 := r5.cell 0
            have m2 := r5.cell 2
            simp only [List.getElem?_cons_zero, List.getElem?_cons_succ] at m0 m2
            clear hb5 hk5 HSr HOr r5
            go_wp2_with fail
            go_quiet ((first | (go_at_call 115; exact quiet_eq ((l6Join_any [nmOf y i] _ _ _ (HST5.out _) (by simp) hbulk.out).mono fun _ _ h => ⟨h.1, h.2.symm⟩))))
            go_wp2
            try rw [Exit.noGoto_ret]
            refine bodyPost_ret (v := .tuple #[.string (str (callL [nmOf y i] (ms.map (txM y)))), .int .i64 y.fs[i].res]) (by simp [results, Tryz.results168, go_sem]) rfl ?_
            exact ⟨.inr ⟨hno.out, _, _, _, c2, rfl, by obtain ⟨q6, hq6, hs6⟩ := HB5.out; exact ⟨q6, hq6, hs6.keep fun _ _ => rfl⟩, Hat5.out⟩, HK5.out.under (below_drewN (Below.refl _ _) _)⟩
          | some r4 =>
            have hfin : Hid (rdApM (rdMk y f) y (L.drop q) = some (mkA i ms, r4)) := by show _ = _; rw [hco2.out, hrd0.out]; simp [htk]
            have hl4 := rdTake_len htk
            refine (take7_yes lo hi b _ _ _ y L (L.length - r3.length) used2 c2 41 41 rfl r4 wr HSr.out hL (by rw [hdr3.out]; exact htk)).mono ?_
            clear htk hrd0
            rintro e w5 ⟨rfl, hs5, hd5, hq5, hk5⟩
            have eqa : L.length - r3.length + 1 = L.length - r4.length := by omega
            rw [eqa] at hs5
            have HS5 := Lib.hid hs5
            have HO5 := Lib.hid (own_keep HOr.out hk5 (by omega))
            have HK5 := Lib.hid (HKr.out.keep hk5)
            have Hat5 := Lib.hid (Hatr.out.grow hk5.size)
            have r5 := HRr.out.keep (hk5.block hBl (by have := HBw.out; omega))
            have HST5 : Hid (∀ n, StrsAt (w5.drewN n) (.slice PA ms.length PC) (ms.map (txM y))) := fun n => by
              have h := HPr.out
              have h2 := own_keep h hk5 (by have := HBw.out; omega)
              rw [show ms.length = (ms.map (txM y)).length by simp] at h2 ⊢
              exact (strsAt_own h2).below (below_drewN (Below.refl _ _) _)
            have m0 := r5.cell 0
            have m2 := r5.cell 2
            simp only [List.getElem?_cons_zero, List.getElem?_cons_succ] at m0 m2
            have hm2 : ms.length ≤ 2 := by have := hml.out; omega
            have hall : Hid (MkOk y (mkA i ms) ∧ L.drop q = mkT (mkA i ms) ++ r4) := by
              have h := hfin.out
              rw [← rdMk_ap y f (by rw [hd64.out]; rfl) (by rw [hd64.out]; rfl)] at h
              exact rdMk_eq y hy (f + 1) h
            have hk1 : Hid (kindM y (mkA i ms) = y.fs[i].res) := by show _ = _; rw [kindM_mkA, getD_get hif]
            have hc1 : Hid (used2 = used + (coN (mkA i ms) : Int)) := by show _ = _; rw [hus.out, coN_mkA i ms hm2]
            have hf1 : Hid (cs2 = cs ++ fnM (mkA i ms)) := by show _ = _; rw [hcss.out, fnM_mkA i ms hm2]
            clear hs5 hk5 HSr HOr r5 hm2
            go_wp2_with fail
            go_quiet ((first | (go_at_call 115; exact quiet_eq ((l6Join_any [nmOf y i] _ _ _ (HST5.out _) (by simp) hbulk.out).mono fun _ _ h => ⟨h.1, h.2.symm⟩))))
            go_wp2
            try rw [Exit.noGoto_ret]
            refine bodyPost_ret (v := .tuple #[.string (str (callL [nmOf y i] (ms.map (txM y)))), .int .i64 y.fs[i].res]) (by simp [results, Tryz.results168, go_sem]) rfl ?_
            refine ⟨.inl ⟨mkA i ms, r4, c2, hfin.out, hall.out.1, hall.out.2, by rw [hnm.out, hk1.out], ?_, ?_, Hat5.out⟩, HK5.out.under (below_drewN (Below.refl _ _) _)⟩
            · rw [← hc1.out]; exact HS5.out.keep fun _ _ => rfl
            · rw [← hf1.out]; exact ownsRow_below HO5.out (below_drewN (Below.refl _ _) _) (Nat.le_refl _)
end Go.Proofs.YtdemcoghgnnheaaGreatDoor

