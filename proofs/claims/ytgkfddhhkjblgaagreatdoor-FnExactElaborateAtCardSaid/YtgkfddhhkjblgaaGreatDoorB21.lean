/-
  The contracts of the program's reader of explicit terms: madeOf, coerced.
  The contracts of the program's reader of explicit terms: applied, made.
  The contract of the program's reader of explicit terms: made.
  The model's reader of explicit terms in memory: its state; the contracts of next, digit, take.
-/
import Derived.Test.YtgkfddhhkjblgaaGreatDoorB20
import Derived.Test.YtgkfddhhkjblgaaGreatDoorB8
import Derived.Test.YtgkfddhhkjblgaaGreatDoorB13
import Derived.Test.YtgkfddhhkjblgaaGreatDoorB16
import Derived.BigQuiet
namespace Go.Proofs.YtgkfddhhkjblgaaGreatDoor
open Go.RowKit

/-- What holds behind the call, and behind the store, of a region that calls and then stores. -/
def WCo (wd : World) (C : Value → World → Prop) (A : Addr) (v : Value) : Nat → World → Prop
  | 0, u => u = wd
  | 1, u => C v u
  | _ + 2, u => ∃ u0, C v u0 ∧ u = u0.setCell A v
end Go.Proofs.YtgkfddhhkjblgaaGreatDoor

namespace Go.Proofs.YtgkfddhhkjblgaaGreatDoor
open Go.RowKit

/-- A node that was made in an earlier world; its rows are not the row of ps. -/
def MIn (w : World) (B : Nat) (ps : Value) (m : Mk) (v : Value) : Prop :=
  ∃ wa Bm, B ≤ Bm ∧ MNodeAt wa Bm m v ∧ wa.heap.size ≤ w.heap.size ∧ ∀ j, Bm ≤ j → j < wa.heap.size → w.heap[j]? = wa.heap[j]? ∧ ps.ownBlock ≠ some j
def MIns (w : World) (B : Nat) (ps : Value) : List Mk → List Value → Prop
  | [], [] => True
  | m :: ms, v :: vs => MIn w B ps m v ∧ MIns w B ps ms vs
  | _, _ => False
theorem MIn.node {w : World} {B : Nat} {ps : Value} {m : Mk} {v : Value} (h : MIn w B ps m v) : MNodeAt w B m v := by
  obtain ⟨wa, Bm, hB, hn, _, hs⟩ := h
  exact (hn.same fun g hg hw => (hs g hg hw).1).base hB
theorem MIn.keep {w w' : World} {B : Nat} {ps ps' : Value} {m : Mk} {v : Value} (h : MIn w B ps m v) (hsz : w.heap.size ≤ w'.heap.size) (hk : ∀ j, B ≤ j → j < w.heap.size → ps.ownBlock ≠ some j → w'.heap[j]? = w.heap[j]?) (hp : ps'.ownBlock = ps.ownBlock ∨ ∃ g, ps'.ownBlock = some g ∧ w.heap.size ≤ g) : MIn w' B ps' m v := by
  obtain ⟨wa, Bm, hB, hn, hw, hs⟩ := h
  refine ⟨wa, Bm, hB, hn, by omega, fun j hj hj2 => ?_⟩
  obtain ⟨h1, h2⟩ := hs j hj hj2
  refine ⟨(hk j (by omega) (by omega) h2).trans h1, ?_⟩
  rcases hp with e | ⟨g, e, hg⟩
  · rw [e]; exact h2
  · rw [e]; intro e2; injection e2 with e2; omega
theorem MIns.keep {w w' : World} {B : Nat} {ps ps' : Value} (hsz : w.heap.size ≤ w'.heap.size) (hk : ∀ j, B ≤ j → j < w.heap.size → ps.ownBlock ≠ some j → w'.heap[j]? = w.heap[j]?) (hp : ps'.ownBlock = ps.ownBlock ∨ ∃ g, ps'.ownBlock = some g ∧ w.heap.size ≤ g) : ∀ {ms : List Mk} {vs : List Value}, MIns w B ps ms vs → MIns w' B ps' ms vs
  | [], [], _ => trivial
  | _ :: _, _ :: _, ⟨h, g⟩ => ⟨h.keep hsz hk hp, g.keep hsz hk hp⟩
theorem MIns.snoc {w : World} {B : Nat} {ps : Value} {m : Mk} {v : Value} (ht : MIn w B ps m v) : ∀ {ms : List Mk} {vs : List Value}, MIns w B ps ms vs → MIns w B ps (ms ++ [m]) (vs ++ [v])
  | [], [], _ => ⟨ht, trivial⟩
  | _ :: _, _ :: _, ⟨h, g⟩ => ⟨h, g.snoc ht⟩
theorem MIns.nodes {w : World} {B : Nat} {ps : Value} : ∀ {ms : List Mk} {vs : List Value}, MIns w B ps ms vs → MNodesAt w B ms vs
  | [], [], _ => trivial
  | _ :: _, _ :: _, ⟨h, g⟩ => ⟨h.node, g.nodes⟩

/-- What holds behind each operation of the region that reads an argument and appends it. -/
def WAp (wd : World) (C : Value → World → Prop) (base : Nat) (e : TypeId) (ps : Value) (n : Nat) (vs : List Value) (A : Addr) (x41 x42 x43 : Value) : Nat → World → Prop
  | 0, u => u = wd
  | 1, u => C x41 u
  | 2, u => ∃ u1, C x41 u1 ∧ u = u1.alloc (.cells #[x41] e) ∧ x42 = .slice (some ⟨u1.heap.size, 0, none⟩) 1 1
  | 3, u => ∃ u1, C x41 u1 ∧ Pushed (u1.alloc (.cells #[x41] e)) u base e ps x43 n vs x41
  | _ + 4, u => ∃ u3 u1, C x41 u1 ∧ Pushed (u1.alloc (.cells #[x41] e)) u3 base e ps x43 n vs x41 ∧ u = u3.setCell A x43

theorem own_lt9 {w : World} {N : Nat} {t : TypeId} {v : Value} {n : Nat} {xs : List Value} (h : w.ownsRow N t 1 v n xs) : ∀ g, v.ownBlock = some g → N ≤ g ∧ g < w.heap.size := by
  obtain ⟨_, ⟨e, _⟩ | ⟨g, cap3, cur, e, hg, hh, _⟩⟩ := h
  · intro g' hg'
    rw [e] at hg'
    cases hg'
  · intro g' hg'
    rw [e] at hg'
    simp [Value.ownBlock] at hg'
    subst hg'
    refine ⟨hg, ?_⟩
    rcases Nat.lt_or_ge g w.heap.size with h' | h'
    · exact h'
    · rw [Array.getElem?_eq_none h'] at hh; cases hh
theorem own_slice9 {w : World} {N : Nat} {t : TypeId} {v : Value} {n : Nat} {xs : List Value} (h : w.ownsRow N t 1 v n xs) : ∃ A c, v = .slice A n c := by
  obtain ⟨_, ⟨rfl, rfl⟩ | ⟨g, cap3, cur, rfl, _⟩⟩ := h
  · exact ⟨_, _, rfl⟩
  · exact ⟨_, _, rfl⟩

end Go.Proofs.YtgkfddhhkjblgaaGreatDoor

namespace Go.Proofs.YtgkfddhhkjblgaaGreatDoor
open Go.RowKit

end Go.Proofs.YtgkfddhhkjblgaaGreatDoor

namespace Go.Proofs.YtgkfddhhkjblgaaGreatDoor
open Go.RowKit

/-- The model's reader stands in block b, over a system that lies below it. -/
structure Sr (lo hi b : Nat) (sv cv fv : Value) (y : Sy) (L : List UInt8) (q : Nat) (bad : Bool) (used : Int) (cal : Value) (w : World) : Prop where
  row : Row w b 157 [sv, cv, fv, .string (str L), .int .i64 q, .bool bad, .int .i64 used, cal]
  sy : SyAt w lo hi sv cv fv y
  hib : hi ≤ b
section
variable {lo hi b : Nat} {sv cv fv : Value} {y : Sy} {L : List UInt8} {q : Nat} {bad : Bool} {used : Int} {cal : Value} {w : World}
theorem Sr.lt (h : Sr lo hi b sv cv fv y L q bad used cal w) : b < w.heap.size := h.row.lt
theorem Sr.setAt (h : Sr lo hi b sv cv fv y L q bad used cal w) (q' : Nat) : Sr lo hi b sv cv fv y L q' bad used cal (w.setCell ⟨b, 4, none⟩ (.int .i64 q')) :=
  ⟨h.row.set_ 4 _, h.sy.keep fun k _ hk => Below.heap_setCell _ _ _ _ (by have := h.hib; dsimp only; omega), h.hib⟩
theorem Sr.setBad (h : Sr lo hi b sv cv fv y L q bad used cal w) (v : Bool) : Sr lo hi b sv cv fv y L q v used cal (w.setCell ⟨b, 5, none⟩ (.bool v)) :=
  ⟨h.row.set_ 5 _, h.sy.keep fun k _ hk => Below.heap_setCell _ _ _ _ (by have := h.hib; dsimp only; omega), h.hib⟩
theorem Sr.setUsed (h : Sr lo hi b sv cv fv y L q bad used cal w) (v : Int) : Sr lo hi b sv cv fv y L q bad v cal (w.setCell ⟨b, 6, none⟩ (.int .i64 v)) :=
  ⟨h.row.set_ 6 _, h.sy.keep fun k _ hk => Below.heap_setCell _ _ _ _ (by have := h.hib; dsimp only; omega), h.hib⟩
theorem Sr.setCal (h : Sr lo hi b sv cv fv y L q bad used cal w) (v : Value) : Sr lo hi b sv cv fv y L q bad used v (w.setCell ⟨b, 7, none⟩ v) :=
  ⟨h.row.set_ 7 _, h.sy.keep fun k _ hk => Below.heap_setCell _ _ _ _ (by have := h.hib; dsimp only; omega), h.hib⟩
theorem Sr.keep {w' : World} (h : Sr lo hi b sv cv fv y L q bad used cal w) (hk : ∀ k, k ≤ b → w'.heap[k]? = w.heap[k]?) : Sr lo hi b sv cv fv y L q bad used cal w' :=
  ⟨h.row.keep (hk b (Nat.le_refl _)), h.sy.keep fun k _ hk' => hk k (by have := h.hib; omega), h.hib⟩
theorem Sr.same {w' : World} (h : Sr lo hi b sv cv fv y L q bad used cal w) (e : w'.heap = w.heap) : Sr lo hi b sv cv fv y L q bad used cal w' := h.keep fun k _ => by rw [e]
theorem Sr.drew (h : Sr lo hi b sv cv fv y L q bad used cal w) : Sr lo hi b sv cv fv y L q bad used cal w.drew := ⟨h.row, h.sy, h.hib⟩
theorem Sr.cells (h : Sr lo hi b sv cv fv y L q bad used cal w) : w.cell? ⟨b, 0, none⟩ = some sv ∧ w.cell? ⟨b, 1, none⟩ = some cv ∧ w.cell? ⟨b, 2, none⟩ = some fv ∧ w.cell? ⟨b, 3, none⟩ = some (.string (str L)) ∧ w.cell? ⟨b, 4, none⟩ = some (.int .i64 q) ∧ w.cell? ⟨b, 5, none⟩ = some (.bool bad) ∧ w.cell? ⟨b, 6, none⟩ = some (.int .i64 used) ∧ w.cell? ⟨b, 7, none⟩ = some cal :=
  ⟨h.row.cell 0, h.row.cell 1, h.row.cell 2, h.row.cell 3, h.row.cell 4, h.row.cell 5, h.row.cell 6, h.row.cell 7⟩
theorem Sr.frozen (h : Sr lo hi b sv cv fv y L q bad used cal w) (i : Nat) : w.frozen? ⟨b, i, none⟩ = false := h.row.frozen i
end
theorem Keep.set7 (b i : Nat) (w : World) (v : Value) : Keep b w (w.setCell ⟨b, i, none⟩ v) :=
  ⟨⟨rfl, rfl, rfl, by simp [World.setCell], fun j _ hb => Below.heap_setCell _ _ _ _ fun e => hb (by rw [e])⟩⟩
theorem drop_cons_of {L : List UInt8} {q : Nat} {c : UInt8} {r : List UInt8} (h : L.drop q = c :: r) : q < L.length ∧ L.drop (q + 1) = r ∧ ∀ hq, (str L)[q]'hq = c := by
  have hl : (L.drop q).length = r.length + 1 := by rw [h]; rfl
  rw [List.length_drop] at hl
  have hq : q < L.length := by omega
  rw [List.drop_eq_getElem_cons hq] at h
  injection h with h1 h2
  refine ⟨hq, h2, fun hq' => ?_⟩
  rw [← h1]
  rfl
theorem drop_nil_of {L : List UInt8} {q : Nat} (h : L.drop q = []) : L.length ≤ q := by
  have hl : (L.drop q).length = 0 := by rw [h]; rfl
  rw [List.length_drop] at hl
  omega

theorem Keep.drewN {b : Nat} {w w' : World} (n : Nat) (h : Keep b (w.drewN n) w') : Keep b w w' := ⟨⟨h.grown.os, h.grown.tape, h.grown.output, h.grown.size, h.grown.block⟩⟩

set_option maxRecDepth 100000 in
set_option maxHeartbeats 1000000 in
theorem next_yes (lo hi b : Nat) (sv cv fv : Value) (y : Sy) (L : List UInt8) (q : Nat) (bad : Bool) (used : Int) (cal : Value) (c : UInt8) (r : List UInt8) (w : World) (h : Sr lo hi b sv cv fv y L q bad used cal w) (hL : L.length ≤ 400) (hd : L.drop q = c :: r) :
    Calls Tryz.prog 144 #[.pointer (some ⟨b, 0, none⟩)] w fun e w' => e = .returned (.int .u8 (c.toNat : Int)) ∧ Sr lo hi b sv cv fv y L (q + 1) bad used cal w' ∧ Keep b w w' := by
  obtain ⟨hq, -, hc⟩ := drop_cons_of hd
  obtain ⟨-, -, -, c3, c4, -, -, -⟩ := h.cells
  have hsz := str_size L
  have f4 := h.frozen 4
  have HS := Lib.hid h
  have n1 : ¬ L.length ≤ q := by omega
  have hcq : ∀ h, (str L)[q]'h = c := fun h' => hc h'
  clear h hd hc
  go_enter Tryz.func144, Tryz.ntmps144
  go_wp2_with fail
  go_quiet (fail)
  have c4' : (w.drewN nq).cell? ⟨b, 4, none⟩ = some (.int .i64 q) := c4
  have f4' : (w.drewN nq).frozen? ⟨b, 4, none⟩ = false := f4
  go_wp2_with fail
  have e1 : ((q : Int) + 1) = ((q + 1 : Nat) : Int) := by omega
  obtain ⟨u1, hu1⟩ : ∃ u, u = (w.drewN nq).setCell ⟨b, 4, none⟩ (.int .i64 ((q : Int) + 1)) := ⟨_, rfl⟩
  rw [← hu1]
  have HS1 : Hid (Sr lo hi b sv cv fv y L (q + 1) bad used cal u1) := by
    show Sr _ _ _ _ _ _ _ _ _ _ _ _ _
    rw [hu1, e1]
    exact (HS.out.same (w' := w.drewN nq) rfl).setAt (q + 1)
  have HK1 : Hid (Keep b w u1) := by
    show Keep _ _ _
    rw [hu1]
    exact Keep.drewN nq (Keep.set7 b 4 _ _)
  obtain ⟨-, -, -, c3', c4'', -, -, -⟩ := HS1.out.cells
  rw [← e1] at c4''
  clear hu1 c3 c4 c4' f4 f4' e1 n1
  go_quiet (fail)
  go_wp2
  go_ret
  exact ⟨rfl, HS1.out.keep fun _ _ => rfl, HK1.out.of_below (below_drewN (Below.refl _ _) _)⟩

set_option maxRecDepth 100000 in
set_option maxHeartbeats 1000000 in
theorem next_no (lo hi b : Nat) (sv cv fv : Value) (y : Sy) (L : List UInt8) (q : Nat) (bad : Bool) (used : Int) (cal : Value) (w : World) (h : Sr lo hi b sv cv fv y L q bad used cal w) (hd : L.length ≤ q) :
    Calls Tryz.prog 144 #[.pointer (some ⟨b, 0, none⟩)] w fun e w' => e = .returned (.int .u8 0) ∧ Sr lo hi b sv cv fv y L q true used cal w' ∧ Keep b w w' := by
  obtain ⟨-, -, -, c3, c4, c5, -, -⟩ := h.cells
  have hsz := str_size L
  have f5 := h.frozen 5
  have HS := Lib.hid h
  clear h
  go_enter Tryz.func144, Tryz.ntmps144
  go_wp2_with fail
  go_quiet (fail)
  have c5' : (w.drewN nq).cell? ⟨b, 5, none⟩ = some (.bool bad) := c5
  have f5' : (w.drewN nq).frozen? ⟨b, 5, none⟩ = false := f5
  go_wp2
  go_ret
  exact ⟨rfl, (HS.out.same (w' := w.drewN nq) rfl).setBad true, Keep.drewN nq (Keep.set7 b 5 _ _)⟩

theorem rdIx_yes {n : Nat} {c : UInt8} {r r' : List UInt8} {i : Nat} (h : rdIx n (c :: r) = some (i, r')) : r' = r ∧ (c.toNat : Int) = 48 + i ∧ i < n := by
  obtain ⟨h1, h2, h3⟩ := rdIx_eq h
  have e : c :: r = UInt8.ofNat (48 + ((i : Nat) : Int).toNat) :: r' := h3
  injection e with e1 e2
  refine ⟨e2.symm, ?_, h1⟩
  rw [e1, UInt8.toNat_ofNat']
  omega
theorem rdIx_no {n : Nat} (hn : n ≤ 8) {c : UInt8} {r : List UInt8} (h : rdIx n (c :: r) = none) : ¬ (0 ≤ (c.toNat : Int) - 48 ∧ (c.toNat : Int) - 48 ≤ (n : Int) - 1) := by
  intro hc
  have hd : isD c = true := by unfold isD; simp; omega
  have e : rdDigit (c :: r) = some (valD c, r) := by rw [rdDigit, if_pos hd]
  unfold rdIx at h
  rw [e] at h
  simp only [Option.bind_some] at h
  split at h
  · cases h
  · rename_i hv
    unfold valD at hv
    omega

set_option maxRecDepth 100000 in
set_option maxHeartbeats 1000000 in
theorem digit7_yes (lo hi b : Nat) (sv cv fv : Value) (y : Sy) (L : List UInt8) (q : Nat) (used : Int) (cal : Value) (n i : Nat) (r : List UInt8) (w : World) (h : Sr lo hi b sv cv fv y L q false used cal w) (hL : L.length ≤ 400) (hn : n ≤ 8) (hd : rdIx n (L.drop q) = some (i, r)) :
    Calls Tryz.prog 145 #[.pointer (some ⟨b, 0, none⟩), .int .i64 n] w fun e w' => e = .returned (.int .i64 i) ∧ Sr lo hi b sv cv fv y L (q + 1) false used cal w' ∧ L.drop (q + 1) = r ∧ Keep b w w' := by
  obtain ⟨c, r0, hcr⟩ : ∃ c r0, L.drop q = c :: r0 := by
    cases hq : L.drop q with
    | nil => rw [hq] at hd; cases hd
    | cons c r0 => exact ⟨c, r0, rfl⟩
  rw [hcr] at hd
  obtain ⟨rfl, hc, hin⟩ := rdIx_yes hd
  have hdr := Lib.hid (drop_cons_of hcr).2.1
  have HN := Lib.hid (next_yes lo hi b sv cv fv y L q false used cal c r w h hL hcr)
  have hlt := h.lt
  have HC := Lib.hid hc
  have hcb : (c.toNat : Int) ≤ 255 := by have := UInt8.toNat_lt c; omega
  have Hin : Hid (inB ((c.toNat : Int) - 48) 0 ((n : Int) - 1) = true) := inB_yes (by omega) (by omega)
  clear h hd hcr hc
  go_enter Tryz.func145, Tryz.ntmps145
  go_wp2_with fail
  refine HN.out.mono ?_
  rintro e w1 ⟨rfl, hs1, hk1⟩
  obtain ⟨-, -, -, -, -, c5, -, -⟩ := hs1.cells
  have HS1 := Lib.hid hs1
  have HK1 := Lib.hid hk1
  clear hs1 hk1 HN
  go_wp2_with fail
  refine (l1In_any _ _ _ w1).mono ?_
  rintro e w2 ⟨rfl, rfl⟩
  rw [Hin.out]
  go_wp2
  go_ret
  exact ⟨ret_int (by have := HC.out; omega), HS1.out, hdr.out, HK1.out⟩
set_option maxRecDepth 100000 in
set_option maxHeartbeats 1000000 in
theorem digit7_no (lo hi b : Nat) (sv cv fv : Value) (y : Sy) (L : List UInt8) (q : Nat) (used : Int) (cal : Value) (n : Nat) (w : World) (h : Sr lo hi b sv cv fv y L q false used cal w) (hL : L.length ≤ 400) (hq : q ≤ L.length) (hn : n ≤ 8) (hd : rdIx n (L.drop q) = none) :
    Calls Tryz.prog 145 #[.pointer (some ⟨b, 0, none⟩), .int .i64 n] w fun e w' => e = .returned (.int .i64 0) ∧ (∃ q', q' ≤ L.length ∧ Sr lo hi b sv cv fv y L q' true used cal w') ∧ Keep b w w' := by
  cases hcr : L.drop q with
  | nil =>
    have HN := Lib.hid (next_no lo hi b sv cv fv y L q false used cal w h (drop_nil_of hcr))
    have Hin : Hid (inB (-48) 0 ((n : Int) - 1) = false) := inB_low (by omega)
    clear h hd hcr
    go_enter Tryz.func145, Tryz.ntmps145
    go_wp2_with fail
    refine HN.out.mono ?_
    rintro e w1 ⟨rfl, hs1, hk1⟩
    obtain ⟨-, -, -, -, -, c5, -, -⟩ := hs1.cells
    have f5 := hs1.frozen 5
    have HS1 := Lib.hid hs1
    have HK1 := Lib.hid hk1
    clear hs1 hk1 HN
    go_wp2_with fail
    refine (l1In_any _ _ _ w1).mono ?_
    rintro e w2 ⟨rfl, rfl⟩
    rw [Hin.out]
    go_wp2
    go_ret
    exact ⟨rfl, ⟨q, hq, HS1.out.setBad true⟩, HK1.out.trans (Keep.set7 b 5 _ _)⟩
  | cons c r =>
    rw [hcr] at hd
    have HN := Lib.hid (next_yes lo hi b sv cv fv y L q false used cal c r w h hL hcr)
    have hql := (drop_cons_of hcr).1
    have hno := rdIx_no hn hd
    have hcb : (c.toNat : Int) ≤ 255 := by have := UInt8.toNat_lt c; omega
    have Hin : Hid (inB ((c.toNat : Int) - 48) 0 ((n : Int) - 1) = false) := by
      show _ = _
      by_cases h0 : 0 ≤ (c.toNat : Int) - 48
      · exact inB_high fun h1 => hno ⟨h0, h1⟩
      · exact inB_low h0
    clear h hd hcr hno
    go_enter Tryz.func145, Tryz.ntmps145
    go_wp2_with fail
    refine HN.out.mono ?_
    rintro e w1 ⟨rfl, hs1, hk1⟩
    obtain ⟨-, -, -, -, -, c5, -, -⟩ := hs1.cells
    have f5 := hs1.frozen 5
    have HS1 := Lib.hid hs1
    have HK1 := Lib.hid hk1
    clear hs1 hk1 HN
    go_wp2_with fail
    refine (l1In_any _ _ _ w1).mono ?_
    rintro e w2 ⟨rfl, rfl⟩
    rw [Hin.out]
    go_wp2
    go_ret
    exact ⟨rfl, ⟨q + 1, hql, HS1.out.setBad true⟩, HK1.out.trans (Keep.set7 b 5 _ _)⟩

set_option maxRecDepth 100000 in
set_option maxHeartbeats 1000000 in
theorem take7_yes (lo hi b : Nat) (sv cv fv : Value) (y : Sy) (L : List UInt8) (q : Nat) (used : Int) (cal : Value) (s : UInt8) (z : Int) (hz : z = (s.toNat : Int)) (r : List UInt8) (w : World) (h : Sr lo hi b sv cv fv y L q false used cal w) (hL : L.length ≤ 400) (hd : rdTake s (L.drop q) = some r) :
    Calls Tryz.prog 146 #[.pointer (some ⟨b, 0, none⟩), .int .u8 z] w fun e w' => e = .returned (.tuple #[]) ∧ Sr lo hi b sv cv fv y L (q + 1) false used cal w' ∧ L.drop (q + 1) = r ∧ q + 1 ≤ L.length ∧ Keep b w w' := by
  have hcr := rdTake_eq hd
  have hdr := Lib.hid (drop_cons_of hcr).2.1
  have hql := (drop_cons_of hcr).1
  subst hz
  have HN := Lib.hid (next_yes lo hi b sv cv fv y L q false used cal s r w h hL hcr)
  have hlt := h.lt
  clear h hd hcr
  go_enter Tryz.func146, Tryz.ntmps146
  go_wp2_with fail
  refine HN.out.mono ?_
  rintro e w1 ⟨rfl, hs1, hk1⟩
  obtain ⟨-, -, -, -, -, c5, -, -⟩ := hs1.cells
  have f5 := hs1.frozen 5
  have HS1 := Lib.hid hs1
  have HK1 := Lib.hid hk1
  clear hs1 hk1 HN
  go_wp2
  go_end0
  exact ⟨rfl, HS1.out.setBad false, hdr.out, hql, HK1.out.trans (Keep.set7 b 5 _ _)⟩
/-- Where what is to be read is not there, or something was wrong before. -/
def BadAt (lo hi b : Nat) (sv cv fv : Value) (y : Sy) (L : List UInt8) (used : Int) (cal : Value) (w : World) : Prop := ∃ q', q' ≤ L.length ∧ Sr lo hi b sv cv fv y L q' true used cal w
set_option maxRecDepth 100000 in
set_option maxHeartbeats 1000000 in
theorem take7_no (lo hi b : Nat) (sv cv fv : Value) (y : Sy) (L : List UInt8) (q : Nat) (used : Int) (cal : Value) (s : UInt8) (z : Int) (hz : z = (s.toNat : Int)) (hs0 : s ≠ 0) (w : World) (h : Sr lo hi b sv cv fv y L q false used cal w) (hL : L.length ≤ 400) (hq : q ≤ L.length) (hd : rdTake s (L.drop q) = none) :
    Calls Tryz.prog 146 #[.pointer (some ⟨b, 0, none⟩), .int .u8 z] w fun e w' => e = .returned (.tuple #[]) ∧ BadAt lo hi b sv cv fv y L used cal w' ∧ Keep b w w' := by
  subst hz
  cases hcr : L.drop q with
  | nil =>
    have HN := Lib.hid (next_no lo hi b sv cv fv y L q false used cal w h (drop_nil_of hcr))
    have hne : ((0 : Int) != (s.toNat : Int)) = true := by
      have : s.toNat ≠ 0 := fun e => hs0 (UInt8.toNat_inj.1 e)
      simp
      omega
    clear h hd hcr
    go_enter Tryz.func146, Tryz.ntmps146
    go_wp2_with fail
    refine HN.out.mono ?_
    rintro e w1 ⟨rfl, hs1, hk1⟩
    obtain ⟨-, -, -, -, -, c5, -, -⟩ := hs1.cells
    have f5 := hs1.frozen 5
    have HS1 := Lib.hid hs1
    have HK1 := Lib.hid hk1
    clear hs1 hk1 HN
    go_wp2
    go_end0
    exact ⟨rfl, ⟨q, hq, HS1.out.setBad true⟩, HK1.out.trans (Keep.set7 b 5 _ _)⟩
  | cons c r =>
    rw [hcr] at hd
    have HN := Lib.hid (next_yes lo hi b sv cv fv y L q false used cal c r w h hL hcr)
    have hql := (drop_cons_of hcr).1
    have hne : ((c.toNat : Int) != (s.toNat : Int)) = true := by
      have : c ≠ s := fun e => by rw [rdTake, if_pos e] at hd; cases hd
      have h2 : ¬ c.toNat = s.toNat := fun e => this (UInt8.toNat_inj.1 e)
      simp
      omega
    clear h hd hcr
    go_enter Tryz.func146, Tryz.ntmps146
    go_wp2_with fail
    refine HN.out.mono ?_
    rintro e w1 ⟨rfl, hs1, hk1⟩
    obtain ⟨-, -, -, -, -, c5, -, -⟩ := hs1.cells
    have f5 := hs1.frozen 5
    have HS1 := Lib.hid hs1
    have HK1 := Lib.hid hk1
    clear hs1 hk1 HN
    go_wp2
    go_end0
    exact ⟨rfl, ⟨q + 1, hql, HS1.out.setBad true⟩, HK1.out.trans (Keep.set7 b 5 _ _)⟩
set_option maxRecDepth 100000 in
set_option maxHeartbeats 1000000 in
theorem take7_bad (lo hi b : Nat) (sv cv fv : Value) (y : Sy) (L : List UInt8) (used : Int) (cal : Value) (z : Int) (w : World) (h : BadAt lo hi b sv cv fv y L used cal w) (hL : L.length ≤ 400) :
    Calls Tryz.prog 146 #[.pointer (some ⟨b, 0, none⟩), .int .u8 z] w fun e w' => e = .returned (.tuple #[]) ∧ BadAt lo hi b sv cv fv y L used cal w' ∧ Keep b w w' := by
  obtain ⟨q, hq, h⟩ := h
  have HN : Hid (Calls Tryz.prog 144 #[.pointer (some ⟨b, 0, none⟩)] w fun e w' => (∃ x : Int, e = .returned (.int .u8 x)) ∧ BadAt lo hi b sv cv fv y L used cal w' ∧ Keep b w w') := by
    show Calls _ _ _ _ _
    cases hcr : L.drop q with
    | nil => exact (next_no lo hi b sv cv fv y L q true used cal w h (drop_nil_of hcr)).mono fun e w' ⟨he, hs, hk⟩ => ⟨⟨_, he⟩, ⟨q, hq, hs⟩, hk⟩
    | cons c r => exact (next_yes lo hi b sv cv fv y L q true used cal c r w h hL hcr).mono fun e w' ⟨he, hs, hk⟩ => ⟨⟨_, he⟩, ⟨q + 1, (drop_cons_of hcr).1, hs⟩, hk⟩
  clear h
  go_enter Tryz.func146, Tryz.ntmps146
  go_wp2_with fail
  refine HN.out.mono ?_
  rintro e w1 ⟨⟨x, rfl⟩, ⟨q1, hq1, hs1⟩, hk1⟩
  obtain ⟨-, -, -, -, -, c5, -, -⟩ := hs1.cells
  have f5 := hs1.frozen 5
  have HS1 := Lib.hid hs1
  have HK1 := Lib.hid hk1
  clear hs1 hk1 HN
  by_cases hx : x = z
  · subst hx
    go_wp2
    go_end0
    exact ⟨rfl, ⟨q1, hq1, HS1.out.setBad true⟩, HK1.out.trans (Keep.set7 b 5 _ _)⟩
  · have hne : (x != z) = true := by simp [hx]
    go_wp2
    go_end0
    exact ⟨rfl, ⟨q1, hq1, HS1.out.setBad true⟩, HK1.out.trans (Keep.set7 b 5 _ _)⟩
end Go.Proofs.YtgkfddhhkjblgaaGreatDoor

