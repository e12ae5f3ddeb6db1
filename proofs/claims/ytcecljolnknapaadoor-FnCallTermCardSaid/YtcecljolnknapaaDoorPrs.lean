/-
  The contract of the program's reader: digits.
-/
import Derived.Test.YtcecljolnknapaaDoorPrw
import Derived.Test.YtcecljolnknapaaDoorFrom
namespace Go.Proofs.YtcecljolnknapaaDoor
open Go.RowKit

/-- How much is left to read. -/
def restLen (b : Nat) (w : World) : Nat := match w.cell? ⟨b, 0, none⟩ with
  | some (.string s) => s.size
  | _ => 0
theorem Txr.restLen {b : Nat} {l : List UInt8} {w : World} (h : Txr b l w) : restLen b w = l.length := by
  unfold Go.Proofs.YtcecljolnknapaaDoor.restLen
  rw [h.cell]
  exact str_size l
theorem hasB_cons {s : UInt8} {l : List UInt8} (h : hasB s l = true) : ∃ r, l = s :: r ∧ rdTake s l = some r := by
  cases l with
  | nil => cases h
  | cons c r =>
    have hc : c = s := by simpa [hasB] using h
    subst hc
    exact ⟨r, rfl, by simp [rdTake]⟩
theorem rdDigit_cons {l r : List UInt8} {z : Int} (h : rdDigit l = some (z, r)) : ∃ c, l = c :: r ∧ isD c = true ∧ z = valD c := by
  cases l with
  | nil => cases h
  | cons c t =>
    cases hc : isD c with
    | false => simp [rdDigit, hc] at h
    | true =>
      simp [rdDigit, hc] at h
      exact ⟨c, by rw [h.2], hc, h.1.symm⟩
theorem Txr.keep_own {b : Nat} {l : List UInt8} {w w' : World} {row : Option Nat} (h : Txr b l w) (hg : w.grownBy w' row) (hr : ∀ g, row = some g → g ≠ b) : Txr b l w' :=
  (hg.block b h.lt fun e => hr b e.symm rfl).trans h
theorem Keep.own {b : Nat} {w w' w'' : World} {row : Option Nat} (h : Keep b w w') (hg : w'.grownBy w'' row) (hr : ∀ g, row = some g → w.heap.size ≤ g) : Keep b w w'' :=
  ⟨⟨hg.os.trans h.grown.os, hg.tape.trans h.grown.tape, hg.output.trans h.grown.output, Nat.le_trans h.size hg.size, fun j hj hb => (hg.block j (Nat.lt_of_lt_of_le hj h.size) fun e => by have := hr j e.symm; omega).trans (h.grown.block j hj hb)⟩⟩
theorem own_ge {w : World} {N : Nat} {t : TypeId} {v : Value} {n : Nat} {xs : List Value} (h : w.ownsRow N t 1 v n xs) : ∀ g, v.ownBlock = some g → N ≤ g := by
  intro k hk
  obtain ⟨_, ⟨e, _⟩ | ⟨g, cap3, cur, e, hg, _⟩⟩ := h
  · rw [e] at hk; simp [Value.ownBlock] at hk
  · rw [e] at hk; simp [Value.ownBlock] at hk; omega
theorem own_keep {b N : Nat} {w w' : World} {t : TypeId} {v : Value} {n : Nat} {xs : List Value} (h : w.ownsRow N t 1 v n xs) (hk : Keep b w w') (hb : b < N) : w'.ownsRow N t 1 v n xs :=
  h.kept (row := some b) hk.grown (by
    cases hv : v.ownBlock with
    | none => exact .inl rfl
    | some g =>
      refine .inr fun e => ?_
      have h1 := own_ge h g hv
      injection e with e
      omega)

/-- What reading numbers comes to. -/
def NumsPost (b : Nat) (l : List UInt8) (a : Addr) (w : World) (e : Ending) (w' : World) : Prop :=
  ((∃ zs r v, rdNums l = some (zs, r) ∧ e = .returned v ∧ w'.ownsRow w.heap.size 3 1 v zs.length (zs.map (Value.int .i64)) ∧ Txr b r w') ∨ (rdNums l = none ∧ e = boom a)) ∧ Keep b w w'

end Go.Proofs.YtcecljolnknapaaDoor
