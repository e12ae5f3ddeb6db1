/-
  Proved here: FnExactIsBelow returns true for all arguments, and each argument reads afterwards as it read before.
  Conditions: none.
-/
import Derived.Test.YtilcahidmoaakaaFmem
import Derived.Test.YtilcahidmoaakaaRows
import Derived.Test.YtilcahidmoaakaaRinv
import Derived.Test.YtilcahidmoaakaaHasf
import Derived.Test.YtilcahidmoaakaaMrl
import Derived.Test.YtilcahidmoaakaaFsz
import Derived.Test.YtilcahidmoaakaaFto
import Derived.Test.YtilcahidmoaakaaFeq
import Derived.Deep.RegionHeld3
import Derived.Test.YtilcahidmoaakaaLiftf
import Derived.Carry
import Derived.JoinedOf
namespace Go.Proofs.Ytilcahidmoaakaa
open Go.RowKit

def zeroFu : List Value := [.string ByteArray.empty, .slice none 0 0, .int .i64 0, .slice none 0 0]

/-- w0: the world where the region begins; bx: the system's box; F: its list; i, k: the indices; pi, pk: where the two lie; ci, ck: their cells. -/
structure TwoF (w0 : World) (bx : Nat) (F ii kk pi pk vi vk : Value) (ci ck : List Value) (f : Nat → Bool) (x0 x1 x2 x3 x4 x5 x6 x7 x8 x9 y z : Value) (u : World) : Prop where
  bel : Below w0.heap.size w0 u
  a0 : f 0 = true → x0 = (.pointer (some ⟨bx, 2, none⟩))
  a1 : f 1 = true → x1 = F
  a2 : f 2 = true → x2 = ii
  a3 : f 3 = true → x3 = pi
  a4 : f 4 = true → x4 = vi
  a5 : f 5 = true → x5 = (.pointer (some ⟨bx, 2, none⟩))
  a6 : f 6 = true → x6 = F
  a7 : f 7 = true → x7 = kk
  a8 : f 8 = true → x8 = pk
  a9 : f 9 = true → x9 = vk
  b0 : f 10 = true → f 12 = false → ∃ p, w0.heap.size ≤ p ∧ y = .pointer (some ⟨p, 0, none⟩) ∧ Row u p 55 zeroFu
  b1 : f 11 = true → f 13 = false → ∃ p, w0.heap.size ≤ p ∧ z = .pointer (some ⟨p, 0, none⟩) ∧ Row u p 55 zeroFu
  b2 : f 12 = true → ∃ p, w0.heap.size ≤ p ∧ y = .pointer (some ⟨p, 0, none⟩) ∧ Row u p 55 ci
  b3 : f 13 = true → ∃ p, w0.heap.size ≤ p ∧ z = .pointer (some ⟨p, 0, none⟩) ∧ Row u p 55 ck
  apart : f 10 = true → f 11 = true → ∀ p q, y = .pointer (some ⟨p, 0, none⟩) → z = .pointer (some ⟨q, 0, none⟩) → p ≠ q
  c2 : f 12 = true → f 10 = true
  c3 : f 13 = true → f 11 = true

section
variable {w0 u : World} {bx : Nat} {F ii kk pi pk vi vk : Value} {ci ck : List Value} {f : Nat → Bool} {x0 x1 x2 x3 x4 x5 x6 x7 x8 x9 y z : Value}

theorem TwoF.ylt (h : TwoF w0 bx F ii kk pi pk vi vk ci ck f x0 x1 x2 x3 x4 x5 x6 x7 x8 x9 y z u) (h10 : f 10 = true) : ∃ p, y = .pointer (some ⟨p, 0, none⟩) ∧ p < u.heap.size := by
  cases h12 : f 12 with
  | false => obtain ⟨p, _, e, hr⟩ := h.b0 h10 h12; exact ⟨p, e, hr.lt⟩
  | true => obtain ⟨p, _, e, hr⟩ := h.b2 h12; exact ⟨p, e, hr.lt⟩
theorem TwoF.zlt (h : TwoF w0 bx F ii kk pi pk vi vk ci ck f x0 x1 x2 x3 x4 x5 x6 x7 x8 x9 y z u) (h11 : f 11 = true) : ∃ p, z = .pointer (some ⟨p, 0, none⟩) ∧ p < u.heap.size := by
  cases h13 : f 13 with
  | false => obtain ⟨p, _, e, hr⟩ := h.b1 h11 h13; exact ⟨p, e, hr.lt⟩
  | true => obtain ⟨p, _, e, hr⟩ := h.b3 h13; exact ⟨p, e, hr.lt⟩
theorem TwoF.s0 (h : TwoF w0 bx F ii kk pi pk vi vk ci ck f x0 x1 x2 x3 x4 x5 x6 x7 x8 x9 y z u) : TwoF w0 bx F ii kk pi pk vi vk ci ck (fun k => decide (k = 0) || f k) (.pointer (some ⟨bx, 2, none⟩)) x1 x2 x3 x4 x5 x6 x7 x8 x9 y z u where
  bel := h.bel
  a0 := fun _ => rfl
  a1 := fun e => h.a1 (by simpa using e)
  a2 := fun e => h.a2 (by simpa using e)
  a3 := fun e => h.a3 (by simpa using e)
  a4 := fun e => h.a4 (by simpa using e)
  a5 := fun e => h.a5 (by simpa using e)
  a6 := fun e => h.a6 (by simpa using e)
  a7 := fun e => h.a7 (by simpa using e)
  a8 := fun e => h.a8 (by simpa using e)
  a9 := fun e => h.a9 (by simpa using e)
  b0 := fun e e2 => h.b0 (by simpa using e) (by simpa using e2)
  b1 := fun e e2 => h.b1 (by simpa using e) (by simpa using e2)
  b2 := fun e => h.b2 (by simpa using e)
  b3 := fun e => h.b3 (by simpa using e)
  apart := fun e e2 => h.apart (by simpa using e) (by simpa using e2)
  c2 := fun e => by have := h.c2 (by simpa using e); simp [this]
  c3 := fun e => by have := h.c3 (by simpa using e); simp [this]
theorem TwoF.s1 (h : TwoF w0 bx F ii kk pi pk vi vk ci ck f x0 x1 x2 x3 x4 x5 x6 x7 x8 x9 y z u) : TwoF w0 bx F ii kk pi pk vi vk ci ck (fun k => decide (k = 1) || f k) x0 F x2 x3 x4 x5 x6 x7 x8 x9 y z u where
  bel := h.bel
  a0 := fun e => h.a0 (by simpa using e)
  a1 := fun _ => rfl
  a2 := fun e => h.a2 (by simpa using e)
  a3 := fun e => h.a3 (by simpa using e)
  a4 := fun e => h.a4 (by simpa using e)
  a5 := fun e => h.a5 (by simpa using e)
  a6 := fun e => h.a6 (by simpa using e)
  a7 := fun e => h.a7 (by simpa using e)
  a8 := fun e => h.a8 (by simpa using e)
  a9 := fun e => h.a9 (by simpa using e)
  b0 := fun e e2 => h.b0 (by simpa using e) (by simpa using e2)
  b1 := fun e e2 => h.b1 (by simpa using e) (by simpa using e2)
  b2 := fun e => h.b2 (by simpa using e)
  b3 := fun e => h.b3 (by simpa using e)
  apart := fun e e2 => h.apart (by simpa using e) (by simpa using e2)
  c2 := fun e => by have := h.c2 (by simpa using e); simp [this]
  c3 := fun e => by have := h.c3 (by simpa using e); simp [this]
theorem TwoF.s2 (h : TwoF w0 bx F ii kk pi pk vi vk ci ck f x0 x1 x2 x3 x4 x5 x6 x7 x8 x9 y z u) : TwoF w0 bx F ii kk pi pk vi vk ci ck (fun k => decide (k = 2) || f k) x0 x1 ii x3 x4 x5 x6 x7 x8 x9 y z u where
  bel := h.bel
  a0 := fun e => h.a0 (by simpa using e)
  a1 := fun e => h.a1 (by simpa using e)
  a2 := fun _ => rfl
  a3 := fun e => h.a3 (by simpa using e)
  a4 := fun e => h.a4 (by simpa using e)
  a5 := fun e => h.a5 (by simpa using e)
  a6 := fun e => h.a6 (by simpa using e)
  a7 := fun e => h.a7 (by simpa using e)
  a8 := fun e => h.a8 (by simpa using e)
  a9 := fun e => h.a9 (by simpa using e)
  b0 := fun e e2 => h.b0 (by simpa using e) (by simpa using e2)
  b1 := fun e e2 => h.b1 (by simpa using e) (by simpa using e2)
  b2 := fun e => h.b2 (by simpa using e)
  b3 := fun e => h.b3 (by simpa using e)
  apart := fun e e2 => h.apart (by simpa using e) (by simpa using e2)
  c2 := fun e => by have := h.c2 (by simpa using e); simp [this]
  c3 := fun e => by have := h.c3 (by simpa using e); simp [this]
theorem TwoF.s3 (h : TwoF w0 bx F ii kk pi pk vi vk ci ck f x0 x1 x2 x3 x4 x5 x6 x7 x8 x9 y z u) : TwoF w0 bx F ii kk pi pk vi vk ci ck (fun k => decide (k = 3) || f k) x0 x1 x2 pi x4 x5 x6 x7 x8 x9 y z u where
  bel := h.bel
  a0 := fun e => h.a0 (by simpa using e)
  a1 := fun e => h.a1 (by simpa using e)
  a2 := fun e => h.a2 (by simpa using e)
  a3 := fun _ => rfl
  a4 := fun e => h.a4 (by simpa using e)
  a5 := fun e => h.a5 (by simpa using e)
  a6 := fun e => h.a6 (by simpa using e)
  a7 := fun e => h.a7 (by simpa using e)
  a8 := fun e => h.a8 (by simpa using e)
  a9 := fun e => h.a9 (by simpa using e)
  b0 := fun e e2 => h.b0 (by simpa using e) (by simpa using e2)
  b1 := fun e e2 => h.b1 (by simpa using e) (by simpa using e2)
  b2 := fun e => h.b2 (by simpa using e)
  b3 := fun e => h.b3 (by simpa using e)
  apart := fun e e2 => h.apart (by simpa using e) (by simpa using e2)
  c2 := fun e => by have := h.c2 (by simpa using e); simp [this]
  c3 := fun e => by have := h.c3 (by simpa using e); simp [this]
theorem TwoF.s4 (h : TwoF w0 bx F ii kk pi pk vi vk ci ck f x0 x1 x2 x3 x4 x5 x6 x7 x8 x9 y z u) : TwoF w0 bx F ii kk pi pk vi vk ci ck (fun k => decide (k = 4) || f k) x0 x1 x2 x3 vi x5 x6 x7 x8 x9 y z u where
  bel := h.bel
  a0 := fun e => h.a0 (by simpa using e)
  a1 := fun e => h.a1 (by simpa using e)
  a2 := fun e => h.a2 (by simpa using e)
  a3 := fun e => h.a3 (by simpa using e)
  a4 := fun _ => rfl
  a5 := fun e => h.a5 (by simpa using e)
  a6 := fun e => h.a6 (by simpa using e)
  a7 := fun e => h.a7 (by simpa using e)
  a8 := fun e => h.a8 (by simpa using e)
  a9 := fun e => h.a9 (by simpa using e)
  b0 := fun e e2 => h.b0 (by simpa using e) (by simpa using e2)
  b1 := fun e e2 => h.b1 (by simpa using e) (by simpa using e2)
  b2 := fun e => h.b2 (by simpa using e)
  b3 := fun e => h.b3 (by simpa using e)
  apart := fun e e2 => h.apart (by simpa using e) (by simpa using e2)
  c2 := fun e => by have := h.c2 (by simpa using e); simp [this]
  c3 := fun e => by have := h.c3 (by simpa using e); simp [this]
theorem TwoF.s5 (h : TwoF w0 bx F ii kk pi pk vi vk ci ck f x0 x1 x2 x3 x4 x5 x6 x7 x8 x9 y z u) : TwoF w0 bx F ii kk pi pk vi vk ci ck (fun k => decide (k = 5) || f k) x0 x1 x2 x3 x4 (.pointer (some ⟨bx, 2, none⟩)) x6 x7 x8 x9 y z u where
  bel := h.bel
  a0 := fun e => h.a0 (by simpa using e)
  a1 := fun e => h.a1 (by simpa using e)
  a2 := fun e => h.a2 (by simpa using e)
  a3 := fun e => h.a3 (by simpa using e)
  a4 := fun e => h.a4 (by simpa using e)
  a5 := fun _ => rfl
  a6 := fun e => h.a6 (by simpa using e)
  a7 := fun e => h.a7 (by simpa using e)
  a8 := fun e => h.a8 (by simpa using e)
  a9 := fun e => h.a9 (by simpa using e)
  b0 := fun e e2 => h.b0 (by simpa using e) (by simpa using e2)
  b1 := fun e e2 => h.b1 (by simpa using e) (by simpa using e2)
  b2 := fun e => h.b2 (by simpa using e)
  b3 := fun e => h.b3 (by simpa using e)
  apart := fun e e2 => h.apart (by simpa using e) (by simpa using e2)
  c2 := fun e => by have := h.c2 (by simpa using e); simp [this]
  c3 := fun e => by have := h.c3 (by simpa using e); simp [this]
theorem TwoF.s6 (h : TwoF w0 bx F ii kk pi pk vi vk ci ck f x0 x1 x2 x3 x4 x5 x6 x7 x8 x9 y z u) : TwoF w0 bx F ii kk pi pk vi vk ci ck (fun k => decide (k = 6) || f k) x0 x1 x2 x3 x4 x5 F x7 x8 x9 y z u where
  bel := h.bel
  a0 := fun e => h.a0 (by simpa using e)
  a1 := fun e => h.a1 (by simpa using e)
  a2 := fun e => h.a2 (by simpa using e)
  a3 := fun e => h.a3 (by simpa using e)
  a4 := fun e => h.a4 (by simpa using e)
  a5 := fun e => h.a5 (by simpa using e)
  a6 := fun _ => rfl
  a7 := fun e => h.a7 (by simpa using e)
  a8 := fun e => h.a8 (by simpa using e)
  a9 := fun e => h.a9 (by simpa using e)
  b0 := fun e e2 => h.b0 (by simpa using e) (by simpa using e2)
  b1 := fun e e2 => h.b1 (by simpa using e) (by simpa using e2)
  b2 := fun e => h.b2 (by simpa using e)
  b3 := fun e => h.b3 (by simpa using e)
  apart := fun e e2 => h.apart (by simpa using e) (by simpa using e2)
  c2 := fun e => by have := h.c2 (by simpa using e); simp [this]
  c3 := fun e => by have := h.c3 (by simpa using e); simp [this]
theorem TwoF.s7 (h : TwoF w0 bx F ii kk pi pk vi vk ci ck f x0 x1 x2 x3 x4 x5 x6 x7 x8 x9 y z u) : TwoF w0 bx F ii kk pi pk vi vk ci ck (fun k => decide (k = 7) || f k) x0 x1 x2 x3 x4 x5 x6 kk x8 x9 y z u where
  bel := h.bel
  a0 := fun e => h.a0 (by simpa using e)
  a1 := fun e => h.a1 (by simpa using e)
  a2 := fun e => h.a2 (by simpa using e)
  a3 := fun e => h.a3 (by simpa using e)
  a4 := fun e => h.a4 (by simpa using e)
  a5 := fun e => h.a5 (by simpa using e)
  a6 := fun e => h.a6 (by simpa using e)
  a7 := fun _ => rfl
  a8 := fun e => h.a8 (by simpa using e)
  a9 := fun e => h.a9 (by simpa using e)
  b0 := fun e e2 => h.b0 (by simpa using e) (by simpa using e2)
  b1 := fun e e2 => h.b1 (by simpa using e) (by simpa using e2)
  b2 := fun e => h.b2 (by simpa using e)
  b3 := fun e => h.b3 (by simpa using e)
  apart := fun e e2 => h.apart (by simpa using e) (by simpa using e2)
  c2 := fun e => by have := h.c2 (by simpa using e); simp [this]
  c3 := fun e => by have := h.c3 (by simpa using e); simp [this]
theorem TwoF.s8 (h : TwoF w0 bx F ii kk pi pk vi vk ci ck f x0 x1 x2 x3 x4 x5 x6 x7 x8 x9 y z u) : TwoF w0 bx F ii kk pi pk vi vk ci ck (fun k => decide (k = 8) || f k) x0 x1 x2 x3 x4 x5 x6 x7 pk x9 y z u where
  bel := h.bel
  a0 := fun e => h.a0 (by simpa using e)
  a1 := fun e => h.a1 (by simpa using e)
  a2 := fun e => h.a2 (by simpa using e)
  a3 := fun e => h.a3 (by simpa using e)
  a4 := fun e => h.a4 (by simpa using e)
  a5 := fun e => h.a5 (by simpa using e)
  a6 := fun e => h.a6 (by simpa using e)
  a7 := fun e => h.a7 (by simpa using e)
  a8 := fun _ => rfl
  a9 := fun e => h.a9 (by simpa using e)
  b0 := fun e e2 => h.b0 (by simpa using e) (by simpa using e2)
  b1 := fun e e2 => h.b1 (by simpa using e) (by simpa using e2)
  b2 := fun e => h.b2 (by simpa using e)
  b3 := fun e => h.b3 (by simpa using e)
  apart := fun e e2 => h.apart (by simpa using e) (by simpa using e2)
  c2 := fun e => by have := h.c2 (by simpa using e); simp [this]
  c3 := fun e => by have := h.c3 (by simpa using e); simp [this]
theorem TwoF.s9 (h : TwoF w0 bx F ii kk pi pk vi vk ci ck f x0 x1 x2 x3 x4 x5 x6 x7 x8 x9 y z u) : TwoF w0 bx F ii kk pi pk vi vk ci ck (fun k => decide (k = 9) || f k) x0 x1 x2 x3 x4 x5 x6 x7 x8 vk y z u where
  bel := h.bel
  a0 := fun e => h.a0 (by simpa using e)
  a1 := fun e => h.a1 (by simpa using e)
  a2 := fun e => h.a2 (by simpa using e)
  a3 := fun e => h.a3 (by simpa using e)
  a4 := fun e => h.a4 (by simpa using e)
  a5 := fun e => h.a5 (by simpa using e)
  a6 := fun e => h.a6 (by simpa using e)
  a7 := fun e => h.a7 (by simpa using e)
  a8 := fun e => h.a8 (by simpa using e)
  a9 := fun _ => rfl
  b0 := fun e e2 => h.b0 (by simpa using e) (by simpa using e2)
  b1 := fun e e2 => h.b1 (by simpa using e) (by simpa using e2)
  b2 := fun e => h.b2 (by simpa using e)
  b3 := fun e => h.b3 (by simpa using e)
  apart := fun e e2 => h.apart (by simpa using e) (by simpa using e2)
  c2 := fun e => by have := h.c2 (by simpa using e); simp [this]
  c3 := fun e => by have := h.c3 (by simpa using e); simp [this]
theorem TwoF.s10 (h : TwoF w0 bx F ii kk pi pk vi vk ci ck f x0 x1 x2 x3 x4 x5 x6 x7 x8 x9 y z u) (hfi : f 10 = false) : TwoF w0 bx F ii kk pi pk vi vk ci ck (fun k => decide (k = 10) || f k) x0 x1 x2 x3 x4 x5 x6 x7 x8 x9 (.pointer (some ⟨u.heap.size, 0, none⟩)) z (u.alloc (.cells #[.string ByteArray.empty, .slice none 0 0, .int .i64 0, .slice none 0 0] 55)) where
  bel := h.bel.alloc h.bel.size _
  a0 := fun e => h.a0 (by simpa using e)
  a1 := fun e => h.a1 (by simpa using e)
  a2 := fun e => h.a2 (by simpa using e)
  a3 := fun e => h.a3 (by simpa using e)
  a4 := fun e => h.a4 (by simpa using e)
  a5 := fun e => h.a5 (by simpa using e)
  a6 := fun e => h.a6 (by simpa using e)
  a7 := fun e => h.a7 (by simpa using e)
  a8 := fun e => h.a8 (by simpa using e)
  a9 := fun e => h.a9 (by simpa using e)
  b0 := fun _ _ => ⟨u.heap.size, h.bel.size, rfl, Row.new u _ zeroFu⟩
  b1 := fun e e2 => by
    obtain ⟨p, h1, h2, h3⟩ := h.b1 (by simpa using e) (by simpa using e2)
    exact ⟨p, h1, h2, h3.alloc _⟩
  b2 := fun e => by have := h.c2 (by simpa using e); rw [hfi] at this; cases this
  b3 := fun e => by
    obtain ⟨p, h1, h2, h3⟩ := h.b3 (by simpa using e)
    exact ⟨p, h1, h2, h3.alloc _⟩
  apart := fun _ e2 p q e3 e4 => by
    obtain ⟨q', e5, hlt⟩ := h.zlt (by simpa using e2)
    rw [e5] at e4
    simp only [Value.pointer.injEq, Option.some.injEq, Addr.mk.injEq, and_true] at e3 e4
    omega
  c2 := fun _ => by simp
  c3 := fun e => by have := h.c3 (by simpa using e); simp [this]
theorem TwoF.s11 (h : TwoF w0 bx F ii kk pi pk vi vk ci ck f x0 x1 x2 x3 x4 x5 x6 x7 x8 x9 y z u) (hfi : f 11 = false) : TwoF w0 bx F ii kk pi pk vi vk ci ck (fun k => decide (k = 11) || f k) x0 x1 x2 x3 x4 x5 x6 x7 x8 x9 y (.pointer (some ⟨u.heap.size, 0, none⟩)) (u.alloc (.cells #[.string ByteArray.empty, .slice none 0 0, .int .i64 0, .slice none 0 0] 55)) where
  bel := h.bel.alloc h.bel.size _
  a0 := fun e => h.a0 (by simpa using e)
  a1 := fun e => h.a1 (by simpa using e)
  a2 := fun e => h.a2 (by simpa using e)
  a3 := fun e => h.a3 (by simpa using e)
  a4 := fun e => h.a4 (by simpa using e)
  a5 := fun e => h.a5 (by simpa using e)
  a6 := fun e => h.a6 (by simpa using e)
  a7 := fun e => h.a7 (by simpa using e)
  a8 := fun e => h.a8 (by simpa using e)
  a9 := fun e => h.a9 (by simpa using e)
  b0 := fun e e2 => by
    obtain ⟨p, h1, h2, h3⟩ := h.b0 (by simpa using e) (by simpa using e2)
    exact ⟨p, h1, h2, h3.alloc _⟩
  b1 := fun _ _ => ⟨u.heap.size, h.bel.size, rfl, Row.new u _ zeroFu⟩
  b2 := fun e => by
    obtain ⟨p, h1, h2, h3⟩ := h.b2 (by simpa using e)
    exact ⟨p, h1, h2, h3.alloc _⟩
  b3 := fun e => by have := h.c3 (by simpa using e); rw [hfi] at this; cases this
  apart := fun e2 _ p q e3 e4 => by
    obtain ⟨q', e5, hlt⟩ := h.ylt (by simpa using e2)
    rw [e5] at e3
    simp only [Value.pointer.injEq, Option.some.injEq, Addr.mk.injEq, and_true] at e3 e4
    omega
  c2 := fun e => by have := h.c2 (by simpa using e); simp [this]
  c3 := fun _ => by simp
theorem TwoF.s12 {p : Nat} {c0 c1 c2 c3 : Value} (h : TwoF w0 bx F ii kk pi pk vi vk [c0, c1, c2, c3] ck f x0 x1 x2 x3 x4 x5 x6 x7 x8 x9 (.pointer (some ⟨p, 0, none⟩)) z u) (h10 : f 10 = true) (hp : w0.heap.size ≤ p) (hr : Row u p 55 zeroFu) : TwoF w0 bx F ii kk pi pk vi vk [c0, c1, c2, c3] ck (fun k => decide (k = 12) || f k) x0 x1 x2 x3 x4 x5 x6 x7 x8 x9 (.pointer (some ⟨p, 0, none⟩)) z ((((u.setCell ⟨p, 0, none⟩ c0).setCell ⟨p, 1, none⟩ c1).setCell ⟨p, 2, none⟩ c2).setCell ⟨p, 3, none⟩ c3) where
  bel := (((h.bel.setCell hp _).setCell hp _).setCell hp _).setCell hp _
  a0 := fun e => h.a0 (by simpa using e)
  a1 := fun e => h.a1 (by simpa using e)
  a2 := fun e => h.a2 (by simpa using e)
  a3 := fun e => h.a3 (by simpa using e)
  a4 := fun e => h.a4 (by simpa using e)
  a5 := fun e => h.a5 (by simpa using e)
  a6 := fun e => h.a6 (by simpa using e)
  a7 := fun e => h.a7 (by simpa using e)
  a8 := fun e => h.a8 (by simpa using e)
  a9 := fun e => h.a9 (by simpa using e)
  b0 := fun _ e2 => by simp at e2
  b1 := fun e e2 => by
    obtain ⟨q, h1, h2, h3⟩ := h.b1 (by simpa using e) (by simpa using e2)
    have hne := h.apart h10 (by simpa using e) p q rfl h2
    exact ⟨q, h1, h2, (((h3.far (fun e => hne e.symm) _).far (fun e => hne e.symm) _).far (fun e => hne e.symm) _).far (fun e => hne e.symm) _⟩
  b2 := fun _ => ⟨p, hp, rfl, (((hr.set_ 0 c0).set_ 1 c1).set_ 2 c2).set_ 3 c3⟩
  b3 := fun e => by
    obtain ⟨q, h1, h2, h3⟩ := h.b3 (by simpa using e)
    have hne := h.apart h10 (h.c3 (by simpa using e)) p q rfl h2
    exact ⟨q, h1, h2, (((h3.far (fun e => hne e.symm) _).far (fun e => hne e.symm) _).far (fun e => hne e.symm) _).far (fun e => hne e.symm) _⟩
  apart := fun _ e2 => h.apart h10 (by simpa using e2)
  c2 := fun _ => by simp [h10]
  c3 := fun e => by have := h.c3 (by simpa using e); simp [this]
theorem TwoF.s13 {p : Nat} {c0 c1 c2 c3 : Value} (h : TwoF w0 bx F ii kk pi pk vi vk ci [c0, c1, c2, c3] f x0 x1 x2 x3 x4 x5 x6 x7 x8 x9 y (.pointer (some ⟨p, 0, none⟩)) u) (h11 : f 11 = true) (hp : w0.heap.size ≤ p) (hr : Row u p 55 zeroFu) : TwoF w0 bx F ii kk pi pk vi vk ci [c0, c1, c2, c3] (fun k => decide (k = 13) || f k) x0 x1 x2 x3 x4 x5 x6 x7 x8 x9 y (.pointer (some ⟨p, 0, none⟩)) ((((u.setCell ⟨p, 0, none⟩ c0).setCell ⟨p, 1, none⟩ c1).setCell ⟨p, 2, none⟩ c2).setCell ⟨p, 3, none⟩ c3) where
  bel := (((h.bel.setCell hp _).setCell hp _).setCell hp _).setCell hp _
  a0 := fun e => h.a0 (by simpa using e)
  a1 := fun e => h.a1 (by simpa using e)
  a2 := fun e => h.a2 (by simpa using e)
  a3 := fun e => h.a3 (by simpa using e)
  a4 := fun e => h.a4 (by simpa using e)
  a5 := fun e => h.a5 (by simpa using e)
  a6 := fun e => h.a6 (by simpa using e)
  a7 := fun e => h.a7 (by simpa using e)
  a8 := fun e => h.a8 (by simpa using e)
  a9 := fun e => h.a9 (by simpa using e)
  b0 := fun e e2 => by
    obtain ⟨q, h1, h2, h3⟩ := h.b0 (by simpa using e) (by simpa using e2)
    have hne := h.apart (by simpa using e) h11 q p h2 rfl
    exact ⟨q, h1, h2, (((h3.far hne _).far hne _).far hne _).far hne _⟩
  b1 := fun _ e2 => by simp at e2
  b2 := fun e => by
    obtain ⟨q, h1, h2, h3⟩ := h.b2 (by simpa using e)
    have hne := h.apart (h.c2 (by simpa using e)) h11 q p h2 rfl
    exact ⟨q, h1, h2, (((h3.far hne _).far hne _).far hne _).far hne _⟩
  b3 := fun _ => ⟨p, hp, rfl, (((hr.set_ 0 c0).set_ 1 c1).set_ 2 c2).set_ 3 c3⟩
  apart := fun e2 _ => h.apart (by simpa using e2) h11
  c2 := fun e => by have := h.c2 (by simpa using e); simp [this]
  c3 := fun _ => by simp [h11]
end
end Go.Proofs.Ytilcahidmoaakaa

namespace Go.Proofs.Ytilcahidmoaakaa
open Go.RowKit
attribute [local go_sem] Oper.semAt_some

theorem if_yes {c : Bool} {A B : Prop} (h : c = true) (ha : A) : if c = true then A else B := by rw [if_pos h]; exact ha

/-- A function of a valid system is below another one. -/
def BelowP (y : Sy) (i k : Int) : Prop := hasFB y i = true ∧ hasFB y k = true ∧ (y.fs.getD i.toNat default).name = (y.fs.getD k.toNat default).name ∧ FitsTo y.ty (y.fs.getD i.toNat default).args (y.fs.getD k.toNat default).args
open Classical in
noncomputable def belowB (y : Sy) (i k : Int) : Bool := decide (BelowP y i k)
theorem belowB_yes {y : Sy} {i k : Int} (h : BelowP y i k) : belowB y i k = true := by unfold belowB; exact @decide_eq_true _ (Classical.propDecidable _) h
theorem belowB_no {y : Sy} {i k : Int} (h : ¬ BelowP y i k) : belowB y i k = false := by unfold belowB; exact @decide_eq_false _ (Classical.propDecidable _) h
theorem belowB_iff {y : Sy} {i k : Int} : belowB y i k = true ↔ BelowP y i k := by unfold belowB; exact @decide_eq_true_iff _ (Classical.propDecidable _)

set_option maxRecDepth 100000 in
set_option maxHeartbeats 4000000 in
theorem specIsBelow_any (lo hi : Nat) (sv cv fv : Value) (y : Sy) (i k : Int) (w : World) (hv : SyAt w lo hi sv cv fv y) (hB : hi ≤ w.heap.size) :
    Calls Try.prog 29 #[.agg #[sv, cv, fv], .int .i64 i, .int .i64 k] w fun e w' => e = .returned (.bool (belowB y i k)) ∧ Below w.heap.size w w' := by
  obtain ⟨A, cap, rfl, hl1, hm1, hi1⟩ := hv.1.1.form
  obtain ⟨B, bap, rfl, hl2, hm2, hc1⟩ := hv.1.2.form
  obtain ⟨F, fap, rfl, hl3, hm3, hf1⟩ := hv.2.form
  unfold maxLen at hm3
  have h3 : Below w.heap.size w (w.alloc (.cells #[.slice A y.ty.sizes.length cap, .slice B y.ty.cos.length bap, .slice F y.fs.length fap] 36)) := by go_grown
  have H1 := Lib.hid (Below.refl (w.heap.size + 1) (w.alloc (.cells #[.slice A y.ty.sizes.length cap, .slice B y.ty.cos.length bap, .slice F y.fs.length fap] 36)))
  have Hv := Lib.hid hv
  have Hty := Lib.hid hv.1
  have Hf := Lib.hid hf1
  clear hi1 hc1 hf1 hv
  go_enter Try.func29, Try.ntmps29
  go_wp2_with fail
  refine (l4Has_any lo hi _ _ _ y i _ (Hv.out.below h3 hB) (by simp; omega)).mono ?_
  rintro e w1 ⟨rfl, hb1⟩
  have H2 := Lib.hid (H1.out.trans (hb1.mono (by simp)))
  obtain ⟨q0, q1, q2, hl, hB1⟩ := box3 H2.out
  have HB1 := Lib.hid hB1
  clear hb1 h3 hB1 H1
  by_cases c1 : hasFB y i = true
  case neg =>
    have H : Hid (belowB y i k = false) := belowB_no fun h => c1 h.1
    have c1f : hasFB y i = false := by simpa using c1
    rw [c1f]
    clear c1
    go_wp2
    go_ret
    exact ⟨ret_bool H.out.symm, HB1.out⟩
  have C1 := Lib.hid c1
  rw [c1]
  clear c1
  go_wp2_with fail
  refine (l4Has_any lo hi _ _ _ y k _ (Hv.out.below HB1.out hB) (by omega)).mono ?_
  rintro e w2 ⟨rfl, hb2⟩
  have H3 := Lib.hid (H2.out.trans (hb2.mono (by omega)))
  obtain ⟨p0, p1, p2, hl2, hB2⟩ := box3 H3.out
  have HB2 := Lib.hid hB2
  clear hb2 hB2 q0 q1 q2 H2
  by_cases c2 : hasFB y k = true
  case neg =>
    have H : Hid (belowB y i k = false) := belowB_no fun h => c2 h.2.1
    have c2f : hasFB y k = false := by simpa using c2
    rw [c2f]
    clear c2
    go_wp2
    go_ret
    exact ⟨ret_bool H.out.symm, HB2.out⟩
  have C2 := Lib.hid c2
  rw [c2]
  clear c2
  obtain ⟨hsy, hi0, hi1, hilt⟩ := hasFB_of C1.out
  obtain ⟨_, hk0, hk1, hklt⟩ := hasFB_of C2.out
  have Hsy := Lib.hid hsy
  clear hsy
  go_wp2_with fail
  have Hp01 := Lib.hid (And.intro p0 p1)
  obtain ⟨b, off, A1, cap1, A2, cap2, rfl, _, hbh, d0, d1, d2, d3, _, _, _, _, hfi⟩ := (Hf.out.below HB2.out hB).at_ hilt
  obtain ⟨b', off', A3, cap3, A4, cap4, eF, _, _, e0, e1, e2, e3, _, _, _, _, hfk⟩ := (Hf.out.below HB2.out hB).at_ hklt
  obtain ⟨rfl, rfl⟩ : b = b' ∧ off = off' := by simpa using eF
  have Hfi := Lib.hid hfi
  have Hfk := Lib.hid hfk
  have hbW : b < w2.heap.size := by omega
  have Hcf : Hid (∀ u : World, Below w2.heap.size w2.drew u → u.cell? ⟨w.heap.size, 2, none⟩ = some (.slice (some ⟨b, off, none⟩) y.fs.length fap) ∧ u.cell? ⟨b, off + i.toNat * 4, none⟩ = some (.string y.fs[i.toNat].name) ∧ u.cell? ⟨b, off + i.toNat * 4 + 1, none⟩ = some (.slice A1 y.fs[i.toNat].args.length cap1) ∧ u.cell? ⟨b, off + i.toNat * 4 + 2, none⟩ = some (.int .i64 y.fs[i.toNat].res) ∧ u.cell? ⟨b, off + i.toNat * 4 + 3, none⟩ = some (.slice A2 y.fs[i.toNat].table.length cap2) ∧ u.cell? ⟨b, off + k.toNat * 4, none⟩ = some (.string y.fs[k.toNat].name) ∧ u.cell? ⟨b, off + k.toNat * 4 + 1, none⟩ = some (.slice A3 y.fs[k.toNat].args.length cap3) ∧ u.cell? ⟨b, off + k.toNat * 4 + 2, none⟩ = some (.int .i64 y.fs[k.toNat].res) ∧ u.cell? ⟨b, off + k.toNat * 4 + 3, none⟩ = some (.slice A4 y.fs[k.toNat].table.length cap4)) := fun u hu =>
    ⟨(hu.cell (p := ⟨w.heap.size, 2, none⟩) (by dsimp only; omega)).trans p2, (hu.cell (p := ⟨b, off + i.toNat * 4, none⟩) hbW).trans d0, (hu.cell (p := ⟨b, off + i.toNat * 4 + 1, none⟩) hbW).trans d1, (hu.cell (p := ⟨b, off + i.toNat * 4 + 2, none⟩) hbW).trans d2, (hu.cell (p := ⟨b, off + i.toNat * 4 + 3, none⟩) hbW).trans d3, (hu.cell (p := ⟨b, off + k.toNat * 4, none⟩) hbW).trans e0, (hu.cell (p := ⟨b, off + k.toNat * 4 + 1, none⟩) hbW).trans e1, (hu.cell (p := ⟨b, off + k.toNat * 4 + 2, none⟩) hbW).trans e2, (hu.cell (p := ⟨b, off + k.toNat * 4 + 3, none⟩) hbW).trans e3⟩
  clear d0 d1 d2 d3 e0 e1 e2 e3 hfi hfk eF p0 p1 p2
  refine wp_region_inv (by kernel_rfl) (fun f a u => ∃ x0 x1 x2 x3 x4 x5 x6 x7 x8 x9 y_ z_, a = ⟨#[.agg #[.slice A y.ty.sizes.length cap, .slice B y.ty.cos.length bap, .slice (some ⟨b, off, none⟩) y.fs.length fap], .int .i64 i, .int .i64 k, .pointer (some ⟨w.heap.size, 0, none⟩), undef, undef, .bool false, y_, z_, .agg #[.slice A y.ty.sizes.length cap, .slice B y.ty.cos.length bap, .slice (some ⟨b, off, none⟩) y.fs.length fap], .int .i64 i, .bool true, .bool false, .bool false, .agg #[.slice A y.ty.sizes.length cap, .slice B y.ty.cos.length bap, .slice (some ⟨b, off, none⟩) y.fs.length fap], .int .i64 k, .bool true, .bool false, .bool false, x0, x1, x2, x3, x4, x5, x6, x7, x8, x9, undef, undef, undef, undef, undef, undef, undef, undef, undef, undef, undef, undef, undef, undef], []⟩ ∧ TwoF w2.drew w.heap.size (.slice (some ⟨b, off, none⟩) y.fs.length fap) (.int .i64 i) (.int .i64 k) (.pointer (some ⟨b, off + i.toNat * 4, none⟩)) (.pointer (some ⟨b, off + k.toNat * 4, none⟩)) (.agg #[.string y.fs[i.toNat].name, .slice A1 y.fs[i.toNat].args.length cap1, .int .i64 y.fs[i.toNat].res, .slice A2 y.fs[i.toNat].table.length cap2]) (.agg #[.string y.fs[k.toNat].name, .slice A3 y.fs[k.toNat].args.length cap3, .int .i64 y.fs[k.toNat].res, .slice A4 y.fs[k.toNat].table.length cap4]) [.string y.fs[i.toNat].name, .slice A1 y.fs[i.toNat].args.length cap1, .int .i64 y.fs[i.toNat].res, .slice A2 y.fs[i.toNat].table.length cap2] [.string y.fs[k.toNat].name, .slice A3 y.fs[k.toNat].args.length cap3, .int .i64 y.fs[k.toNat].res, .slice A4 y.fs[k.toNat].table.length cap4] f x0 x1 x2 x3 x4 x5 x6 x7 x8 x9 y_ z_ u) (of_decide_eq_true (by kernel_rfl)) ⟨_, _, _, _, _, _, _, _, _, _, _, _, rfl, ⟨Below.refl _ _, nofun, nofun, nofun, nofun, nofun, nofun, nofun, nofun, nofun, nofun, nofun, nofun, nofun, nofun, nofun, nofun, nofun⟩⟩ ?_ ?_
  · rintro f a u q o ho hfi hdep ⟨x0, x1, x2, x3, x4, x5, x6, x7, x8, x9, y_, z_, rfl, hF⟩
    have hil : q < 14 := by have := (Array.getElem?_eq_some_iff.1 ho).1; simpa using this
    obtain ⟨r0, r1, r2, r3, r4, t1, t2, t3, t4⟩ := Hcf.out u hF.bel
    obtain rfl | rfl | rfl | rfl | rfl | rfl | rfl | rfl | rfl | rfl | rfl | rfl | rfl | rfl : q = 0 ∨ q = 1 ∨ q = 2 ∨ q = 3 ∨ q = 4 ∨ q = 5 ∨ q = 6 ∨ q = 7 ∨ q = 8 ∨ q = 9 ∨ q = 10 ∨ q = 11 ∨ q = 12 ∨ q = 13 := by omega
    all_goals
      obtain rfl := Option.some.inj ho
      refine wpOp_step ho fun K hK => ?_
      simp [Region.binds] at hdep
      clear ho
    · refine if_yes rfl ?_
      have HF := Lib.hid hF
      clear hF
      unfold Oper.wp
      go_simp
      exact hK _ _ ⟨_, _, _, _, _, _, _, _, _, _, _, _, rfl, HF.out.s0⟩
    · have d0 : f 0 = true := by simp [hdep]
      obtain rfl := hF.a0 d0
      refine if_yes rfl ?_
      have HF := Lib.hid hF
      clear hF
      unfold Oper.wp
      go_simp
      exact hK _ _ ⟨_, _, _, _, _, _, _, _, _, _, _, _, rfl, HF.out.s1⟩
    · refine if_yes rfl ?_
      have HF := Lib.hid hF
      clear hF
      unfold Oper.wp
      go_simp
      exact hK _ _ ⟨_, _, _, _, _, _, _, _, _, _, _, _, rfl, HF.out.s2⟩
    · have d1 : f 1 = true := by simp [hdep]
      obtain rfl := hF.a1 d1
      have d2 : f 2 = true := by simp [hdep]
      obtain rfl := hF.a2 d2
      refine if_yes rfl ?_
      have HF := Lib.hid hF
      clear hF
      unfold Oper.wp
      go_simp
      exact hK _ _ ⟨_, _, _, _, _, _, _, _, _, _, _, _, rfl, HF.out.s3⟩
    · have d3 : f 3 = true := by simp [hdep]
      obtain rfl := hF.a3 d3
      refine if_yes rfl ?_
      have HF := Lib.hid hF
      clear hF
      unfold Oper.wp
      go_simp
      exact hK _ _ ⟨_, _, _, _, _, _, _, _, _, _, _, _, rfl, HF.out.s4⟩
    · refine if_yes rfl ?_
      have HF := Lib.hid hF
      clear hF
      unfold Oper.wp
      go_simp
      exact hK _ _ ⟨_, _, _, _, _, _, _, _, _, _, _, _, rfl, HF.out.s5⟩
    · have d5 : f 5 = true := by simp [hdep]
      obtain rfl := hF.a5 d5
      refine if_yes rfl ?_
      have HF := Lib.hid hF
      clear hF
      unfold Oper.wp
      go_simp
      exact hK _ _ ⟨_, _, _, _, _, _, _, _, _, _, _, _, rfl, HF.out.s6⟩
    · refine if_yes rfl ?_
      have HF := Lib.hid hF
      clear hF
      unfold Oper.wp
      go_simp
      exact hK _ _ ⟨_, _, _, _, _, _, _, _, _, _, _, _, rfl, HF.out.s7⟩
    · have d6 : f 6 = true := by simp [hdep]
      obtain rfl := hF.a6 d6
      have d7 : f 7 = true := by simp [hdep]
      obtain rfl := hF.a7 d7
      refine if_yes rfl ?_
      have HF := Lib.hid hF
      clear hF
      unfold Oper.wp
      go_simp
      exact hK _ _ ⟨_, _, _, _, _, _, _, _, _, _, _, _, rfl, HF.out.s8⟩
    · have d8 : f 8 = true := by simp [hdep]
      obtain rfl := hF.a8 d8
      refine if_yes rfl ?_
      have HF := Lib.hid hF
      clear hF
      unfold Oper.wp
      go_simp
      exact hK _ _ ⟨_, _, _, _, _, _, _, _, _, _, _, _, rfl, HF.out.s9⟩
    · refine if_yes rfl ?_
      have HF := Lib.hid hF
      clear hF
      unfold Oper.wp
      go_simp
      exact hK _ _ ⟨_, _, _, _, _, _, _, _, _, _, _, _, rfl, HF.out.s10 hfi⟩
    · refine if_yes rfl ?_
      have HF := Lib.hid hF
      clear hF
      unfold Oper.wp
      go_simp
      exact hK _ _ ⟨_, _, _, _, _, _, _, _, _, _, _, _, rfl, HF.out.s11 hfi⟩
    · have d10 : f 10 = true := by simp [hdep]
      have d4 : f 4 = true := by simp [hdep]
      obtain rfl := hF.a4 d4
      obtain ⟨p, hp, rfl, hrow⟩ := hF.b0 d10 hfi
      have m0 := hrow.cell 0
      have m1 := hrow.cell 1
      have m2 := hrow.cell 2
      have m3 := hrow.cell 3
      have n0 := hrow.frozen 0
      have n1 := hrow.frozen 1
      have n2 := hrow.frozen 2
      have n3 := hrow.frozen 3
      unfold zeroFu at m0 m1 m2 m3
      simp only [List.getElem?_cons_zero, List.getElem?_cons_succ] at m0 m1 m2 m3
      refine if_yes rfl ?_
      have HF := Lib.hid hF
      have Hrow := Lib.hid hrow
      clear hF hrow r0 r1 r2 r3 r4 t1 t2 t3 t4
      unfold Oper.wp
      go_simp
      exact hK _ _ ⟨_, _, _, _, _, _, _, _, _, _, _, _, rfl, HF.out.s12 d10 hp Hrow.out⟩
    · have d11 : f 11 = true := by simp [hdep]
      have d9 : f 9 = true := by simp [hdep]
      obtain rfl := hF.a9 d9
      obtain ⟨p, hp, rfl, hrow⟩ := hF.b1 d11 hfi
      have m0 := hrow.cell 0
      have m1 := hrow.cell 1
      have m2 := hrow.cell 2
      have m3 := hrow.cell 3
      have n0 := hrow.frozen 0
      have n1 := hrow.frozen 1
      have n2 := hrow.frozen 2
      have n3 := hrow.frozen 3
      unfold zeroFu at m0 m1 m2 m3
      simp only [List.getElem?_cons_zero, List.getElem?_cons_succ] at m0 m1 m2 m3
      refine if_yes rfl ?_
      have HF := Lib.hid hF
      have Hrow := Lib.hid hrow
      clear hF hrow r0 r1 r2 r3 r4 t1 t2 t3 t4
      unfold Oper.wp
      go_simp
      exact hK _ _ ⟨_, _, _, _, _, _, _, _, _, _, _, _, rfl, HF.out.s13 d11 hp Hrow.out⟩
  · rintro f a u hall ⟨x0, x1, x2, x3, x4, x5, x6, x7, x8, x9, y_, z_, rfl, hF⟩
    have g : ∀ j, j < 14 → f j = true := fun j hj => hall j (by simpa using hj)
    obtain rfl := hF.a0 (g 0 (by omega))
    obtain rfl := hF.a1 (g 1 (by omega))
    obtain rfl := hF.a2 (g 2 (by omega))
    obtain rfl := hF.a3 (g 3 (by omega))
    obtain rfl := hF.a4 (g 4 (by omega))
    obtain rfl := hF.a5 (g 5 (by omega))
    obtain rfl := hF.a6 (g 6 (by omega))
    obtain rfl := hF.a7 (g 7 (by omega))
    obtain rfl := hF.a8 (g 8 (by omega))
    obtain rfl := hF.a9 (g 9 (by omega))
    obtain ⟨p, hp, rfl, hrp⟩ := hF.b2 (g 12 (by omega))
    obtain ⟨q, hq, rfl, hrq⟩ := hF.b3 (g 13 (by omega))
    have hbu : Below w2.heap.size w2 u := ⟨hF.bel.os, hF.bel.tape, hF.bel.output, hF.bel.size, hF.bel.block⟩
    clear hF hall g
    have hbW2 : Below w.heap.size w u := HB2.out.trans (hbu.mono HB2.out.size)
    have r0 := (hbu.cell (p := ⟨w.heap.size, 0, none⟩) hl2).trans Hp01.out.1
    have r1 := (hbu.cell (p := ⟨w.heap.size, 1, none⟩) hl2).trans Hp01.out.2
    have s0 := hrp.cell 0
    have s1 := hrp.cell 1
    have t0 := hrq.cell 0
    have t1 := hrq.cell 1
    simp only [List.getElem?_cons_zero, List.getElem?_cons_succ] at s0 s1 t0 t1
    have hsu := hbu.size
    have Hai := Lib.hid (Hfi.out.2.2.2.2.1.below hbu (Nat.le_trans hB HB2.out.size))
    have Hak := Lib.hid (Hfk.out.2.2.2.2.1.below hbu (Nat.le_trans hB HB2.out.size))
    have HT := Lib.hid (Hty.out.below hbW2 hB)
    have HbW := Lib.hid hbW2
    have hBu : hi ≤ u.heap.size := Nat.le_trans hB hbW2.size
    have HgI : Hid (y.fs.getD i.toNat default = y.fs[i.toNat]) := getD_of hilt
    have HgK : Hid (y.fs.getD k.toNat default = y.fs[k.toNat]) := getD_of hklt
    clear hbu hbW2 hrp hrq hp hq
    by_cases he : y.fs[i.toNat].name = y.fs[k.toNat].name
    · have hnm : y.fs[i.toNat].name.toList = y.fs[k.toNat].name.toList := by rw [he]
      have H : Hid (belowB y i k = fitsToB y.ty y.fs[i.toNat].args y.fs[k.toNat].args) := by
        show _ = _
        rw [Bool.eq_iff_iff, belowB_iff, fitsToB_iff]
        unfold BelowP
        rw [HgI.out, HgK.out]
        exact ⟨fun h => h.2.2.2, fun h => ⟨C1.out, C2.out, he, h⟩⟩
      clear he
      go_wp2_with fail
      refine (l4Fits_any lo hi lo hi lo hi _ _ _ _ y.ty y.fs[i.toNat].args y.fs[k.toNat].args _ HT.out Hai.out Hak.out hBu hBu hBu Hsy.out.ty (Hsy.out.each _ hilt).args (Hsy.out.each _ hklt).args).mono ?_
      rintro e w' ⟨rfl, hbb⟩
      have Hbb := Lib.hid hbb
      clear hbb
      go_wp2
      go_ret
      exact ⟨ret_bool H.out.symm, HbW.out.trans (Hbb.out.mono HbW.out.size)⟩
    · have hnm : ¬ y.fs[i.toNat].name.toList = y.fs[k.toNat].name.toList := fun h => he (bytes_eq h)
      have H : Hid (belowB y i k = false) := belowB_no fun h => he (by have := h.2.2.1; rwa [HgI.out, HgK.out] at this)
      clear he
      go_wp2
      go_ret
      exact ⟨ret_bool H.out.symm, HbW.out⟩
end Go.Proofs.Ytilcahidmoaakaa

namespace Go.Proofs.Ytilcahidmoaakaa
open Go.RowKit
attribute [local go_sem] Oper.semAt_some

set_option maxRecDepth 100000 in
set_option maxHeartbeats 4000000 in
theorem sysIsBelow_any (lo hi : Nat) (sv cv fv : Value) (y : Sy) (i k : Int) (w : World) (hv : SyAt w lo hi sv cv fv y) (hB : hi ≤ w.heap.size) (c1 : hasFB y i = true) (c2 : hasFB y k = true) :
    Calls Try.prog 95 #[.agg #[sv, cv, fv], .int .i64 i, .int .i64 k] w fun e w' => e = .returned (.bool (belowB y i k)) ∧ Below w.heap.size w w' := by
  obtain ⟨A, cap, rfl, hl1, hm1, hi1⟩ := hv.1.1.form
  obtain ⟨B, bap, rfl, hl2, hm2, hc1⟩ := hv.1.2.form
  obtain ⟨F, fap, rfl, hl3, hm3, hf1⟩ := hv.2.form
  unfold maxLen at hm3
  have h3 : Below w.heap.size w (w.alloc (.cells #[.slice A y.ty.sizes.length cap, .slice B y.ty.cos.length bap, .slice F y.fs.length fap] 36)) := by go_grown
  have Hty := Lib.hid hv.1
  have Hf := Lib.hid hf1
  have C1 := Lib.hid c1
  have C2 := Lib.hid c2
  clear hi1 hc1 hf1 hv c1 c2
  obtain ⟨hsy, hi0, hi1, hilt⟩ := hasFB_of C1.out
  obtain ⟨_, hk0, hk1, hklt⟩ := hasFB_of C2.out
  have Hsy := Lib.hid hsy
  clear hsy
  go_enter Try.func95, Try.ntmps95
  go_wp2_with fail
  obtain ⟨w2, hw2⟩ : ∃ w2, w2 = w.alloc (.cells #[.slice A y.ty.sizes.length cap, .slice B y.ty.cos.length bap, .slice F y.fs.length fap] 36) := ⟨_, rfl⟩
  have hrow : Row w2 w.heap.size 36 [.slice A y.ty.sizes.length cap, .slice B y.ty.cos.length bap, .slice F y.fs.length fap] := by rw [hw2]; exact Row.new _ _ _
  have HB2 : Hid (Below w.heap.size w w2) := by rw [hw2]; exact h3
  have hl2 := hrow.lt
  have p0 := hrow.cell 0
  have p1 := hrow.cell 1
  have p2 := hrow.cell 2
  simp only [List.getElem?_cons_zero, List.getElem?_cons_succ] at p0 p1 p2
  rw [← hw2]
  have Hp01 := Lib.hid (And.intro p0 p1)
  clear hw2 h3 hrow
  obtain ⟨b, off, A1, cap1, A2, cap2, rfl, _, hbh, d0, d1, d2, d3, _, _, _, _, hfi⟩ := (Hf.out.below HB2.out hB).at_ hilt
  obtain ⟨b', off', A3, cap3, A4, cap4, eF, _, _, e0, e1, e2, e3, _, _, _, _, hfk⟩ := (Hf.out.below HB2.out hB).at_ hklt
  obtain ⟨rfl, rfl⟩ : b = b' ∧ off = off' := by simpa using eF
  have Hfi := Lib.hid hfi
  have Hfk := Lib.hid hfk
  have hbW : b < w2.heap.size := by omega
  have Hcf : Hid (∀ u : World, Below w2.heap.size w2.drew u → u.cell? ⟨w.heap.size, 2, none⟩ = some (.slice (some ⟨b, off, none⟩) y.fs.length fap) ∧ u.cell? ⟨b, off + i.toNat * 4, none⟩ = some (.string y.fs[i.toNat].name) ∧ u.cell? ⟨b, off + i.toNat * 4 + 1, none⟩ = some (.slice A1 y.fs[i.toNat].args.length cap1) ∧ u.cell? ⟨b, off + i.toNat * 4 + 2, none⟩ = some (.int .i64 y.fs[i.toNat].res) ∧ u.cell? ⟨b, off + i.toNat * 4 + 3, none⟩ = some (.slice A2 y.fs[i.toNat].table.length cap2) ∧ u.cell? ⟨b, off + k.toNat * 4, none⟩ = some (.string y.fs[k.toNat].name) ∧ u.cell? ⟨b, off + k.toNat * 4 + 1, none⟩ = some (.slice A3 y.fs[k.toNat].args.length cap3) ∧ u.cell? ⟨b, off + k.toNat * 4 + 2, none⟩ = some (.int .i64 y.fs[k.toNat].res) ∧ u.cell? ⟨b, off + k.toNat * 4 + 3, none⟩ = some (.slice A4 y.fs[k.toNat].table.length cap4)) := fun u hu =>
    ⟨(hu.cell (p := ⟨w.heap.size, 2, none⟩) (by dsimp only; omega)).trans p2, (hu.cell (p := ⟨b, off + i.toNat * 4, none⟩) hbW).trans d0, (hu.cell (p := ⟨b, off + i.toNat * 4 + 1, none⟩) hbW).trans d1, (hu.cell (p := ⟨b, off + i.toNat * 4 + 2, none⟩) hbW).trans d2, (hu.cell (p := ⟨b, off + i.toNat * 4 + 3, none⟩) hbW).trans d3, (hu.cell (p := ⟨b, off + k.toNat * 4, none⟩) hbW).trans e0, (hu.cell (p := ⟨b, off + k.toNat * 4 + 1, none⟩) hbW).trans e1, (hu.cell (p := ⟨b, off + k.toNat * 4 + 2, none⟩) hbW).trans e2, (hu.cell (p := ⟨b, off + k.toNat * 4 + 3, none⟩) hbW).trans e3⟩
  clear d0 d1 d2 d3 e0 e1 e2 e3 hfi hfk eF p0 p1 p2
  refine wp_region_inv (by kernel_rfl) (fun f a u => ∃ x0 x1 x2 x3 x4 x5 x6 x7 x8 x9 y_ z_, a = ⟨#[.agg #[.slice A y.ty.sizes.length cap, .slice B y.ty.cos.length bap, .slice (some ⟨b, off, none⟩) y.fs.length fap], .int .i64 i, .int .i64 k, .pointer (some ⟨w.heap.size, 0, none⟩), undef, undef, .bool false, y_, z_, undef, undef, undef, x0, x1, x2, x3, x4, x5, x6, x7, x8, x9, undef, undef, undef, undef, undef, undef, undef, undef, undef, undef, undef, undef, undef, undef, undef, undef, undef, undef, undef, undef, undef, undef, undef, undef, undef, undef, undef, undef, undef, undef, undef, undef, undef, undef, undef, undef], []⟩ ∧ TwoF w2.drew w.heap.size (.slice (some ⟨b, off, none⟩) y.fs.length fap) (.int .i64 i) (.int .i64 k) (.pointer (some ⟨b, off + i.toNat * 4, none⟩)) (.pointer (some ⟨b, off + k.toNat * 4, none⟩)) (.agg #[.string y.fs[i.toNat].name, .slice A1 y.fs[i.toNat].args.length cap1, .int .i64 y.fs[i.toNat].res, .slice A2 y.fs[i.toNat].table.length cap2]) (.agg #[.string y.fs[k.toNat].name, .slice A3 y.fs[k.toNat].args.length cap3, .int .i64 y.fs[k.toNat].res, .slice A4 y.fs[k.toNat].table.length cap4]) [.string y.fs[i.toNat].name, .slice A1 y.fs[i.toNat].args.length cap1, .int .i64 y.fs[i.toNat].res, .slice A2 y.fs[i.toNat].table.length cap2] [.string y.fs[k.toNat].name, .slice A3 y.fs[k.toNat].args.length cap3, .int .i64 y.fs[k.toNat].res, .slice A4 y.fs[k.toNat].table.length cap4] f x0 x1 x2 x3 x4 x5 x6 x7 x8 x9 y_ z_ u) (of_decide_eq_true (by kernel_rfl)) ⟨_, _, _, _, _, _, _, _, _, _, _, _, rfl, ⟨Below.refl _ _, nofun, nofun, nofun, nofun, nofun, nofun, nofun, nofun, nofun, nofun, nofun, nofun, nofun, nofun, nofun, nofun, nofun⟩⟩ ?_ ?_
  · rintro f a u q o ho hfi hdep ⟨x0, x1, x2, x3, x4, x5, x6, x7, x8, x9, y_, z_, rfl, hF⟩
    have hil : q < 14 := by have := (Array.getElem?_eq_some_iff.1 ho).1; simpa using this
    obtain ⟨r0, r1, r2, r3, r4, t1, t2, t3, t4⟩ := Hcf.out u hF.bel
    obtain rfl | rfl | rfl | rfl | rfl | rfl | rfl | rfl | rfl | rfl | rfl | rfl | rfl | rfl : q = 0 ∨ q = 1 ∨ q = 2 ∨ q = 3 ∨ q = 4 ∨ q = 5 ∨ q = 6 ∨ q = 7 ∨ q = 8 ∨ q = 9 ∨ q = 10 ∨ q = 11 ∨ q = 12 ∨ q = 13 := by omega
    all_goals
      obtain rfl := Option.some.inj ho
      refine wpOp_step ho fun K hK => ?_
      simp [Region.binds] at hdep
      clear ho
    · refine if_yes rfl ?_
      have HF := Lib.hid hF
      clear hF
      unfold Oper.wp
      go_simp
      exact hK _ _ ⟨_, _, _, _, _, _, _, _, _, _, _, _, rfl, HF.out.s0⟩
    · have d0 : f 0 = true := by simp [hdep]
      obtain rfl := hF.a0 d0
      refine if_yes rfl ?_
      have HF := Lib.hid hF
      clear hF
      unfold Oper.wp
      go_simp
      exact hK _ _ ⟨_, _, _, _, _, _, _, _, _, _, _, _, rfl, HF.out.s1⟩
    · refine if_yes rfl ?_
      have HF := Lib.hid hF
      clear hF
      unfold Oper.wp
      go_simp
      exact hK _ _ ⟨_, _, _, _, _, _, _, _, _, _, _, _, rfl, HF.out.s2⟩
    · have d1 : f 1 = true := by simp [hdep]
      obtain rfl := hF.a1 d1
      have d2 : f 2 = true := by simp [hdep]
      obtain rfl := hF.a2 d2
      refine if_yes rfl ?_
      have HF := Lib.hid hF
      clear hF
      unfold Oper.wp
      go_simp
      exact hK _ _ ⟨_, _, _, _, _, _, _, _, _, _, _, _, rfl, HF.out.s3⟩
    · have d3 : f 3 = true := by simp [hdep]
      obtain rfl := hF.a3 d3
      refine if_yes rfl ?_
      have HF := Lib.hid hF
      clear hF
      unfold Oper.wp
      go_simp
      exact hK _ _ ⟨_, _, _, _, _, _, _, _, _, _, _, _, rfl, HF.out.s4⟩
    · refine if_yes rfl ?_
      have HF := Lib.hid hF
      clear hF
      unfold Oper.wp
      go_simp
      exact hK _ _ ⟨_, _, _, _, _, _, _, _, _, _, _, _, rfl, HF.out.s5⟩
    · have d5 : f 5 = true := by simp [hdep]
      obtain rfl := hF.a5 d5
      refine if_yes rfl ?_
      have HF := Lib.hid hF
      clear hF
      unfold Oper.wp
      go_simp
      exact hK _ _ ⟨_, _, _, _, _, _, _, _, _, _, _, _, rfl, HF.out.s6⟩
    · refine if_yes rfl ?_
      have HF := Lib.hid hF
      clear hF
      unfold Oper.wp
      go_simp
      exact hK _ _ ⟨_, _, _, _, _, _, _, _, _, _, _, _, rfl, HF.out.s7⟩
    · have d6 : f 6 = true := by simp [hdep]
      obtain rfl := hF.a6 d6
      have d7 : f 7 = true := by simp [hdep]
      obtain rfl := hF.a7 d7
      refine if_yes rfl ?_
      have HF := Lib.hid hF
      clear hF
      unfold Oper.wp
      go_simp
      exact hK _ _ ⟨_, _, _, _, _, _, _, _, _, _, _, _, rfl, HF.out.s8⟩
    · have d8 : f 8 = true := by simp [hdep]
      obtain rfl := hF.a8 d8
      refine if_yes rfl ?_
      have HF := Lib.hid hF
      clear hF
      unfold Oper.wp
      go_simp
      exact hK _ _ ⟨_, _, _, _, _, _, _, _, _, _, _, _, rfl, HF.out.s9⟩
    · refine if_yes rfl ?_
      have HF := Lib.hid hF
      clear hF
      unfold Oper.wp
      go_simp
      exact hK _ _ ⟨_, _, _, _, _, _, _, _, _, _, _, _, rfl, HF.out.s10 hfi⟩
    · refine if_yes rfl ?_
      have HF := Lib.hid hF
      clear hF
      unfold Oper.wp
      go_simp
      exact hK _ _ ⟨_, _, _, _, _, _, _, _, _, _, _, _, rfl, HF.out.s11 hfi⟩
    · have d10 : f 10 = true := by simp [hdep]
      have d4 : f 4 = true := by simp [hdep]
      obtain rfl := hF.a4 d4
      obtain ⟨p, hp, rfl, hrow⟩ := hF.b0 d10 hfi
      have m0 := hrow.cell 0
      have m1 := hrow.cell 1
      have m2 := hrow.cell 2
      have m3 := hrow.cell 3
      have n0 := hrow.frozen 0
      have n1 := hrow.frozen 1
      have n2 := hrow.frozen 2
      have n3 := hrow.frozen 3
      unfold zeroFu at m0 m1 m2 m3
      simp only [List.getElem?_cons_zero, List.getElem?_cons_succ] at m0 m1 m2 m3
      refine if_yes rfl ?_
      have HF := Lib.hid hF
      have Hrow := Lib.hid hrow
      clear hF hrow r0 r1 r2 r3 r4 t1 t2 t3 t4
      unfold Oper.wp
      go_simp
      exact hK _ _ ⟨_, _, _, _, _, _, _, _, _, _, _, _, rfl, HF.out.s12 d10 hp Hrow.out⟩
    · have d11 : f 11 = true := by simp [hdep]
      have d9 : f 9 = true := by simp [hdep]
      obtain rfl := hF.a9 d9
      obtain ⟨p, hp, rfl, hrow⟩ := hF.b1 d11 hfi
      have m0 := hrow.cell 0
      have m1 := hrow.cell 1
      have m2 := hrow.cell 2
      have m3 := hrow.cell 3
      have n0 := hrow.frozen 0
      have n1 := hrow.frozen 1
      have n2 := hrow.frozen 2
      have n3 := hrow.frozen 3
      unfold zeroFu at m0 m1 m2 m3
      simp only [List.getElem?_cons_zero, List.getElem?_cons_succ] at m0 m1 m2 m3
      refine if_yes rfl ?_
      have HF := Lib.hid hF
      have Hrow := Lib.hid hrow
      clear hF hrow r0 r1 r2 r3 r4 t1 t2 t3 t4
      unfold Oper.wp
      go_simp
      exact hK _ _ ⟨_, _, _, _, _, _, _, _, _, _, _, _, rfl, HF.out.s13 d11 hp Hrow.out⟩
  · rintro f a u hall ⟨x0, x1, x2, x3, x4, x5, x6, x7, x8, x9, y_, z_, rfl, hF⟩
    have g : ∀ j, j < 14 → f j = true := fun j hj => hall j (by simpa using hj)
    obtain rfl := hF.a0 (g 0 (by omega))
    obtain rfl := hF.a1 (g 1 (by omega))
    obtain rfl := hF.a2 (g 2 (by omega))
    obtain rfl := hF.a3 (g 3 (by omega))
    obtain rfl := hF.a4 (g 4 (by omega))
    obtain rfl := hF.a5 (g 5 (by omega))
    obtain rfl := hF.a6 (g 6 (by omega))
    obtain rfl := hF.a7 (g 7 (by omega))
    obtain rfl := hF.a8 (g 8 (by omega))
    obtain rfl := hF.a9 (g 9 (by omega))
    obtain ⟨p, hp, rfl, hrp⟩ := hF.b2 (g 12 (by omega))
    obtain ⟨q, hq, rfl, hrq⟩ := hF.b3 (g 13 (by omega))
    have hbu : Below w2.heap.size w2 u := ⟨hF.bel.os, hF.bel.tape, hF.bel.output, hF.bel.size, hF.bel.block⟩
    clear hF hall g
    have hbW2 : Below w.heap.size w u := HB2.out.trans (hbu.mono HB2.out.size)
    have r0 := (hbu.cell (p := ⟨w.heap.size, 0, none⟩) hl2).trans Hp01.out.1
    have r1 := (hbu.cell (p := ⟨w.heap.size, 1, none⟩) hl2).trans Hp01.out.2
    have s0 := hrp.cell 0
    have s1 := hrp.cell 1
    have t0 := hrq.cell 0
    have t1 := hrq.cell 1
    simp only [List.getElem?_cons_zero, List.getElem?_cons_succ] at s0 s1 t0 t1
    have hsu := hbu.size
    have Hai := Lib.hid (Hfi.out.2.2.2.2.1.below hbu (Nat.le_trans hB HB2.out.size))
    have Hak := Lib.hid (Hfk.out.2.2.2.2.1.below hbu (Nat.le_trans hB HB2.out.size))
    have HT := Lib.hid (Hty.out.below hbW2 hB)
    have HbW := Lib.hid hbW2
    have hBu : hi ≤ u.heap.size := Nat.le_trans hB hbW2.size
    have HgI : Hid (y.fs.getD i.toNat default = y.fs[i.toNat]) := getD_of hilt
    have HgK : Hid (y.fs.getD k.toNat default = y.fs[k.toNat]) := getD_of hklt
    have Hrp := Lib.hid hrp
    have Hrq := Lib.hid hrq
    have hql := hrq.lt
    have hpl := hrp.lt
    have hlu : w.heap.size < u.heap.size := Nat.lt_of_lt_of_le hl2 hsu
    clear hbu hbW2 hrp hrq hp hq
    have H : Hid (belowB y i k = true ↔ y.fs[i.toNat].name = y.fs[k.toNat].name ∧ FitsTo y.ty y.fs[i.toNat].args y.fs[k.toNat].args) := by
      show _ ↔ _
      rw [belowB_iff]
      unfold BelowP
      rw [HgI.out, HgK.out]
      exact ⟨fun h => h.2.2, fun h => ⟨C1.out, C2.out, h⟩⟩
    have Hno : Hid (¬ (y.fs[i.toNat].name = y.fs[k.toNat].name ∧ FitsTo y.ty y.fs[i.toNat].args y.fs[k.toNat].args) → belowB y i k = false) := fun h => by
      cases e : belowB y i k with
      | false => rfl
      | true => exact absurd (H.out.1 e) h
    by_cases he : y.fs[i.toNat].name = y.fs[k.toNat].name
    case neg =>
      have hnm : ¬ y.fs[i.toNat].name.toList = y.fs[k.toNat].name.toList := fun h => he (bytes_eq h)
      have hfin := Lib.hid (Hno.out fun h => he h.1)
      clear he
      go_wp2
      go_ret
      exact ⟨ret_bool hfin.out.symm, HbW.out⟩
    have hnm : y.fs[i.toNat].name.toList = y.fs[k.toNat].name.toList := by rw [he]
    have He := Lib.hid he
    clear he
    by_cases hlen : y.fs[i.toNat].args.length = y.fs[k.toNat].args.length
    case neg =>
      have hd : ((y.fs[i.toNat].args.length : Int) != (y.fs[k.toNat].args.length : Int)) = true := by simp; omega
      have hfin := Lib.hid (Hno.out fun h => hlen h.2.1)
      clear hlen
      go_wp2
      go_ret
      exact ⟨ret_bool hfin.out.symm, HbW.out⟩
    have hd : ((y.fs[i.toNat].args.length : Int) != (y.fs[k.toNat].args.length : Int)) = false := by simp [hlen]
    have Hlen := Lib.hid hlen
    have hsm : y.fs[k.toNat].args.length ≤ 2 := (Hsy.out.each _ hklt).few
    clear hlen
    go_wp2
    obtain ⟨wf, hwf⟩ : ∃ wf, wf = u.alloc (.cells #[.slice A y.ty.sizes.length cap, .slice B y.ty.cos.length bap] 132) := ⟨_, rfl⟩
    have hfr : Row wf u.heap.size 132 [.slice A y.ty.sizes.length cap, .slice B y.ty.cos.length bap] := by rw [hwf]; exact Row.new _ _ _
    have huf : Below u.heap.size u wf := by rw [hwf]; exact (Below.refl _ _).alloc (Nat.le_refl _) _
    rw [← hwf]
    have Hfr := Lib.hid hfr
    have Huf := Lib.hid huf
    have hfl := hfr.lt
    have Hufs := Lib.hid huf.size
    clear hwf hfr huf r0 r1 s0 s1 t0 t1 hd hnm
    go_loopw [43] (fun r wr => ∃ j : Nat, j ≤ y.fs[i.toNat].args.length ∧ r = .int .i64 j ∧ Hid (Below wf.heap.size wf wr) ∧ Hid (∀ n, n < j → canB y.ty (y.fs[i.toNat].args.getD n 0) (y.fs[k.toNat].args.getD n 0) = true)) (fun r _ => y.fs[i.toNat].args.length - (intOf r).toNat)
    case atStart => exact ⟨0, Nat.zero_le _, rfl, Below.refl _ _, fun n hn => absurd hn (by omega)⟩
    case round =>
      obtain ⟨j, hj, rfl, hbr, hok2⟩ := hrel
      have hsr := hbr.out.size
      have Hur : Hid (Below u.heap.size u wr) := Huf.out.trans (hbr.out.mono Hufs.out)
      have HWr : Hid (Below w.heap.size w wr) := HbW.out.trans (Hur.out.mono HbW.out.size)
      by_cases hjl : j < y.fs[i.toNat].args.length
      · have hjk : j < y.fs[k.toNat].args.length := by have := Hlen.out; omega
        have t1 := (Hrq.out.below Hur.out hql).cell 1
        simp only [List.getElem?_cons_zero, List.getElem?_cons_succ] at t1
        have hqw : q < wr.heap.size := Nat.lt_of_lt_of_le hql Hur.out.size
        obtain ⟨g1, o1, rfl, _, _, e1, _⟩ := (Hai.out.below Hur.out hBu).at_ hjl
        obtain ⟨g2, o2, rfl, _, _, e2, _⟩ := (Hak.out.below Hur.out hBu).at_ hjk
        have htb := Lib.hid (typesB_mk Hsy.out.ty ((Hsy.out.each _ hilt).args j hjl) ((Hsy.out.each _ hklt).args j hjk))
        have HTr := Lib.hid (HT.out.below Hur.out hBu)
        have Hrr := Lib.hid (Hfr.out.below hbr.out hfl)
        have hBr : hi ≤ wr.heap.size := Nat.le_trans hBu Hur.out.size
        have hg : Hid (canB y.ty (y.fs[i.toNat].args.getD j 0) (y.fs[k.toNat].args.getD j 0) = canB y.ty y.fs[i.toNat].args[j] y.fs[k.toNat].args[j]) := by show _ = _; rw [getD_of hjl, getD_of hjk]
        have hjI : (j : Int) < (y.fs[k.toNat].args.length : Int) := by omega
        by_cases hc : canB y.ty y.fs[i.toNat].args[j] y.fs[k.toNat].args[j] = true
        · have hok3 : Hid (∀ n, n < j + 1 → canB y.ty (y.fs[i.toNat].args.getD n 0) (y.fs[k.toNat].args.getD n 0) = true) := fun n hn => by
            by_cases e : n = j
            · subst e; rw [hg.out]; exact hc
            · exact hok2.out n (by omega)
          have Hc := Lib.hid hc
          clear hc
          go_wp2_with (go_at_call 128; refine (leads_any lo hi u.heap.size _ _ y.ty _ _ wr HTr.out hBr Hrr.out htb.out).mono ?_; rintro e w' ⟨rfl, hbx⟩; rw [Hc.out])
          go_roundw
          case rel => exact ⟨j + 1, by omega, by go_num, hbr.out.trans (hbx.mono hsr), hok3⟩
          case measure => simp [intOf]; omega
        · have hcf : Hid (canB y.ty y.fs[i.toNat].args[j] y.fs[k.toNat].args[j] = false) := by show _ = _; simpa using hc
          have hfin := Lib.hid (Hno.out fun h => hc (by rw [← hg.out]; exact h.2.2 j hjl))
          clear hc
          go_wp2_with (go_at_call 128; refine (leads_any lo hi u.heap.size _ _ y.ty _ _ wr HTr.out hBr Hrr.out htb.out).mono ?_; rintro e w' ⟨rfl, hbx⟩; rw [hcf.out])
          go_ret
          exact ⟨ret_bool hfin.out.symm, HWr.out.trans (hbx.mono HWr.out.size)⟩
      · obtain rfl : j = y.fs[i.toNat].args.length := by omega
        have hfin : Hid (belowB y i k = true) := H.out.2 ⟨He.out, Hlen.out, fun n hn => hok2.out n hn⟩
        go_wp2
        go_ret
        exact ⟨ret_bool hfin.out.symm, HWr.out⟩

set_option maxRecDepth 100000 in
set_option maxHeartbeats 4000000 in
theorem implIsBelow_any (lo hi : Nat) (sv cv fv : Value) (y : Sy) (i k : Int) (w : World) (hv : SyAt w lo hi sv cv fv y) (hB : hi ≤ w.heap.size) (hi64 : I64 i) (hk64 : I64 k) :
    Calls Try.prog 30 #[.agg #[sv, cv, fv], .int .i64 i, .int .i64 k] w fun e w' => e = .returned (.bool (belowB y i k)) ∧ Below w.heap.size w w' := by
  obtain ⟨A, cap, rfl, hl1, hm1, hi1⟩ := hv.1.1.form
  obtain ⟨B, bap, rfl, hl2, hm2, hc1⟩ := hv.1.2.form
  obtain ⟨F, fap, rfl, hl3, hm3, hf1⟩ := hv.2.form
  have h3 : Below w.heap.size w ((w.alloc (.cells #[.slice A y.ty.sizes.length cap, .slice B y.ty.cos.length bap, .slice F y.fs.length fap] 36)).alloc (.cells #[.int .i64 i, .int .i64 k] 3)) := by go_grown
  have hrz : Row ((w.alloc (.cells #[.slice A y.ty.sizes.length cap, .slice B y.ty.cos.length bap, .slice F y.fs.length fap] 36)).alloc (.cells #[.int .i64 i, .int .i64 k] 3)) (w.heap.size + 1) 3 ([i, k].map (Value.int .i64)) := by
    have h := Row.new (w.alloc (.cells #[.slice A y.ty.sizes.length cap, .slice B y.ty.cos.length bap, .slice F y.fs.length fap] 36)) 3 ([i, k].map (Value.int .i64))
    rwa [World.size_alloc] at h
  have hzi := Lib.hid (hrz.ints (lo := w.heap.size + 1) (hi := w.heap.size + 1 + 1) (cap := 2) (by intro z hz; simp at hz; rcases hz with rfl | rfl <;> assumption) (Nat.le_refl _) (by omega) (by simp) (by unfold maxLen; omega))
  have H1 := Lib.hid ((Below.refl (w.heap.size + 1) (w.alloc (.cells #[.slice A y.ty.sizes.length cap, .slice B y.ty.cos.length bap, .slice F y.fs.length fap] 36))).alloc (by simp) (.cells #[.int .i64 i, .int .i64 k] 3))
  have Hv := Lib.hid hv
  clear hi1 hc1 hf1 hv hrz
  have hall : (allIx [i, k] (y.fs.length : Int) && true) = (ixB i y.fs.length && ixB k y.fs.length) := by simp [allIx]
  have HE : Hid ((syB y && allIx [i, k] (y.fs.length : Int)) = true ↔ hasFB y i = true ∧ hasFB y k = true) := by
    show _ ↔ _
    unfold hasFB
    rw [Bool.and_true] at hall
    rw [hall]
    cases syB y <;> cases ixB i (y.fs.length : Int) <;> cases ixB k (y.fs.length : Int) <;> simp
  clear hall
  go_enter Try.func30, Try.ntmps30
  go_wp2_with fail
  refine (hasFunctions_any lo hi _ _ _ _ _ _ y [i, k] _ (Hv.out.below h3 hB) hzi.out (by simp; omega) (by simp)).mono ?_
  rintro e w1 ⟨rfl, hb1⟩
  have H2 := Lib.hid (H1.out.trans (hb1.mono (by simp)))
  obtain ⟨q0, q1, q2, hl, hB1⟩ := box3 H2.out
  have HB1 := Lib.hid hB1
  clear hb1 h3 hB1 H1 hzi
  by_cases c : (syB y && allIx [i, k] (y.fs.length : Int)) = true
  · obtain ⟨d1, d2⟩ := HE.out.1 c
    rw [c]
    clear c
    go_wp2_with fail
    refine (sysIsBelow_any lo hi _ _ _ y i k _ (Hv.out.below HB1.out hB) (by omega) d1 d2).mono ?_
    rintro e w2 ⟨rfl, hb2⟩
    have Hb2 := Lib.hid (HB1.out.trans (hb2.mono (by omega)))
    clear hb2
    go_wp2
    go_ret
    exact ⟨rfl, Hb2.out⟩
  · have cf : (syB y && allIx [i, k] (y.fs.length : Int)) = false := by simpa using c
    have hfin : Hid (belowB y i k = false) := belowB_no fun h => c (HE.out.2 ⟨h.1, h.2.1⟩)
    rw [cf]
    clear c
    go_wp2
    go_ret
    exact ⟨ret_bool hfin.out.symm, HB1.out⟩
end Go.Proofs.Ytilcahidmoaakaa

namespace Go.Proofs.Ytilcahidmoaakaa
open Go.RowKit

set_option maxRecDepth 100000 in
set_option maxHeartbeats 2000000 in
theorem lawBel_walk (sv cv fv : Value) (t : Sy) (i : Int) (k : Int) (w : World) (hv : SyAt w 0 w.heap.size sv cv fv t) (hi64 : I64 i) (hk64 : I64 k) :
    Calls Try.prog 6 #[.agg #[sv, cv, fv], .int .i64 i, .int .i64 k] w fun e w' => e = .returned (.bool true) ∧ Below w.heap.size w w' := by
  obtain ⟨A, cap, rfl, hl1, hm1, _⟩ := hv.1.1.form
  obtain ⟨B, bap, rfl, hl2, hm2, _⟩ := hv.1.2.form
  obtain ⟨F, fap, rfl, hl3, hm3, _⟩ := hv.2.form
  clear hl1 hm1 hl2 hm2 hl3 hm3
  have Hv := Lib.hid hv
  clear hv
  have h1 : Below (w.heap.size + 1) (w.alloc (.cells #[.slice A t.ty.sizes.length cap, .slice B t.ty.cos.length bap, .slice F t.fs.length fap] 28)) (w.alloc (.cells #[.slice A t.ty.sizes.length cap, .slice B t.ty.cos.length bap, .slice F t.fs.length fap] 28)) := Below.refl _ _
  have H1 := Lib.hid h1
  clear h1
  go_enter Try.func6, Try.ntmps6
  go_wp2_with fail
  refine (szSystem_any 0 w.heap.size _ _ _ t 1048576 _ (by omega) (by omega) (Hv.out.below (box3 H1.out).2.2.2.2 (Nat.le_refl _)) (by simp)).mono ?_
  rintro e w2 ⟨rfl, hb2⟩
  have H2 := Lib.hid (H1.out.trans (hb2.mono (by simp)))
  obtain ⟨q0, q1, q2, hl2, _⟩ := box3 H2.out
  clear hb2
  by_cases hbig : (1048576 : Int) - t.bulk < 0
  · rw [subI_neg hbig]
    go_wp2
    go_ret
    exact ⟨rfl, (box3 H2.out).2.2.2.2⟩
  · rw [subI_pos hbig]
    have hbk : Hid (t.bulk ≤ 1048576) := by show t.bulk ≤ 1048576; omega
    go_wp2_with fail
    refine (toSystem_any 0 w.heap.size _ _ _ t _ (Hv.out.below (box3 H2.out).2.2.2.2 (Nat.le_refl _)) (by omega) hbk.out).mono ?_
    rintro e w3 ⟨rfl, hb3, hs3, hn3⟩
    have H3 := Lib.hid (H2.out.trans (hb3.mono (by omega)))
    have hat := Lib.hid (hn3.at_ Hv.out.fits hbk.out)
    clear hb3 hn3 q0 q1 q2
    have Hs3 := Lib.hid hs3
    clear hs3
    go_wp2_with fail
    refine (specIsBelow_any _ _ _ _ _ t i k _ hat.out (by have := Hs3.out; omega)).mono ?_
    rintro e w4 ⟨rfl, hb4⟩
    have h34 := H3.out.size
    have H4 := Lib.hid (H3.out.trans (hb4.mono (by simp only [World.size_alloc] at h34; omega)))
    obtain ⟨q0, q1, q2, hl4, _⟩ := box3 H4.out
    clear hb4 h34 hat Hs3
    go_wp2_with fail
    refine (toSystem_any 0 w.heap.size _ _ _ t _ (Hv.out.below (box3 H4.out).2.2.2.2 (Nat.le_refl _)) (by omega) hbk.out).mono ?_
    rintro e w5 ⟨rfl, hb5, hs5, hn5⟩
    have H5 := Lib.hid (H4.out.trans (hb5.mono (by omega)))
    have hat := Lib.hid (hn5.at_ Hv.out.fits hbk.out)
    obtain ⟨q0', q1', q2', hl5, _⟩ := box3 H5.out
    clear hb5 hn5 q0 q1 q2
    have Hs5 := Lib.hid hs5
    clear hs5
    go_wp2_with fail
    have hb50 : Below w5.heap.size w5 (w5.alloc (.cells #[.slice (some ⟨w4.heap.size + 6, 0, none⟩) t.ty.sizes.length t.ty.sizes.length, .slice (some ⟨w4.heap.size + 7, 0, none⟩) t.ty.cos.length t.ty.cos.length, .slice (some ⟨w4.heap.size + 8 + 4 * t.ty.cos.length, 0, none⟩) t.fs.length t.fs.length] 36)) := (Below.refl _ _).alloc (Nat.le_refl _) _
    have hat5 := Lib.hid (hat.out.below hb50 (by have := Hs5.out; omega))
    clear hb50
    refine (implIsBelow_any _ _ _ _ _ t i k _ hat5.out (by have := Hs5.out; simp; omega) hi64 hk64).mono ?_
    rintro e w6 ⟨rfl, hb6⟩
    have hx6 : Below (w5.heap.size + 1) (w5.alloc (.cells #[.slice (some ⟨w4.heap.size + 6, 0, none⟩) t.ty.sizes.length t.ty.sizes.length, .slice (some ⟨w4.heap.size + 7, 0, none⟩) t.ty.cos.length t.ty.cos.length, .slice (some ⟨w4.heap.size + 8 + 4 * t.ty.cos.length, 0, none⟩) t.fs.length t.fs.length] 36)) w6 := hb6.mono (by simp)
    have H6 := Lib.hid ((H5.out.alloc (by omega) _).trans (hb6.mono (by simp; omega)))
    obtain ⟨q0, q1, q2, hl6, _⟩ := box3 H6.out
    obtain ⟨x0, x1, x2, hl65, hb56⟩ := box3 hx6
    have hat6 := Lib.hid (hat.out.below hb56 (by have := Hs5.out; omega))
    clear hb6 hx6 q0' q1' q2' hat5 hat
    have hbne : (belowB t i k != belowB t i k) = false := by simp
    have Hb56 := Lib.hid hb56
    clear hb56
    go_wp2_with fail
    have H6d : Hid (Below (w.heap.size + 1) (w.alloc (.cells #[.slice A t.ty.sizes.length cap, .slice B t.ty.cos.length bap, .slice F t.fs.length fap] 28)) w6.drew) := H6.out.drew
    have hat6d : Hid (SyAt w6.drew _ _ _ _ _ t) := hat6.out
    have k6 : w6.drew.cell? ⟨w.heap.size, 0, none⟩ = some (.slice A t.ty.sizes.length cap) ∧ w6.drew.cell? ⟨w.heap.size, 1, none⟩ = some (.slice B t.ty.cos.length bap) ∧ w6.drew.cell? ⟨w.heap.size, 2, none⟩ = some (.slice F t.fs.length fap) ∧ w6.drew.cell? ⟨w5.heap.size, 0, none⟩ = some (.slice (some ⟨w4.heap.size + 6, 0, none⟩) t.ty.sizes.length t.ty.sizes.length) ∧ w6.drew.cell? ⟨w5.heap.size, 1, none⟩ = some (.slice (some ⟨w4.heap.size + 7, 0, none⟩) t.ty.cos.length t.ty.cos.length) ∧ w6.drew.cell? ⟨w5.heap.size, 2, none⟩ = some (.slice (some ⟨w4.heap.size + 8 + 4 * t.ty.cos.length, 0, none⟩) t.fs.length t.fs.length) := ⟨q0, q1, q2, x0, x1, x2⟩
    have K6 := Lib.hid k6
    clear k6
    go_region_held3 (fun w' => w'.cell? ⟨w.heap.size, 0, none⟩ = some (.slice A t.ty.sizes.length cap) ∧ w'.cell? ⟨w.heap.size, 1, none⟩ = some (.slice B t.ty.cos.length bap) ∧ w'.cell? ⟨w.heap.size, 2, none⟩ = some (.slice F t.fs.length fap) ∧ w'.cell? ⟨w5.heap.size, 0, none⟩ = some (.slice (some ⟨w4.heap.size + 6, 0, none⟩) t.ty.sizes.length t.ty.sizes.length) ∧ w'.cell? ⟨w5.heap.size, 1, none⟩ = some (.slice (some ⟨w4.heap.size + 7, 0, none⟩) t.ty.cos.length t.ty.cos.length) ∧ w'.cell? ⟨w5.heap.size, 2, none⟩ = some (.slice (some ⟨w4.heap.size + 8 + 4 * t.ty.cos.length, 0, none⟩) t.fs.length t.fs.length))
      (first | exact K6.out | exact K7.out | exact K8.out)
      (first
        | (go_at_call 17
           refine (toSystem_any 0 w.heap.size _ _ _ t w6.drew (Hv.out.below (box3 H6d.out).2.2.2.2 (Nat.le_refl _)) (Nat.le_of_lt (box3 H6d.out).2.2.2.1) hbk.out).mono ?_
           rintro e w7 ⟨rfl, hb7, hs7, hn7⟩
           have H7 := Lib.hid (H6d.out.trans (hb7.mono (box3 H6d.out).2.2.2.1))
           have hat7 := Lib.hid (hn7.at_ Hv.out.fits hbk.out)
           have hat67 := Lib.hid (hat6d.out.below hb7 (by have := Hs5.out; show _ ≤ w6.heap.size; omega))
           have Hs7 := Lib.hid hs7
           have hb7s := hb7.size
           have hb67 : w6.heap.size ≤ w7.heap.size := hb7s
           have K7 : Hid (w7.cell? ⟨w.heap.size, 0, none⟩ = some (.slice A t.ty.sizes.length cap) ∧ w7.cell? ⟨w.heap.size, 1, none⟩ = some (.slice B t.ty.cos.length bap) ∧ w7.cell? ⟨w.heap.size, 2, none⟩ = some (.slice F t.fs.length fap) ∧ w7.cell? ⟨w5.heap.size, 0, none⟩ = some (.slice (some ⟨w4.heap.size + 6, 0, none⟩) t.ty.sizes.length t.ty.sizes.length) ∧ w7.cell? ⟨w5.heap.size, 1, none⟩ = some (.slice (some ⟨w4.heap.size + 7, 0, none⟩) t.ty.cos.length t.ty.cos.length) ∧ w7.cell? ⟨w5.heap.size, 2, none⟩ = some (.slice (some ⟨w4.heap.size + 8 + 4 * t.ty.cos.length, 0, none⟩) t.fs.length t.fs.length)) :=
             ⟨(box3 H7.out).1, (box3 H7.out).2.1, (box3 H7.out).2.2.1, (hb7.cell (p := ⟨w5.heap.size, 0, none⟩) hl65).trans K6.out.2.2.2.1, (hb7.cell (p := ⟨w5.heap.size, 1, none⟩) hl65).trans K6.out.2.2.2.2.1, (hb7.cell (p := ⟨w5.heap.size, 2, none⟩) hl65).trans K6.out.2.2.2.2.2⟩
           clear hb7 hn7 hs7 hb7s)
        | (go_at_call 19
           refine (eqSystem_same _ _ _ _ _ _ _ _ _ _ t _ hat67.out hat7.out (by have := Hs5.out; omega) (by have h : w7.heap.size = w6.heap.size + 9 + 4 * t.ty.cos.length + 5 * t.fs.length := Hs7.out; show w6.heap.size + 6 + 3 + 4 * t.ty.cos.length + 5 * t.fs.length ≤ _; omega)).mono ?_
           rintro e w8 ⟨rfl, hb8⟩
           have H8 := Lib.hid (H7.out.trans (hb8.mono (by omega)))
           have K8 : Hid (w8.cell? ⟨w.heap.size, 0, none⟩ = some (.slice A t.ty.sizes.length cap) ∧ w8.cell? ⟨w.heap.size, 1, none⟩ = some (.slice B t.ty.cos.length bap) ∧ w8.cell? ⟨w.heap.size, 2, none⟩ = some (.slice F t.fs.length fap) ∧ w8.cell? ⟨w5.heap.size, 0, none⟩ = some (.slice (some ⟨w4.heap.size + 6, 0, none⟩) t.ty.sizes.length t.ty.sizes.length) ∧ w8.cell? ⟨w5.heap.size, 1, none⟩ = some (.slice (some ⟨w4.heap.size + 7, 0, none⟩) t.ty.cos.length t.ty.cos.length) ∧ w8.cell? ⟨w5.heap.size, 2, none⟩ = some (.slice (some ⟨w4.heap.size + 8 + 4 * t.ty.cos.length, 0, none⟩) t.fs.length t.fs.length)) :=
             ⟨(box3 H8.out).1, (box3 H8.out).2.1, (box3 H8.out).2.2.1, (hb8.cell (p := ⟨w5.heap.size, 0, none⟩) (by dsimp only; omega)).trans K7.out.2.2.2.1, (hb8.cell (p := ⟨w5.heap.size, 1, none⟩) (by dsimp only; omega)).trans K7.out.2.2.2.2.1, (hb8.cell (p := ⟨w5.heap.size, 2, none⟩) (by dsimp only; omega)).trans K7.out.2.2.2.2.2⟩
           clear hb8))
    go_wp2
    go_ret
    exact ⟨rfl, (box3 H8.out).2.2.2.2⟩
end Go.Proofs.Ytilcahidmoaakaa

namespace Go.Proofs.Ytilcahidmoaakaa
open Go.ChangeShapes Go.WideShapes Go.ChangeAt Go.RowKit

set_option maxRecDepth 100000 in
theorem lawBel_lifted (os : Os) (started : os.Started) (H : Type) (enc : TypeId × Value → H) :
    ReturnsInHanded {} Try.checked os 6 .any (Rows.fnExactIsBelowSpec.pre6 enc Try.prog Try.f6 Rows.fnExactIsBelowRow.domain false) (Rows.fnExactIsBelowSpec.post enc Try.prog Try.f6 false true false false) := by
  refine returnsInHanded_of_change (C := Try.checked) Try.own started (by kernel_rfl) Try.func6
    (ChangeSpec.witness6 (enc := enc) (C := Try.checked) false ⟨#[], #[.agg #[.slice none 0 0, .slice none 0 0, .slice none 0 0], .int .i64 0, .int .i64 0], []⟩ 8 (by kernel_rfl) (by kernel_rfl) (by kernel_rfl) (by kernel_rfl)) ?_
  intro W base args ds gs before hval0 hW _ _
  have hval : ∀ (j : Nat) t v, Try.f6.params[j]? = some t → args[j]? = some v → Value.okWide Try.prog W .any base t v := hval0
  have hW' := hW
  obtain ⟨p, q, hA0, hV, rfl, _, _⟩ := hW
  have hA : DataW.TrodAll enc Try.prog W 0 (fun _ => true) true Try.f6.params.toList args.toList ds p := hA0
  rw [Try.params6] at hA hval
  obtain ⟨v0, vs0, d0, ds0, p, q0, hargs, rfl, rfl, h0, r0⟩ := trodAll_cons hA
  obtain ⟨v1, vs1, d1, ds1, p1, q1, rfl, rfl, rfl, h1, r1⟩ := trodAll_cons r0
  obtain ⟨v2, vs2, d2, ds2, p2, q2, rfl, rfl, rfl, h2, r2⟩ := trodAll_cons r1
  obtain ⟨rfl, rfl, rfl⟩ := trodAll_nil r2
  obtain rfl : args = #[v0, v1, v2] := by cases args; simp_all
  obtain ⟨rfl, rfl⟩ := trodVars_none hV
  obtain ⟨i, rfl, rfl, rfl, wi⟩ := open_int Try.underlying3 (hval 1 _ v1 rfl rfl) h1
  obtain ⟨k, rfl, rfl, rfl, wk⟩ := open_int Try.underlying3 (hval 2 _ v2 rfl rfl) h2
  obtain ⟨sv, cv, fv, t, rfl, ht⟩ := open_syAt (hval 0 _ v0 rfl rfl) h0
  have hlt : ∀ x ∈ p, x.block < W.heap.size := fun x hx => by simpa using hW'.lt x (by simp [hx])
  refine (lawBel_walk sv cv fv t i k W ht (wf_I64 wi) (wf_I64 wk)).mono fun e W' ⟨he, hb⟩ => ?_
  subst he
  exact ⟨_, rfl, _, _, _, [], _, [], hW', trodAll_mk1 (shut_bool Try.underlying4 _), trodAll_cons_mk (Below.trod Try.laidOut (by kernel_rfl) (of_decide_eq_true (by kernel_rfl)) h0 hb hlt) (trodAll_cons_mk (shut_int Try.underlying3 wi) (trodAll_cons_mk (shut_int Try.underlying3 wk) trodAll_mk0)), rfl, hb.frame _, fun h => by cases h⟩

theorem bel_holds : Rows.FnExactIsBelowSaid :=
  OpenClaim.holds_of_wide 6 Try.f6 rfl rfl rfl rfl rfl rfl rfl ⟨rfl, rfl, rfl, rfl, rfl⟩ rfl rfl rfl rfl rfl (by kernel_rfl) Try.func6 (by kernel_rfl)
    (of_decide_eq_true (by kernel_rfl)) (by unfold Func.isWrapper; first | (rw [if_pos (by decide +kernel)]; kernel_rfl) | (rw [if_neg (by decide +kernel)]; exact ⟨rfl, rfl⟩))
    (fun os started H enc _ => lawBel_lifted os started H enc)
end Go.Proofs.Ytilcahidmoaakaa

