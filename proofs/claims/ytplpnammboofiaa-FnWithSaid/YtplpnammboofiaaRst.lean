/-
  The same, operation by operation.
-/
import Derived.Test.YtplpnammboofiaaRfacts
namespace Go.Proofs.Ytplpnammboofiaa
open Go.RowKit
section
variable {lo hi N T : Nat} {w4 u : World} {cos : List Co} {s l c0 c1 c2 : Value} {f : Nat → Bool} {x6 x11 x12 x13 x14 x15 x16 x17 x18 x19 x20 : Value}
theorem RFacts.s0 (h : RFacts lo hi N T w4 cos s l c0 c1 c2 f x6 x11 x12 x13 x14 x15 x16 x17 x18 x19 x20 u) : RFacts lo hi N T w4 cos s l c0 c1 c2 (fun k => decide (k = 0) || f k) x6 (.pointer (some ⟨T, 0, none⟩)) x12 x13 x14 x15 x16 x17 x18 x19 x20 u where
  bel := h.bel
  a0 := fun _ => rfl
  a1 := fun e => h.a1 (by simpa using e)
  a2 := fun e e2 => h.a2 (by simpa using e) (by simpa using e2)
  a3 := fun e => h.a3 (by simpa using e)
  a4 := fun e => h.a4 (by simpa using e)
  a5 := fun e e2 => h.a5 (by simpa using e) (by simpa using e2)
  a6 := fun e => h.a6 (by simpa using e)
  a7 := fun e e2 => h.a7 (by simpa using e) (by simpa using e2)
  a8 := fun e => h.a8 (by simpa using e)
  a9 := fun e => h.a9 (by simpa using e)
  a10 := fun e e2 => h.a10 (by simpa using e) (by simpa using e2)
  a11 := fun e => h.a11 (by simpa using e)
theorem RFacts.s1 (h : RFacts lo hi N T w4 cos s l c0 c1 c2 f x6 x11 x12 x13 x14 x15 x16 x17 x18 x19 x20 u) : RFacts lo hi N T w4 cos s l c0 c1 c2 (fun k => decide (k = 1) || f k) x6 x11 s x13 x14 x15 x16 x17 x18 x19 x20 u where
  bel := h.bel
  a0 := fun e => h.a0 (by simpa using e)
  a1 := fun _ => rfl
  a2 := fun e e2 => h.a2 (by simpa using e) (by simpa using e2)
  a3 := fun e => h.a3 (by simpa using e)
  a4 := fun e => h.a4 (by simpa using e)
  a5 := fun e e2 => h.a5 (by simpa using e) (by simpa using e2)
  a6 := fun e => h.a6 (by simpa using e)
  a7 := fun e e2 => h.a7 (by simpa using e) (by simpa using e2)
  a8 := fun e => h.a8 (by simpa using e)
  a9 := fun e => h.a9 (by simpa using e)
  a10 := fun e e2 => h.a10 (by simpa using e) (by simpa using e2)
  a11 := fun e => h.a11 (by simpa using e)
theorem RFacts.s2 (h : RFacts lo hi N T w4 cos s l c0 c1 c2 f x6 x11 x12 x13 x14 x15 x16 x17 x18 x19 x20 u) {b : Nat} (hb : N ≤ b) (hr : Row u b 28 []) : RFacts lo hi N T w4 cos s l c0 c1 c2 (fun k => decide (k = 2) || f k) x6 x11 x12 (.slice (some ⟨b, 0, none⟩) 0 0) x14 x15 x16 x17 x18 x19 x20 u where
  bel := h.bel
  a0 := fun e => h.a0 (by simpa using e)
  a1 := fun e => h.a1 (by simpa using e)
  a2 := fun _ _ => ⟨b, hb, rfl, hr⟩
  a3 := fun e => h.a3 (by simpa using e)
  a4 := fun e => h.a4 (by simpa using e)
  a5 := fun e e2 => h.a5 (by simpa using e) (by simpa using e2)
  a6 := fun e => h.a6 (by simpa using e)
  a7 := fun e e2 => h.a7 (by simpa using e) (by simpa using e2)
  a8 := fun e => h.a8 (by simpa using e)
  a9 := fun e => h.a9 (by simpa using e)
  a10 := fun e e2 => h.a10 (by simpa using e) (by simpa using e2)
  a11 := fun e => h.a11 (by simpa using e)
theorem RFacts.s3 (h : RFacts lo hi N T w4 cos s l c0 c1 c2 f x6 x11 x12 x13 x14 x15 x16 x17 x18 x19 x20 u) : RFacts lo hi N T w4 cos s l c0 c1 c2 (fun k => decide (k = 3) || f k) x6 x11 x12 x13 (.pointer (some ⟨T, 1, none⟩)) x15 x16 x17 x18 x19 x20 u where
  bel := h.bel
  a0 := fun e => h.a0 (by simpa using e)
  a1 := fun e => h.a1 (by simpa using e)
  a2 := fun e e2 => h.a2 (by simpa using e) (by simpa using e2)
  a3 := fun _ => rfl
  a4 := fun e => h.a4 (by simpa using e)
  a5 := fun e e2 => h.a5 (by simpa using e) (by simpa using e2)
  a6 := fun e => h.a6 (by simpa using e)
  a7 := fun e e2 => h.a7 (by simpa using e) (by simpa using e2)
  a8 := fun e => h.a8 (by simpa using e)
  a9 := fun e => h.a9 (by simpa using e)
  a10 := fun e e2 => h.a10 (by simpa using e) (by simpa using e2)
  a11 := fun e => h.a11 (by simpa using e)
theorem RFacts.s4 (h : RFacts lo hi N T w4 cos s l c0 c1 c2 f x6 x11 x12 x13 x14 x15 x16 x17 x18 x19 x20 u) : RFacts lo hi N T w4 cos s l c0 c1 c2 (fun k => decide (k = 4) || f k) x6 x11 x12 x13 x14 l x16 x17 x18 x19 x20 u where
  bel := h.bel
  a0 := fun e => h.a0 (by simpa using e)
  a1 := fun e => h.a1 (by simpa using e)
  a2 := fun e e2 => h.a2 (by simpa using e) (by simpa using e2)
  a3 := fun e => h.a3 (by simpa using e)
  a4 := fun _ => rfl
  a5 := fun e e2 => h.a5 (by simpa using e) (by simpa using e2)
  a6 := fun e => h.a6 (by simpa using e)
  a7 := fun e e2 => h.a7 (by simpa using e) (by simpa using e2)
  a8 := fun e => h.a8 (by simpa using e)
  a9 := fun e => h.a9 (by simpa using e)
  a10 := fun e e2 => h.a10 (by simpa using e) (by simpa using e2)
  a11 := fun e => h.a11 (by simpa using e)
theorem RFacts.s6 (h : RFacts lo hi N T w4 cos s l c0 c1 c2 f x6 x11 x12 x13 x14 x15 x16 x17 x18 x19 x20 u) : RFacts lo hi N T w4 cos s l c0 c1 c2 (fun k => decide (k = 6) || f k) x6 x11 x12 x13 x14 x15 x16 (.agg #[c0, c1, c2]) x18 x19 x20 u where
  bel := h.bel
  a0 := fun e => h.a0 (by simpa using e)
  a1 := fun e => h.a1 (by simpa using e)
  a2 := fun e e2 => h.a2 (by simpa using e) (by simpa using e2)
  a3 := fun e => h.a3 (by simpa using e)
  a4 := fun e => h.a4 (by simpa using e)
  a5 := fun e e2 => h.a5 (by simpa using e) (by simpa using e2)
  a6 := fun _ => rfl
  a7 := fun e e2 => h.a7 (by simpa using e) (by simpa using e2)
  a8 := fun e => h.a8 (by simpa using e)
  a9 := fun e => h.a9 (by simpa using e)
  a10 := fun e e2 => h.a10 (by simpa using e) (by simpa using e2)
  a11 := fun e => h.a11 (by simpa using e)
theorem RFacts.s7 (h : RFacts lo hi N T w4 cos s l c0 c1 c2 f x6 x11 x12 x13 x14 x15 x16 x17 x18 x19 x20 u) {b : Nat} (hb : N ≤ b) (hr : Row u b 28 [c0, c1, c2]) : RFacts lo hi N T w4 cos s l c0 c1 c2 (fun k => decide (k = 7) || f k) x6 x11 x12 x13 x14 x15 x16 x17 (.slice (some ⟨b, 0, none⟩) 1 1) x19 x20 u where
  bel := h.bel
  a0 := fun e => h.a0 (by simpa using e)
  a1 := fun e => h.a1 (by simpa using e)
  a2 := fun e e2 => h.a2 (by simpa using e) (by simpa using e2)
  a3 := fun e => h.a3 (by simpa using e)
  a4 := fun e => h.a4 (by simpa using e)
  a5 := fun e e2 => h.a5 (by simpa using e) (by simpa using e2)
  a6 := fun e => h.a6 (by simpa using e)
  a7 := fun _ _ => ⟨b, hb, rfl, hr⟩
  a8 := fun e => h.a8 (by simpa using e)
  a9 := fun e => h.a9 (by simpa using e)
  a10 := fun e e2 => h.a10 (by simpa using e) (by simpa using e2)
  a11 := fun e => h.a11 (by simpa using e)
theorem RFacts.s9 (h : RFacts lo hi N T w4 cos s l c0 c1 c2 f x6 x11 x12 x13 x14 x15 x16 x17 x18 x19 x20 u) : RFacts lo hi N T w4 cos s l c0 c1 c2 (fun k => decide (k = 9) || f k) x6 x11 x12 x13 x14 x15 x16 x17 x18 x19 (.agg #[s, x19]) u where
  bel := h.bel
  a0 := fun e => h.a0 (by simpa using e)
  a1 := fun e => h.a1 (by simpa using e)
  a2 := fun e e2 => h.a2 (by simpa using e) (by simpa using e2)
  a3 := fun e => h.a3 (by simpa using e)
  a4 := fun e => h.a4 (by simpa using e)
  a5 := fun e e2 => h.a5 (by simpa using e) (by simpa using e2)
  a6 := fun e => h.a6 (by simpa using e)
  a7 := fun e e2 => h.a7 (by simpa using e) (by simpa using e2)
  a8 := fun e => h.a8 (by simpa using e)
  a9 := fun _ => rfl
  a10 := fun e e2 => h.a10 (by simpa using e) (by simpa using e2)
  a11 := fun e => h.a11 (by simpa using e)
theorem RFacts.s10 (h : RFacts lo hi N T w4 cos s l c0 c1 c2 f x6 x11 x12 x13 x14 x15 x16 x17 x18 x19 x20 u) {b : Nat} (hb : N ≤ b) (hr : Row u b 26 [.slice none 0 0, .slice none 0 0]) (hf11 : f 11 = false) : RFacts lo hi N T w4 cos s l c0 c1 c2 (fun k => decide (k = 10) || f k) (.pointer (some ⟨b, 0, none⟩)) x11 x12 x13 x14 x15 x16 x17 x18 x19 x20 u where
  bel := h.bel
  a0 := fun e => h.a0 (by simpa using e)
  a1 := fun e => h.a1 (by simpa using e)
  a2 := fun e e2 => h.a2 (by simpa using e) (by simpa using e2)
  a3 := fun e => h.a3 (by simpa using e)
  a4 := fun e => h.a4 (by simpa using e)
  a5 := fun e e2 => h.a5 (by simpa using e) (by simpa using e2)
  a6 := fun e => h.a6 (by simpa using e)
  a7 := fun e e2 => h.a7 (by simpa using e) (by simpa using e2)
  a8 := fun e => h.a8 (by simpa using e)
  a9 := fun e => h.a9 (by simpa using e)
  a10 := fun _ _ => ⟨b, hb, rfl, hr⟩
  a11 := fun e => by simp [hf11] at e
theorem RFacts.s11 {q : Nat} (h : RFacts lo hi N T w4 cos s l c0 c1 c2 f (.pointer (some ⟨q, 0, none⟩)) x11 x12 x13 x14 x15 x16 x17 x18 x19 x20 u) (_hN : N ≤ u.heap.size) (hh : hi ≤ N) (hf5 : f 5 = true) (hf8 : f 8 = true) (hq : N ≤ q) (hr : Row u q 26 [.slice none 0 0, .slice none 0 0]) :
    RFacts lo hi N T w4 cos s l c0 c1 c2 (fun k => decide (k = 11) || f k) (.pointer (some ⟨q, 0, none⟩)) x11 x12 x13 x14 x15 x16 x17 x18 x19 x20 ((u.setCell ⟨q, 0, none⟩ s).setCell ⟨q, 1, none⟩ x19) where
  bel := (h.bel.setCell (by dsimp only; omega) _).setCell (by dsimp only; omega) _
  a0 := fun e => h.a0 (by simpa using e)
  a1 := fun e => h.a1 (by simpa using e)
  a2 := fun _ e2 => by simp [hf5] at e2
  a3 := fun e => h.a3 (by simpa using e)
  a4 := fun e => h.a4 (by simpa using e)
  a5 := fun _ e2 => by simp [hf8] at e2
  a6 := fun e => h.a6 (by simpa using e)
  a7 := fun _ e2 => by simp [hf8] at e2
  a8 := fun e => by
    obtain ⟨A, c, news, h3, h4, h5⟩ := h.a8 (by simpa using e)
    have hk : ∀ k, k ≠ q → ((u.setCell ⟨q, 0, none⟩ s).setCell ⟨q, 1, none⟩ x19).heap[k]? = u.heap[k]? := fun k hk => (Below.heap_setCell _ _ _ _ hk).trans (Below.heap_setCell _ _ _ _ hk)
    exact ⟨A, c, news, h3, ownsRow_keep1 h4 fun g hg => hk g (fun e => row_own_ne hr h4 (by rw [hg, e])), h5.keep fun k _ hk2 => hk k (by omega)⟩
  a9 := fun e => h.a9 (by simpa using e)
  a10 := fun _ e2 => by simp at e2
  a11 := fun _ => ⟨q, hq, rfl, (hr.set_ 0 s).set_ 1 x19⟩
end
structure RCl (f : Nat → Bool) : Prop where
  c85 : f 8 = true → f 5 = true
  c98 : f 9 = true → f 8 = true
  cb8 : f 11 = true → f 8 = true
  cba : f 11 = true → f 10 = true
section
variable {f : Nat → Bool}
theorem RCl.n8 (h : RCl f) (h5 : f 5 = false) : f 8 = false := by
  by_cases e : f 8 = true
  · rw [h.c85 e] at h5; cases h5
  · simpa using e
theorem RCl.n9 (h : RCl f) (h8 : f 8 = false) : f 9 = false := by
  by_cases e : f 9 = true
  · rw [h.c98 e] at h8; cases h8
  · simpa using e
theorem RCl.nb (h : RCl f) (h8 : f 8 = false) : f 11 = false := by
  by_cases e : f 11 = true
  · rw [h.cb8 e] at h8; cases h8
  · simpa using e
theorem RCl.nb' (h : RCl f) (h8 : f 10 = false) : f 11 = false := by
  by_cases e : f 11 = true
  · rw [h.cba e] at h8; cases h8
  · simpa using e
theorem RCl.u0 (h : RCl f) : RCl (fun k => decide (k = 0) || f k) where
  c85 := fun e => by simp [h.c85 (by simpa using e)]
  c98 := fun e => by simp [h.c98 (by simpa using e)]
  cb8 := fun e => by simp [h.cb8 (by simpa using e)]
  cba := fun e => by simp [h.cba (by simpa using e)]
theorem RCl.u1 (h : RCl f) : RCl (fun k => decide (k = 1) || f k) where
  c85 := fun e => by simp [h.c85 (by simpa using e)]
  c98 := fun e => by simp [h.c98 (by simpa using e)]
  cb8 := fun e => by simp [h.cb8 (by simpa using e)]
  cba := fun e => by simp [h.cba (by simpa using e)]
theorem RCl.u2 (h : RCl f) : RCl (fun k => decide (k = 2) || f k) where
  c85 := fun e => by simp [h.c85 (by simpa using e)]
  c98 := fun e => by simp [h.c98 (by simpa using e)]
  cb8 := fun e => by simp [h.cb8 (by simpa using e)]
  cba := fun e => by simp [h.cba (by simpa using e)]
theorem RCl.u3 (h : RCl f) : RCl (fun k => decide (k = 3) || f k) where
  c85 := fun e => by simp [h.c85 (by simpa using e)]
  c98 := fun e => by simp [h.c98 (by simpa using e)]
  cb8 := fun e => by simp [h.cb8 (by simpa using e)]
  cba := fun e => by simp [h.cba (by simpa using e)]
theorem RCl.u4 (h : RCl f) : RCl (fun k => decide (k = 4) || f k) where
  c85 := fun e => by simp [h.c85 (by simpa using e)]
  c98 := fun e => by simp [h.c98 (by simpa using e)]
  cb8 := fun e => by simp [h.cb8 (by simpa using e)]
  cba := fun e => by simp [h.cba (by simpa using e)]
theorem RCl.u5 (h : RCl f) : RCl (fun k => decide (k = 5) || f k) where
  c85 := fun _ => rfl
  c98 := fun e => by simp [h.c98 (by simpa using e)]
  cb8 := fun e => by simp [h.cb8 (by simpa using e)]
  cba := fun e => by simp [h.cba (by simpa using e)]
theorem RCl.u6 (h : RCl f) : RCl (fun k => decide (k = 6) || f k) where
  c85 := fun e => by simp [h.c85 (by simpa using e)]
  c98 := fun e => by simp [h.c98 (by simpa using e)]
  cb8 := fun e => by simp [h.cb8 (by simpa using e)]
  cba := fun e => by simp [h.cba (by simpa using e)]
theorem RCl.u7 (h : RCl f) : RCl (fun k => decide (k = 7) || f k) where
  c85 := fun e => by simp [h.c85 (by simpa using e)]
  c98 := fun e => by simp [h.c98 (by simpa using e)]
  cb8 := fun e => by simp [h.cb8 (by simpa using e)]
  cba := fun e => by simp [h.cba (by simpa using e)]
theorem RCl.u8 (h : RCl f) (d5 : f 5 = true) : RCl (fun k => decide (k = 8) || f k) where
  c85 := fun _ => by simp [d5]
  c98 := fun _ => rfl
  cb8 := fun _ => rfl
  cba := fun e => by simp [h.cba (by simpa using e)]
theorem RCl.u9 (h : RCl f) (d8 : f 8 = true) : RCl (fun k => decide (k = 9) || f k) where
  c85 := fun e => by simp [h.c85 (by simpa using e)]
  c98 := fun _ => by simp [d8]
  cb8 := fun e => by simp [h.cb8 (by simpa using e)]
  cba := fun e => by simp [h.cba (by simpa using e)]
theorem RCl.u10 (h : RCl f) : RCl (fun k => decide (k = 10) || f k) where
  c85 := fun e => by simp [h.c85 (by simpa using e)]
  c98 := fun e => by simp [h.c98 (by simpa using e)]
  cb8 := fun e => by simp [h.cb8 (by simpa using e)]
  cba := fun _ => rfl
theorem RCl.u11 (h : RCl f) (d8 : f 8 = true) (d10 : f 10 = true) : RCl (fun k => decide (k = 11) || f k) where
  c85 := fun e => by simp [h.c85 (by simpa using e)]
  c98 := fun e => by simp [h.c98 (by simpa using e)]
  cb8 := fun _ => by simp [d8]
  cba := fun _ => by simp [d10]
end
end Go.Proofs.Ytplpnammboofiaa
