/-
  The two errors of the choice in memory; the contracts of errors.Is for them.
  What holds in a region that lays two functions of a list into boxes of their own: by what has been done.
-/
import Derived.Test.YtnmbjmocnafekaaGreatDoorG2
import Derived.Test.YtnmbjmocnafekaaGreatDoorRows
import Derived.WalkKit
import Derived.LaidEql
import Derived.Stop.Asserts
import Derived.RowKitTokens
import Derived.Test.YtnmbjmocnafekaaGreatDoorG7
namespace Go.Proofs.YtnmbjmocnafekaaGreatDoor
open Go.RowKit Go.Extern.Stop Go.Stop Go.Extern

theorem isTypeOf (v : Value) (w : World) : (Extern.ReflectliteType.typeOf #[.iface 314 v]).run Tryz.prog w = .ok (.iface 210 (.agg #[.pointer (some ⟨11, 314, none⟩)])) w := by kernel_rfl
theorem callComparable (w : World) : (callFunc 298 #[.agg #[.pointer (some ⟨11, 314, none⟩)]]).run Tryz.prog w = .ok (.value (.bool true)) w := by kernel_rfl
theorem isMethodComparable (v : Value) (w : World) : (Go.method 475 210 v "Comparable").run Tryz.prog w = .ok (298, v) w := by kernel_rfl
theorem isComp : (Tryz.prog.info? 314).map (·.comparable) = some true := by kernel_rfl
theorem isSize : (Tryz.prog.info? 363).map (·.size) = some 1 := by kernel_rfl
theorem noIsE (v : Value) (xT : TypeId) (w : World) : (Instr.typeAssert (.iface 314 v) xT 274 true).run Tryz.prog w = .ok (.tuple #[.nilIface, .bool false]) w := run_typeAssert_lacksB Tryz.underlying274 (by kernel_rfl) (by kernel_rfl) v xT w
theorem noUnwrapE (v : Value) (xT : TypeId) (w : World) : (Instr.typeAssert (.iface 314 v) xT 218 true).run Tryz.prog w = .ok (.tuple #[.nilIface, .bool false]) w := run_typeAssert_lacksB Tryz.underlying218 (by kernel_rfl) (by kernel_rfl) v xT w
theorem noUnwrapsE (v : Value) (xT : TypeId) (w : World) : (Instr.typeAssert (.iface 314 v) xT 219 true).run Tryz.prog w = .ok (.tuple #[.nilIface, .bool false]) w := run_typeAssert_lacksB Tryz.underlying219 (by kernel_rfl) (by kernel_rfl) v xT w

set_option maxRecDepth 100000 in
set_option maxHeartbeats 2000000 in
/-- errors.Is(x, x), x a pointer to an errors.errorString. -/
theorem is_same (a : Addr) (w : World) :
    Calls Tryz.prog 120 #[.iface 314 (.pointer (some a)), .iface 314 (.pointer (some a))] w fun e w' => e = .returned (.bool true) ∧ w = w' := by
  obtain ⟨i, hi, hcmp⟩ := Option.map_eq_some_iff.1 isComp
  obtain ⟨j, hj, hjs⟩ := Option.map_eq_some_iff.1 isSize
  have h8 := @run_callFunc_extern Tryz.prog 126 _ Extern.ReflectliteType.typeOf Tryz.func126 (by kernel_rfl) (by kernel_rfl) (by kernel_rfl) (by kernel_rfl)
  have h32 := callComparable
  have tT := isTypeOf
  have mR := isMethodComparable
  have heq := run_eql_iface_ptr_same (P := Tryz.prog) w a Tryz.underlying65 Tryz.underlying314 hi hcmp hj
  go_enter Tryz.func120, Tryz.ntmps120
  go_wp2
  refine wp_loop_rounds 1 ?_
  rw [rounds_succ]
  go_wp2
  go_ret
  exact ⟨rfl, rfl⟩

set_option maxRecDepth 100000 in
set_option maxHeartbeats 2000000 in
/-- errors.Is(nil, x). -/
theorem is_nil (b : Addr) (w : World) :
    Calls Tryz.prog 120 #[.nilIface, .iface 314 (.pointer (some b))] w fun e w' => e = .returned (.bool false) ∧ w = w' := by
  have hn := run_eql_iface_nil_left (P := Tryz.prog) w 314 (.pointer (some b)) Tryz.underlying65
  go_enter Tryz.func120, Tryz.ntmps120
  go_wp2
  go_ret
  exact ⟨rfl, rfl⟩

set_option maxRecDepth 100000 in
set_option maxHeartbeats 2000000 in
/-- errors.Is(x, y), two different pointers to errors.errorString: neither has Is nor Unwrap: false. -/
theorem is_other (a b : Addr) (ca cb : Array Value) (ta tb : TypeId) (w : World) (hne : a ≠ b) (ha : w.heap[a.block]? = some (.cells ca ta (0, 0))) (hb : w.heap[b.block]? = some (.cells cb tb (0, 0))) :
    Calls Tryz.prog 120 #[.iface 314 (.pointer (some a)), .iface 314 (.pointer (some b))] w fun e w' => e = .returned (.bool false) ∧ w = w' := by
  obtain ⟨i, hi, hcmp⟩ := Option.map_eq_some_iff.1 isComp
  obtain ⟨j, hj, hjs⟩ := Option.map_eq_some_iff.1 isSize
  have h8 := @run_callFunc_extern Tryz.prog 126 _ Extern.ReflectliteType.typeOf Tryz.func126 (by kernel_rfl) (by kernel_rfl) (by kernel_rfl) (by kernel_rfl)
  have h32 := callComparable
  have tT := isTypeOf
  have mR := isMethodComparable
  have nE := noIsE
  have uE := noUnwrapE
  have vE := noUnwrapsE
  have heq := run_eql_iface_ptr_other (P := Tryz.prog) w Tryz.underlying65 Tryz.underlying314 hi hcmp hj (by rw [hjs]; decide) hne ha hb
  go_enter Tryz.func120, Tryz.ntmps120
  go_wp2
  refine wp_loop_rounds 1 ?_
  rw [rounds_succ]
  go_wp2
  go_ret
  exact ⟨rfl, rfl⟩

/-- The package's two errors lie below n: two different pointers. -/
structure Errs (w : World) (n : Nat) (a0 a1 : Addr) : Prop where
  low : 3 < n ∧ 2 < n
  g0 : w.cell? ⟨3, 0, none⟩ = some (.iface 314 (.pointer (some a0)))
  g1 : w.cell? ⟨2, 0, none⟩ = some (.iface 314 (.pointer (some a1)))
  ne : a0 ≠ a1
  l0 : a0.block < n
  l1 : a1.block < n
  b0 : ∃ c t, w.heap[a0.block]? = some (.cells c t (0, 0))
  b1 : ∃ c t, w.heap[a1.block]? = some (.cells c t (0, 0))
theorem Errs.below {w w' : World} {n B : Nat} {a0 a1 : Addr} (h : Errs w n a0 a1) (hb : Below B w w') (hn : n ≤ B) : Errs w' n a0 a1 := by
  have hl := h.low
  have h0 := h.l0
  have h1 := h.l1
  refine ⟨hl, (hb.cell (p := ⟨3, 0, none⟩) (by show 3 < B; omega)).trans h.g0, (hb.cell (p := ⟨2, 0, none⟩) (by show 2 < B; omega)).trans h.g1, h.ne, h0, h1, ?_, ?_⟩
  · obtain ⟨c, t, e⟩ := h.b0
    exact ⟨c, t, (hb.block _ (by omega)).trans e⟩
  · obtain ⟨c, t, e⟩ := h.b1
    exact ⟨c, t, (hb.block _ (by omega)).trans e⟩
end Go.Proofs.YtnmbjmocnafekaaGreatDoor

namespace Go.Proofs.YtnmbjmocnafekaaGreatDoor
open Go.RowKit

def zeroFu : List Value := [.string ByteArray.empty, .slice none 0 0, .int .i64 0, .slice none 0 0]

/-- w0: the world where the region begins; bx: the system's box; F: its list; i, k: the indices; pi, pk: where the two lie; ci, ck: their cells. -/
structure TwoF (w0 : World) (bx : Nat) (F ii kk pi pk vi vk : Value) (ci ck : List Value) (f : Nat → Bool) (x0 x1 x2 x3 x4 x5 x6 x7 x8 x9 y z : Value) (u : World) : Prop where
  bel : Below w0.heap.size w0 u
  a0 : f 0 = true → x0 = (.pointer (some ⟨bx, 2, none⟩))
  a1 : f 1 = true → x1 = F
  a2 : f 2 = true → x2 = ii
  a3 : f 3 = true → x3 = pi
  a4 : f 4 = true → x4 = vi
  a5 : f 5 = true → x5 = (.pointer (some ⟨bx, 2, none⟩))
  a6 : f 6 = true → x6 = F
  a7 : f 7 = true → x7 = kk
  a8 : f 8 = true → x8 = pk
  a9 : f 9 = true → x9 = vk
  b0 : f 10 = true → f 12 = false → ∃ p, w0.heap.size ≤ p ∧ y = .pointer (some ⟨p, 0, none⟩) ∧ Row u p 111 zeroFu
  b1 : f 11 = true → f 13 = false → ∃ p, w0.heap.size ≤ p ∧ z = .pointer (some ⟨p, 0, none⟩) ∧ Row u p 111 zeroFu
  b2 : f 12 = true → ∃ p, w0.heap.size ≤ p ∧ y = .pointer (some ⟨p, 0, none⟩) ∧ Row u p 111 ci
  b3 : f 13 = true → ∃ p, w0.heap.size ≤ p ∧ z = .pointer (some ⟨p, 0, none⟩) ∧ Row u p 111 ck
  apart : f 10 = true → f 11 = true → ∀ p q, y = .pointer (some ⟨p, 0, none⟩) → z = .pointer (some ⟨q, 0, none⟩) → p ≠ q
  c2 : f 12 = true → f 10 = true
  c3 : f 13 = true → f 11 = true

section
variable {w0 u : World} {bx : Nat} {F ii kk pi pk vi vk : Value} {ci ck : List Value} {f : Nat → Bool} {x0 x1 x2 x3 x4 x5 x6 x7 x8 x9 y z : Value}

theorem TwoF.ylt (h : TwoF w0 bx F ii kk pi pk vi vk ci ck f x0 x1 x2 x3 x4 x5 x6 x7 x8 x9 y z u) (h10 : f 10 = true) : ∃ p, y = .pointer (some ⟨p, 0, none⟩) ∧ p < u.heap.size := by
  cases h12 : f 12 with
  | false => obtain ⟨p, _, e, hr⟩ := h.b0 h10 h12; exact ⟨p, e, hr.lt⟩
  | true => obtain ⟨p, _, e, hr⟩ := h.b2 h12; exact ⟨p, e, hr.lt⟩
theorem TwoF.zlt (h : TwoF w0 bx F ii kk pi pk vi vk ci ck f x0 x1 x2 x3 x4 x5 x6 x7 x8 x9 y z u) (h11 : f 11 = true) : ∃ p, z = .pointer (some ⟨p, 0, none⟩) ∧ p < u.heap.size := by
  cases h13 : f 13 with
  | false => obtain ⟨p, _, e, hr⟩ := h.b1 h11 h13; exact ⟨p, e, hr.lt⟩
  | true => obtain ⟨p, _, e, hr⟩ := h.b3 h13; exact ⟨p, e, hr.lt⟩
theorem TwoF.s0 (h : TwoF w0 bx F ii kk pi pk vi vk ci ck f x0 x1 x2 x3 x4 x5 x6 x7 x8 x9 y z u) : TwoF w0 bx F ii kk pi pk vi vk ci ck (fun k => decide (k = 0) || f k) (.pointer (some ⟨bx, 2, none⟩)) x1 x2 x3 x4 x5 x6 x7 x8 x9 y z u where
  bel := h.bel
  a0 := fun _ => rfl
  a1 := fun e => h.a1 (by simpa using e)
  a2 := fun e => h.a2 (by simpa using e)
  a3 := fun e => h.a3 (by simpa using e)
  a4 := fun e => h.a4 (by simpa using e)
  a5 := fun e => h.a5 (by simpa using e)
  a6 := fun e => h.a6 (by simpa using e)
  a7 := fun e => h.a7 (by simpa using e)
  a8 := fun e => h.a8 (by simpa using e)
  a9 := fun e => h.a9 (by simpa using e)
  b0 := fun e e2 => h.b0 (by simpa using e) (by simpa using e2)
  b1 := fun e e2 => h.b1 (by simpa using e) (by simpa using e2)
  b2 := fun e => h.b2 (by simpa using e)
  b3 := fun e => h.b3 (by simpa using e)
  apart := fun e e2 => h.apart (by simpa using e) (by simpa using e2)
  c2 := fun e => by have := h.c2 (by simpa using e); simp [this]
  c3 := fun e => by have := h.c3 (by simpa using e); simp [this]
theorem TwoF.s1 (h : TwoF w0 bx F ii kk pi pk vi vk ci ck f x0 x1 x2 x3 x4 x5 x6 x7 x8 x9 y z u) : TwoF w0 bx F ii kk pi pk vi vk ci ck (fun k => decide (k = 1) || f k) x0 F x2 x3 x4 x5 x6 x7 x8 x9 y z u where
  bel := h.bel
  a0 := fun e => h.a0 (by simpa using e)
  a1 := fun _ => rfl
  a2 := fun e => h.a2 (by simpa using e)
  a3 := fun e => h.a3 (by simpa using e)
  a4 := fun e => h.a4 (by simpa using e)
  a5 := fun e => h.a5 (by simpa using e)
  a6 := fun e => h.a6 (by simpa using e)
  a7 := fun e => h.a7 (by simpa using e)
  a8 := fun e => h.a8 (by simpa using e)
  a9 := fun e => h.a9 (by simpa using e)
  b0 := fun e e2 => h.b0 (by simpa using e) (by simpa using e2)
  b1 := fun e e2 => h.b1 (by simpa using e) (by simpa using e2)
  b2 := fun e => h.b2 (by simpa using e)
  b3 := fun e => h.b3 (by simpa using e)
  apart := fun e e2 => h.apart (by simpa using e) (by simpa using e2)
  c2 := fun e => by have := h.c2 (by simpa using e); simp [this]
  c3 := fun e => by have := h.c3 (by simpa using e); simp [this]
theorem TwoF.s2 (h : TwoF w0 bx F ii kk pi pk vi vk ci ck f x0 x1 x2 x3 x4 x5 x6 x7 x8 x9 y z u) : TwoF w0 bx F ii kk pi pk vi vk ci ck (fun k => decide (k = 2) || f k) x0 x1 ii x3 x4 x5 x6 x7 x8 x9 y z u where
  bel := h.bel
  a0 := fun e => h.a0 (by simpa using e)
  a1 := fun e => h.a1 (by simpa using e)
  a2 := fun _ => rfl
  a3 := fun e => h.a3 (by simpa using e)
  a4 := fun e => h.a4 (by simpa using e)
  a5 := fun e => h.a5 (by simpa using e)
  a6 := fun e => h.a6 (by simpa using e)
  a7 := fun e => h.a7 (by simpa using e)
  a8 := fun e => h.a8 (by simpa using e)
  a9 := fun e => h.a9 (by simpa using e)
  b0 := fun e e2 => h.b0 (by simpa using e) (by simpa using e2)
  b1 := fun e e2 => h.b1 (by simpa using e) (by simpa using e2)
  b2 := fun e => h.b2 (by simpa using e)
  b3 := fun e => h.b3 (by simpa using e)
  apart := fun e e2 => h.apart (by simpa using e) (by simpa using e2)
  c2 := fun e => by have := h.c2 (by simpa using e); simp [this]
  c3 := fun e => by have := h.c3 (by simpa using e); simp [this]
theorem TwoF.s3 (h : TwoF w0 bx F ii kk pi pk vi vk ci ck f x0 x1 x2 x3 x4 x5 x6 x7 x8 x9 y z u) : TwoF w0 bx F ii kk pi pk vi vk ci ck (fun k => decide (k = 3) || f k) x0 x1 x2 pi x4 x5 x6 x7 x8 x9 y z u where
  bel := h.bel
  a0 := fun e => h.a0 (by simpa using e)
  a1 := fun e => h.a1 (by simpa using e)
  a2 := fun e => h.a2 (by simpa using e)
  a3 := fun _ => rfl
  a4 := fun e => h.a4 (by simpa using e)
  a5 := fun e => h.a5 (by simpa using e)
  a6 := fun e => h.a6 (by simpa using e)
  a7 := fun e => h.a7 (by simpa using e)
  a8 := fun e => h.a8 (by simpa using e)
  a9 := fun e => h.a9 (by simpa using e)
  b0 := fun e e2 => h.b0 (by simpa using e) (by simpa using e2)
  b1 := fun e e2 => h.b1 (by simpa using e) (by simpa using e2)
  b2 := fun e => h.b2 (by simpa using e)
  b3 := fun e => h.b3 (by simpa using e)
  apart := fun e e2 => h.apart (by simpa using e) (by simpa using e2)
  c2 := fun e => by have := h.c2 (by simpa using e); simp [this]
  c3 := fun e => by have := h.c3 (by simpa using e); simp [this]
theorem TwoF.s4 (h : TwoF w0 bx F ii kk pi pk vi vk ci ck f x0 x1 x2 x3 x4 x5 x6 x7 x8 x9 y z u) : TwoF w0 bx F ii kk pi pk vi vk ci ck (fun k => decide (k = 4) || f k) x0 x1 x2 x3 vi x5 x6 x7 x8 x9 y z u where
  bel := h.bel
  a0 := fun e => h.a0 (by simpa using e)
  a1 := fun e => h.a1 (by simpa using e)
  a2 := fun e => h.a2 (by simpa using e)
  a3 := fun e => h.a3 (by simpa using e)
  a4 := fun _ => rfl
  a5 := fun e => h.a5 (by simpa using e)
  a6 := fun e => h.a6 (by simpa using e)
  a7 := fun e => h.a7 (by simpa using e)
  a8 := fun e => h.a8 (by simpa using e)
  a9 := fun e => h.a9 (by simpa using e)
  b0 := fun e e2 => h.b0 (by simpa using e) (by simpa using e2)
  b1 := fun e e2 => h.b1 (by simpa using e) (by simpa using e2)
  b2 := fun e => h.b2 (by simpa using e)
  b3 := fun e => h.b3 (by simpa using e)
  apart := fun e e2 => h.apart (by simpa using e) (by simpa using e2)
  c2 := fun e => by have := h.c2 (by simpa using e); simp [this]
  c3 := fun e => by have := h.c3 (by simpa using e); simp [this]
theorem TwoF.s5 (h : TwoF w0 bx F ii kk pi pk vi vk ci ck f x0 x1 x2 x3 x4 x5 x6 x7 x8 x9 y z u) : TwoF w0 bx F ii kk pi pk vi vk ci ck (fun k => decide (k = 5) || f k) x0 x1 x2 x3 x4 (.pointer (some ⟨bx, 2, none⟩)) x6 x7 x8 x9 y z u where
  bel := h.bel
  a0 := fun e => h.a0 (by simpa using e)
  a1 := fun e => h.a1 (by simpa using e)
  a2 := fun e => h.a2 (by simpa using e)
  a3 := fun e => h.a3 (by simpa using e)
  a4 := fun e => h.a4 (by simpa using e)
  a5 := fun _ => rfl
  a6 := fun e => h.a6 (by simpa using e)
  a7 := fun e => h.a7 (by simpa using e)
  a8 := fun e => h.a8 (by simpa using e)
  a9 := fun e => h.a9 (by simpa using e)
  b0 := fun e e2 => h.b0 (by simpa using e) (by simpa using e2)
  b1 := fun e e2 => h.b1 (by simpa using e) (by simpa using e2)
  b2 := fun e => h.b2 (by simpa using e)
  b3 := fun e => h.b3 (by simpa using e)
  apart := fun e e2 => h.apart (by simpa using e) (by simpa using e2)
  c2 := fun e => by have := h.c2 (by simpa using e); simp [this]
  c3 := fun e => by have := h.c3 (by simpa using e); simp [this]
theorem TwoF.s6 (h : TwoF w0 bx F ii kk pi pk vi vk ci ck f x0 x1 x2 x3 x4 x5 x6 x7 x8 x9 y z u) : TwoF w0 bx F ii kk pi pk vi vk ci ck (fun k => decide (k = 6) || f k) x0 x1 x2 x3 x4 x5 F x7 x8 x9 y z u where
  bel := h.bel
  a0 := fun e => h.a0 (by simpa using e)
  a1 := fun e => h.a1 (by simpa using e)
  a2 := fun e => h.a2 (by simpa using e)
  a3 := fun e => h.a3 (by simpa using e)
  a4 := fun e => h.a4 (by simpa using e)
  a5 := fun e => h.a5 (by simpa using e)
  a6 := fun _ => rfl
  a7 := fun e => h.a7 (by simpa using e)
  a8 := fun e => h.a8 (by simpa using e)
  a9 := fun e => h.a9 (by simpa using e)
  b0 := fun e e2 => h.b0 (by simpa using e) (by simpa using e2)
  b1 := fun e e2 => h.b1 (by simpa using e) (by simpa using e2)
  b2 := fun e => h.b2 (by simpa using e)
  b3 := fun e => h.b3 (by simpa using e)
  apart := fun e e2 => h.apart (by simpa using e) (by simpa using e2)
  c2 := fun e => by have := h.c2 (by simpa using e); simp [this]
  c3 := fun e => by have := h.c3 (by simpa using e); simp [this]
theorem TwoF.s7 (h : TwoF w0 bx F ii kk pi pk vi vk ci ck f x0 x1 x2 x3 x4 x5 x6 x7 x8 x9 y z u) : TwoF w0 bx F ii kk pi pk vi vk ci ck (fun k => decide (k = 7) || f k) x0 x1 x2 x3 x4 x5 x6 kk x8 x9 y z u where
  bel := h.bel
  a0 := fun e => h.a0 (by simpa using e)
  a1 := fun e => h.a1 (by simpa using e)
  a2 := fun e => h.a2 (by simpa using e)
  a3 := fun e => h.a3 (by simpa using e)
  a4 := fun e => h.a4 (by simpa using e)
  a5 := fun e => h.a5 (by simpa using e)
  a6 := fun e => h.a6 (by simpa using e)
  a7 := fun _ => rfl
  a8 := fun e => h.a8 (by simpa using e)
  a9 := fun e => h.a9 (by simpa using e)
  b0 := fun e e2 => h.b0 (by simpa using e) (by simpa using e2)
  b1 := fun e e2 => h.b1 (by simpa using e) (by simpa using e2)
  b2 := fun e => h.b2 (by simpa using e)
  b3 := fun e => h.b3 (by simpa using e)
  apart := fun e e2 => h.apart (by simpa using e) (by simpa using e2)
  c2 := fun e => by have := h.c2 (by simpa using e); simp [this]
  c3 := fun e => by have := h.c3 (by simpa using e); simp [this]
theorem TwoF.s8 (h : TwoF w0 bx F ii kk pi pk vi vk ci ck f x0 x1 x2 x3 x4 x5 x6 x7 x8 x9 y z u) : TwoF w0 bx F ii kk pi pk vi vk ci ck (fun k => decide (k = 8) || f k) x0 x1 x2 x3 x4 x5 x6 x7 pk x9 y z u where
  bel := h.bel
  a0 := fun e => h.a0 (by simpa using e)
  a1 := fun e => h.a1 (by simpa using e)
  a2 := fun e => h.a2 (by simpa using e)
  a3 := fun e => h.a3 (by simpa using e)
  a4 := fun e => h.a4 (by simpa using e)
  a5 := fun e => h.a5 (by simpa using e)
  a6 := fun e => h.a6 (by simpa using e)
  a7 := fun e => h.a7 (by simpa using e)
  a8 := fun _ => rfl
  a9 := fun e => h.a9 (by simpa using e)
  b0 := fun e e2 => h.b0 (by simpa using e) (by simpa using e2)
  b1 := fun e e2 => h.b1 (by simpa using e) (by simpa using e2)
  b2 := fun e => h.b2 (by simpa using e)
  b3 := fun e => h.b3 (by simpa using e)
  apart := fun e e2 => h.apart (by simpa using e) (by simpa using e2)
  c2 := fun e => by have := h.c2 (by simpa using e); simp [this]
  c3 := fun e => by have := h.c3 (by simpa using e); simp [this]
theorem TwoF.s9 (h : TwoF w0 bx F ii kk pi pk vi vk ci ck f x0 x1 x2 x3 x4 x5 x6 x7 x8 x9 y z u) : TwoF w0 bx F ii kk pi pk vi vk ci ck (fun k => decide (k = 9) || f k) x0 x1 x2 x3 x4 x5 x6 x7 x8 vk y z u where
  bel := h.bel
  a0 := fun e => h.a0 (by simpa using e)
  a1 := fun e => h.a1 (by simpa using e)
  a2 := fun e => h.a2 (by simpa using e)
  a3 := fun e => h.a3 (by simpa using e)
  a4 := fun e => h.a4 (by simpa using e)
  a5 := fun e => h.a5 (by simpa using e)
  a6 := fun e => h.a6 (by simpa using e)
  a7 := fun e => h.a7 (by simpa using e)
  a8 := fun e => h.a8 (by simpa using e)
  a9 := fun _ => rfl
  b0 := fun e e2 => h.b0 (by simpa using e) (by simpa using e2)
  b1 := fun e e2 => h.b1 (by simpa using e) (by simpa using e2)
  b2 := fun e => h.b2 (by simpa using e)
  b3 := fun e => h.b3 (by simpa using e)
  apart := fun e e2 => h.apart (by simpa using e) (by simpa using e2)
  c2 := fun e => by have := h.c2 (by simpa using e); simp [this]
  c3 := fun e => by have := h.c3 (by simpa using e); simp [this]
theorem TwoF.s10 (h : TwoF w0 bx F ii kk pi pk vi vk ci ck f x0 x1 x2 x3 x4 x5 x6 x7 x8 x9 y z u) (hfi : f 10 = false) : TwoF w0 bx F ii kk pi pk vi vk ci ck (fun k => decide (k = 10) || f k) x0 x1 x2 x3 x4 x5 x6 x7 x8 x9 (.pointer (some ⟨u.heap.size, 0, none⟩)) z (u.alloc (.cells #[.string ByteArray.empty, .slice none 0 0, .int .i64 0, .slice none 0 0] 111)) where
  bel := h.bel.alloc h.bel.size _
  a0 := fun e => h.a0 (by simpa using e)
  a1 := fun e => h.a1 (by simpa using e)
  a2 := fun e => h.a2 (by simpa using e)
  a3 := fun e => h.a3 (by simpa using e)
  a4 := fun e => h.a4 (by simpa using e)
  a5 := fun e => h.a5 (by simpa using e)
  a6 := fun e => h.a6 (by simpa using e)
  a7 := fun e => h.a7 (by simpa using e)
  a8 := fun e => h.a8 (by simpa using e)
  a9 := fun e => h.a9 (by simpa using e)
  b0 := fun _ _ => ⟨u.heap.size, h.bel.size, rfl, Row.new u _ zeroFu⟩
  b1 := fun e e2 => by
    obtain ⟨p, h1, h2, h3⟩ := h.b1 (by simpa using e) (by simpa using e2)
    exact ⟨p, h1, h2, h3.alloc _⟩
  b2 := fun e => by have := h.c2 (by simpa using e); rw [hfi] at this; cases this
  b3 := fun e => by
    obtain ⟨p, h1, h2, h3⟩ := h.b3 (by simpa using e)
    exact ⟨p, h1, h2, h3.alloc _⟩
  apart := fun _ e2 p q e3 e4 => by
    obtain ⟨q', e5, hlt⟩ := h.zlt (by simpa using e2)
    rw [e5] at e4
    simp only [Value.pointer.injEq, Option.some.injEq, Addr.mk.injEq, and_true] at e3 e4
    omega
  c2 := fun _ => by simp
  c3 := fun e => by have := h.c3 (by simpa using e); simp [this]
theorem TwoF.s11 (h : TwoF w0 bx F ii kk pi pk vi vk ci ck f x0 x1 x2 x3 x4 x5 x6 x7 x8 x9 y z u) (hfi : f 11 = false) : TwoF w0 bx F ii kk pi pk vi vk ci ck (fun k => decide (k = 11) || f k) x0 x1 x2 x3 x4 x5 x6 x7 x8 x9 y (.pointer (some ⟨u.heap.size, 0, none⟩)) (u.alloc (.cells #[.string ByteArray.empty, .slice none 0 0, .int .i64 0, .slice none 0 0] 111)) where
  bel := h.bel.alloc h.bel.size _
  a0 := fun e => h.a0 (by simpa using e)
  a1 := fun e => h.a1 (by simpa using e)
  a2 := fun e => h.a2 (by simpa using e)
  a3 := fun e => h.a3 (by simpa using e)
  a4 := fun e => h.a4 (by simpa using e)
  a5 := fun e => h.a5 (by simpa using e)
  a6 := fun e => h.a6 (by simpa using e)
  a7 := fun e => h.a7 (by simpa using e)
  a8 := fun e => h.a8 (by simpa using e)
  a9 := fun e => h.a9 (by simpa using e)
  b0 := fun e e2 => by
    obtain ⟨p, h1, h2, h3⟩ := h.b0 (by simpa using e) (by simpa using e2)
    exact ⟨p, h1, h2, h3.alloc _⟩
  b1 := fun _ _ => ⟨u.heap.size, h.bel.size, rfl, Row.new u _ zeroFu⟩
  b2 := fun e => by
    obtain ⟨p, h1, h2, h3⟩ := h.b2 (by simpa using e)
    exact ⟨p, h1, h2, h3.alloc _⟩
  b3 := fun e => by have := h.c3 (by simpa using e); rw [hfi] at this; cases this
  apart := fun e2 _ p q e3 e4 => by
    obtain ⟨q', e5, hlt⟩ := h.ylt (by simpa using e2)
    rw [e5] at e3
    simp only [Value.pointer.injEq, Option.some.injEq, Addr.mk.injEq, and_true] at e3 e4
    omega
  c2 := fun e => by have := h.c2 (by simpa using e); simp [this]
  c3 := fun _ => by simp
theorem TwoF.s12 {p : Nat} {c0 c1 c2 c3 : Value} (h : TwoF w0 bx F ii kk pi pk vi vk [c0, c1, c2, c3] ck f x0 x1 x2 x3 x4 x5 x6 x7 x8 x9 (.pointer (some ⟨p, 0, none⟩)) z u) (h10 : f 10 = true) (hp : w0.heap.size ≤ p) (hr : Row u p 111 zeroFu) : TwoF w0 bx F ii kk pi pk vi vk [c0, c1, c2, c3] ck (fun k => decide (k = 12) || f k) x0 x1 x2 x3 x4 x5 x6 x7 x8 x9 (.pointer (some ⟨p, 0, none⟩)) z ((((u.setCell ⟨p, 0, none⟩ c0).setCell ⟨p, 1, none⟩ c1).setCell ⟨p, 2, none⟩ c2).setCell ⟨p, 3, none⟩ c3) where
  bel := (((h.bel.setCell hp _).setCell hp _).setCell hp _).setCell hp _
  a0 := fun e => h.a0 (by simpa using e)
  a1 := fun e => h.a1 (by simpa using e)
  a2 := fun e => h.a2 (by simpa using e)
  a3 := fun e => h.a3 (by simpa using e)
  a4 := fun e => h.a4 (by simpa using e)
  a5 := fun e => h.a5 (by simpa using e)
  a6 := fun e => h.a6 (by simpa using e)
  a7 := fun e => h.a7 (by simpa using e)
  a8 := fun e => h.a8 (by simpa using e)
  a9 := fun e => h.a9 (by simpa using e)
  b0 := fun _ e2 => by simp at e2
  b1 := fun e e2 => by
    obtain ⟨q, h1, h2, h3⟩ := h.b1 (by simpa using e) (by simpa using e2)
    have hne := h.apart h10 (by simpa using e) p q rfl h2
    exact ⟨q, h1, h2, (((h3.far (fun e => hne e.symm) _).far (fun e => hne e.symm) _).far (fun e => hne e.symm) _).far (fun e => hne e.symm) _⟩
  b2 := fun _ => ⟨p, hp, rfl, (((hr.set_ 0 c0).set_ 1 c1).set_ 2 c2).set_ 3 c3⟩
  b3 := fun e => by
    obtain ⟨q, h1, h2, h3⟩ := h.b3 (by simpa using e)
    have hne := h.apart h10 (h.c3 (by simpa using e)) p q rfl h2
    exact ⟨q, h1, h2, (((h3.far (fun e => hne e.symm) _).far (fun e => hne e.symm) _).far (fun e => hne e.symm) _).far (fun e => hne e.symm) _⟩
  apart := fun _ e2 => h.apart h10 (by simpa using e2)
  c2 := fun _ => by simp [h10]
  c3 := fun e => by have := h.c3 (by simpa using e); simp [this]
theorem TwoF.s13 {p : Nat} {c0 c1 c2 c3 : Value} (h : TwoF w0 bx F ii kk pi pk vi vk ci [c0, c1, c2, c3] f x0 x1 x2 x3 x4 x5 x6 x7 x8 x9 y (.pointer (some ⟨p, 0, none⟩)) u) (h11 : f 11 = true) (hp : w0.heap.size ≤ p) (hr : Row u p 111 zeroFu) : TwoF w0 bx F ii kk pi pk vi vk ci [c0, c1, c2, c3] (fun k => decide (k = 13) || f k) x0 x1 x2 x3 x4 x5 x6 x7 x8 x9 y (.pointer (some ⟨p, 0, none⟩)) ((((u.setCell ⟨p, 0, none⟩ c0).setCell ⟨p, 1, none⟩ c1).setCell ⟨p, 2, none⟩ c2).setCell ⟨p, 3, none⟩ c3) where
  bel := (((h.bel.setCell hp _).setCell hp _).setCell hp _).setCell hp _
  a0 := fun e => h.a0 (by simpa using e)
  a1 := fun e => h.a1 (by simpa using e)
  a2 := fun e => h.a2 (by simpa using e)
  a3 := fun e => h.a3 (by simpa using e)
  a4 := fun e => h.a4 (by simpa using e)
  a5 := fun e => h.a5 (by simpa using e)
  a6 := fun e => h.a6 (by simpa using e)
  a7 := fun e => h.a7 (by simpa using e)
  a8 := fun e => h.a8 (by simpa using e)
  a9 := fun e => h.a9 (by simpa using e)
  b0 := fun e e2 => by
    obtain ⟨q, h1, h2, h3⟩ := h.b0 (by simpa using e) (by simpa using e2)
    have hne := h.apart (by simpa using e) h11 q p h2 rfl
    exact ⟨q, h1, h2, (((h3.far hne _).far hne _).far hne _).far hne _⟩
  b1 := fun _ e2 => by simp at e2
  b2 := fun e => by
    obtain ⟨q, h1, h2, h3⟩ := h.b2 (by simpa using e)
    have hne := h.apart (h.c2 (by simpa using e)) h11 q p h2 rfl
    exact ⟨q, h1, h2, (((h3.far hne _).far hne _).far hne _).far hne _⟩
  b3 := fun _ => ⟨p, hp, rfl, (((hr.set_ 0 c0).set_ 1 c1).set_ 2 c2).set_ 3 c3⟩
  apart := fun e2 _ => h.apart (by simpa using e2) h11
  c2 := fun e => by have := h.c2 (by simpa using e); simp [this]
  c3 := fun _ => by simp [h11]
end
end Go.Proofs.YtnmbjmocnafekaaGreatDoor

