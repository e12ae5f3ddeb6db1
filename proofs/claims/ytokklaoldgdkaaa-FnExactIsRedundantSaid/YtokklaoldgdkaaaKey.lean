/-
  Arrays of four numbers as keys of a map.
-/
import Derived.Test.YtokklaoldgdkaaaRin
import Derived.Test.YtokklaoldgdkaaaMem
import Derived.Test.YtokklaoldgdkaaaRows
import Derived.WideKeyArr
import Derived.Maps.RangeWalk
namespace Go.Proofs.Ytokklaoldgdkaaa
open Go.RowKit Go.Maps
open Go.WideMaps (ArrKey KeyLaw)

theorem arrKey : ArrKey Try.prog 89 3 4 := ⟨Try.underlying89, by kernel_rfl, by kernel_rfl, by kernel_rfl⟩
theorem lawKey : KeyLaw Try.prog 89 := arrKey.law
theorem keyedKey : Keyed Try.prog 89 := Keyed.of_law lawKey
theorem keyedInt : Keyed Try.prog 3 := int_keyed Try.underlying3
theorem types_pos : 0 < Try.prog.types.size := of_decide_eq_true (by kernel_rfl)
theorem some_types : ∃ m, Try.prog.types.size = m + 1 := ⟨Try.prog.types.size - 1, by have := types_pos; omega⟩
theorem keyType_ok : Try.prog.keyType 89 = true := arrKey.keyType some_types
theorem zeroInt (u : World) : (zeroValue 3).run Try.prog u = .ok (.int .i64 0) u := by kernel_rfl

/-- Four numbers as a value, and as what a map's key reads as. -/
def aggI (xs : List Int) : Value := .agg (xs.map (Value.int .i64)).toArray
def kI (xs : List Int) : Lit := .string (keyBytes (xs.map (Lit.int .i64)))
def Four (xs : List Int) : Prop := xs.length = 4 ∧ ∀ x ∈ xs, I64 x

theorem four_cases {xs : List Int} (h : Four xs) : ∃ a b c d, xs = [a, b, c, d] ∧ I64 a ∧ I64 b ∧ I64 c ∧ I64 d := by
  obtain ⟨hl, hw⟩ := h
  match xs, hl with
  | [a, b, c, d], _ => exact ⟨a, b, c, d, rfl, hw a (by simp), hw b (by simp), hw c (by simp), hw d (by simp)⟩
theorem wf_of {z : Int} (h : I64 z) : (Lit.int .i64 z).wf = true := by
  unfold I64 at h
  simp [Lit.wf, IntKind.min, IntKind.max, IntKind.signed, IntKind.bits]
  omega

theorem key_lits {d : Nat} {a b c e : Int} (ha : I64 a) (hb : I64 b) (hc : I64 c) (he : I64 e) : Try.prog.keyLits (d + 2) 89 [.int .i64 a, .int .i64 b, .int .i64 c, .int .i64 e] = some [.int .i64 a, .int .i64 b, .int .i64 c, .int .i64 e] := by
  have h1 := arrKey.size
  have h2 := arrKey.one
  have one : ∀ z, I64 z → Try.prog.keyLits (d + 1) 3 [.int .i64 z] = some [.int .i64 z] := fun z hz => by
    unfold Program.keyLits
    simp [Try.underlying3, wf_of hz]
  unfold Program.keyLits
  simp only [Try.underlying89, h1, h2]
  simp [List.range, List.range.loop, one, ha, hb, hc, he]

theorem key_of {xs : List Int} (h : Four xs) : keyOf Try.prog 89 (aggI xs) = some (kI xs) := by
  obtain ⟨a, b, c, d, rfl, ha, hb, hc, hd⟩ := four_cases h
  obtain ⟨m, hm⟩ := some_types
  unfold keyOf
  simp only [Try.underlying89, keyType_ok, aggI, kI]
  have hf : (Value.agg ([a, b, c, d].map (Value.int .i64)).toArray).formed Try.prog 89 = true := by simp [Value.formed, Try.underlying89, arrKey.size]
  rw [hf, hm]
  simp only [Bool.and_self, if_true, Value.cells, List.map_cons, List.map_nil]
  rw [key_lits ha hb hc hd]
  rfl

theorem kI_inj {xs ys : List Int} (hx : Four xs) (hy : Four ys) (h : kI xs = kI ys) : xs = ys := by
  have e := keyedKey.inj (key_of hx) (h ▸ key_of hy)
  obtain ⟨a, b, c, d, rfl, _⟩ := four_cases hx
  obtain ⟨a', b', c', d', rfl, _⟩ := four_cases hy
  simpa [aggI] using e
theorem kI_key {xs : List Int} (h : Four xs) : WideAt.IsKeyLit (kI xs) := keyedKey.key (key_of h)

set_option maxRecDepth 100000 in
theorem key_inv {key : Value} {kl : Lit} (h : keyOf Try.prog 89 key = some kl) : ∃ xs, key = aggI xs ∧ Four xs := by
  obtain ⟨m, hm⟩ := some_types
  unfold keyOf at h
  simp only [Try.underlying89] at h
  by_cases hc : (Try.prog.keyType 89 && key.formed Try.prog 89) = true
  case neg => rw [if_neg hc] at h; cases h
  case pos =>
    rw [if_pos hc] at h
    simp only [Bool.and_eq_true] at hc
    obtain ⟨_, hf⟩ := hc
    cases key <;> simp [Value.formed, Try.underlying89, arrKey.size] at hf
    rename_i cs
    obtain ⟨l⟩ := cs
    match l, hf with
    | [x0, x1, x2, x3], _ =>
      rw [hm] at h
      unfold Program.keyLits at h
      simp only [Try.underlying89, arrKey.size, arrKey.one, Value.cells] at h
      have one : ∀ x : Value, (∃ ls, Try.prog.keyLits (m + 1) 3 [x] = some ls) → ∃ z, x = .int .i64 z ∧ I64 z := fun x hx => by
        obtain ⟨ls, hx⟩ := hx
        unfold Program.keyLits at hx
        cases x <;> simp [Try.underlying3] at hx
        rename_i q z
        obtain ⟨⟨rfl, hw⟩, _⟩ := hx
        refine ⟨z, rfl, ?_⟩
        simp [Lit.wf, IntKind.min, IntKind.max, IntKind.signed, IntKind.bits] at hw
        unfold I64
        omega
      have all : (∃ ls, Try.prog.keyLits (m + 1) 3 [x0] = some ls) ∧ (∃ ls, Try.prog.keyLits (m + 1) 3 [x1] = some ls) ∧ (∃ ls, Try.prog.keyLits (m + 1) 3 [x2] = some ls) ∧ (∃ ls, Try.prog.keyLits (m + 1) 3 [x3] = some ls) := by
        simp [List.range, List.range.loop] at h
        cases e0 : Try.prog.keyLits (m + 1) 3 [x0] <;> cases e1 : Try.prog.keyLits (m + 1) 3 [x1] <;> cases e2 : Try.prog.keyLits (m + 1) 3 [x2] <;> cases e3 : Try.prog.keyLits (m + 1) 3 [x3] <;> simp [e0, e1, e2, e3] at h ⊢
      obtain ⟨y0, rfl, w0⟩ := one _ all.1
      obtain ⟨y1, rfl, w1⟩ := one _ all.2.1
      obtain ⟨y2, rfl, w2⟩ := one _ all.2.2.1
      obtain ⟨y3, rfl, w3⟩ := one _ all.2.2.2
      exact ⟨[y0, y1, y2, y3], rfl, rfl, fun x hx => by simp only [List.mem_cons, List.not_mem_nil, or_false] at hx; rcases hx with rfl | rfl | rfl | rfl <;> assumption⟩
end Go.Proofs.Ytokklaoldgdkaaa
