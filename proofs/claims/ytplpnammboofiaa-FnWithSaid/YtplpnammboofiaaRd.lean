/-
  The model's source of draws: what it reads, and the contract of pick.
-/
import Derived.Test.YtplpnammboofiaaMem
import Derived.Test.YtplpnammboofiaaRows
import Derived.WalkKit
import Derived.ProofKit
import Derived.BigQuiet
namespace Go.Proofs.Ytplpnammboofiaa
open Go.RowKit

/-- A source of draws at the block b: at most 2000 bytes that lie before it, and at most B draws so far. -/
def RdAt (w : World) (b B : Nat) : Prop :=
  ∃ (A : Option Addr) (n c p : Nat), Row w b 91 [.slice A n c, .int .i64 (p : Nat)] ∧ p ≤ B ∧ n ≤ 2000 ∧ n ≤ c ∧ c ≤ maxLen ∧
    (0 < n → ∃ a off, A = some ⟨a, off, none⟩ ∧ a < b ∧ ∀ k, k < n → ∃ x : Nat, x < 256 ∧ w.cell? ⟨a, off + k, none⟩ = some (.int .u8 (x : Nat)))

theorem bits_xor_small {x : Nat} (hx : x < 1073741824) (hy : x / 64 < 1073741824) : bits BinOp.xor IntKind.i64 (x : Int) ((x : Int) / 64) = ((x ^^^ (x / 64) : Nat) : Int) := by
  have e : (x : Int) / 64 = ((x / 64 : Nat) : Int) := by omega
  have hl : x ^^^ (x / 64) < 2 ^ 30 := Nat.xor_lt_two_pow (by omega) (by omega)
  rw [e]
  unfold bits
  simp only [BitVec.ofInt_natCast, BitVec.toNat_xor, BitVec.toNat_ofNat]
  rw [show IntKind.i64.bits = 64 from rfl, Nat.mod_eq_of_lt (by omega), Nat.mod_eq_of_lt (by omega), IntKind.wrap_i64]
  omega

set_option maxRecDepth 100000 in
set_option maxHeartbeats 1000000 in
theorem pick_any (b B : Nat) (n : Int) (w : World) (h : RdAt w b B) (hB : B ≤ 1000000) (hn : n ≤ 1000000) :
    Calls Try.prog 36 #[.pointer (some ⟨b, 0, none⟩), .int .i64 n] w fun e w' => ∃ x : Nat, e = .returned (.int .i64 (x : Nat)) ∧ (1 ≤ n → (x : Int) < n) ∧ (n < 1 → x = 0) ∧ RdAt w' b (B + 1) ∧ w.grownBy w' (some b) ∧ w'.heap.size = w.heap.size := by
  obtain ⟨A, m, c, p, hr, hp, hm, hmc, hcm, hbytes⟩ := h
  have q0 := hr.cell 0
  have q1 := hr.cell 1
  have qf1 := hr.frozen 1
  have ql := hr.lt
  simp only [List.getElem?_cons_zero, List.getElem?_cons_succ] at q0 q1
  have hw1 : IntKind.i64.wrap ((p : Int) + 1) = (p : Int) + 1 := by rw [IntKind.wrap_i64]; omega
  have hw2 : IntKind.i64.wrap ((p : Int) + 1 - 1) = (p : Int) := by rw [IntKind.wrap_i64]; omega
  have hfin : Hid (RdAt (w.setCell ⟨b, 1, none⟩ (.int .i64 ((p : Int) + 1))) b (B + 1) ∧ w.grownBy (w.setCell ⟨b, 1, none⟩ (.int .i64 ((p : Int) + 1))) (some b) ∧ (w.setCell ⟨b, 1, none⟩ (.int .i64 ((p : Int) + 1))).heap.size = w.heap.size) := by
    refine ⟨⟨A, m, c, p + 1, hr.set_ 1 _, by omega, hm, hmc, hcm, fun h0 => ?_⟩, ⟨rfl, rfl, rfl, by simp [World.setCell], fun j _ hne => Below.heap_setCell _ _ _ _ (fun e => hne (by rw [e]))⟩, by simp [World.setCell]⟩
    obtain ⟨a, off, e, hab, hc⟩ := hbytes h0
    refine ⟨a, off, e, hab, fun k hk => ?_⟩
    obtain ⟨x, hx, hcx⟩ := hc k hk
    exact ⟨x, hx, (World.cell?_of_block (a := ⟨a, off + k, none⟩) (Below.heap_setCell _ _ _ _ (by dsimp only; omega))).trans hcx⟩
  have Hbytes := Lib.hid hbytes
  clear hbytes hr
  by_cases hn1 : n < 1
  · go_enter Try.func36, Try.ntmps36
    go_wp2
    go_ret
    exact ⟨0, rfl, fun h => by omega, fun _ => rfl, hfin.out⟩
  have hn0 : 1 ≤ n := by omega
  by_cases hm0 : m = 0
  · subst hm0
    go_enter Try.func36, Try.ntmps36
    go_wp2
    go_ret
    exact ⟨0, rfl, by omega, fun _ => rfl, hfin.out⟩
  obtain ⟨a, off, rfl, hab, hc⟩ := Hbytes.out (by omega)
  have hm1 : ((m : Int) == 0) = false := by simp; omega
  have Hc := Lib.hid hc
  clear hc
  by_cases hpm : p < m
  · obtain ⟨x, hx, hcx⟩ := Hc.out p hpm
    have hcx2 : (w.setCell ⟨b, 1, none⟩ (.int .i64 ((p : Int) + 1))).cell? ⟨a, off + p, none⟩ = some (.int .u8 (x : Nat)) := (World.cell?_of_block (a := ⟨a, off + p, none⟩) (Below.heap_setCell _ _ _ _ (by dsimp only; omega))).trans hcx
    go_enter Try.func36, Try.ntmps36
    go_wp2
    go_ret
    have hxm : ((x : Int) % n) = ((x % n.toNat : Nat) : Int) := by rw [Int.natCast_emod, Int.toNat_of_nonneg (by omega)]
    refine ⟨x % n.toNat, by rw [hxm]; rfl, ?_, fun h => by omega, hfin.out⟩
    have := Nat.mod_lt x (show n.toNat > 0 by omega)
    omega
  · obtain ⟨x1, hx1, hc1⟩ := Hc.out (p % m) (Nat.mod_lt _ (by omega))
    obtain ⟨x2, hx2, hc2⟩ := Hc.out ((p * 7 + 3) % m) (Nat.mod_lt _ (by omega))
    have hml : p % m < m := Nat.mod_lt _ (by omega)
    have hml2 : (p * 7 + 3) % m < m := Nat.mod_lt _ (by omega)
    obtain ⟨k3, hk3⟩ : ∃ k, k = p / m := ⟨_, rfl⟩
    have hpd : k3 ≤ p := by rw [hk3]; exact Nat.div_le_self _ _
    have e1 : (p : Int) % (m : Int) = ((p % m : Nat) : Int) := (Int.natCast_emod p m).symm
    have e2 : ((p : Int) * 7 + 3) % (m : Int) = (((p * 7 + 3) % m : Nat) : Int) := by rw [Int.natCast_emod]; rfl
    have e3 : (p : Int) / (m : Int) = (k3 : Int) := by rw [hk3]; exact (Int.natCast_ediv p m).symm
    clear hk3
    have g1 : IntKind.i64.wrap ((x1 : Int) * 131) = (x1 : Int) * 131 := by rw [IntKind.wrap_i64]; omega
    have g2 : IntKind.i64.wrap ((p : Int) * 7) = (p : Int) * 7 := by rw [IntKind.wrap_i64]; omega
    have g3 : IntKind.i64.wrap ((p : Int) * 7 + 3) = (p : Int) * 7 + 3 := by rw [IntKind.wrap_i64]; omega
    have g4 : IntKind.i64.wrap ((x2 : Int) * 1117) = (x2 : Int) * 1117 := by rw [IntKind.wrap_i64]; omega
    have g5 : IntKind.i64.wrap ((x1 : Int) * 131 + (x2 : Int) * 1117) = (x1 : Int) * 131 + (x2 : Int) * 1117 := by rw [IntKind.wrap_i64]; omega
    have g6 : IntKind.i64.wrap ((p : Int) * 29) = (p : Int) * 29 := by rw [IntKind.wrap_i64]; omega
    have g7 : IntKind.i64.wrap ((x1 : Int) * 131 + (x2 : Int) * 1117 + (p : Int) * 29) = (x1 : Int) * 131 + (x2 : Int) * 1117 + (p : Int) * 29 := by rw [IntKind.wrap_i64]; omega
    have g8 : IntKind.i64.wrap ((k3 : Int) * 53) = (k3 : Int) * 53 := by rw [IntKind.wrap_i64]; omega
    have g9 : IntKind.i64.wrap ((x1 : Int) * 131 + (x2 : Int) * 1117 + (p : Int) * 29 + (k3 : Int) * 53) = (x1 : Int) * 131 + (x2 : Int) * 1117 + (p : Int) * 29 + (k3 : Int) * 53 := by rw [IntKind.wrap_i64]; omega
    generalize hk1 : p % m = k1 at *
    generalize hk2 : (p * 7 + 3) % m = k2 at *
    clear hk1 hk2
    go_enter Try.func36, Try.ntmps36
    go_wp2_with fail
    obtain ⟨u, hu⟩ : ∃ u, u = w.setCell ⟨b, 1, none⟩ (.int .i64 ((p : Int) + 1)) := ⟨_, rfl⟩
    rw [← hu]
    have u0 : u.cell? ⟨b, 0, none⟩ = some (.slice (some ⟨a, off, none⟩) m c) := by rw [hu]; simp [go_sem, q0]
    have u1 : u.cell? ⟨a, off + k1, none⟩ = some (.int .u8 (x1 : Nat)) := by rw [hu]; exact (World.cell?_of_block (a := ⟨a, off + k1, none⟩) (Below.heap_setCell _ _ _ _ (by dsimp only; omega))).trans hc1
    have u2 : u.cell? ⟨a, off + k2, none⟩ = some (.int .u8 (x2 : Nat)) := by rw [hu]; exact (World.cell?_of_block (a := ⟨a, off + k2, none⟩) (Below.heap_setCell _ _ _ _ (by dsimp only; omega))).trans hc2
    rw [← hu] at hfin
    clear hu q0 q1 qf1 hc1 hc2
    go_quiet (fail)
    go_wp2
    go_ret
    obtain ⟨X, hX⟩ : ∃ X : Nat, X = x1 * 131 + x2 * 1117 + p * 29 + k3 * 53 := ⟨_, rfl⟩
    have hX1 : X < 1073741824 := by omega
    have hX2 : (x1 : Int) * 131 + (x2 : Int) * 1117 + (p : Int) * 29 + (k3 : Int) * 53 = (X : Int) := by omega
    have hxm : (bits BinOp.xor IntKind.i64 ((x1 : Int) * 131 + (x2 : Int) * 1117 + (p : Int) * 29 + (k3 : Int) * 53) (((x1 : Int) * 131 + (x2 : Int) * 1117 + (p : Int) * 29 + (k3 : Int) * 53) / 64)).tmod n = (((X ^^^ (X / 64)) % n.toNat : Nat) : Int) := by
      rw [hX2, bits_xor_small hX1 (by omega), Int.tmod_eq_emod_of_nonneg (by omega), Int.natCast_emod, Int.toNat_of_nonneg (by omega)]
    refine ⟨(X ^^^ (X / 64)) % n.toNat, by rw [hxm]; rfl, ?_, fun h => by omega, hfin.out.1, ⟨hfin.out.2.1.os, hfin.out.2.1.tape, hfin.out.2.1.output, hfin.out.2.1.size, hfin.out.2.1.block⟩, hfin.out.2.2⟩
    intro _
    have := Nat.mod_lt (X ^^^ (X / 64)) (show n.toNat > 0 by omega)
    omega
end Go.Proofs.Ytplpnammboofiaa
