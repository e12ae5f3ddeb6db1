/-
  Lists of lists of numbers in memory: as they read, and as the call owns them; the laws' functions over them.
-/
import Derived.Test.YtfnfcagdoedilaaEq
import Derived.Test.YtfnfcagdoedilaaMark
import Derived.Test.YtfnfcagdoedilaaPush
import Derived.Test.YtfnfcagdoedilaaApply
import Derived.BigQuiet
namespace Go.Proofs.Ytfnfcagdoedilaa
open Go.RowKit

/-- The slice v reads as the lists zss. -/
def SSAt (w : World) (lo hi : Nat) (v : Value) (zss : List (List Int)) : Prop :=
  ∃ (A : Option Addr) (cap : Nat), v = .slice A zss.length cap ∧ zss.length ≤ cap ∧ cap ≤ maxLen ∧
    (0 < zss.length → ∃ b off, A = some ⟨b, off, none⟩ ∧ lo ≤ b ∧ b < hi ∧ ∀ k, ∀ (hk : k < zss.length), ∃ x, w.cell? ⟨b, off + k, none⟩ = some x ∧ IntsAt w lo hi x zss[k])
section
variable {w w' : World} {lo hi : Nat} {v : Value} {zss : List (List Int)}
theorem SSAt.keep (h : SSAt w lo hi v zss) (hk : ∀ k, lo ≤ k → k < hi → w'.heap[k]? = w.heap[k]?) : SSAt w' lo hi v zss := by
  obtain ⟨A, cap, e, h1, h2, h3⟩ := h
  refine ⟨A, cap, e, h1, h2, fun h0 => ?_⟩
  obtain ⟨b, off, hA, hl, hh, hc⟩ := h3 h0
  refine ⟨b, off, hA, hl, hh, fun k hkk => ?_⟩
  obtain ⟨x, hx, hz⟩ := hc k hkk
  exact ⟨x, (World.cell?_of_block (w := w) (hk b hl hh)).trans hx, hz.keep hk⟩
theorem SSAt.below {B : Nat} (h : SSAt w lo hi v zss) (hb : Below B w w') (hB : hi ≤ B) : SSAt w' lo hi v zss := h.keep fun k _ hk => hb.block k (by omega)
theorem SSAt.form (h : SSAt w lo hi v zss) : ∃ (A : Option Addr) (cap : Nat), v = .slice A zss.length cap ∧ zss.length ≤ cap ∧ cap ≤ maxLen ∧ SSAt w lo hi (.slice A zss.length cap) zss := by
  obtain ⟨A, cap, rfl, h1, h2, h3⟩ := h
  exact ⟨A, cap, rfl, h1, h2, A, cap, rfl, h1, h2, h3⟩
theorem SSAt.at_ {A : Option Addr} {n cap k : Nat} (h : SSAt w lo hi (.slice A n cap) zss) (hk : k < zss.length) :
    ∃ (b off : Nat) (A2 : Option Addr) (c2 : Nat), A = some ⟨b, off, none⟩ ∧ lo ≤ b ∧ b < hi ∧ w.cell? ⟨b, off + k, none⟩ = some (.slice A2 zss[k].length c2) ∧ IntsAt w lo hi (.slice A2 zss[k].length c2) zss[k] := by
  obtain ⟨A', cap', e, _, _, h3⟩ := h
  injection e with eA
  subst eA
  obtain ⟨b, off, hA, hl, hh, hc⟩ := h3 (by omega)
  obtain ⟨x, hx, hz⟩ := hc k hk
  obtain ⟨A2, c2, rfl, _, _, hz2⟩ := hz.form
  exact ⟨b, off, A2, c2, hA, hl, hh, hx, hz2⟩
end

set_option maxHeartbeats 1000000 in
theorem eqIntSS_same (lo hi lo' hi' : Nat) (v v' : Value) (zss : List (List Int)) (w : World) (hv : SSAt w lo hi v zss) (hv' : SSAt w lo' hi' v' zss) (hB : hi ≤ w.heap.size) (hB' : hi' ≤ w.heap.size) (hn : zss.length ≤ 1048576) :
    Calls Try.prog 47 #[v, v'] w fun e w' => e = .returned (.bool true) ∧ Below w.heap.size w w' := by
  obtain ⟨A, cap, rfl, hl, hm, hz⟩ := hv.form
  obtain ⟨A', cap', rfl, hl', hm', hz'⟩ := hv'.form
  have Hz := Lib.hid hz
  have Hz' := Lib.hid hz'
  clear hz hz' hv hv'
  go_enter Try.func47, Try.ntmps47
  go_wp2
  go_loopw [5] (fun i wr => ∃ k : Nat, k ≤ zss.length ∧ i = .int .i64 k ∧ Below w.heap.size w wr) (fun i _ => zss.length - (intOf i).toNat)
  case atStart => exact ⟨0, Nat.zero_le _, rfl, Below.refl _ _⟩
  case round =>
    obtain ⟨k, hk, rfl, hb⟩ := hrel
    by_cases hlt : k < zss.length
    · have hzx := Hz.out.below hb hB
      have hzx' := Hz'.out.below hb hB'
      obtain ⟨b, off, A2, c2, rfl, _, _, c0, hi0⟩ := hzx.at_ hlt
      obtain ⟨b', off', A2', c2', rfl, _, _, c0', hi0'⟩ := hzx'.at_ hlt
      have hi1 : (k : Int) < (zss.length : Int) := by omega
      have hbs := hb.size
      have k0 : ∀ x : InC (Below wr.heap.size wr), x.val.cell? ⟨b, off + k, none⟩ = some (.slice A2 zss[k].length c2) := fun x => (x.inD.cell (p := ⟨b, off + k, none⟩) (by dsimp only; omega)).trans c0
      have k1 : ∀ x : InC (Below wr.heap.size wr), x.val.cell? ⟨b', off' + k, none⟩ = some (.slice A2' zss[k].length c2') := fun x => (x.inD.cell (p := ⟨b', off' + k, none⟩) (by dsimp only; omega)).trans c0'
      have hne : Nonempty (InC (Below wr.heap.size wr)) := ⟨⟨wr, Below.refl _ _⟩⟩
      have Hi0 := Lib.hid hi0
      have Hi0' := Lib.hid hi0'
      have Hb := Lib.hid hb
      clear hi0 hi0' hzx hzx' hb c0 c0'
      go_wp2_with fail
      refine wp_region_class (Below wr.heap.size wr) (by kernel_rfl) (by kernel_rfl) ((Below.refl _ _).drew) ?_
      repeat (go_big_quiet_step ((go_at_call 50; rename_i x; exact (eqIntS_same lo hi lo' hi' _ _ zss[k] x.val (Hi0.out.below x.inD (by omega)) (Hi0'.out.below x.inD (by omega)) (by have := x.inD.size; omega) (by have := x.inD.size; omega)).mono fun e w' ⟨he, hb2⟩ => ⟨he, ⟨_, x.inD.trans (hb2.mono x.inD.size)⟩, rfl⟩)))
      refine wpQuiet_nil ?_
      intro _ hw'
      obtain ⟨⟨w1, hb1⟩, rfl⟩ := hw'
      have hbx := Hb.out.trans (hb1.mono hbs)
      have Hbx := Lib.hid hbx
      clear hb1 hbx
      go_wp2
      go_roundw
      case rel => exact ⟨k + 1, by omega, by go_num, Hbx.out⟩
      case measure => simp [intOf]; omega
    · obtain rfl : k = zss.length := by omega
      go_wp2
      go_ret
      exact ⟨rfl, hb⟩
end Go.Proofs.Ytfnfcagdoedilaa
