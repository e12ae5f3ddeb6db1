/-
  The contract of the model's l6Draw.
-/
import Derived.Test.YtcecljolnknapaaDoorRdn
import Derived.Test.YtcecljolnknapaaDoorPrd
import Derived.Test.YtcecljolnknapaaDoorTxs
namespace Go.Proofs.YtcecljolnknapaaDoor
open Go.RowKit

def cntD (d : Nat) : Nat := 16 * 2 ^ d - 8
def lenD (d : Nat) : Nat := 8 * 2 ^ d - 4
theorem cntD_succ (d : Nat) : cntD (d + 1) = 2 * cntD d + 8 := by unfold cntD; have : 1 ≤ 2 ^ d := Nat.one_le_two_pow; rw [Nat.pow_succ]; omega
theorem lenD_succ (d : Nat) : lenD (d + 1) = 2 * lenD d + 4 := by unfold lenD; have : 1 ≤ 2 ^ d := Nat.one_le_two_pow; rw [Nat.pow_succ]; omega
theorem cntD_ge (d : Nat) : 8 ≤ cntD d := by unfold cntD; have : 1 ≤ 2 ^ d := Nat.one_le_two_pow; omega
theorem lenD_ge (d : Nat) : 4 ≤ lenD d := by unfold lenD; have : 1 ≤ 2 ^ d := Nat.one_le_two_pow; omega
theorem RdAt.under {w w' : World} {b B : Nat} (h : RdAt w b B) (hb : Below w.heap.size w w') : RdAt w' b B := h.keep fun g hg => hb.block g (Nat.lt_of_le_of_lt hg h.lt)
def DrawPost (b B c m : Nat) (w : World) (e : Ending) (w' : World) : Prop := ∃ M : List UInt8, e = .returned (.string (str M)) ∧ 3 ≤ M.length ∧ M.length ≤ m ∧ RdAt w' b (B + c) ∧ Keep b w w'
theorem dig_nat {x : Nat} (h : x ≤ 9) : Dig (x : Int) := by unfold Dig; omega

set_option maxRecDepth 100000 in
set_option maxHeartbeats 4000000 in
theorem draw_any (b : Nat) (n : Int) (hn1 : 1 ≤ n) (hn9 : n ≤ 10) : ∀ (d B : Nat) (w : World), d ≤ 3 → B + cntD d ≤ 900000 → RdAt w b B →
    Calls Tryd.prog 71 #[.pointer (some ⟨b, 0, none⟩), .int .i64 d, .int .i64 n] w fun e w' => DrawPost b B (cntD d) (lenD d) w e w' := by
  intro d
  induction d with
  | zero =>
    intro B w hd hB hR
    have RR := Lib.hid hR
    have KK : Hid (Keep b w w) := Keep.refl _ _
    clear hR
    go_enter Tryd.func71, Tryd.ntmps71
    go_wp2_with fail
    refine (pick_any b (B) n w RR.out (by omega) (by omega)).mono ?_
    rintro e wa ⟨x, rfl, hx, _, hr, hg, _⟩
    have hx := hx (by omega)
    have Rwa := Lib.hid hr
    have Kwa := Lib.hid (KK.out.trans ⟨hg⟩)
    clear hr hg
    have dx : Dig (x : Int) := dig_nat (by omega)
    have s1 : str (dg (x : Int)) ++ (⟨#[58]⟩ : ByteArray) = str (dg (x : Int) ++ [58]) := str_append _ _
    have n1 : ¬ 9223372036854775807 < (str (dg (x : Int))).size + 1 := by rw [str_size, show (dg (x : Int)).length = 1 from rfl]; omega
    obtain ⟨La, la⟩ : ∃ L, L = dg (x : Int) ++ [58] := ⟨_, rfl⟩
    have la2 : La.length = 2 := by rw [la]; rfl
    rw [← la] at s1
    clear la
    go_wp2_with fail
    refine (specDec_any (x : Int) dx wa).mono ?_
    rintro e wb ⟨rfl, hb⟩
    have Rwb := Lib.hid (Rwa.out.under hb)
    have Kwb := Lib.hid (Kwa.out.of_below hb)
    clear hb
    go_wp2_with fail
    refine (pick_any b (B + 1) 2 wb Rwb.out (by omega) (by omega)).mono ?_
    rintro e wc ⟨y, rfl, hy, _, hr, hg, _⟩
    have hy := hy (by omega)
    have Rwc := Lib.hid hr
    have Kwc := Lib.hid (Kwb.out.trans ⟨hg⟩)
    clear hr hg
    go_wp2_with fail
    refine (pick_any b (B + 1 + 1) 2 wc Rwc.out (by omega) (by omega)).mono ?_
    rintro e wd ⟨z, rfl, hz, _, hr, hg, _⟩
    have hz := hz (by omega)
    have Rwd := Lib.hid hr
    have Kwd := Lib.hid (Kwc.out.trans ⟨hg⟩)
    clear hr hg
    have dz : Dig ((y : Int) + (z : Int)) := by unfold Dig; omega
    have s2 : str La ++ str (dg ((y : Int) + (z : Int))) = str (La ++ dg ((y : Int) + (z : Int))) := str_append _ _
    have n2 : ¬ 9223372036854775807 < (str La).size + (str (dg ((y : Int) + (z : Int)))).size := by rw [str_size, str_size, show (dg ((y : Int) + (z : Int))).length = 1 from rfl]; omega
    obtain ⟨Lb, lb⟩ : ∃ L, L = La ++ dg ((y : Int) + (z : Int)) := ⟨_, rfl⟩
    have lb2 : Lb.length = 3 := by rw [lb, List.length_append, la2]; rfl
    rw [← lb] at s2
    have hw2 : IntKind.i64.wrap ((y : Int) + (z : Int)) = (y : Int) + (z : Int) := by rw [IntKind.wrap_i64]; omega
    clear lb
    go_wp2_with fail
    refine (specDec_any ((y : Int) + (z : Int)) dz wd).mono ?_
    rintro e we ⟨rfl, hb⟩
    have Rwe := Lib.hid (Rwd.out.under hb)
    have Kwe := Lib.hid (Kwd.out.of_below hb)
    clear hb
    go_wp2
    go_ret
    exact ⟨Lb, rfl, by omega, by have := lenD_ge (0); omega, Rwe.out.more (by have := cntD_ge (0); omega), Kwe.out⟩
  | succ d ih =>
    intro B w hd hB hR
    have IH := Lib.hid ih
    have RR := Lib.hid hR
    have KK : Hid (Keep b w w) := Keep.refl _ _
    have hcs := cntD_succ d
    have hls := lenD_succ d
    have hc3 : cntD d ≤ 120 := by unfold cntD; have : 2 ^ d ≤ 2 ^ 2 := Nat.pow_le_pow_right (by decide) (by omega); omega
    have hl3 : lenD d ≤ 60 := by unfold lenD; have : 2 ^ d ≤ 2 ^ 2 := Nat.pow_le_pow_right (by decide) (by omega); omega
    have hwd : IntKind.i64.wrap ((d : Int) + 1 - 1) = (d : Int) := by rw [IntKind.wrap_i64]; omega
    have hd0 : ((d : Int) + 1 == 0) = false := by simp; omega
    clear hR ih
    go_enter Tryd.func71, Tryd.ntmps71
    go_wp2_with fail
    refine (pick_any b (B) 4 w RR.out (by omega) (by omega)).mono ?_
    rintro e w1 ⟨q, rfl, hq, _, hr, hg, _⟩
    have hq := hq (by omega)
    have Rw1 := Lib.hid hr
    have Kw1 := Lib.hid (KK.out.trans ⟨hg⟩)
    clear hr hg
    by_cases hq0 : q = 0
    · subst hq0
      go_wp2_with fail
      refine (pick_any b (B + 1) n w1 Rw1.out (by omega) (by omega)).mono ?_
      rintro e wa ⟨x, rfl, hx, _, hr, hg, _⟩
      have hx := hx (by omega)
      have Rwa := Lib.hid hr
      have Kwa := Lib.hid (Kw1.out.trans ⟨hg⟩)
      clear hr hg
      have dx : Dig (x : Int) := dig_nat (by omega)
      have s1 : str (dg (x : Int)) ++ (⟨#[58]⟩ : ByteArray) = str (dg (x : Int) ++ [58]) := str_append _ _
      have n1 : ¬ 9223372036854775807 < (str (dg (x : Int))).size + 1 := by rw [str_size, show (dg (x : Int)).length = 1 from rfl]; omega
      obtain ⟨La, la⟩ : ∃ L, L = dg (x : Int) ++ [58] := ⟨_, rfl⟩
      have la2 : La.length = 2 := by rw [la]; rfl
      rw [← la] at s1
      clear la
      go_wp2_with fail
      refine (specDec_any (x : Int) dx wa).mono ?_
      rintro e wb ⟨rfl, hb⟩
      have Rwb := Lib.hid (Rwa.out.under hb)
      have Kwb := Lib.hid (Kwa.out.of_below hb)
      clear hb
      go_wp2_with fail
      refine (pick_any b (B + 1 + 1) 2 wb Rwb.out (by omega) (by omega)).mono ?_
      rintro e wc ⟨y, rfl, hy, _, hr, hg, _⟩
      have hy := hy (by omega)
      have Rwc := Lib.hid hr
      have Kwc := Lib.hid (Kwb.out.trans ⟨hg⟩)
      clear hr hg
      go_wp2_with fail
      refine (pick_any b (B + 1 + 1 + 1) 2 wc Rwc.out (by omega) (by omega)).mono ?_
      rintro e wd ⟨z, rfl, hz, _, hr, hg, _⟩
      have hz := hz (by omega)
      have Rwd := Lib.hid hr
      have Kwd := Lib.hid (Kwc.out.trans ⟨hg⟩)
      clear hr hg
      have dz : Dig ((y : Int) + (z : Int)) := by unfold Dig; omega
      have s2 : str La ++ str (dg ((y : Int) + (z : Int))) = str (La ++ dg ((y : Int) + (z : Int))) := str_append _ _
      have n2 : ¬ 9223372036854775807 < (str La).size + (str (dg ((y : Int) + (z : Int)))).size := by rw [str_size, str_size, show (dg ((y : Int) + (z : Int))).length = 1 from rfl]; omega
      obtain ⟨Lb, lb⟩ : ∃ L, L = La ++ dg ((y : Int) + (z : Int)) := ⟨_, rfl⟩
      have lb2 : Lb.length = 3 := by rw [lb, List.length_append, la2]; rfl
      rw [← lb] at s2
      have hw2 : IntKind.i64.wrap ((y : Int) + (z : Int)) = (y : Int) + (z : Int) := by rw [IntKind.wrap_i64]; omega
      clear lb
      go_wp2_with fail
      refine (specDec_any ((y : Int) + (z : Int)) dz wd).mono ?_
      rintro e we ⟨rfl, hb⟩
      have Rwe := Lib.hid (Rwd.out.under hb)
      have Kwe := Lib.hid (Kwd.out.of_below hb)
      clear hb
      go_wp2
      go_ret
      exact ⟨Lb, rfl, by omega, by have := lenD_ge (d + 1); omega, Rwe.out.more (by have := cntD_ge (d + 1); omega), Kwe.out⟩
    · have hqn : ((q : Int) == 0) = false := by simp; omega
      go_wp2_with fail
      refine (pick_any b (B + 1) 6 w1 Rw1.out (by omega) (by omega)).mono ?_
      rintro e w2 ⟨ch, rfl, hch, _, hr, hg, _⟩
      have hch := hch (by omega)
      have Rw2 := Lib.hid hr
      have Kw2 := Lib.hid (Kw1.out.trans ⟨hg⟩)
      clear hr hg
      by_cases hr0 : ch = 0
      · subst hr0
        go_wp2
        go_ret
        exact ⟨[104, 40, 41], rfl, by simp, by simp; omega, Rw2.out.more (by omega), Kw2.out⟩
      · have hrn0 : ((ch : Int) == 0) = false := by simp; omega
        by_cases hr1 : ch = 1
        · subst hr1
          go_wp2_with fail
          refine (IH.out (B + 1 + 1) w2 (by omega) (by omega) Rw2.out).mono ?_
          rintro e w3 ⟨M, rfl, hM3, hMl, hr, hk⟩
          have Rw3 := Lib.hid hr
          have Kw3 := Lib.hid (Kw2.out.trans hk)
          clear hr hk
          have s1 : (⟨#[103, 40]⟩ : ByteArray) ++ str M = str ([103, 40] ++ M) := str_append [103, 40] _
          obtain ⟨La, la⟩ : ∃ L, L = [103, 40] ++ M := ⟨_, rfl⟩
          rw [← la] at s1
          have la2 : La.length = M.length + 2 := by rw [la]; simp
          have n1 : ¬ 9223372036854775807 < 2 + (str M).size := by rw [str_size]; omega
          have s2 : str La ++ (⟨#[44]⟩ : ByteArray) = str (La ++ [44]) := str_append _ _
          obtain ⟨Lb, lb⟩ : ∃ L, L = La ++ [44] := ⟨_, rfl⟩
          rw [← lb] at s2
          have lb2 : Lb.length = La.length + 1 := by rw [lb]; simp
          have n2 : ¬ 9223372036854775807 < (str La).size + 1 := by rw [str_size]; omega
          clear la lb
          go_wp2_with fail
          refine (IH.out (B + 1 + 1 + cntD d) w3 (by omega) (by omega) Rw3.out).mono ?_
          rintro e w4 ⟨M2, rfl, hM23, hM2l, hr, hk⟩
          have Rw4 := Lib.hid hr
          have Kw4 := Lib.hid (Kw3.out.trans hk)
          clear hr hk
          have s3 : str Lb ++ str M2 = str (Lb ++ M2) := str_append _ _
          obtain ⟨Lc, lc⟩ : ∃ L, L = Lb ++ M2 := ⟨_, rfl⟩
          rw [← lc] at s3
          have lc2 : Lc.length = Lb.length + M2.length := by rw [lc]; simp
          have n3 : ¬ 9223372036854775807 < (str Lb).size + (str M2).size := by rw [str_size, str_size]; omega
          have s4 : str Lc ++ (⟨#[41]⟩ : ByteArray) = str (Lc ++ [41]) := str_append _ _
          obtain ⟨Ld, ld⟩ : ∃ L, L = Lc ++ [41] := ⟨_, rfl⟩
          rw [← ld] at s4
          have ld2 : Ld.length = Lc.length + 1 := by rw [ld]; simp
          have n4 : ¬ 9223372036854775807 < (str Lc).size + 1 := by rw [str_size]; omega
          clear lc ld
          go_wp2
          go_ret
          exact ⟨Ld, rfl, by omega, by omega, Rw4.out.more (by omega), Kw4.out⟩
        · have hrn1 : ((ch : Int) == 1) = false := by simp; omega
          by_cases hr2 : ch = 2
          · subst hr2
            go_wp2_with fail
            refine (IH.out (B + 1 + 1) w2 (by omega) (by omega) Rw2.out).mono ?_
            rintro e w3 ⟨M, rfl, hM3, hMl, hr, hk⟩
            have Rw3 := Lib.hid hr
            have Kw3 := Lib.hid (Kw2.out.trans hk)
            clear hr hk
            have s1 : (⟨#[103, 40]⟩ : ByteArray) ++ str M = str ([103, 40] ++ M) := str_append [103, 40] _
            obtain ⟨La, la⟩ : ∃ L, L = [103, 40] ++ M := ⟨_, rfl⟩
            rw [← la] at s1
            have la2 : La.length = M.length + 2 := by rw [la]; simp
            have n1 : ¬ 9223372036854775807 < 2 + (str M).size := by rw [str_size]; omega
            have s2 : str La ++ (⟨#[44]⟩ : ByteArray) = str (La ++ [44]) := str_append _ _
            obtain ⟨Lb, lb⟩ : ∃ L, L = La ++ [44] := ⟨_, rfl⟩
            rw [← lb] at s2
            have lb2 : Lb.length = La.length + 1 := by rw [lb]; simp
            have n2 : ¬ 9223372036854775807 < (str La).size + 1 := by rw [str_size]; omega
            clear la lb
            go_wp2_with fail
            refine (IH.out (B + 1 + 1 + cntD d) w3 (by omega) (by omega) Rw3.out).mono ?_
            rintro e w4 ⟨M2, rfl, hM23, hM2l, hr, hk⟩
            have Rw4 := Lib.hid hr
            have Kw4 := Lib.hid (Kw3.out.trans hk)
            clear hr hk
            have s3 : str Lb ++ str M2 = str (Lb ++ M2) := str_append _ _
            obtain ⟨Lc, lc⟩ : ∃ L, L = Lb ++ M2 := ⟨_, rfl⟩
            rw [← lc] at s3
            have lc2 : Lc.length = Lb.length + M2.length := by rw [lc]; simp
            have n3 : ¬ 9223372036854775807 < (str Lb).size + (str M2).size := by rw [str_size, str_size]; omega
            have s4 : str Lc ++ (⟨#[41]⟩ : ByteArray) = str (Lc ++ [41]) := str_append _ _
            obtain ⟨Ld, ld⟩ : ∃ L, L = Lc ++ [41] := ⟨_, rfl⟩
            rw [← ld] at s4
            have ld2 : Ld.length = Lc.length + 1 := by rw [ld]; simp
            have n4 : ¬ 9223372036854775807 < (str Lc).size + 1 := by rw [str_size]; omega
            clear lc ld
            go_wp2
            go_ret
            exact ⟨Ld, rfl, by omega, by omega, Rw4.out.more (by omega), Kw4.out⟩
          · have hrn2 : ((ch : Int) == 2) = false := by simp; omega
            go_wp2_with fail
            refine (IH.out (B + 1 + 1) w2 (by omega) (by omega) Rw2.out).mono ?_
            rintro e w3 ⟨M, rfl, hM3, hMl, hr, hk⟩
            have Rw3 := Lib.hid hr
            have Kw3 := Lib.hid (Kw2.out.trans hk)
            clear hr hk
            have s1 : (⟨#[102, 40]⟩ : ByteArray) ++ str M = str ([102, 40] ++ M) := str_append [102, 40] _
            obtain ⟨La, la⟩ : ∃ L, L = [102, 40] ++ M := ⟨_, rfl⟩
            rw [← la] at s1
            have la2 : La.length = M.length + 2 := by rw [la]; simp
            have n1 : ¬ 9223372036854775807 < 2 + (str M).size := by rw [str_size]; omega
            have s2 : str La ++ (⟨#[41]⟩ : ByteArray) = str (La ++ [41]) := str_append _ _
            obtain ⟨Lb, lb⟩ : ∃ L, L = La ++ [41] := ⟨_, rfl⟩
            rw [← lb] at s2
            have lb2 : Lb.length = La.length + 1 := by rw [lb]; simp
            have n2 : ¬ 9223372036854775807 < (str La).size + 1 := by rw [str_size]; omega
            clear la lb
            go_wp2
            go_ret
            exact ⟨Lb, rfl, by omega, by omega, Rw3.out.more (by omega), Kw3.out⟩
end Go.Proofs.YtcecljolnknapaaDoor
