/-
  What it is that types are valid, as a Bool function on plain data; the contracts of the model's functions that ask it.
  The contract of the model's TypesValid.
  The contracts of the program's functions that ask whether types are valid.
  The contract of the program's TypesValid.
  The contracts of HasValue, the program's and the model's.
  The contract of the program's HasValue.
  The contract of HasValue, the model's face.
-/
import Derived.Test.YtabipfomcldkiaaRows
import Derived.Test.YtabipfomcldkiaaH1
import Derived.Outline
import Derived.Handy
import Derived.BigQuiet
import Derived.Deep.QuietTactic
import Derived.StillTailTactics
namespace Go.Proofs.Ytabipfomcldkiaa
open Go.RowKit

/-- Does n lie between two numbers? -/
def inB (n lo hi : Int) : Bool := decide (lo ≤ n ∧ n ≤ hi)
theorem inB_yes {n lo hi : Int} (h1 : lo ≤ n) (h2 : n ≤ hi) : inB n lo hi = true := by simp [inB, h1, h2]
theorem inB_low {n lo hi : Int} (h1 : ¬ lo ≤ n) : inB n lo hi = false := by simp [inB, h1]
theorem inB_high {n lo hi : Int} (h1 : ¬ n ≤ hi) : inB n lo hi = false := by simp [inB, h1]
theorem inB_iff {n lo hi : Int} : inB n lo hi = true ↔ lo ≤ n ∧ n ≤ hi := by simp [inB]

theorem l1In_any (n lo hi : Int) (w : World) : Calls Try.prog 84 #[.int .i64 n, .int .i64 lo, .int .i64 hi] w fun e w' => e = .returned (.bool (inB n lo hi)) ∧ w = w' := by
  by_cases h1 : lo ≤ n
  · by_cases h2 : n ≤ hi
    · have H := Lib.hid (inB_yes h1 h2)
      go_enter Try.func84, Try.ntmps84
      go_wp2
      go_ret
      exact ⟨ret_bool H.out.symm, rfl⟩
    · have H := Lib.hid (inB_high (lo := lo) h2)
      go_enter Try.func84, Try.ntmps84
      go_wp2
      go_ret
      exact ⟨ret_bool H.out.symm, rfl⟩
  · have H := Lib.hid (inB_low (hi := hi) h1)
    go_enter Try.func84, Try.ntmps84
    go_wp2
    go_ret
    exact ⟨ret_bool H.out.symm, rfl⟩

/-- The sizes are valid. -/
def sizesOk (ss : List Int) : Bool := decide (1 ≤ ss.length ∧ ss.length ≤ 5) && ss.all fun n => inB n 1 4
theorem sizesOk_of {ss : List Int} (h : sizesOk ss = true) : 1 ≤ ss.length ∧ ss.length ≤ 5 ∧ ∀ k, ∀ (hk : k < ss.length), 1 ≤ ss[k] ∧ ss[k] ≤ 4 := by
  simp only [sizesOk, Bool.and_eq_true, decide_eq_true_eq, List.all_eq_true] at h
  exact ⟨h.1.1, h.1.2, fun k hk => inB_iff.1 (h.2 _ (List.getElem_mem hk))⟩

/-- All but the map's numbers of a coercion are right: for valid sizes. -/
def coHead (ss : List Int) (c : Co) : Bool := decide (0 ≤ c.src ∧ c.src < c.dst ∧ c.dst < ss.length ∧ (c.map.length : Int) = ss.getD c.src.toNat 0)
def coOk (ss : List Int) (c : Co) : Bool := coHead ss c && c.map.all fun z => inB z 0 (ss.getD c.dst.toNat 0 - 1)
def tyOk (t : Ty) : Bool := sizesOk t.sizes && decide (t.cos.length ≤ 8) && t.cos.all fun c => coOk t.sizes c
theorem coOk_of {ss : List Int} {c : Co} (h : coOk ss c = true) : 0 ≤ c.src ∧ c.src < c.dst ∧ c.dst < ss.length ∧ (c.map.length : Int) = ss.getD c.src.toNat 0 ∧ ∀ k, ∀ (hk : k < c.map.length), 0 ≤ c.map[k] ∧ c.map[k] ≤ ss.getD c.dst.toNat 0 - 1 := by
  simp only [coOk, coHead, Bool.and_eq_true, decide_eq_true_eq, List.all_eq_true] at h
  exact ⟨h.1.1, h.1.2.1, h.1.2.2.1, h.1.2.2.2, fun k hk => inB_iff.1 (h.2 _ (List.getElem_mem hk))⟩

/-- One element fails; all elements pass. -/
theorem all_false_of {α : Type} {l : List α} {p : α → Bool} (k : Nat) (hk : k < l.length) (h : p l[k] = false) : l.all p = false := by
  rw [List.all_eq_false]
  exact ⟨l[k], List.getElem_mem hk, by simp [h]⟩
theorem all_true_of {α : Type} {l : List α} {p : α → Bool} (h : ∀ j, ∀ (hj : j < l.length), p l[j] = true) : l.all p = true := by
  rw [List.all_eq_true]
  intro x hx
  obtain ⟨i, hi, rfl⟩ := List.getElem_of_mem hx
  exact h i hi

theorem wrapIn (x : Int) (h1 : -9223372036854775808 ≤ x) (h2 : x ≤ 9223372036854775807) : IntKind.i64.wrap x = x := IntWalk.i64_in x (by omega)

set_option maxRecDepth 100000 in
set_option maxHeartbeats 1000000 in
/-- The head of a coercion is wrong: the model says no. -/
theorem l1Map_no (lo hi lo' hi' : Nat) (sv x y z : Value) (ss : List Int) (c : Co) (w : World) (hv : IntsAt w lo hi sv ss) (hc : CoAt w lo' hi' x y z c) (hB : hi ≤ w.heap.size) (_hB' : hi' ≤ w.heap.size) (hok : sizesOk ss = true) (hno : coHead ss c = false) :
    Calls Try.prog 85 #[sv, .agg #[x, y, z]] w fun e w' => e = .returned (.bool false) ∧ Below w.heap.size w w' := by
  obtain ⟨h1, h5, hall⟩ := sizesOk_of hok
  obtain ⟨rfl, rfl, hs, hd, hz⟩ := hc
  obtain ⟨A, cap, rfl, _, _, hi1⟩ := hv.form
  obtain ⟨A', cap', rfl, hl2, hm2, hi2⟩ := hz.form
  unfold I64 at hs hd
  unfold maxLen at hm2
  have h3 : Below w.heap.size w (w.alloc (.cells #[.int .i64 c.src, .int .i64 c.dst, .slice A' c.map.length cap'] 32)) := by go_grown
  have hwr := wrapIn ((ss.length : Int) - 1) (by omega) (by omega)
  by_cases ha : 1 ≤ c.dst ∧ c.dst ≤ (ss.length : Int) - 1
  · have hA := inB_yes ha.1 ha.2
    have hwr2 := wrapIn (c.dst - 1) (by omega) (by omega)
    by_cases hb : 0 ≤ c.src ∧ c.src ≤ c.dst - 1
    · have hB2 := inB_yes hb.1 hb.2
      have hlt : c.src.toNat < ss.length := by omega
      obtain ⟨b, off, rfl, _, hbh, c0, _⟩ := (hi1.below h3 hB).at_ hlt
      have hne : ((c.map.length : Int) == ss[c.src.toNat]) = false := by
        have : ¬ (c.map.length : Int) = ss[c.src.toNat] := by
          intro e
          simp only [coHead, decide_eq_false_iff_not] at hno
          apply hno
          rw [List.getD_eq_getElem?_getD, List.getElem?_eq_getElem hlt]
          exact ⟨hb.1, by omega, by omega, e⟩
        simpa using this
      go_enter Try.func85, Try.ntmps85
      go_wp2_with fail
      go_quiet ((first | (go_at_call 84; exact quiet_eq (l1In_any _ _ _ _))))
      go_wp2
      go_ret
      exact ⟨rfl, below_drewN h3 _⟩
    · have hB2 : inB c.src 0 (c.dst - 1) = false := by
        by_cases h0 : 0 ≤ c.src
        · exact inB_high (fun h => hb ⟨h0, h⟩)
        · exact inB_low h0
      go_enter Try.func85, Try.ntmps85
      go_wp2_with fail
      go_quiet ((first | (go_at_call 84; exact quiet_eq (l1In_any _ _ _ _))))
      go_wp2
      go_ret
      exact ⟨rfl, below_drewN h3 _⟩
  · have hA : inB c.dst 1 ((ss.length : Int) - 1) = false := by
      by_cases h0 : 1 ≤ c.dst
      · exact inB_high (fun h => ha ⟨h0, h⟩)
      · exact inB_low h0
    go_enter Try.func85, Try.ntmps85
    go_wp2_with fail
    go_quiet ((first | (go_at_call 84; exact quiet_eq (l1In_any _ _ _ _))))
    go_wp2
    go_ret
    exact ⟨rfl, below_drewN h3 _⟩

set_option maxRecDepth 100000 in
set_option maxHeartbeats 2000000 in
/-- The head of a coercion is right: the model looks at the map's numbers. -/
theorem l1Map_yes (lo hi lo' hi' : Nat) (sv x y z : Value) (ss : List Int) (c : Co) (w : World) (hv : IntsAt w lo hi sv ss) (hc : CoAt w lo' hi' x y z c) (hB : hi ≤ w.heap.size) (hB' : hi' ≤ w.heap.size) (hok : sizesOk ss = true) (hyes : coHead ss c = true) :
    Calls Try.prog 85 #[sv, .agg #[x, y, z]] w fun e w' => e = .returned (.bool (coOk ss c)) ∧ Below w.heap.size w w' := by
  obtain ⟨h1, h5, hall⟩ := sizesOk_of hok
  obtain ⟨rfl, rfl, hs, hd, hz⟩ := hc
  obtain ⟨A, cap, rfl, _, _, hi1⟩ := hv.form
  obtain ⟨A', cap', rfl, hl2, hm2, hi2⟩ := hz.form
  unfold I64 at hs hd
  unfold maxLen at hm2
  have hyes' := hyes
  simp only [coHead, decide_eq_true_eq] at hyes'
  obtain ⟨e1, e2, e3, e4⟩ := hyes'
  have h3 : Below w.heap.size w (w.alloc (.cells #[.int .i64 c.src, .int .i64 c.dst, .slice A' c.map.length cap'] 32)) := by go_grown
  have hwr := wrapIn ((ss.length : Int) - 1) (by omega) (by omega)
  have hA := inB_yes (n := c.dst) (lo := 1) (hi := (ss.length : Int) - 1) (by omega) (by omega)
  have hwr2 := wrapIn (c.dst - 1) (by omega) (by omega)
  have hB2 := inB_yes (n := c.src) (lo := 0) (hi := c.dst - 1) (by omega) (by omega)
  have hlt : c.src.toNat < ss.length := by omega
  have hlt2 : c.dst.toNat < ss.length := by omega
  obtain ⟨b, off, rfl, _, hbh, c0, _⟩ := (hi1.below h3 hB).at_ hlt
  rw [List.getD_eq_getElem?_getD, List.getElem?_eq_getElem hlt] at e4
  have hne : ((c.map.length : Int) != ss[c.src.toNat]) = false := by simpa using e4
  have hyz := Lib.hid hyes
  have h4 := Lib.hid e4
  clear hyes e4
  go_enter Try.func85, Try.ntmps85
  go_wp2_with fail
  go_quiet ((first | (go_at_call 84; exact quiet_eq (l1In_any _ _ _ _))))
  go_wp2
  clear hA hB2 hne hwr hwr2 c0
  obtain ⟨b2, off2, eb2, _, hbh2, c02, _⟩ := (hi1.below h3 hB).at_ hlt2
  injection eb2 with eb2
  injection eb2 with eb2 eo2
  subst eb2 eo2
  have hsz := hall _ hlt2
  have Hi2 := Lib.hid (hi2.below h3 hB')
  have H3 := Lib.hid h3
  clear hi1 hi2 hv hz h3 hall
  go_loop [37] (fun i => ∃ k : Nat, k ≤ c.map.length ∧ i = .int .i64 k ∧ Hid (∀ j, j < k → ∀ (hj : j < c.map.length), inB c.map[j] 0 (ss.getD c.dst.toNat 0 - 1) = true)) (fun i => c.map.length - (intOf i).toNat)
  case atStart => exact ⟨0, Nat.zero_le _, rfl, fun j hj => absurd hj (by omega)⟩
  case round =>
    obtain ⟨k, hk, rfl, hok2⟩ := hrel
    by_cases hkl : k < c.map.length
    · obtain ⟨b3, off3, rfl, _, _, c3, _⟩ := Hi2.out.at_ hkl
      by_cases hin : inB c.map[k] 0 (ss[c.dst.toNat] - 1) = true
      · have hin' : Hid (inB c.map[k] 0 (ss.getD c.dst.toNat 0 - 1) = true) := by
          rw [List.getD_eq_getElem?_getD, List.getElem?_eq_getElem hlt2]; exact hin
        go_wp2_with (go_at_call 84; refine (l1In_any _ _ _ _).mono ?_; rintro e w' ⟨rfl, rfl⟩; rw [hin])
        go_round
        case rel =>
          refine ⟨k + 1, by omega, by go_num, fun j hj hjl => ?_⟩
          by_cases ej : j = k
          · subst ej; exact hin'.out
          · exact hok2.out j (by omega) hjl
        case measure => simp [intOf]; omega
      · have hinf : inB c.map[k] 0 (ss[c.dst.toNat] - 1) = false := by simpa using hin
        have hfin : Hid (coOk ss c = false) := by
          unfold coOk
          rw [hyz.out, Bool.true_and]
          refine all_false_of k hkl ?_
          rw [List.getD_eq_getElem?_getD, List.getElem?_eq_getElem hlt2]; exact hinf
        clear hin
        go_wp2_with (go_at_call 84; refine (l1In_any _ _ _ _).mono ?_; rintro e w' ⟨rfl, rfl⟩; rw [hinf])
        go_ret
        exact ⟨ret_bool hfin.out.symm, below_drewN H3.out _⟩
    · obtain rfl : k = c.map.length := by omega
      have hfin : Hid (coOk ss c = true) := by
        unfold coOk
        rw [hyz.out, Bool.true_and]
        exact all_true_of fun j hj => hok2.out j hj hj
      go_wp2
      go_ret
      exact ⟨ret_bool hfin.out.symm, below_drewN H3.out _⟩

theorem l1Map_any (lo hi lo' hi' : Nat) (sv x y z : Value) (ss : List Int) (c : Co) (w : World) (hv : IntsAt w lo hi sv ss) (hc : CoAt w lo' hi' x y z c) (hB : hi ≤ w.heap.size) (hB' : hi' ≤ w.heap.size) (hok : sizesOk ss = true) :
    Calls Try.prog 85 #[sv, .agg #[x, y, z]] w fun e w' => e = .returned (.bool (coOk ss c)) ∧ Below w.heap.size w w' := by
  by_cases h : coHead ss c = true
  · exact l1Map_yes lo hi lo' hi' sv x y z ss c w hv hc hB hB' hok h
  · have hf : coHead ss c = false := by simpa using h
    have e : coOk ss c = false := by unfold coOk; rw [hf, Bool.false_and]
    rw [e]
    exact l1Map_no lo hi lo' hi' sv x y z ss c w hv hc hB hB' hok hf

theorem tyOk_false1 {t : Ty} (h : sizesOk t.sizes = false) : tyOk t = false := by unfold tyOk; rw [h, Bool.false_and, Bool.false_and]
theorem tyOk_false2 {t : Ty} (h : ¬ t.cos.length ≤ 8) : tyOk t = false := by unfold tyOk; simp [h]
theorem tyOk_of {t : Ty} (h1 : sizesOk t.sizes = true) (h2 : t.cos.length ≤ 8) : tyOk t = t.cos.all fun c => coOk t.sizes c := by unfold tyOk; simp [h1, h2]
end Go.Proofs.Ytabipfomcldkiaa

namespace Go.Proofs.Ytabipfomcldkiaa
open Go.RowKit

set_option maxRecDepth 100000 in
set_option maxHeartbeats 2000000 in
theorem specValid_any (lo hi : Nat) (sv cv : Value) (t : Ty) (w : World) (hv : TyAt w lo hi sv cv t) (hB : hi ≤ w.heap.size) :
    Calls Try.prog 51 #[.agg #[sv, cv]] w fun e w' => e = .returned (.bool (tyOk t)) ∧ Below w.heap.size w w' := by
  obtain ⟨A, cap, rfl, hl1, hm1, hi1⟩ := hv.1.form
  obtain ⟨B, bap, rfl, hl2, hm2, hc1⟩ := hv.2.form
  unfold maxLen at hm1 hm2
  have h3 : Below w.heap.size w (w.alloc (.cells #[.slice A t.sizes.length cap, .slice B t.cos.length bap] 26)) := by go_grown
  clear hv
  by_cases ha : 1 ≤ t.sizes.length ∧ t.sizes.length ≤ 5
  · have hA : inB (t.sizes.length : Int) 1 5 = true := inB_yes (by omega) (by omega)
    by_cases hb : t.cos.length ≤ 8
    · have hd : decide ((8 : Int) < (t.cos.length : Int)) = false := by simp; omega
      have Hc1 := Lib.hid hc1
      have Hi1 := Lib.hid hi1
      have H3 := Lib.hid h3
      clear hc1 hi1 h3
      go_enter Try.func51, Try.ntmps51
      go_wp2_with (go_at_call 84; refine (l1In_any _ _ _ _).mono ?_; rintro e w' ⟨rfl, rfl⟩; rw [hA])
      clear hd hA
      go_loop [21] (fun i => ∃ k : Nat, k ≤ t.sizes.length ∧ i = .int .i64 k ∧ Hid (∀ j, j < k → ∀ (hj : j < t.sizes.length), inB t.sizes[j] 1 4 = true)) (fun i => t.sizes.length - (intOf i).toNat)
      case atStart => exact ⟨0, Nat.zero_le _, rfl, fun j hj => absurd hj (by omega)⟩
      case round =>
        obtain ⟨k, hk, rfl, hok2⟩ := hrel
        by_cases hkl : k < t.sizes.length
        · obtain ⟨b3, off3, rfl, _, _, c3, _⟩ := (Hi1.out.below H3.out hB).at_ hkl
          by_cases hin : inB t.sizes[k] 1 4 = true
          · have hin' := Lib.hid hin
            go_wp2_with (go_at_call 84; refine (l1In_any _ _ _ _).mono ?_; rintro e w' ⟨rfl, rfl⟩; rw [hin])
            go_round
            case rel =>
              refine ⟨k + 1, by omega, by go_num, fun j hj hjl => ?_⟩
              by_cases ej : j = k
              · subst ej; exact hin'.out
              · exact hok2.out j (by omega) hjl
            case measure => simp [intOf]; omega
          · have hinf : inB t.sizes[k] 1 4 = false := by simpa using hin
            have hfin : Hid (tyOk t = false) := tyOk_false1 (by
              unfold sizesOk
              rw [all_false_of k hkl hinf, Bool.and_false])
            clear hin
            go_wp2_with (go_at_call 84; refine (l1In_any _ _ _ _).mono ?_; rintro e w' ⟨rfl, rfl⟩; rw [hinf])
            go_ret
            exact ⟨ret_bool hfin.out.symm, H3.out⟩
        · obtain rfl : k = t.sizes.length := by omega
          have hsz : Hid (sizesOk t.sizes = true) := by
            show sizesOk t.sizes = true
            unfold sizesOk
            rw [all_true_of fun j hj => hok2.out j hj hj]
            simp [ha]
          go_wp2
          have hb8 := Lib.hid (tyOk_of hsz.out hb)
          clear hok2
          obtain ⟨wo, hwo⟩ : ∃ wo : World, wo = w.alloc (.cells #[.slice A t.sizes.length cap, .slice B t.cos.length bap] 26) := ⟨_, rfl⟩
          have hcells : wo.cell? ⟨w.heap.size, 0, none⟩ = some (.slice A t.sizes.length cap) ∧ wo.cell? ⟨w.heap.size, 1, none⟩ = some (.slice B t.cos.length bap) ∧ wo.heap.size = w.heap.size + 1 ∧ Below w.heap.size w wo := by
            subst hwo
            exact ⟨by simp [go_sem], by simp [go_sem], by simp, H3.out⟩
          rw [← hwo]
          clear hwo H3
          have Hwo := Lib.hid hcells
          clear hcells
          go_loopw [32] (fun i wr => ∃ k : Nat, k ≤ t.cos.length ∧ i = .int .i64 k ∧ Below (w.heap.size + 1) wo wr ∧ Hid (∀ j, j < k → ∀ (hj : j < t.cos.length), coOk t.sizes t.cos[j] = true)) (fun i _ => t.cos.length - (intOf i).toNat)
          case atStart => exact ⟨0, Nat.zero_le _, rfl, Below.refl _ _, fun j hj => absurd hj (by omega)⟩
          case round =>
            obtain ⟨k, hk, rfl, hbr, hok2⟩ := hrel
            have hbo : Below w.heap.size w wr := Hwo.out.2.2.2.trans (hbr.mono (by omega))
            have q0 : wr.cell? ⟨w.heap.size, 0, none⟩ = some (.slice A t.sizes.length cap) := (hbr.cell (p := ⟨w.heap.size, 0, none⟩) (by dsimp only; omega)).trans Hwo.out.1
            have q1 : wr.cell? ⟨w.heap.size, 1, none⟩ = some (.slice B t.cos.length bap) := (hbr.cell (p := ⟨w.heap.size, 1, none⟩) (by dsimp only; omega)).trans Hwo.out.2.1
            have hsr : w.heap.size + 1 ≤ wr.heap.size := by have := hbr.size; rw [Hwo.out.2.2.1] at this; exact this
            have hlr : w.heap.size < wr.heap.size := by omega
            by_cases hkl : k < t.cos.length
            · obtain ⟨b4, off4, A2, cap2, rfl, _, _, c0, c1, c2, _, _, hs4, hd4, hz4⟩ := (Hc1.out.below hbo hB).at_ hkl
              have hi4 := Hi1.out.below hbo hB
              have Hz4 := Lib.hid hz4
              have Hi4 := Lib.hid hi4
              have Hbr := Lib.hid hbr
              have Hbo := Lib.hid hbo
              clear hz4 hi4 hbr hbo
              by_cases hin : coOk t.sizes t.cos[k] = true
              · have hin' := Lib.hid hin
                go_wp2_with fail
                refine (l1Map_any lo hi lo hi _ _ _ _ t.sizes t.cos[k] (wr.alloc (.cells #[.int .i64 t.cos[k].src, .int .i64 t.cos[k].dst, .slice A2 t.cos[k].map.length cap2] 32)) (Hi4.out.below ((Below.refl _ _).alloc (Nat.le_refl _) _) (by omega)) ⟨rfl, rfl, hs4, hd4, Hz4.out.below ((Below.refl _ _).alloc (Nat.le_refl _) _) (by omega)⟩ (by simp; omega) (by simp; omega) hsz.out).mono ?_
                rintro e w' ⟨rfl, hbb⟩
                have Hbb := Lib.hid hbb
                clear hbb
                rw [hin]
                go_wp2
                go_roundw
                case rel =>
                  refine ⟨k + 1, by omega, by go_num, (Hbr.out.alloc (by omega) _).trans (Hbb.out.mono (by simp; omega)), fun j hj hjl => ?_⟩
                  by_cases ej : j = k
                  · subst ej; exact hin'.out
                  · exact hok2.out j (by omega) hjl
                case measure => simp [intOf]; omega
              · have hinf : coOk t.sizes t.cos[k] = false := by simpa using hin
                have hfin : Hid (tyOk t = false) := by
                  show tyOk t = false
                  rw [hb8.out]
                  exact all_false_of k hkl hinf
                clear hin
                go_wp2_with fail
                refine (l1Map_any lo hi lo hi _ _ _ _ t.sizes t.cos[k] (wr.alloc (.cells #[.int .i64 t.cos[k].src, .int .i64 t.cos[k].dst, .slice A2 t.cos[k].map.length cap2] 32)) (Hi4.out.below ((Below.refl _ _).alloc (Nat.le_refl _) _) (by omega)) ⟨rfl, rfl, hs4, hd4, Hz4.out.below ((Below.refl _ _).alloc (Nat.le_refl _) _) (by omega)⟩ (by simp; omega) (by simp; omega) hsz.out).mono ?_
                rintro e w' ⟨rfl, hbb⟩
                have Hbb := Lib.hid hbb
                clear hbb
                rw [hinf]
                go_wp2
                go_ret
                exact ⟨ret_bool hfin.out.symm, (Hbo.out.alloc (by omega) _).trans (Hbb.out.mono (by simp; omega))⟩
            · obtain rfl : k = t.cos.length := by omega
              have hfin : Hid (tyOk t = true) := by
                show tyOk t = true
                rw [hb8.out]
                exact all_true_of fun j hj => hok2.out j hj hj
              have Hbo := Lib.hid hbo
              clear hbo hbr
              go_wp2
              go_ret
              exact ⟨ret_bool hfin.out.symm, Hbo.out⟩
    · have hfin : Hid (tyOk t = false) := tyOk_false2 hb
      go_enter Try.func51, Try.ntmps51
      go_wp2_with (go_at_call 84; refine (l1In_any _ _ _ _).mono ?_; rintro e w' ⟨rfl, rfl⟩; rw [hA])
      go_ret
      exact ⟨ret_bool hfin.out.symm, h3⟩
  · have hA : inB (t.sizes.length : Int) 1 5 = false := by
      by_cases h0 : 1 ≤ t.sizes.length
      · exact inB_high (by omega)
      · exact inB_low (by omega)
    have hfin : Hid (tyOk t = false) := tyOk_false1 (by unfold sizesOk; simp [ha])
    go_enter Try.func51, Try.ntmps51
    go_wp2_with (go_at_call 84; refine (l1In_any _ _ _ _).mono ?_; rintro e w' ⟨rfl, rfl⟩; rw [hA])
    go_ret
    exact ⟨ret_bool hfin.out.symm, h3⟩
end Go.Proofs.Ytabipfomcldkiaa

namespace Go.Proofs.Ytabipfomcldkiaa
open Go.RowKit

def ixB (i n : Int) : Bool := decide (0 ≤ i ∧ i < n)
theorem ixB_yes {i n : Int} (h1 : 0 ≤ i) (h2 : i < n) : ixB i n = true := by simp [ixB, h1, h2]
theorem ixB_low {i n : Int} (h1 : ¬ 0 ≤ i) : ixB i n = false := by simp [ixB, h1]
theorem ixB_high {i n : Int} (h1 : ¬ i < n) : ixB i n = false := by simp [ixB, h1]
theorem ixB_no {i n : Int} (h : ¬ (0 ≤ i ∧ i < n)) : ixB i n = false := by simp [ixB]; omega

theorem isIndex_any (i n : Int) (w : World) : Calls Try.prog 50 #[.int .i64 i, .int .i64 n] w fun e w' => e = .returned (.bool (ixB i n)) ∧ w = w' := by
  by_cases h1 : 0 ≤ i
  · by_cases h2 : i < n
    · have H := Lib.hid (ixB_yes h1 h2)
      go_enter Try.func50, Try.ntmps50
      go_wp2
      go_ret
      exact ⟨ret_bool H.out.symm, rfl⟩
    · have H := Lib.hid (ixB_high h2)
      go_enter Try.func50, Try.ntmps50
      go_wp2
      go_ret
      exact ⟨ret_bool H.out.symm, rfl⟩
  · have H := Lib.hid (ixB_low (n := n) h1)
    go_enter Try.func50, Try.ntmps50
    go_wp2
    go_ret
    exact ⟨ret_bool H.out.symm, rfl⟩

set_option maxHeartbeats 1000000 in
theorem sizesValid_any (lo hi : Nat) (v : Value) (ss : List Int) (w : World) (hv : IntsAt w lo hi v ss) (_hB : hi ≤ w.heap.size) :
    Calls Try.prog 62 #[v] w fun e w' => e = .returned (.bool (sizesOk ss)) ∧ w = w' := by
  obtain ⟨A, cap, rfl, hl1, hm1, hi1⟩ := hv.form
  unfold maxLen at hm1
  clear hv
  by_cases ha : 1 ≤ ss.length
  · by_cases hb : ss.length ≤ 5
    · have d1 : decide ((ss.length : Int) < 1) = false := by simp; omega
      have d2 : decide ((5 : Int) < (ss.length : Int)) = false := by simp; omega
      have Hi1 := Lib.hid hi1
      clear hi1
      go_enter Try.func62, Try.ntmps62
      go_wp2
      clear d1 d2
      go_loop [15] (fun i => ∃ k : Nat, k ≤ ss.length ∧ i = .int .i64 k ∧ Hid (∀ j, j < k → ∀ (hj : j < ss.length), inB ss[j] 1 4 = true)) (fun i => ss.length - (intOf i).toNat)
      case atStart => exact ⟨0, Nat.zero_le _, rfl, fun j hj => absurd hj (by omega)⟩
      case round =>
        obtain ⟨k, hk, rfl, hok2⟩ := hrel
        by_cases hkl : k < ss.length
        · obtain ⟨b3, off3, rfl, _, _, c3, _⟩ := Hi1.out.at_ hkl
          by_cases h1 : 1 ≤ ss[k]
          · by_cases h4 : ss[k] ≤ 4
            · have hin' := Lib.hid (inB_yes h1 h4)
              go_wp2
              go_round
              case rel =>
                refine ⟨k + 1, by omega, by go_num, fun j hj hjl => ?_⟩
                by_cases ej : j = k
                · subst ej; exact hin'.out
                · exact hok2.out j (by omega) hjl
              case measure => simp [intOf]; omega
            · have hfin : Hid (sizesOk ss = false) := by
                show sizesOk ss = false
                unfold sizesOk
                rw [all_false_of (p := fun n => inB n 1 4) k hkl (inB_high h4), Bool.and_false]
              go_wp2
              go_ret
              exact ⟨ret_bool hfin.out.symm, rfl⟩
          · have hfin : Hid (sizesOk ss = false) := by
              show sizesOk ss = false
              unfold sizesOk
              rw [all_false_of (p := fun n => inB n 1 4) k hkl (inB_low h1), Bool.and_false]
            go_wp2
            go_ret
            exact ⟨ret_bool hfin.out.symm, rfl⟩
        · obtain rfl : k = ss.length := by omega
          have hfin : Hid (sizesOk ss = true) := by
            show sizesOk ss = true
            unfold sizesOk
            rw [all_true_of fun j hj => hok2.out j hj hj]
            simp [ha, hb]
          go_wp2
          go_ret
          exact ⟨ret_bool hfin.out.symm, rfl⟩
    · have hfin : Hid (sizesOk ss = false) := by
        show sizesOk ss = false
        unfold sizesOk
        simp [hb]
      go_enter Try.func62, Try.ntmps62
      go_wp2
      go_ret
      exact ⟨ret_bool hfin.out.symm, rfl⟩
  · have hfin : Hid (sizesOk ss = false) := by
      show sizesOk ss = false
      unfold sizesOk
      simp [ha]
    go_enter Try.func62, Try.ntmps62
    go_wp2
    go_ret
    exact ⟨ret_bool hfin.out.symm, rfl⟩

set_option maxRecDepth 100000 in
set_option maxHeartbeats 2000000 in
theorem fits_no (lo hi lo' hi' : Nat) (sv x y z : Value) (ss : List Int) (c : Co) (w : World) (hv : IntsAt w lo hi sv ss) (hc : CoAt w lo' hi' x y z c) (hB : hi ≤ w.heap.size) (_hB' : hi' ≤ w.heap.size) (hok : sizesOk ss = true) (hno : coHead ss c = false) :
    Calls Try.prog 63 #[.agg #[x, y, z], sv] w fun e w' => e = .returned (.bool false) ∧ Below w.heap.size w w' := by
  obtain ⟨h1, h5, hall⟩ := sizesOk_of hok
  obtain ⟨rfl, rfl, hs, hd, hz⟩ := hc
  obtain ⟨A, cap, rfl, _, _, hi1⟩ := hv.form
  obtain ⟨A', cap', rfl, hl2, hm2, hi2⟩ := hz.form
  unfold I64 at hs hd
  unfold maxLen at hm2
  have h3 : Below w.heap.size w (w.alloc (.cells #[.int .i64 c.src, .int .i64 c.dst, .slice A' c.map.length cap'] 32)) := by go_grown
  by_cases ha : 0 ≤ c.src ∧ c.src < ss.length
  · have hA := ixB_yes ha.1 ha.2
    by_cases hb : 0 ≤ c.dst ∧ c.dst < ss.length
    · have hB2 := ixB_yes hb.1 hb.2
      by_cases hlt' : c.src < c.dst
      · have hlt : c.src.toNat < ss.length := by omega
        obtain ⟨b, off, rfl, _, hbh, c0, _⟩ := (hi1.below h3 hB).at_ hlt
        have hne : ((c.map.length : Int) != ss[c.src.toNat]) = true := by
          have : ¬ (c.map.length : Int) = ss[c.src.toNat] := by
            intro e
            simp only [coHead, decide_eq_false_iff_not] at hno
            apply hno
            rw [List.getD_eq_getElem?_getD, List.getElem?_eq_getElem hlt]
            exact ⟨ha.1, by omega, by omega, e⟩
          simpa using this
        have hsi := ha.1
        have hsi2 := ha.2
        go_enter Try.func63, Try.ntmps63
        go_wp2_with (go_at_call 50; refine (isIndex_any _ _ _).mono ?_; rintro e w' ⟨rfl, rfl⟩)
        go_quiet (fail)
        go_wp2
        go_ret
        exact ⟨rfl, below_drewN h3 _⟩
      · go_enter Try.func63, Try.ntmps63
        go_wp2_with (go_at_call 50; refine (isIndex_any _ _ _).mono ?_; rintro e w' ⟨rfl, rfl⟩)
        go_ret
        exact ⟨rfl, h3⟩
    · have hB2 := ixB_no hb
      go_enter Try.func63, Try.ntmps63
      go_wp2_with (go_at_call 50; refine (isIndex_any _ _ _).mono ?_; rintro e w' ⟨rfl, rfl⟩)
      go_ret
      exact ⟨rfl, h3⟩
  · have hA := ixB_no ha
    go_enter Try.func63, Try.ntmps63
    go_wp2_with (go_at_call 50; refine (isIndex_any _ _ _).mono ?_; rintro e w' ⟨rfl, rfl⟩)
    go_ret
    exact ⟨rfl, h3⟩
end Go.Proofs.Ytabipfomcldkiaa

namespace Go.Proofs.Ytabipfomcldkiaa
open Go.RowKit

set_option maxRecDepth 100000 in
set_option maxHeartbeats 2000000 in
theorem fits_yes (lo hi lo' hi' : Nat) (sv x y z : Value) (ss : List Int) (c : Co) (w : World) (hv : IntsAt w lo hi sv ss) (hc : CoAt w lo' hi' x y z c) (hB : hi ≤ w.heap.size) (hB' : hi' ≤ w.heap.size) (hok : sizesOk ss = true) (hyes : coHead ss c = true) :
    Calls Try.prog 63 #[.agg #[x, y, z], sv] w fun e w' => e = .returned (.bool (coOk ss c)) ∧ Below w.heap.size w w' := by
  obtain ⟨h1, h5, hall⟩ := sizesOk_of hok
  obtain ⟨rfl, rfl, hs, hd, hz⟩ := hc
  obtain ⟨A, cap, rfl, _, _, hi1⟩ := hv.form
  obtain ⟨A', cap', rfl, hl2, hm2, hi2⟩ := hz.form
  unfold I64 at hs hd
  unfold maxLen at hm2
  have hyes' := hyes
  simp only [coHead, decide_eq_true_eq] at hyes'
  obtain ⟨e1, e2, e3, e4⟩ := hyes'
  have h3 : Below w.heap.size w (w.alloc (.cells #[.int .i64 c.src, .int .i64 c.dst, .slice A' c.map.length cap'] 32)) := by go_grown
  have hA := ixB_yes (i := c.src) (n := ss.length) (by omega) (by omega)
  have hB2 := ixB_yes (i := c.dst) (n := ss.length) (by omega) (by omega)
  have hlt : c.src.toNat < ss.length := by omega
  have hlt2 : c.dst.toNat < ss.length := by omega
  have hsi2 : c.src < (ss.length : Int) := by omega
  have hle : decide (c.dst ≤ c.src) = false := by simp; omega
  obtain ⟨b, off, rfl, _, hbh, c0, _⟩ := (hi1.below h3 hB).at_ hlt
  rw [List.getD_eq_getElem?_getD, List.getElem?_eq_getElem hlt] at e4
  have hne : ((c.map.length : Int) != ss[c.src.toNat]) = false := by simpa using e4
  have hyz := Lib.hid hyes
  have h4 := Lib.hid e4
  clear hyes e4
  go_enter Try.func63, Try.ntmps63
  go_wp2_with (go_at_call 50; refine (isIndex_any _ _ _).mono ?_; rintro e w' ⟨rfl, rfl⟩)
  go_quiet (fail)
  go_wp2
  clear hA hB2 hne c0 hle
  obtain ⟨b2, off2, eb2, _, hbh2, c02, _⟩ := (hi1.below h3 hB).at_ hlt2
  injection eb2 with eb2
  injection eb2 with eb2 eo2
  subst eb2 eo2
  have hd0 : 0 ≤ c.dst := by omega
  have Hi2 := Lib.hid (hi2.below h3 hB')
  have H3 := Lib.hid h3
  clear hi1 hi2 hv hz h3 hall
  go_loop [40] (fun i => ∃ k : Nat, k ≤ c.map.length ∧ i = .int .i64 k ∧ Hid (∀ j, j < k → ∀ (hj : j < c.map.length), inB c.map[j] 0 (ss.getD c.dst.toNat 0 - 1) = true)) (fun i => c.map.length - (intOf i).toNat)
  case atStart => exact ⟨0, Nat.zero_le _, rfl, fun j hj => absurd hj (by omega)⟩
  case round =>
    obtain ⟨k, hk, rfl, hok2⟩ := hrel
    by_cases hkl : k < c.map.length
    · obtain ⟨b3, off3, rfl, _, _, c3, _⟩ := Hi2.out.at_ hkl
      by_cases hin : 0 ≤ c.map[k] ∧ c.map[k] < ss[c.dst.toNat]
      · have hin' : Hid (inB c.map[k] 0 (ss.getD c.dst.toNat 0 - 1) = true) := by
          rw [List.getD_eq_getElem?_getD, List.getElem?_eq_getElem hlt2]
          exact inB_yes hin.1 (by simp; omega)
        have hix := ixB_yes hin.1 hin.2
        clear hin
        go_wp2_with (go_at_call 50; refine (isIndex_any _ _ _).mono ?_; rintro e w' ⟨rfl, rfl⟩; rw [hix])
        go_round
        case rel =>
          refine ⟨k + 1, by omega, by go_num, fun j hj hjl => ?_⟩
          by_cases ej : j = k
          · subst ej; exact hin'.out
          · exact hok2.out j (by omega) hjl
        case measure => simp [intOf]; omega
      · have hix := ixB_no hin
        have hfin : Hid (coOk ss c = false) := by
          show coOk ss c = false
          unfold coOk
          rw [hyz.out, Bool.true_and]
          refine all_false_of k hkl ?_
          rw [List.getD_eq_getElem?_getD, List.getElem?_eq_getElem hlt2]
          by_cases h0 : 0 ≤ c.map[k]
          · exact inB_high (by simp; omega)
          · exact inB_low h0
        clear hin
        go_wp2_with (go_at_call 50; refine (isIndex_any _ _ _).mono ?_; rintro e w' ⟨rfl, rfl⟩; rw [hix])
        go_ret
        exact ⟨ret_bool hfin.out.symm, below_drewN H3.out _⟩
    · obtain rfl : k = c.map.length := by omega
      have hfin : Hid (coOk ss c = true) := by
        show coOk ss c = true
        unfold coOk
        rw [hyz.out, Bool.true_and]
        exact all_true_of fun j hj => hok2.out j hj hj
      go_wp2
      go_ret
      exact ⟨ret_bool hfin.out.symm, below_drewN H3.out _⟩

theorem fits_any (lo hi lo' hi' : Nat) (sv x y z : Value) (ss : List Int) (c : Co) (w : World) (hv : IntsAt w lo hi sv ss) (hc : CoAt w lo' hi' x y z c) (hB : hi ≤ w.heap.size) (hB' : hi' ≤ w.heap.size) (hok : sizesOk ss = true) :
    Calls Try.prog 63 #[.agg #[x, y, z], sv] w fun e w' => e = .returned (.bool (coOk ss c)) ∧ Below w.heap.size w w' := by
  by_cases h : coHead ss c = true
  · exact fits_yes lo hi lo' hi' sv x y z ss c w hv hc hB hB' hok h
  · have hf : coHead ss c = false := by simpa using h
    have e : coOk ss c = false := by unfold coOk; rw [hf, Bool.false_and]
    rw [e]
    exact fits_no lo hi lo' hi' sv x y z ss c w hv hc hB hB' hok hf

set_option maxRecDepth 100000 in
set_option maxHeartbeats 2000000 in
theorem implValid_any (lo hi : Nat) (sv cv : Value) (t : Ty) (w : World) (hv : TyAt w lo hi sv cv t) (hB : hi ≤ w.heap.size) :
    Calls Try.prog 25 #[.agg #[sv, cv]] w fun e w' => e = .returned (.bool (tyOk t)) ∧ Below w.heap.size w w' := by
  obtain ⟨A, cap, rfl, hl1, hm1, hi1⟩ := hv.1.form
  obtain ⟨B, bap, rfl, hl2, hm2, hc1⟩ := hv.2.form
  unfold maxLen at hm1 hm2
  have h3 : Below w.heap.size w (w.alloc (.cells #[.slice A t.sizes.length cap, .slice B t.cos.length bap] 26)) := by go_grown
  clear hv
  have hi0 := hi1.below h3 hB
  by_cases hA : sizesOk t.sizes = true
  · by_cases hb : t.cos.length ≤ 8
    · have hd : decide ((8 : Int) < (t.cos.length : Int)) = false := by simp; omega
      have Hc1 := Lib.hid hc1
      have Hi1 := Lib.hid hi1
      have Hi0 := Lib.hid hi0
      have H3 := Lib.hid h3
      clear hc1 hi1 h3 hi0
      go_enter Try.func25, Try.ntmps25
      go_wp2_with (go_at_call 62; refine (sizesValid_any lo hi _ t.sizes _ Hi0.out (by simp; omega)).mono ?_; rintro e w' ⟨rfl, rfl⟩; rw [hA])
      have hsz := Lib.hid hA
      clear hd hA
      have hb8 := Lib.hid (tyOk_of hsz.out hb)
      obtain ⟨wo, hwo⟩ : ∃ wo : World, wo = w.alloc (.cells #[.slice A t.sizes.length cap, .slice B t.cos.length bap] 26) := ⟨_, rfl⟩
      have hcells : wo.cell? ⟨w.heap.size, 0, none⟩ = some (.slice A t.sizes.length cap) ∧ wo.cell? ⟨w.heap.size, 1, none⟩ = some (.slice B t.cos.length bap) ∧ wo.heap.size = w.heap.size + 1 ∧ Below w.heap.size w wo := by
        subst hwo
        exact ⟨by simp [go_sem], by simp [go_sem], by simp, H3.out⟩
      rw [← hwo]
      clear hwo H3
      have Hwo := Lib.hid hcells
      clear hcells
      go_loopw [18] (fun i wr => ∃ k : Nat, k ≤ t.cos.length ∧ i = .int .i64 k ∧ Below (w.heap.size + 1) wo wr ∧ Hid (∀ j, j < k → ∀ (hj : j < t.cos.length), coOk t.sizes t.cos[j] = true)) (fun i _ => t.cos.length - (intOf i).toNat)
      case atStart => exact ⟨0, Nat.zero_le _, rfl, Below.refl _ _, fun j hj => absurd hj (by omega)⟩
      case round =>
        obtain ⟨k, hk, rfl, hbr, hok2⟩ := hrel
        have hbo : Below w.heap.size w wr := Hwo.out.2.2.2.trans (hbr.mono (by omega))
        have q0 : wr.cell? ⟨w.heap.size, 0, none⟩ = some (.slice A t.sizes.length cap) := (hbr.cell (p := ⟨w.heap.size, 0, none⟩) (by dsimp only; omega)).trans Hwo.out.1
        have q1 : wr.cell? ⟨w.heap.size, 1, none⟩ = some (.slice B t.cos.length bap) := (hbr.cell (p := ⟨w.heap.size, 1, none⟩) (by dsimp only; omega)).trans Hwo.out.2.1
        have hsr : w.heap.size + 1 ≤ wr.heap.size := by have := hbr.size; rw [Hwo.out.2.2.1] at this; exact this
        have hlr : w.heap.size < wr.heap.size := by omega
        by_cases hkl : k < t.cos.length
        · obtain ⟨b4, off4, A2, cap2, rfl, _, _, c0, c1, c2, _, _, hs4, hd4, hz4⟩ := (Hc1.out.below hbo hB).at_ hkl
          have hi4 := Hi1.out.below hbo hB
          have Hz4 := Lib.hid hz4
          have Hi4 := Lib.hid hi4
          have Hbr := Lib.hid hbr
          have Hbo := Lib.hid hbo
          clear hz4 hi4 hbr hbo
          by_cases hin : coOk t.sizes t.cos[k] = true
          · have hin' := Lib.hid hin
            go_wp2_with fail
            refine (fits_any lo hi lo hi _ _ _ _ t.sizes t.cos[k] (wr.alloc (.cells #[.int .i64 t.cos[k].src, .int .i64 t.cos[k].dst, .slice A2 t.cos[k].map.length cap2] 32)) (Hi4.out.below ((Below.refl _ _).alloc (Nat.le_refl _) _) (by omega)) ⟨rfl, rfl, hs4, hd4, Hz4.out.below ((Below.refl _ _).alloc (Nat.le_refl _) _) (by omega)⟩ (by simp; omega) (by simp; omega) hsz.out).mono ?_
            rintro e w' ⟨rfl, hbb⟩
            have Hbb := Lib.hid hbb
            clear hbb
            rw [hin]
            go_wp2
            go_roundw
            case rel =>
              refine ⟨k + 1, by omega, by go_num, (Hbr.out.alloc (by omega) _).trans (Hbb.out.mono (by simp; omega)), fun j hj hjl => ?_⟩
              by_cases ej : j = k
              · subst ej; exact hin'.out
              · exact hok2.out j (by omega) hjl
            case measure => simp [intOf]; omega
          · have hinf : coOk t.sizes t.cos[k] = false := by simpa using hin
            have hfin : Hid (tyOk t = false) := by
              show tyOk t = false
              rw [hb8.out]
              exact all_false_of k hkl hinf
            clear hin
            go_wp2_with fail
            refine (fits_any lo hi lo hi _ _ _ _ t.sizes t.cos[k] (wr.alloc (.cells #[.int .i64 t.cos[k].src, .int .i64 t.cos[k].dst, .slice A2 t.cos[k].map.length cap2] 32)) (Hi4.out.below ((Below.refl _ _).alloc (Nat.le_refl _) _) (by omega)) ⟨rfl, rfl, hs4, hd4, Hz4.out.below ((Below.refl _ _).alloc (Nat.le_refl _) _) (by omega)⟩ (by simp; omega) (by simp; omega) hsz.out).mono ?_
            rintro e w' ⟨rfl, hbb⟩
            have Hbb := Lib.hid hbb
            clear hbb
            rw [hinf]
            go_wp2
            go_ret
            exact ⟨ret_bool hfin.out.symm, (Hbo.out.alloc (by omega) _).trans (Hbb.out.mono (by simp; omega))⟩
        · obtain rfl : k = t.cos.length := by omega
          have hfin : Hid (tyOk t = true) := by
            show tyOk t = true
            rw [hb8.out]
            exact all_true_of fun j hj => hok2.out j hj hj
          have Hbo := Lib.hid hbo
          clear hbo hbr
          go_wp2
          go_ret
          exact ⟨ret_bool hfin.out.symm, Hbo.out⟩
    · have hfin : Hid (tyOk t = false) := tyOk_false2 hb
      have Hi0 := Lib.hid hi0
      clear hi0
      go_enter Try.func25, Try.ntmps25
      go_wp2_with (go_at_call 62; refine (sizesValid_any lo hi _ t.sizes _ Hi0.out (by simp; omega)).mono ?_; rintro e w' ⟨rfl, rfl⟩; rw [hA])
      go_ret
      exact ⟨ret_bool hfin.out.symm, h3⟩
  · have hAf : sizesOk t.sizes = false := by simpa using hA
    have hfin : Hid (tyOk t = false) := tyOk_false1 hAf
    have Hi0 := Lib.hid hi0
    clear hi0 hA
    go_enter Try.func25, Try.ntmps25
    go_wp2_with (go_at_call 62; refine (sizesValid_any lo hi _ t.sizes _ Hi0.out (by simp; omega)).mono ?_; rintro e w' ⟨rfl, rfl⟩; rw [hAf])
    go_ret
    exact ⟨ret_bool hfin.out.symm, h3⟩
end Go.Proofs.Ytabipfomcldkiaa

namespace Go.Proofs.Ytabipfomcldkiaa
open Go.RowKit

theorem inB_ix (i n : Int) : inB i 0 (n - 1) = ixB i n := by
  unfold inB ixB
  rw [decide_eq_decide]
  omega
/-- Is v a value of the type k? -/
def hasV0 (ss : List Int) (k v : Int) : Bool := ixB k ss.length && ixB v (ss.getD k.toNat 0)
def hasV (t : Ty) (k v : Int) : Bool := tyOk t && hasV0 t.sizes k v
theorem hasV0_no {ss : List Int} {k v : Int} (h : ixB k ss.length = false) : hasV0 ss k v = false := by unfold hasV0; rw [h, Bool.false_and]
theorem hasV0_yes {ss : List Int} {k v : Int} (h : ixB k ss.length = true) (hk : k.toNat < ss.length) : hasV0 ss k v = ixB v ss[k.toNat] := by
  unfold hasV0; rw [h, Bool.true_and, List.getD_eq_getElem?_getD, List.getElem?_eq_getElem hk]; rfl
theorem tyOk_sizes {t : Ty} (h : tyOk t = true) : sizesOk t.sizes = true := by
  unfold tyOk at h
  simp only [Bool.and_eq_true] at h
  exact h.1.1

set_option maxRecDepth 100000 in
set_option maxHeartbeats 1000000 in
theorem l1Has_any (lo hi : Nat) (sv cv : Value) (t : Ty) (k v : Int) (w : World) (hv : TyAt w lo hi sv cv t) (hB : hi ≤ w.heap.size) (hok : sizesOk t.sizes = true) :
    Calls Try.prog 49 #[.agg #[sv, cv], .int .i64 k, .int .i64 v] w fun e w' => e = .returned (.bool (hasV0 t.sizes k v)) ∧ Below w.heap.size w w' := by
  obtain ⟨A, cap, rfl, hl1, hm1, hi1⟩ := hv.1.form
  obtain ⟨B, bap, rfl, hl2, hm2, _⟩ := hv.2.form
  obtain ⟨g1, g5, hall⟩ := sizesOk_of hok
  have h3 : Below w.heap.size w (w.alloc (.cells #[.slice A t.sizes.length cap, .slice B t.cos.length bap] 26)) := by go_grown
  clear hv
  by_cases ha : 0 ≤ k ∧ k < t.sizes.length
  · have hA := ixB_yes ha.1 ha.2
    have hlt : k.toNat < t.sizes.length := by omega
    have hfin := Lib.hid (hasV0_yes (v := v) hA hlt)
    obtain ⟨b, off, rfl, _, _, c0, _⟩ := (hi1.below h3 hB).at_ hlt
    have hsz := hall _ hlt
    have hA2 : inB k 0 ((t.sizes.length : Int) - 1) = true := by rw [inB_ix]; exact hA
    have hk0 := ha.1
    have hk1 := ha.2
    clear hA hall hi1 ha
    have H3 := Lib.hid h3
    clear h3
    go_enter Try.func49, Try.ntmps49
    go_wp2_with (go_at_call 84; refine (l1In_any _ _ _ _).mono ?_; rintro e w' ⟨rfl, rfl⟩)
    go_ret
    exact ⟨ret_bool (by rw [hfin.out, inB_ix]), H3.out⟩
  · have hA := ixB_no ha
    have hfin := Lib.hid (hasV0_no (v := v) hA)
    have hA2 : inB k 0 ((t.sizes.length : Int) - 1) = false := by rw [inB_ix]; exact hA
    clear hA ha
    go_enter Try.func49, Try.ntmps49
    go_wp2_with (go_at_call 84; refine (l1In_any _ _ _ _).mono ?_; rintro e w' ⟨rfl, rfl⟩)
    go_ret
    exact ⟨ret_bool hfin.out.symm, h3⟩

end Go.Proofs.Ytabipfomcldkiaa

namespace Go.Proofs.Ytabipfomcldkiaa
open Go.RowKit

set_option maxRecDepth 100000 in
set_option maxHeartbeats 1000000 in
theorem implHas_any (lo hi : Nat) (sv cv : Value) (t : Ty) (k v : Int) (w : World) (hv : TyAt w lo hi sv cv t) (hB : hi ≤ w.heap.size) :
    Calls Try.prog 15 #[.agg #[sv, cv], .int .i64 k, .int .i64 v] w fun e w' => e = .returned (.bool (hasV t k v)) ∧ Below w.heap.size w w' := by
  obtain ⟨A, cap, rfl, hl1, hm1, hi1⟩ := hv.1.form
  obtain ⟨B, bap, rfl, hl2, hm2, _⟩ := hv.2.form
  have h3 : Below w.heap.size w (w.alloc (.cells #[.slice A t.sizes.length cap, .slice B t.cos.length bap] 26)) := by go_grown
  have hv3 := Lib.hid (hv.below h3 hB)
  have Hi1 := Lib.hid hi1
  clear hv hi1
  go_enter Try.func15, Try.ntmps15
  go_wp2_with fail
  refine (implValid_any lo hi _ _ t _ hv3.out (by simp; omega)).mono ?_
  rintro e w1 ⟨rfl, hb1⟩
  have H1 := Lib.hid (box2 (hb1.mono (by simp)))
  obtain ⟨q0, q1, hl, _⟩ := box2 (hb1.mono (by simp))
  clear hb1
  by_cases hok : tyOk t = true
  · have hfin : Hid (hasV t k v = hasV0 t.sizes k v) := by show hasV t k v = _; unfold hasV; rw [hok, Bool.true_and]
    rw [hok]
    by_cases ha : 0 ≤ k ∧ k < t.sizes.length
    · have hA := ixB_yes ha.1 ha.2
      have hlt : k.toNat < t.sizes.length := by omega
      have hfin2 := Lib.hid (hasV0_yes (v := v) hA hlt)
      obtain ⟨b, off, rfl, _, _, c0, _⟩ := (Hi1.out.below H1.out.2.2.2 hB).at_ hlt
      have hk0 := ha.1
      have hk1 := ha.2
      clear ha
      go_wp2_with (go_at_call 50; refine (isIndex_any _ _ _).mono ?_; rintro e w' ⟨rfl, rfl⟩)
      go_ret
      exact ⟨ret_bool (by rw [hfin.out, hfin2.out]), H1.out.2.2.2⟩
    · have hA := ixB_no ha
      have hfin2 := Lib.hid (hasV0_no (v := v) hA)
      clear ha
      go_wp2_with (go_at_call 50; refine (isIndex_any _ _ _).mono ?_; rintro e w' ⟨rfl, rfl⟩)
      go_ret
      exact ⟨ret_bool (by rw [hfin.out, hfin2.out]), H1.out.2.2.2⟩
  · have hokf : tyOk t = false := by simpa using hok
    have hfin : Hid (hasV t k v = false) := by show hasV t k v = _; unfold hasV; rw [hokf, Bool.false_and]
    rw [hokf]
    clear hok
    go_wp2
    go_ret
    exact ⟨ret_bool hfin.out.symm, H1.out.2.2.2⟩
end Go.Proofs.Ytabipfomcldkiaa

namespace Go.Proofs.Ytabipfomcldkiaa
open Go.RowKit
attribute [local go_sem] Oper.semAt_some

set_option maxRecDepth 100000 in
set_option maxHeartbeats 1000000 in
theorem specHas_any (lo hi : Nat) (sv cv : Value) (t : Ty) (k v : Int) (w : World) (hv : TyAt w lo hi sv cv t) (hB : hi ≤ w.heap.size) :
    Calls Try.prog 27 #[.agg #[sv, cv], .int .i64 k, .int .i64 v] w fun e w' => e = .returned (.bool (hasV t k v)) ∧ Below w.heap.size w w' := by
  obtain ⟨A, cap, rfl, hl1, hm1, _⟩ := hv.1.form
  obtain ⟨B, bap, rfl, hl2, hm2, _⟩ := hv.2.form
  have h3 : Below w.heap.size w (w.alloc (.cells #[.slice A t.sizes.length cap, .slice B t.cos.length bap] 26)) := by go_grown
  have hv3 := Lib.hid (hv.below h3 hB)
  have Hv := Lib.hid hv
  clear hv
  go_enter Try.func27, Try.ntmps27
  go_wp2_with fail
  refine (specValid_any lo hi _ _ t _ hv3.out (by simp; omega)).mono ?_
  rintro e w1 ⟨rfl, hb1⟩
  have H1 := Lib.hid (box2 (hb1.mono (by simp)))
  obtain ⟨q0, q1, hl, _⟩ := box2 (hb1.mono (by simp))
  clear hb1
  by_cases hok : tyOk t = true
  · have hfin : Hid (hasV t k v = hasV0 t.sizes k v) := by show hasV t k v = _; unfold hasV; rw [hok, Bool.true_and]
    have hsz := Lib.hid (tyOk_sizes hok)
    rw [hok]
    go_wp2_with fail
    refine (l1Has_any lo hi _ _ t k v _ (Hv.out.below H1.out.2.2.2 hB) (by omega) hsz.out).mono ?_
    rintro e w2 ⟨rfl, hb2⟩
    have H2 := Lib.hid (H1.out.2.2.2.trans (hb2.mono (by omega)))
    clear hb2
    go_wp2
    go_ret
    exact ⟨ret_bool hfin.out.symm, H2.out⟩
  · have hokf : tyOk t = false := by simpa using hok
    have hfin : Hid (hasV t k v = false) := by show hasV t k v = _; unfold hasV; rw [hokf, Bool.false_and]
    rw [hokf]
    clear hok
    go_wp2
    go_ret
    exact ⟨ret_bool hfin.out.symm, H1.out.2.2.2⟩
end Go.Proofs.Ytabipfomcldkiaa

