/-
  What it is that types are valid, as a Bool function on plain data; the contracts of the model's functions that ask it.
  The texts of numbers, of coercions, of types; plain data only.
  Words for memory that the call itself made: a slice at the head of a row, coercions whose maps lie in rows of their own.
  The contracts of the functions that copy a slice of numbers, and a coercion.
-/
import Derived.Test.YtnmbjmocnafekaaGreatDoorRows
import Derived.Test.YtnmbjmocnafekaaGreatDoorG1
import Derived.Outline
import Derived.Handy
import Derived.BigQuiet
import Derived.Deep.QuietTactic
import Derived.StillTailTactics
import Derived.Lib.Join
import Derived.Lib.ItoaNum
import Derived.Test.YtnmbjmocnafekaaGreatDoorG2
import Derived.Lib.SliceRun
import Derived.Laws.AppendOwnNone
namespace Go.Proofs.YtnmbjmocnafekaaGreatDoor
open Go.RowKit

/-- Does n lie between two numbers? -/
def inB (n lo hi : Int) : Bool := decide (lo ≤ n ∧ n ≤ hi)
theorem inB_yes {n lo hi : Int} (h1 : lo ≤ n) (h2 : n ≤ hi) : inB n lo hi = true := by simp [inB, h1, h2]
theorem inB_low {n lo hi : Int} (h1 : ¬ lo ≤ n) : inB n lo hi = false := by simp [inB, h1]
theorem inB_high {n lo hi : Int} (h1 : ¬ n ≤ hi) : inB n lo hi = false := by simp [inB, h1]
theorem inB_iff {n lo hi : Int} : inB n lo hi = true ↔ lo ≤ n ∧ n ≤ hi := by simp [inB]

theorem l1In_any (n lo hi : Int) (w : World) : Calls Tryz.prog 49 #[.int .i64 n, .int .i64 lo, .int .i64 hi] w fun e w' => e = .returned (.bool (inB n lo hi)) ∧ w = w' := by
  by_cases h1 : lo ≤ n
  · by_cases h2 : n ≤ hi
    · have H := Lib.hid (inB_yes h1 h2)
      go_enter Tryz.func49, Tryz.ntmps49
      go_wp2
      go_ret
      exact ⟨ret_bool H.out.symm, rfl⟩
    · have H := Lib.hid (inB_high (lo := lo) h2)
      go_enter Tryz.func49, Tryz.ntmps49
      go_wp2
      go_ret
      exact ⟨ret_bool H.out.symm, rfl⟩
  · have H := Lib.hid (inB_low (hi := hi) h1)
    go_enter Tryz.func49, Tryz.ntmps49
    go_wp2
    go_ret
    exact ⟨ret_bool H.out.symm, rfl⟩

/-- The sizes are valid. -/
def sizesOk (ss : List Int) : Bool := decide (1 ≤ ss.length ∧ ss.length ≤ 5) && ss.all fun n => inB n 1 4
theorem sizesOk_of {ss : List Int} (h : sizesOk ss = true) : 1 ≤ ss.length ∧ ss.length ≤ 5 ∧ ∀ k, ∀ (hk : k < ss.length), 1 ≤ ss[k] ∧ ss[k] ≤ 4 := by
  simp only [sizesOk, Bool.and_eq_true, decide_eq_true_eq, List.all_eq_true] at h
  exact ⟨h.1.1, h.1.2, fun k hk => inB_iff.1 (h.2 _ (List.getElem_mem hk))⟩

/-- All but the map's numbers of a coercion are right: for valid sizes. -/
def coHead (ss : List Int) (c : Co) : Bool := decide (0 ≤ c.src ∧ c.src < c.dst ∧ c.dst < ss.length ∧ (c.map.length : Int) = ss.getD c.src.toNat 0)
def coOk (ss : List Int) (c : Co) : Bool := coHead ss c && c.map.all fun z => inB z 0 (ss.getD c.dst.toNat 0 - 1)
def tyOk (t : Ty) : Bool := sizesOk t.sizes && decide (t.cos.length ≤ 8) && t.cos.all fun c => coOk t.sizes c
theorem coOk_of {ss : List Int} {c : Co} (h : coOk ss c = true) : 0 ≤ c.src ∧ c.src < c.dst ∧ c.dst < ss.length ∧ (c.map.length : Int) = ss.getD c.src.toNat 0 ∧ ∀ k, ∀ (hk : k < c.map.length), 0 ≤ c.map[k] ∧ c.map[k] ≤ ss.getD c.dst.toNat 0 - 1 := by
  simp only [coOk, coHead, Bool.and_eq_true, decide_eq_true_eq, List.all_eq_true] at h
  exact ⟨h.1.1, h.1.2.1, h.1.2.2.1, h.1.2.2.2, fun k hk => inB_iff.1 (h.2 _ (List.getElem_mem hk))⟩

/-- One element fails; all elements pass. -/
theorem all_false_of {α : Type} {l : List α} {p : α → Bool} (k : Nat) (hk : k < l.length) (h : p l[k] = false) : l.all p = false := by
  rw [List.all_eq_false]
  exact ⟨l[k], List.getElem_mem hk, by simp [h]⟩
theorem all_true_of {α : Type} {l : List α} {p : α → Bool} (h : ∀ j, ∀ (hj : j < l.length), p l[j] = true) : l.all p = true := by
  rw [List.all_eq_true]
  intro x hx
  obtain ⟨i, hi, rfl⟩ := List.getElem_of_mem hx
  exact h i hi

theorem wrapIn (x : Int) (h1 : -9223372036854775808 ≤ x) (h2 : x ≤ 9223372036854775807) : IntKind.i64.wrap x = x := IntWalk.i64_in x (by omega)

set_option maxRecDepth 100000 in
set_option maxHeartbeats 1000000 in
/-- The head of a coercion is wrong: the model says no. -/
theorem l1Map_no (lo hi lo' hi' : Nat) (sv x y z : Value) (ss : List Int) (c : Co) (w : World) (hv : IntsAt w lo hi sv ss) (hc : CoAt w lo' hi' x y z c) (hB : hi ≤ w.heap.size) (_hB' : hi' ≤ w.heap.size) (hok : sizesOk ss = true) (hno : coHead ss c = false) :
    Calls Tryz.prog 106 #[sv, .agg #[x, y, z]] w fun e w' => e = .returned (.bool false) ∧ Below w.heap.size w w' := by
  obtain ⟨h1, h5, hall⟩ := sizesOk_of hok
  obtain ⟨rfl, rfl, hs, hd, hz⟩ := hc
  obtain ⟨A, cap, rfl, _, _, hi1⟩ := hv.form
  obtain ⟨A', cap', rfl, hl2, hm2, hi2⟩ := hz.form
  unfold I64 at hs hd
  unfold maxLen at hm2
  have h3 : Below w.heap.size w (w.alloc (.cells #[.int .i64 c.src, .int .i64 c.dst, .slice A' c.map.length cap'] 185)) := by go_grown
  have hwr := wrapIn ((ss.length : Int) - 1) (by omega) (by omega)
  by_cases ha : 1 ≤ c.dst ∧ c.dst ≤ (ss.length : Int) - 1
  · have hA := inB_yes ha.1 ha.2
    have hwr2 := wrapIn (c.dst - 1) (by omega) (by omega)
    by_cases hb : 0 ≤ c.src ∧ c.src ≤ c.dst - 1
    · have hB2 := inB_yes hb.1 hb.2
      have hlt : c.src.toNat < ss.length := by omega
      obtain ⟨b, off, rfl, _, hbh, c0, _⟩ := (hi1.below h3 hB).at_ hlt
      have hne : ((c.map.length : Int) == ss[c.src.toNat]) = false := by
        have : ¬ (c.map.length : Int) = ss[c.src.toNat] := by
          intro e
          simp only [coHead, decide_eq_false_iff_not] at hno
          apply hno
          rw [List.getD_eq_getElem?_getD, List.getElem?_eq_getElem hlt]
          exact ⟨hb.1, by omega, by omega, e⟩
        simpa using this
      go_enter Tryz.func106, Tryz.ntmps106
      go_wp2_with fail
      go_quiet ((first | (go_at_call 49; exact quiet_eq (l1In_any _ _ _ _))))
      go_wp2
      go_ret
      exact ⟨rfl, below_drewN h3 _⟩
    · have hB2 : inB c.src 0 (c.dst - 1) = false := by
        by_cases h0 : 0 ≤ c.src
        · exact inB_high (fun h => hb ⟨h0, h⟩)
        · exact inB_low h0
      go_enter Tryz.func106, Tryz.ntmps106
      go_wp2_with fail
      go_quiet ((first | (go_at_call 49; exact quiet_eq (l1In_any _ _ _ _))))
      go_wp2
      go_ret
      exact ⟨rfl, below_drewN h3 _⟩
  · have hA : inB c.dst 1 ((ss.length : Int) - 1) = false := by
      by_cases h0 : 1 ≤ c.dst
      · exact inB_high (fun h => ha ⟨h0, h⟩)
      · exact inB_low h0
    go_enter Tryz.func106, Tryz.ntmps106
    go_wp2_with fail
    go_quiet ((first | (go_at_call 49; exact quiet_eq (l1In_any _ _ _ _))))
    go_wp2
    go_ret
    exact ⟨rfl, below_drewN h3 _⟩

set_option maxRecDepth 100000 in
set_option maxHeartbeats 2000000 in
/-- The head of a coercion is right: the model looks at the map's numbers. -/
theorem l1Map_yes (lo hi lo' hi' : Nat) (sv x y z : Value) (ss : List Int) (c : Co) (w : World) (hv : IntsAt w lo hi sv ss) (hc : CoAt w lo' hi' x y z c) (hB : hi ≤ w.heap.size) (hB' : hi' ≤ w.heap.size) (hok : sizesOk ss = true) (hyes : coHead ss c = true) :
    Calls Tryz.prog 106 #[sv, .agg #[x, y, z]] w fun e w' => e = .returned (.bool (coOk ss c)) ∧ Below w.heap.size w w' := by
  obtain ⟨h1, h5, hall⟩ := sizesOk_of hok
  obtain ⟨rfl, rfl, hs, hd, hz⟩ := hc
  obtain ⟨A, cap, rfl, _, _, hi1⟩ := hv.form
  obtain ⟨A', cap', rfl, hl2, hm2, hi2⟩ := hz.form
  unfold I64 at hs hd
  unfold maxLen at hm2
  have hyes' := hyes
  simp only [coHead, decide_eq_true_eq] at hyes'
  obtain ⟨e1, e2, e3, e4⟩ := hyes'
  have h3 : Below w.heap.size w (w.alloc (.cells #[.int .i64 c.src, .int .i64 c.dst, .slice A' c.map.length cap'] 185)) := by go_grown
  have hwr := wrapIn ((ss.length : Int) - 1) (by omega) (by omega)
  have hA := inB_yes (n := c.dst) (lo := 1) (hi := (ss.length : Int) - 1) (by omega) (by omega)
  have hwr2 := wrapIn (c.dst - 1) (by omega) (by omega)
  have hB2 := inB_yes (n := c.src) (lo := 0) (hi := c.dst - 1) (by omega) (by omega)
  have hlt : c.src.toNat < ss.length := by omega
  have hlt2 : c.dst.toNat < ss.length := by omega
  obtain ⟨b, off, rfl, _, hbh, c0, _⟩ := (hi1.below h3 hB).at_ hlt
  rw [List.getD_eq_getElem?_getD, List.getElem?_eq_getElem hlt] at e4
  have hne : ((c.map.length : Int) != ss[c.src.toNat]) = false := by simpa using e4
  have hyz := Lib.hid hyes
  have h4 := Lib.hid e4
  clear hyes e4
  go_enter Tryz.func106, Tryz.ntmps106
  go_wp2_with fail
  go_quiet ((first | (go_at_call 49; exact quiet_eq (l1In_any _ _ _ _))))
  go_wp2
  clear hA hB2 hne hwr hwr2 c0
  obtain ⟨b2, off2, eb2, _, hbh2, c02, _⟩ := (hi1.below h3 hB).at_ hlt2
  injection eb2 with eb2
  injection eb2 with eb2 eo2
  subst eb2 eo2
  have hsz := hall _ hlt2
  have Hi2 := Lib.hid (hi2.below h3 hB')
  have H3 := Lib.hid h3
  clear hi1 hi2 hv hz h3 hall
  go_loop [37] (fun i => ∃ k : Nat, k ≤ c.map.length ∧ i = .int .i64 k ∧ Hid (∀ j, j < k → ∀ (hj : j < c.map.length), inB c.map[j] 0 (ss.getD c.dst.toNat 0 - 1) = true)) (fun i => c.map.length - (intOf i).toNat)
  case atStart => exact ⟨0, Nat.zero_le _, rfl, fun j hj => absurd hj (by omega)⟩
  case round =>
    obtain ⟨k, hk, rfl, hok2⟩ := hrel
    by_cases hkl : k < c.map.length
    · obtain ⟨b3, off3, rfl, _, _, c3, _⟩ := Hi2.out.at_ hkl
      by_cases hin : inB c.map[k] 0 (ss[c.dst.toNat] - 1) = true
      · have hin' : Hid (inB c.map[k] 0 (ss.getD c.dst.toNat 0 - 1) = true) := by
          rw [List.getD_eq_getElem?_getD, List.getElem?_eq_getElem hlt2]; exact hin
        go_wp2_with (go_at_call 49; refine (l1In_any _ _ _ _).mono ?_; rintro e w' ⟨rfl, rfl⟩; rw [hin])
        go_round
        case rel =>
          refine ⟨k + 1, by omega, by go_num, fun j hj hjl => ?_⟩
          by_cases ej : j = k
          · subst ej; exact hin'.out
          · exact hok2.out j (by omega) hjl
        case measure => simp [intOf]; omega
      · have hinf : inB c.map[k] 0 (ss[c.dst.toNat] - 1) = false := by simpa using hin
        have hfin : Hid (coOk ss c = false) := by
          unfold coOk
          rw [hyz.out, Bool.true_and]
          refine all_false_of k hkl ?_
          rw [List.getD_eq_getElem?_getD, List.getElem?_eq_getElem hlt2]; exact hinf
        clear hin
        go_wp2_with (go_at_call 49; refine (l1In_any _ _ _ _).mono ?_; rintro e w' ⟨rfl, rfl⟩; rw [hinf])
        go_ret
        exact ⟨ret_bool hfin.out.symm, below_drewN H3.out _⟩
    · obtain rfl : k = c.map.length := by omega
      have hfin : Hid (coOk ss c = true) := by
        unfold coOk
        rw [hyz.out, Bool.true_and]
        exact all_true_of fun j hj => hok2.out j hj hj
      go_wp2
      go_ret
      exact ⟨ret_bool hfin.out.symm, below_drewN H3.out _⟩

theorem l1Map_any (lo hi lo' hi' : Nat) (sv x y z : Value) (ss : List Int) (c : Co) (w : World) (hv : IntsAt w lo hi sv ss) (hc : CoAt w lo' hi' x y z c) (hB : hi ≤ w.heap.size) (hB' : hi' ≤ w.heap.size) (hok : sizesOk ss = true) :
    Calls Tryz.prog 106 #[sv, .agg #[x, y, z]] w fun e w' => e = .returned (.bool (coOk ss c)) ∧ Below w.heap.size w w' := by
  by_cases h : coHead ss c = true
  · exact l1Map_yes lo hi lo' hi' sv x y z ss c w hv hc hB hB' hok h
  · have hf : coHead ss c = false := by simpa using h
    have e : coOk ss c = false := by unfold coOk; rw [hf, Bool.false_and]
    rw [e]
    exact l1Map_no lo hi lo' hi' sv x y z ss c w hv hc hB hB' hok hf

theorem tyOk_false1 {t : Ty} (h : sizesOk t.sizes = false) : tyOk t = false := by unfold tyOk; rw [h, Bool.false_and, Bool.false_and]
theorem tyOk_false2 {t : Ty} (h : ¬ t.cos.length ≤ 8) : tyOk t = false := by unfold tyOk; simp [h]
theorem tyOk_of {t : Ty} (h1 : sizesOk t.sizes = true) (h2 : t.cos.length ≤ 8) : tyOk t = t.cos.all fun c => coOk t.sizes c := by unfold tyOk; simp [h1, h2]
end Go.Proofs.YtnmbjmocnafekaaGreatDoor

namespace Go.Proofs.YtnmbjmocnafekaaGreatDoor
open Go.RowKit

/-- Bytes as a Go string. -/
def str (l : List UInt8) : ByteArray := ⟨l.toArray⟩
theorem str_append (a b : List UInt8) : str a ++ str b = str (a ++ b) := by
  unfold str
  apply ByteArray.ext
  simp [ByteArray.data_append]
theorem str_size (l : List UInt8) : (str l).size = l.length := by simp [str, ByteArray.size]
theorem str_list (s : ByteArray) : str s.data.toList = s := by cases s; simp [str]
theorem str_inj {a b : List UInt8} (h : str a = str b) : a = b := by
  unfold str at h
  injection h with h
  simpa using h

/-- A number of one digit. -/
def dg (z : Int) : List UInt8 := [UInt8.ofNat (48 + z.toNat)]
def Dig (z : Int) : Prop := 0 ≤ z ∧ z ≤ 9
theorem dg_dec {n : Nat} (h : n ≤ 9) : Lib.decDigits n = dg (n : Int) := by
  rw [Lib.decDigits, dif_pos (by omega)]
  rfl
/-- Numbers with single spaces between them: of the first k, and of all. -/
def numsTo (zs : List Int) : Nat → List UInt8
  | 0 => []
  | 1 => dg (zs.getD 0 0)
  | k + 2 => numsTo zs (k + 1) ++ [32] ++ dg (zs.getD (k + 1) 0)
def numsT (zs : List Int) : List UInt8 := numsTo zs zs.length
theorem numsTo_one (zs : List Int) : numsTo zs 1 = dg (zs.getD 0 0) := rfl
theorem numsTo_succ (zs : List Int) {k : Nat} (h : 0 < k) : numsTo zs (k + 1) = numsTo zs k ++ [32] ++ dg (zs.getD k 0) := by
  match k, h with
  | k + 1, _ => rfl
theorem numsTo_len (zs : List Int) : ∀ k, (numsTo zs k).length ≤ 2 * k
  | 0 => Nat.le_refl _
  | 1 => by simp [numsTo, dg]
  | k + 2 => by
    have := numsTo_len zs (k + 1)
    simp only [numsTo, List.length_append, dg, List.length_cons, List.length_nil]
    omega
theorem numsT_len (zs : List Int) : (numsT zs).length ≤ 2 * zs.length := numsTo_len zs zs.length
theorem join_numsTo (zs : List Int) : ∀ k, k ≤ zs.length → Lib.join ((zs.take k).map dg) [32] = numsTo zs k
  | 0, _ => rfl
  | 1, h => by
    have e : zs.take 1 = [zs[0]] := by
      rw [List.take_succ_eq_append_getElem (by omega)]
      simp
    rw [e, numsTo_one, List.getD_eq_getElem?_getD, List.getElem?_eq_getElem (by omega)]
    exact Lib.join_one _ _
  | k + 2, h => by
    have ih := join_numsTo zs (k + 1) (by omega)
    have hk : k + 1 < zs.length := by omega
    rw [numsTo, ← ih]
    match zs, hk with
    | z :: l, hk =>
      have hk' : k < l.length := by simpa using hk
      simp only [List.take_succ_cons, List.map_cons, Lib.join_cons]
      have e := Lib.joinTail_take_succ [32] (l.map dg) k (dg l[k]) (by simp [hk'])
      rw [← List.map_take, ← List.map_take] at e
      rw [e]
      have e2 : (z :: l).getD (k + 1) 0 = l[k] := by
        rw [List.getD_eq_getElem?_getD, List.getElem?_cons_succ, List.getElem?_eq_getElem hk']
        rfl
      rw [e2]
      simp [List.append_assoc]
theorem join_numsT (zs : List Int) : Lib.join (zs.map dg) [32] = numsT zs := by
  have := join_numsTo zs zs.length (Nat.le_refl _)
  rwa [List.take_length] at this

/-- The text of a coercion. -/
def coT (c : Co) : List UInt8 := dg c.src ++ [62] ++ dg c.dst ++ [58] ++ numsT c.map
/-- The text of types: with the first k coercions, and with all. -/
def tyTo (t : Ty) : Nat → List UInt8
  | 0 => numsT t.sizes
  | k + 1 => tyTo t k ++ [59] ++ coT (t.cos.getD k default)
def tyT (t : Ty) : List UInt8 := tyTo t t.cos.length
def fmtTy (t : Ty) : List UInt8 := if tyOk t = true then tyT t else []
theorem coT_len (c : Co) : (coT c).length ≤ 4 + 2 * c.map.length := by
  have := numsT_len c.map
  simp only [coT, List.length_append, dg, List.length_cons, List.length_nil]
  omega
/-- What valid types have: few numbers, all of one digit. -/
structure TyDigs (t : Ty) : Prop where
  sizes : ∀ z ∈ t.sizes, Dig z
  few : t.sizes.length ≤ 5
  cos : t.cos.length ≤ 8
  each : ∀ j, ∀ (hj : j < t.cos.length), Dig t.cos[j].src ∧ Dig t.cos[j].dst ∧ (∀ z ∈ t.cos[j].map, Dig z) ∧ t.cos[j].map.length ≤ 9
theorem tyTo_len {t : Ty} (h : TyDigs t) : ∀ k, k ≤ t.cos.length → (tyTo t k).length ≤ 10 + 23 * k
  | 0, _ => by
    have := numsT_len t.sizes
    have := h.few
    show (numsT t.sizes).length ≤ _
    omega
  | k + 1, hk => by
    have h1 := tyTo_len h k (by omega)
    have h2 := coT_len (t.cos.getD k default)
    have h3 := (h.each k (by omega)).2.2.2
    have e : t.cos.getD k default = t.cos[k] := by rw [List.getD_eq_getElem?_getD, List.getElem?_eq_getElem (by omega)]; rfl
    rw [e] at h2
    show (tyTo t k ++ [59] ++ coT (t.cos.getD k default)).length ≤ _
    rw [e]
    simp only [List.length_append, List.length_cons, List.length_nil]
    omega
theorem tyDigs {t : Ty} (h : tyOk t = true) : TyDigs t := by
  simp only [tyOk, Bool.and_eq_true, decide_eq_true_eq] at h
  obtain ⟨⟨h1, h2⟩, h3⟩ := h
  obtain ⟨_, g2, g3⟩ := sizesOk_of h1
  have one : ∀ k : Nat, k < t.sizes.length → 1 ≤ t.sizes.getD k 0 ∧ t.sizes.getD k 0 ≤ 4 := fun k hk => by
    rw [List.getD_eq_getElem?_getD, List.getElem?_eq_getElem hk]
    exact g3 k hk
  refine ⟨fun z hz => ?_, g2, h2, fun j hj => ?_⟩
  · obtain ⟨k, hk, rfl⟩ := List.getElem_of_mem hz
    have := g3 k hk
    unfold Dig
    omega
  · obtain ⟨c1, c2, c3, c4, c5⟩ := coOk_of (List.all_eq_true.1 h3 _ (List.getElem_mem hj))
    have e1 := one t.cos[j].src.toNat (by omega)
    have e2 := one t.cos[j].dst.toNat (by omega)
    refine ⟨by unfold Dig; omega, by unfold Dig; omega, fun z hz => ?_, by omega⟩
    obtain ⟨k, hk, rfl⟩ := List.getElem_of_mem hz
    have := c5 k hk
    unfold Dig
    omega
end Go.Proofs.YtnmbjmocnafekaaGreatDoor

namespace Go.Proofs.YtnmbjmocnafekaaGreatDoor
open Go.RowKit

theorem Kept.refl (S : Nat → Prop) (w : World) : Kept S w w := ⟨rfl, rfl, rfl, Nat.le_refl _, fun _ _ _ => rfl⟩
theorem Kept.weak {S S' : Nat → Prop} {w w' : World} (h : Kept S w w') (hs : ∀ k, S' k → S k) : Kept S' w w' := ⟨h.os, h.tape, h.output, h.size, fun k hk hS => h.block k hk (hs k hS)⟩
theorem Kept.setCell {S : Nat → Prop} {w w' : World} (h : Kept S w w') {p : Addr} (hp : ¬ S p.block) (u : Value) : Kept S w (w'.setCell p u) :=
  ⟨h.os, h.tape, h.output, by simpa [World.setCell] using h.size, fun k hk hS => (Below.heap_setCell w' p u k (fun e => hp (e ▸ hS))).trans (h.block k hk hS)⟩
theorem Kept.alloc {S : Nat → Prop} {w w' : World} (h : Kept S w w') (o : Obj) : Kept S w (w'.alloc o) :=
  ⟨h.os, h.tape, h.output, by have := h.size; simp; omega, fun k hk hS => (Below.heap_alloc w' o k (by have := h.size; omega)).trans (h.block k hk hS)⟩
theorem Kept.drew {S : Nat → Prop} {w w' : World} (h : Kept S w w') : Kept S w w'.drew := ⟨h.os, h.tape, h.output, h.size, h.block⟩
theorem Kept.new {S : Nat → Prop} {w w' w'' : World} (h : Kept S w w') (hb : Below w'.heap.size w' w'') : Kept S w w'' :=
  ⟨hb.os.trans h.os, hb.tape.trans h.tape, hb.output.trans h.output, Nat.le_trans h.size hb.size, fun k hk hS => (hb.block k (by have := h.size; omega)).trans (h.block k hk hS)⟩
theorem Kept.below {S : Nat → Prop} {w w' : World} {B : Nat} (h : Kept S w w') (hB : B ≤ w.heap.size) (hS : ∀ k, k < B → S k) : Below B w w' :=
  ⟨h.os, h.tape, h.output, h.size, fun k hk => h.block k (by omega) (hS k hk)⟩

/-- The numbers from k on, n of them. -/
def markL (k : Int) (n : Nat) : List Int := (List.range n).map fun i : Nat => k + (i : Int)
theorem markL_len (k : Int) (n : Nat) : (markL k n).length = n := by simp [markL]
theorem markL_get (k : Int) (n i : Nat) (h : i < (markL k n).length) : (markL k n)[i] = k + (i : Int) := by simp [markL]
theorem markL_succ (k : Int) (n : Nat) : markL k (n + 1) = markL k n ++ [k + (n : Int)] := by simp [markL, List.range_succ]

/-- The slice v of n cells begins at the head of block g, if it is not empty; its cells are xs. -/
def SlAt (w : World) (t : TypeId) (g : Nat) (v : Value) (n : Nat) (xs : List Value) : Prop :=
  ∃ (A : Option Addr) (cap : Nat), v = .slice A n cap ∧ n ≤ cap ∧ cap ≤ maxLen ∧ (n = 0 → xs = []) ∧ (0 < n → A = some ⟨g, 0, none⟩ ∧ ∃ rest, Row w g t (xs ++ rest))
def OwnI (w : World) (t : TypeId) (g : Nat) (v : Value) (zs : List Int) : Prop := SlAt w t g v zs.length (zs.map (Value.int .i64))

section
variable {w w' : World} {t : TypeId} {g n : Nat} {v : Value} {xs : List Value} {zs : List Int}
theorem SlAt.keep (h : SlAt w t g v n xs) (hk : 0 < n → w'.heap[g]? = w.heap[g]?) : SlAt w' t g v n xs := by
  obtain ⟨A, cap, e, h1, h2, h3, h4⟩ := h
  refine ⟨A, cap, e, h1, h2, h3, fun h0 => ?_⟩
  obtain ⟨hA, rest, hr⟩ := h4 h0
  exact ⟨hA, rest, hr.keep (hk h0)⟩
theorem SlAt.lt (h : SlAt w t g v n xs) (hn : 0 < n) : g < w.heap.size := by
  obtain ⟨A, cap, e, h1, h2, h3, h4⟩ := h
  exact (h4 hn).2.choose_spec.lt
theorem OwnI.ints {lo hi : Nat} (h : OwnI w t g v zs) (hw : ∀ z ∈ zs, I64 z) (hg : 0 < zs.length → lo ≤ g ∧ g < hi) : IntsAt w lo hi v zs := by
  obtain ⟨A, cap, e, h1, h2, h3, h4⟩ := h
  refine ⟨A, cap, e, h1, h2, hw, fun h0 => ?_⟩
  obtain ⟨rfl, rest, hr⟩ := h4 h0
  refine ⟨g, 0, rfl, (hg h0).1, (hg h0).2, fun k hk => ?_⟩
  rw [Nat.zero_add, hr.cell, List.getElem?_append_left (by simpa using hk), List.getElem?_map, List.getElem?_eq_getElem hk, List.getD_eq_getElem?_getD, List.getElem?_eq_getElem hk]
  rfl
theorem Row.own {cap : Nat} (h : Row w g t (zs.map (Value.int .i64))) (hc : zs.length ≤ cap) (hm : cap ≤ maxLen) : OwnI w t g (.slice (some ⟨g, 0, none⟩) zs.length cap) zs :=
  ⟨_, _, rfl, hc, hm, fun e => by simp [List.eq_nil_of_length_eq_zero e], fun _ => ⟨rfl, [], by simpa using h⟩⟩

/-- From the library's word for a row of the call's own. -/
theorem OwnI.of_owns {base : Nat} (h : w.ownsRow base t 1 v zs.length (zs.map (Value.int .i64))) : ∃ g, OwnI w t g v zs ∧ (0 < zs.length → base ≤ g ∧ g < w.heap.size) := by
  obtain ⟨h1, ⟨rfl, hn⟩ | ⟨g, cap, cur, rfl, hb, hh, hc, hm, hsz, htk⟩⟩ := h
  · refine ⟨0, ⟨none, 0, by rw [hn], by omega, Nat.zero_le _, fun e => by simp [List.eq_nil_of_length_eq_zero e], fun h0 => absurd h0 (by omega)⟩, fun h0 => absurd h0 (by omega)⟩
  · have hr : Row w g t ((zs.map (Value.int .i64)) ++ cur.toList.drop zs.length) := by
      rw [← htk, Nat.mul_one, List.take_append_drop]
      simpa [Row] using hh
    exact ⟨g, ⟨_, _, rfl, hc, hm, fun e => by simp [List.eq_nil_of_length_eq_zero e], fun _ => ⟨rfl, _, hr⟩⟩, fun _ => ⟨hb, hr.lt⟩⟩
end

theorem remark_step (f : Nat → Value) (xs : List Value) (j : Nat) (h : j < xs.length) : ((List.range j).map f ++ xs.drop j).set j (f j) = (List.range (j + 1)).map f ++ xs.drop (j + 1) := by
  have hl : ((List.range j).map f).length = j := by simp
  rw [List.set_append_right _ _ (by omega), hl, Nat.sub_self, List.drop_eq_getElem_cons h, List.set_cons_zero, List.range_succ, List.map_append, List.append_assoc]
  rfl

/-- How many numbers the maps of the first i coercions hold. -/
def lenSum (f : Nat → Co) : Nat → Nat
  | 0 => 0
  | i + 1 => lenSum f i + (f i).map.length
theorem lenSum_mono (f : Nat → Co) {i j : Nat} (h : i ≤ j) : lenSum f i ≤ lenSum f j := by
  induction j with
  | zero => obtain rfl : i = 0 := by omega
            exact Nat.le_refl _
  | succ j ih =>
    by_cases e : i = j + 1
    · rw [e]; exact Nat.le_refl _
    · have := ih (by omega)
      show _ ≤ lenSum f j + _
      omega

/-- Coercions in memory of the call's own: the slice cv at the head of block gc, the i-th map the slice mv i at the head of block m i. -/
def OwnCos (w : World) (ti tc : TypeId) (gc : Nat) (m : Nat → Nat) (mv : Nat → Value) (cv : Value) (n : Nat) (f : Nat → Co) : Prop :=
  ∃ xs : List Value, SlAt w tc gc cv n xs ∧ xs.length = n * 3 ∧
    (∀ i, i < n → xs[i * 3]? = some (.int .i64 (f i).src) ∧ xs[i * 3 + 1]? = some (.int .i64 (f i).dst) ∧ xs[i * 3 + 2]? = some (mv i)) ∧ ∀ i, i < n → OwnI w ti (m i) (mv i) (f i).map
/-- The maps' blocks are apart, and none is the coercions' own. -/
def Apart (gc : Nat) (m : Nat → Nat) (n : Nat) (f : Nat → Co) : Prop :=
  ∀ i, i < n → 0 < (f i).map.length → m i ≠ gc ∧ ∀ j, j < n → j ≠ i → 0 < (f j).map.length → m j ≠ m i

def markAt (f : Nat → Co) (k0 : Int) (i : Nat) : Int := k0 + 2 * (i : Int) + (lenSum f i : Int)
def markCo (f : Nat → Co) (k0 : Int) (i : Nat) : Co := ⟨markAt f k0 i, markAt f k0 i + 1, markL (markAt f k0 i + 2) (f i).map.length⟩
def mixCo (f : Nat → Co) (k0 : Int) (j i : Nat) : Co := if i < j then markCo f k0 i else f i
theorem mixCo_len (f : Nat → Co) (k0 : Int) (j i : Nat) : (mixCo f k0 j i).map.length = (f i).map.length := by
  unfold mixCo
  split
  · simp [markCo, markL_len]
  · rfl
theorem markAt_succ (f : Nat → Co) (k0 : Int) (i : Nat) : markAt f k0 (i + 1) = markAt f k0 i + 2 + ((f i).map.length : Int) := by
  unfold markAt
  show k0 + 2 * ((i + 1 : Nat) : Int) + ((lenSum f i + (f i).map.length : Nat) : Int) = _
  omega

/-- One coercion more is marked. -/
theorem OwnCos.step {w1 : World} {ti tc : TypeId} {gc n j : Nat} {m : Nat → Nat} {mv : Nat → Value} {cv : Value} {f : Nat → Co} {k0 : Int} {xs rest : List Value} {A : Option Addr} {cap : Nat}
    (hcv : cv = .slice A n cap) (hc : n ≤ cap) (hm : cap ≤ maxLen) (hA : A = some ⟨gc, 0, none⟩) (hj : j < n) (hx : xs.length = n * 3)
    (hf : ∀ i, i < n → xs[i * 3]? = some (.int .i64 (mixCo f k0 j i).src) ∧ xs[i * 3 + 1]? = some (.int .i64 (mixCo f k0 j i).dst) ∧ xs[i * 3 + 2]? = some (mv i))
    (hr : Row w1 gc tc (((xs.set (j * 3) (.int .i64 (markAt f k0 j))).set (j * 3 + 1) (.int .i64 (markAt f k0 j + 1))) ++ rest))
    (hms : ∀ i, i < n → i ≠ j → OwnI w1 ti (m i) (mv i) (mixCo f k0 j i).map) (hmj : OwnI w1 ti (m j) (mv j) (markL (markAt f k0 j + 2) (f j).map.length)) :
    OwnCos w1 ti tc gc m mv cv n (mixCo f k0 (j + 1)) := by
  refine ⟨(xs.set (j * 3) (.int .i64 (markAt f k0 j))).set (j * 3 + 1) (.int .i64 (markAt f k0 j + 1)), ⟨A, cap, hcv, hc, hm, fun h => absurd h (by omega), fun _ => ⟨hA, rest, hr⟩⟩, by simp [hx], fun i hi => ?_, fun i hi => ?_⟩
  · obtain ⟨a, b, c⟩ := hf i hi
    by_cases e : i = j
    · subst e
      have e1 : mixCo f k0 (i + 1) i = markCo f k0 i := by unfold mixCo; rw [if_pos (by omega)]
      rw [e1]
      refine ⟨?_, ?_, ?_⟩
      · rw [List.getElem?_set_ne (by omega), List.getElem?_set_self (by omega)]; rfl
      · rw [List.getElem?_set_self (by simp; omega)]; rfl
      · rw [List.getElem?_set_ne (by omega), List.getElem?_set_ne (by omega), c]
    · have e1 : mixCo f k0 (j + 1) i = mixCo f k0 j i := by
        unfold mixCo
        by_cases h : i < j
        · rw [if_pos h, if_pos (by omega)]
        · rw [if_neg h, if_neg (by omega)]
      rw [e1]
      refine ⟨?_, ?_, ?_⟩
      · rw [List.getElem?_set_ne (by omega), List.getElem?_set_ne (by omega), a]
      · rw [List.getElem?_set_ne (by omega), List.getElem?_set_ne (by omega), b]
      · rw [List.getElem?_set_ne (by omega), List.getElem?_set_ne (by omega), c]
  · by_cases e : i = j
    · subst e
      have e1 : mixCo f k0 (i + 1) i = markCo f k0 i := by unfold mixCo; rw [if_pos (by omega)]
      rw [e1]
      exact hmj
    · have e1 : mixCo f k0 (j + 1) i = mixCo f k0 j i := by
        unfold mixCo
        by_cases h : i < j
        · rw [if_pos h, if_pos (by omega)]
        · rw [if_neg h, if_neg (by omega)]
      rw [e1]
      exact hms i hi e

theorem OwnCos.keep {w w' : World} {ti tc : TypeId} {gc n : Nat} {m : Nat → Nat} {mv : Nat → Value} {cv : Value} {f : Nat → Co} (h : OwnCos w ti tc gc m mv cv n f) (hk : 0 < n → w'.heap[gc]? = w.heap[gc]?)
    (hm : ∀ i, i < n → 0 < (f i).map.length → w'.heap[m i]? = w.heap[m i]?) : OwnCos w' ti tc gc m mv cv n f := by
  obtain ⟨xs, h1, h2, h3, h4⟩ := h
  exact ⟨xs, h1.keep hk, h2, h3, fun i hi => (h4 i hi).keep (hm i hi)⟩
theorem OwnCos.lt {w : World} {ti tc : TypeId} {gc n : Nat} {m : Nat → Nat} {mv : Nat → Value} {cv : Value} {f : Nat → Co} (h : OwnCos w ti tc gc m mv cv n f) :
    (0 < n → gc < w.heap.size) ∧ ∀ i, i < n → 0 < (f i).map.length → m i < w.heap.size := by
  obtain ⟨xs, h1, h2, h3, h4⟩ := h
  exact ⟨fun h0 => h1.lt h0, fun i hi h0 => (h4 i hi).lt h0⟩
/-- What lies in memory of the call's own reads as coercions. -/
theorem OwnCos.cosAt {w : World} {ti tc : TypeId} {gc n lo hi : Nat} {m : Nat → Nat} {mv : Nat → Value} {cv : Value} {f : Nat → Co} (h : OwnCos w ti tc gc m mv cv n f)
    (hw : ∀ i, i < n → I64 (f i).src ∧ I64 (f i).dst ∧ ∀ z ∈ (f i).map, I64 z) (hg : 0 < n → lo ≤ gc ∧ gc < hi) (hm : ∀ i, i < n → 0 < (f i).map.length → lo ≤ m i ∧ m i < hi) : CosAt w lo hi cv ((List.range n).map f) := by
  obtain ⟨xs, ⟨A, cap, rfl, hc, hcm, _, hrow⟩, hx, hcells, hmaps⟩ := h
  have e : ((List.range n).map f).length = n := by simp
  refine ⟨A, cap, by rw [e], by rw [e]; exact hc, hcm, fun h0 => ?_⟩
  rw [e] at h0
  obtain ⟨rfl, rest, hr⟩ := hrow h0
  refine ⟨gc, 0, rfl, (hg h0).1, (hg h0).2, fun k hk => ?_⟩
  rw [e] at hk
  obtain ⟨a, b, c⟩ := hcells k hk
  obtain ⟨w1, w2, w3⟩ := hw k hk
  rw [List.getD_eq_getElem?_getD, List.getElem?_eq_getElem (by rw [e]; exact hk)]
  simp only [List.getElem_map, List.getElem_range, Option.getD_some]
  refine ⟨_, _, _, ?_, ?_, ?_, rfl, rfl, w1, w2, (hmaps k hk).ints w3 (hm k hk)⟩
  · rw [Nat.zero_add, hr.cell, List.getElem?_append_left (by omega), a]
  · rw [Nat.zero_add, hr.cell, List.getElem?_append_left (by omega), b]
  · rw [Nat.zero_add, hr.cell, List.getElem?_append_left (by omega), c]

/-- Types in memory of the call's own. -/
structure OwnTy (w : World) (ti tc : TypeId) (gs gc : Nat) (m : Nat → Nat) (mv : Nat → Value) (sv cv : Value) (ss : List Int) (n : Nat) (f : Nat → Co) : Prop where
  sizes : OwnI w ti gs sv ss
  cos : OwnCos w ti tc gc m mv cv n f
  apart : Apart gc m n f
  away : 0 < ss.length → (gs ≠ gc ∧ ∀ i, i < n → 0 < (f i).map.length → gs ≠ m i)
/-- The blocks of such types. -/
def OwnTy.uses (gs gc : Nat) (m : Nat → Nat) (ss : List Int) (n : Nat) (f : Nat → Co) (k : Nat) : Prop := (0 < ss.length ∧ k = gs) ∨ (0 < n ∧ k = gc) ∨ ∃ i, i < n ∧ 0 < (f i).map.length ∧ k = m i
theorem Apart.mix {gc n : Nat} {m : Nat → Nat} {f : Nat → Co} (h : Apart gc m n f) (k0 : Int) (j : Nat) : Apart gc m n (mixCo f k0 j) := by
  intro i hi hl
  rw [mixCo_len] at hl
  exact ⟨(h i hi hl).1, fun j' hj' hne hl' => (h i hi hl).2 j' hj' hne (by rw [mixCo_len] at hl'; exact hl')⟩
theorem OwnTy.keep {w w' : World} {ti tc : TypeId} {gs gc n : Nat} {m : Nat → Nat} {mv : Nat → Value} {sv cv : Value} {ss : List Int} {f : Nat → Co} (h : OwnTy w ti tc gs gc m mv sv cv ss n f)
    (hk : ∀ k, k < w.heap.size → OwnTy.uses gs gc m ss n f k → w'.heap[k]? = w.heap[k]?) : OwnTy w' ti tc gs gc m mv sv cv ss n f :=
  ⟨h.sizes.keep fun h0 => hk gs (h.sizes.lt h0) (.inl ⟨h0, rfl⟩),
   h.cos.keep (fun h0 => hk gc (h.cos.lt.1 h0) (.inr (.inl ⟨h0, rfl⟩))) (fun i hi hl => hk _ (h.cos.lt.2 i hi hl) (.inr (.inr ⟨i, hi, hl, rfl⟩))), h.apart, h.away⟩
theorem OwnTy.tyAt {w : World} {ti tc : TypeId} {gs gc n lo hi : Nat} {m : Nat → Nat} {mv : Nat → Value} {sv cv : Value} {ss : List Int} {f : Nat → Co} (h : OwnTy w ti tc gs gc m mv sv cv ss n f)
    (hs : ∀ z ∈ ss, I64 z) (hw : ∀ i, i < n → I64 (f i).src ∧ I64 (f i).dst ∧ ∀ z ∈ (f i).map, I64 z) (hu : ∀ k, OwnTy.uses gs gc m ss n f k → lo ≤ k ∧ k < hi) : TyAt w lo hi sv cv ⟨ss, (List.range n).map f⟩ :=
  ⟨h.sizes.ints hs fun h0 => hu _ (.inl ⟨h0, rfl⟩), h.cos.cosAt hw (fun h0 => hu _ (.inr (.inl ⟨h0, rfl⟩))) fun i hi hl => hu _ (.inr (.inr ⟨i, hi, hl, rfl⟩))⟩
/-- Types as the copying lays them are such types. -/
theorem NewTy.own {w : World} {ti tc : TypeId} {g : Nat} {t : Ty} (h : NewTy w ti tc g t) (hb : t.bulk ≤ 1048576) :
    OwnTy w ti tc g (g + 1) (fun j => g + 1 + 1 + 4 * j + 3) (fun j => .slice (some ⟨g + 1 + 1 + 4 * j + 3, 0, none⟩) (t.cos.getD j default).map.length (t.cos.getD j default).map.length)
      (.slice (some ⟨g, 0, none⟩) t.sizes.length t.sizes.length) (.slice (some ⟨g + 1, 0, none⟩) t.cos.length t.cos.length) t.sizes t.cos.length (fun j => t.cos.getD j default) := by
  obtain ⟨h1, ⟨xs, h2, h3⟩, h4⟩ := h
  have hb' := hb
  unfold Ty.bulk at hb'
  refine ⟨h1.own (Nat.le_refl _) (by unfold maxLen; omega), ⟨xs, ⟨_, _, rfl, Nat.le_refl _, by unfold maxLen; omega, fun h0 => List.eq_nil_of_length_eq_zero (by rw [h3.1, h0]), fun _ => ⟨rfl, [], by simpa using h2⟩⟩, h3.1, fun i hi => ?_, fun i hi => ?_⟩,
    fun i hi _ => ⟨by omega, fun j hj hne _ => by omega⟩, fun _ => ⟨by omega, fun i hi _ => by omega⟩⟩
  · obtain ⟨a, b, c⟩ := h3.2 i hi hi
    have e : t.cos.getD i default = t.cos[i] := by rw [List.getD_eq_getElem?_getD, List.getElem?_eq_getElem hi]; rfl
    simp only [e]
    exact ⟨a, b, c⟩
  · have e : t.cos.getD i default = t.cos[i] := by rw [List.getD_eq_getElem?_getD, List.getElem?_eq_getElem hi]; rfl
    simp only [e]
    have := t.map_le i hi
    exact (h4 i hi).own (Nat.le_refl _) (by unfold maxLen; omega)
end Go.Proofs.YtnmbjmocnafekaaGreatDoor

namespace Go.Proofs.YtnmbjmocnafekaaGreatDoor
open Go.RowKit

/-- A value that owns a copy of these numbers. -/
def Cloned (base : Nat) (zs : List Int) (w : World) (e : Ending) (w' : World) : Prop := ∃ v, e = .returned v ∧ Below base w w' ∧ w'.ownsRow base 3 1 v zs.length (zs.map (Value.int .i64))

theorem ints_oneCell' (zs : List Int) : ∀ u ∈ zs.map (Value.int .i64), u.oneCell' = true := by
  intro u hu
  obtain ⟨z, _, rfl⟩ := List.mem_map.1 hu
  rfl
theorem IntsAt.cells {w : World} {lo hi cap n : Nat} {ad : Addr} {zs : List Int} (h : IntsAt w lo hi (.slice (some ad) n cap) zs) : ∀ j u, (zs.map (Value.int .i64))[j]? = some u → w.cell? (ad.add j) = some u := by
  intro j u hj
  have hjl : j < zs.length := by
    have := (List.getElem?_eq_some_iff.1 hj).1
    simpa using this
  obtain ⟨b, off, e, _, _, hc, _⟩ := h.at_ hjl
  injection e with e
  subst e
  rw [Go.WideShapes.add_plain, hc]
  rw [List.getElem?_map, List.getElem?_eq_getElem hjl] at hj
  simpa using hj

set_option maxRecDepth 100000 in
set_option maxHeartbeats 1000000 in
theorem clone_any (lo hi : Nat) (v : Value) (zs : List Int) (w : World) (hv : IntsAt w lo hi v zs) (hB : hi ≤ w.heap.size) (hlen : zs.length ≤ 1048576) :
    Calls Tryz.prog 175 #[v] w (Cloned w.heap.size zs w) := by
  obtain ⟨A, cap, rfl, hl, hm, hz⟩ := hv.form
  obtain ⟨i0, hi0, hz0, hz1, hz2⟩ := info_parts Tryz.infoInt
  have heq := fun wx => Lib.run_eql_slice_nil (P := Tryz.prog) wx 22 3 A zs.length cap 0 0 Tryz.underlying22
  rcases A with _ | ad
  · have hn : zs = [] := by
      rcases zs with _ | ⟨z, zs⟩
      · rfl
      · obtain ⟨b, off, e, _⟩ := hz.at_ (k := 0) (by simp)
        cases e
    subst hn
    clear hz hv
    simp only [Option.isNone_none, List.length_nil] at heq
    go_enter Tryz.func175, Tryz.ntmps175
    go_wp2
    go_ret
    exact ⟨_, rfl, Below.refl _ _, World.ownsRow_nil _ _ _ _⟩
  · have h0 := World.ownsRow_lit (base := w.heap.size) (e := 3) (size := 1) w #[] 0 (Nat.le_refl _) (by unfold maxLen; omega) rfl
    have hb0 : Below w.heap.size w (w.alloc (.cells #[] 3)) := by go_grown
    have H0 := Lib.hid h0
    have Hc := Lib.hid (hz.below hb0 hB).cells
    have Hb0 := Lib.hid hb0
    clear h0 hz hv hb0
    go_enter Tryz.func175, Tryz.ntmps175
    go_wp2_with (at_builtin; refine wpList_append_own _ rfl (.tmp 5) (.tmp 6) 22 rfl w.heap.size 3 i0 (.int .i64 0) 1 8 Tryz.underlying22 hi0 hz0 hz1 hz2 rfl (by decide) _ _ _ rfl H0.out ad zs.length cap (zs.map (Value.int .i64)) rfl (by simp) Hc.out (ints_oneCell' zs) (by unfold maxLen; omega) (by omega) (by simp) ?_; intro v' w2 hown2 hgrow _)
    go_ret
    refine ⟨_, rfl, Hb0.out.grown hgrow (by simp) (fun k hk => ?_), ?_⟩
    · have h : (some w.heap.size : Option Nat) = some k := hk
      injection h with h
      omega
    · simpa using hown2

/-- The value of a coercion with a map of its own. -/
def Copied (base : Nat) (c : Co) (w : World) (e : Ending) (w' : World) : Prop := ∃ v, e = .returned (.agg #[.int .i64 c.src, .int .i64 c.dst, v]) ∧ Below base w w' ∧ w'.ownsRow base 3 1 v c.map.length (c.map.map (Value.int .i64))

theorem ownsRow_keep {w w' : World} {base : Nat} {t : TypeId} {size : Nat} {v : Value} {n : Nat} {xs : List Value} (h : w.ownsRow base t size v n xs) (hk : ∀ g, base ≤ g → g < w.heap.size → w'.heap[g]? = w.heap[g]?) : w'.ownsRow base t size v n xs := by
  obtain ⟨h1, h2 | ⟨g, cap, cur, e, hg, hh, r⟩⟩ := h
  · exact ⟨h1, .inl h2⟩
  · have hlt : g < w.heap.size := by
      rcases Nat.lt_or_ge g w.heap.size with hlt | hge
      · exact hlt
      · rw [Array.getElem?_eq_none hge] at hh; cases hh
    exact ⟨h1, .inr ⟨g, cap, cur, e, hg, (hk g hg hlt).trans hh, r⟩⟩
theorem ownsRow_lower {w : World} {base base' : Nat} {t : TypeId} {size : Nat} {v : Value} {n : Nat} {xs : List Value} (h : w.ownsRow base t size v n xs) (hb : base' ≤ base) : w.ownsRow base' t size v n xs := by
  obtain ⟨h1, h2 | ⟨g, cap, cur, e, hg, r⟩⟩ := h
  · exact ⟨h1, .inl h2⟩
  · exact ⟨h1, .inr ⟨g, cap, cur, e, by omega, r⟩⟩

end Go.Proofs.YtnmbjmocnafekaaGreatDoor

