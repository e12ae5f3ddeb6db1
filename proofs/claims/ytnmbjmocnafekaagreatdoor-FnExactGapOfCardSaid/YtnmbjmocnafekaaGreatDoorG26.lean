/-
  The contracts of the model's l6End and TermValid.
  The contracts of the program's HeadOf, LiteralOf, sizeOf, SizeOf, depthOf, DepthOf.
  The contracts of the model's l6Call, HeadOf, LiteralOf.
  The contract of the model's l6Parts.
  Small words for rows that grow.
-/
import Derived.Test.YtnmbjmocnafekaaGreatDoorG12
import Derived.Test.YtnmbjmocnafekaaGreatDoorG25
import Derived.Test.YtnmbjmocnafekaaGreatDoorG14
import Derived.Laws.DeepStrings4
import Derived.Test.YtnmbjmocnafekaaGreatDoorG6
import Derived.Test.YtnmbjmocnafekaaGreatDoorG7
namespace Go.Proofs.YtnmbjmocnafekaaGreatDoor
open Go.RowKit

theorem drop3 {L : List UInt8} {k : Nat} (h : k + 3 ≤ L.length) : ∃ a b c r, L.drop k = a :: b :: c :: r ∧ L.length = k + 3 + r.length ∧ (∀ h, (str L)[k]'h = a) ∧ (∀ h, (str L)[k + 1]'h = b) ∧ (∀ h, (str L)[k + 2]'h = c) ∧ L.drop (k + 3) = r ∧ L.drop (k + 2) = c :: r := by
  refine ⟨L[k], L[k + 1], L[k + 2], L.drop (k + 3), ?_, ?_, cut_byte L k (by omega), cut_byte L (k + 1) (by omega), cut_byte L (k + 2) (by omega), rfl, ?_⟩
  · rw [List.drop_eq_getElem_cons (by omega), List.drop_eq_getElem_cons (i := k + 1) (by omega), List.drop_eq_getElem_cons (i := k + 2) (by omega)]
  · rw [List.length_drop]; omega
  · rw [List.drop_eq_getElem_cons (i := k + 2) (by omega)]
theorem inB_D (c : UInt8) : inB (wrap64 (c.toNat : Int)) 48 57 = isD c := by
  have h := c.toNat_lt
  rw [show wrap64 (c.toNat : Int) = (c.toNat : Int) by unfold wrap64; omega]
  unfold inB isD
  rw [← Bool.decide_and]
  apply decide_eq_decide.2
  omega
theorem inB_N (c : UInt8) : inB (wrap64 (c.toNat : Int)) 102 107 = isN c := by
  have h := c.toNat_lt
  rw [show wrap64 (c.toNat : Int) = (c.toNat : Int) by unfold wrap64; omega]
  unfold inB isN
  rw [← Bool.decide_and]
  apply decide_eq_decide.2
  omega
theorem ret_eqInt {x y : Int} (h : x = y) : Ending.returned (.int .i64 x) = Ending.returned (.int .i64 y) := by rw [h]
theorem drop1 {L : List UInt8} {q : Nat} (h : q < L.length) : ∃ c r, L.drop q = c :: r ∧ (∀ h, (str L)[q]'h = c) ∧ L.drop (q + 1) = r :=
  ⟨L[q], L.drop (q + 1), List.drop_eq_getElem_cons h, cut_byte L q h, rfl⟩

set_option maxRecDepth 100000 in
set_option maxHeartbeats 4000000 in
theorem end6_any (L : List UInt8) (hL : L.length ≤ 1048576) : ∀ (f k : Nat) (w : World), k ≤ L.length → L.length ≤ k + f →
    Calls Tryz.prog 129 #[.string (str L), .int .i64 k] w fun e w' => e = .returned (.int .i64 (endZ L (endT f (L.drop k)))) ∧ w' = w := by
  intro f
  induction f with
  | zero =>
    intro k w hk hf
    have hsz := str_size L
    have hv : Hid (endZ L (endT 0 (L.drop k)) = -1) := by show _ = _; rw [endT_short (by rw [List.length_drop]; omega)]; rfl
    go_enter Tryz.func129, Tryz.ntmps129
    have h1 : (L.length : Int) < (k : Int) + 3 := by omega
    go_wp2
    go_ret
    exact ⟨ret_eqInt hv.out.symm, rfl⟩
  | succ f ih =>
    intro k w hk hf
    have hsz := str_size L
    have IH := Lib.hid ih
    clear ih
    by_cases hs : L.length < k + 3
    · have hv : Hid (endZ L (endT (f + 1) (L.drop k)) = -1) := by show _ = _; rw [endT_short (by rw [List.length_drop]; omega)]; rfl
      go_enter Tryz.func129, Tryz.ntmps129
      have h1 : (L.length : Int) < (k : Int) + 3 := by omega
      go_wp2
      go_ret
      exact ⟨ret_eqInt hv.out.symm, rfl⟩
    · obtain ⟨a, b, c, r, hd, hlen, b0, b1, b2, d3, d2⟩ := drop3 (L := L) (k := k) (by omega)
      have h1 : ¬ (L.length : Int) < (k : Int) + 3 := by omega
      have q58 : ((b.toNat : Int) == 58) = decide (b = 58) := cut_eq b 58
      by_cases hb : b = 58
      · subst hb
        have hv : Hid (endZ L (endT (f + 1) (L.drop k)) = if (isD a && isD c) = true then (k : Int) + 3 else -1) := by
          show _ = _
          rw [hd, endT_lit]
          split
          · show (L.length : Int) - (r.length : Int) = _
            omega
          · rfl
        clear hd d3 d2 q58
        cases ha : isD a with
        | false =>
          rw [ha] at hv
          go_enter Tryz.func129, Tryz.ntmps129
          go_wp2_with (go_at_call 49; refine (l1In_any _ _ _ _).mono ?_; rintro e w1 ⟨rfl, rfl⟩; first | rw [inB_D a, ha] | skip)
          go_ret
          exact ⟨ret_eqInt hv.out.symm, rfl⟩
        | true =>
          cases hc : isD c with
          | false =>
            rw [ha, hc] at hv
            go_enter Tryz.func129, Tryz.ntmps129
            go_wp2_with (go_at_call 49; refine (l1In_any _ _ _ _).mono ?_; rintro e w1 ⟨rfl, rfl⟩; first | rw [inB_D a, ha] | rw [inB_D c, hc])
            go_ret
            exact ⟨ret_eqInt hv.out.symm, rfl⟩
          | true =>
            rw [ha, hc] at hv
            go_enter Tryz.func129, Tryz.ntmps129
            go_wp2_with (go_at_call 49; refine (l1In_any _ _ _ _).mono ?_; rintro e w1 ⟨rfl, rfl⟩; first | rw [inB_D a, ha] | rw [inB_D c, hc])
            go_ret
            exact ⟨ret_eqInt hv.out.symm, rfl⟩
      · have hbf : decide (b = 58) = false := by simpa using hb
        rw [hbf] at q58
        have q40 : ((b.toNat : Int) == 40) = decide (b = 40) := cut_eq b 40
        cases hN : isN a with
        | false =>
          have hv : Hid (endZ L (endT (f + 1) (L.drop k)) = -1) := by show _ = _; rw [hd, endT_other a b _ hb (by simp [hN])]; rfl
          clear hd d3 d2 hb hbf q40
          go_enter Tryz.func129, Tryz.ntmps129
          go_wp2_with (go_at_call 49; refine (l1In_any _ _ _ _).mono ?_; rintro e w1 ⟨rfl, rfl⟩; rw [inB_N a, hN])
          go_ret
          exact ⟨ret_eqInt hv.out.symm, rfl⟩
        | true =>
          by_cases hb4 : b = 40
          · subst hb4
            have hca := Lib.hid (endT_call (f := f) a c r hN)
            rw [← hd] at hca
            have HD := Lib.hid d2
            have HD3 := Lib.hid d3
            clear hd d3 d2 hb hbf q40
            have q41 : ((c.toNat : Int) == 41) = decide (c = 41) := cut_eq c 41
            by_cases hc : c = 41
            · subst hc
              have hv : Hid (endZ L (endT (f + 1) (L.drop k)) = (k : Int) + 2 + 1) := by
                show _ = _
                rw [hca.out, if_pos rfl]
                show (L.length : Int) - (r.length : Int) = _
                omega
              clear q41 hca
              go_enter Tryz.func129, Tryz.ntmps129
              go_wp2_with (go_at_call 49; refine (l1In_any _ _ _ _).mono ?_; rintro e w1 ⟨rfl, rfl⟩; rw [inB_N a, hN])
              go_ret
              exact ⟨ret_eqInt hv.out.symm, rfl⟩
            · have hcf : decide (c = 41) = false := by simpa using hc
              rw [hcf] at q41
              have hstart : Hid (endT (f + 1) (L.drop k) = endArgs (rdTm f) 2 (L.drop (k + 2))) := by
                show _ = _
                rw [hca.out, if_neg hc, HD.out]
              clear hca hc hcf HD HD3
              go_enter Tryz.func129, Tryz.ntmps129
              go_wp2_with (first | (go_at_call 49; refine (l1In_any _ _ _ _).mono ?_; rintro e w1 ⟨rfl, rfl⟩; rw [inB_N a, hN]))
              clear b0 b1 b2 q58 q41 h1 hN
              go_loopw [1, 51] (fun v1 vm wr => ∃ (m q : Nat), m ≤ 2 ∧ k < q ∧ q ≤ L.length ∧ v1 = .int .i64 q ∧ vm = .int .i64 m ∧ wr = w ∧ Hid (endT (f + 1) (L.drop k) = endArgs (rdTm f) (2 - m) (L.drop q))) (fun _ vm _ => 2 - (intOf vm).toNat)
              case atStart => exact ⟨0, k + 2, by omega, by omega, by omega, by go_num, rfl, rfl, hstart.out⟩
              case round =>
                obtain ⟨m, q, hm, hq1, hq2, rfl, rfl, rfl, hrel2⟩ := hrel
                by_cases hm2 : m < 2
                · have IHq := Lib.hid (IH.out q wr hq2 (by omega))
                  have he : 2 - m = (1 - m) + 1 := by omega
                  rw [he] at hrel2
                  cases ho : rdTm f (L.drop q) with
                  | none =>
                    have hv : Hid (endZ L (endT (f + 1) (L.drop k)) = -1) := by show _ = _; rw [hrel2.out, endArgs, ho]; rfl
                    have hz : Hid (endZ L (endT f (L.drop q)) = -1) := by show _ = _; unfold endT; rw [ho]; rfl
                    clear hrel2 ho
                    rw [hz.out] at IHq
                    go_wp2_with (first | (go_at_call 129; refine IHq.out.mono ?_; rintro e w1 ⟨rfl, rfl⟩))
                    go_ret
                    exact ⟨ret_eqInt hv.out.symm, rfl⟩
                  | some p =>
                    obtain ⟨t, r2⟩ := p
                    have hse : endT f (L.drop q) = some r2 := by unfold endT; rw [ho]; rfl
                    obtain ⟨hl2, hdr⟩ := endT_suffix hse
                    rw [List.length_drop] at hl2 hdr
                    rw [List.drop_drop] at hdr
                    obtain ⟨q2, hq⟩ : ∃ q2, q2 + r2.length = L.length := ⟨L.length - r2.length, by omega⟩
                    have hz : Hid (endZ L (endT f (L.drop q)) = (q2 : Int)) := by
                      show _ = _
                      rw [hse]
                      show (L.length : Int) - (r2.length : Int) = _
                      omega
                    rw [show q + (L.length - q - r2.length) = q2 by omega] at hdr
                    rw [hz.out] at IHq
                    clear hse
                    cases r2 with
                    | nil =>
                      have hv : Hid (endZ L (endT (f + 1) (L.drop k)) = -1) := by show _ = _; rw [hrel2.out, endArgs, ho]; rfl
                      have hq3 : (L.length : Int) ≤ (q2 : Int) := by simp at hq; omega
                      clear hrel2 ho hdr hq hl2
                      go_wp2_with (first | (go_at_call 129; refine IHq.out.mono ?_; rintro e w1 ⟨rfl, rfl⟩))
                      go_ret
                      exact ⟨ret_eqInt hv.out.symm, rfl⟩
                    | cons d r3 =>
                      simp only [List.length_cons] at hq hl2
                      obtain ⟨d', r', hd', by0, hdr2⟩ := drop1 (L := L) (q := q2) (by omega)
                      rw [hdr] at hd'
                      injection hd' with hd1 hd2
                      subst hd1; subst hd2
                      have hq3 : ¬ (L.length : Int) ≤ (q2 : Int) := by omega
                      have hv0 : Hid (endT (f + 1) (L.drop k) = if d = 41 then some r3 else if d = 44 then endArgs (rdTm f) (1 - m) (L.drop (q2 + 1)) else none) := by show _ = _; rw [hrel2.out, endArgs, ho, hdr2]
                      have q41 : ((d.toNat : Int) == 41) = decide (d = 41) := cut_eq d 41
                      have q44 : ((d.toNat : Int) == 44) = decide (d = 44) := cut_eq d 44
                      clear hrel2 ho hdr hdr2
                      by_cases hd4 : d = 41
                      · subst hd4
                        have hv : Hid (endZ L (endT (f + 1) (L.drop k)) = (q2 : Int) + 1) := by
                          show _ = _
                          rw [hv0.out, if_pos rfl]
                          show (L.length : Int) - (r3.length : Int) = _
                          omega
                        clear hv0 q41 q44
                        go_wp2_with (first | (go_at_call 129; refine IHq.out.mono ?_; rintro e w1 ⟨rfl, rfl⟩))
                        go_ret
                        exact ⟨ret_eqInt hv.out.symm, rfl⟩
                      · have hdf : decide (d = 41) = false := by simpa using hd4
                        rw [hdf] at q41
                        have hv1 : Hid (endT (f + 1) (L.drop k) = if d = 44 then endArgs (rdTm f) (1 - m) (L.drop (q2 + 1)) else none) := by show _ = _; rw [hv0.out, if_neg hd4]
                        clear hv0 hd4 hdf
                        by_cases hd5 : d = 44
                        · have hdt : decide (d = 44) = true := by simpa using hd5
                          rw [hdt] at q44
                          have hv : Hid (endT (f + 1) (L.drop k) = endArgs (rdTm f) (2 - (m + 1)) (L.drop (q2 + 1))) := by show _ = _; rw [hv1.out, if_pos hd5, show 2 - (m + 1) = 1 - m by omega]
                          clear hv1 hd5 hdt
                          go_wp2_with (first | (go_at_call 129; refine IHq.out.mono ?_; rintro e w1 ⟨rfl, rfl⟩))
                          go_roundw
                          case rel => exact ⟨m + 1, q2 + 1, by omega, by omega, by omega, by go_num, by go_num, trivial, hv.out⟩
                          case measure => simp [intOf]; omega
                        · have hdt : decide (d = 44) = false := by simpa using hd5
                          rw [hdt] at q44
                          have hv : Hid (endZ L (endT (f + 1) (L.drop k)) = -1) := by show _ = _; rw [hv1.out, if_neg hd5]; rfl
                          clear hv1 hd5 hdt
                          go_wp2_with (first | (go_at_call 129; refine IHq.out.mono ?_; rintro e w1 ⟨rfl, rfl⟩))
                          go_ret
                          exact ⟨ret_eqInt hv.out.symm, rfl⟩
                · have hm3 : m = 2 := by omega
                  subst hm3
                  have hv : Hid (endZ L (endT (f + 1) (L.drop k)) = -1) := by show _ = _; rw [hrel2.out]; rfl
                  clear hrel2
                  go_wp2
                  go_ret
                  exact ⟨ret_eqInt hv.out.symm, rfl⟩
          · have hb4f : decide (b = 40) = false := by simpa using hb4
            rw [hb4f] at q40
            have hv : Hid (endZ L (endT (f + 1) (L.drop k)) = -1) := by show _ = _; rw [hd, endT_other a b _ hb (by simp [hN, hb4])]; rfl
            clear hd d3 d2 hb hbf hb4 hb4f
            go_enter Tryz.func129, Tryz.ntmps129
            go_wp2_with (go_at_call 49; refine (l1In_any _ _ _ _).mono ?_; rintro e w1 ⟨rfl, rfl⟩; rw [inB_N a, hN])
            go_ret
            exact ⟨ret_eqInt hv.out.symm, rfl⟩

theorem parseT_endZ {L : List UInt8} (h : L.length ≤ 60) : (endZ L (endT L.length L) == (L.length : Int)) = (parseT L).isSome := by
  rw [parseT_some]
  cases e : endT L.length L with
  | none =>
    simp [endZ]
  | some r =>
    have := (endT_suffix e).1
    simp only [endZ]
    by_cases hr : r = []
    · subst hr
      simp [h]
    · have : 0 < r.length := List.length_pos_iff.2 hr
      have e1 : decide (some r = some ([] : List UInt8)) = false := by simpa using hr
      rw [e1, Bool.and_false]
      simp
      omega

set_option maxRecDepth 100000 in
set_option maxHeartbeats 1000000 in
theorem specTermValid_any (L : List UInt8) (hL : L.length ≤ 1048576) (w : World) :
    Calls Tryz.prog 86 #[.string (str L)] w fun e w' => e = .returned (.bool (parseT L).isSome) ∧ w' = w := by
  have hsz := str_size L
  by_cases h : L.length ≤ 60
  · have h1 : (L.length : Int) ≤ 60 := by omega
    have hE := Lib.hid (end6_any L hL L.length 0 w (Nat.zero_le _) (by omega))
    have hp := Lib.hid (parseT_endZ h)
    clear h
    go_enter Tryz.func86, Tryz.ntmps86
    go_wp2_with (first | (go_at_call 129; refine hE.out.mono ?_; rintro e w1 ⟨rfl, rfl⟩))
    go_ret
    exact ⟨by rw [← hp.out]; rfl, rfl⟩
  · have h1 : ¬ (L.length : Int) ≤ 60 := by omega
    have hp : Hid (parseT L = none) := by show _ = _; unfold parseT; rw [if_neg h]
    clear h
    go_enter Tryz.func86, Tryz.ntmps86
    go_wp2
    go_ret
    exact ⟨by rw [hp.out]; rfl, rfl⟩
end Go.Proofs.YtnmbjmocnafekaaGreatDoor

namespace Go.Proofs.YtnmbjmocnafekaaGreatDoor
open Go.RowKit

def litP (l : List UInt8) : Int × Int × Bool := match parseT l with
  | some t => litT t
  | none => (0, 0, false)
theorem litP_some {l : List UInt8} {t : Tm} (h : parseT l = some t) : litP l = litT t := by unfold litP; rw [h]
theorem litP_none {l : List UInt8} (h : parseT l = none) : litP l = (0, 0, false) := by unfold litP; rw [h]
theorem litT_call {t : Tm} (h : isCallT t = true) : litT t = (0, 0, false) := by
  cases t with
  | lit k v => cases h
  | c0 n => rfl
  | c1 n a => rfl
  | c2 n a b => rfl

theorem sum_take_le : ∀ (l : List Nat) (k : Nat), (l.take k).sum ≤ l.sum
  | [], k => by simp
  | a :: l, 0 => by simp
  | a :: l, k + 1 => by have := sum_take_le l k; simp only [List.take_succ_cons, List.sum_cons]; omega
theorem foldl_max_le (l : List Nat) : ∀ {a b : Nat}, a ≤ b → l.foldl max a ≤ l.foldl max b := by
  induction l with
  | nil => intro a b h; exact h
  | cons x l ih => intro a b h; exact ih (by omega)
theorem foldl_max_ge (l : List Nat) : ∀ a : Nat, a ≤ l.foldl max a := by
  induction l with
  | nil => intro a; exact Nat.le_refl _
  | cons x l ih => intro a; exact Nat.le_trans (Nat.le_max_left a x) (ih _)
theorem max_take_le (l : List Nat) (k : Nat) : (l.take k).foldl max 0 ≤ l.foldl max 0 := by
  have h : l.foldl max 0 = (l.drop k).foldl max ((l.take k).foldl max 0) := by rw [← List.foldl_append, List.take_append_drop]
  rw [h]
  exact foldl_max_ge _ _
def numP (f : Tm → Nat) (l : List UInt8) : Int := match parseT l with
  | some t => (f t : Int)
  | none => -1
theorem numP_some (f : Tm → Nat) {l : List UInt8} {t : Tm} (h : parseT l = some t) : numP f l = f t := by unfold numP; rw [h]
theorem numP_none (f : Tm → Nat) {l : List UInt8} (h : parseT l = none) : numP f l = -1 := by unfold numP; rw [h]

end Go.Proofs.YtnmbjmocnafekaaGreatDoor

namespace Go.Proofs.YtnmbjmocnafekaaGreatDoor
open Go.RowKit

/-- The signs of a term that was read. -/
theorem term_signs {L : List UInt8} {t : Tm} (h : parseT L = some t) : ∃ a c r, L = a :: (if isCallT t = true then 40 else 58) :: c :: r ∧ (isCallT t = true → headT t = [a]) ∧ (∀ h, (str L)[0]'h = a) ∧ (∀ h, (str L)[1]'h = if isCallT t = true then 40 else 58) ∧ (∀ h, (str L)[2]'h = c) := by
  obtain ⟨ho, e, _⟩ := parseT_tmT.1 h
  obtain ⟨a, c, r, e2, e3⟩ := tmT_second ho
  rw [e2] at e
  subst e
  exact ⟨a, c, r, rfl, fun hc => (e3 hc).1, fun _ => rfl, fun _ => rfl, fun _ => rfl⟩

theorem lit_vals {L r : List UInt8} {a x c : UInt8} {k v : Int} (hL : L = a :: x :: c :: r) (h : parseT L = some (.lit k v)) : (a.toNat : Int) = 48 + k ∧ (c.toNat : Int) = 48 + v ∧ Dig k ∧ Dig v := by
  obtain ⟨ho, e, _⟩ := parseT_tmT.1 h
  have key : ∀ {z : Int}, Dig z → ((UInt8.ofNat (48 + z.toNat)).toNat : Int) = 48 + z := by
    intro z hz
    unfold Dig at hz
    rw [UInt8.toNat_ofNat', show (48 + z.toNat) % 2 ^ 8 = 48 + z.toNat by omega]
    omega
  have e' : L = [UInt8.ofNat (48 + k.toNat), 58, UInt8.ofNat (48 + v.toNat)] := e
  rw [hL] at e'
  injection e' with e1 e2
  injection e2 with e2 e3
  injection e3 with e3 e4
  exact ⟨by rw [e1]; exact key ho.1, by rw [e3]; exact key ho.2, ho.1, ho.2⟩

end Go.Proofs.YtnmbjmocnafekaaGreatDoor

namespace Go.Proofs.YtnmbjmocnafekaaGreatDoor
open Go.RowKit

theorem slice_str (s : ByteArray) (i j : Nat) (hij : i ≤ j) (hj : j ≤ s.size) (z y : Int) (hz : z = i) (hy : y = j) (w : World) : (Instr.slice 9 (.string s) (some (.int .i64 z)) (some (.int .i64 y)) none).run Tryz.prog w = .ok (.string (s.extract i j)) w := by
  subst hz; subst hy
  rw [run_slice_string_if w 9 s .i64 .i64 i j Tryz.underlying9]
  simp [hij, hj]
/-- The text from a part on. -/
def restT : List Tm → List UInt8
  | [] => []
  | [p] => tmT p ++ [41]
  | p :: p2 :: r => tmT p ++ 44 :: restT (p2 :: r)
theorem restT_cons (p : Tm) (r : List Tm) : restT (p :: r) = tmT p ++ (if r = [] then 41 else 44) :: restT r := by
  cases r with
  | nil => rfl
  | cons p2 r => rfl
theorem call_text {t : Tm} (hc : isCallT t = true) (hn : partsT t ≠ []) : ∃ n, tmT t = n :: 40 :: restT (partsT t) := by
  cases t with
  | lit k v => cases hc
  | c0 n => exact absurd rfl hn
  | c1 n a => exact ⟨n, by simp [tmT, partsT, restT]⟩
  | c2 n a b => exact ⟨n, by simp [tmT, partsT, restT]⟩
theorem call_zero {t : Tm} (hc : isCallT t = true) (hn : partsT t = []) : ∃ n, tmT t = [n, 40, 41] := by
  cases t with
  | lit k v => cases hc
  | c0 n => exact ⟨n, rfl⟩
  | c1 n a => cases hn
  | c2 n a b => cases hn
theorem below_own {w w' w'' : World} {N : Nat} {t : TypeId} {v : Value} {n : Nat} {xs : List Value} (hb : Below N w w') (ho : w'.ownsRow N t 1 v n xs) (hg : w'.grownBy w'' v.ownBlock) (hs : N ≤ w'.heap.size) : Below N w w'' :=
  hb.grown hg hs (fun j hj => by
    obtain ⟨_, ⟨e, _⟩ | ⟨g, cap3, cur, e, hg', _⟩⟩ := ho
    · rw [e] at hj; simp [Value.ownBlock] at hj
    · rw [e] at hj; simp [Value.ownBlock] at hj; omega)
def strV (ts : List Tm) : List Value := ts.map fun p => Value.string (str (tmT p))

set_option maxRecDepth 100000 in
set_option maxHeartbeats 4000000 in
theorem l6Parts_any (t : Tm) (ho : TmOk t) (hc : isCallT t = true) (w : World) (hm : (tmT t).length ≤ 1048576) :
    Calls Tryz.prog 89 #[.string (str (tmT t))] w fun e w' => ∃ v, e = .returned v ∧ Below w.heap.size w w' ∧ w'.ownsRow w.heap.size 9 1 v (partsT t).length (strV (partsT t)) := by
  obtain ⟨i0, hi0, hz0, hz1, hz2⟩ := info_parts (show (Tryz.prog.info? 9).map (fun i => (i.zero, i.size, i.bytes)) = some (some (.string ⟨#[]⟩), 1, 16) by kernel_rfl)
  have Hb0 : Hid (Below w.heap.size w (w.alloc (.cells #[] 9))) := (Below.refl _ _).alloc (Nat.le_refl _) _
  have Ho0 : Hid ((w.alloc (.cells #[] 9)).ownsRow w.heap.size 9 1 (.slice (some ⟨w.heap.size, 0, none⟩) 0 0) 0 []) := World.ownsRow_lit w #[] 0 (Nat.le_refl _) (by unfold maxLen; omega) rfl
  obtain ⟨ts, hts⟩ : ∃ ts, ts = partsT t := ⟨_, rfl⟩
  have h2 : ts.length ≤ 2 := by rw [hts]; exact partsT_two t
  obtain ⟨L, hLt⟩ : ∃ L, L = tmT t := ⟨_, rfl⟩
  rw [← hts, ← hLt]
  rw [← hLt] at hm
  have hsz := str_size L
  by_cases hn : ts = []
  · obtain ⟨nm, hL⟩ := call_zero hc (by rw [← hts]; exact hn)
    rw [← hLt] at hL
    have b1 : ∀ h, (str L)[1]'h = 40 := by subst hL; exact fun _ => rfl
    have b2 : ∀ h, (str L)[2]'h = 41 := by subst hL; exact fun _ => rfl
    have hl3 : L.length = 3 := by rw [hL]; rfl
    subst hn
    rw [hl3] at hsz
    clear hts hLt hL h2
    go_enter Tryz.func89, Tryz.ntmps89
    go_wp2_with fail
    go_loopw [3, 4] (fun o i wr => o = .slice (some ⟨w.heap.size, 0, none⟩) 0 0 ∧ i = .int .i64 2 ∧ Hid (Below w.heap.size w wr) ∧ Hid (wr.ownsRow w.heap.size 9 1 o 0 [])) (fun _ _ _ => 0)
    case atStart => exact ⟨rfl, rfl, Hb0.out, Ho0.out⟩
    case round =>
      obtain ⟨rfl, rfl, hb, hor⟩ := hrel
      go_wp2
      go_ret
      exact ⟨_, rfl, hb.out, hor.out⟩
  · obtain ⟨nm, hL⟩ := call_text hc (by rw [← hts]; exact hn)
    rw [← hLt, ← hts] at hL
    have hok : Hid (∀ p ∈ ts, TmOk p) := fun p hp => partsT_ok ho (by rw [← hts]; exact hp)
    have hpos : 0 < ts.length := List.length_pos_iff.2 hn
    have hl2 : 2 ≤ L.length := by rw [hL]; simp
    have hst : Hid (L[1]? = some 40 ∧ L.drop 2 = restT ts) := by show _ ∧ _; rw [hL]; exact ⟨rfl, rfl⟩
    clear hLt hL hn hts ho hc
    go_enter Tryz.func89, Tryz.ntmps89
    go_wp2_with fail
    go_loopw [3, 4] (fun o i wr => ∃ (k m : Nat) (c0 : UInt8), k ≤ ts.length ∧ m + 1 ≤ L.length ∧ i = .int .i64 ((m : Int) + 1) ∧ Hid (L[m]? = some c0) ∧ Hid (k = ts.length → c0 = 41) ∧ Hid (k < ts.length → c0 ≠ 41) ∧ Hid (L.drop (m + 1) = restT (ts.drop k)) ∧ Hid (Below w.heap.size w wr) ∧ Hid (wr.ownsRow w.heap.size 9 1 o k (strV (ts.take k)))) (fun _ i _ => L.length + 1 - (intOf i).toNat)
    case atStart => exact ⟨0, 1, 40, by omega, by omega, by go_num, hst.out.1, fun h => absurd h (by omega), fun _ => by decide, hst.out.2, Hb0.out, Ho0.out⟩
    case round =>
      clear Hb0 Ho0 hst
      obtain ⟨k, m, c0, hk, hmL, rfl, hm0, hend, hgo, hdr, hbr, hor⟩ := hrel
      have hbs := hbr.out.size
      have hb0 : ∀ h, (str L)[m]'h = c0 := fun h => by
        have h1 := cut_byte L m (by omega) h
        rw [h1]
        have h2 := hm0.out
        rw [List.getElem?_eq_getElem (by omega)] at h2
        exact Option.some.inj h2
      by_cases hkl : k < ts.length
      · have hne := hgo.out hkl
        have q0 : ((c0.toNat : Int) == 41) = decide (c0 = 41) := cut_eq c0 41
        rw [show decide (c0 = 41) = false by simpa using hne] at q0
        have n0 : ((c0.toNat : Int) != 41) = true := by simp only [bne, q0]; rfl
        have hdk : ts.drop k = ts[k] :: ts.drop (k + 1) := List.drop_eq_getElem_cons hkl
        have hokk := hok.out ts[k] (List.getElem_mem hkl)
        obtain ⟨c1, c1e⟩ : ∃ c1 : UInt8, c1 = if ts.drop (k + 1) = [] then 41 else 44 := ⟨_, rfl⟩
        have hdr2 : L.drop (m + 1) = tmT ts[k] ++ c1 :: restT (ts.drop (k + 1)) := by rw [hdr.out, hdk, restT_cons, c1e]
        have hpl := tmT_len hokk
        have hlen : m + 1 + (tmT ts[k]).length + 1 + (restT (ts.drop (k + 1))).length = L.length := by
          have h := congrArg List.length hdr2
          rw [List.length_drop, List.length_append, List.length_cons] at h
          omega
        obtain ⟨fc, fl, hfc, _, hfs⟩ := tmT_first hokk (c1 :: restT (ts.drop (k + 1)))
        obtain ⟨d', r', hd', by1, _⟩ := drop1 (L := L) (q := m + 1) (by omega)
        rw [hdr2, hfc] at hd'
        injection hd' with hd1 hd2
        subst hd1
        have hf41 : fc ≠ 41 := by rintro rfl; rcases hfs with h | h <;> exact absurd h (by decide)
        have q1 : ((fc.toNat : Int) == 41) = decide (fc = 41) := cut_eq fc 41
        rw [show decide (fc = 41) = false by simpa using hf41] at q1
        have n1 : ((fc.toNat : Int) != 41) = true := by simp only [bne, q1]; rfl
        obtain ⟨x, hx⟩ : ∃ x, x = m + 1 + (tmT ts[k]).length := ⟨_, rfl⟩
        have hE := end6_any L hm L.length (m + 1) wr (by omega) (by omega)
        have hEv : endZ L (endT L.length (L.drop (m + 1))) = (x : Int) := by
          rw [hdr2]
          unfold endT
          rw [rdTm_tmT L.length _ hokk (by omega)]
          show (L.length : Int) - ((c1 :: restT (ts.drop (k + 1))).length : Int) = _
          rw [List.length_cons]
          omega
        rw [hEv] at hE
        have HE : Hid (Calls Tryz.prog 129 #[.string (str L), .int .i64 ((m : Int) + 1)] wr fun e w' => e = .returned (.int .i64 x) ∧ w' = wr) := by show Calls _ _ _ _ _; exact hE
        have hss : Hid ((str L).extract (m + 1) x = str (tmT ts[k])) := by
          show _ = _
          rw [str_sub]
          unfold sub
          rw [hdr2, show x - (m + 1) = (tmT ts[k]).length by omega, List.take_left]
        have hx0 : Hid (L[x]? = some c1) := by
          show _ = _
          have h : L[x]? = (L.drop (m + 1))[(tmT ts[k]).length]? := by rw [List.getElem?_drop, hx]
          rw [h, hdr2, List.getElem?_append_right (Nat.le_refl _), Nat.sub_self]
          rfl
        have hxd : Hid (L.drop (x + 1) = restT (ts.drop (k + 1))) := by
          show _ = _
          have h : L.drop (x + 1) = (L.drop (m + 1)).drop ((tmT ts[k]).length + 1) := by rw [List.drop_drop]; congr 1; omega
          rw [h, hdr2, List.drop_append]
          simp
        have hc1 : Hid ((k + 1 = ts.length → c1 = 41) ∧ (k + 1 < ts.length → c1 ≠ 41)) := by
          show _ ∧ _
          constructor
          · intro h; rw [c1e, h, List.drop_length, if_pos rfl]
          · intro h; rw [c1e, if_neg (by intro hh; have := congrArg List.length hh; rw [List.length_drop] at this; simp at this; omega)]; decide
        have htk : Hid (strV (ts.take k) ++ [Value.string (str (tmT ts[k]))] = strV (ts.take (k + 1))) := by
          show _ = _
          rw [List.take_succ_eq_append_getElem hkl]
          unfold strV
          rw [List.map_append]
          rfl
        obtain ⟨pt, hpt⟩ : ∃ pt, pt = tmT ts[k] := ⟨_, rfl⟩
        rw [← hpt] at hss htk
        have hsl : ∀ w : World, (Instr.slice 9 (.string (str L)) (some (.int .i64 ((m : Int) + 1))) (some (.int .i64 x)) none).run Tryz.prog w = .ok (.string (str pt)) w := fun w => by rw [slice_str (str L) (m + 1) x (by omega) (by rw [hsz]; omega) ((m : Int) + 1) x (by omega) rfl w, hss.out]
        have hxx : m + 4 ≤ x ∧ x + 1 ≤ L.length := ⟨by omega, by omega⟩
        obtain ⟨hx1, hx2⟩ := hxx
        have hci : (m : Int) + 1 ≤ (x : Int) := by omega
        have hci2 : (x : Int) ≤ (L.length : Int) := by omega
        clear hdr2 hdr hdk hfc hd2 hE hEv hend hgo hm0 hpl hlen hokk hfs hne hf41 c1e hpt hx
        go_wp2_with fail
        refine HE.out.mono ?_
        rintro e w1 ⟨rfl, rfl⟩
        go_wp2_with (at_builtin; refine wpList_append_own _ rfl (.tmp 21) (.tmp 26) 47 rfl w.heap.size 9 i0 (.string ⟨#[]⟩) 1 16 Tryz.underlying47 hi0 hz0 hz1 hz2 rfl (by decide) _ _ _ rfl (hor.out.alloc _) ⟨w1.heap.size, 0, none⟩ 1 1 [.string (str pt)] rfl rfl ?c1 ?c2 ?c3 ?c4 ?c5 ?_)
        case c1 =>
          intro j u hj
          match j, hj with
          | 0, hj => simp at hj; subst hj; simp [Addr.add]
        case c2 => intro u hu; simp at hu; subst hu; rfl
        case c3 => unfold maxLen; omega
        case c4 => omega
        case c5 => simp; omega
        intro v2 w2 hown2 hgrow _
        have Hb2 := Lib.hid (below_own (hbr.out.alloc hbs _) (hor.out.alloc _) hgrow (by simp; omega))
        have Hown2 := Lib.hid hown2
        clear hown2 hgrow
        go_wp2
        go_roundw
        case rel => exact ⟨k + 1, x, c1, by omega, by omega, by go_num, hx0.out, hc1.out.1, hc1.out.2, hxd.out, Hb2.out, ownsRow_cast Hown2.out rfl htk.out⟩
        case measure => simp [intOf]; omega
      · have hke : k = ts.length := by omega
        have hce := hend.out hke
        have n0 : ((c0.toNat : Int) != 41) = false := by subst hce; rfl
        have htk : strV (ts.take k) = strV ts := by rw [hke, List.take_length]
        rw [htk, hke] at hor
        clear hgo hend hdr hm0
        go_wp2
        go_ret
        exact ⟨_, rfl, hbr.out, hor.out⟩
end Go.Proofs.YtnmbjmocnafekaaGreatDoor

namespace Go.Proofs.YtnmbjmocnafekaaGreatDoor
open Go.RowKit

theorem str_take6 (L : List UInt8) (j : Nat) : (str L).extract 0 j = str (L.take j) := by
  apply ByteArray.ext
  simp [str, ByteArray.data_extract, List.extract_eq_take_drop]
def AtB (b N : Nat) (v : Value) : Prop := ∀ g, v.ownBlock = some g → g = b ∨ N ≤ g
theorem AtB.push {w w' : World} {base : Nat} {e : TypeId} {v v' : Value} {n : Nat} {xs : List Value} {x : Value} {b N : Nat} (h : AtB b N v) (hp : Pushed w w' base e v v' n xs x) (hN : N ≤ w.heap.size) : AtB b N v' := by
  intro g hg
  rcases hp.at_ with e1 | ⟨g', e1, h1, _⟩
  · exact h g (e1 ▸ hg)
  · rw [e1] at hg
    injection hg with hg
    omega

theorem wrapDig {a : UInt8} {k : Int} (g : (a.toNat : Int) = 48 + k) (d : Dig k) : wrap64 (wrap64 (a.toNat : Int) - 48) = k := by
  unfold Dig at d
  unfold wrap64
  omega
section
variable {w w' : World} {base : Nat} {e : TypeId} {v v' : Value} {n : Nat} {xs : List Value} {x : Value}
theorem Pushed.apart (hp : Pushed w w' base e v v' n xs x) {u : Value} {N k : Nat} {t : TypeId} {ys : List Value} (ho : w.ownsRow N t 1 u k ys) (h : ∀ g, v.ownBlock = some g → u.ownBlock ≠ some g) : ∀ g, v'.ownBlock = some g → u.ownBlock ≠ some g := by
  intro g hg hu
  rcases hp.at_ with e1 | ⟨g', e1, h1, _⟩
  · exact h g (e1 ▸ hg) hu
  · rw [e1] at hg
    injection hg with hg
    have := (owns_lt ho g hu).2
    omega
theorem Pushed.other (hp : Pushed w w' base e v v' n xs x) {u : Value} {N k : Nat} {t : TypeId} {ys : List Value} (ho : w.ownsRow N t 1 u k ys) (h : ∀ g, v.ownBlock = some g → u.ownBlock ≠ some g) : w'.ownsRow N t 1 u k ys := by
  refine ho.kept hp.grown ?_
  cases hu : u.ownBlock with
  | none => exact .inl rfl
  | some g => exact .inr fun e => h g e.symm hu
theorem Pushed.mid (hp : Pushed w w' base e v v' n xs x) {u : World} {a b N : Nat} (hm : ∀ g, a ≤ g → g < N → w.heap[g]? = u.heap[g]?) (hN : N ≤ w.heap.size) (ha : AtB b N v) (hb : b < a) : ∀ g, a ≤ g → g < N → w'.heap[g]? = u.heap[g]? := by
  intro g h1 h2
  refine (hp.grown.block g (by omega) fun e => ?_).trans (hm g h1 h2)
  have := ha g e.symm
  omega
theorem Pushed.below (hp : Pushed w w' base e v v' n xs x) (ho : w.ownsRow base e 1 v n xs) {u : World} (hb : Below base u w) (hs : base ≤ w.heap.size) : Below base u w' :=
  hb.grown hp.grown hs fun j hj => (owns_lt ho j hj).1
end
end Go.Proofs.YtnmbjmocnafekaaGreatDoor

