/-
  The contracts of the model's l6End and TermValid.
-/
import Derived.Test.YtcecljolnknapaaDoorTme
import Derived.Test.YtcecljolnknapaaDoorCut
namespace Go.Proofs.YtcecljolnknapaaDoor
open Go.RowKit

theorem drop3 {L : List UInt8} {k : Nat} (h : k + 3 ≤ L.length) : ∃ a b c r, L.drop k = a :: b :: c :: r ∧ L.length = k + 3 + r.length ∧ (∀ h, (str L)[k]'h = a) ∧ (∀ h, (str L)[k + 1]'h = b) ∧ (∀ h, (str L)[k + 2]'h = c) ∧ L.drop (k + 3) = r ∧ L.drop (k + 2) = c :: r := by
  refine ⟨L[k], L[k + 1], L[k + 2], L.drop (k + 3), ?_, ?_, cut_byte L k (by omega), cut_byte L (k + 1) (by omega), cut_byte L (k + 2) (by omega), rfl, ?_⟩
  · rw [List.drop_eq_getElem_cons (by omega), List.drop_eq_getElem_cons (i := k + 1) (by omega), List.drop_eq_getElem_cons (i := k + 2) (by omega)]
  · rw [List.length_drop]; omega
  · rw [List.drop_eq_getElem_cons (i := k + 2) (by omega)]
theorem inB_D (c : UInt8) : inB (wrap64 (c.toNat : Int)) 48 57 = isD c := by
  have h := c.toNat_lt
  rw [show wrap64 (c.toNat : Int) = (c.toNat : Int) by unfold wrap64; omega]
  unfold inB isD
  rw [← Bool.decide_and]
  apply decide_eq_decide.2
  omega
theorem inB_N (c : UInt8) : inB (wrap64 (c.toNat : Int)) 102 107 = isN c := by
  have h := c.toNat_lt
  rw [show wrap64 (c.toNat : Int) = (c.toNat : Int) by unfold wrap64; omega]
  unfold inB isN
  rw [← Bool.decide_and]
  apply decide_eq_decide.2
  omega
theorem ret_eqInt {x y : Int} (h : x = y) : Ending.returned (.int .i64 x) = Ending.returned (.int .i64 y) := by rw [h]
theorem drop1 {L : List UInt8} {q : Nat} (h : q < L.length) : ∃ c r, L.drop q = c :: r ∧ (∀ h, (str L)[q]'h = c) ∧ L.drop (q + 1) = r :=
  ⟨L[q], L.drop (q + 1), List.drop_eq_getElem_cons h, cut_byte L q h, rfl⟩

set_option maxRecDepth 100000 in
set_option maxHeartbeats 4000000 in
theorem end6_any (L : List UInt8) (hL : L.length ≤ 1048576) : ∀ (f k : Nat) (w : World), k ≤ L.length → L.length ≤ k + f →
    Calls Tryd.prog 44 #[.string (str L), .int .i64 k] w fun e w' => e = .returned (.int .i64 (endZ L (endT f (L.drop k)))) ∧ w' = w := by
  intro f
  induction f with
  | zero =>
    intro k w hk hf
    have hsz := str_size L
    have hv : Hid (endZ L (endT 0 (L.drop k)) = -1) := by show _ = _; rw [endT_short (by rw [List.length_drop]; omega)]; rfl
    go_enter Tryd.func44, Tryd.ntmps44
    have h1 : (L.length : Int) < (k : Int) + 3 := by omega
    go_wp2
    go_ret
    exact ⟨ret_eqInt hv.out.symm, rfl⟩
  | succ f ih =>
    intro k w hk hf
    have hsz := str_size L
    have IH := Lib.hid ih
    clear ih
    by_cases hs : L.length < k + 3
    · have hv : Hid (endZ L (endT (f + 1) (L.drop k)) = -1) := by show _ = _; rw [endT_short (by rw [List.length_drop]; omega)]; rfl
      go_enter Tryd.func44, Tryd.ntmps44
      have h1 : (L.length : Int) < (k : Int) + 3 := by omega
      go_wp2
      go_ret
      exact ⟨ret_eqInt hv.out.symm, rfl⟩
    · obtain ⟨a, b, c, r, hd, hlen, b0, b1, b2, d3, d2⟩ := drop3 (L := L) (k := k) (by omega)
      have h1 : ¬ (L.length : Int) < (k : Int) + 3 := by omega
      have q58 : ((b.toNat : Int) == 58) = decide (b = 58) := cut_eq b 58
      by_cases hb : b = 58
      · subst hb
        have hv : Hid (endZ L (endT (f + 1) (L.drop k)) = if (isD a && isD c) = true then (k : Int) + 3 else -1) := by
          show _ = _
          rw [hd, endT_lit]
          split
          · show (L.length : Int) - (r.length : Int) = _
            omega
          · rfl
        clear hd d3 d2 q58
        cases ha : isD a with
        | false =>
          rw [ha] at hv
          go_enter Tryd.func44, Tryd.ntmps44
          go_wp2_with (go_at_call 62; refine (l1In_any _ _ _ _).mono ?_; rintro e w1 ⟨rfl, rfl⟩; first | rw [inB_D a, ha] | skip)
          go_ret
          exact ⟨ret_eqInt hv.out.symm, rfl⟩
        | true =>
          cases hc : isD c with
          | false =>
            rw [ha, hc] at hv
            go_enter Tryd.func44, Tryd.ntmps44
            go_wp2_with (go_at_call 62; refine (l1In_any _ _ _ _).mono ?_; rintro e w1 ⟨rfl, rfl⟩; first | rw [inB_D a, ha] | rw [inB_D c, hc])
            go_ret
            exact ⟨ret_eqInt hv.out.symm, rfl⟩
          | true =>
            rw [ha, hc] at hv
            go_enter Tryd.func44, Tryd.ntmps44
            go_wp2_with (go_at_call 62; refine (l1In_any _ _ _ _).mono ?_; rintro e w1 ⟨rfl, rfl⟩; first | rw [inB_D a, ha] | rw [inB_D c, hc])
            go_ret
            exact ⟨ret_eqInt hv.out.symm, rfl⟩
      · have hbf : decide (b = 58) = false := by simpa using hb
        rw [hbf] at q58
        have q40 : ((b.toNat : Int) == 40) = decide (b = 40) := cut_eq b 40
        cases hN : isN a with
        | false =>
          have hv : Hid (endZ L (endT (f + 1) (L.drop k)) = -1) := by show _ = _; rw [hd, endT_other a b _ hb (by simp [hN])]; rfl
          clear hd d3 d2 hb hbf q40
          go_enter Tryd.func44, Tryd.ntmps44
          go_wp2_with (go_at_call 62; refine (l1In_any _ _ _ _).mono ?_; rintro e w1 ⟨rfl, rfl⟩; rw [inB_N a, hN])
          go_ret
          exact ⟨ret_eqInt hv.out.symm, rfl⟩
        | true =>
          by_cases hb4 : b = 40
          · subst hb4
            have hca := Lib.hid (endT_call (f := f) a c r hN)
            rw [← hd] at hca
            have HD := Lib.hid d2
            have HD3 := Lib.hid d3
            clear hd d3 d2 hb hbf q40
            have q41 : ((c.toNat : Int) == 41) = decide (c = 41) := cut_eq c 41
            by_cases hc : c = 41
            · subst hc
              have hv : Hid (endZ L (endT (f + 1) (L.drop k)) = (k : Int) + 2 + 1) := by
                show _ = _
                rw [hca.out, if_pos rfl]
                show (L.length : Int) - (r.length : Int) = _
                omega
              clear q41 hca
              go_enter Tryd.func44, Tryd.ntmps44
              go_wp2_with (go_at_call 62; refine (l1In_any _ _ _ _).mono ?_; rintro e w1 ⟨rfl, rfl⟩; rw [inB_N a, hN])
              go_ret
              exact ⟨ret_eqInt hv.out.symm, rfl⟩
            · have hcf : decide (c = 41) = false := by simpa using hc
              rw [hcf] at q41
              have hstart : Hid (endT (f + 1) (L.drop k) = endArgs (rdTm f) 2 (L.drop (k + 2))) := by
                show _ = _
                rw [hca.out, if_neg hc, HD.out]
              clear hca hc hcf HD HD3
              go_enter Tryd.func44, Tryd.ntmps44
              go_wp2_with (first | (go_at_call 62; refine (l1In_any _ _ _ _).mono ?_; rintro e w1 ⟨rfl, rfl⟩; rw [inB_N a, hN]))
              clear b0 b1 b2 q58 q41 h1 hN
              go_loopw [1, 51] (fun v1 vm wr => ∃ (m q : Nat), m ≤ 2 ∧ k < q ∧ q ≤ L.length ∧ v1 = .int .i64 q ∧ vm = .int .i64 m ∧ wr = w ∧ Hid (endT (f + 1) (L.drop k) = endArgs (rdTm f) (2 - m) (L.drop q))) (fun _ vm _ => 2 - (intOf vm).toNat)
              case atStart => exact ⟨0, k + 2, by omega, by omega, by omega, by go_num, rfl, rfl, hstart.out⟩
              case round =>
                obtain ⟨m, q, hm, hq1, hq2, rfl, rfl, rfl, hrel2⟩ := hrel
                by_cases hm2 : m < 2
                · have IHq := Lib.hid (IH.out q wr hq2 (by omega))
                  have he : 2 - m = (1 - m) + 1 := by omega
                  rw [he] at hrel2
                  cases ho : rdTm f (L.drop q) with
                  | none =>
                    have hv : Hid (endZ L (endT (f + 1) (L.drop k)) = -1) := by show _ = _; rw [hrel2.out, endArgs, ho]; rfl
                    have hz : Hid (endZ L (endT f (L.drop q)) = -1) := by show _ = _; unfold endT; rw [ho]; rfl
                    clear hrel2 ho
                    rw [hz.out] at IHq
                    go_wp2_with (first | (go_at_call 44; refine IHq.out.mono ?_; rintro e w1 ⟨rfl, rfl⟩))
                    go_ret
                    exact ⟨ret_eqInt hv.out.symm, rfl⟩
                  | some p =>
                    obtain ⟨t, r2⟩ := p
                    have hse : endT f (L.drop q) = some r2 := by unfold endT; rw [ho]; rfl
                    obtain ⟨hl2, hdr⟩ := endT_suffix hse
                    rw [List.length_drop] at hl2 hdr
                    rw [List.drop_drop] at hdr
                    obtain ⟨q2, hq⟩ : ∃ q2, q2 + r2.length = L.length := ⟨L.length - r2.length, by omega⟩
                    have hz : Hid (endZ L (endT f (L.drop q)) = (q2 : Int)) := by
                      show _ = _
                      rw [hse]
                      show (L.length : Int) - (r2.length : Int) = _
                      omega
                    rw [show q + (L.length - q - r2.length) = q2 by omega] at hdr
                    rw [hz.out] at IHq
                    clear hse
                    cases r2 with
                    | nil =>
                      have hv : Hid (endZ L (endT (f + 1) (L.drop k)) = -1) := by show _ = _; rw [hrel2.out, endArgs, ho]; rfl
                      have hq3 : (L.length : Int) ≤ (q2 : Int) := by simp at hq; omega
                      clear hrel2 ho hdr hq hl2
                      go_wp2_with (first | (go_at_call 44; refine IHq.out.mono ?_; rintro e w1 ⟨rfl, rfl⟩))
                      go_ret
                      exact ⟨ret_eqInt hv.out.symm, rfl⟩
                    | cons d r3 =>
                      simp only [List.length_cons] at hq hl2
                      obtain ⟨d', r', hd', by0, hdr2⟩ := drop1 (L := L) (q := q2) (by omega)
                      rw [hdr] at hd'
                      injection hd' with hd1 hd2
                      subst hd1; subst hd2
                      have hq3 : ¬ (L.length : Int) ≤ (q2 : Int) := by omega
                      have hv0 : Hid (endT (f + 1) (L.drop k) = if d = 41 then some r3 else if d = 44 then endArgs (rdTm f) (1 - m) (L.drop (q2 + 1)) else none) := by show _ = _; rw [hrel2.out, endArgs, ho, hdr2]
                      have q41 : ((d.toNat : Int) == 41) = decide (d = 41) := cut_eq d 41
                      have q44 : ((d.toNat : Int) == 44) = decide (d = 44) := cut_eq d 44
                      clear hrel2 ho hdr hdr2
                      by_cases hd4 : d = 41
                      · subst hd4
                        have hv : Hid (endZ L (endT (f + 1) (L.drop k)) = (q2 : Int) + 1) := by
                          show _ = _
                          rw [hv0.out, if_pos rfl]
                          show (L.length : Int) - (r3.length : Int) = _
                          omega
                        clear hv0 q41 q44
                        go_wp2_with (first | (go_at_call 44; refine IHq.out.mono ?_; rintro e w1 ⟨rfl, rfl⟩))
                        go_ret
                        exact ⟨ret_eqInt hv.out.symm, rfl⟩
                      · have hdf : decide (d = 41) = false := by simpa using hd4
                        rw [hdf] at q41
                        have hv1 : Hid (endT (f + 1) (L.drop k) = if d = 44 then endArgs (rdTm f) (1 - m) (L.drop (q2 + 1)) else none) := by show _ = _; rw [hv0.out, if_neg hd4]
                        clear hv0 hd4 hdf
                        by_cases hd5 : d = 44
                        · have hdt : decide (d = 44) = true := by simpa using hd5
                          rw [hdt] at q44
                          have hv : Hid (endT (f + 1) (L.drop k) = endArgs (rdTm f) (2 - (m + 1)) (L.drop (q2 + 1))) := by show _ = _; rw [hv1.out, if_pos hd5, show 2 - (m + 1) = 1 - m by omega]
                          clear hv1 hd5 hdt
                          go_wp2_with (first | (go_at_call 44; refine IHq.out.mono ?_; rintro e w1 ⟨rfl, rfl⟩))
                          go_roundw
                          case rel => exact ⟨m + 1, q2 + 1, by omega, by omega, by omega, by go_num, by go_num, trivial, hv.out⟩
                          case measure => simp [intOf]; omega
                        · have hdt : decide (d = 44) = false := by simpa using hd5
                          rw [hdt] at q44
                          have hv : Hid (endZ L (endT (f + 1) (L.drop k)) = -1) := by show _ = _; rw [hv1.out, if_neg hd5]; rfl
                          clear hv1 hd5 hdt
                          go_wp2_with (first | (go_at_call 44; refine IHq.out.mono ?_; rintro e w1 ⟨rfl, rfl⟩))
                          go_ret
                          exact ⟨ret_eqInt hv.out.symm, rfl⟩
                · have hm3 : m = 2 := by omega
                  subst hm3
                  have hv : Hid (endZ L (endT (f + 1) (L.drop k)) = -1) := by show _ = _; rw [hrel2.out]; rfl
                  clear hrel2
                  go_wp2
                  go_ret
                  exact ⟨ret_eqInt hv.out.symm, rfl⟩
          · have hb4f : decide (b = 40) = false := by simpa using hb4
            rw [hb4f] at q40
            have hv : Hid (endZ L (endT (f + 1) (L.drop k)) = -1) := by show _ = _; rw [hd, endT_other a b _ hb (by simp [hN, hb4])]; rfl
            clear hd d3 d2 hb hbf hb4 hb4f
            go_enter Tryd.func44, Tryd.ntmps44
            go_wp2_with (go_at_call 62; refine (l1In_any _ _ _ _).mono ?_; rintro e w1 ⟨rfl, rfl⟩; rw [inB_N a, hN])
            go_ret
            exact ⟨ret_eqInt hv.out.symm, rfl⟩

theorem parseT_endZ {L : List UInt8} (h : L.length ≤ 60) : (endZ L (endT L.length L) == (L.length : Int)) = (parseT L).isSome := by
  rw [parseT_some]
  cases e : endT L.length L with
  | none =>
    simp [endZ]
  | some r =>
    have := (endT_suffix e).1
    simp only [endZ]
    by_cases hr : r = []
    · subst hr
      simp [h]
    · have : 0 < r.length := List.length_pos_iff.2 hr
      have e1 : decide (some r = some ([] : List UInt8)) = false := by simpa using hr
      rw [e1, Bool.and_false]
      simp
      omega

set_option maxRecDepth 100000 in
set_option maxHeartbeats 1000000 in
theorem specTermValid_any (L : List UInt8) (hL : L.length ≤ 1048576) (w : World) :
    Calls Tryd.prog 16 #[.string (str L)] w fun e w' => e = .returned (.bool (parseT L).isSome) ∧ w' = w := by
  have hsz := str_size L
  by_cases h : L.length ≤ 60
  · have h1 : (L.length : Int) ≤ 60 := by omega
    have hE := Lib.hid (end6_any L hL L.length 0 w (Nat.zero_le _) (by omega))
    have hp := Lib.hid (parseT_endZ h)
    clear h
    go_enter Tryd.func16, Tryd.ntmps16
    go_wp2_with (first | (go_at_call 44; refine hE.out.mono ?_; rintro e w1 ⟨rfl, rfl⟩))
    go_ret
    exact ⟨by rw [← hp.out]; rfl, rfl⟩
  · have h1 : ¬ (L.length : Int) ≤ 60 := by omega
    have hp : Hid (parseT L = none) := by show _ = _; unfold parseT; rw [if_neg h]
    clear h
    go_enter Tryd.func16, Tryd.ntmps16
    go_wp2
    go_ret
    exact ⟨by rw [hp.out]; rfl, rfl⟩
end Go.Proofs.YtcecljolnknapaaDoor
