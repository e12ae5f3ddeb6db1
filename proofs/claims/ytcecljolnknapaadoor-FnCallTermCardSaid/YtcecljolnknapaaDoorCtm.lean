/-
  The contracts of the model's l6Join, CallTerm.
-/
import Derived.Test.YtcecljolnknapaaDoorCtd
import Derived.Test.YtcecljolnknapaaDoorStd
import Derived.Test.YtcecljolnknapaaDoorSe6
namespace Go.Proofs.YtcecljolnknapaaDoor
open Go.RowKit

abbrev optE (o : Option (List UInt8)) : Ending := .returned (.tuple #[.string (str (o.getD [])), .bool o.isSome])

set_option maxRecDepth 100000 in
set_option maxHeartbeats 1000000 in
theorem specTermValid_free (L : List UInt8) (w : World) :
    Calls Tryd.prog 16 #[.string (str L)] w fun e w' => e = .returned (.bool (parseT L).isSome) ∧ w' = w := by
  by_cases h : L.length ≤ 60
  · exact specTermValid_any L (by omega) w
  · have hsz := str_size L
    have h1 : ¬ (L.length : Int) ≤ 60 := by omega
    have hp : Hid (parseT L = none) := by show _ = _; unfold parseT; rw [if_neg h]
    clear h
    go_enter Tryd.func16, Tryd.ntmps16
    go_wp2
    go_ret
    exact ⟨by rw [hp.out]; rfl, rfl⟩

set_option maxRecDepth 100000 in
set_option maxHeartbeats 2000000 in
theorem l6Join_any (nm : List UInt8) (v : Value) (ps : List (List UInt8)) (w : World) (hv : StrsAt w v ps) (hn : nm.length ≤ 1048576) (hb : bulkS ps ≤ 1048576) :
    Calls Tryd.prog 51 #[.string (str nm), v] w fun e w' => e = .returned (.string (str (callL nm ps))) ∧ w' = w := by
  obtain ⟨A, c, rfl, hcap, hcells⟩ := hv
  have HC := Lib.hid hcells
  have hnp : ps.length + ((ps.map List.length).sum) ≤ 1048576 := hb
  have h0 : str nm ++ (⟨#[40]⟩ : ByteArray) = str (nm ++ [40]) := str_append _ _
  have n0 : ¬ 9223372036854775807 < (str nm).size + 1 := by rw [str_size]; omega
  have hst : Hid (nm ++ [40] = joinTo nm ps 0) := rfl
  obtain ⟨L0, hL0⟩ : ∃ L0, L0 = nm ++ [40] := ⟨_, rfl⟩
  rw [← hL0] at h0 hst
  clear hcells hL0 hb
  go_enter Tryd.func51, Tryd.ntmps51
  go_wp2
  clear h0 n0
  go_loopw [5, 12] (fun o i wr => ∃ k : Nat, k ≤ ps.length ∧ i = .int .i64 k ∧ wr = w ∧ ∃ Lk, o = .string (str Lk) ∧ Hid (Lk = joinTo nm ps k)) (fun _ i _ => ps.length - (intOf i).toNat)
  case atStart => exact ⟨0, Nat.zero_le _, rfl, rfl, _, rfl, hst.out⟩
  case round =>
    obtain ⟨k, hk, rfl, rfl, Lk, rfl, hLk⟩ := hrel
    have hjl := joinTo_len nm ps k hk
    rw [← hLk.out] at hjl
    by_cases hkl : k < ps.length
    · obtain ⟨g, off, hA, hgw, hcs⟩ := HC.out (by omega)
      subst hA
      have hck := hcs k hkl
      have hsum := sum_take_le' (ps.map List.length) (k + 1)
      rw [sumlen_take hkl] at hsum
      obtain ⟨q, hq⟩ : ∃ q, q = ps[k] := ⟨_, rfl⟩
      have hgd : ps.getD k [] = q := by rw [hq, List.getD_eq_getElem?_getD, List.getElem?_eq_getElem hkl]; rfl
      have hjs : Hid (joinTo nm ps (k + 1) = Lk ++ (if 0 < k then [44] else []) ++ q) := by show _ = _; rw [joinTo, hgd, hLk.out]
      rw [← hq] at hck hsum
      have s1 : str Lk ++ (⟨#[44]⟩ : ByteArray) = str (Lk ++ [44]) := str_append _ _
      have n1 : ¬ 9223372036854775807 < (str Lk).size + 1 := by rw [str_size]; omega
      have s2 : str (Lk ++ [44]) ++ str q = str (Lk ++ [44] ++ q) := str_append _ _
      have n2 : ¬ 9223372036854775807 < (str (Lk ++ [44])).size + (str q).size := by rw [str_size, str_size, List.length_append]; simp; omega
      have s3 : str Lk ++ str q = str (Lk ++ q) := str_append _ _
      have n3 : ¬ 9223372036854775807 < (str Lk).size + (str q).size := by rw [str_size, str_size]; omega
      obtain ⟨La, ha⟩ : ∃ La, La = Lk ++ [44] := ⟨_, rfl⟩
      rw [← ha] at s1 s2 n2
      obtain ⟨Lb, hb⟩ : ∃ Lb, Lb = La ++ q := ⟨_, rfl⟩
      rw [← hb] at s2
      obtain ⟨Lc, hc⟩ : ∃ Lc, Lc = Lk ++ q := ⟨_, rfl⟩
      rw [← hc] at s3
      by_cases h0 : 0 < k
      · have hnx : Hid (Lb = joinTo nm ps (k + 1)) := by show _ = _; rw [hjs.out, if_pos h0, hb, ha]
        have hk0 : (0 : Int) < (k : Int) := by omega
        clear hcs hq hgd ha hb hc s3 n3
        go_wp2
        go_roundw
        case rel => exact ⟨k + 1, by omega, by go_num, trivial, _, rfl, hnx.out⟩
        case measure => simp [intOf]; omega
      · have hnx : Hid (Lc = joinTo nm ps (k + 1)) := by show _ = _; rw [hjs.out, if_neg h0, hc]; simp
        have hk0 : ¬ (0 : Int) < (k : Int) := by omega
        clear hcs hq hgd ha hb hc s1 s2 n1 n2
        go_wp2
        go_roundw
        case rel => exact ⟨k + 1, by omega, by go_num, trivial, _, rfl, hnx.out⟩
        case measure => simp [intOf]; omega
    · have hke : k = ps.length := by omega
      have hfin : Hid (Lk ++ [41] = callL nm ps) := by show _ = _; rw [hLk.out, hke]; exact joinTo_all nm ps
      have hsum := sum_take_le' (ps.map List.length) k
      have s1 : str Lk ++ (⟨#[41]⟩ : ByteArray) = str (Lk ++ [41]) := str_append _ _
      have n1 : ¬ 9223372036854775807 < (str Lk).size + 1 := by rw [str_size]; omega
      obtain ⟨La, ha⟩ : ∃ La, La = Lk ++ [41] := ⟨_, rfl⟩
      rw [← ha] at s1 hfin
      have hki : ¬ ((k : Int) < (ps.length : Int)) := by omega
      clear ha
      go_wp2
      go_ret
      exact ⟨by rw [hfin.out]; rfl, rfl⟩

theorem allV_all {ps : List (List UInt8)} (h : ∀ j, ∀ hj : j < ps.length, (parseT ps[j]).isSome = true) : allV ps = true := by
  unfold allV
  rw [List.all_eq_true]
  intro p hp
  obtain ⟨j, hj, rfl⟩ := List.getElem_of_mem hp
  exact h j hj
theorem allV_not {ps : List (List UInt8)} {j : Nat} (hj : j < ps.length) (h : (parseT ps[j]).isSome = false) : allV ps = false := by
  unfold allV
  rw [List.all_eq_false]
  exact ⟨ps[j], List.getElem_mem hj, by rw [h]; simp⟩

set_option maxRecDepth 100000 in
set_option maxHeartbeats 4000000 in
theorem specCall_any (nm : List UInt8) (v : Value) (ps : List (List UInt8)) (w : World) (hv : StrsAt w v ps) (hn : nm.length ≤ 1048576) (hb : bulkS ps ≤ 1048576) :
    Calls Tryd.prog 28 #[.string (str nm), v] w fun e w' => e = optE (callV nm ps) ∧ Below w.heap.size w w' := by
  have HJ := Lib.hid (l6Join_any nm v ps w hv hn hb)
  have HV := Lib.hid (specTermValid_free (callL nm ps) w)
  obtain ⟨A, c, rfl, hcap, hcells⟩ := hv
  have HC := Lib.hid hcells
  have hnp : ps.length ≤ 1048576 := by unfold bulkS at hb; omega
  rw [← call_same]
  have hM : Hid (callM nm ps = if (allV ps && decide (ps.length ≤ 2) && (parseT (callL nm ps)).isSome) = true then some (callL nm ps) else none) := rfl
  obtain ⟨W, hW⟩ : ∃ W, W = callM nm ps := ⟨_, rfl⟩
  obtain ⟨X, hX⟩ : ∃ X, X = callL nm ps := ⟨_, rfl⟩
  rw [← hW, ← hX] at hM
  rw [← hW]
  rw [← hX] at HJ HV
  clear hcells hb hn hW hX
  go_enter Tryd.func28, Tryd.ntmps28
  go_wp2
  go_loopw [10] (fun i wr => ∃ k : Nat, k ≤ ps.length ∧ i = .int .i64 k ∧ wr = w ∧ Hid (∀ j, ∀ hj : j < ps.length, j < k → (parseT ps[j]).isSome = true)) (fun i _ => ps.length - (intOf i).toNat)
  case atStart => exact ⟨0, Nat.zero_le _, rfl, rfl, fun j _ h => absurd h (by omega)⟩
  case round =>
    obtain ⟨k, hk, rfl, rfl, hpre⟩ := hrel
    by_cases hkl : k < ps.length
    · obtain ⟨g, off, hA, hgw, hcs⟩ := HC.out (by omega)
      subst hA
      have hck := hcs k hkl
      have HT := Lib.hid (specTermValid_free ps[k] wr)
      cases hT : (parseT ps[k]).isSome with
      | false =>
        have hWn : Hid (W = none) := by show _ = _; rw [hM.out, allV_not hkl hT]; rfl
        rw [hT] at HT
        obtain ⟨q, hq⟩ : ∃ q, q = ps[k] := ⟨_, rfl⟩
        rw [← hq] at hck HT
        clear hcs hq hT hpre hM
        go_wp2_with (first | (go_at_call 16; refine HT.out.mono ?_; rintro e w1 ⟨rfl, rfl⟩))
        refine bodyPost_ret (v := .tuple #[.string ⟨#[]⟩, .bool false]) (by simp [results, Tryd.results28, go_sem]) rfl ?_
        exact ⟨by rw [hWn.out]; rfl, Below.refl _ _⟩
      | true =>
        have hnx : Hid (∀ j, ∀ hj : j < ps.length, j < k + 1 → (parseT ps[j]).isSome = true) := by
          intro j hj h
          by_cases e : j = k
          · subst e; exact hT
          · exact hpre.out j hj (by omega)
        rw [hT] at HT
        obtain ⟨q, hq⟩ : ∃ q, q = ps[k] := ⟨_, rfl⟩
        rw [← hq] at hck HT
        clear hcs hq hT hpre
        go_wp2_with (first | (go_at_call 16; refine HT.out.mono ?_; rintro e w1 ⟨rfl, rfl⟩))
        go_roundw
        case rel => exact ⟨k + 1, by omega, by go_num, trivial, hnx.out⟩
        case measure => simp [intOf]; omega
    · have hke : k = ps.length := by omega
      have hall := allV_all fun j hj => hpre.out j hj (by omega)
      rw [hall] at hM
      have hki : ¬ ((k : Int) < (ps.length : Int)) := by omega
      clear hpre hall
      by_cases h2 : ps.length ≤ 2
      · have h2i : ¬ (2 : Int) < (ps.length : Int) := by omega
        rw [show decide (ps.length ≤ 2) = true by simpa using h2] at hM
        cases hT : (parseT X).isSome with
        | false =>
          have hWn : Hid (W = none) := by show _ = _; rw [hM.out, hT]; rfl
          rw [hT] at HV
          clear hM hT
          go_wp2_with (first | (go_at_call 51; refine HJ.out.mono ?_; rintro e w1 ⟨rfl, rfl⟩) | (go_at_call 16; refine HV.out.mono ?_; rintro e w1 ⟨rfl, rfl⟩))
          refine bodyPost_ret (v := .tuple #[.string ⟨#[]⟩, .bool false]) (by simp [results, Tryd.results28, go_sem]) rfl ?_
          exact ⟨by rw [hWn.out]; rfl, Below.refl _ _⟩
        | true =>
          have hWs : Hid (W = some X) := by show _ = _; rw [hM.out, hT]; rfl
          rw [hT] at HV
          clear hM hT
          go_wp2_with (first | (go_at_call 51; refine HJ.out.mono ?_; rintro e w1 ⟨rfl, rfl⟩) | (go_at_call 16; refine HV.out.mono ?_; rintro e w1 ⟨rfl, rfl⟩))
          refine bodyPost_ret (v := .tuple #[.string (str X), .bool true]) (by simp [results, Tryd.results28, go_sem]) rfl ?_
          exact ⟨by rw [hWs.out]; rfl, Below.refl _ _⟩
      · have h2i : (2 : Int) < (ps.length : Int) := by omega
        have hWn : Hid (W = none) := by show _ = _; rw [hM.out, show decide (ps.length ≤ 2) = false by simpa using h2]; rfl
        clear hM
        go_wp2
        refine bodyPost_ret (v := .tuple #[.string ⟨#[]⟩, .bool false]) (by simp [results, Tryd.results28, go_sem]) rfl ?_
        exact ⟨by rw [hWn.out]; rfl, Below.refl _ _⟩
end Go.Proofs.YtcecljolnknapaaDoor
