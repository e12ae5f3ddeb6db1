/-
  The contracts of the model's l13Find, NamesIn.
-/
import Derived.Test.YtcecljolnknapaaDoorNmd
import Derived.Test.YtcecljolnknapaaDoorCtm
import Derived.Test.YtcecljolnknapaaDoorTxs
namespace Go.Proofs.YtcecljolnknapaaDoor
open Go.RowKit

set_option maxRecDepth 100000 in
set_option maxHeartbeats 1000000 in
theorem find_any (L : List UInt8) (c : UInt8) (z : Int) (hz : z = (c.toNat : Int)) (w : World) (hL : L.length ≤ 1048576) :
    Calls Tryd.prog 57 #[.string (str L), .int .u8 z] w fun e w' => ∃ r : Int, e = .returned (.int .i64 r) ∧ (0 ≤ r ↔ c ∈ L) ∧ w' = w := by
  subst hz
  have hsz := str_size L
  go_enter Tryd.func57, Tryd.ntmps57
  go_wp2
  go_loopw [5] (fun i wr => ∃ k : Nat, k ≤ L.length ∧ i = .int .i64 k ∧ wr = w ∧ Hid (∀ j, ∀ hj : j < L.length, j < k → L[j] ≠ c)) (fun i _ => L.length - (intOf i).toNat)
  case atStart => exact ⟨0, Nat.zero_le _, rfl, rfl, fun j _ h => absurd h (by omega)⟩
  case round =>
    obtain ⟨k, hk, rfl, rfl, hpre⟩ := hrel
    by_cases hkl : k < L.length
    · have hby := cut_byte L k hkl
      have hce := cut_eq L[k] c
      by_cases hc : L[k] = c
      · have hmem : Hid (c ∈ L) := by show c ∈ L; rw [← hc]; exact List.getElem_mem hkl
        have hcc : decide (L[k] = c) = true := by simpa using hc
        rw [hcc] at hce
        clear hpre hc hcc
        go_wp2
        go_ret
        exact ⟨_, rfl, ⟨fun _ => hmem.out, fun _ => by omega⟩, rfl⟩
      · have hnx : Hid (∀ j, ∀ hj : j < L.length, j < k + 1 → L[j] ≠ c) := by
          intro j hj h
          by_cases e : j = k
          · subst e; exact hc
          · exact hpre.out j hj (by omega)
        have hcc : decide (L[k] = c) = false := by simpa using hc
        rw [hcc] at hce
        clear hpre hc hcc
        go_wp2
        go_roundw
        case rel => exact ⟨k + 1, by omega, by go_num, trivial, hnx.out⟩
        case measure => simp [intOf]; omega
    · have hke : k = L.length := by omega
      have hno : Hid (c ∉ L) := fun h => by
        obtain ⟨j, hj, e⟩ := List.getElem_of_mem h
        exact hpre.out j hj (by omega) e
      have hki : ¬ ((k : Int) < (L.length : Int)) := by omega
      clear hpre
      go_wp2
      go_ret
      exact ⟨-1, rfl, ⟨fun h => absurd h (by decide), fun h => absurd h hno.out⟩, rfl⟩

theorem letter_at {k : Nat} (h : k < 6) : letters.take (k + 1) = letters.take k ++ [UInt8.ofNat (102 + k)] := by
  match k, h with
  | 0, _ => rfl
  | 1, _ => rfl
  | 2, _ => rfl
  | 3, _ => rfl
  | 4, _ => rfl
  | 5, _ => rfl

set_option maxRecDepth 100000 in
set_option maxHeartbeats 2000000 in
theorem specNames_any (L : List UInt8) (hL : L.length ≤ 1048576) (w : World) :
    Calls Tryd.prog 35 #[.string (str L)] w fun e w' => e = .returned (.string (str (nmV L))) ∧ Below w.heap.size w w' := by
  have HT : Hid (∀ wr, Calls Tryd.prog 16 #[.string (str L)] wr fun e w' => e = .returned (.bool (parseT L).isSome) ∧ w' = wr) := fun wr => specTermValid_free L wr
  cases hp : (parseT L).isSome with
  | false =>
    rw [hp] at HT
    have hv : Hid (nmV L = []) := by show _ = _; unfold nmV; rw [hp]; rfl
    clear hp
    go_enter Tryd.func35, Tryd.ntmps35
    go_wp2_with fail
    go_loopw [3, 4] (fun o i wr => o = .string ⟨#[]⟩ ∧ i = .int .u8 102 ∧ wr = w) (fun _ _ _ => 0)
    case atStart => exact ⟨rfl, rfl, rfl⟩
    case round =>
      obtain ⟨rfl, rfl, rfl⟩ := hrel
      go_wp2_with fail
      refine (HT.out _).mono ?_
      rintro e w1 ⟨rfl, rfl⟩
      go_wp2
      go_ret
      exact ⟨by rw [hv.out]; rfl, Below.refl _ _⟩
  | true =>
    rw [hp] at HT
    have hv : Hid (nmV L = (letters.take 6).filter fun c => decide (c ∈ L)) := by show _ = _; unfold nmV; rw [hp]; rfl
    clear hp
    go_enter Tryd.func35, Tryd.ntmps35
    go_wp2_with fail
    go_loopw [3, 4] (fun o i wr => ∃ k : Nat, k ≤ 6 ∧ i = .int .u8 ((102 : Int) + k) ∧ Hid (Below w.heap.size w wr) ∧ ∃ M, o = .string (str M) ∧ M.length ≤ 6 ∧ Hid (M = (letters.take k).filter fun c => decide (c ∈ L))) (fun _ i _ => 108 - (intOf i).toNat)
    case atStart => exact ⟨0, Nat.zero_le _, rfl, Below.refl _ _, [], rfl, by simp, rfl⟩
    case round =>
      obtain ⟨k, hk, rfl, hbr, M, rfl, hMl, hM⟩ := hrel
      have HTr := Lib.hid (HT.out wr)
      by_cases hk6 : k < 6
      · obtain ⟨d, hd⟩ : ∃ d, d = UInt8.ofNat (102 + k) := ⟨_, rfl⟩
        have hdn : d.toNat = 102 + k := by rw [hd, UInt8.toNat_ofNat']; omega
        have HF := Lib.hid (find_any L d ((102 : Int) + k) (by omega) wr hL)
        have hnext : Hid ((letters.take (k + 1)).filter (fun c => decide (c ∈ L)) = M ++ (if d ∈ L then [d] else [])) := by
          show _ = _
          rw [letter_at hk6, List.filter_append, ← hM.out, ← hd]
          by_cases h : d ∈ L <;> simp [h]
        have hl6 : ((letters.take (k + 1)).filter (fun c => decide (c ∈ L))).length ≤ 6 := Nat.le_trans (List.length_filter_le _ _) (by rw [List.length_take]; exact Nat.min_le_right _ _)
        have hcmp : (102 : Int) + (k : Int) ≤ 107 := by omega
        have hwr : IntKind.u8.wrap ((102 : Int) + (k : Int) + 1) = (102 : Int) + ((k + 1 : Nat) : Int) := by unfold IntKind.wrap; simp [IntKind.signed, IntKind.bits]; omega
        clear hM hd
        go_wp2_with fail
        refine HTr.out.mono ?_
        rintro e w1 ⟨rfl, hw1⟩
        subst hw1
        go_wp2_with fail
        refine HF.out.mono ?_
        rintro e w2 ⟨r, rfl, hr, hw2⟩
        subst hw2
        by_cases hmem : d ∈ L
        · have hr0 : 0 ≤ r := hr.2 hmem
          rw [if_pos hmem] at hnext
          have hkv : Hid ((convert 37 9 (.slice (some ⟨w2.heap.size, 0, none⟩) 1 1)).run Tryd.prog (w2.alloc (.cells #[.int .u8 ((102 : Int) + k)] 5)) = .ok (.string (str [d])) (w2.alloc (.cells #[.int .u8 ((102 : Int) + k)] 5))) :=
            run_convert_bytes_back (P := Tryd.prog) _ 37 9 5 ⟨w2.heap.size, 0, none⟩ 1 [d] Tryd.underlying37 Tryd.underlying5 Tryd.underlying9 fun j hj => by
              obtain rfl : j = 0 := by simp at hj; omega
              have e : (([d] : List UInt8)[0].toNat : Int) = 102 + k := by show (d.toNat : Int) = _; omega
              rw [e]
              simp [go_sem]
          have s1 : str M ++ str [d] = str (M ++ [d]) := str_append _ _
          have n1 : ¬ 9223372036854775807 < (str M).size + (str [d]).size := by rw [str_size, str_size]; simp; omega
          obtain ⟨M2, hM2⟩ : ∃ M2, M2 = M ++ [d] := ⟨_, rfl⟩
          rw [← hM2] at s1 hnext
          rw [hnext.out] at hl6
          clear hr hmem hM2 hdn HF HTr
          go_wp2
          rw [hkv.out]
          go_wp2
          go_roundw
          case rel => exact ⟨k + 1, by omega, by simp, hbr.out.alloc hbr.out.size _, M2, rfl, hl6, hnext.out.symm⟩
          case measure => simp [intOf]; omega
        · have hr0 : ¬ 0 ≤ r := fun h => hmem (hr.1 h)
          rw [if_neg hmem, List.append_nil] at hnext
          clear hr hmem hdn HF HTr
          go_wp2
          go_roundw
          case rel => exact ⟨k + 1, by omega, by simp, hbr.out, M, rfl, hMl, hnext.out.symm⟩
          case measure => simp [intOf]; omega
      · have hke : k = 6 := by omega
        have hcmp : ¬ (102 : Int) + (k : Int) ≤ 107 := by omega
        have hfin : Hid (nmV L = M) := by show _ = _; rw [hv.out, hM.out, hke]
        clear hM
        go_wp2_with fail
        refine HTr.out.mono ?_
        rintro e w1 ⟨rfl, hw1⟩
        subst hw1
        go_wp2
        go_ret
        exact ⟨by rw [hfin.out]; rfl, hbr.out⟩
end Go.Proofs.YtcecljolnknapaaDoor
