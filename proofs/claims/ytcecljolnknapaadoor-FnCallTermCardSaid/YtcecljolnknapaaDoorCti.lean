/-
  The contracts of the program's callText, CallTerm.
-/
import Derived.Test.YtcecljolnknapaaDoorCtm
import Derived.Test.YtcecljolnknapaaDoorTrs
import Derived.Test.YtcecljolnknapaaDoorTxj
import Derived.Test.YtcecljolnknapaaDoorTrx
namespace Go.Proofs.YtcecljolnknapaaDoor
open Go.RowKit

theorem joinS_len : ∀ (ps : List (List UInt8)), (Lib.join ps [44]).length ≤ bulkS ps
  | [] => by simp [Lib.join]
  | [p] => by rw [Lib.join_one]; simp [bulkS]
  | p :: q :: r => by
    have ih := joinS_len (q :: r)
    have e1 : Lib.join (p :: q :: r) [44] = p ++ ([44] ++ Lib.join (q :: r) [44]) := by
      simp only [Lib.join_cons]
      rfl
    rw [e1]
    unfold bulkS at ih ⊢
    simp only [List.length_append, List.length_cons, List.length_nil, List.map_cons, List.sum_cons] at ih ⊢
    omega
theorem joinS_any (v : Value) (ps : List (List UInt8)) (w : World) (hv : StrsAt w v ps) (hb : bulkS ps ≤ 4194304) :
    Calls Tryd.prog 60 #[v, .string ⟨#[44]⟩] w fun e w' => e = .returned (.string (str (Lib.join ps [44]))) ∧ Below w.heap.size w w' := by
  obtain ⟨A, c, rfl, hcap, hcells⟩ := hv
  have hl := joinS_len ps
  have hnp : ps.length ≤ 4194304 := by unfold bulkS at hb; omega
  by_cases h0 : 0 < ps.length
  · obtain ⟨g, off, rfl, hg, hcs⟩ := hcells h0
    have hm : (ps.map fun z => str z).map (·.data.toList) = ps := by
      rw [List.map_map]
      simp [str, Function.comp_def]
    have h := Any.strings_Join lays156 layJ g off c (ps.map fun z => str z) ⟨#[44]⟩ w (fun j x hx => by
      rw [List.getElem?_map] at hx
      obtain ⟨z, hz, rfl⟩ := Option.map_eq_some_iff.1 hx
      obtain ⟨hj, rfl⟩ := List.getElem?_eq_some_iff.1 hz
      exact hcs j hj) hg (by rw [List.length_map]; omega) (by rw [List.length_map]; exact hcap) (by rw [hm]; show (Lib.join ps [44]).length ≤ _; omega)
    rw [List.length_map, hm] at h
    refine Calls.mono h ?_
    rintro e w' ⟨rfl, hb'⟩
    exact ⟨rfl, hb'⟩
  · have e : ps = [] := List.eq_nil_of_length_eq_zero (by omega)
    subst e
    refine (Any.strings_Join_none lays156 layJ A c ⟨#[44]⟩ w).mono ?_
    rintro e w' ⟨rfl, rfl⟩
    exact ⟨rfl, Below.refl _ _⟩

set_option maxRecDepth 100000 in
set_option maxHeartbeats 1000000 in
theorem callText_any (nm : List UInt8) (v : Value) (ps : List (List UInt8)) (w : World) (hv : StrsAt w v ps) (hn : nm.length ≤ 4194304) (hb : bulkS ps ≤ 4194304) :
    Calls Tryd.prog 52 #[.string (str nm), v] w fun e w' => e = .returned (.string (str (callL nm ps))) ∧ Below w.heap.size w w' := by
  have HJ := Lib.hid (joinS_any v ps w hv hb)
  have hl := joinS_len ps
  have hcl : Hid (callL nm ps = nm ++ [40] ++ Lib.join ps [44] ++ [41]) := rfl
  obtain ⟨X, hX⟩ : ∃ X, X = callL nm ps := ⟨_, rfl⟩
  obtain ⟨J, hJ⟩ : ∃ J, J = Lib.join ps [44] := ⟨_, rfl⟩
  rw [← hX, ← hJ] at hcl
  rw [← hX]
  rw [← hJ] at HJ hl
  obtain ⟨L1, h1⟩ : ∃ L, L = nm ++ [40] := ⟨_, rfl⟩
  obtain ⟨L2, h2⟩ : ∃ L, L = L1 ++ J := ⟨_, rfl⟩
  obtain ⟨L3, h3⟩ : ∃ L, L = L2 ++ [41] := ⟨_, rfl⟩
  have s1 : str nm ++ (⟨#[40]⟩ : ByteArray) = str L1 := by rw [h1]; exact str_append _ _
  have s2 : str L1 ++ str J = str L2 := by rw [h2]; exact str_append _ _
  have s3 : str L2 ++ (⟨#[41]⟩ : ByteArray) = str L3 := by rw [h3]; exact str_append _ _
  have k1 : L1.length = nm.length + 1 := by rw [h1]; simp
  have k2 : L2.length = L1.length + J.length := by rw [h2]; simp
  have n1 : ¬ 9223372036854775807 < (str nm).size + 1 := by rw [str_size]; omega
  have n2 : ¬ 9223372036854775807 < (str L1).size + (str J).size := by rw [str_size, str_size]; omega
  have n3 : ¬ 9223372036854775807 < (str L2).size + 1 := by rw [str_size]; omega
  have hX3 : Hid (L3 = X) := by show _ = _; rw [h3, h2, h1, hcl.out]
  clear h1 h2 h3 hX hJ hcl k1 k2 hl hv
  go_enter Tryd.func52, Tryd.ntmps52
  go_wp2_with fail
  refine HJ.out.mono ?_
  rintro e w1 ⟨rfl, hb1⟩
  have HB := Lib.hid hb1
  clear hb1
  go_wp2
  go_ret
  exact ⟨by rw [hX3.out]; rfl, HB.out⟩

set_option maxRecDepth 100000 in
set_option maxHeartbeats 4000000 in
theorem readTerm_long (l : List UInt8) (w : World) (h60 : ¬ l.length ≤ 60) (hm : l.length ≤ 9223372036854775807) :
    Calls Tryd.prog 45 #[.string (str l)] w fun e w' => ReadPost l w e w' := by
  have hsz := str_size l
  have h1 : (60 : Int) < (l.length : Int) := by omega
  have hp : Hid (parseT l = none) := by show _ = _; unfold parseT; rw [if_neg h60]
  go_enter_defers Tryd.func45, Tryd.ntmps45
  go_wp2
  simp [bodyPostD, Leaves, results, Tryd.results45, go_sem]
  exact ⟨.inr ⟨hp.out, rfl⟩, Below.refl _ _⟩
set_option maxRecDepth 100000 in
set_option maxHeartbeats 1000000 in
theorem implTermValid_free (l : List UInt8) (n : Nat) (a : Addr) (w : World) (hv : Ev w n a) (hn : n ≤ w.heap.size) (hm : l.length ≤ 9223372036854775807) :
    Calls Tryd.prog 17 #[.string (str l)] w fun e w' => e = .returned (.bool (parseT l).isSome) ∧ Below w.heap.size w w' := by
  by_cases h60 : l.length ≤ 60
  · exact implTermValid_any l n a w hv hn (by omega)
  · have HR := Lib.hid (readTerm_long l w h60 hm)
    clear hv
    go_enter Tryd.func17, Tryd.ntmps17
    go_wp2_with fail
    refine HR.out.mono ?_
    rintro e w1 ⟨⟨t, o, hp, rfl, _⟩ | ⟨hp, rfl⟩, hb⟩
    · have HP := Lib.hid hp
      have HB := Lib.hid hb
      clear hp hb
      go_wp2
      go_ret
      exact ⟨by rw [HP.out]; rfl, HB.out⟩
    · have HP := Lib.hid hp
      have HB := Lib.hid hb
      clear hp hb
      go_wp2
      go_ret
      exact ⟨by rw [HP.out]; rfl, HB.out⟩

set_option maxRecDepth 100000 in
set_option maxHeartbeats 4000000 in
theorem implCall_any (nm : List UInt8) (v : Value) (ps : List (List UInt8)) (n : Nat) (a : Addr) (w : World) (hE : Ev w n a) (hn0 : n ≤ w.heap.size) (hv : StrsAt w v ps) (hn : nm.length ≤ 1048576) (hb : bulkS ps ≤ 1048576) :
    Calls Tryd.prog 30 #[.string (str nm), v] w fun e w' => e = optE (callV nm ps) ∧ Below w.heap.size w w' := by
  have hl := joinS_len ps
  have hll : (callL nm ps).length ≤ 4194304 := by unfold callL; simp only [List.length_append, List.length_cons, List.length_nil]; omega
  have HJ : Hid (∀ wr, Below w.heap.size w wr → Calls Tryd.prog 52 #[.string (str nm), v] wr fun e w' => e = .returned (.string (str (callL nm ps))) ∧ Below wr.heap.size wr w') := fun wr hbw => callText_any nm v ps wr (hv.below hbw) (by omega) (by omega)
  have HV : Hid (∀ wr, Below w.heap.size w wr → Calls Tryd.prog 17 #[.string (str (callL nm ps))] wr fun e w' => e = .returned (.bool (parseT (callL nm ps)).isSome) ∧ Below wr.heap.size wr w') := fun wr hbw => implTermValid_free _ n a wr (hE.under hbw) (Nat.le_trans hn0 hbw.size) (by omega)
  have HT : Hid (∀ p ∈ ps, ∀ wr, Below w.heap.size w wr → Calls Tryd.prog 17 #[.string (str p)] wr fun e w' => e = .returned (.bool (parseT p).isSome) ∧ Below wr.heap.size wr w') := fun p hp wr hbw => implTermValid_free _ n a wr (hE.under hbw) (Nat.le_trans hn0 hbw.size) (by
    have h1 : p.length ≤ (ps.map List.length).sum := by
      obtain ⟨j, hj, rfl⟩ := List.getElem_of_mem hp
      have h := sum_take_le' (ps.map List.length) (j + 1)
      rw [sumlen_take hj] at h
      omega
    unfold bulkS at hb
    omega)
  obtain ⟨A, c, rfl, hcap, hcells⟩ := hv
  have HC := Lib.hid hcells
  have hnp : ps.length ≤ 1048576 := by unfold bulkS at hb; omega
  have hM : Hid (callV nm ps = if (allV ps && (parseT (callL nm ps)).isSome) = true then some (callL nm ps) else none) := rfl
  obtain ⟨W, hW⟩ : ∃ W, W = callV nm ps := ⟨_, rfl⟩
  obtain ⟨X, hX⟩ : ∃ X, X = callL nm ps := ⟨_, rfl⟩
  rw [← hW, ← hX] at hM
  rw [← hW]
  rw [← hX] at HJ HV
  clear hcells hb hn hW hX hE hl hll
  go_enter Tryd.func30, Tryd.ntmps30
  go_wp2
  go_loopw [11] (fun i wr => ∃ k : Nat, k ≤ ps.length ∧ i = .int .i64 k ∧ Hid (Below w.heap.size w wr) ∧ Hid (∀ j, ∀ hj : j < ps.length, j < k → (parseT ps[j]).isSome = true)) (fun i _ => ps.length - (intOf i).toNat)
  case atStart => exact ⟨0, Nat.zero_le _, rfl, Below.refl _ _, fun j _ h => absurd h (by omega)⟩
  case round =>
    obtain ⟨k, hk, rfl, hbr, hpre⟩ := hrel
    by_cases hkl : k < ps.length
    · obtain ⟨g, off, hA, hgw, hcs⟩ := HC.out (by omega)
      subst hA
      have hck := (World.cell?_of_block (w := w) (a := ⟨g, off + k, none⟩) (hbr.out.block g hgw)).trans (hcs k hkl)
      have HT1 := Lib.hid (HT.out ps[k] (List.getElem_mem hkl) wr hbr.out)
      cases hT : (parseT ps[k]).isSome with
      | false =>
        have hWn : Hid (W = none) := by show _ = _; rw [hM.out, allV_not hkl hT]; rfl
        rw [hT] at HT1
        obtain ⟨q, hq⟩ : ∃ q, q = ps[k] := ⟨_, rfl⟩
        rw [← hq] at hck HT1
        clear hcs hq hT hpre hM
        go_wp2_with fail
        refine HT1.out.mono ?_
        rintro e w1 ⟨rfl, hb1⟩
        have HB1 := Lib.hid (hbr.out.trans (hb1.mono hbr.out.size))
        clear hb1
        go_wp2
        refine bodyPost_ret (v := .tuple #[.string ⟨#[]⟩, .bool false]) (by simp [results, Tryd.results30, go_sem]) rfl ?_
        exact ⟨by rw [hWn.out]; rfl, HB1.out⟩
      | true =>
        have hnx : Hid (∀ j, ∀ hj : j < ps.length, j < k + 1 → (parseT ps[j]).isSome = true) := by
          intro j hj h
          by_cases e : j = k
          · subst e; exact hT
          · exact hpre.out j hj (by omega)
        rw [hT] at HT1
        obtain ⟨q, hq⟩ : ∃ q, q = ps[k] := ⟨_, rfl⟩
        rw [← hq] at hck HT1
        clear hcs hq hT hpre
        go_wp2_with fail
        refine HT1.out.mono ?_
        rintro e w1 ⟨rfl, hb1⟩
        have HB1 := Lib.hid (hbr.out.trans (hb1.mono hbr.out.size))
        clear hb1
        go_wp2
        go_roundw
        case rel => exact ⟨k + 1, by omega, by go_num, HB1.out, hnx.out⟩
        case measure => simp [intOf]; omega
    · have hke : k = ps.length := by omega
      have hall := allV_all fun j hj => hpre.out j hj (by omega)
      rw [hall] at hM
      have hki : ¬ ((k : Int) < (ps.length : Int)) := by omega
      clear hpre hall
      go_wp2_with fail
      refine (HJ.out wr hbr.out).mono ?_
      rintro e w1 ⟨rfl, hb1⟩
      have HB1 := Lib.hid (hbr.out.trans (hb1.mono hbr.out.size))
      clear hb1
      have HV1 := Lib.hid (HV.out w1 HB1.out)
      cases hT : (parseT X).isSome with
      | false =>
        have hWn : Hid (W = none) := by show _ = _; rw [hM.out, hT]; rfl
        rw [hT] at HV1
        clear hM hT
        go_wp2_with fail
        refine HV1.out.mono ?_
        rintro e w2 ⟨rfl, hb2⟩
        have HB2 := Lib.hid (HB1.out.trans (hb2.mono HB1.out.size))
        clear hb2
        go_wp2
        refine bodyPost_ret (v := .tuple #[.string ⟨#[]⟩, .bool false]) (by simp [results, Tryd.results30, go_sem]) rfl ?_
        exact ⟨by rw [hWn.out]; rfl, HB2.out⟩
      | true =>
        have hWs : Hid (W = some X) := by show _ = _; rw [hM.out, hT]; rfl
        rw [hT] at HV1
        clear hM hT
        go_wp2_with fail
        refine HV1.out.mono ?_
        rintro e w2 ⟨rfl, hb2⟩
        have HB2 := Lib.hid (HB1.out.trans (hb2.mono HB1.out.size))
        clear hb2
        go_wp2
        refine bodyPost_ret (v := .tuple #[.string (str X), .bool true]) (by simp [results, Tryd.results30, go_sem]) rfl ?_
        exact ⟨by rw [hWs.out]; rfl, HB2.out⟩
end Go.Proofs.YtcecljolnknapaaDoor
