/-
  The walk of the law FnExactCallTerm; a row of strings that comes in.
-/
import Derived.Test.YtcecljolnknapaaDoorCti
import Derived.Test.YtcecljolnknapaaDoorLift
import Derived.SliceStrings
namespace Go.Proofs.YtcecljolnknapaaDoor
open Go.ChangeShapes Go.WideShapes Go.ChangeAt Go.RowKit Go.Joins Go.Deep

theorem Tryd.cellsStr : Tryd.prog.cellsOf 9 = 1 := by kernel_rfl
section
variable {H : Type} {enc : TypeId × Value → H} {W : World} {base : Nat} {held : Bool}
theorem open_strsAt {fuel : Nat} {v : Value} {x : DataW H × List MemPlace} (h : DataW.trod enc Tryd.prog W base (fun _ => true) held fuel 24 [v] = some x) : ∃ ps, StrsAt W v ps ∧ ps.length ≤ maxLen ∧ ∀ p ∈ ps, p.length ≤ maxLen := by
  rcases open_strings Tryd.underlying24 Tryd.underlying9 Tryd.cellsStr h with ⟨hcs, _⟩ | ⟨a, len, cap, ss, hcs, _, hl, hm, hz, _, hcell, hw⟩
  · simp only [List.cons.injEq, and_true] at hcs
    subst hcs
    exact ⟨[], ⟨none, 0, rfl, Nat.le_refl _, fun h => absurd h (by simp)⟩, Nat.zero_le _, fun p hp => absurd hp (by simp)⟩
  · simp only [List.cons.injEq, and_true] at hcs
    subst hcs
    simp only [if_true] at hz
    have e : ((ss.take len).map fun s => s.data.toList).length = len := by rw [List.length_map, List.length_take]; omega
    refine ⟨(ss.take len).map fun s => s.data.toList, ⟨some a, cap, by rw [e], by rw [e]; exact hl, fun h0 => ?_⟩, by rw [e]; omega, fun p hp => ?_⟩
    · rw [e] at h0
      obtain ⟨b, off, spot⟩ := a
      have hspot : spot = none := by simpa [Addr.add] using World.cell?_spot (hcell 0 (by omega))
      subst hspot
      have hg := World.block_lt_of_cell? _ _ (hcell 0 (by omega))
      refine ⟨b, off, rfl, hg, fun j hj => ?_⟩
      rw [e] at hj
      have h1 := hcell j (by omega)
      have h2 : ss.getD j ByteArray.empty = ss[j]'(by omega) := by rw [List.getD_eq_getElem?_getD, List.getElem?_eq_getElem (by omega)]; rfl
      rw [h2] at h1
      have h3 : str (((ss.take len).map fun s => s.data.toList)[j]'(by rw [e]; exact hj)) = ss[j]'(by omega) := by
        rw [List.getElem_map, List.getElem_take]
        exact str_list _
      rw [h3]
      rw [Addr.add_lit] at h1
      exact h1
    · obtain ⟨s, hs, rfl⟩ := List.mem_map.1 hp
      rw [Array.length_toList]
      exact hw s (List.mem_of_mem_take hs)
end

set_option maxRecDepth 100000 in
set_option maxHeartbeats 2000000 in
theorem lawCte_walk (s : ByteArray) (v : Value) (ps : List (List UInt8)) (n : Nat) (a : Addr) (W : World) (hE : Ev W n a) (hn : n ≤ W.heap.size) (hmax : s.size ≤ maxLen) (hv : StrsAt W v ps) (hpl : ps.length ≤ maxLen) (hpp : ∀ p ∈ ps, p.length ≤ maxLen) :
    Calls Tryd.prog 7 #[.string s, v] W fun e W' => e = .returned (.bool true) ∧ Below W.heap.size W W' := by
  obtain ⟨L, hL⟩ : ∃ L, s = str L := ⟨s.data.toList, (str_list s).symm⟩
  subst hL
  have hsz := str_size L
  rw [hsz] at hmax
  unfold maxLen at hmax hpl hpp
  obtain ⟨VA, VC, hve, hrest⟩ := hv
  have hv : StrsAt W v ps := ⟨VA, VC, hve, hrest⟩
  have HSz := Lib.hid (szStrs_any v ps 1048576 W hv (by omega) (by omega) (fun p hp => by have := hpp p hp; omega))
  have HVs := Lib.hid hv
  have HEv := Lib.hid hE
  clear hE hpp hrest hv
  by_cases hbig : 1048576 < L.length
  · have h1 : (1048576 : Int) < (L.length : Int) := by omega
    subst hve
    go_enter Tryd.func7, Tryd.ntmps7
    go_wp2
    go_ret
    exact ⟨rfl, Below.refl _ _⟩
  · have h1 : ¬ (1048576 : Int) < (L.length : Int) := by omega
    have hn1 : L.length ≤ 1048576 := by omega
    subst hve
    go_enter Tryd.func7, Tryd.ntmps7
    go_wp2_with fail
    refine HSz.out.mono ?_
    rintro e w0 ⟨r, rfl, hr, hw0⟩
    subst hw0
    have HR := Lib.hid hr
    clear hr HSz
    by_cases hneg : r < 0
    · go_wp2
      go_ret
      exact ⟨rfl, Below.refl _ _⟩
    · have hbk0 : bulkS ps ≤ 1048576 := by have := HR.out (by omega); omega
      have hpl2 : ps.length ≤ 1048576 := by unfold bulkS at hbk0; omega
      have hbk := Lib.hid hbk0
      clear hbk0 HR
      go_wp2_with fail
      refine (toStrs_any _ ps w0 HVs.out hpl2).mono ?_
      rintro e w1 ⟨v1, rfl, hs1, hb1⟩
      have hs1' := hs1
      obtain ⟨A1, C1, he1, _⟩ := hs1'
      subst he1
      have HS1 := Lib.hid hs1
      have HB1 := Lib.hid hb1
      clear hs1 hb1
      obtain ⟨P, hP⟩ : ∃ P, P = callV L ps := ⟨_, rfl⟩
      have HP := Lib.hid hP
      clear hP
      go_wp2_with fail
      refine (specCall_any L _ ps w1 HS1.out hn1 hbk.out).mono ?_
      rintro e w2 ⟨he, hb2⟩
      rw [← HP.out] at he
      subst he
      have HB2 := Lib.hid (HB1.out.trans (hb2.mono HB1.out.size))
      clear hb2 HS1 HB1
      go_wp2_with fail
      refine (toStrs_any _ ps w2 (HVs.out.below HB2.out) hpl2).mono ?_
      rintro e w3 ⟨v3, rfl, hs3, hb3⟩
      have hs3' := hs3
      obtain ⟨A3, C3, he3, _⟩ := hs3'
      subst he3
      have HS3 := Lib.hid hs3
      have HB3 := Lib.hid (HB2.out.trans (hb3.mono HB2.out.size))
      clear hs3 hb3 HB2
      go_wp2_with fail
      refine (implCall_any L _ ps n a w3 (HEv.out.under HB3.out) (Nat.le_trans hn HB3.out.size) HS3.out hn1 hbk.out).mono ?_
      rintro e w4 ⟨he, hb4⟩
      rw [← HP.out] at he
      subst he
      have HS4 := Lib.hid (HS3.out.below hb4)
      have HB4 := Lib.hid (HB3.out.trans (hb4.mono HB3.out.size))
      clear hb4 HS3 HB3
      go_wp2_with fail
      refine (toStrs_any _ ps w4 (HVs.out.below HB4.out) hpl2).mono ?_
      rintro e w5 ⟨v5, rfl, hs5, hb5⟩
      have hs5' := hs5
      obtain ⟨A5, C5, he5, _⟩ := hs5'
      subst he5
      have HS5 := Lib.hid hs5
      have HS6 := Lib.hid (HS4.out.below hb5)
      have HB5 := Lib.hid (HB4.out.trans (hb5.mono HB4.out.size))
      clear hs5 hb5 HS4 HB4
      go_wp2_with fail
      refine (eqStrs_any _ _ ps ps w5 HS6.out HS5.out hpl2).mono ?_
      rintro e w6 ⟨he, hb6⟩
      rw [show decide (ps = ps) = true by simp] at he
      subst he
      have HB6 := Lib.hid (HB5.out.trans (hb6.mono HB5.out.size))
      clear hb6
      go_wp2
      go_ret
      exact ⟨rfl, HB6.out⟩
end Go.Proofs.YtcecljolnknapaaDoor
