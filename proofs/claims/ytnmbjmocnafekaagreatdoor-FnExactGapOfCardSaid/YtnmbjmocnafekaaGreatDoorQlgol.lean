/-
  Proved here, the first part: FnExactGapOf returns true for all arguments, each argument reads afterwards as it read before, and so do three of the package's errors, which are tied to the program's text, as is the type of errors.
  Conditions: those of the given card alone.
-/
import Derived.Test.YtnmbjmocnafekaaGreatDoorQlgo
import Derived.Test.YtnmbjmocnafekaaGreatDoorQigo
import Derived.Test.YtnmbjmocnafekaaGreatDoorQgsf
import Derived.Test.YtnmbjmocnafekaaGreatDoorQlaidh
import Derived.Test.YtnmbjmocnafekaaGreatDoorG29
import Derived.Test.YtnmbjmocnafekaaGreatDoorTie
import Derived.Test.YtnmbjmocnafekaaGreatDoorCards
import Derived.Carry
import Derived.JoinedOf
import Derived.SevenTiedAt
import Derived.ChangeMaps
namespace Go.Proofs.YtnmbjmocnafekaaGreatDoor
open Go.ChangeShapes Go.WideShapes Go.ChangeAt Go.RowKit

theorem gapK_wf (y : Sy) : (gapK (gapP y)).length ≤ 1048576 ∧ ∀ z ∈ gapK (gapP y), I64 z := by
  cases hg : gapP y with
  | none => exact ⟨by simp [gapK], fun z hz => (by cases hz)⟩
  | some p =>
    unfold gapP at hg
    cases hs : syB y with
    | false => rw [hs] at hg; cases hg
    | true =>
      rw [hs, if_pos rfl] at hg
      obtain ⟨_, n, hn, h2⟩ := callsL_in.1 (List.mem_of_find?_eq_some hg)
      rw [← kindsS_rows _ (by omega)] at h2
      obtain ⟨h3, h4⟩ := kindsS_in h2
      have h5 := (sizesOk_of (tyOk_sizes (syB_iff.1 hs).ty)).2.1
      refine ⟨by show p.2.length ≤ _; omega, fun z hz => ?_⟩
      have := h4 z hz
      unfold I64
      omega

set_option maxRecDepth 100000 in
theorem lawGo_lifted (os : Os) (started : os.Started) (H : Type) (enc : TypeId × Value → H) :
    ReturnsInHanded {} Tryz.checked os 4 .any (fun w args => (Rows.fnExactGapOfSpec.pre enc Tryz.prog Tryz.f4 Rows.fnExactGapOfRow.domain false w args ∧ laidMetH Tryz.prog Rows.fnExactGapOfRow.laid w) ∧ sizedMet enc Tryz.prog Tryz.f4 (OpenSpec.ofChange Rows.fnExactGapOfSpec) false w args)
      (Rows.fnExactGapOfSpec.post enc Tryz.prog Tryz.f4 false true false false) := by
  refine returnsInHanded_of_change_and (C := Tryz.checked) (X := fun w _ => laidMetH Tryz.prog Rows.fnExactGapOfRow.laid w) (fun _ _ _ hh h => h.of_heap hh) Tryz.own started (by kernel_rfl) Tryz.func4
    (ChangeSpec.witness_at (enc := enc) (C := Tryz.checked) (os := os) (X := fun w _ => laidMetH Tryz.prog Rows.fnExactGapOfRow.laid w) false (laidWorld4 os) #[.agg #[.slice none 0 0, .slice none 0 0, .slice none 0 0]] 8 rfl (by kernel_rfl) (by kernel_rfl) (by kernel_rfl) (by kernel_rfl) (by kernel_rfl) (laid4_metH os _)) ?_
  intro W base args ds gs before hval0 hW _ _ hL _
  have hval : ∀ (j : Nat) t v, Tryz.f4.params[j]? = some t → args[j]? = some v → Value.okWide Tryz.prog W .any base t v := hval0
  have hW' := hW
  obtain ⟨p, q, hA0, hV, rfl, _, _⟩ := hW
  have hA : DataW.TrodAll enc Tryz.prog W 0 (fun _ => true) true Tryz.f4.params.toList args.toList ds p := hA0
  rw [Tryz.params4] at hA hval
  obtain ⟨v0, vs0, d0, ds0, p, q0, hargs, rfl, rfl, h0, r0⟩ := trodAll_cons hA
  obtain ⟨rfl, rfl, rfl⟩ := trodAll_nil r0
  obtain rfl : args = #[v0] := by cases args; simp_all
  obtain ⟨hL3, hct⟩ := errs4_parts hL
  obtain ⟨n, aI, aN, aM, hn, hgi, hci, hE, hvs⟩ := errs3_of_laid hL3
  have hgt : 1 < n := by
    have h9 : 3 < n := hE.low.1
    show 1 < n
    omega
  have hS : ∀ y, gapS y = gapP y := fun y => (gap_same y).symm
  have vr : ∀ W1 : World, Below W.heap.size W W1 → ∀ sp : Nat → Bool, DataW.TrodVars enc Tryz.prog W1 sp Rows.fnExactGapOfSpec.vars [tok enc (.iface 314 (.pointer (some aI))), tok enc (.iface 314 (.pointer (some aM))), tok enc (.iface 314 (.pointer (some aN)))] [.cell 0 0, .cell 2 0, .cell 3 0] := fun W1 hb1 sp => vars_cons enc (by kernel_rfl) (by kernel_rfl) Tryz.underlying65 (hvs W1 hb1).1 trivial (vars_cons enc (by kernel_rfl) (by kernel_rfl) Tryz.underlying65 (hvs W1 hb1).2.2 trivial (vars_cons enc (by kernel_rfl) (by kernel_rfl) Tryz.underlying65 (hvs W1 hb1).2.1 trivial ((show DataW.TrodVars enc Tryz.prog W1 sp [] [] [] from rfl))))
  obtain ⟨rfl, rfl⟩ := hV.unique (vr W (Below.refl _ _) _)
  obtain ⟨sv, cv, fv, t, rfl, ht⟩ := open_syAt (hval 0 _ v0 rfl rfl) h0
  have hlt : ∀ x ∈ p, x.block < W.heap.size := fun x hx => by simpa using hW'.lt x (by simp [hx])
  refine (lawGo_walk sv cv fv t W ht (gapN (gapP t)) (gapP t).isSome (gapK (gapP t)) (gapK_wf t).2 (gapK_wf t).1
    (fun lo hi s1 c1 f1 w1 hbk _ hv hB => (by rw [← hS t]; exact specGapF_any lo hi s1 c1 f1 t hbk w1 hv hB))
    (fun lo hi s1 c1 f1 w1 hbk hb hv hB => (implGapOf_any lo hi n s1 c1 f1 t hbk aN aM aI w1 hv hB (hE.below hb hn) (Nat.le_trans hn hb.size) hgi ((hb.cell (p := ⟨0, 0, none⟩) (by show 0 < W.heap.size; omega)).trans hci) hgt ((hb.cell (p := ⟨1, 0, none⟩) (by show 1 < W.heap.size; omega)).trans hct)).mono fun e w2 ⟨v, h1, h2, h3, _⟩ => ⟨v, h1, h2, h3⟩)).mono fun e W' ⟨he, hb⟩ => ?_
  subst he
  exact ⟨_, rfl, _, _, _, [], _, _, hW', trodAll_mk1 (shut_bool Tryz.underlying4 _), trodAll_cons_mk (Below.trod Tryz.laidOut (by kernel_rfl) (of_decide_eq_true (by kernel_rfl)) h0 hb hlt) trodAll_mk0, vr W' hb _, hb.frame _, fun h => by cases h⟩
end Go.Proofs.YtnmbjmocnafekaaGreatDoor

