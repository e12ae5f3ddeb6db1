/-
  Proved here, the first part: FnExactElaborateAt returns true for all arguments, each argument reads afterwards as it read before, and so do the package's six errors, which are tied to the program's text.
  Conditions: those of the given card alone.
-/
import Derived.Test.YtgkfddhhkjblgaaGreatDoorQlela
import Derived.Test.YtgkfddhhkjblgaaGreatDoorB33
import Derived.Test.YtgkfddhhkjblgaaGreatDoorB31
import Derived.Test.YtgkfddhhkjblgaaGreatDoorB19
import Derived.Test.YtgkfddhhkjblgaaGreatDoorTie
import Derived.Test.YtgkfddhhkjblgaaGreatDoorCards
import Derived.Carry
import Derived.JoinedOf
import Derived.SevenTiedAt
import Derived.ChangeMaps
namespace Go.Proofs.YtgkfddhhkjblgaaGreatDoor
open Go.ChangeShapes Go.WideShapes Go.ChangeAt Go.RowKit

set_option maxRecDepth 100000 in
theorem lawEla_lifted (os : Os) (started : os.Started) (H : Type) (enc : TypeId × Value → H) :
    ReturnsInHanded {} Tryz.checked os 5 .any (fun w args => (Rows.fnExactElaborateAtSpec.pre enc Tryz.prog Tryz.f5 Rows.fnExactElaborateAtRow.domain false w args ∧ laidMetH Tryz.prog Rows.fnExactElaborateAtRow.laid w) ∧ sizedMet enc Tryz.prog Tryz.f5 (OpenSpec.ofChange Rows.fnExactElaborateAtSpec) false w args)
      (Rows.fnExactElaborateAtSpec.post enc Tryz.prog Tryz.f5 false true false false) := by
  refine returnsInHanded_of_change_and (C := Tryz.checked) (X := fun w _ => laidMetH Tryz.prog Rows.fnExactElaborateAtRow.laid w) (fun _ _ _ hh h => h.of_heap hh) Tryz.own started (by kernel_rfl) Tryz.func5
    (ChangeSpec.witness_at (enc := enc) (C := Tryz.checked) (os := os) (X := fun w _ => laidMetH Tryz.prog Rows.fnExactElaborateAtRow.laid w) false (laidWorld6 os) #[.agg #[.slice none 0 0, .slice none 0 0, .slice none 0 0], .string ByteArray.empty, .int .i64 0] 8 rfl (by kernel_rfl) (by kernel_rfl) (by kernel_rfl) (by kernel_rfl) (by kernel_rfl) (laid6_metH os _)) ?_
  intro W base args ds gs before hval0 hW _ _ hL _
  have hval : ∀ (j : Nat) t v, Tryz.f5.params[j]? = some t → args[j]? = some v → Value.okWide Tryz.prog W .any base t v := hval0
  have hW' := hW
  obtain ⟨p, q, hA0, hV, rfl, _, _⟩ := hW
  have hA : DataW.TrodAll enc Tryz.prog W 0 (fun _ => true) true Tryz.f5.params.toList args.toList ds p := hA0
  rw [Tryz.params5] at hA hval
  obtain ⟨v0, vs0, d0, ds0, p, q0, hargs, rfl, rfl, h0, r0⟩ := trodAll_cons hA
  obtain ⟨v1, vs1, d1, ds1, p1, q1, rfl, rfl, rfl, h1, r1⟩ := trodAll_cons r0
  obtain ⟨v2, vs2, d2, ds2, p2, q2, rfl, rfl, rfl, h2, r2⟩ := trodAll_cons r1
  obtain ⟨rfl, rfl, rfl⟩ := trodAll_nil r2
  obtain rfl : args = #[v0, v1, v2] := by cases args; simp_all
  obtain ⟨n, a, aU, aN, aW, aM, aL, hn, hE, hE5, hvs⟩ := errs6_of_laid hL
  have vr : ∀ W1 : World, Below W.heap.size W W1 → ∀ sp : Nat → Bool, DataW.TrodVars enc Tryz.prog W1 sp Rows.fnExactElaborateAtSpec.vars [tok enc (.iface 270 (.pointer (some aW))), tok enc (.iface 270 (.pointer (some aU))), tok enc (.iface 270 (.pointer (some a))), tok enc (.iface 270 (.pointer (some aN))), tok enc (.iface 270 (.pointer (some aM))), tok enc (.iface 270 (.pointer (some aL)))] [.cell 2 0, .cell 0 0, .cell 5 0, .cell 1 0, .cell 3 0, .cell 4 0] := fun W1 hb1 sp => vars_cons enc (by kernel_rfl) (by kernel_rfl) Tryz.underlying64 (hvs W1 hb1).2.2.2.2.1 trivial (vars_cons enc (by kernel_rfl) (by kernel_rfl) Tryz.underlying64 (hvs W1 hb1).2.2.2.1 trivial (vars_cons enc (by kernel_rfl) (by kernel_rfl) Tryz.underlying64 (hvs W1 hb1).1 trivial (vars_cons enc (by kernel_rfl) (by kernel_rfl) Tryz.underlying64 (hvs W1 hb1).2.1 trivial (vars_cons enc (by kernel_rfl) (by kernel_rfl) Tryz.underlying64 (hvs W1 hb1).2.2.1 trivial (vars_cons enc (by kernel_rfl) (by kernel_rfl) Tryz.underlying64 (hvs W1 hb1).2.2.2.2.2 trivial ((show DataW.TrodVars enc Tryz.prog W1 sp [] [] [] from rfl)))))))
  obtain ⟨rfl, rfl⟩ := hV.unique (vr W (Below.refl _ _) _)
  obtain ⟨nm, rfl, rfl, rfl, wnm⟩ := Go.ChangeMaps.open_string Tryz.underlying9 (hval 1 _ v1 rfl rfl) h1
  obtain ⟨z, rfl, rfl, rfl, wz⟩ := open_int Tryz.underlying3 (hval 2 _ v2 rfl rfl) h2
  have wz64 : I64 z := by
    have h := wz
    simp [Lit.wf, IntKind.min, IntKind.max, IntKind.signed, IntKind.bits] at h
    unfold I64
    omega
  obtain ⟨sv, cv, fv, t, rfl, ht⟩ := open_syAt (hval 0 _ v0 rfl rfl) h0
  have hlt : ∀ x ∈ p, x.block < W.heap.size := fun x hx => by simpa using hW'.lt x (by simp [hx])
  refine (lawEla_walk sv cv fv t nm z W ht wnm (fun L => (elA t L z).1) (fun L => (elA t L z).2)
    (fun L lo hi s1 c1 f1 w1 _ hm hbk _ hv hB => specElabAt_any lo hi s1 c1 f1 t L z w1 hv hB hm (fun t0 w2 hy hok h60 hv2 hB2 => l7Make_any lo hi s1 c1 f1 t hy hbk (tmT t0).length t0 w2 (Nat.le_refl _) h60 hok hv2 hB2))
    (fun L lo hi s1 c1 f1 w1 _ hm hbk hb hv hB => implElabAt_any lo hi n a aU aN aW aM aL s1 c1 f1 t hbk L z wz64 w1 hv hB (hE.under hb) (hE5.below hb hn) (Nat.le_trans hn hb.size) hm)).mono fun e W' ⟨he, hb⟩ => ?_
  subst he
  exact ⟨_, rfl, _, _, _, [], _, _, hW', trodAll_mk1 (shut_bool Tryz.underlying4 _), trodAll_cons_mk (Below.trod Tryz.laidOut (by kernel_rfl) (of_decide_eq_true (by kernel_rfl)) h0 hb hlt) (trodAll_cons_mk (Go.ChangeMaps.shut_string Tryz.underlying9 wnm) (trodAll_cons_mk (shut_int Tryz.underlying3 wz) trodAll_mk0)), vr W' hb _, hb.frame _, fun h => by cases h⟩
end Go.Proofs.YtgkfddhhkjblgaaGreatDoor

