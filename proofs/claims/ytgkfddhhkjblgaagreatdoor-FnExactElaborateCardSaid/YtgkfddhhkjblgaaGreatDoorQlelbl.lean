/-
  Proved here, the first part: FnExactElaborate returns true for all arguments, each argument reads afterwards as it read before, and so do the package's six errors, which are tied to the program's text.
  Conditions: those of the given card alone.
-/
import Derived.Test.YtgkfddhhkjblgaaGreatDoorQlelb
import Derived.Test.YtgkfddhhkjblgaaGreatDoorB30
import Derived.Test.YtgkfddhhkjblgaaGreatDoorB31
import Derived.Test.YtgkfddhhkjblgaaGreatDoorB19
import Derived.Test.YtgkfddhhkjblgaaGreatDoorTie
import Derived.Test.YtgkfddhhkjblgaaGreatDoorCards
import Derived.Carry
import Derived.JoinedOf
import Derived.SevenTiedAt
import Derived.ChangeMaps
namespace Go.Proofs.YtgkfddhhkjblgaaGreatDoor
open Go.ChangeShapes Go.WideShapes Go.ChangeAt Go.RowKit

set_option maxRecDepth 100000 in
theorem lawElb_lifted (os : Os) (started : os.Started) (H : Type) (enc : TypeId × Value → H) :
    ReturnsInHanded {} Tryz.checked os 3 .any (fun w args => (Rows.fnExactElaborateSpec.pre enc Tryz.prog Tryz.f3 Rows.fnExactElaborateRow.domain false w args ∧ laidMetH Tryz.prog Rows.fnExactElaborateRow.laid w) ∧ sizedMet enc Tryz.prog Tryz.f3 (OpenSpec.ofChange Rows.fnExactElaborateSpec) false w args)
      (Rows.fnExactElaborateSpec.post enc Tryz.prog Tryz.f3 false true false false) := by
  refine returnsInHanded_of_change_and (C := Tryz.checked) (X := fun w _ => laidMetH Tryz.prog Rows.fnExactElaborateRow.laid w) (fun _ _ _ hh h => h.of_heap hh) Tryz.own started (by kernel_rfl) Tryz.func3
    (ChangeSpec.witness_at (enc := enc) (C := Tryz.checked) (os := os) (X := fun w _ => laidMetH Tryz.prog Rows.fnExactElaborateRow.laid w) false (laidWorld6 os) #[.agg #[.slice none 0 0, .slice none 0 0, .slice none 0 0], .string ByteArray.empty] 8 rfl (by kernel_rfl) (by kernel_rfl) (by kernel_rfl) (by kernel_rfl) (by kernel_rfl) (laid6_metH os _)) ?_
  intro W base args ds gs before hval0 hW _ _ hL _
  have hval : ∀ (j : Nat) t v, Tryz.f3.params[j]? = some t → args[j]? = some v → Value.okWide Tryz.prog W .any base t v := hval0
  have hW' := hW
  obtain ⟨p, q, hA0, hV, rfl, _, _⟩ := hW
  have hA : DataW.TrodAll enc Tryz.prog W 0 (fun _ => true) true Tryz.f3.params.toList args.toList ds p := hA0
  rw [Tryz.params3] at hA hval
  obtain ⟨v0, vs0, d0, ds0, p, q0, hargs, rfl, rfl, h0, r0⟩ := trodAll_cons hA
  obtain ⟨v1, vs1, d1, ds1, p1, q1, rfl, rfl, rfl, h1, r1⟩ := trodAll_cons r0
  obtain ⟨rfl, rfl, rfl⟩ := trodAll_nil r1
  obtain rfl : args = #[v0, v1] := by cases args; simp_all
  obtain ⟨n, a, aU, aN, aW, aM, aL, hn, hE, hE5, hvs⟩ := errs6_of_laid hL
  have vr : ∀ W1 : World, Below W.heap.size W W1 → ∀ sp : Nat → Bool, DataW.TrodVars enc Tryz.prog W1 sp Rows.fnExactElaborateSpec.vars [tok enc (.iface 270 (.pointer (some aU))), tok enc (.iface 270 (.pointer (some a))), tok enc (.iface 270 (.pointer (some aN))), tok enc (.iface 270 (.pointer (some aM))), tok enc (.iface 270 (.pointer (some aL))), tok enc (.iface 270 (.pointer (some aW)))] [.cell 0 0, .cell 5 0, .cell 1 0, .cell 3 0, .cell 4 0, .cell 2 0] := fun W1 hb1 sp => vars_cons enc (by kernel_rfl) (by kernel_rfl) Tryz.underlying64 (hvs W1 hb1).2.2.2.1 trivial (vars_cons enc (by kernel_rfl) (by kernel_rfl) Tryz.underlying64 (hvs W1 hb1).1 trivial (vars_cons enc (by kernel_rfl) (by kernel_rfl) Tryz.underlying64 (hvs W1 hb1).2.1 trivial (vars_cons enc (by kernel_rfl) (by kernel_rfl) Tryz.underlying64 (hvs W1 hb1).2.2.1 trivial (vars_cons enc (by kernel_rfl) (by kernel_rfl) Tryz.underlying64 (hvs W1 hb1).2.2.2.2.2 trivial (vars_cons enc (by kernel_rfl) (by kernel_rfl) Tryz.underlying64 (hvs W1 hb1).2.2.2.2.1 trivial ((show DataW.TrodVars enc Tryz.prog W1 sp [] [] [] from rfl)))))))
  obtain ⟨rfl, rfl⟩ := hV.unique (vr W (Below.refl _ _) _)
  obtain ⟨nm, rfl, rfl, rfl, wnm⟩ := Go.ChangeMaps.open_string Tryz.underlying9 (hval 1 _ v1 rfl rfl) h1
  obtain ⟨sv, cv, fv, t, rfl, ht⟩ := open_syAt (hval 0 _ v0 rfl rfl) h0
  have hlt : ∀ x ∈ p, x.block < W.heap.size := fun x hx => by simpa using hW'.lt x (by simp [hx])
  refine (lawElb_walk sv cv fv t nm W ht wnm (fun L => (elT t L).1) (fun L => (elT t L).2.1) (fun L => (elT t L).2.2)
    (fun L lo hi s1 c1 f1 w1 _ hm hbk _ hv hB => specElab_any lo hi s1 c1 f1 t L w1 hv hB hm (fun t0 w2 hy hok h60 hv2 hB2 => l7Make_any lo hi s1 c1 f1 t hy hbk (tmT t0).length t0 w2 (Nat.le_refl _) h60 hok hv2 hB2))
    (fun L lo hi s1 c1 f1 w1 _ hm hbk hb hv hB => implElab_any lo hi n a aU aN aW aM aL s1 c1 f1 t hbk L w1 hv hB (hE.under hb) (hE5.below hb hn) (Nat.le_trans hn hb.size) hm)).mono fun e W' ⟨he, hb⟩ => ?_
  subst he
  exact ⟨_, rfl, _, _, _, [], _, _, hW', trodAll_mk1 (shut_bool Tryz.underlying4 _), trodAll_cons_mk (Below.trod Tryz.laidOut (by kernel_rfl) (of_decide_eq_true (by kernel_rfl)) h0 hb hlt) (trodAll_cons_mk (Go.ChangeMaps.shut_string Tryz.underlying9 wnm) trodAll_mk0), vr W' hb _, hb.frame _, fun h => by cases h⟩
end Go.Proofs.YtgkfddhhkjblgaaGreatDoor

