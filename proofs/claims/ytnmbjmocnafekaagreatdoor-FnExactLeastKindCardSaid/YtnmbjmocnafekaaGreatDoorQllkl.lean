/-
  Proved here, the first part: FnExactLeastKind returns true for all arguments, each argument reads afterwards as it read before, and so does the package's error of reading texts, which is tied to the program's text.
  Conditions: those of the given card alone.
-/
import Derived.Test.YtnmbjmocnafekaaGreatDoorQllk
import Derived.Test.YtnmbjmocnafekaaGreatDoorE27
import Derived.Test.YtnmbjmocnafekaaGreatDoorQilk
import Derived.Test.YtnmbjmocnafekaaGreatDoorQslk
import Derived.Test.YtnmbjmocnafekaaGreatDoorQlaidl
import Derived.Test.YtnmbjmocnafekaaGreatDoorE24
import Derived.Test.YtnmbjmocnafekaaGreatDoorE28
import Derived.Test.YtnmbjmocnafekaaGreatDoorTie
import Derived.Test.YtnmbjmocnafekaaGreatDoorCards
import Derived.Carry
import Derived.JoinedOf
import Derived.SevenTiedAt
import Derived.ChangeMaps
namespace Go.Proofs.YtnmbjmocnafekaaGreatDoor
open Go.ChangeShapes Go.WideShapes Go.ChangeAt Go.RowKit

set_option maxRecDepth 100000 in
theorem lawLlk_lifted (os : Os) (started : os.Started) (H : Type) (enc : TypeId × Value → H) :
    ReturnsInHanded {} Tryz.checked os 7 .any (fun w args => (Rows.fnExactLeastKindSpec.pre enc Tryz.prog Tryz.f7 Rows.fnExactLeastKindRow.domain false w args ∧ laidMetH Tryz.prog Rows.fnExactLeastKindRow.laid w) ∧ sizedMet enc Tryz.prog Tryz.f7 (OpenSpec.ofChange Rows.fnExactLeastKindSpec) false w args)
      (Rows.fnExactLeastKindSpec.post enc Tryz.prog Tryz.f7 false true false false) := by
  refine returnsInHanded_of_change_and (C := Tryz.checked) (X := fun w _ => laidMetH Tryz.prog Rows.fnExactLeastKindRow.laid w) (fun _ _ _ hh h => h.of_heap hh) Tryz.own started (by kernel_rfl) Tryz.func7
    (ChangeSpec.witness_at (enc := enc) (C := Tryz.checked) (os := os) (X := fun w _ => laidMetH Tryz.prog Rows.fnExactLeastKindRow.laid w) false (laidWorld os) #[.agg #[.slice none 0 0, .slice none 0 0, .slice none 0 0], .string ByteArray.empty] 8 rfl (by kernel_rfl) (by kernel_rfl) (by kernel_rfl) (by kernel_rfl) (by kernel_rfl) (laid_metH os _)) ?_
  intro W base args ds gs before hval0 hW _ _ hL _
  have hval : ∀ (j : Nat) t v, Tryz.f7.params[j]? = some t → args[j]? = some v → Value.okWide Tryz.prog W .any base t v := hval0
  have hW' := hW
  obtain ⟨p, q, hA0, hV, rfl, _, _⟩ := hW
  have hA : DataW.TrodAll enc Tryz.prog W 0 (fun _ => true) true Tryz.f7.params.toList args.toList ds p := hA0
  rw [Tryz.params7] at hA hval
  obtain ⟨v0, vs0, d0, ds0, p, q0, hargs, rfl, rfl, h0, r0⟩ := trodAll_cons hA
  obtain ⟨v1, vs1, d1, ds1, p1, q1, rfl, rfl, rfl, h1, r1⟩ := trodAll_cons r0
  obtain ⟨rfl, rfl, rfl⟩ := trodAll_nil r1
  obtain rfl : args = #[v0, v1] := by cases args; simp_all
  obtain ⟨n, a0, hn, hE, vr⟩ := errs_of_laid enc hL
  obtain ⟨rfl, rfl⟩ := hV.unique (vr W (Below.refl _ _) _)
  obtain ⟨nm, rfl, rfl, rfl, wnm⟩ := Go.ChangeMaps.open_string Tryz.underlying9 (hval 1 _ v1 rfl rfl) h1
  obtain ⟨sv, cv, fv, t, rfl, ht⟩ := open_syAt (hval 0 _ v0 rfl rfl) h0
  have hlt : ∀ x ∈ p, x.block < W.heap.size := fun x hx => by simpa using hW'.lt x (by simp [hx])
  refine (lawLlk_walk sv cv fv t nm W ht wnm (fun L => lstK (canB t.ty) (kdL t L))
    (fun L lo hi s1 c1 f1 w1 _ hm hbk _ hv hB => specLeastK_any lo hi s1 c1 f1 t (str L) (kdL t L) w1 hv hB (kdL_mem t L) (kdL_few t L) fun u hu => specKinds_any lo hi s1 c1 f1 t hbk L u (hv.below hu hB) (Nat.le_trans hB hu.size) hm)
    (fun L lo hi s1 c1 f1 w1 _ hm hbk hb hv hB => implLeastK_any lo hi s1 c1 f1 t (str L) (kdL t L) w1 hv hB (kdL_mem t L) (kdL_few t L) fun u hu => implKinds_any lo hi n a0 s1 c1 f1 t hbk L u (hv.below hu hB) (Nat.le_trans hB hu.size) ((hE.under hb).under hu) (Nat.le_trans (Nat.le_trans hn hb.size) hu.size) hm)).mono fun e W' ⟨he, hb⟩ => ?_
  subst he
  exact ⟨_, rfl, _, _, _, [], _, _, hW', trodAll_mk1 (shut_bool Tryz.underlying4 _), trodAll_cons_mk (Below.trod Tryz.laidOut (by kernel_rfl) (of_decide_eq_true (by kernel_rfl)) h0 hb hlt) (trodAll_cons_mk (Go.ChangeMaps.shut_string Tryz.underlying9 wnm) trodAll_mk0), vr W' hb _, hb.frame _, fun h => by cases h⟩
end Go.Proofs.YtnmbjmocnafekaaGreatDoor

