/-
  Proved here: FnPutLiteral returns true for all arguments, each argument reads afterwards as it read before, and so does the package's error of reading texts, which is tied to the program's text.
  Conditions: those of the given card alone.
-/
import Derived.Test.YtcecljolnknapaaDoorLplt
import Derived.Test.YtcecljolnknapaaDoorLaidp
import Derived.Test.YtcecljolnknapaaDoorTie
import Derived.Test.YtcecljolnknapaaDoorCards
import Derived.Carry
import Derived.JoinedOf
import Derived.SevenTiedAt
import Derived.ChangeMaps
namespace Go.Proofs.YtcecljolnknapaaDoor
open Go.ChangeShapes Go.WideShapes Go.ChangeAt Go.RowKit

set_option maxRecDepth 100000 in
theorem lawPlt_lifted (os : Os) (started : os.Started) (H : Type) (enc : TypeId × Value → H) :
    ReturnsInHanded {} Tryd.checked os 15 .any (fun w args => (Rows.fnPutLiteralSpec.pre enc Tryd.prog Tryd.f15 Rows.fnPutLiteralRow.domain false w args ∧ laidMetH Tryd.prog Rows.fnPutLiteralRow.laid w) ∧ sizedMet enc Tryd.prog Tryd.f15 (OpenSpec.ofChange Rows.fnPutLiteralSpec) false w args)
      (Rows.fnPutLiteralSpec.post enc Tryd.prog Tryd.f15 false true false false) := by
  refine returnsInHanded_of_change_and (C := Tryd.checked) (X := fun w _ => laidMetH Tryd.prog Rows.fnPutLiteralRow.laid w) (fun _ _ _ hh h => h.of_heap hh) Tryd.own started (by kernel_rfl) Tryd.func15
    (ChangeSpec.witness_at (enc := enc) (C := Tryd.checked) (os := os) (X := fun w _ => laidMetH Tryd.prog Rows.fnPutLiteralRow.laid w) false (laidWorld4 os) #[.slice none 0 0, .slice none 0 0] 8 rfl (by kernel_rfl) (by kernel_rfl) (by kernel_rfl) (by kernel_rfl) (by kernel_rfl) (laid4_metH os _)) ?_
  intro W base args ds gs before hval0 hW _ _ hL _
  have hval : ∀ (j : Nat) t v, Tryd.f15.params[j]? = some t → args[j]? = some v → Value.okWide Tryd.prog W .any base t v := hval0
  have hW' := hW
  obtain ⟨p, q, hA0, hV, rfl, _, _⟩ := hW
  have hA : DataW.TrodAll enc Tryd.prog W 0 (fun _ => true) true Tryd.f15.params.toList args.toList ds p := hA0
  rw [Tryd.params15] at hA hval
  obtain ⟨v0, vs0, d0, ds0, p0, q0, hargs, rfl, rfl, h0, r0⟩ := trodAll_cons hA
  obtain ⟨v1, vs1, d1, ds1, p1, q1, rfl, rfl, rfl, h1, r1⟩ := trodAll_cons r0
  obtain ⟨rfl, rfl, rfl⟩ := trodAll_nil r1
  obtain rfl : args = #[v0, v1] := by cases args; simp_all
  have hL' : laidMetH Tryd.prog Rows.fnExactTermValidRow.laid W := (show laidMet Tryd.prog Rows.fnPutLiteralRow.laid W from hL).tail.tail.tail
  obtain ⟨n, a, hn, hE, vr⟩ := errs_of_laid enc hL'
  obtain ⟨rfl, rfl⟩ := hV.unique (vr W (Below.refl _ _) _)
  obtain ⟨a1, len1, cap1, rfl⟩ := okWide_slice Tryd.underlying37 (hval 0 _ v0 rfl rfl)
  have hh0 := h0
  obtain ⟨fuel0, hf0⟩ := hh0
  have hcode := open_codeAt (v := .slice a1 len1 cap1) (by simpa [Value.cells] using hf0)
  have hlt0 : ∀ x ∈ p0, x.block < W.heap.size := fun x hx => by simpa using hW'.lt x (by simp [hx])
  obtain ⟨a2, len2, cap2, rfl⟩ := okWide_slice Tryd.underlying37 (hval 1 _ v1 rfl rfl)
  have hh1 := h1
  obtain ⟨fuel1, hf1⟩ := hh1
  have hcode1 := open_codeAt (v := .slice a2 len2 cap2) (by simpa [Value.cells] using hf1)
  have hlt1 : ∀ x ∈ p1, x.block < W.heap.size := fun x hx => by simpa using hW'.lt x (by simp [hx])
  refine (lawPlt_walk _ _ n a W hE hn hcode hcode1).mono fun e W' ⟨he, hb⟩ => ?_
  subst he
  exact ⟨_, rfl, _, _, _, [], _, _, hW', trodAll_mk1 (shut_bool Tryd.underlying4 _), trodAll_cons_mk (Below.trod Tryd.laidOut (by kernel_rfl) (of_decide_eq_true (by kernel_rfl)) h0 hb hlt0) (trodAll_cons_mk (Below.trod Tryd.laidOut (by kernel_rfl) (of_decide_eq_true (by kernel_rfl)) h1 hb hlt1) trodAll_mk0), vr W' hb _, hb.frame _, fun h => by cases h⟩

theorem plt_row : Rows.FnPutLiteralSaid :=
  OpenClaim.holds_of_wide 15 Tryd.f15 rfl rfl rfl rfl rfl rfl rfl ⟨rfl, rfl, rfl, rfl, rfl⟩ rfl rfl rfl rfl rfl (by kernel_rfl) Tryd.func15 (by kernel_rfl)
    (of_decide_eq_true (by kernel_rfl)) (by unfold Func.isWrapper; first | (rw [if_pos (by decide +kernel)]; kernel_rfl) | (rw [if_neg (by decide +kernel)]; exact ⟨rfl, rfl⟩))
    (fun os started H enc _ => lawPlt_lifted os started H enc)

theorem plt_holds : Rows.FnPutLiteralCardSaid :=
  Claim7.holds_tied_plain_at .later [] [.data, .data, .data, .sentinel] true Rows.fnPutLiteralCard.stood.harness true
    plt_row (fun _ h => by cases h) (by kernel_rfl) (fun _ h => by cases h) fnPutLiteral_row_tie rfl ⟨rfl, rfl⟩ (by kernel_rfl) rfl
    (fun f fn hf hfn => by
      obtain rfl : f = 15 := Option.some.inj ((show Tryd.prog.funcNamed Rows.fnPutLiteralRow.func = some 15 by kernel_rfl).symm.trans hf) |>.symm
      obtain rfl : fn = Tryd.f15 := (Option.some.inj (Tryd.func15.symm.trans hfn)).symm
      exact ⟨by kernel_rfl, fun j t ht => by
        rw [Tryd.params15] at ht
        have h3 : t = 37 := by
          rcases j with _ | _ | j
          · simp at ht; exact ht.symm
          · simp at ht; exact ht.symm
          · simp at ht
        rcases h3 with rfl
        exact (show Tryd.prog.wantsStandIn 37 = false by kernel_rfl)⟩)
    (by kernel_rfl)
end Go.Proofs.YtcecljolnknapaaDoor
