/-
  The contracts of ApplyCoercion, the program's and the model's.
-/
import Derived.Test.YtplpnammboofiaaSlow
import Derived.Test.YtplpnammboofiaaHas
import Derived.Deep.RegionHeld3
import Derived.BigQuiet
namespace Go.Proofs.Ytplpnammboofiaa
open Go.RowKit

/-- A world of a class. -/
structure InC (D : World → Prop) where
  val : World
  inD : D val
/-- A region that draws its order, every operation of which yields one value in every world of a class and leaves a world of the class: one walk serves every order. -/
theorem wp_region_class {P : Program} (D : World → Prop) {id : Nat} {Q : Exit → Act → World → Prop} {a : Act} {w : World} {l : List Oper} (hm : P.follows .mixedOrders = true) (hB : Region.lexB .any l.toArray = true) (hD : D w.drew)
    (h : wpQuiet P l.toArray (fun w' => ∃ x : InC D, w' = x.val) (fun a' => ∀ w', (∃ x : InC D, w' = x.val) → Q .normal a' w') l a) : (Code.region id l.toArray true).wp P Q a w :=
  wp_region_quiet (C := fun w' => ∃ x : InC D, w' = x.val) hm hB ⟨⟨_, hD⟩, rfl⟩ (by simpa using h)

theorem lookOf_in {zs : List Int} {v : Int} (h0 : 0 ≤ v) (h : v.toNat < zs.length) : lookOf zs v = zs[v.toNat] := by
  unfold lookOf
  rw [if_pos ⟨h0, by omega⟩, List.getD_eq_getElem?_getD, List.getElem?_eq_getElem h]; rfl

/-- Are the types valid, and is there such a coercion? -/
def hasC (t : Ty) (i : Int) : Bool := tyOk t && ixB i t.cos.length
theorem hasC_of {t : Ty} {i : Int} (h : hasC t i = true) : tyOk t = true ∧ 0 ≤ i ∧ i < t.cos.length ∧ i.toNat < t.cos.length := by
  simp only [hasC, Bool.and_eq_true, ixB, decide_eq_true_eq] at h
  exact ⟨h.1, h.2.1, h.2.2, by omega⟩
theorem hasC_co {t : Ty} {i : Int} (h : hasC t i = true) (hi : i.toNat < t.cos.length) : coOk t.sizes t.cos[i.toNat] = true := by
  have h1 := (hasC_of h).1
  simp only [tyOk, Bool.and_eq_true, List.all_eq_true] at h1
  exact h1.2 _ (List.getElem_mem hi)
/-- What a coercion makes of a value. -/
def applyV (t : Ty) (i v : Int) : Int := if hasC t i = true then lookOf (t.cos.getD i.toNat default).map v else -1
theorem applyV_no {t : Ty} {i v : Int} (h : hasC t i = false) : applyV t i v = -1 := by unfold applyV; rw [h]; rfl
theorem applyV_yes {t : Ty} {i v : Int} (h : hasC t i = true) (hi : i.toNat < t.cos.length) : applyV t i v = lookOf t.cos[i.toNat].map v := by
  unfold applyV; rw [if_pos h, List.getD_eq_getElem?_getD, List.getElem?_eq_getElem hi]; rfl

set_option maxRecDepth 100000 in
set_option maxHeartbeats 1000000 in
theorem images_any (a b c : Value) (w : World) :
    Calls Try.prog 67 #[.agg #[a, b, c]] w fun e w' => e = .returned (.pointer (some ⟨w.heap.size + 1, 0, none⟩)) ∧
      (w.alloc (.cells #[a, b, c] 28)).alloc (.cells [a, b, c, .int .u32 0, .int .i32 0, .int .u32 0, .int .i64 0, .int .i64 0, .int .i64 0, .int .i64 0].toArray 115) = w' := by
  go_enter Try.func67, Try.ntmps67
  go_wp2
  go_ret
  exact ⟨rfl, rfl⟩

set_option maxRecDepth 100000 in
set_option maxHeartbeats 1000000 in
theorem hasCoercion_any (lo hi : Nat) (sv cv : Value) (t : Ty) (i : Int) (w : World) (hv : TyAt w lo hi sv cv t) (hB : hi ≤ w.heap.size) :
    Calls Try.prog 44 #[.agg #[sv, cv], .int .i64 i] w fun e w' => e = .returned (.bool (hasC t i)) ∧ Below w.heap.size w w' := by
  obtain ⟨A, cap, rfl, hl1, hm1, _⟩ := hv.1.form
  obtain ⟨B, bap, rfl, hl2, hm2, _⟩ := hv.2.form
  unfold maxLen at hm2
  have h3 : Below w.heap.size w (w.alloc (.cells #[.slice A t.sizes.length cap, .slice B t.cos.length bap] 26)) := by go_grown
  have hv3 := Lib.hid (hv.below h3 hB)
  clear hv
  go_enter Try.func44, Try.ntmps44
  go_wp2_with fail
  refine (implValid_any lo hi _ _ t _ hv3.out (by simp; omega)).mono ?_
  rintro e w1 ⟨rfl, hb1⟩
  have H1 := Lib.hid (box2 (hb1.mono (by simp)))
  obtain ⟨q0, q1, hl, _⟩ := box2 (hb1.mono (by simp))
  clear hb1
  by_cases hok : tyOk t = true
  · have hfin : Hid (hasC t i = ixB i t.cos.length) := by show hasC t i = _; unfold hasC; rw [hok, Bool.true_and]
    rw [hok]
    go_wp2_with (go_at_call 61; refine (isIndex_any _ _ _).mono ?_; rintro e w' ⟨rfl, rfl⟩)
    go_ret
    exact ⟨ret_bool (by rw [hfin.out]), H1.out.2.2.2⟩
  · have hokf : tyOk t = false := by simpa using hok
    have hfin : Hid (hasC t i = false) := by show hasC t i = _; unfold hasC; rw [hokf, Bool.false_and]
    rw [hokf]
    clear hok
    go_wp2
    go_ret
    exact ⟨ret_bool hfin.out.symm, H1.out.2.2.2⟩

set_option maxRecDepth 100000 in
set_option maxHeartbeats 2000000 in
theorem implApply_any (lo hi : Nat) (sv cv : Value) (t : Ty) (i v : Int) (w : World) (hv : TyAt w lo hi sv cv t) (hB : hi ≤ w.heap.size) :
    Calls Try.prog 27 #[.agg #[sv, cv], .int .i64 i, .int .i64 v] w fun e w' => e = .returned (.int .i64 (applyV t i v)) ∧ Below w.heap.size w w' := by
  obtain ⟨A, cap, rfl, hl1, hm1, _⟩ := hv.1.form
  obtain ⟨B, bap, rfl, hl2, hm2, hc1⟩ := hv.2.form
  have h3 : Below w.heap.size w (w.alloc (.cells #[.slice A t.sizes.length cap, .slice B t.cos.length bap] 26)) := by go_grown
  have hv3 := Lib.hid (hv.below h3 hB)
  have Hc1 := Lib.hid hc1
  clear hv hc1
  go_enter Try.func27, Try.ntmps27
  go_wp2_with fail
  refine (hasCoercion_any lo hi _ _ t i _ hv3.out (by simp; omega)).mono ?_
  rintro e w1 ⟨rfl, hb1⟩
  have H1 := Lib.hid (box2 (hb1.mono (by simp)))
  obtain ⟨q0, q1, hl, _⟩ := box2 (hb1.mono (by simp))
  clear hb1
  by_cases hok : hasC t i = true
  · obtain ⟨hty, hi0, hi1, hlt⟩ := hasC_of hok
    have hfin := Lib.hid (applyV_yes (v := v) hok hlt)
    have hco := coOk_of (hasC_co hok hlt)
    have hsz := sizesOk_of (tyOk_sizes hty)
    obtain ⟨b, off, A2, cap2, rfl, hlo, hhi, c0, c1, c2, h5, h6, hs, hd, hz⟩ := (Hc1.out.below H1.out.2.2.2 hB).at_ hlt
    have hsrc : t.cos[i.toNat].src.toNat < t.sizes.length := by omega
    have hsr := hsz.2.2 _ hsrc
    have hml := hco.2.2.2.1
    rw [List.getD_eq_getElem?_getD, List.getElem?_eq_getElem hsrc] at hml
    simp only [Option.getD_some] at hml
    have hn4 : t.cos[i.toNat].map.length ≤ 4 := by omega
    have hpos : 0 < t.cos[i.toNat].map.length := by omega
    have Hz := Lib.hid hz
    rw [hok]
    clear hml hsr hsz hco hok hty hz
    go_wp2_with fail
    refine (images_any _ _ _ _).mono ?_
    rintro e w2 ⟨rfl, rfl⟩
    have hb2 : Below w1.heap.size w1 ((w1.alloc (.cells #[.int .i64 t.cos[i.toNat].src, .int .i64 t.cos[i.toNat].dst, .slice A2 t.cos[i.toNat].map.length cap2] 28)).alloc (.cells [.int .i64 t.cos[i.toNat].src, .int .i64 t.cos[i.toNat].dst, .slice A2 t.cos[i.toNat].map.length cap2, .int .u32 0, .int .i32 0, .int .u32 0, .int .i64 0, .int .i64 0, .int .i64 0, .int .i64 0].toArray 115)) := by go_grown
    have hr2 := Row.new (w1.alloc (.cells #[.int .i64 t.cos[i.toNat].src, .int .i64 t.cos[i.toNat].dst, .slice A2 t.cos[i.toNat].map.length cap2] 28)) 115 [.int .i64 t.cos[i.toNat].src, .int .i64 t.cos[i.toNat].dst, .slice A2 t.cos[i.toNat].map.length cap2, .int .u32 0, .int .i32 0, .int .u32 0, .int .i64 0, .int .i64 0, .int .i64 0, .int .i64 0]
    rw [World.size_alloc] at hr2
    have hz2 := Hz.out.below hb2 (by omega)
    have Hb2 := Lib.hid hb2
    have Hr2 := Lib.hid hr2
    have Hz2 := Lib.hid hz2
    clear hb2 hr2 hz2
    go_wp2_with fail
    refine (of_first lo hi (w1.heap.size + 1) _ _ _ _ _ _ _ A2 cap2 t.cos[i.toNat].map v _ Hr2.out Hz2.out (by omega) hn4 hpos).mono ?_
    rintro e w3 ⟨rfl, hk3, _⟩
    have hb3 : Below w1.heap.size w1 w3 := Hb2.out.trans (hk3.below (by simp; omega) (fun k hk => by omega))
    have Hb3 := Lib.hid hb3
    clear hk3 hb3
    go_wp2
    go_ret
    exact ⟨ret_int hfin.out.symm, H1.out.2.2.2.trans (Hb3.out.mono (by omega))⟩
  · have hokf : hasC t i = false := by simpa using hok
    have hfin := Lib.hid (applyV_no (v := v) hokf)
    rw [hokf]
    clear hok hokf
    go_wp2
    go_ret
    exact ⟨ret_int hfin.out.symm, H1.out.2.2.2⟩
end Go.Proofs.Ytplpnammboofiaa
