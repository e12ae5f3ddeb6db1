/-
  A region that draws its order, by an invariant over what has been done: one obligation for each operation.
  A region that draws its order, each of whose operations sets one slot to one value: what holds by what has been done.
  A region that draws its order, some of whose operations, a chain, turn the world one after the other: what holds by what has been done.
  The contracts of the program's isFunctionName, areIndices and fits of a function.
-/
import Derived.WalkKit
import Derived.Test.YthldlbbkbbgdkaaGreatDoorK1
import Derived.Test.YthldlbbkbbgdkaaGreatDoorK2b
import Derived.Test.YthldlbbkbbgdkaaGreatDoorK2
namespace Go.Proofs.YthldlbbkbbgdkaaGreatDoor
open Go.RowKit

section
variable {P : Program} {ops : Array Oper} {Q : Exit → Act → World → Prop}

def openCount : List Bool → Nat
  | [] => 0
  | b :: bs => (if b then 0 else 1) + openCount bs
theorem openCount_set : ∀ (l : List Bool) (i : Nat), l[i]? = some false → openCount (l.set i true) + 1 = openCount l := by
  intro l
  induction l with
  | nil => intro i h; simp at h
  | cons b bs ih =>
    intro i h
    cases i with
    | zero =>
      simp at h
      subst h
      simp [openCount]
      omega
    | succ i =>
      simp at h
      have := ih i h
      simp only [List.set_cons_succ, openCount]
      omega
theorem openCount_zero : ∀ (l : List Bool), openCount l = 0 → ∀ b ∈ l, b = true := by
  intro l
  induction l with
  | nil => intro _ b hb; cases hb
  | cons c cs ih =>
    intro h b hb
    cases c with
    | false => simp [openCount] at h
    | true =>
      simp only [openCount, if_true, Nat.zero_add] at h
      rcases List.mem_cons.1 hb with rfl | hb
      · rfl
      · exact ih h b hb

/-- What may come up: it has not been done, and all that binds it has. -/
theorem ready_of {listed : Array Bool} {i : Nat} (h : i ∈ Region.ready .any ops listed) : i < ops.size ∧ listed.getD i true = false ∧ ∃ o, ops[i]? = some o ∧ ∀ e ∈ o.after, Region.binds .any e = true → listed.getD e.on false = true := by
  unfold Region.ready at h
  rw [List.mem_filter] at h
  obtain ⟨h1, h2⟩ := h
  have h1 := List.mem_range.1 h1
  simp only [Bool.and_eq_true, Bool.not_eq_true'] at h2
  obtain ⟨h2, h3⟩ := h2
  refine ⟨h1, h2, ops[i], Array.getElem?_eq_getElem h1, fun e he hb => ?_⟩
  rw [Array.getElem?_eq_getElem h1] at h3
  simp only [Option.map_some, Option.getD_some] at h3
  rw [Array.all_eq_true'] at h3
  have := h3 e he
  simpa [hb] using this
theorem ready_mk {listed : Array Bool} {i : Nat} (h1 : i < ops.size) (h2 : listed.getD i true = false) (h3 : ∀ e ∈ ops[i].after, Region.binds .any e = true → listed.getD e.on false = true) : i ∈ Region.ready .any ops listed := by
  unfold Region.ready
  rw [List.mem_filter]
  refine ⟨List.mem_range.2 h1, ?_⟩
  simp only [Bool.and_eq_true, Bool.not_eq_true']
  refine ⟨h2, ?_⟩
  rw [Array.getElem?_eq_getElem h1]
  simp only [Option.map_some, Option.getD_some]
  rw [Array.all_eq_true']
  intro e he
  cases hb : Region.binds .any e with
  | false => simp
  | true => simp [h3 e he hb]
theorem all_done {listed : Array Bool} (hs : listed.size = ops.size) (hd : ∀ i, ∀ (h : i < ops.size), ∀ e ∈ ops[i].after, Region.binds .any e = true → e.on < i) (hr : Region.ready .any ops listed = []) : ∀ i, i < ops.size → listed.getD i false = true := by
  intro i
  induction i using Nat.strongRecOn with
  | _ i ih =>
    intro hi
    have hl : i < listed.size := by omega
    by_cases h : listed.getD i true = true
    · simpa [Array.getD, hl] using h
    · have hf : listed.getD i true = false := by simpa using h
      have hm := ready_mk (listed := listed) hi hf fun e he hb => ih e.on (hd i hi e he hb) (by have := hd i hi e he hb; omega)
      rw [hr] at hm
      cases hm

theorem wpAny_inv (Inv : (Nat → Bool) → Act → World → Prop) (hd : ∀ i, ∀ (h : i < ops.size), ∀ e ∈ ops[i].after, Region.binds .any e = true → e.on < i)
    (hstep : ∀ (f : Nat → Bool) a w i o, ops[i]? = some o → f i = false → (∀ e ∈ o.after, Region.binds .any e = true → f e.on = true) → Inv f a w → wpOp P ops Q i (Inv fun k => decide (k = i) || f k) a w)
    (hend : ∀ f a w, (∀ k, k < ops.size → f k = true) → Inv f a w → Q .normal a w) :
    ∀ (fuel : Nat) (listed : Array Bool) (a : Act) (w : World), listed.size = ops.size → openCount listed.toList ≤ fuel → Inv (fun k => listed.getD k false) a w → wpAny P .any ops Q fuel listed a w := by
  intro fuel
  induction fuel with
  | zero =>
    intro listed a w hs hf hI
    have hall := openCount_zero listed.toList (by omega)
    have hr : Region.ready .any ops listed = [] := by
      rw [List.eq_nil_iff_forall_not_mem]
      intro i hi
      obtain ⟨h1, h2, _⟩ := ready_of hi
      have hl : i < listed.size := by omega
      have h3 : listed[i] = false := by simpa [Array.getD, hl] using h2
      have h4 := hall listed[i] (by simp)
      rw [h3] at h4
      cases h4
    exact ⟨hr, hend _ a w (all_done hs hd hr) hI⟩
  | succ fuel ih =>
    intro listed a w hs hf hI
    refine ⟨fun hr => hend _ a w (all_done hs hd hr) hI, fun i hi => ?_⟩
    obtain ⟨h1, h2, o, ho, h3⟩ := ready_of hi
    have hl : i < listed.size := by omega
    have h4 : listed[i] = false := by simpa [Array.getD, hl] using h2
    refine wpOp_mono (fun a' w' hI' => ih (listed.setIfInBounds i true) a' w' (by simpa using hs) ?_ ?_) (hstep _ a w i o ho (by simp [Array.getD, hl, h4]) h3 hI)
    · have := openCount_set listed.toList i (by simp [hl, h4])
      simp only [Array.toList_setIfInBounds]
      omega
    · have e : (fun k => decide (k = i) || listed.getD k false) = fun k => (listed.setIfInBounds i true).getD k false := by
        funext k
        by_cases hk : k = i
        · subst hk
          simp [Array.getD, hl]
        · have hk' : ¬ i = k := fun h => hk h.symm
          by_cases hkl : k < listed.size
          · simp [Array.getD, hk, hk', hkl]
          · simp [Array.getD, hk, hkl]
      rw [← e]
      exact hI'

/-- A region that draws its order, by an invariant over what has been done. -/
theorem wp_region_inv {id : Nat} {a : Act} {w : World} (hm : P.follows .mixedOrders = true) (Inv : (Nat → Bool) → Act → World → Prop) (hd : ∀ i, ∀ (h : i < ops.size), ∀ e ∈ ops[i].after, Region.binds .any e = true → e.on < i)
    (h0 : Inv (fun _ => false) a w.drew)
    (hstep : ∀ (f : Nat → Bool) a w i o, ops[i]? = some o → f i = false → (∀ e ∈ o.after, Region.binds .any e = true → f e.on = true) → Inv f a w → wpOp P ops Q i (Inv fun k => decide (k = i) || f k) a w)
    (hend : ∀ f a w, (∀ k, k < ops.size → f k = true) → Inv f a w → Q .normal a w) : (Code.region id ops true).wp P Q a w := by
  refine wp_region_any hm (wpAny_inv Inv hd hstep hend _ _ a _ (by simp) ?_ ?_)
  · have key : ∀ n, openCount (List.replicate n false) = n := by
      intro n
      induction n with
      | zero => rfl
      | succ n ih => simp only [List.replicate_succ, openCount, ih]; simp; omega
    rw [Array.toList_replicate, key]
    exact Nat.le_refl _
  · have e : (fun k => (Array.replicate ops.size false).getD k false) = fun _ => false := by
      funext k
      by_cases hk : k < ops.size
      · simp [Array.getD, hk]
      · simp [Array.getD, hk]
    rw [e]
    exact h0
/-- The same, where the invariant may name the frame that the region begins with. -/
theorem wp_region_inv_at {id : Nat} {a : Act} {w : World} (hm : P.follows .mixedOrders = true) (Inv : Act → (Nat → Bool) → Act → World → Prop) (hd : ∀ i, ∀ (h : i < ops.size), ∀ e ∈ ops[i].after, Region.binds .any e = true → e.on < i)
    (h0 : Inv a (fun _ => false) a w.drew)
    (hstep : ∀ (f : Nat → Bool) a' w i o, ops[i]? = some o → f i = false → (∀ e ∈ o.after, Region.binds .any e = true → f e.on = true) → Inv a f a' w → wpOp P ops Q i (Inv a fun k => decide (k = i) || f k) a' w)
    (hend : ∀ f a' w, (∀ k, k < ops.size → f k = true) → Inv a f a' w → Q .normal a' w) : (Code.region id ops true).wp P Q a w :=
  wp_region_inv hm (Inv a) hd h0 hstep hend
end
end Go.Proofs.YthldlbbkbbgdkaaGreatDoor

namespace Go.Proofs.YthldlbbkbbgdkaaGreatDoor
open Go.RowKit

theorem det_yes {c : Bool} {A B : Prop} (h : c = true) (ha : A) : if c = true then A else B := by rw [if_pos h]; exact ha
/-- Vs: what the slots hold in the end; xs: what they hold now; f: which operations have been done. -/
structure Det (N : Nat) (w0 : World) (Vs : List Value) (f : Nat → Bool) (xs : List Value) (u : World) : Prop where
  bel : Below N w0 u
  len : xs.length = Vs.length
  at_ : ∀ k, f k = true → xs[k]? = Vs[k]?
section
variable {N : Nat} {w0 u : World} {Vs xs : List Value} {f : Nat → Bool}
theorem Det.start (_hN : N ≤ w0.heap.size) (hl : xs.length = Vs.length) : Det N w0 Vs (fun _ => false) xs w0.drew :=
  ⟨(Below.refl _ _).drew, hl, fun k h => by cases h⟩
theorem Det.step (h : Det N w0 Vs f xs u) (i : Nat) {v : Value} (hv : Vs[i]? = some v) {u' : World} (hb : Below N u u') : Det N w0 Vs (fun k => decide (k = i) || f k) (xs.set i v) u' := by
  refine ⟨h.bel.trans hb, by rw [List.length_set]; exact h.len, fun k hk => ?_⟩
  by_cases e : k = i
  · subst e
    have hl : k < xs.length := by
      rw [h.len]
      exact (List.getElem?_eq_some_iff.1 hv).1
    rw [List.getElem?_set_self hl, hv]
  · rw [List.getElem?_set_ne (fun e' => e e'.symm)]
    exact h.at_ k (by simpa [e] using hk)
theorem Det.same (h : Det N w0 Vs f xs u) (i : Nat) {v : Value} (hv : Vs[i]? = some v) : Det N w0 Vs (fun k => decide (k = i) || f k) (xs.set i v) u := h.step i hv (Below.refl _ _)
theorem Det.get (h : Det N w0 Vs f xs u) (k : Nat) (hk : f k = true) {x v : Value} (hx : xs[k]? = some x) (hv : Vs[k]? = some v) : x = v := by
  have := h.at_ k hk
  rw [hx, hv] at this
  exact Option.some.inj this
theorem Det.all (h : Det N w0 Vs f xs u) {n : Nat} (hn : Vs.length = n) (hall : ∀ k, k < n → f k = true) : xs = Vs := by
  apply List.ext_getElem? fun k => ?_
  by_cases hk : k < n
  · exact h.at_ k (hall k hk)
  · rw [List.getElem?_eq_none (by rw [h.len]; omega), List.getElem?_eq_none (by omega)]
end
end Go.Proofs.YthldlbbkbbgdkaaGreatDoor

namespace Go.Proofs.YthldlbbkbbgdkaaGreatDoor
open Go.RowKit

/-- Each slot that has been set holds what it is to hold. -/
structure DetQ (Ps : List (Value → Prop)) (f : Nat → Bool) (xs : List Value) : Prop where
  len : xs.length = Ps.length
  at_ : ∀ k x P, f k = true → xs[k]? = some x → Ps[k]? = some P → P x
theorem DetQ.start {Ps : List (Value → Prop)} {xs : List Value} (h : xs.length = Ps.length) : DetQ Ps (fun _ => false) xs := ⟨h, fun _ _ _ h => by cases h⟩
theorem DetQ.step {Ps : List (Value → Prop)} {f : Nat → Bool} {xs : List Value} (h : DetQ Ps f xs) (i : Nat) {v : Value} {P : Value → Prop} (hP : Ps[i]? = some P) (hv : P v) : DetQ Ps (fun k => decide (k = i) || f k) (xs.set i v) := by
  refine ⟨by rw [List.length_set]; exact h.len, fun k x Q hk hx hQ => ?_⟩
  by_cases e : k = i
  · subst e
    have hl : k < xs.length := by rw [h.len]; exact (List.getElem?_eq_some_iff.1 hP).1
    rw [List.getElem?_set_self hl] at hx
    injection hx with hx
    subst hx
    rw [hP] at hQ
    injection hQ with hQ
    subst hQ
    exact hv
  · rw [List.getElem?_set_ne (fun e' => e e'.symm)] at hx
    exact h.at_ k x Q (by simpa [e] using hk) hx hQ
theorem DetQ.get {Ps : List (Value → Prop)} {f : Nat → Bool} {xs : List Value} (h : DetQ Ps f xs) (k : Nat) (hk : f k = true) {x : Value} {P : Value → Prop} (hx : xs[k]? = some x) (hP : Ps[k]? = some P) : P x := h.at_ k x P hk hx hP

/-- The operations cs are done one after the other; W j: what holds of the world behind the first j of them. -/
structure Ch (dn : Nat → Bool) (cs : List Nat) (W : Nat → World → Prop) (u : World) : Prop where
  ex : ∃ j, j ≤ cs.length ∧ (∀ i, ∀ (h : i < cs.length), dn cs[i] = decide (i < j)) ∧ W j u
section
variable {dn : Nat → Bool} {cs : List Nat} {W W' : Nat → World → Prop} {u u' : World}
theorem Ch.start (h : W 0 u) : Ch (fun _ => false) cs W u := ⟨0, Nat.zero_le _, fun i _ => by simp, h⟩
theorem Ch.other (h : Ch dn cs W u) (i : Nat) (hi : i ∉ cs) : Ch (fun k => decide (k = i) || dn k) cs W u := by
  obtain ⟨j, hj, hd, hw⟩ := h.ex
  refine ⟨j, hj, fun k hk => ?_, hw⟩
  have hne : cs[k] ≠ i := fun e => hi (by rw [← e]; exact List.getElem_mem hk)
  simp [hne, hd k hk]
theorem Ch.at_ (h : Ch dn cs W u) (j : Nat) (hj : j < cs.length) (hn : dn cs[j] = false) (hp : ∀ i, i + 1 = j → ∀ (hi : i < cs.length), dn cs[i] = true) : W j u := by
  obtain ⟨j0, hj0, hd, hw⟩ := h.ex
  have h1 := hd j hj
  rw [hn] at h1
  have h2 : ¬ j < j0 := by simpa using h1.symm
  have h3 : j0 = j := by
    cases j with
    | zero => omega
    | succ k =>
      have h4 := hd k (by omega)
      rw [hp k rfl (by omega)] at h4
      have h5 : k < j0 := by simpa using h4.symm
      omega
  rw [← h3]
  exact hw
theorem Ch.next (h : Ch dn cs W u) (j : Nat) (hj : j < cs.length) (hn : dn cs[j] = false) (hp : ∀ i, i + 1 = j → ∀ (hi : i < cs.length), dn cs[i] = true) (hnd : cs.Nodup) (hw' : W' (j + 1) u') : Ch (fun k => decide (k = cs[j]) || dn k) cs W' u' := by
  obtain ⟨j0, hj0, hd, hw⟩ := h.ex
  have h1 := hd j hj
  rw [hn] at h1
  have h2 : ¬ j < j0 := by simpa using h1.symm
  have h3 : j0 = j := by
    cases j with
    | zero => omega
    | succ k =>
      have h4 := hd k (by omega)
      rw [hp k rfl (by omega)] at h4
      have h5 : k < j0 := by simpa using h4.symm
      omega
  subst h3
  refine ⟨j0 + 1, by omega, fun i hi => ?_, hw'⟩
  by_cases e : i = j0
  · subst e; simp
  · have hne : cs[i] ≠ cs[j0] := fun e2 => e ((List.getElem_inj hnd).1 e2)
    simp only [hne, decide_false, Bool.false_or, hd i hi]
    have : (i < j0) ↔ (i < j0 + 1) := by omega
    simp [this]
theorem Ch.early (h : Ch dn cs W u) (m : Nat) (hm : m < cs.length) (hn : dn cs[m] = false) : ∃ j, j ≤ m ∧ W j u := by
  obtain ⟨j0, hj0, hd, hw⟩ := h.ex
  have h1 := hd m hm
  rw [hn] at h1
  have h2 : ¬ m < j0 := by simpa using h1.symm
  exact ⟨j0, by omega, hw⟩
theorem Ch.all (h : Ch dn cs W u) (hall : ∀ i, ∀ (h : i < cs.length), dn cs[i] = true) : W cs.length u := by
  obtain ⟨j0, hj0, hd, hw⟩ := h.ex
  have h3 : j0 = cs.length := by
    rcases Nat.lt_or_ge j0 cs.length with h' | h'
    · have h4 := hd j0 h'
      rw [hall j0 h'] at h4
      simp at h4
    · omega
  rw [← h3]
  exact hw
end
end Go.Proofs.YthldlbbkbbgdkaaGreatDoor

namespace Go.Proofs.YthldlbbkbbgdkaaGreatDoor
open Go.RowKit
attribute [local go_sem] Oper.semAt_some

theorem one_byte {s : ByteArray} (h : s.size = 1) : ∃ b : UInt8, s = ⟨#[b]⟩ := by
  obtain ⟨⟨l⟩⟩ := s
  match l, h with
  | [b], _ => exact ⟨b, rfl⟩
open Classical in
noncomputable def nameB (s : ByteArray) : Bool := decide (NameOk s)
theorem nameB_yes {s : ByteArray} (h : NameOk s) : nameB s = true := by unfold nameB; exact @decide_eq_true _ (Classical.propDecidable _) h
theorem nameB_no {s : ByteArray} (h : ¬ NameOk s) : nameB s = false := by unfold nameB; exact @decide_eq_false _ (Classical.propDecidable _) h
theorem nameOk_byte {b : UInt8} : NameOk ⟨#[b]⟩ ↔ 102 ≤ b.toNat ∧ b.toNat ≤ 107 := by
  constructor
  · rintro ⟨c, h, h1, h2⟩
    simp only [ByteArray.mk.injEq, Array.mk.injEq, List.cons.injEq, and_true] at h
    subst h
    exact ⟨h1, h2⟩
  · rintro ⟨h1, h2⟩
    exact ⟨b, rfl, h1, h2⟩

set_option maxRecDepth 100000 in
set_option maxHeartbeats 800000 in
theorem isFunctionName_any (s : ByteArray) (w : World) (hs : s.size ≤ maxLen) : Calls Tryz.prog 158 #[.string s] w fun e w' => e = .returned (.bool (nameB s)) ∧ w = w' := by
  unfold maxLen at hs
  by_cases h1 : s.size = 1
  · obtain ⟨b, rfl⟩ := one_byte h1
    have hsz : (⟨#[b]⟩ : ByteArray).size = 1 := rfl
    clear h1 hs
    by_cases h2 : 102 ≤ b.toNat
    · have e2 : (102 : Int) ≤ (((⟨#[b]⟩ : ByteArray)[0]'(by show 0 < 1; omega)).toNat : Int) := by show (102 : Int) ≤ (b.toNat : Int); omega
      have H : Hid (nameB ⟨#[b]⟩ = decide ((b.toNat : Int) ≤ 107)) := by
        show _ = _
        by_cases h3 : b.toNat ≤ 107
        · rw [nameB_yes (nameOk_byte.2 ⟨h2, h3⟩), decide_eq_true (by omega)]
        · rw [nameB_no (fun h => h3 (nameOk_byte.1 h).2), decide_eq_false (by omega)]
      go_enter Tryz.func158, Tryz.ntmps158
      go_wp2
      go_ret
      exact ⟨ret_bool H.out.symm, rfl⟩
    · have e2 : decide ((102 : Int) ≤ (((⟨#[b]⟩ : ByteArray)[0]'(by show 0 < 1; omega)).toNat : Int)) = false := decide_eq_false (by show ¬ (102 : Int) ≤ (b.toNat : Int); omega)
      have H : Hid (nameB ⟨#[b]⟩ = false) := nameB_no (fun h => h2 (nameOk_byte.1 h).1)
      go_enter Tryz.func158, Tryz.ntmps158
      go_wp2
      go_ret
      exact ⟨ret_bool H.out.symm, rfl⟩
  · have H : Hid (nameB s = false) := nameB_no (by rintro ⟨b, rfl, _⟩; exact h1 rfl)
    have hd : ((s.size : Int) == 1) = false := by simp; omega
    go_enter Tryz.func158, Tryz.ntmps158
    go_wp2
    go_ret
    exact ⟨ret_bool H.out.symm, rfl⟩

/-- Each number refers to one of n elements. -/
def allIx (zs : List Int) (n : Int) : Bool := zs.all fun z => ixB z n
theorem allIx_iff {zs : List Int} {n : Int} : allIx zs n = true ↔ ∀ j, ∀ (hj : j < zs.length), 0 ≤ zs[j] ∧ zs[j] < n := by
  unfold allIx
  rw [List.all_eq_true]
  constructor
  · intro h j hj
    simpa [ixB] using h _ (List.getElem_mem hj)
  · intro h z hz
    obtain ⟨j, hj, rfl⟩ := List.getElem_of_mem hz
    simpa [ixB] using h j hj

set_option maxRecDepth 100000 in
set_option maxHeartbeats 800000 in
theorem areIndices_any (lo hi : Nat) (v : Value) (zs : List Int) (n : Int) (w : World) (hv : IntsAt w lo hi v zs) :
    Calls Tryz.prog 163 #[v, .int .i64 n] w fun e w' => e = .returned (.bool (allIx zs n)) ∧ w = w' := by
  obtain ⟨A, cap, rfl, hl, hm, hz⟩ := hv.form
  unfold maxLen at hm
  have Hz := Lib.hid hz
  clear hz hv
  go_enter Tryz.func163, Tryz.ntmps163
  go_wp2
  go_loop [9] (fun i => ∃ k : Nat, k ≤ zs.length ∧ i = .int .i64 k ∧ Hid (∀ j, j < k → ∀ (hj : j < zs.length), ixB zs[j] n = true)) (fun i => zs.length - (intOf i).toNat)
  case atStart => exact ⟨0, Nat.zero_le _, rfl, fun j hj => absurd hj (by omega)⟩
  case round =>
    obtain ⟨k, hk, rfl, hok⟩ := hrel
    by_cases hlt : k < zs.length
    · obtain ⟨b, off, rfl, _, _, c0, _⟩ := Hz.out.at_ hlt
      by_cases hin : ixB zs[k] n = true
      · have hin' := Lib.hid hin
        go_wp2_with (go_at_call 113; refine (isIndex_any _ _ _).mono ?_; rintro e w' ⟨rfl, rfl⟩; rw [hin])
        go_round
        case rel =>
          refine ⟨k + 1, by omega, by go_num, fun j hj hjl => ?_⟩
          by_cases ej : j = k
          · subst ej; exact hin'.out
          · exact hok.out j (by omega) hjl
        case measure => simp [intOf]; omega
      · have hinf : ixB zs[k] n = false := by simpa using hin
        have hfin : Hid (allIx zs n = false) := by show _ = _; unfold allIx; exact all_false_of (p := fun z => ixB z n) k hlt hinf
        clear hin
        go_wp2_with (go_at_call 113; refine (isIndex_any _ _ _).mono ?_; rintro e w' ⟨rfl, rfl⟩; rw [hinf])
        go_ret
        exact ⟨ret_bool hfin.out.symm, rfl⟩
    · obtain rfl : k = zs.length := by omega
      have hfin : Hid (allIx zs n = true) := by show _ = _; unfold allIx; exact all_true_of (p := fun z => ixB z n) fun j hj => hok.out j hj hj
      go_wp2
      go_ret
      exact ⟨ret_bool hfin.out.symm, rfl⟩

set_option maxRecDepth 100000 in
set_option maxHeartbeats 4000000 in
theorem fitsFu_any (lo hi lo' hi' : Nat) (sv x a r t : Value) (ss : List Int) (f : Fu) (w : World) (hv : IntsAt w lo hi sv ss) (hc : FuAt w lo' hi' x a r t f) (hB : hi ≤ w.heap.size) (hB' : hi' ≤ w.heap.size) (hok : sizesOk ss = true) :
    Calls Tryz.prog 133 #[.agg #[x, a, r, t], sv] w fun e w' => e = .returned (.bool (fuB ss f)) ∧ Below w.heap.size w w' := by
  obtain ⟨g1, g5, hall⟩ := sizesOk_of hok
  obtain ⟨rfl, rfl, hn, hr, ha, ht⟩ := hc
  obtain ⟨A, cap, rfl, _, _, hi1⟩ := hv.form
  obtain ⟨A1, cap1, rfl, hl1, hm1, ha1⟩ := ha.form
  obtain ⟨A2, cap2, rfl, hl2, hm2, ht1⟩ := ht.form
  unfold maxLen at hm1 hm2
  unfold I64 at hr
  have h3 : Below w.heap.size w (w.alloc (.cells #[.string f.name, .slice A1 f.args.length cap1, .int .i64 f.res, .slice A2 f.table.length cap2] 57)) := by go_grown
  clear hv ha ht
  by_cases c1 : NameOk f.name
  case neg =>
    have H : Hid (fuB ss f = false) := fuB_no fun h => c1 h.name
    have hN := nameB_no c1
    go_enter Tryz.func133, Tryz.ntmps133
    go_wp2_with (go_at_call 158; refine (isFunctionName_any _ _ hn).mono ?_; rintro e w' ⟨rfl, rfl⟩; rw [hN])
    go_ret
    exact ⟨ret_bool H.out.symm, h3⟩
  have hN := nameB_yes c1
  by_cases c2 : f.args.length ≤ 2
  case neg =>
    have H : Hid (fuB ss f = false) := fuB_no fun h => c2 h.few
    have hd : decide ((2 : Int) < (f.args.length : Int)) = true := by simp; omega
    go_enter Tryz.func133, Tryz.ntmps133
    go_wp2_with (go_at_call 158; refine (isFunctionName_any _ _ hn).mono ?_; rintro e w' ⟨rfl, rfl⟩; rw [hN])
    go_ret
    exact ⟨ret_bool H.out.symm, h3⟩
  have hd : decide ((2 : Int) < (f.args.length : Int)) = false := by simp; omega
  by_cases c3 : allIx f.args (ss.length : Int) = true
  case neg =>
    have H : Hid (fuB ss f = false) := fuB_no fun h => c3 (allIx_iff.2 h.args)
    have c3f : allIx f.args (ss.length : Int) = false := by simpa using c3
    go_enter Tryz.func133, Tryz.ntmps133
    go_wp2_with (first | (go_at_call 158; refine (isFunctionName_any _ _ hn).mono ?_; rintro e w' ⟨rfl, rfl⟩; rw [hN]) | (go_at_call 163; refine (areIndices_any _ _ _ f.args _ _ (ha1.below h3 hB')).mono ?_; rintro e w' ⟨rfl, rfl⟩; rw [c3f]))
    go_ret
    exact ⟨ret_bool H.out.symm, h3⟩
  by_cases c4 : ixB f.res (ss.length : Int) = true
  case neg =>
    have H : Hid (fuB ss f = false) := fuB_no fun h => c4 (ixB_yes h.res.1 h.res.2)
    have c4f : ixB f.res (ss.length : Int) = false := by simpa using c4
    go_enter Tryz.func133, Tryz.ntmps133
    go_wp2_with (first | (go_at_call 158; refine (isFunctionName_any _ _ hn).mono ?_; rintro e w' ⟨rfl, rfl⟩; rw [hN]) | (go_at_call 163; refine (areIndices_any _ _ _ f.args _ _ (ha1.below h3 hB')).mono ?_; rintro e w' ⟨rfl, rfl⟩; rw [c3]) | (go_at_call 113; refine (isIndex_any _ _ _).mono ?_; rintro e w' ⟨rfl, rfl⟩; rw [c4f]))
    go_ret
    exact ⟨ret_bool H.out.symm, h3⟩
  have hargs := allIx_iff.1 c3
  have hres : 0 ≤ f.res ∧ f.res < ss.length := by simpa [ixB] using c4
  have Hsm := Lib.hid (cellsTo_small hok hargs c2)
  have Hargs := Lib.hid hargs
  have Hall := Lib.hid hall
  have C1 := Lib.hid c1
  have C2 := Lib.hid c2
  clear hall hargs c1 c2
  go_enter Tryz.func133, Tryz.ntmps133
  go_wp2_with (first | (go_at_call 158; refine (isFunctionName_any _ _ hn).mono ?_; rintro e w' ⟨rfl, rfl⟩; rw [hN]) | (go_at_call 163; refine (areIndices_any _ _ _ f.args _ _ (ha1.below h3 hB')).mono ?_; rintro e w' ⟨rfl, rfl⟩; rw [c3]) | (go_at_call 113; refine (isIndex_any _ _ _).mono ?_; rintro e w' ⟨rfl, rfl⟩; rw [c4]))
  obtain ⟨wb, hwb⟩ : ∃ wb, wb = w.alloc (.cells #[.string f.name, .slice A1 f.args.length cap1, .int .i64 f.res, .slice A2 f.table.length cap2] 57) := ⟨_, rfl⟩
  have hrow : Row wb w.heap.size 57 [.string f.name, .slice A1 f.args.length cap1, .int .i64 f.res, .slice A2 f.table.length cap2] := by rw [hwb]; exact Row.new _ _ _
  have hbb : Below w.heap.size w wb := by rw [hwb]; exact h3
  have q0 := hrow.cell 0
  have q1 := hrow.cell 1
  have q2 := hrow.cell 2
  have q3 := hrow.cell 3
  simp only [List.getElem?_cons_zero, List.getElem?_cons_succ] at q0 q1 q2 q3
  have Hi := Lib.hid (hi1.below hbb hB)
  have Ha := Lib.hid (ha1.below hbb hB')
  have Ht := Lib.hid (ht1.below hbb hB')
  have Hbb := Lib.hid hbb
  rw [← hwb]
  clear hi1 ha1 ht1 hbb h3 hrow hwb hd hN c3 c4 hok
  go_loop [5, 37] (fun r i => ∃ k : Nat, k ≤ f.args.length ∧ i = .int .i64 k ∧ r = .int .i64 (cellsTo ss f.args k)) (fun _ i => f.args.length - (intOf i).toNat)
  case atStart => exact ⟨0, Nat.zero_le _, rfl, rfl⟩
  case round =>
    obtain ⟨k, hk, rfl, rfl⟩ := hrel
    by_cases hlt : k < f.args.length
    · obtain ⟨b, off, rfl, _, _, e0, _⟩ := Ha.out.at_ hlt
      obtain ⟨h0, h1⟩ := Hargs.out k hlt
      have hlt2 : f.args[k].toNat < ss.length := by omega
      obtain ⟨b2, off2, rfl, _, _, e1, _⟩ := Hi.out.at_ hlt2
      have hs := Hsm.out (k + 1) hlt
      have hstep : cellsTo ss f.args (k + 1) = cellsTo ss f.args k * ss[f.args[k].toNat] := by
        show cellsTo ss f.args k * ss.getD (f.args.getD k 0).toNat 0 = _
        rw [List.getD_eq_getElem?_getD (l := f.args), List.getElem?_eq_getElem hlt, Option.getD_some, List.getD_eq_getElem?_getD, List.getElem?_eq_getElem hlt2]
        rfl
      rw [hstep] at hs
      have hwr := wrapIn (cellsTo ss f.args k * ss[f.args[k].toNat]) (by omega) (by omega)
      have Hstep := Lib.hid hstep
      clear hstep hs
      go_wp2
      go_round
      case rel => exact ⟨k + 1, by omega, by go_num, by rw [Hstep.out]⟩
      case measure => simp [intOf]; omega
    · obtain rfl : k = f.args.length := by omega
      have hlt2 : f.res.toNat < ss.length := by omega
      have hr0 := hres.1
      have hr1 := hres.2
      obtain ⟨b2, off2, rfl, _, _, e1, _⟩ := Hi.out.at_ hlt2
      have Hget : Hid (ss.getD f.res.toNat 0 = ss[f.res.toNat]) := by show _ = _; rw [List.getD_eq_getElem?_getD, List.getElem?_eq_getElem hlt2]; rfl
      go_wp2
      by_cases hc : (f.table.length : Int) = cellsTo ss f.args f.args.length
      · have hd : ((f.table.length : Int) == cellsTo ss f.args f.args.length) = true := by simpa using hc
        have H : Hid (fuB ss f = allIx f.table ss[f.res.toNat]) := by
          show _ = _
          rw [Bool.eq_iff_iff, fuB_iff, allIx_iff]
          constructor
          · intro h j hj
            rw [← Hget.out]; exact h.table j hj
          · intro h
            exact ⟨C1.out, C2.out, Hargs.out, hres, hc, fun j hj => by rw [Hget.out]; exact h j hj⟩
        clear hc
        go_quiet ((first | (go_at_call 163; exact quiet_eq (areIndices_any _ _ _ f.table _ _ Ht.out))))
        go_wp2
        go_ret
        exact ⟨ret_bool H.out.symm, below_drewN Hbb.out _⟩
      · have hd : ((f.table.length : Int) == cellsTo ss f.args f.args.length) = false := by simpa using hc
        have H : Hid (fuB ss f = false) := fuB_no fun h => hc h.len
        clear hc
        go_quiet (fail)
        go_wp2
        go_ret
        exact ⟨ret_bool H.out.symm, below_drewN Hbb.out _⟩
end Go.Proofs.YthldlbbkbbgdkaaGreatDoor

