/-
  What ways make of all values, as plain data: images, agreement, redundancy. Nothing here speaks of the program.
  Making a term explicit, as data: its explicit term, or the word for why there is none; plain data only.
  How many explicit terms a term has with a type, as data; plain data only.
  The contract of the program's wayCount.
  A term's text and a type as a key of a map.
  The contracts of the program's reader: has, take, end, digit.
  The contract of the program's reader: digits.
-/
import Derived.Test.YtnmbjmocnafekaaGreatDoorE14
import Derived.Test.YtnmbjmocnafekaaGreatDoorE15
import Derived.Test.YtnmbjmocnafekaaGreatDoorE16
import Derived.Test.YtnmbjmocnafekaaGreatDoorE10
import Derived.Test.YtnmbjmocnafekaaGreatDoorE4
import Derived.Test.YtnmbjmocnafekaaGreatDoorRows
import Derived.DeepKeys3
import Derived.WideKeyArr
import Derived.Maps.RangeWalk
import Derived.Maps.OwnIn
import Derived.WalkLawsBesides
namespace Go.Proofs.YtnmbjmocnafekaaGreatDoor
open Go.RowKit

theorem waysJ_mem {cs : List Co} {n : Nat} {k goal : Int} {j : Nat} {z : List Int} : z ∈ waysJ cs n k goal j ↔ ∃ i, i < j ∧ (cs.getD i default).src = k ∧ ∃ y, y ∈ waysF cs n (cs.getD i default).dst goal ∧ (i : Int) :: y = z := by
  unfold waysJ
  simp only [List.mem_flatMap, List.mem_range]
  constructor
  · rintro ⟨i, hi, hz⟩
    split at hz
    case isTrue hs =>
      obtain ⟨y, hy, e⟩ := List.mem_map.1 hz
      exact ⟨i, hi, hs, y, hy, e⟩
    case isFalse => simp at hz
  · rintro ⟨i, hi, hs, y, hy, e⟩
    exact ⟨i, hi, by rw [if_pos hs]; exact List.mem_map.2 ⟨y, hy, e⟩⟩

/-- All ways lead to the goal. -/
theorem waysF_end {cs : List Co} : ∀ (n : Nat) (k goal : Int), ∀ z ∈ waysF cs n k goal, wayEnd cs k z = some goal := by
  intro n
  induction n with
  | zero => intro k goal z hz; simp [waysF] at hz
  | succ n ih =>
    intro k goal z hz
    by_cases h : k = goal
    · subst h; rw [waysF_eq] at hz; simp at hz; subst hz; rfl
    · rw [waysF_ne h] at hz
      obtain ⟨i, hi, hs, y, hy, rfl⟩ := waysJ_mem.1 hz
      rw [wayEnd, show ((i : Int)).toNat = i from Int.toNat_natCast i, if_pos ⟨ixB_yes (by omega) (by omega), hs⟩]
      exact ih _ _ y hy
theorem waysOf_end {t : Ty} {a b : Int} {z : List Int} (h : z ∈ waysOf t a b) : wayEnd t.cos a z = some b := waysF_end 5 a b z h

/-- No way is there twice. -/
theorem waysF_nodup {cs : List Co} : ∀ (n : Nat) (k goal : Int), (waysF cs n k goal).Pairwise (· ≠ ·) := by
  intro n
  induction n with
  | zero => intro k goal; simp [waysF]
  | succ n ih =>
    intro k goal
    by_cases h : k = goal
    · subst h; rw [waysF_eq]; simp
    · rw [waysF_ne h]
      have key : ∀ j, j ≤ cs.length → (waysJ cs n k goal j).Pairwise (· ≠ ·) := by
        intro j
        induction j with
        | zero => intro _; simp [waysJ_zero]
        | succ j ihj =>
          intro hj
          by_cases hs : cs[j].src = k
          · rw [waysJ_hit (by omega) hs, List.pairwise_append]
            refine ⟨ihj (by omega), ?_, fun a ha b hb e => ?_⟩
            · rw [List.pairwise_map]
              exact (ih _ _).imp fun hab e => hab (List.cons.inj e).2
            · obtain ⟨i, hi, _, y, _, rfl⟩ := waysJ_mem.1 ha
              obtain ⟨y2, _, rfl⟩ := List.mem_map.1 hb
              have := (List.cons.inj e).1
              omega
          · rw [waysJ_miss (by omega) hs]
            exact ihj (by omega)
      exact key _ (Nat.le_refl _)

/-- A coercion by itself is a way. -/
theorem waysOf_one {t : Ty} (h : tyOk t = true) {i : Nat} (hi : i < t.cos.length) : [(i : Int)] ∈ waysOf t t.cos[i].src t.cos[i].dst := by
  obtain ⟨h1, h2, h3, _⟩ := coOk_of (tyOk_co h hi)
  show _ ∈ waysF t.cos (4 + 1) _ _
  rw [waysF_ne (by omega)]
  exact waysJ_mem.2 ⟨i, hi, by rw [getD_at hi], [], by rw [getD_at hi]; show _ ∈ waysF t.cos (3 + 1) _ _; rw [waysF_eq]; simp, rfl⟩

/-- What a way makes of each of the four numbers, -1 of those that are no value. -/
def imgAt (t : Ty) (k : Int) (z : List Int) (v : Nat) : Int := if (v : Int) < t.sizes.getD k.toNat 0 then goV t.cos (v : Int) z else -1
def imgV (t : Ty) (k : Int) (z : List Int) : List Int := [imgAt t k z 0, imgAt t k z 1, imgAt t k z 2, imgAt t k z 3]
theorem imgAt_in {t : Ty} {k : Int} {z : List Int} {v : Nat} (h : (v : Int) < t.sizes.getD k.toNat 0) : imgAt t k z v = goV t.cos (v : Int) z := if_pos h
theorem imgAt_out {t : Ty} {k : Int} {z : List Int} {v : Nat} (h : ¬ (v : Int) < t.sizes.getD k.toNat 0) : imgAt t k z v = -1 := if_neg h
theorem imgAt_wf {t : Ty} (h : tyOk t = true) {k : Int} {z : List Int} {v : Nat} (hk : 0 ≤ k) (hk2 : k < t.sizes.length) (hz : (wayEnd t.cos k z).isSome = true) : I64 (imgAt t k z v) := by
  by_cases hv : (v : Int) < t.sizes.getD k.toNat 0
  · rw [imgAt_in hv]
    obtain ⟨q, hq⟩ := goV_val h z k (v : Int) ⟨hk, hk2, by omega, hv⟩ hz
    exact valOf_I64 h hq
  · rw [imgAt_out hv]; unfold I64; omega
theorem sizes_four {t : Ty} (h : tyOk t = true) {k : Int} (hk : 0 ≤ k) (hk2 : k < t.sizes.length) : t.sizes.getD k.toNat 0 ≤ 4 := by
  have hs : k.toNat < t.sizes.length := by omega
  have := (sizesOk_of (tyOk_sizes h)).2.2 _ hs
  rw [List.getD_eq_getElem?_getD, List.getElem?_eq_getElem hs]
  simp only [Option.getD_some]
  omega
/-- Two ways make the same of all values just if their images are one. -/
theorem imgV_eq {t : Ty} (h : tyOk t = true) {k : Int} (hk : 0 ≤ k) (hk2 : k < t.sizes.length) {y z : List Int} : imgV t k y = imgV t k z ↔ ∀ v : Nat, (v : Int) < t.sizes.getD k.toNat 0 → goV t.cos (v : Int) y = goV t.cos (v : Int) z := by
  have h4 := sizes_four h hk hk2
  constructor
  · intro e v hv
    simp only [imgV, List.cons.injEq, and_true] at e
    obtain ⟨e0, e1, e2, e3⟩ := e
    have hlt : v < 4 := by omega
    rw [← imgAt_in (z := y) hv, ← imgAt_in (z := z) hv]
    rcases (by omega : v = 0 ∨ v = 1 ∨ v = 2 ∨ v = 3) with rfl | rfl | rfl | rfl <;> assumption
  · intro e
    have key : ∀ v : Nat, imgAt t k y v = imgAt t k z v := fun v => by
      by_cases hv : (v : Int) < t.sizes.getD k.toNat 0
      · rw [imgAt_in hv, imgAt_in hv, e v hv]
      · rw [imgAt_out hv, imgAt_out hv]
    simp only [imgV, key]

/-- Do all ways make the same of a value? -/
def sameB (t : Ty) (a b v : Int) : Bool := (waysOf t a b).all fun z => goV t.cos v z == goV t.cos v ((waysOf t a b).headD [])
def agreeV (t : Ty) (a b v : Int) : Bool := typesB t a b && (hasV0 t.sizes a v && sameB t a b v)
/-- Does another way make the same as a coercion? -/
def redB (t : Ty) (i : Nat) (c : Co) : Bool := (waysOf t c.src c.dst).any fun z => !(decide (z = [(i : Int)])) && decide (mapL t.cos z (t.sizes.getD c.src.toNat 0).toNat = c.map)
end Go.Proofs.YtnmbjmocnafekaaGreatDoor

namespace Go.Proofs.YtnmbjmocnafekaaGreatDoor
open Go.RowKit

/-- An explicit term within the coercions of a way, the first one innermost. -/
def coM : List Int → Mk → Mk
  | [], m => m
  | i :: w, m => coM w (.co i.toNat m)
theorem itoa_dg {z : Int} (h : Dig z) : Lib.itoa z = dg z := by
  obtain ⟨h0, h9⟩ := h
  obtain ⟨n, rfl⟩ : ∃ n : Nat, z = n := ⟨z.toNat, by omega⟩
  unfold Lib.itoa
  rw [if_neg (by omega), Int.toNat_natCast, dg_dec (by omega)]
theorem coM_text : ∀ (zs : List Int) (m : Mk), (∀ z ∈ zs, Dig z) → mkT (coM zs m) = wrT (mkT m) zs
  | [], m, _ => rfl
  | i :: w, m, h => by
    have hi := h i (by simp)
    have e : ((i.toNat : Nat) : Int) = i := by unfold Dig at hi; omega
    rw [coM, coM_text w _ fun z hz => h z (by simp [hz]), wrT, mkT, e]
    unfold opn
    rw [itoa_dg hi]
theorem coM_len : ∀ (zs : List Int) (m : Mk), (mkT (coM zs m)).length = (mkT m).length + 4 * zs.length
  | [], m => rfl
  | i :: w, m => by
    rw [coM, coM_len w]
    simp [mkT, dg]
    omega
/-- A way leads an explicit term to its end. -/
theorem coM_ok {y : Sy} (hc : y.ty.cos.length ≤ 8) {b : Int} : ∀ (zs : List Int) (m : Mk), MkOk y m → wayEnd y.ty.cos (kindM y m) zs = some b → MkOk y (coM zs m) ∧ kindM y (coM zs m) = b ∧ ∀ z ∈ zs, Dig z
  | [], m, h, e => by
    simp only [wayEnd, Option.some.injEq] at e
    exact ⟨h, e, fun z hz => by cases hz⟩
  | i :: w, m, h, e => by
    rw [wayEnd] at e
    split at e
    · rename_i hi
      have h1 : 0 ≤ i ∧ i < (y.ty.cos.length : Int) := by
        have := hi.1
        unfold ixB at this
        simp only [decide_eq_true_eq] at this
        omega
      have hk : kindM y (.co i.toNat m) = (y.ty.cos.getD i.toNat default).dst := rfl
      have h2 : MkOk y (.co i.toNat m) := ⟨by omega, by omega, h, hi.2.symm⟩
      obtain ⟨h3, h4, h5⟩ := coM_ok hc w (.co i.toNat m) h2 (by rw [hk]; exact e)
      refine ⟨h3, h4, fun z hz => ?_⟩
      rcases List.mem_cons.1 hz with h6 | h6
      · subst h6; unfold Dig; omega
      · exact h5 z h6
    · cases e

/-- The words for how it went. -/
def wUnk : ByteArray := ⟨#[117, 110, 107, 110, 111, 119, 110]⟩
def wLong : ByteArray := ⟨#[108, 111, 110, 103]⟩
def wOk : ByteArray := ⟨#[111, 107]⟩
/-- The explicit terms of a call's arguments, each within its shortest way. -/
def coArgs (y : Sy) (args : List Int) : List Mk → Nat → List Mk
  | [], _ => []
  | m :: ms, k => coM (shortV y.ty (kindM y m) (args.getD k 0)) m :: coArgs y args ms (k + 1)
/-- What is made of a call whose arguments have been made explicit, or the word for why nothing is. -/
noncomputable def elCall (y : Sy) (nm : UInt8) (ms : List Mk) : Except ByteArray Mk :=
  if pickW (ltB y) (applicV y (str [nm]) (ms.map (kindM y))) = wOne then
    .ok (mkA (pickI (ltB y) (applicV y (str [nm]) (ms.map (kindM y)))).toNat (coArgs y (argsOf y (pickI (ltB y) (applicV y (str [nm]) (ms.map (kindM y))))) ms 0))
  else .error (pickW (ltB y) (applicV y (str [nm]) (ms.map (kindM y))))
noncomputable def elM (y : Sy) : Tm → Except ByteArray Mk
  | .lit k v => if hasV0 y.ty.sizes k v = true then .ok (.lit k v) else .error wUnk
  | .c0 n => elCall y n []
  | .c1 n a => match elM y a with
    | .ok p => elCall y n [p]
    | .error e => .error e
  | .c2 n a b => match elM y a with
    | .ok p => match elM y b with
      | .ok q => elCall y n [p, q]
      | .error e => .error e
    | .error e => .error e
theorem coArgs_len (y : Sy) (args : List Int) : ∀ (ms : List Mk) (k : Nat), (coArgs y args ms k).length = ms.length
  | [], _ => rfl
  | m :: ms, k => by simp [coArgs, coArgs_len y args ms (k + 1)]
theorem shortV_end {t : Ty} {a b : Int} (h : canC t a b = true) : wayEnd t.cos a (shortV t a b) = some b := by
  unfold canC at h
  simp only [Bool.and_eq_true] at h
  rw [shortV_yes h.1]
  cases hs : shortO (waysOf t a b) with
  | some z => exact waysOf_end (shortO_mem _ _ hs)
  | none =>
    exfalso
    have hne : waysOf t a b ≠ [] := by
      intro e
      have h2 := h.2
      unfold canB at h2
      simp [e] at h2
    obtain ⟨z, hz⟩ := shortO_some _ hne
    rw [hz] at hs
    cases hs
/-- What has been chosen is applicable. -/
theorem pick_one {lt : Int → Int → Bool} {L : List Int} (h : pickW lt L = wOne) : pickI lt L ∈ L := by
  unfold pickW at h
  unfold pickI
  cases hf : L.find? (chiefB lt L) with
  | some i => exact List.mem_of_find?_eq_some hf
  | none =>
    rw [hf] at h
    dsimp only at h
    split at h
    · exact absurd h (by decide)
    · exact absurd h (by decide)
theorem elCall_ok {y : Sy} (hy : SyOk y) {nm : UInt8} {ms : List Mk} {m : Mk} (h2 : ms.length ≤ 2) (hms : ∀ p ∈ ms, MkOk y p) (h : elCall y nm ms = .ok m) : MkOk y m := by
  unfold elCall at h
  split at h
  · rename_i hw
    obtain ⟨_, i, hi, _, ha, e⟩ := applicV_mem.1 (pick_one hw)
    rw [e] at h
    injection h with h
    subst h
    rw [Int.toNat_natCast]
    have hai : argsOf y (i : Int) = (y.fs.getD i default).args := by unfold argsOf; rw [Int.toNat_natCast]
    rw [hai]
    have h8 := hy.few
    have hc8 := tyOk_few hy.ty
    obtain ⟨hl, hc⟩ := ha
    rw [List.length_map] at hl hc
    match ms, h2, hms, hl, hc with
    | [], _, _, hl, _ => exact ⟨hi, by omega, by simpa using hl.symm⟩
    | [p], _, hms, hl, hc =>
      have c0 := hc 0 (by simp)
      simp at c0
      obtain ⟨o1, k1, _⟩ := coM_ok hc8 _ p (hms p (by simp)) (shortV_end c0)
      exact ⟨hi, by omega, by simpa using hl.symm, o1, k1⟩
    | [p, q], _, hms, hl, hc =>
      have c0 := hc 0 (by simp)
      have c1 := hc 1 (by simp)
      simp at c0 c1
      obtain ⟨o1, k1, _⟩ := coM_ok hc8 _ p (hms p (by simp)) (shortV_end c0)
      obtain ⟨o2, k2, _⟩ := coM_ok hc8 _ q (hms q (by simp)) (shortV_end c1)
      exact ⟨hi, by omega, by simpa using hl.symm, o1, o2, k1, k2⟩
  · cases h
theorem elM_ok {y : Sy} (hy : SyOk y) : ∀ {t : Tm} {m : Mk}, TmOk t → elM y t = .ok m → MkOk y m
  | .lit k v, m, ht, h => by
    rw [elM] at h
    split at h
    · rename_i hv
      injection h with h
      subst h
      exact ⟨ht.1, ht.2, hv⟩
    · cases h
  | .c0 n, m, _, h => elCall_ok hy (by simp) (fun p hp => by cases hp) h
  | .c1 n a, m, ht, h => by
    rw [elM] at h
    split at h
    · rename_i p hp
      exact elCall_ok hy (by simp) (fun x hx => by simp at hx; subst hx; exact elM_ok hy ht.2 hp) h
    · cases h
  | .c2 n a b, m, ht, h => by
    rw [elM] at h
    split at h
    · rename_i p hp
      split at h
      · rename_i q hq
        refine elCall_ok hy (by simp) (fun x hx => ?_) h
        simp at hx
        rcases hx with hx | hx
        · subst hx; exact elM_ok hy ht.2.1 hp
        · subst hx; exact elM_ok hy ht.2.2 hq
      · cases h
    · cases h
/-- What is made of a call is not much longer than what is made of its arguments. -/
theorem elCall_len {y : Sy} {nm : UInt8} {ms : List Mk} {m : Mk} (h2 : ms.length ≤ 2) (h : elCall y nm ms = .ok m) : (mkT m).length ≤ 5 + (ms.map fun p => (mkT p).length + 20).sum := by
  unfold elCall at h
  split at h
  · injection h with h
    subst h
    have hs := fun a b => (shortV_wf y.ty a b).2
    match ms, h2 with
    | [], _ => simp [coArgs, mkA, mkT, dg]
    | [p], _ =>
      have h1 := hs (kindM y p) ((argsOf y (pickI (ltB y) (applicV y (str [nm]) ([p].map (kindM y))))).getD 0 0)
      simp only [coArgs, mkA, mkT, List.length_append, coM_len, List.map_cons, List.map_nil, List.sum_cons, List.sum_nil, dg, List.length_cons, List.length_nil] at h1 ⊢
      omega
    | [p, q], _ =>
      have h1 := hs (kindM y p) ((argsOf y (pickI (ltB y) (applicV y (str [nm]) ([p, q].map (kindM y))))).getD 0 0)
      have h2 := hs (kindM y q) ((argsOf y (pickI (ltB y) (applicV y (str [nm]) ([p, q].map (kindM y))))).getD (0 + 1) 0)
      simp only [coArgs, mkA, mkT, List.length_append, coM_len, List.map_cons, List.map_nil, List.sum_cons, List.sum_nil, dg, List.length_cons, List.length_nil] at h1 h2 ⊢
      omega
  · cases h
theorem elM_len {y : Sy} : ∀ {t : Tm} {m : Mk}, elM y t = .ok m → (mkT m).length ≤ 24 * (tmT t).length
  | .lit k v, m, h => by
    rw [elM] at h
    split at h
    · injection h with h
      subst h
      simp [mkT, tmT, dg]
    · cases h
  | .c0 n, m, h => by
    have h1 := elCall_len (by simp) h
    simp at h1
    simp [tmT]
    omega
  | .c1 n a, m, h => by
    rw [elM] at h
    split at h
    · rename_i p hp
      have h1 := elCall_len (by simp) h
      have h2 := elM_len hp
      simp at h1
      simp [tmT]
      omega
    · cases h
  | .c2 n a b, m, h => by
    rw [elM] at h
    split at h
    · rename_i p hp
      split at h
      · rename_i q hq
        have h1 := elCall_len (by simp) h
        have h2 := elM_len hp
        have h3 := elM_len hq
        simp at h1
        simp [tmT]
        omega
      · cases h
    · cases h
end Go.Proofs.YtnmbjmocnafekaaGreatDoor

namespace Go.Proofs.YtnmbjmocnafekaaGreatDoor
open Go.RowKit

/-- At most as many as are told, and one more. -/
def capN (n : Nat) : Nat := min n 151
theorem capN_add (a b : Nat) : capN (capN a + b) = capN (a + b) := by unfold capN; omega
theorem capN_addr (a b : Nat) : capN (a + capN b) = capN (a + b) := by unfold capN; omega
theorem capN_idem (a : Nat) : capN (capN a) = capN a := by unfold capN; omega
theorem capN_le (a : Nat) : capN a ≤ 151 := by unfold capN; omega
theorem capN_pos {a : Nat} : 0 < capN a ↔ 0 < a := by unfold capN; omega
theorem capN_mul (a b : Nat) : capN (capN a * b) = capN (a * b) := by
  unfold capN
  rcases Nat.eq_zero_or_pos b with rfl | hb
  · simp
  · rcases Nat.le_total a 151 with h | h
    · rw [Nat.min_eq_left h]
    · rw [Nat.min_eq_right h]
      have h1 : 151 * 1 ≤ 151 * b := Nat.mul_le_mul_left _ hb
      have h2 : 151 * b ≤ a * b := Nat.mul_le_mul_right _ h
      omega
theorem capN_mulr (a b : Nat) : capN (a * capN b) = capN (a * b) := by rw [Nat.mul_comm, capN_mul, Nat.mul_comm]
/-- How many ways lead from a type to another one. -/
noncomputable def wayN (y : Sy) (a b : Int) : Nat := (waysOf y.ty a b).length
/-- The product of how many explicit terms arguments have. -/
def prodN (args : List Int) : List (Int → Nat) → Nat → Nat
  | [], _ => 1
  | c :: cs, k => c (args.getD k 0) * prodN args cs (k + 1)
/-- How many explicit terms of a call are of one function. -/
noncomputable def fnN (y : Sy) (cs : List (Int → Nat)) (kind : Int) (i : Int) : Nat := wayN y (y.fs.getD i.toNat default).res kind * prodN (argsOf y i) cs 0
noncomputable def callN (y : Sy) (nm : UInt8) (cs : List (Int → Nat)) (kind : Int) : Nat := capN (((namedV y (str [nm]) (cs.length : Int)).map (fnN y cs kind)).sum)
/-- How many explicit terms a term has with a type, or 151 if there are more. -/
noncomputable def cntT (y : Sy) : Tm → Int → Nat
  | .lit k v, kind => if hasV0 y.ty.sizes k v = true then capN (wayN y k kind) else 0
  | .c0 n, kind => callN y n [] kind
  | .c1 n a, kind => callN y n [cntT y a] kind
  | .c2 n a b, kind => callN y n [cntT y a, cntT y b] kind
theorem cntT_call (y : Sy) {t : Tm} {a : UInt8} (hc : isCallT t = true) (hh : headT t = [a]) (kind : Int) : cntT y t kind = callN y a ((partsT t).map (cntT y)) kind := by
  cases t with
  | lit k v => cases hc
  | c0 n => simp [headT] at hh; subst hh; rfl
  | c1 n p => simp [headT] at hh; subst hh; rfl
  | c2 n p q => simp [headT] at hh; subst hh; rfl
theorem cntT_le (y : Sy) (t : Tm) (kind : Int) : cntT y t kind ≤ 151 := by
  cases t with
  | lit k v =>
    rw [cntT]
    split
    · exact capN_le _
    · omega
  | c0 n => exact capN_le _
  | c1 n p => exact capN_le _
  | c2 n p q => exact capN_le _
end Go.Proofs.YtnmbjmocnafekaaGreatDoor

namespace Go.Proofs.YtnmbjmocnafekaaGreatDoor
open Go.RowKit
attribute [local go_sem] Oper.semAt_some

set_option maxRecDepth 100000 in
set_option maxHeartbeats 2000000 in
theorem wayCount_any (lo hi g bm : Nat) (sv cv fv mp : Value) (t : Ty) (a b : Int) (w : World) (hv : TyAt w lo hi sv cv t) (hB : hi ≤ w.heap.size) (hrow : Row w g 159 [sv, cv]) (hmk : Row w bm 99 [sv, cv, fv, .pointer (some ⟨g, 0, none⟩), mp]) (htb : typesB t a b = true) :
    Calls Tryz.prog 98 #[.pointer (some ⟨bm, 0, none⟩), .int .i64 a, .int .i64 b] w fun e w' => e = .returned (.int .i64 ((waysOf t a b).length : Nat)) ∧ Below w.heap.size w w' := by
  refine (callsIn_wide (n := 5)).1 ?_
  refine callsIn_of_wp_marks Tryz.func98 rfl trivial ?_ rfl
  simp only [Tryz.ntmps98, List.size_toArray, List.length_cons, List.length_nil, Nat.reduceAdd, Nat.reduceSub, Array.replicate_succ, Array.replicate_zero, List.push_toArray, List.append_toArray, List.nil_append, List.cons_append]
  have m3 := (hmk.alloc (.cells #[.int .i64 0] 3)).cell 3
  simp only [List.getElem?_cons_zero, List.getElem?_cons_succ] at m3
  have HMK := Lib.hid hmk
  clear hmk
  gi_wp2_with (refine ⟨trivial, ?_⟩; gi_at_call 135; refine (callsIn_wide.2 (ways_any g a b _)).mono ?_; rintro e w' ⟨rfl, rfl⟩)
  obtain ⟨W0, hW0⟩ : ∃ u, u = (((w.alloc (.cells #[.int .i64 0] 3)).alloc (.cells #[.pointer (some ⟨g, 0, none⟩)] 96)).alloc (.cells #[.int .i64 a] 3)).alloc (.cells #[.int .i64 b] 3) := ⟨_, rfl⟩
  rw [← hW0]
  have hs0 : W0.heap.size = w.heap.size + 4 := by rw [hW0]; simp
  have hb0 : Below w.heap.size w W0 := by rw [hW0]; go_grown
  have rf : Row W0 w.heap.size 3 [.int .i64 0] := by rw [hW0]; exact (((Row.new w 3 [.int .i64 0]).alloc _).alloc _).alloc _
  have r3 : Row W0 (w.heap.size + 1) 96 [.pointer (some ⟨g, 0, none⟩)] := by
    rw [hW0]
    have := Row.new (w.alloc (.cells #[.int .i64 0] 3)) 96 [.pointer (some ⟨g, 0, none⟩)]
    rw [World.size_alloc] at this
    exact (this.alloc _).alloc _
  have r4 : Row W0 (w.heap.size + 1 + 1) 3 [.int .i64 a] := by
    rw [hW0]
    have := Row.new ((w.alloc (.cells #[.int .i64 0] 3)).alloc (.cells #[.pointer (some ⟨g, 0, none⟩)] 96)) 3 [.int .i64 a]
    rw [World.size_alloc, World.size_alloc] at this
    exact this.alloc _
  have r5 : Row W0 (w.heap.size + 1 + 2) 3 [.int .i64 b] := by
    rw [hW0]
    have := Row.new (((w.alloc (.cells #[.int .i64 0] 3)).alloc (.cells #[.pointer (some ⟨g, 0, none⟩)] 96)).alloc (.cells #[.int .i64 a] 3)) 3 [.int .i64 b]
    rw [World.size_alloc, World.size_alloc, World.size_alloc] at this
    exact this
  clear hW0 m3 HMK
  refine range_law (fun v => { tmps := #[.pointer (some ⟨bm, 0, none⟩), .int .i64 a, .int .i64 b, undef, undef, undef, .int .i64 0, .pointer (some ⟨w.heap.size, 0, none⟩), .pointer (some ⟨bm, 0, none⟩), .pointer (some ⟨bm, 0, none⟩), .pointer (some ⟨bm, 3, none⟩), .pointer (some ⟨g, 0, none⟩), .int .i64 a, .int .i64 b, .func (.func 158) #[] #[.pointer (some ⟨w.heap.size + 1, 0, none⟩), .pointer (some ⟨w.heap.size + 1 + 1, 0, none⟩), .pointer (some ⟨w.heap.size + 1 + 2, 0, none⟩)], v, undef, undef, undef], defers := [] }) (fun _ _ _ _ _ hK => wpIn_skip hK) (gf := 158) (lb := #[.pointer (some ⟨w.heap.size + 1, 0, none⟩), .pointer (some ⟨w.heap.size + 1 + 1, 0, none⟩), .pointer (some ⟨w.heap.size + 1 + 2, 0, none⟩)]) rfl (enters_of Tryz.func158 (by kernel_rfl) rfl)
    (fun k => k < w.heap.size) (fun k hk => by omega) (waysOf t a b)
    (fun s O A => Row A w.heap.size 3 [.int .i64 (s.length : Nat)] ∧ ¬ O w.heap.size ∧ (∀ k, O k → w.heap.size ≤ k) ∧ Below w.heap.size w A)
    (fun _ _ _ => False) ?istep ?igive ?iput ?ixput ?iter ?start ?body ?done ?stop
  case istep =>
    rintro s O A C row ⟨hr, hn, hO, hb⟩ hgr hrw
    refine ⟨hr.keep (hgr.block _ hr.lt (fun e => hn (hrw _ e.symm))), fun h => h.elim hn (fun h => by have := hr.lt; omega), fun k h => h.elim (hO k) (fun h => by have := hb.size; omega), hb.grown hgr hb.size (fun k e => hO k (hrw k e))⟩
  case igive =>
    rintro s O O' A ⟨hr, hn, hO, hb⟩ hsub
    exact ⟨hr, fun h => hn (hsub _ h), fun k h => hO k (hsub k h), hb⟩
  case iput =>
    rintro s O A k o' ⟨hr, hn, hO, hb⟩ h1 h2
    exact ⟨hr.keep (puts_keep (by omega)), hn, hO, hb.grown (grownBy_putObj' A k o') hb.size (fun q e => by simp only [Option.some.injEq] at e; omega)⟩
  case ixput =>
    rintro c s A k o' h _ _
    exact h.elim
  case iter =>
    intro l J Jx W1 hC hb1 hJ
    have hbb := hb0.trans (hb1.mono (by omega))
    exact waysIter_any l g (w.heap.size + 1) (w.heap.size + 1 + 1) (w.heap.size + 1 + 2) _ J Jx t a b hC lo hi sv cv W1 htb hrow.lt (fun k _ hk => by omega) (fun k hk => by have := hbb.size; omega) (hrow.below hbb hrow.lt) (hv.below hbb hB)
      ((r3.below hb1 (by omega)).cell 0) ((r4.below hb1 (by omega)).cell 0) ((r5.below hb1 (by omega)).cell 0) hJ
  case start =>
    intro W1 hb1
    exact ⟨rf.below hb1 (by omega), fun h => h, fun k h => h.elim, hb0.trans (hb1.mono (by omega))⟩
  case body =>
    rintro l s v zs O A0 A m _ ⟨hr0, hn, hO, hb00⟩ hlen hbel _ _ _ hlt
    have hr := hr0.below hbel hr0.lt
    have hb := hb00.trans (hbel.mono hb00.size)
    have p0 : A.cell? ⟨w.heap.size, 0, none⟩ = some (.int .i64 (s.length : Nat)) := hr.cell 0
    have pf : A.frozen? ⟨w.heap.size, 0, none⟩ = false := hr.frozen 0
    have hset := hr.set_ 0 (.int .i64 ((s.length : Nat) + 1 : Int))
    have hwr := wrapIn (((s.length : Nat) : Int) + 1) (by omega) (by omega)
    have hll : ((s ++ [zs]).length : Int) = ((s.length : Nat) : Int) + 1 := by simp
    have Hset := Lib.hid hset
    have Hb := Lib.hid hb
    have Hll := Lib.hid hll
    clear hset hr hb hll
    gi_wp2
    try simp only [Exit.inBlock]
    refine ⟨⟨by simp [World.setCell], fun k hk hS => ?_⟩, ?_, hn, hO, Hb.out.setCell (Nat.le_refl _) _⟩
    · refine heap_set_ne _ _ _ _ _ ?_
      rcases hS with h | h | h | h
      · intro e; exact hn (e ▸ h)
      all_goals omega
    · rw [Hll.out]
      exact Hset.out
  case done =>
    rintro O' W' ⟨hr, hn, hO, hb⟩ hK
    have p0 : W'.cell? ⟨w.heap.size, 0, none⟩ = some (.int .i64 ((waysOf t a b).length : Nat)) := hr.cell 0
    have Hb := Lib.hid hb
    have HK := Lib.hid hK
    clear hr hb hK
    gi_wp2
    refine ⟨by simp, .inl ⟨_, _, rfl, run_takeDeferred HK.out, ?_⟩⟩
    exact ⟨_, results_tmp rfl _ _ _, rfl, Hb.out.grown (grownBy_putObj' W' _ _) Hb.out.size (fun q e => by simp only [Option.some.injEq] at e; omega)⟩
  case stop =>
    rintro c s' W' _ h _
    exact h.elim
end Go.Proofs.YtnmbjmocnafekaaGreatDoor

namespace Go.Proofs.YtnmbjmocnafekaaGreatDoor
open Go.RowKit Go.Maps
open Go.WideMaps (KeyLaw)
open Go.WideShapes

theorem goalWide : (match Tryz.prog.underlying 161 with | some (.array _ _) | some (.struct _) => true | _ => false) = true := by rw [Tryz.underlying161]
theorem goalAt : Tryz.prog.keyTypeAt 2 161 = true := by kernel_rfl
theorem goalTiled : Tryz.prog.tiled 2 161 = true := by kernel_rfl
set_option maxRecDepth 100000 in
theorem goalLaw : KeyLaw Tryz.prog 161 := deep_law (m := 2) (by decide) goalAt goalTiled goalWide
theorem goalKeyed : Keyed Tryz.prog 161 := Keyed.of_law goalLaw
theorem goalKeyType : Tryz.prog.keyType 161 = true := by kernel_rfl
theorem goalCells : Tryz.prog.cellsOf 161 = 2 := by kernel_rfl
theorem oneS : Tryz.prog.cellsOf 9 = 1 := by kernel_rfl
theorem oneI : Tryz.prog.cellsOf 3 = 1 := by kernel_rfl
theorem someTypes : ∃ m, Tryz.prog.types.size = m + 1 := ⟨Tryz.prog.types.size - 1, by have : 0 < Tryz.prog.types.size := of_decide_eq_true (by kernel_rfl); omega⟩

/-- A key as a value, and as what it reads as. -/
def goalV (s : ByteArray) (k : Int) : Value := .agg #[.string s, .int .i64 k]
def goalK (s : ByteArray) (k : Int) : Lit := .string (keyBytes [.string s.data.toList, .int .i64 k])
theorem wfI64g {z : Int} (h : I64 z) : (Lit.int .i64 z).wf = true := by
  unfold I64 at h
  simp [Lit.wf, IntKind.min, IntKind.max, IntKind.signed, IntKind.bits]
  omega

theorem goal_lits {d : Nat} {s : ByteArray} {k : Int} (hs : s.size ≤ maxLen) (hk : I64 k) : Tryz.prog.keyLits (d + 2) 161 [.string s, .int .i64 k] = some [.string s.data.toList, .int .i64 k] := by
  have h1 := goalCells
  have h2 := oneS
  have h3 := oneI
  have e1 : Tryz.prog.keyLits (d + 1) 9 [.string s] = some [.string s.data.toList] := by
    unfold Program.keyLits
    simp [Tryz.underlying9, hs]
  have e2 : Tryz.prog.keyLits (d + 1) 3 [.int .i64 k] = some [.int .i64 k] := by
    unfold Program.keyLits
    simp [Tryz.underlying3, wfI64g hk]
  unfold Program.keyLits
  simp only [Tryz.underlying161, h1]
  simp [h2, h3, e1, e2]

theorem goal_key {s : ByteArray} {k : Int} (hs : s.size ≤ maxLen) (hk : I64 k) : keyOf Tryz.prog 161 (goalV s k) = some (goalK s k) := by
  obtain ⟨m, hm⟩ := someTypes
  unfold keyOf
  simp only [Tryz.underlying161, goalKeyType, goalV, goalK]
  have hf : (Value.agg #[.string s, .int .i64 k]).formed Tryz.prog 161 = true := by simp [Value.formed, Tryz.underlying161, goalCells]
  rw [hf, hm]
  simp only [Bool.and_self, if_true, Value.cells]
  rw [goal_lits hs hk]
  rfl
theorem goalK_inj {s s' : ByteArray} {k k' : Int} (hs : s.size ≤ maxLen) (hk : I64 k) (hs' : s'.size ≤ maxLen) (hk' : I64 k') (h : goalK s k = goalK s' k') : s = s' ∧ k = k' := by
  have e := goalKeyed.inj (goal_key hs hk) (h ▸ goal_key hs' hk')
  simpa [goalV] using e
theorem goalK_key {s : ByteArray} {k : Int} (hs : s.size ≤ maxLen) (hk : I64 k) : WideAt.IsKeyLit (goalK s k) := goalKeyed.key (goal_key hs hk)
theorem zeroIntG (u : World) : (zeroValue 3).run Tryz.prog u = .ok (.int .i64 0) u := by kernel_rfl
end Go.Proofs.YtnmbjmocnafekaaGreatDoor

namespace Go.Proofs.YtnmbjmocnafekaaGreatDoor
open Go.RowKit

/-- The reader in block b is before l. -/
def Txr (b : Nat) (l : List UInt8) (w : World) : Prop := Row w b 235 [.string (str l)]
theorem Txr.lt {b : Nat} {l : List UInt8} {w : World} (h : Txr b l w) : b < w.heap.size := Row.lt h
theorem Txr.cell {b : Nat} {l : List UInt8} {w : World} (h : Txr b l w) : w.cell? ⟨b, 0, none⟩ = some (.string (str l)) := Row.cell h 0
theorem Txr.frozen {b : Nat} {l : List UInt8} {w : World} (h : Txr b l w) : w.frozen? ⟨b, 0, none⟩ = false := Row.frozen h 0
theorem Txr.below {b : Nat} {l : List UInt8} {w w' : World} (h : Txr b l w) (hb : Below w.heap.size w w') : Txr b l w' := Row.below h hb (Row.lt h)
theorem Txr.set {b : Nat} {l : List UInt8} {w : World} (h : Txr b l w) (r : List UInt8) : Txr b r (w.setCell ⟨b, 0, none⟩ (.string (str r))) := Row.set_ h 0 _

theorem str_toList (l : List UInt8) : (str l).toList = l := ByteArray.toList_mk l
theorem str_first (c : UInt8) (r : List UInt8) (h : 0 < (str (c :: r)).size) : (str (c :: r))[0]'h = c := rfl
theorem str_pos (c : UInt8) (r : List UInt8) : 0 < (str (c :: r)).size := by rw [str_size]; simp
theorem byte_eq (c s : UInt8) : ((c.toNat : Int) == (s.toNat : Int)) = decide (c = s) := by
  by_cases h : c = s
  · subst h; simp
  · have : ¬ (c.toNat : Int) = (s.toNat : Int) := fun e => h (UInt8.toNat_inj.1 (by omega))
    simp [h, this]

set_option maxRecDepth 100000 in
set_option maxHeartbeats 1000000 in
theorem has_any (b : Nat) (l : List UInt8) (s : UInt8) (z : Int) (hz : z = (s.toNat : Int)) (w : World) (h : Txr b l w) :
    Calls Tryz.prog 195 #[.pointer (some ⟨b, 0, none⟩), .int .u8 z] w fun e w' => e = .returned (.bool (hasB s l)) ∧ w' = w := by
  have c0 := h.cell
  subst hz
  go_enter Tryz.func195, Tryz.ntmps195
  cases l with
  | nil =>
    have e0 : str [] = (⟨#[]⟩ : ByteArray) := rfl
    rw [e0] at c0
    go_wp2
    go_ret
    exact ⟨rfl, rfl⟩
  | cons c r =>
    have h1 : (str (c :: r)).toList = c :: r := str_toList _
    have h2 := str_first c r
    have h3 := str_pos c r
    have h4 := byte_eq c s
    clear h
    go_wp2
    go_ret
    exact ⟨rfl, rfl⟩

/-- What the reader panics with. -/
def Ev (w : World) (n : Nat) (a : Addr) : Prop := 4 < n ∧ w.cell? ⟨4, 0, none⟩ = some (.iface 314 (.pointer (some a)))
theorem Ev.keep {w w' : World} {n b : Nat} {a : Addr} (h : Ev w n a) (hk : Keep b w w') (hb : n ≤ b) : Ev w' n a :=
  ⟨h.1, (World.cell?_of_block (w := w) (hk.block (World.block_lt_of_cell? _ _ h.2) (by have := h.1; dsimp only; omega))).trans h.2⟩

/-- The panic of a text that does not fit. -/
abbrev boom (a : Addr) : Ending := .panicked [{ v := .iface 314 (.pointer (some a)), recovered := false }]

set_option maxRecDepth 100000 in
set_option maxHeartbeats 1000000 in
theorem end_yes (b : Nat) (w : World) (h : Txr b [] w) :
    Calls Tryz.prog 139 #[.pointer (some ⟨b, 0, none⟩)] w fun e w' => e = .returned (.tuple #[]) ∧ w' = w := by
  have c0 := h.cell
  have e0 : str [] = (⟨#[]⟩ : ByteArray) := rfl
  rw [e0] at c0
  go_enter Tryz.func139, Tryz.ntmps139
  go_wp2
  go_end0
  exact ⟨rfl, rfl⟩
set_option maxRecDepth 100000 in
set_option maxHeartbeats 1000000 in
theorem end_no (b : Nat) (l : List UInt8) (hl : l ≠ []) (n : Nat) (a : Addr) (w : World) (h : Txr b l w) (hv : Ev w n a) :
    Calls Tryz.prog 139 #[.pointer (some ⟨b, 0, none⟩)] w fun e w' => e = boom a ∧ w' = w := by
  have c0 := h.cell
  have c1 := hv.2
  obtain ⟨c, r, rfl⟩ : ∃ c r, l = c :: r := by
    cases l with
    | nil => exact absurd rfl hl
    | cons c r => exact ⟨c, r, rfl⟩
  have h1 : (str (c :: r)).toList = c :: r := str_toList _
  clear hl
  go_enter Tryz.func139, Tryz.ntmps139
  go_wp2
  exact ⟨rfl, rfl, rfl⟩

theorem hasB_take {s : UInt8} {l r : List UInt8} (h : rdTake s l = some r) : hasB s l = true ∧ l = s :: r := by
  cases l with
  | nil => cases h
  | cons c l =>
    by_cases hc : c = s
    · rw [rdTake, if_pos hc] at h
      injection h with h
      exact ⟨by show decide (c = s) = true; simp [hc], by rw [hc, h]⟩
    · rw [rdTake, if_neg hc] at h
      cases h
theorem hasB_no {s : UInt8} {l : List UInt8} (h : rdTake s l = none) : hasB s l = false := by
  cases l with
  | nil => rfl
  | cons c l =>
    by_cases hc : c = s
    · rw [rdTake, if_pos hc] at h
      cases h
    · show decide (c = s) = false
      simp [hc]
theorem str_tail (c : UInt8) (r : List UInt8) : (str (c :: r)).extract 1 (str (c :: r)).size = str r := by
  apply ByteArray.ext
  have h : (str (c :: r)).size = r.length + 1 := by rw [str_size]; rfl
  rw [h]
  simp [str, ByteArray.data_extract]

set_option maxRecDepth 100000 in
set_option maxHeartbeats 400000 in
theorem take_no (b : Nat) (l : List UInt8) (s : UInt8) (z : Int) (hz : z = (s.toNat : Int)) (hl : rdTake s l = none) (n : Nat) (a : Addr) (w : World) (h : Txr b l w) (hv : Ev w n a) :
    Calls Tryz.prog 177 #[.pointer (some ⟨b, 0, none⟩), .int .u8 z] w fun e w' => e = boom a ∧ w' = w := by
  have c1 := hv.2
  have Hh := has_any b l s z hz w h
  rw [hasB_no hl] at Hh
  have HH := Lib.hid Hh
  clear Hh hz hl h hv
  go_enter Tryz.func177, Tryz.ntmps177
  go_wp2_with fail
  refine HH.out.mono ?_
  rintro e w' ⟨rfl, rfl⟩
  go_wp2
  exact ⟨rfl, rfl, rfl⟩
set_option maxRecDepth 100000 in
set_option maxHeartbeats 400000 in
theorem take_yes (b : Nat) (l r : List UInt8) (s : UInt8) (z : Int) (hz : z = (s.toNat : Int)) (hl : rdTake s l = some r) (w : World) (h : Txr b l w) (hm : l.length ≤ 1048576) :
    Calls Tryz.prog 177 #[.pointer (some ⟨b, 0, none⟩), .int .u8 z] w fun e w' => e = .returned (.tuple #[]) ∧ Keep b w w' ∧ Txr b r w' := by
  obtain ⟨hh, rfl⟩ := hasB_take hl
  have Hh := has_any b _ s z hz w h
  rw [hh] at Hh
  have HH := Lib.hid Hh
  have c0 := h.cell
  have f0 := h.frozen
  have HT := Lib.hid h
  have h5 := str_tail s r
  have h6 : (str (s :: r)).size = r.length + 1 := by rw [str_size]; rfl
  rw [h6] at h5
  simp only [List.length_cons] at hm
  clear h Hh hz hl hh
  go_enter Tryz.func177, Tryz.ntmps177
  go_wp2_with fail
  refine HH.out.mono ?_
  rintro e w' ⟨rfl, rfl⟩
  go_wp2
  go_end0
  refine ⟨rfl, (Keep.refl b _).setb _, ?_⟩
  first | rw [h5] | skip
  exact HT.out.set r
set_option maxRecDepth 100000 in
set_option maxHeartbeats 400000 in
theorem digit_yes (b : Nat) (c : UInt8) (r : List UInt8) (hd : isD c = true) (w : World) (h : Txr b (c :: r) w) (hm : r.length + 1 ≤ 1048576) :
    Calls Tryz.prog 179 #[.pointer (some ⟨b, 0, none⟩)] w fun e w' => e = .returned (.int .i64 (valD c)) ∧ Keep b w w' ∧ Txr b r w' := by
  have c0 := h.cell
  have f0 := h.frozen
  have HT := Lib.hid h
  have h1 : (str (c :: r)).toList = c :: r := str_toList _
  have h2 := str_first c r
  have h3 := str_pos c r
  have h5 := str_tail c r
  have h6 : (str (c :: r)).size = r.length + 1 := by rw [str_size]; rfl
  rw [h6] at h5 h3
  simp only [isD, Bool.and_eq_true, decide_eq_true_eq] at hd
  obtain ⟨d1, d2⟩ := hd
  have e1 : ¬ ((c.toNat : Nat) : Int) < 48 := by omega
  have e2 : ¬ (57 : Int) < ((c.toNat : Nat) : Int) := by omega
  clear h
  go_enter Tryz.func179, Tryz.ntmps179
  go_wp2
  go_ret
  exact ⟨rfl, (Keep.refl b _).setb _, HT.out.set r⟩
set_option maxRecDepth 100000 in
set_option maxHeartbeats 400000 in
theorem digit_no (b : Nat) (l : List UInt8) (hl : rdDigit l = none) (n : Nat) (a : Addr) (w : World) (h : Txr b l w) (hv : Ev w n a) :
    Calls Tryz.prog 179 #[.pointer (some ⟨b, 0, none⟩)] w fun e w' => e = boom a ∧ w' = w := by
  have c0 := h.cell
  have v0 := hv.2
  clear h hv
  cases l with
  | nil =>
    have e0 : str [] = (⟨#[]⟩ : ByteArray) := rfl
    rw [e0] at c0
    clear hl
    go_enter Tryz.func179, Tryz.ntmps179
    go_wp2
    exact ⟨rfl, rfl, rfl⟩
  | cons c r =>
    have h1 : (str (c :: r)).toList = c :: r := str_toList _
    have h2 := str_first c r
    have h3 := str_pos c r
    have hd : isD c = false := by
      cases hc : isD c with
      | false => rfl
      | true => simp [rdDigit, hc] at hl
    simp only [isD, Bool.and_eq_false_iff, decide_eq_false_iff_not] at hd
    clear hl
    by_cases d1 : 48 ≤ c.toNat
    · have e1 : ¬ ((c.toNat : Nat) : Int) < 48 := by omega
      have e2 : (57 : Int) < ((c.toNat : Nat) : Int) := by omega
      clear hd
      go_enter Tryz.func179, Tryz.ntmps179
      go_wp2
      exact ⟨rfl, rfl, rfl⟩
    · have e1 : ((c.toNat : Nat) : Int) < 48 := by omega
      clear hd
      go_enter Tryz.func179, Tryz.ntmps179
      go_wp2
      exact ⟨rfl, rfl, rfl⟩
end Go.Proofs.YtnmbjmocnafekaaGreatDoor

namespace Go.Proofs.YtnmbjmocnafekaaGreatDoor
open Go.RowKit

/-- How much is left to read. -/
def restLen (b : Nat) (w : World) : Nat := match w.cell? ⟨b, 0, none⟩ with
  | some (.string s) => s.size
  | _ => 0
theorem Txr.restLen {b : Nat} {l : List UInt8} {w : World} (h : Txr b l w) : restLen b w = l.length := by
  unfold Go.Proofs.YtnmbjmocnafekaaGreatDoor.restLen
  rw [h.cell]
  exact str_size l
theorem hasB_cons {s : UInt8} {l : List UInt8} (h : hasB s l = true) : ∃ r, l = s :: r ∧ rdTake s l = some r := by
  cases l with
  | nil => cases h
  | cons c r =>
    have hc : c = s := by simpa [hasB] using h
    subst hc
    exact ⟨r, rfl, by simp [rdTake]⟩
theorem rdDigit_cons {l r : List UInt8} {z : Int} (h : rdDigit l = some (z, r)) : ∃ c, l = c :: r ∧ isD c = true ∧ z = valD c := by
  cases l with
  | nil => cases h
  | cons c t =>
    cases hc : isD c with
    | false => simp [rdDigit, hc] at h
    | true =>
      simp [rdDigit, hc] at h
      exact ⟨c, by rw [h.2], hc, h.1.symm⟩
theorem Txr.keep_own {b : Nat} {l : List UInt8} {w w' : World} {row : Option Nat} (h : Txr b l w) (hg : w.grownBy w' row) (hr : ∀ g, row = some g → g ≠ b) : Txr b l w' :=
  (hg.block b h.lt fun e => hr b e.symm rfl).trans h
theorem Keep.own {b : Nat} {w w' w'' : World} {row : Option Nat} (h : Keep b w w') (hg : w'.grownBy w'' row) (hr : ∀ g, row = some g → w.heap.size ≤ g) : Keep b w w'' :=
  ⟨⟨hg.os.trans h.grown.os, hg.tape.trans h.grown.tape, hg.output.trans h.grown.output, Nat.le_trans h.size hg.size, fun j hj hb => (hg.block j (Nat.lt_of_lt_of_le hj h.size) fun e => by have := hr j e.symm; omega).trans (h.grown.block j hj hb)⟩⟩
theorem own_ge {w : World} {N : Nat} {t : TypeId} {v : Value} {n : Nat} {xs : List Value} (h : w.ownsRow N t 1 v n xs) : ∀ g, v.ownBlock = some g → N ≤ g := by
  intro k hk
  obtain ⟨_, ⟨e, _⟩ | ⟨g, cap3, cur, e, hg, _⟩⟩ := h
  · rw [e] at hk; simp [Value.ownBlock] at hk
  · rw [e] at hk; simp [Value.ownBlock] at hk; omega
theorem own_keep {b N : Nat} {w w' : World} {t : TypeId} {v : Value} {n : Nat} {xs : List Value} (h : w.ownsRow N t 1 v n xs) (hk : Keep b w w') (hb : b < N) : w'.ownsRow N t 1 v n xs :=
  h.kept (row := some b) hk.grown (by
    cases hv : v.ownBlock with
    | none => exact .inl rfl
    | some g =>
      refine .inr fun e => ?_
      have h1 := own_ge h g hv
      injection e with e
      omega)

/-- What reading numbers comes to. -/
def NumsPost (b : Nat) (l : List UInt8) (a : Addr) (w : World) (e : Ending) (w' : World) : Prop :=
  ((∃ zs r v, rdNums l = some (zs, r) ∧ e = .returned v ∧ w'.ownsRow w.heap.size 3 1 v zs.length (zs.map (Value.int .i64)) ∧ Txr b r w') ∨ (rdNums l = none ∧ e = boom a)) ∧ Keep b w w'

end Go.Proofs.YtnmbjmocnafekaaGreatDoor

