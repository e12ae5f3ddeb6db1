/-
  Literals put into texts: as data; plain data only.
  A region that draws its order, each of whose operations sets one slot to one value: what holds by what has been done.
  The contract of the model's PutLiteral.
  The contract of the model's l7Make at a literal.
  A region that draws its order, some of whose operations, a chain, turn the world one after the other: what holds by what has been done.
-/
import Derived.Test.YtgkfddhhkjblgaaGreatDoorB12
import Derived.Test.YtgkfddhhkjblgaaGreatDoorB6
import Derived.Test.YtgkfddhhkjblgaaGreatDoorB1
import Derived.Test.YtgkfddhhkjblgaaGreatDoorB15
import Derived.Test.YtgkfddhhkjblgaaGreatDoorB14
import Derived.Laws.DeepStrings4
import Derived.Test.YtgkfddhhkjblgaaGreatDoorB17
import Derived.Test.YtgkfddhhkjblgaaGreatDoorB8
namespace Go.Proofs.YtgkfddhhkjblgaaGreatDoor
open Go.RowKit

/-- The place of the colon with the index i, from a place and an index on. -/
def findC (i : Int) : List UInt8 → Nat → Int → Option Nat
  | [], _, _ => none
  | c :: r, k, n => if c = 58 then (if n = i then some k else findC i r (k + 1) (n + 1)) else findC i r (k + 1) n
theorem findC_past (i : Int) : ∀ (l : List UInt8) (k : Nat) (n : Int), i < n → findC i l k n = none
  | [], _, _, _ => rfl
  | c :: r, k, n, h => by
    rw [findC]
    split
    · rw [if_neg (by omega)]
      exact findC_past i r _ _ (by omega)
    · exact findC_past i r _ _ h
theorem findC_at (i : Int) : ∀ (l : List UInt8) (k : Nat) (n : Int) (p : Nat), findC i l k n = some p → k ≤ p ∧ l[p - k]? = some 58
  | [], _, _, _, h => by cases h
  | c :: r, k, n, p, h => by
    rw [findC] at h
    split at h
    · rename_i hc
      split at h
      · injection h with h
        subst h
        exact ⟨Nat.le_refl _, by simp [hc]⟩
      · obtain ⟨h1, h2⟩ := findC_at i r _ _ p h
        refine ⟨by omega, ?_⟩
        rw [show p - k = (p - (k + 1)) + 1 by omega]
        exact h2
    · obtain ⟨h1, h2⟩ := findC_at i r _ _ p h
      refine ⟨by omega, ?_⟩
      rw [show p - k = (p - (k + 1)) + 1 by omega]
      exact h2
def inDig (z : Int) : Bool := decide (0 ≤ z ∧ z ≤ 9)
theorem inDig_of {z : Int} (h : inDig z = true) : Dig z := by simpa [inDig, Dig] using h
/-- A literal put in, if the text is a term and the numbers are digits. -/
def putV (L : List UInt8) (i k v : Int) : Option (List UInt8) :=
  if ((parseT L).isSome && inDig k && inDig v) = true then (findC i L 0 0).map fun p => L.take (p - 1) ++ (dg k ++ [58] ++ dg v) ++ L.drop (p + 2) else none

/-- Every colon of a term stands between two signs. -/
theorem colon_in : ∀ (t : Tm), TmOk t → ∀ p : Nat, (tmT t)[p]? = some 58 → 1 ≤ p ∧ p + 2 ≤ (tmT t).length
  | .lit k v, h, p, hp => by
    have e : tmT (.lit k v) = [UInt8.ofNat (48 + k.toNat), 58, UInt8.ofNat (48 + v.toNat)] := rfl
    rw [e] at hp ⊢
    match p, hp with
    | 0, hp =>
      exfalso
      have h1 := isD_of (isD_dg h.1).1
      simp only [List.getElem?_cons_zero, Option.some.injEq] at hp
      rw [hp] at h1
      revert h1
      decide
    | 1, hp => simp
    | 2, hp =>
      exfalso
      have h1 := isD_of (isD_dg h.2).1
      simp only [List.getElem?_cons_succ, List.getElem?_cons_zero, Option.some.injEq] at hp
      rw [hp] at h1
      revert h1
      decide
    | p + 3, hp => simp at hp
  | .c0 n, h, p, hp => by
    exfalso
    have hn : n ≠ 58 := by rintro rfl; exact absurd h (by unfold TmOk; decide)
    match p, hp with
    | 0, hp => simp [tmT] at hp; exact hn hp
    | 1, hp => simp [tmT] at hp
    | 2, hp => simp [tmT] at hp
    | p + 3, hp => simp [tmT] at hp
  | .c1 n a, h, p, hp => by
    have hn : n ≠ 58 := by rintro rfl; exact absurd h.1 (by decide)
    have e : tmT (.c1 n a) = n :: 40 :: (tmT a ++ [41]) := by simp [tmT]
    rw [e] at hp ⊢
    match p, hp with
    | 0, hp => simp at hp; exact absurd hp hn
    | 1, hp => simp at hp
    | p + 2, hp =>
      simp only [List.getElem?_cons_succ] at hp
      simp only [List.length_cons, List.length_append, List.length_nil]
      by_cases hl : p < (tmT a).length
      · rw [List.getElem?_append_left hl] at hp
        have := colon_in a h.2 p hp
        omega
      · rw [List.getElem?_append_right (by omega)] at hp
        exfalso
        cases hq : p - (tmT a).length with
        | zero => rw [hq] at hp; simp at hp
        | succ q => rw [hq] at hp; simp at hp
  | .c2 n a b, h, p, hp => by
    have hn : n ≠ 58 := by rintro rfl; exact absurd h.1 (by decide)
    have e : tmT (.c2 n a b) = n :: 40 :: (tmT a ++ (44 :: (tmT b ++ [41]))) := by simp [tmT]
    rw [e] at hp ⊢
    match p, hp with
    | 0, hp => simp at hp; exact absurd hp hn
    | 1, hp => simp at hp
    | p + 2, hp =>
      simp only [List.getElem?_cons_succ] at hp
      simp only [List.length_cons, List.length_append, List.length_nil]
      by_cases hl : p < (tmT a).length
      · rw [List.getElem?_append_left hl] at hp
        have := colon_in a h.2.1 p hp
        omega
      · rw [List.getElem?_append_right (by omega)] at hp
        cases hq : p - (tmT a).length with
        | zero => rw [hq] at hp; simp at hp
        | succ q =>
          rw [hq] at hp
          simp only [List.getElem?_cons_succ] at hp
          by_cases hl2 : q < (tmT b).length
          · rw [List.getElem?_append_left hl2] at hp
            have := colon_in b h.2.2 q hp
            omega
          · rw [List.getElem?_append_right (by omega)] at hp
            exfalso
            cases hq2 : q - (tmT b).length with
            | zero => rw [hq2] at hp; simp at hp
            | succ q2 => rw [hq2] at hp; simp at hp
theorem findC_in {L : List UInt8} (h : (parseT L).isSome = true) {i : Int} {p : Nat} (hp : findC i L 0 0 = some p) : 1 ≤ p ∧ p + 2 ≤ L.length := by
  obtain ⟨t, ht⟩ := Option.isSome_iff_exists.1 h
  obtain ⟨ho, e, _⟩ := parseT_tmT.1 ht
  have h2 := (findC_at i L 0 0 p hp).2
  rw [Nat.sub_zero, e] at h2
  rw [e]
  exact colon_in t ho p h2
/-- All signs of a term are ASCII. -/
theorem ascii_T : ∀ (t : Tm), TmOk t → ∀ c ∈ tmT t, c.toNat < 128
  | .lit k v, h, c, hc => by
    have e : tmT (.lit k v) = [UInt8.ofNat (48 + k.toNat), 58, UInt8.ofNat (48 + v.toNat)] := rfl
    rw [e] at hc
    have h1 := isD_of (isD_dg h.1).1
    have h2 := isD_of (isD_dg h.2).1
    simp only [List.mem_cons, List.not_mem_nil, or_false] at hc
    rcases hc with rfl | rfl | rfl
    · omega
    · decide
    · omega
  | .c0 n, h, c, hc => by
    have h1 := isN_of (show isN n = true from h)
    simp only [tmT, List.mem_cons, List.not_mem_nil, or_false] at hc
    rcases hc with rfl | rfl | rfl
    · omega
    · decide
    · decide
  | .c1 n a, h, c, hc => by
    have h1 := isN_of h.1
    simp only [tmT, List.mem_cons, List.mem_append, List.not_mem_nil, or_false] at hc
    rcases hc with ((rfl | rfl) | hc) | rfl
    · omega
    · decide
    · exact ascii_T a h.2 c hc
    · decide
  | .c2 n a b, h, c, hc => by
    have h1 := isN_of h.1
    simp only [tmT, List.mem_cons, List.mem_append, List.not_mem_nil, or_false] at hc
    rcases hc with ((((rfl | rfl) | hc) | rfl) | hc) | rfl
    · omega
    · decide
    · exact ascii_T a h.2.1 c hc
    · decide
    · exact ascii_T b h.2.2 c hc
    · decide
end Go.Proofs.YtgkfddhhkjblgaaGreatDoor

namespace Go.Proofs.YtgkfddhhkjblgaaGreatDoor
open Go.RowKit

theorem det_yes {c : Bool} {A B : Prop} (h : c = true) (ha : A) : if c = true then A else B := by rw [if_pos h]; exact ha
/-- Vs: what the slots hold in the end; xs: what they hold now; f: which operations have been done. -/
structure Det (N : Nat) (w0 : World) (Vs : List Value) (f : Nat → Bool) (xs : List Value) (u : World) : Prop where
  bel : Below N w0 u
  len : xs.length = Vs.length
  at_ : ∀ k, f k = true → xs[k]? = Vs[k]?
section
variable {N : Nat} {w0 u : World} {Vs xs : List Value} {f : Nat → Bool}
theorem Det.start (_hN : N ≤ w0.heap.size) (hl : xs.length = Vs.length) : Det N w0 Vs (fun _ => false) xs w0.drew :=
  ⟨(Below.refl _ _).drew, hl, fun k h => by cases h⟩
theorem Det.step (h : Det N w0 Vs f xs u) (i : Nat) {v : Value} (hv : Vs[i]? = some v) {u' : World} (hb : Below N u u') : Det N w0 Vs (fun k => decide (k = i) || f k) (xs.set i v) u' := by
  refine ⟨h.bel.trans hb, by rw [List.length_set]; exact h.len, fun k hk => ?_⟩
  by_cases e : k = i
  · subst e
    have hl : k < xs.length := by
      rw [h.len]
      exact (List.getElem?_eq_some_iff.1 hv).1
    rw [List.getElem?_set_self hl, hv]
  · rw [List.getElem?_set_ne (fun e' => e e'.symm)]
    exact h.at_ k (by simpa [e] using hk)
theorem Det.same (h : Det N w0 Vs f xs u) (i : Nat) {v : Value} (hv : Vs[i]? = some v) : Det N w0 Vs (fun k => decide (k = i) || f k) (xs.set i v) u := h.step i hv (Below.refl _ _)
theorem Det.get (h : Det N w0 Vs f xs u) (k : Nat) (hk : f k = true) {x v : Value} (hx : xs[k]? = some x) (hv : Vs[k]? = some v) : x = v := by
  have := h.at_ k hk
  rw [hx, hv] at this
  exact Option.some.inj this
theorem Det.all (h : Det N w0 Vs f xs u) {n : Nat} (hn : Vs.length = n) (hall : ∀ k, k < n → f k = true) : xs = Vs := by
  apply List.ext_getElem? fun k => ?_
  by_cases hk : k < n
  · exact h.at_ k (hall k hk)
  · rw [List.getElem?_eq_none (by rw [h.len]; omega), List.getElem?_eq_none (by omega)]
end
end Go.Proofs.YtgkfddhhkjblgaaGreatDoor

namespace Go.Proofs.YtgkfddhhkjblgaaGreatDoor
open Go.RowKit

def putF (L : List UInt8) (k v : Int) (p : Nat) : List UInt8 := L.take (p - 1) ++ (dg k ++ [58] ++ dg v) ++ L.drop (p + 2)
def okP (L : List UInt8) (k v : Int) : Bool := (parseT L).isSome && inDig k && inDig v
theorem putV_eq (L : List UInt8) (i k v : Int) : putV L i k v = if okP L k v = true then (findC i L 0 0).map (putF L k v) else none := rfl
theorem slice_low (s : ByteArray) (j : Nat) (hj : j ≤ s.size) (y : Int) (hy : y = j) (w : World) : (Instr.slice 9 (.string s) none (some (.int .i64 y)) none).run Tryz.prog w = .ok (.string (s.extract 0 j)) w := by
  subst hy
  simp [Instr.slice, Instr.sliceBounds, Instr.sliceBound, asIntOf, run_underlying Tryz.underlying9, hj]
theorem slice_high (s : ByteArray) (j : Nat) (hj : j ≤ s.size) (y : Int) (hy : y = j) (w : World) : (Instr.slice 9 (.string s) (some (.int .i64 y)) none none).run Tryz.prog w = .ok (.string (s.extract j s.size)) w := by
  subst hy
  simp [Instr.slice, Instr.sliceBounds, Instr.sliceBound, asIntOf, run_underlying Tryz.underlying9, hj]
theorem str_take (L : List UInt8) (j : Nat) : (str L).extract 0 j = str (L.take j) := by
  apply ByteArray.ext
  simp [str, ByteArray.data_extract, List.extract_eq_take_drop]
theorem str_drop (L : List UInt8) (j : Nat) : (str L).extract j (str L).size = str (L.drop j) := by
  apply ByteArray.ext
  rw [str_size]
  simp [str, ByteArray.data_extract, List.extract_eq_take_drop]
  rw [List.take_of_length_le (by rw [List.length_drop]; omega)]
abbrev putE (o : Option (List UInt8)) : Ending := .returned (.tuple #[.string (str (o.getD [])), .bool o.isSome])

end Go.Proofs.YtgkfddhhkjblgaaGreatDoor

namespace Go.Proofs.YtgkfddhhkjblgaaGreatDoor
open Go.RowKit

theorem kindM_in {y : Sy} (hy : SyOk y) {m : Mk} (h : MkOk y m) : 0 ≤ kindM y m ∧ kindM y m < (y.ty.sizes.length : Int) := by
  have h1 := hasV0_iff.1 (valM_ok hy h)
  exact ⟨h1.1, h1.2.1⟩
theorem kinds_good {y : Sy} (hy : SyOk y) {ms : List Mk} (h : ∀ m ∈ ms, MkOk y m) : kindsB y (ms.map (kindM y)) = true := by
  unfold kindsB
  rw [syB_iff.2 hy, Bool.and_true, allIx_iff]
  intro j hj
  rw [List.getElem_map]
  exact kindM_in hy (h _ (List.getElem_mem _))
theorem pickW_words (lt : Int → Int → Bool) (L : List Int) : pickW lt L = wOne ∨ pickW lt L = wNone ∨ pickW lt L = wMany := by
  unfold pickW
  split
  · exact .inl rfl
  · split
    · exact .inr (.inl rfl)
    · exact .inr (.inr rfl)
theorem elCall_words {y : Sy} {nm : UInt8} {ms : List Mk} {e : ByteArray} (h : elCall y nm ms = .error e) : e = wUnk ∨ e = wNone ∨ e = wMany := by
  unfold elCall at h
  split at h
  · cases h
  · rename_i hw
    injection h with h
    subst h
    rcases pickW_words (ltB y) (applicV y (str [nm]) (ms.map (kindM y))) with h1 | h1 | h1
    · exact absurd h1 hw
    · exact .inr (.inl h1)
    · exact .inr (.inr h1)
theorem elM_words {y : Sy} : ∀ {t : Tm} {e : ByteArray}, elM y t = .error e → e = wUnk ∨ e = wNone ∨ e = wMany
  | .lit k v, e, h => by
    rw [elM] at h
    split at h
    · cases h
    · injection h with h; exact .inl h.symm
  | .c0 n, e, h => elCall_words h
  | .c1 n a, e, h => by
    rw [elM] at h
    split at h
    · exact elCall_words h
    · rename_i e' he
      injection h with h
      subst h
      exact elM_words he
  | .c2 n a b, e, h => by
    rw [elM] at h
    split at h
    · split at h
      · exact elCall_words h
      · rename_i e' he
        injection h with h
        subst h
        exact elM_words he
    · rename_i e' he
      injection h with h
      subst h
      exact elM_words he
theorem elCall_one {y : Sy} {nm : UInt8} {ms : List Mk} (h : pickW (ltB y) (applicV y (str [nm]) (ms.map (kindM y))) = wOne) : ∃ i : Nat, pickI (ltB y) (applicV y (str [nm]) (ms.map (kindM y))) = (i : Int) ∧ ∃ hi : i < y.fs.length, ApTo y.ty (ms.map (kindM y)) y.fs[i].args ∧ elCall y nm ms = .ok (mkA i (coArgs y y.fs[i].args ms 0)) := by
  obtain ⟨_, i, hi, _, ha, e⟩ := applicV_mem.1 (pick_one h)
  refine ⟨i, e, hi, ?_, ?_⟩
  · simpa [hi] using ha
  · unfold elCall
    rw [if_pos h, e]
    unfold argsOf
    rw [Int.toNat_natCast]
    simp [hi]
theorem elCall_none {y : Sy} {nm : UInt8} {ms : List Mk} (h : pickW (ltB y) (applicV y (str [nm]) (ms.map (kindM y))) ≠ wOne) : elCall y nm ms = .error (pickW (ltB y) (applicV y (str [nm]) (ms.map (kindM y)))) := by
  unfold elCall
  rw [if_neg h]
/-- Where a row of the call's own lies: in the block in which it began, or behind N. -/
def AtB (b N : Nat) (v : Value) : Prop := ∀ g, v.ownBlock = some g → g = b ∨ N ≤ g
theorem AtB.push {w w' : World} {base : Nat} {e : TypeId} {v v' : Value} {n : Nat} {xs : List Value} {x : Value} {b N : Nat} (h : AtB b N v) (hp : Pushed w w' base e v v' n xs x) (hN : N ≤ w.heap.size) : AtB b N v' := by
  intro g hg
  rcases hp.at_ with e1 | ⟨g', e1, h1, _⟩
  · exact h g (e1 ▸ hg)
  · rw [e1] at hg
    injection hg with hg
    omega

theorem wrapDig {a : UInt8} {k : Int} (g : (a.toNat : Int) = 48 + k) (d : Dig k) : wrap64 (wrap64 (a.toNat : Int) - 48) = k := by
  unfold Dig at d
  unfold wrap64
  omega

set_option maxRecDepth 100000 in
set_option maxHeartbeats 1000000 in
theorem l7MakeLit_any (lo hi : Nat) (sv cv fv : Value) (y : Sy) (hy : SyOk y) (k v : Int) (hok : TmOk (.lit k v)) (X : List UInt8) (hX : X = tmT (.lit k v)) (w : World) (hv : SyAt w lo hi sv cv fv y) (hB : hi ≤ w.heap.size) :
    Calls Tryz.prog 37 #[.agg #[sv, cv, fv], .string (str X)] w fun e w' => e = .returned (elRes y (.lit k v)) ∧ Below w.heap.size w w' := by
  obtain ⟨A1, cap1, rfl, _, _, _⟩ := hv.1.1.form
  obtain ⟨A2, cap2, rfl, _, _, _⟩ := hv.1.2.form
  obtain ⟨A3, cap3, rfl, _, _, _⟩ := hv.2.form
  have hX3 : X = [UInt8.ofNat (48 + k.toNat), 58, UInt8.ofNat (48 + v.toNat)] := hX
  have hp := parseT_tmT.2 ⟨hok, hX, by rw [hX3]; simp⟩
  obtain ⟨g0, g2, d1, d2⟩ := lit_vals hX3 hp
  obtain ⟨a, ha⟩ : ∃ a, a = UInt8.ofNat (48 + k.toNat) := ⟨_, rfl⟩
  obtain ⟨c, hc⟩ : ∃ c, c = UInt8.ofNat (48 + v.toNat) := ⟨_, rfl⟩
  rw [← ha] at g0 hX3
  rw [← hc] at g2 hX3
  have ea := wrapDig g0 d1
  have ec := wrapDig g2 d2
  have hsz := str_size X
  have hl3 : X.length = 3 := by rw [hX3]; rfl
  have b0 : ∀ h, (str X)[0]'h = a := by rw [hX3]; exact fun _ => rfl
  have b1 : ∀ h, (str X)[1]'h = 58 := by rw [hX3]; exact fun _ => rfl
  have b2 : ∀ h, (str X)[2]'h = c := by rw [hX3]; exact fun _ => rfl
  rw [hl3] at hsz
  have HE : Hid (elRes y (.lit k v) = if hasV0 y.ty.sizes k v = true then .tuple #[.string (str X), .int .i64 k, .string wOk] else .tuple #[.string ⟨#[]⟩, .int .i64 (-1), .string wUnk]) := by
    show _ = _
    unfold elRes
    rw [elM, hX]
    by_cases h1 : hasV0 y.ty.sizes k v = true
    · rw [if_pos h1, if_pos h1]
      rfl
    · rw [if_neg h1, if_neg h1]
  clear g0 g2 d1 d2 ha hc hX3 hp hX hok
  have hb1 : Below w.heap.size w (w.alloc (.cells #[.slice A1 y.ty.sizes.length cap1, .slice A2 y.ty.cos.length cap2, .slice A3 y.fs.length cap3] 37)) := (Below.refl _ _).alloc (Nat.le_refl _) _
  have p := Row.new w 37 [.slice A1 y.ty.sizes.length cap1, .slice A2 y.ty.cos.length cap2, .slice A3 y.fs.length cap3]
  have p0 := p.cell 0
  have p1 := p.cell 1
  simp only [List.getElem?_cons_zero, List.getElem?_cons_succ] at p0 p1
  have hbs : w.heap.size ≤ (w.alloc (.cells #[.slice A1 y.ty.sizes.length cap1, .slice A2 y.ty.cos.length cap2, .slice A3 y.fs.length cap3] 37)).heap.size := by rw [World.size_alloc]; omega
  have HH : Hid (∀ n : Nat, Calls Tryz.prog 68 #[.agg #[.slice A1 y.ty.sizes.length cap1, .slice A2 y.ty.cos.length cap2], .int .i64 k, .int .i64 v] ((w.alloc (.cells #[.slice A1 y.ty.sizes.length cap1, .slice A2 y.ty.cos.length cap2, .slice A3 y.fs.length cap3] 37)).drewN n) fun e w' => e = .returned (.bool (hasV0 y.ty.sizes k v)) ∧ Below w.heap.size w w') := fun n =>
    (l1Has_any lo hi _ _ y.ty k v _ (hv.below (below_drewN hb1 n) hB).1 (Nat.le_trans hB hbs) (tyOk_sizes hy.ty)).mono fun e w' h => ⟨h.1, (below_drewN hb1 n).trans (h.2.mono hbs)⟩
  clear hv hb1 p hbs
  go_enter Tryz.func37, Tryz.ntmps37
  go_wp2_with fail
  go_quiet (fail)
  go_wp2_with fail
  refine (HH.out _).mono ?_
  rintro e w2 ⟨rfl, hb2⟩
  have HB2 := Lib.hid hb2
  clear hb2 HH p0 p1
  cases hh : hasV0 y.ty.sizes k v with
  | true =>
    rw [hh] at HE
    go_wp2
    try rw [Exit.noGoto_ret]
    refine bodyPost_ret (v := .tuple #[.string (str X), .int .i64 k, .string wOk]) (by simp [results, Tryz.results37, go_sem, wOk]) rfl ?_
    exact ⟨by rw [HE.out]; rfl, HB2.out⟩
  | false =>
    rw [hh] at HE
    go_wp2
    try rw [Exit.noGoto_ret]
    refine bodyPost_ret (v := .tuple #[.string ⟨#[]⟩, .int .i64 (-1), .string wUnk]) (by simp [results, Tryz.results37, go_sem, wUnk]) rfl ?_
    exact ⟨by rw [HE.out]; rfl, HB2.out⟩

end Go.Proofs.YtgkfddhhkjblgaaGreatDoor

namespace Go.Proofs.YtgkfddhhkjblgaaGreatDoor
open Go.RowKit

/-- Each slot that has been set holds what it is to hold. -/
structure DetQ (Ps : List (Value → Prop)) (f : Nat → Bool) (xs : List Value) : Prop where
  len : xs.length = Ps.length
  at_ : ∀ k x P, f k = true → xs[k]? = some x → Ps[k]? = some P → P x
theorem DetQ.start {Ps : List (Value → Prop)} {xs : List Value} (h : xs.length = Ps.length) : DetQ Ps (fun _ => false) xs := ⟨h, fun _ _ _ h => by cases h⟩
theorem DetQ.step {Ps : List (Value → Prop)} {f : Nat → Bool} {xs : List Value} (h : DetQ Ps f xs) (i : Nat) {v : Value} {P : Value → Prop} (hP : Ps[i]? = some P) (hv : P v) : DetQ Ps (fun k => decide (k = i) || f k) (xs.set i v) := by
  refine ⟨by rw [List.length_set]; exact h.len, fun k x Q hk hx hQ => ?_⟩
  by_cases e : k = i
  · subst e
    have hl : k < xs.length := by rw [h.len]; exact (List.getElem?_eq_some_iff.1 hP).1
    rw [List.getElem?_set_self hl] at hx
    injection hx with hx
    subst hx
    rw [hP] at hQ
    injection hQ with hQ
    subst hQ
    exact hv
  · rw [List.getElem?_set_ne (fun e' => e e'.symm)] at hx
    exact h.at_ k x Q (by simpa [e] using hk) hx hQ
theorem DetQ.get {Ps : List (Value → Prop)} {f : Nat → Bool} {xs : List Value} (h : DetQ Ps f xs) (k : Nat) (hk : f k = true) {x : Value} {P : Value → Prop} (hx : xs[k]? = some x) (hP : Ps[k]? = some P) : P x := h.at_ k x P hk hx hP

/-- The operations cs are done one after the other; W j: what holds of the world behind the first j of them. -/
structure Ch (dn : Nat → Bool) (cs : List Nat) (W : Nat → World → Prop) (u : World) : Prop where
  ex : ∃ j, j ≤ cs.length ∧ (∀ i, ∀ (h : i < cs.length), dn cs[i] = decide (i < j)) ∧ W j u
section
variable {dn : Nat → Bool} {cs : List Nat} {W W' : Nat → World → Prop} {u u' : World}
theorem Ch.start (h : W 0 u) : Ch (fun _ => false) cs W u := ⟨0, Nat.zero_le _, fun i _ => by simp, h⟩
theorem Ch.other (h : Ch dn cs W u) (i : Nat) (hi : i ∉ cs) : Ch (fun k => decide (k = i) || dn k) cs W u := by
  obtain ⟨j, hj, hd, hw⟩ := h.ex
  refine ⟨j, hj, fun k hk => ?_, hw⟩
  have hne : cs[k] ≠ i := fun e => hi (by rw [← e]; exact List.getElem_mem hk)
  simp [hne, hd k hk]
theorem Ch.at_ (h : Ch dn cs W u) (j : Nat) (hj : j < cs.length) (hn : dn cs[j] = false) (hp : ∀ i, i + 1 = j → ∀ (hi : i < cs.length), dn cs[i] = true) : W j u := by
  obtain ⟨j0, hj0, hd, hw⟩ := h.ex
  have h1 := hd j hj
  rw [hn] at h1
  have h2 : ¬ j < j0 := by simpa using h1.symm
  have h3 : j0 = j := by
    cases j with
    | zero => omega
    | succ k =>
      have h4 := hd k (by omega)
      rw [hp k rfl (by omega)] at h4
      have h5 : k < j0 := by simpa using h4.symm
      omega
  rw [← h3]
  exact hw
theorem Ch.next (h : Ch dn cs W u) (j : Nat) (hj : j < cs.length) (hn : dn cs[j] = false) (hp : ∀ i, i + 1 = j → ∀ (hi : i < cs.length), dn cs[i] = true) (hnd : cs.Nodup) (hw' : W' (j + 1) u') : Ch (fun k => decide (k = cs[j]) || dn k) cs W' u' := by
  obtain ⟨j0, hj0, hd, hw⟩ := h.ex
  have h1 := hd j hj
  rw [hn] at h1
  have h2 : ¬ j < j0 := by simpa using h1.symm
  have h3 : j0 = j := by
    cases j with
    | zero => omega
    | succ k =>
      have h4 := hd k (by omega)
      rw [hp k rfl (by omega)] at h4
      have h5 : k < j0 := by simpa using h4.symm
      omega
  subst h3
  refine ⟨j0 + 1, by omega, fun i hi => ?_, hw'⟩
  by_cases e : i = j0
  · subst e; simp
  · have hne : cs[i] ≠ cs[j0] := fun e2 => e ((List.getElem_inj hnd).1 e2)
    simp only [hne, decide_false, Bool.false_or, hd i hi]
    have : (i < j0) ↔ (i < j0 + 1) := by omega
    simp [this]
theorem Ch.early (h : Ch dn cs W u) (m : Nat) (hm : m < cs.length) (hn : dn cs[m] = false) : ∃ j, j ≤ m ∧ W j u := by
  obtain ⟨j0, hj0, hd, hw⟩ := h.ex
  have h1 := hd m hm
  rw [hn] at h1
  have h2 : ¬ m < j0 := by simpa using h1.symm
  exact ⟨j0, by omega, hw⟩
theorem Ch.all (h : Ch dn cs W u) (hall : ∀ i, ∀ (h : i < cs.length), dn cs[i] = true) : W cs.length u := by
  obtain ⟨j0, hj0, hd, hw⟩ := h.ex
  have h3 : j0 = cs.length := by
    rcases Nat.lt_or_ge j0 cs.length with h' | h'
    · have h4 := hd j0 h'
      rw [hall j0 h'] at h4
      simp at h4
    · omega
  rw [← h3]
  exact hw
end
end Go.Proofs.YtgkfddhhkjblgaaGreatDoor

