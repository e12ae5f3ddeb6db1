/-
  The contracts of the program's MadeType, coercionsIn, CoercionsIn.
  The part of an explicit term that is done first; plain data only.
  The contracts of the program's write, at a literal and at what has nothing but literals within it, and of madeText.
-/
import Derived.Test.YtgkfddhhkjblgaaGreatDoorB23
import Derived.Test.YtgkfddhhkjblgaaGreatDoorB17
import Derived.Lib.IndexLaws
import Derived.Lib.ReplaceLaws
import Derived.Lib.CountLaws
import Derived.Test.YtgkfddhhkjblgaaGreatDoorB20
namespace Go.Proofs.YtgkfddhhkjblgaaGreatDoor
open Go.RowKit

def isApM : Mk → Bool
  | .a0 _ => true
  | .a1 _ _ => true
  | .a2 _ _ _ => true
  | _ => false
def partsM : Mk → List Mk
  | .a1 _ m => [m]
  | .a2 _ m p => [m, p]
  | _ => []
def ixM : Mk → Nat
  | .a0 i => i
  | .a1 i _ => i
  | .a2 i _ _ => i
  | _ => 0
theorem MNodeAt.open {w : World} {B : Nat} {m : Mk} {o : Value} (h : MNodeAt w B m o) (ha : isApM m = true) : ∃ ps vs, o = .iface 162 (.agg #[.int .i64 (ixM m), ps]) ∧ w.ownsRow B 62 1 ps (partsM m).length vs ∧ MNodesAt w B (partsM m) vs := by
  match m, ha, h with
  | .a0 i, _, ⟨ps, e, h⟩ => exact ⟨ps, [], e, h, trivial⟩
  | .a1 i m, _, ⟨ps, v, e, h, g⟩ => exact ⟨ps, [v], e, h, g, trivial⟩
  | .a2 i m p, _, ⟨ps, v, v2, e, h, g, g2⟩ => exact ⟨ps, [v, v2], e, h, g, g2, trivial⟩
theorem partsM_two (m : Mk) : (partsM m).length ≤ 2 := by cases m <;> simp [partsM]
theorem partsM_len {m p : Mk} (h : p ∈ partsM m) : (mkT p).length + 3 ≤ (mkT m).length := by
  match m, h with
  | .a1 i m, h => simp [partsM] at h; subst h; simp [mkT, dg]
  | .a2 i m q, h =>
    simp [partsM] at h
    rcases h with h | h
    · subst h; simp [mkT, dg] <;> omega
    · subst h; simp [mkT, dg] <;> omega
theorem coN_sum {m : Mk} (ha : isApM m = true) : coN m = ((partsM m).map coN).sum := by
  match m, ha with
  | .a0 i, _ => rfl
  | .a1 i m, _ => simp [coN, partsM]
  | .a2 i m p, _ => simp [coN, partsM]
theorem MNodesAt.at {w : World} {B : Nat} : ∀ {ts : List Mk} {vs : List Value}, MNodesAt w B ts vs → ∀ i, ∀ (h1 : i < ts.length), ∃ v, vs[i]? = some v ∧ MNodeAt w B ts[i] v
  | t :: ts, v :: vs, ⟨h, g⟩, i, h1 => by
    cases i with
    | zero => exact ⟨v, rfl, h⟩
    | succ i => exact g.at i (by simpa using h1)
theorem sum_le9 : ∀ (l : List Nat) (k : Nat), (l.take k).sum ≤ l.sum
  | [], k => by simp
  | a :: l, 0 => by simp
  | a :: l, k + 1 => by have := sum_le9 l k; simp only [List.take_succ_cons, List.sum_cons]; omega
theorem own_lt0 {w : World} {N : Nat} {t : TypeId} {v : Value} {n : Nat} {xs : List Value} (h : w.ownsRow N t 1 v n xs) : ∃ A c, v = .slice A n c := by
  obtain ⟨_, ⟨rfl, rfl⟩ | ⟨g, cap3, cur, rfl, _⟩⟩ := h
  · exact ⟨_, _, rfl⟩
  · exact ⟨_, _, rfl⟩

theorem asKK (x : Value) (w : World) : (Instr.typeAssert (.iface 160 x) 62 160 true).run Tryz.prog w = .ok (.tuple #[x, .bool true]) w := by
  simp [Instr.typeAssert, run_underlying Tryz.underlying160]
theorem asLK (x : Value) (w : World) : (Instr.typeAssert (.iface 145 x) 62 160 true).run Tryz.prog w = .ok (.tuple #[.agg #[.int .i64 0, .nilIface], .bool false]) w := by
  simp [Instr.typeAssert, run_underlying Tryz.underlying160, Tryz.zeroValue160]
theorem asAK (x : Value) (w : World) : (Instr.typeAssert (.iface 162 x) 62 160 true).run Tryz.prog w = .ok (.tuple #[.agg #[.int .i64 0, .nilIface], .bool false]) w := by
  simp [Instr.typeAssert, run_underlying Tryz.underlying160, Tryz.zeroValue160]
theorem asAA (x : Value) (w : World) : (Instr.typeAssert (.iface 162 x) 62 162 true).run Tryz.prog w = .ok (.tuple #[x, .bool true]) w := by
  simp [Instr.typeAssert, run_underlying Tryz.underlying162]
theorem asLA (x : Value) (w : World) : (Instr.typeAssert (.iface 145 x) 62 162 true).run Tryz.prog w = .ok (.tuple #[.agg #[.int .i64 0, .slice none 0 0], .bool false]) w := by
  simp [Instr.typeAssert, run_underlying Tryz.underlying162, Tryz.zeroValue162]

set_option maxRecDepth 100000 in
set_option maxHeartbeats 4000000 in
theorem coIn_any : ∀ (q : Nat) (m : Mk) (B : Nat) (o : Value) (w : World), (mkT m).length ≤ q → (mkT m).length ≤ 1048576 → MNodeAt w B m o →
    Calls Tryz.prog 62 #[o] w fun e w' => e = .returned (.int .i64 (coN m)) ∧ Below w.heap.size w w' := by
  intro q
  induction q with
  | zero =>
    intro m B o w hq
    exact absurd hq (by cases m <;> simp [mkT, dg])
  | succ q ih =>
    intro m B o w hq hm hnod
    have IH := Lib.hid ih
    clear ih
    have fK := asKK
    have fL := asLK
    have fA := asAK
    have gA := asAA
    have gL := asLA
    cases hc : isApM m with
    | false =>
      match m, hc, hnod with
      | .lit k v, _, hnod =>
        have e : o = .iface 145 (.agg #[.int .i64 k, .int .i64 v]) := hnod
        subst e
        clear hnod
        go_enter Tryz.func62, Tryz.ntmps62
        go_wp2
        go_ret
        exact ⟨rfl, Below.refl _ _⟩
      | .co i m, _, ⟨v, e, hv⟩ =>
        subst e
        have hlen : (mkT m).length + 3 ≤ (mkT (.co i m)).length := by simp [mkT, dg]
        have hcn := coN_le m
        have hb0 : Below w.heap.size w (w.alloc (.cells #[.int .i64 i, v] 160)) := (Below.refl _ _).alloc (Nat.le_refl _) _
        have HC := Lib.hid (IH.out m B v (w.alloc (.cells #[.int .i64 i, v] 160)) (by omega) (by omega) (hv.same fun g _ hg => hb0.block g hg))
        have HB0 := Lib.hid hb0
        obtain ⟨T, x, rfl⟩ := hv.form
        have m1 := (Row.new w 160 [.int .i64 i, .iface T x]).cell 1
        simp only [List.getElem?_cons_zero, List.getElem?_cons_succ] at m1
        obtain ⟨c, hc⟩ : ∃ c, c = coN m := ⟨_, rfl⟩
        have hfin : Hid (coN (.co i m) = 1 + c) := by show _ = _; rw [hc]; rfl
        rw [← hc] at HC hcn
        clear hv hb0 hc IH
        go_enter Tryz.func62, Tryz.ntmps62
        go_wp2_with fail
        refine HC.out.mono ?_
        rintro e w2 ⟨rfl, hb2⟩
        have HB2 := Lib.hid (HB0.out.trans (hb2.mono HB0.out.size))
        clear hb2
        go_wp2
        go_ret
        exact ⟨by rw [hfin.out]; go_num, HB2.out⟩
    | true =>
      obtain ⟨ps, vs, rfl, hown, hnods⟩ := hnod.open hc
      obtain ⟨PA, PC, rfl⟩ := own_lt0 hown
      obtain ⟨ts, hts⟩ : ∃ ts, ts = partsM m := ⟨_, rfl⟩
      have hall : Hid (∀ p ∈ ts, (mkT p).length + 3 ≤ (mkT m).length) := fun p hp => partsM_len (by rw [← hts]; exact hp)
      have hlen2 : ts.length ≤ 2 := by rw [hts]; exact partsM_two m
      have hdat : Hid (coN m = (ts.map coN).sum) := by show _ = _; rw [coN_sum hc, hts]
      rw [← hts] at hown hnods ⊢
      have Hown := Lib.hid hown
      have Hnods := Lib.hid hnods
      have hb0 : Below w.heap.size w (w.alloc (.cells #[.int .i64 (ixM m), .slice PA ts.length PC] 162)) := (Below.refl _ _).alloc (Nat.le_refl _) _
      have HB0 := Lib.hid hb0
      have r2 := Row.new w 162 [.int .i64 (ixM m), .slice PA ts.length PC]
      have m1 := r2.cell 1
      simp only [List.getElem?_cons_zero, List.getElem?_cons_succ] at m1
      clear hown hnods hnod hc hb0 r2 hts
      go_enter Tryz.func62, Tryz.ntmps62
      go_wp2_with fail
      go_loopw [5, 23] (fun s i wr => ∃ k : Nat, k ≤ ts.length ∧ i = .int .i64 k ∧ s = .int .i64 ((((ts.map coN).take k).sum : Nat) : Int) ∧ Hid (Below w.heap.size w wr)) (fun _ i _ => ts.length - (intOf i).toNat)
      case atStart => exact ⟨0, Nat.zero_le _, rfl, by simp, HB0.out⟩
      case round =>
        obtain ⟨k, hk, rfl, rfl, hbr⟩ := hrel
        by_cases hkl : k < ts.length
        · obtain ⟨g, hPA, hcell⟩ := own_at7 Hown.out k hkl
          obtain ⟨v, hv, hnv⟩ := Hnods.out.at k hkl
          have hgw : g < w.heap.size := World.block_lt_of_cell? _ _ (hcell.trans hv)
          have hck : wr.cell? ⟨g, k, none⟩ = some v := (World.cell?_of_block (w := w) (hbr.out.block g hgw)).trans (hcell.trans hv)
          obtain ⟨T, x, rfl⟩ := hnv.form
          have hpl := hall.out ts[k] (List.getElem_mem hkl)
          have hsl := coN_le ts[k]
          have HC := Lib.hid (IH.out ts[k] B _ wr (by omega) (by omega) (hnv.same fun g _ hg => hbr.out.block g hg))
          have htk : Hid (((ts.map coN).take (k + 1)).sum = ((ts.map coN).take k).sum + coN ts[k]) := by show _ = _; rw [sum_take (by simpa using hkl)]; simp
          have hacc : ((ts.map coN).take k).sum ≤ 1048576 := by have h1 := coN_le m; rw [hdat.out] at h1; have h2 := sum_le9 (ts.map coN) k; omega
          subst hPA
          obtain ⟨acc, ha⟩ : ∃ acc : Nat, acc = ((ts.map coN).take k).sum := ⟨_, rfl⟩
          rw [← ha] at htk hacc ⊢
          obtain ⟨sk, hsk⟩ : ∃ sk, sk = coN ts[k] := ⟨_, rfl⟩
          rw [← hsk] at HC htk hsl
          clear hcell hv hnv ha hsk
          go_wp2_with (first | (go_at_call 62; refine HC.out.mono ?_; rintro e w2 ⟨rfl, hb2⟩; have HB2 := Lib.hid (hbr.out.trans (hb2.mono hbr.out.size)); clear hb2))
          go_roundw
          case rel => exact ⟨k + 1, by omega, by go_num, by rw [htk.out]; go_num, HB2.out⟩
          case measure => simp [intOf]; omega
        · have hke : k = ts.length := by omega
          subst hke
          have hbnd := coN_le m
          have hki : ¬ ((ts.length : Int) < (ts.length : Int)) := by omega
          obtain ⟨acc, ha⟩ : ∃ acc : Nat, acc = (ts.map coN).sum := ⟨_, rfl⟩
          have hfin : Hid (coN m = (ts.map coN).sum) := hdat
          rw [show ((ts.map coN).take ts.length).sum = (ts.map coN).sum by rw [List.take_of_length_le (by simp)]]
          rw [← ha] at hfin ⊢
          rw [hfin.out] at hbnd
          clear ha hki
          go_wp2
          go_ret
          exact ⟨by rw [hfin.out]; rfl, hbr.out⟩

end Go.Proofs.YtgkfddhhkjblgaaGreatDoor

namespace Go.Proofs.YtgkfddhhkjblgaaGreatDoor
open Go.RowKit

def litM : Mk → Bool
  | .lit _ _ => true
  | _ => false
/-- The part that is done first. -/
def fstM : Mk → Option Mk
  | .lit _ _ => none
  | .co i m => (fstM m).or (some (.co i m))
  | .a0 i => some (.a0 i)
  | .a1 i m => (fstM m).or (some (.a1 i m))
  | .a2 i m p => ((fstM m).or (fstM p)).or (some (.a2 i m p))
/-- A coercion or a call right within which all is a literal. -/
def flatM : Mk → Bool
  | .lit _ _ => false
  | .co _ m => litM m
  | .a0 _ => true
  | .a1 _ m => litM m
  | .a2 _ m p => litM m && litM p
theorem fstM_lit {m : Mk} : fstM m = none ↔ litM m = true := by
  cases m with
  | lit k v => simp [fstM, litM]
  | co i m => cases h : fstM m <;> simp [fstM, litM, h]
  | a0 i => simp [fstM, litM]
  | a1 i m => cases h : fstM m <;> simp [fstM, litM, h]
  | a2 i m p => cases h : fstM m <;> cases h2 : fstM p <;> simp [fstM, litM, h, h2]
theorem fstM_flat : ∀ {m p : Mk}, fstM m = some p → flatM p = true
  | .lit _ _, p, h => by simp [fstM] at h
  | .co i m, p, h => by
    cases h1 : fstM m with
    | some x => simp [fstM, h1] at h; subst h; exact fstM_flat h1
    | none => simp [fstM, h1] at h; subst h; exact fstM_lit.1 h1
  | .a0 i, p, h => by simp [fstM] at h; subst h; rfl
  | .a1 i m, p, h => by
    cases h1 : fstM m with
    | some x => simp [fstM, h1] at h; subst h; exact fstM_flat h1
    | none => simp [fstM, h1] at h; subst h; exact fstM_lit.1 h1
  | .a2 i m q, p, h => by
    cases h1 : fstM m with
    | some x => simp [fstM, h1] at h; subst h; exact fstM_flat h1
    | none =>
      cases h2 : fstM q with
      | some x => simp [fstM, h1, h2] at h; subst h; exact fstM_flat h2
      | none => simp [fstM, h1, h2] at h; subst h; simp [flatM, fstM_lit.1 h1, fstM_lit.1 h2]
theorem litM_it {m : Mk} (h : litM m = true) : itM m = [m] := by cases m <;> first | rfl | cases h
theorem litM_all {m : Mk} (h : litM m = true) : ∀ x ∈ itM m, litM x = true := fun x hx => by
  rw [litM_it h] at hx
  simp at hx
  subst hx
  exact h
/-- It is the first one that is no literal. -/
theorem fstM_it : ∀ {m p : Mk}, fstM m = some p → ∃ l1 l2, itM m = l1 ++ p :: l2 ∧ ∀ x ∈ l1, litM x = true
  | .lit _ _, p, h => by simp [fstM] at h
  | .co i m, p, h => by
    cases h1 : fstM m with
    | some x =>
      simp [fstM, h1] at h
      subst h
      obtain ⟨l1, l2, e, ha⟩ := fstM_it h1
      exact ⟨l1, l2 ++ [.co i m], by simp [itM, e], ha⟩
    | none => simp [fstM, h1] at h; subst h; exact ⟨itM m, [], by simp [itM], litM_all (fstM_lit.1 h1)⟩
  | .a0 i, p, h => by simp [fstM] at h; subst h; exact ⟨[], [], rfl, fun x hx => by cases hx⟩
  | .a1 i m, p, h => by
    cases h1 : fstM m with
    | some x =>
      simp [fstM, h1] at h
      subst h
      obtain ⟨l1, l2, e, ha⟩ := fstM_it h1
      exact ⟨l1, l2 ++ [.a1 i m], by simp [itM, e], ha⟩
    | none => simp [fstM, h1] at h; subst h; exact ⟨itM m, [], by simp [itM], litM_all (fstM_lit.1 h1)⟩
  | .a2 i m q, p, h => by
    cases h1 : fstM m with
    | some x =>
      simp [fstM, h1] at h
      subst h
      obtain ⟨l1, l2, e, ha⟩ := fstM_it h1
      exact ⟨l1, l2 ++ (itM q ++ [.a2 i m q]), by simp [itM, e], ha⟩
    | none =>
      cases h2 : fstM q with
      | some x =>
        simp [fstM, h1, h2] at h
        subst h
        obtain ⟨l1, l2, e, ha⟩ := fstM_it h2
        refine ⟨itM m ++ l1, l2 ++ [.a2 i m q], by simp [itM, e], fun x hx => ?_⟩
        rcases List.mem_append.1 hx with hx | hx
        · exact litM_all (fstM_lit.1 h1) x hx
        · exact ha x hx
      | none =>
        simp [fstM, h1, h2] at h
        subst h
        refine ⟨itM m ++ itM q, [], by simp [itM], fun x hx => ?_⟩
        rcases List.mem_append.1 hx with hx | hx
        · exact litM_all (fstM_lit.1 h1) x hx
        · exact litM_all (fstM_lit.1 h2) x hx
theorem fst_unique {l1 l2 l3 l4 : List Mk} {p q : Mk} (h : l1 ++ p :: l2 = l3 ++ q :: l4) (h1 : ∀ x ∈ l1, litM x = true) (h3 : ∀ x ∈ l3, litM x = true) (hp : litM p = false) (hq : litM q = false) : p = q := by
  induction l1 generalizing l3 with
  | nil =>
    cases l3 with
    | nil => simp at h; exact h.1
    | cons x l3 =>
      simp at h
      have := h3 x (by simp)
      rw [← h.1, hp] at this
      cases this
  | cons a l1 ih =>
    cases l3 with
    | nil =>
      simp at h
      have := h1 a (by simp)
      rw [h.1, hq] at this
      cases this
    | cons x l3 =>
      simp at h
      exact ih h.2 (fun y hy => h1 y (by simp [hy])) (fun y hy => h3 y (by simp [hy]))

/-- A byte that is not in a digit. -/
theorem dg_not {k : Int} (h : Dig k) {c : UInt8} (hc : c.toNat < 48 ∨ 57 < c.toNat) : c ∉ dg k := by
  intro hm
  unfold Dig at h
  have e : c = UInt8.ofNat (48 + k.toNat) := by simpa [dg] using hm
  rw [e, UInt8.toNat_ofNat'] at hc
  omega
theorem lit_not {y : Sy} {m : Mk} (hok : MkOk y m) (h : litM m = true) {c : UInt8} (hc : c.toNat < 48 ∨ 58 < c.toNat) : c ∉ mkT m := by
  cases m with
  | lit k v =>
    intro hm
    simp only [mkT, List.mem_append, List.mem_singleton] at hm
    rcases hm with (hm | hm) | hm
    · exact dg_not hok.1 (by omega) hm
    · subst hm; simp at hc
    · exact dg_not hok.2.1 (by omega) hm
  | co i m => cases h
  | a0 i => cases h
  | a1 i m => cases h
  | a2 i m p => cases h
theorem ix_not {i : Nat} (h : i ≤ 9) {c : UInt8} (hc : c.toNat < 48 ∨ 57 < c.toNat) : c ∉ dg (i : Int) := dg_not (k := (i : Int)) (by unfold Dig; omega) hc
/-- Its text ends with the first bracket that closes. -/
theorem fstM_text {y : Sy} : ∀ {m p : Mk}, MkOk y m → fstM m = some p → MkOk y p ∧ ∃ a b, mkT m = a ++ mkT p ++ b ∧ (41 : UInt8) ∉ a
  | .lit _ _, p, _, h => by simp [fstM] at h
  | .co i m, p, hok, h => by
    cases h1 : fstM m with
    | some x =>
      simp [fstM, h1] at h
      subst h
      obtain ⟨ho, a, b, e, ha⟩ := fstM_text hok.2.2.1 h1
      refine ⟨ho, [35] ++ dg i ++ [40] ++ a, b ++ [41], by simp [mkT, e], ?_⟩
      have h3 := ix_not (c := 41) hok.2.1 (by simp)
      simp [ha, h3]
    | none => simp [fstM, h1] at h; subst h; exact ⟨hok, [], [], by simp, by simp⟩
  | .a0 i, p, hok, h => by simp [fstM] at h; subst h; exact ⟨hok, [], [], by simp, by simp⟩
  | .a1 i m, p, hok, h => by
    cases h1 : fstM m with
    | some x =>
      simp [fstM, h1] at h
      subst h
      obtain ⟨ho, a, b, e, ha⟩ := fstM_text hok.2.2.2.1 h1
      refine ⟨ho, [64] ++ dg i ++ [40] ++ a, b ++ [41], by simp [mkT, e], ?_⟩
      have h3 := ix_not (c := 41) hok.2.1 (by simp)
      simp [ha, h3]
    | none => simp [fstM, h1] at h; subst h; exact ⟨hok, [], [], by simp, by simp⟩
  | .a2 i m q, p, hok, h => by
    have h3 := ix_not (c := 41) hok.2.1 (by simp)
    cases h1 : fstM m with
    | some x =>
      simp [fstM, h1] at h
      subst h
      obtain ⟨ho, a, b, e, ha⟩ := fstM_text hok.2.2.2.1 h1
      refine ⟨ho, [64] ++ dg i ++ [40] ++ a, b ++ [44] ++ mkT q ++ [41], by simp [mkT, e], ?_⟩
      simp [ha, h3]
    | none =>
      cases h2 : fstM q with
      | some x =>
        simp [fstM, h1, h2] at h
        subst h
        obtain ⟨ho, a, b, e, ha⟩ := fstM_text hok.2.2.2.2.1 h2
        have h4 := lit_not hok.2.2.2.1 (fstM_lit.1 h1) (c := 41) (by simp)
        refine ⟨ho, [64] ++ dg i ++ [40] ++ mkT m ++ [44] ++ a, b ++ [41], by simp [mkT, e], ?_⟩
        simp [ha, h3, h4]
      | none => simp [fstM, h1, h2] at h; subst h; exact ⟨hok, [], [], by simp, by simp⟩
/-- The text of a part whose parts are literals: a sign, no other one behind it, and the one bracket at its end. -/
theorem flat_text {y : Sy} {p : Mk} (hok : MkOk y p) (h : flatM p = true) : ∃ c t, mkT p = c :: (t ++ [41]) ∧ (c = 35 ∨ c = 64) ∧ (41 : UInt8) ∉ t ∧ (35 : UInt8) ∉ t ∧ (64 : UInt8) ∉ t ∧ 2 ≤ t.length := by
  cases p with
  | lit k v => cases h
  | co i m =>
    have h1 := fun (c : UInt8) hc => ix_not (c := c) hok.2.1 hc
    have h2 := fun (c : UInt8) hc => lit_not hok.2.2.1 h (c := c) hc
    refine ⟨35, dg i ++ [40] ++ mkT m, by simp [mkT], .inl rfl, ?_, ?_, ?_, by simp [dg]⟩
    · simp [h1 41 (by simp), h2 41 (by simp)]
    · simp [h1 35 (by simp), h2 35 (by simp)]
    · simp [h1 64 (by simp), h2 64 (by simp)]
  | a0 i =>
    have h1 := fun (c : UInt8) hc => ix_not (c := c) hok.2.1 hc
    refine ⟨64, dg i ++ [40], by simp [mkT], .inr rfl, ?_, ?_, ?_, by simp [dg]⟩
    · simp [h1 41 (by simp)]
    · simp [h1 35 (by simp)]
    · simp [h1 64 (by simp)]
  | a1 i m =>
    have h1 := fun (c : UInt8) hc => ix_not (c := c) hok.2.1 hc
    have h2 := fun (c : UInt8) hc => lit_not hok.2.2.2.1 h (c := c) hc
    refine ⟨64, dg i ++ [40] ++ mkT m, by simp [mkT], .inr rfl, ?_, ?_, ?_, by simp [dg]⟩
    · simp [h1 41 (by simp), h2 41 (by simp)]
    · simp [h1 35 (by simp), h2 35 (by simp)]
    · simp [h1 64 (by simp), h2 64 (by simp)]
  | a2 i m q =>
    simp only [flatM, Bool.and_eq_true] at h
    have h1 := fun (c : UInt8) hc => ix_not (c := c) hok.2.1 hc
    have h2 := fun (c : UInt8) hc => lit_not hok.2.2.2.1 h.1 (c := c) hc
    have h4 := fun (c : UInt8) hc => lit_not hok.2.2.2.2.1 h.2 (c := c) hc
    refine ⟨64, dg i ++ [40] ++ mkT m ++ [44] ++ mkT q, by simp [mkT], .inr rfl, ?_, ?_, ?_, by simp [dg]⟩
    · simp [h1 41 (by simp), h2 41 (by simp), h4 41 (by simp)]
    · simp [h1 35 (by simp), h2 35 (by simp), h4 35 (by simp)]
    · simp [h1 64 (by simp), h2 64 (by simp), h4 64 (by simp)]
/-- Where a text stands first, the byte at its end told by it alone. -/
theorem first_at {a s b : List UInt8} {x : UInt8} (ha : x ∉ a) (hs : x ∉ s) : Lib.index (a ++ (s ++ [x]) ++ b) (s ++ [x]) = a.length := by
  refine Lib.index_first (by simp) ?_ fun j hj => ?_
  · unfold Lib.occAt
    rw [List.append_assoc, List.drop_left]
    simp
  · cases ho : Lib.occAt (a ++ (s ++ [x]) ++ b) (s ++ [x]) j with
    | false => rfl
    | true =>
      exfalso
      unfold Lib.occAt at ho
      obtain ⟨r, hr⟩ := List.isPrefixOf_iff_prefix.1 ho
      have h1 : ((a ++ (s ++ [x]) ++ b).drop j)[s.length]? = some x := by
        rw [← hr, List.append_assoc, List.getElem?_append_right (Nat.le_refl _), Nat.sub_self]
        rfl
      rw [List.getElem?_drop, List.append_assoc, List.append_assoc, ← List.append_assoc a s] at h1
      rw [List.getElem?_append_left (by simp; omega)] at h1
      have h2 := List.mem_of_getElem? h1
      rcases List.mem_append.1 h2 with h3 | h3
      · exact ha h3
      · exact hs h3
/-- A step in a text. -/
theorem step_text {y : Sy} {m p : Mk} (hok : MkOk y m) (h : fstM m = some p) : ∃ c t a b, mkT p = c :: (t ++ [41]) ∧ (c = 35 ∨ c = 64) ∧ (41 : UInt8) ∉ t ∧ (35 : UInt8) ∉ t ∧ (64 : UInt8) ∉ t ∧ mkT m = a ++ mkT p ++ b ∧ (41 : UInt8) ∉ a ∧ MkOk y p ∧ Lib.index (mkT m) (mkT p) = a.length := by
  obtain ⟨ho, a, b, e, ha⟩ := fstM_text hok h
  obtain ⟨c, t, e2, hc, h41, h35, h64, _⟩ := flat_text ho (fstM_flat h)
  refine ⟨c, t, a, b, e2, hc, h41, h35, h64, e, ha, ho, ?_⟩
  rw [e, e2]
  have h := first_at (a := a) (s := c :: t) (b := b) (x := 41) ha (by
    intro hm
    rcases List.mem_cons.1 hm with h1 | h1
    · rcases hc with h2 | h2 <;> rw [h2] at h1 <;> cases h1
    · exact h41 h1)
  simpa using h
/-- The literal of the value of an explicit term. -/
noncomputable def norM (y : Sy) (m : Mk) : Mk := .lit (kindM y m) (valM y m)
theorem norM_ok {y : Sy} (hy : SyOk y) {m : Mk} (h : MkOk y m) : MkOk y (norM y m) := by
  have hv := hasV0_iff.1 (valM_ok hy h)
  have h3 := valM_small hy h
  obtain ⟨_, h5, _⟩ := sizesOk_of (tyOk_sizes hy.ty)
  exact ⟨by unfold Dig; omega, by unfold Dig; omega, valM_ok hy h⟩
/-- What an explicit term becomes by a step. -/
noncomputable def stepT (y : Sy) (m : Mk) : List UInt8 := match fstM m with
  | some p => (mkT m).take (Lib.index (mkT m) (mkT p)).toNat ++ mkT (norM y p) ++ (mkT m).drop ((Lib.index (mkT m) (mkT p)).toNat + (mkT p).length)
  | none => []
theorem stepT_eq {y : Sy} {m p : Mk} {a b : List UInt8} (h : fstM m = some p) (e : mkT m = a ++ mkT p ++ b) (hi : Lib.index (mkT m) (mkT p) = a.length) : stepT y m = a ++ mkT (norM y p) ++ b := by
  unfold stepT
  rw [h]
  dsimp only
  rw [hi, Int.toNat_natCast, e]
  have e1 : (a ++ mkT p ++ b).take a.length = a := by rw [List.append_assoc, List.take_left]
  have e2 : (a ++ mkT p ++ b).drop (a.length + (mkT p).length) = b := by rw [← List.length_append, List.drop_left]
  rw [e1, e2]
/-- It is what the library's replacement gives. -/
theorem step_replace {y : Sy} (hy : SyOk y) {m p : Mk} (hok : MkOk y m) (h : fstM m = some p) : Lib.replaceK (mkT p) (mkT (norM y p)) (Lib.replaceNum (mkT m) (mkT p) 1) (mkT m) = stepT y m ∧ Lib.count (mkT m) (mkT p) ≠ 0 ∧ mkT p ≠ mkT (norM y p) := by
  obtain ⟨c, t, a, b, e2, hc, h41, h35, h64, e, ha, ho, hi⟩ := step_text hok h
  have hne : mkT p ≠ [] := by rw [e2]; simp
  have hcnt := Lib.count_hit hne hi
  have hn : Lib.replaceNum (mkT m) (mkT p) 1 = 1 := by
    unfold Lib.replaceNum
    split
    · rename_i h
      rcases h with h | h
      · omega
      · rw [hcnt] at h; omega
    · rfl
  refine ⟨?_, by rw [hcnt]; omega, fun hx => ?_⟩
  · rw [hn, stepT_eq h e hi]
    unfold Lib.replaceK
    rw [hi]
    have hb : ((a.length : Int) == -1) = false := beq_eq_false_iff_ne.2 (by omega)
    rw [hb]
    simp only [Bool.false_eq_true, if_false, Int.toNat_natCast, Lib.replaceK]
    rw [e]
    have e1 : (a ++ mkT p ++ b).take a.length = a := by rw [List.append_assoc, List.take_left]
    have e3 : (a ++ mkT p ++ b).drop (a.length + (mkT p).length) = b := by rw [← List.length_append, List.drop_left]
    rw [e1, e3]
  · rw [e2] at hx
    have hk : mkT (norM y p) = UInt8.ofNat (48 + (kindM y p).toNat) :: ([58] ++ dg (valM y p)) := rfl
    rw [hk] at hx
    injection hx with h1 _
    refine dg_not (norM_ok hy ho).1 (c := c) ?_ (by rw [h1]; exact List.mem_singleton.2 rfl)
    rcases hc with h2 | h2 <;> rw [h2] <;> simp
theorem hasB_dg {k : Int} (h : Dig k) {c : UInt8} (hc : c.toNat < 48 ∨ 57 < c.toNat) (l : List UInt8) : hasB c (dg k ++ l) = false := by
  have hn := dg_not h hc
  cases hb : hasB c (dg k ++ l) with
  | false => rfl
  | true =>
    exfalso
    apply hn
    have e : dg k ++ l = UInt8.ofNat (48 + k.toNat) :: l := rfl
    rw [e] at hb
    have hb' : c = UInt8.ofNat (48 + k.toNat) := by
      simp only [hasB] at hb
      first | exact (of_decide_eq_true hb).symm | exact of_decide_eq_true hb | exact (eq_of_beq hb).symm | exact eq_of_beq hb
    rw [hb']
    exact List.mem_singleton.2 rfl
theorem rdIx_dg {n i : Nat} (h : i < n) (h9 : i ≤ 9) (r : List UInt8) : rdIx n (dg (i : Int) ++ r) = some (i, r) := by
  unfold rdIx
  rw [rdDigit_dg (by unfold Dig; omega)]
  have h2 : (i : Int) < (n : Int) := by omega
  simp [h2]
theorem rdOpen_dg {s : UInt8} {n i : Nat} (h : i < n) (h9 : i ≤ 9) (r : List UInt8) : rdOpen s n (s :: (dg (i : Int) ++ 40 :: r)) = some (i, r) := by
  unfold rdOpen
  rw [rdTake_cons]
  simp only [Option.bind_some]
  rw [rdIx_dg h h9]
  simp [rdTake_cons]
/-- The whole text of an explicit term is read as it. -/
theorem rdMk_full {y : Sy} : ∀ {m : Mk}, MkOk y m → ∀ (f : Nat) (r : List UInt8), (mkT m).length ≤ f → rdMk y f (mkT m ++ r) = some (m, r)
  | .lit k v, h, 0, r, hf => by simp [mkT, dg] at hf
  | .lit k v, h, f + 1, r, hf => by
    have e : mkT (.lit k v) ++ r = dg k ++ (58 :: (dg v ++ r)) := by simp [mkT]
    rw [e, rdMk_val y f (hasB_dg h.1 (by simp) _) (hasB_dg h.1 (by simp) _)]
    unfold rdVal
    rw [rdDigit_dg h.1]
    simp only [Option.bind_some]
    rw [rdTake_cons]
    simp only [Option.bind_some]
    rw [rdDigit_dg h.2.1]
    simp [h.2.2]
  | .co i m, h, 0, r, hf => by simp [mkT, dg] at hf
  | .co i m, h, f + 1, r, hf => by
    have e : mkT (.co i m) ++ r = 35 :: (dg (i : Int) ++ 40 :: (mkT m ++ 41 :: r)) := by simp [mkT]
    have hl : (mkT m).length ≤ f := by simp [mkT, dg] at hf; omega
    rw [e, rdMk_co y f rfl]
    unfold rdCoM
    rw [rdOpen_dg h.1 h.2.1]
    simp only [Option.bind_some]
    unfold rdOf
    rw [rdMk_full h.2.2.1 f (41 :: r) hl]
    simp only [Option.bind_some]
    rw [if_pos h.2.2.2]
    simp [rdTake_cons]
  | .a0 i, h, 0, r, hf => by simp [mkT, dg] at hf
  | .a0 i, h, f + 1, r, hf => by
    have e : mkT (.a0 i) ++ r = 64 :: (dg (i : Int) ++ 40 :: (41 :: r)) := by simp [mkT]
    rw [e, rdMk_ap y f rfl rfl]
    unfold rdApM
    rw [rdOpen_dg h.1 h.2.1]
    simp only [Option.bind_some]
    rw [h.2.2]
    simp [rdTo, rdTake_cons, mkA]
  | .a1 i m, h, 0, r, hf => by simp [mkT, dg] at hf
  | .a1 i m, h, f + 1, r, hf => by
    have e : mkT (.a1 i m) ++ r = 64 :: (dg (i : Int) ++ 40 :: (mkT m ++ 41 :: r)) := by simp [mkT]
    have hl : (mkT m).length ≤ f := by simp [mkT, dg] at hf; omega
    have hr : rdOf (rdMk y f) y ((y.fs.getD i default).args.getD 0 0) (mkT m ++ 41 :: r) = some (m, 41 :: r) := by
      unfold rdOf
      rw [rdMk_full h.2.2.2.1 f (41 :: r) hl]
      simp only [Option.bind_some]
      rw [if_pos h.2.2.2.2]
    rw [e, rdMk_ap y f rfl rfl]
    unfold rdApM
    rw [rdOpen_dg h.1 h.2.1]
    simp only [Option.bind_some]
    rw [h.2.2.1]
    simp only [rdTo, Option.bind_some, if_true]
    rw [hr]
    simp [rdTake_cons, mkA]
  | .a2 i m p, h, 0, r, hf => by simp [mkT, dg] at hf
  | .a2 i m p, h, f + 1, r, hf => by
    have e : mkT (.a2 i m p) ++ r = 64 :: (dg (i : Int) ++ 40 :: (mkT m ++ 44 :: (mkT p ++ 41 :: r))) := by simp [mkT]
    have hl : (mkT m).length ≤ f ∧ (mkT p).length ≤ f := by simp [mkT, dg] at hf; omega
    have hr : rdOf (rdMk y f) y ((y.fs.getD i default).args.getD 0 0) (mkT m ++ 44 :: (mkT p ++ 41 :: r)) = some (m, 44 :: (mkT p ++ 41 :: r)) := by
      unfold rdOf
      rw [rdMk_full h.2.2.2.1 f _ hl.1]
      simp only [Option.bind_some]
      rw [if_pos h.2.2.2.2.2.1]
    have hr2 : rdOf (rdMk y f) y ((y.fs.getD i default).args.getD 1 0) (mkT p ++ 41 :: r) = some (p, 41 :: r) := by
      unfold rdOf
      rw [rdMk_full h.2.2.2.2.1 f _ hl.2]
      simp only [Option.bind_some]
      rw [if_pos h.2.2.2.2.2.2]
    rw [e, rdMk_ap y f rfl rfl]
    unfold rdApM
    rw [rdOpen_dg h.1 h.2.1]
    simp only [Option.bind_some]
    rw [h.2.2.1]
    simp only [rdTo, Option.bind_some, if_true]
    rw [hr]
    simp only [Option.map_some, Option.bind_some]
    have h10 : ¬ (0 + 1 = 0) := by omega
    rw [if_neg h10, rdTake_cons]
    simp only [Option.bind_some]
    rw [hr2]
    simp [rdTake_cons, mkA]
theorem readM_full {y : Sy} (hy : SyOk y) {m : Mk} (h : MkOk y m) (hl : (mkT m).length ≤ 400) : readM y (mkT m) = some m := by
  unfold readM parseM
  have h2 := rdMk_full h (mkT m).length [] (Nat.le_refl _)
  rw [List.append_nil] at h2
  rw [if_pos (syB_yes hy), if_pos hl, h2]
end Go.Proofs.YtgkfddhhkjblgaaGreatDoor

namespace Go.Proofs.YtgkfddhhkjblgaaGreatDoor
open Go.RowKit

/-- The builder in block b holds l; what lies below it stands, and so do the rows beside it. -/
structure Bk (b : Nat) (l : List UInt8) (w w' : World) : Prop where
  bld : Bld b l w'
  bel : Below b w w'
  row : ∀ g T xs, g ≠ b → T ≠ 5 → Row w g T xs → Row w' g T xs
theorem Bk.refl {b : Nat} {l : List UInt8} {w : World} (h : Bld b l w) : Bk b l w w := ⟨h, Below.refl _ _, fun _ _ _ _ _ h => h⟩
theorem Bk.go {b : Nat} {l l' : List UInt8} {w w1 w2 : World} (h : Bk b l w w1) (h2 : Bk b l' w1 w2) : Bk b l' w w2 :=
  ⟨h2.bld, h.bel.trans h2.bel, fun g T xs h3 h4 hr => h2.row g T xs h3 h4 (h.row g T xs h3 h4 hr)⟩
theorem Bk.under {b : Nat} {l : List UInt8} {w w1 w2 : World} (h : Bk b l w w1) (hb : Below w1.heap.size w1 w2) : Bk b l w w2 :=
  h.go ⟨h.bld.below hb, hb.mono (Nat.le_of_lt h.bld.lt), fun _ _ _ _ _ hr => hr.below hb hr.lt⟩
theorem Bk.alloc {b : Nat} {l : List UInt8} {w w1 : World} (h : Bk b l w w1) (o : Obj) : Bk b l w (w1.alloc o) := h.under ((Below.refl _ _).alloc (Nat.le_refl _) _)
theorem wbK (b : Nat) (l : List UInt8) (c : UInt8) (z : Int) (hz : z = (c.toNat : Int)) (w0 w : World) (h : Bk b l w0 w) (hl : l.length ≤ 100000) :
    Calls Tryz.prog 251 #[.pointer (some ⟨b, 0, none⟩), .int .u8 z] w fun e w' => (∃ v, e = .returned v) ∧ Bk b (l ++ [c]) w0 w' :=
  (writeByte_any b l c z hz w h.bld (by omega)).mono fun _ _ ⟨hv, hb, h1, h2⟩ => ⟨hv, h.go ⟨hb, h1, fun _ _ _ h3 h4 hr => others_row h2 hr h3 h4⟩⟩
theorem wsK (b : Nat) (l s : List UInt8) (w0 w : World) (h : Bk b l w0 w) (hl : l.length ≤ 100000) (hs : s.length ≤ 100000) :
    Calls Tryz.prog 210 #[.pointer (some ⟨b, 0, none⟩), .string (str s)] w fun e w' => (∃ v, e = .returned v) ∧ Bk b (l ++ s) w0 w' :=
  (writeString_any b l s w h.bld (by omega)).mono fun _ _ ⟨hv, hb, h1, h2⟩ => ⟨hv, h.go ⟨hb, h1, fun _ _ _ h3 h4 hr => others_row h2 hr h3 h4⟩⟩

set_option maxRecDepth 100000 in
set_option maxHeartbeats 1000000 in
theorem openK (b : Nat) (l : List UInt8) (c : UInt8) (x : Int) (hx : x = (c.toNat : Int)) (z : Int) (hz : Dig z) (w0 w : World) (h : Bk b l w0 w) (hl : l.length ≤ 90000) :
    Calls Tryz.prog 250 #[.pointer (some ⟨b, 0, none⟩), .int .u8 x, .int .i64 z] w fun e w' => e = .returned (.tuple #[]) ∧ Bk b (l ++ ([c] ++ dg z ++ [40])) w0 w' := by
  have Hln : (dg z).length = 1 := rfl
  have Hx := Lib.hid hx
  have Hz := Lib.hid hz
  have HB := Lib.hid h
  clear h hx hz
  go_enter Tryz.func250, Tryz.ntmps250
  go_wp2_with fail
  refine (wbK b l c x Hx.out w0 w HB.out (by omega)).mono ?_
  rintro e w1 ⟨⟨v1, rfl⟩, hB1⟩
  have HB1 := Lib.hid hB1
  clear hB1 HB
  go_wp2_with fail
  refine (itoa_dig z Hz.out w1).mono ?_
  rintro e w2 ⟨rfl, rfl⟩
  go_wp2_with fail
  refine (wsK b (l ++ [c]) (dg z) w0 w2 HB1.out (by simp; omega) (by omega)).mono ?_
  rintro e w3 ⟨⟨v3, rfl⟩, hB3⟩
  have HB3 := Lib.hid hB3
  clear hB3 HB1
  go_wp2_with fail
  refine (wbK b (l ++ [c] ++ dg z) 40 40 rfl w0 w3 HB3.out (by simp; omega)).mono ?_
  rintro e w4 ⟨⟨v4, rfl⟩, hB4⟩
  have HB4 : Hid (Bk b (l ++ ([c] ++ dg z ++ [40])) w0 w4) := by
    show Bk _ _ _ _
    have e : l ++ [c] ++ dg z ++ [40] = l ++ ([c] ++ dg z ++ [40]) := by simp
    rw [← e]
    exact hB4
  clear hB4 HB3
  go_wp2
  go_end0
  exact ⟨rfl, HB4.out⟩

theorem mkT_lit (k v : Int) : mkT (.lit k v) = dg k ++ [58] ++ dg v := rfl
theorem mkT_lit_len (k v : Int) : (mkT (.lit k v)).length = 3 := rfl
theorem litTx (k v : Int) (hk : Dig k) (hv : Dig v) (w : World) :
    Calls Tryz.prog 242 #[.agg #[.int .i64 k, .int .i64 v]] w fun e w' => e = .returned (.string (str (mkT (.lit k v)))) ∧ Below w.heap.size w w' := by
  rw [mkT_lit]
  exact litText_any k v hk hv w
set_option maxRecDepth 100000 in
set_option maxHeartbeats 1000000 in
theorem litK (b : Nat) (l : List UInt8) (k v : Int) (hk : Dig k) (hv : Dig v) (w0 w : World) (h : Bk b l w0 w) (hl : l.length ≤ 90000) :
    Calls Tryz.prog 243 #[.agg #[.int .i64 k, .int .i64 v], .pointer (some ⟨b, 0, none⟩)] w fun e w' => e = .returned (.tuple #[]) ∧ Bk b (l ++ mkT (.lit k v)) w0 w' := by
  have HB := Lib.hid (h.alloc (.cells #[.int .i64 k, .int .i64 v] 145))
  have HL := Lib.hid (litTx k v hk hv)
  have r2 := Row.new w 145 [.int .i64 k, .int .i64 v]
  have m0 := r2.cell 0
  have m1 := r2.cell 1
  simp only [List.getElem?_cons_zero, List.getElem?_cons_succ] at m0 m1
  have hXl := mkT_lit_len k v
  generalize mkT (.lit k v) = X at HL hXl ⊢
  clear h hk hv r2
  go_enter Tryz.func243, Tryz.ntmps243
  go_wp2_with fail
  refine (HL.out _).mono ?_
  rintro e w1 ⟨rfl, hb1⟩
  have HB1 := Lib.hid (HB.out.under hb1)
  clear hb1 HB m0 m1
  go_wp2_with fail
  refine (wsK b l X w0 w1 HB1.out (by omega) (by omega)).mono ?_
  rintro e w2 ⟨⟨v2, rfl⟩, hB2⟩
  have HB2 := Lib.hid hB2
  clear hB2 HB1
  go_wp2
  go_end0
  exact ⟨rfl, HB2.out⟩
theorem litK' (b : Nat) (l : List UInt8) {y : Sy} {m : Mk} {o : Value} {u : World} {B : Nat} (hm : MNodeAt u B m o) (hl' : litM m = true) (hok : MkOk y m) : ∃ x, o = .iface 145 x ∧ ∀ (w0 w : World), Bk b l w0 w → l.length ≤ 90000 →
    Calls Tryz.prog 243 #[x, .pointer (some ⟨b, 0, none⟩)] w fun e w' => e = .returned (.tuple #[]) ∧ Bk b (l ++ mkT m) w0 w' := by
  cases m with
  | lit k v => exact ⟨_, hm, fun w0 w h hl => litK b l k v hok.1 hok.2.1 w0 w h hl⟩
  | co i m => cases hl'
  | a0 i => cases hl'
  | a1 i m => cases hl'
  | a2 i m p => cases hl'

set_option maxRecDepth 100000 in
set_option maxHeartbeats 1000000 in
theorem coK (b : Nat) (l : List UInt8) {y : Sy} {i : Nat} {m : Mk} {o : Value} {u : World} {B : Nat} (hm : MNodeAt u B m o) (hl' : litM m = true) (hok : MkOk y (.co i m)) (w0 w : World) (h : Bk b l w0 w) (hl : l.length ≤ 1000) :
    Calls Tryz.prog 249 #[.agg #[.int .i64 i, o], .pointer (some ⟨b, 0, none⟩)] w fun e w' => e = .returned (.tuple #[]) ∧ Bk b (l ++ mkT (.co i m)) w0 w' := by
  obtain ⟨x, rfl, hw⟩ := litK' b (l ++ ([35] ++ dg i ++ [40])) hm hl' hok.2.2.1
  have hmeth : ∀ u : World, (Go.method 436 145 x "loop.example/overloads/impl.write").run Tryz.prog u = .ok (243, x) u := fun u => by kernel_rfl
  have hnil : ∀ u : World, (Go.nilAhead 436 145 x "loop.example/overloads/impl.write").run Tryz.prog u = .ok (some false) u := fun u => by kernel_rfl
  have hent : ∀ (args : Array Value) (u : World), (callFunc 243 args).run Tryz.prog u = .ok (.enter 243 args) u := enters_of Tryz.func243 (by kernel_rfl) rfl
  have hd : Dig (i : Int) := by have := hok.2.1; unfold Dig; omega
  have hml : (mkT m).length = 3 := by cases m <;> first | rfl | cases hl'
  have Hd := Lib.hid hd
  have HW := Lib.hid hw
  have HB := Lib.hid (h.alloc (.cells #[.int .i64 i, .iface 145 x] 160))
  have r2 := Row.new w 160 [.int .i64 i, .iface 145 x]
  have m0 := r2.cell 0
  have hbw := h.bld.lt
  simp only [List.getElem?_cons_zero] at m0
  have HR := Lib.hid r2
  clear h hd r2 hm hok hw
  go_enter Tryz.func249, Tryz.ntmps249
  go_wp2_with fail
  refine (openK b l 35 35 rfl (i : Int) Hd.out _ _ (Bk.refl HB.out.bld) (by omega)).mono ?_
  rintro e w1 ⟨rfl, hB1⟩
  have HB1 := Lib.hid (HB.out.go hB1)
  have r3 := hB1.row _ _ _ (by omega) (by decide) HR.out
  have m1 := r3.cell 1
  simp only [List.getElem?_cons_zero, List.getElem?_cons_succ] at m1
  clear hB1 HB m0 HR r3
  go_wp2_with fail
  refine (HW.out w0 w1 HB1.out (by simp [dg]; omega)).mono ?_
  rintro e w2 ⟨rfl, hB2⟩
  have HB2 := Lib.hid hB2
  clear hB2 HB1
  go_wp2_with fail
  refine (wbK b (l ++ ([35] ++ dg i ++ [40]) ++ mkT m) 41 41 rfl w0 w2 HB2.out (by simp [dg]; omega)).mono ?_
  rintro e w3 ⟨⟨v3, rfl⟩, hB3⟩
  have HB3 : Hid (Bk b (l ++ mkT (.co i m)) w0 w3) := by
    show Bk _ _ _ _
    have e : l ++ ([35] ++ dg i ++ [40]) ++ mkT m ++ [41] = l ++ mkT (.co i m) := by simp [mkT]
    rw [← e]
    exact hB3
  clear hB3 HB2
  go_wp2
  go_end0
  exact ⟨rfl, HB3.out⟩
/-- The first parts of a call, a comma between. -/
def parT (ts : List Mk) : Nat → List UInt8
  | 0 => []
  | k + 1 => parT ts k ++ (if k = 0 then [] else [44]) ++ ((ts[k]?.map mkT).getD [])
theorem parT_all {m : Mk} (h : isApM m = true) : mkT m = [64] ++ dg (ixM m) ++ [40] ++ parT (partsM m) (partsM m).length ++ [41] := by
  cases m with
  | lit k v => cases h
  | co i m => cases h
  | a0 i => simp [mkT, ixM, partsM, parT]
  | a1 i m => simp [mkT, ixM, partsM, parT]
  | a2 i m q => simp [mkT, ixM, partsM, parT]
theorem parT_len {ts : List Mk} (h : ∀ p ∈ ts, (mkT p).length = 3) : ∀ k, (parT ts k).length ≤ 4 * k
  | 0 => by simp [parT]
  | k + 1 => by
    have h1 := parT_len h k
    have h2 : ((ts[k]?.map mkT).getD []).length ≤ 3 := by
      cases e : ts[k]? with
      | none => simp
      | some p => simp [h p (List.mem_of_getElem? e)]
    simp only [parT, List.length_append]
    split <;> simp <;> omega
theorem flat_parts {y : Sy} {m : Mk} (ha : isApM m = true) (hf : flatM m = true) (hok : MkOk y m) : (∀ p ∈ partsM m, litM p = true ∧ MkOk y p) ∧ ixM m ≤ 9 := by
  cases m with
  | lit k v => cases ha
  | co i m => cases ha
  | a0 i => exact ⟨fun p hp => by simp [partsM] at hp, hok.2.1⟩
  | a1 i m => exact ⟨fun p hp => by simp [partsM] at hp; subst hp; exact ⟨hf, hok.2.2.2.1⟩, hok.2.1⟩
  | a2 i m q =>
    simp only [flatM, Bool.and_eq_true] at hf
    refine ⟨fun p hp => ?_, hok.2.1⟩
    simp [partsM] at hp
    rcases hp with hp | hp
    · subst hp; exact ⟨hf.1, hok.2.2.2.1⟩
    · subst hp; exact ⟨hf.2, hok.2.2.2.2.1⟩
theorem litM_len {m : Mk} (h : litM m = true) : (mkT m).length = 3 := by cases m <;> first | rfl | cases h

set_option maxRecDepth 100000 in
set_option maxHeartbeats 4000000 in
theorem apK (b : Nat) (l : List UInt8) {y : Sy} {m : Mk} {o : Value} {u : World} {B : Nat} (hm : MNodeAt u B m o) (ha : isApM m = true) (hf : flatM m = true) (hok : MkOk y m) (w : World) (hu : Below u.heap.size u w) (hub : u.heap.size ≤ b) (h : Bld b l w) (hl : l.length ≤ 1000) :
    ∃ x, o = .iface 162 x ∧ Calls Tryz.prog 254 #[x, .pointer (some ⟨b, 0, none⟩)] w fun e w' => e = .returned (.tuple #[]) ∧ Bk b (l ++ mkT m) w w' := by
  obtain ⟨hpl, hi9⟩ := flat_parts ha hf hok
  have hall := parT_all ha
  obtain ⟨ps, vs, rfl, hown, hnods⟩ := hm.open ha
  obtain ⟨PA, PC, rfl⟩ := own_lt0 hown
  refine ⟨_, rfl, ?_⟩
  have hlen2 := partsM_two m
  generalize partsM m = ts at hown hnods hpl hall hlen2 ⊢
  generalize ixM m = i at hi9 hall ⊢
  generalize mkT m = X at hall ⊢
  have hd : Dig (i : Int) := by unfold Dig; omega
  have hgl : ∀ (x : Value) (u : World), (Go.method 436 145 x "loop.example/overloads/impl.write").run Tryz.prog u = .ok (243, x) u := fun x u => by kernel_rfl
  have hnil : ∀ (x : Value) (u : World), (Go.nilAhead 436 145 x "loop.example/overloads/impl.write").run Tryz.prog u = .ok (some false) u := fun x u => by kernel_rfl
  have hent : ∀ (args : Array Value) (u : World), (callFunc 243 args).run Tryz.prog u = .ok (.enter 243 args) u := enters_of Tryz.func243 (by kernel_rfl) rfl
  have Hd := Lib.hid hd
  have Hall := Lib.hid hall
  have Hown := Lib.hid hown
  have Hnods := Lib.hid hnods
  have Hpl := Lib.hid hpl
  have Hln := Lib.hid (parT_len fun p hp => litM_len (hpl p hp).1)
  have HU := Lib.hid hu
  have hub' := hub
  have HB := Lib.hid ((Bk.refl h).alloc (.cells #[.int .i64 i, .slice PA ts.length PC] 162))
  have r2 := Row.new w 162 [.int .i64 i, .slice PA ts.length PC]
  have m0 := r2.cell 0
  have hbw := h.lt
  simp only [List.getElem?_cons_zero] at m0
  have HR := Lib.hid r2
  clear h hd r2 hm hok hown hnods hpl hall hu ha hf hi9
  go_enter Tryz.func254, Tryz.ntmps254
  go_wp2_with fail
  refine (openK b l 64 64 rfl (i : Int) Hd.out _ _ (Bk.refl HB.out.bld) (by omega)).mono ?_
  rintro e w1 ⟨rfl, hB1⟩
  have HB1 := Lib.hid (HB.out.go hB1)
  have r3 := hB1.row _ _ _ (by omega) (by decide) HR.out
  have m1 := r3.cell 1
  simp only [List.getElem?_cons_zero, List.getElem?_cons_succ] at m1
  clear hB1 HB m0 HR r3
  obtain ⟨P, hP⟩ : ∃ P, P = l ++ ([64] ++ dg (i : Int) ++ [40]) := ⟨_, rfl⟩
  have hPl : P.length ≤ 1010 := by rw [hP]; simp [dg]; omega
  rw [← hP] at HB1
  have HX : Hid (P ++ parT ts ts.length ++ [41] = l ++ X) := by show _ = _; rw [Hall.out, hP]; simp
  clear hP Hd Hall
  go_wp2_with fail
  go_loopw [13] (fun i wr => ∃ k : Nat, k ≤ ts.length ∧ i = .int .i64 k ∧ Hid (Bk b (P ++ parT ts k) w wr)) (fun i _ => ts.length - (intOf i).toNat)
  case atStart =>
    refine ⟨0, Nat.zero_le _, rfl, ?_⟩
    show Bk _ _ _ _
    simpa [parT] using HB1.out
  case round =>
    obtain ⟨k, hk, rfl, hbk⟩ := hrel
    have hkl4 := Hln.out k
    clear HB1 m1
    by_cases hkl : k < ts.length
    · obtain ⟨g, hPA, hcell⟩ := own_at7 Hown.out k hkl
      obtain ⟨v, hv, hnv⟩ := Hnods.out.at k hkl
      rw [hv] at hcell
      subst hPA
      have hgl2 := World.block_lt_of_cell? _ _ hcell
      have hcell2 := ((HU.out.trans (hbk.out.bel.mono hub')).cell (p := ⟨g, k, none⟩) hgl2).trans hcell
      obtain ⟨hlit, hokk⟩ := Hpl.out ts[k] (List.getElem_mem hkl)
      have e1 : Hid (parT ts (k + 1) = parT ts k ++ (if k = 0 then [] else [44]) ++ mkT ts[k]) := by
        show _ = _
        rw [parT, List.getElem?_eq_getElem hkl]
        rfl
      clear hcell hv
      by_cases hk0 : k = 0
      · subst hk0
        obtain ⟨x, rfl, hw⟩ := litK' b (P ++ parT ts 0) hnv hlit hokk
        have HW := Lib.hid hw
        clear hnv hokk hw
        go_wp2_with fail
        refine (HW.out w wr hbk.out (by simp; omega)).mono ?_
        rintro e w2 ⟨rfl, hB2⟩
        have HB2 : Hid (Bk b (P ++ parT ts (0 + 1)) w w2) := by
          show Bk _ _ _ _
          rw [e1.out]
          simpa using hB2
        clear hB2 hbk e1
        go_wp2
        go_roundw
        case rel => exact ⟨0 + 1, by omega, by go_num, HB2.out⟩
        case measure => simp [intOf]; omega
      · obtain ⟨x, rfl, hw⟩ := litK' b (P ++ parT ts k ++ [44]) hnv hlit hokk
        have HW := Lib.hid hw
        have hk1 : (0 : Int) < (k : Int) := by omega
        clear hnv hokk hw
        go_wp2_with fail
        refine (wbK b (P ++ parT ts k) 44 44 rfl w wr hbk.out (by simp; omega)).mono ?_
        rintro e w2 ⟨⟨v2, rfl⟩, hB2⟩
        have HB2 := Lib.hid hB2
        clear hB2 hbk
        go_wp2_with fail
        refine (HW.out w w2 HB2.out (by simp; omega)).mono ?_
        rintro e w3 ⟨rfl, hB3⟩
        have HB3 : Hid (Bk b (P ++ parT ts (k + 1)) w w3) := by
          show Bk _ _ _ _
          rw [e1.out, if_neg hk0]
          simpa using hB3
        clear hB3 HB2 e1
        go_wp2
        go_roundw
        case rel => exact ⟨k + 1, by omega, by go_num, HB3.out⟩
        case measure => simp [intOf]; omega
    · obtain rfl : k = ts.length := by omega
      go_wp2_with fail
      refine (wbK b (P ++ parT ts ts.length) 41 41 rfl w wr hbk.out (by simp; omega)).mono ?_
      rintro e w2 ⟨⟨v2, rfl⟩, hB2⟩
      rw [HX.out] at hB2
      have HB2 := Lib.hid hB2
      clear hB2 hbk
      go_wp2
      go_end0
      exact ⟨rfl, HB2.out⟩

set_option maxRecDepth 100000 in
set_option maxHeartbeats 1000000 in
theorem madeText_any {y : Sy} {m : Mk} {o : Value} {u : World} {B : Nat} (hm : MNodeAt u B m o) (hf : flatM m = true) (hok : MkOk y m) (w : World) (hu : Below u.heap.size u w) :
    Calls Tryz.prog 42 #[o] w fun e w' => e = .returned (.string (str (mkT m))) ∧ Below w.heap.size w w' := by
  obtain ⟨T, x, f, rfl, hmeth, hnil, hent, hw⟩ : ∃ T x f, o = .iface T x ∧ (∀ u : World, (Go.method 436 T x "loop.example/overloads/impl.write").run Tryz.prog u = .ok (f, x) u) ∧ (∀ u : World, (Go.nilAhead 436 T x "loop.example/overloads/impl.write").run Tryz.prog u = .ok (some false) u) ∧ (∀ (args : Array Value) (u : World), (callFunc f args).run Tryz.prog u = .ok (.enter f args) u) ∧
      Calls Tryz.prog f #[x, .pointer (some ⟨w.heap.size, 0, none⟩)] (w.alloc (.cells #[.pointer none, .slice none 0 0] 119)) fun e w' => e = .returned (.tuple #[]) ∧ Bk w.heap.size ([] ++ mkT m) (w.alloc (.cells #[.pointer none, .slice none 0 0] 119)) w' := by
    have hb0 : Below u.heap.size u (w.alloc (.cells #[.pointer none, .slice none 0 0] 119)) := hu.alloc hu.size _
    cases ha : isApM m with
    | true =>
      obtain ⟨x, rfl, h⟩ := apK w.heap.size [] hm ha hf hok _ hb0 hu.size (Bld.new w) (by simp)
      exact ⟨_, _, 254, rfl, fun u => by kernel_rfl, fun u => by kernel_rfl, enters_of Tryz.func254 (by kernel_rfl) rfl, h⟩
    | false =>
      cases m with
      | co i m =>
        obtain ⟨v, rfl, hm⟩ := hm
        exact ⟨_, _, 249, rfl, fun u => by kernel_rfl, fun u => by kernel_rfl, enters_of Tryz.func249 (by kernel_rfl) rfl, coK w.heap.size [] hm hf hok _ _ (Bk.refl (Bld.new w)) (by simp)⟩
      | lit k v => cases hf
      | a0 i => cases ha
      | a1 i m => cases ha
      | a2 i m q => cases ha
  have HW := Lib.hid hw
  rw [List.nil_append] at HW
  have HB0 := Lib.hid ((Below.refl w.heap.size w).alloc (Nat.le_refl _) (.cells #[.pointer none, .slice none 0 0] 119))
  clear hw hm hok hu hf
  generalize mkT m = X at HW ⊢
  go_enter Tryz.func42, Tryz.ntmps42
  go_wp2_with fail
  refine HW.out.mono ?_
  rintro e w2 ⟨rfl, hB2⟩
  have HB2 := Lib.hid hB2.bld
  have HW2 := Lib.hid (HB0.out.trans hB2.bel)
  clear hB2 HW HB0
  go_wp2_with fail
  refine (bldString_any w.heap.size X w2 HB2.out).mono ?_
  rintro e w3 ⟨rfl, hb3⟩
  have HW3 := Lib.hid (HW2.out.trans hb3)
  clear hb3 HB2 HW2
  go_wp2
  go_ret
  exact ⟨rfl, HW3.out⟩
end Go.Proofs.YtgkfddhhkjblgaaGreatDoor

