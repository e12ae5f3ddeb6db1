/-
  The contracts of ShortestWay, the program's and the model's.
-/
import Derived.Test.YtabipfomcldkiaaW3
import Derived.Test.YtabipfomcldkiaaW4
import Derived.BigQuiet
namespace Go.Proofs.Ytabipfomcldkiaa
open Go.RowKit
attribute [local go_sem] Oper.semAt_some

/-- The first one of the shortest. -/
def pickS : Option (List Int) → List Int → Option (List Int)
  | none, z => some z
  | some y, z => if z.length < y.length then some z else some y
def shortO (s : List (List Int)) : Option (List Int) := s.foldl pickS none
theorem shortO_nil : shortO [] = none := rfl
theorem shortO_snoc (s : List (List Int)) (z : List Int) : shortO (s ++ [z]) = pickS (shortO s) z := by simp [shortO, List.foldl_append]
theorem pickS_some (y z : List Int) : ∃ x, pickS (some y) z = some x ∧ (x = y ∨ x = z) := by
  by_cases h : z.length < y.length
  · exact ⟨z, by simp [pickS, h], .inr rfl⟩
  · exact ⟨y, by simp [pickS, h], .inl rfl⟩
theorem foldS (s : List (List Int)) : ∀ y, ∃ x, s.foldl pickS (some y) = some x ∧ (x = y ∨ x ∈ s) := by
  induction s with
  | nil => intro y; exact ⟨y, rfl, .inl rfl⟩
  | cons z s ih =>
    intro y
    obtain ⟨u, hu, hor⟩ := pickS_some y z
    obtain ⟨x, hx, hor2⟩ := ih u
    refine ⟨x, by rw [List.foldl_cons, hu]; exact hx, ?_⟩
    rcases hor2 with rfl | h
    · rcases hor with rfl | rfl
      · exact .inl rfl
      · exact .inr (by simp)
    · exact .inr (List.mem_cons_of_mem _ h)
theorem shortO_some (s : List (List Int)) (hs : s ≠ []) : ∃ y, shortO s = some y := by
  cases s with
  | nil => exact absurd rfl hs
  | cons z s =>
    obtain ⟨x, hx, _⟩ := foldS s z
    exact ⟨x, hx⟩
theorem shortO_mem (s : List (List Int)) (y : List Int) (h : shortO s = some y) : y ∈ s := by
  cases s with
  | nil => cases h
  | cons z s =>
    obtain ⟨x, hx, hor⟩ := foldS s z
    have h2 : s.foldl pickS (some z) = some y := h
    rw [hx] at h2
    simp only [Option.some.injEq] at h2
    subst h2
    rcases hor with rfl | h
    · simp
    · exact List.mem_cons_of_mem _ h
def shortV (t : Ty) (a b : Int) : List Int := if typesB t a b = true then (shortO (waysOf t a b)).getD [] else []
theorem shortV_yes {t : Ty} {a b : Int} (h : typesB t a b = true) : shortV t a b = (shortO (waysOf t a b)).getD [] := by unfold shortV; rw [if_pos h]
theorem shortV_no {t : Ty} {a b : Int} (h : typesB t a b = false) : shortV t a b = [] := by unfold shortV; rw [if_neg (by simp [h])]
theorem short_wf {t : Ty} (h : tyOk t = true) (a b : Int) (y : List Int) (hy : y ∈ waysOf t a b) : (∀ z ∈ y, I64 z) ∧ y.length ≤ 5 :=
  ⟨waysF_wf (tyOk_few h) 5 a b y hy, by have := waysF_short 5 a b y hy; omega⟩
theorem shortV_wf (t : Ty) (a b : Int) : (∀ z ∈ shortV t a b, I64 z) ∧ (shortV t a b).length ≤ 5 := by
  by_cases h : typesB t a b = true
  · rw [shortV_yes h]
    cases hs : shortO (waysOf t a b) with
    | none => exact ⟨fun z hz => absurd hz (by simp), by simp⟩
    | some y => exact short_wf (typesB_of h).1 a b y (shortO_mem _ y hs)
  · rw [shortV_no (by simpa using h)]
    exact ⟨fun z hz => absurd hz (by simp), by simp⟩

set_option maxRecDepth 100000 in
set_option maxHeartbeats 2000000 in
theorem l2Shortest_any (lo hi : Nat) (sv cv : Value) (t : Ty) (a b : Int) (w : World) (hv : TyAt w lo hi sv cv t) (hB : hi ≤ w.heap.size) (htb : typesB t a b = true) :
    Calls Try.prog 73 #[.agg #[sv, cv], .int .i64 a, .int .i64 b] w fun e w' => ∃ v, e = .returned (.tuple #[v, .bool (canC t a b)]) ∧ Below w.heap.size w w' ∧ IntsAt w' w.heap.size w'.heap.size v (shortV t a b) := by
  obtain ⟨A, cap, rfl, hl1, hm1, _⟩ := hv.1.form
  obtain ⟨B, bap, rfl, hl2, hm2, _⟩ := hv.2.form
  have hok := (typesB_of htb).1
  have h3 : Below w.heap.size w ((w.alloc (.cells #[.slice A t.sizes.length cap, .slice B t.cos.length bap] 26)).alloc (.cells #[] 3)) := by go_grown
  have hv3 := Lib.hid (hv.below h3 hB)
  have H3 := Lib.hid h3
  have hval := Lib.hid (shortV_yes htb)
  have hcan : Hid (canC t a b = decide (0 < (waysOf t a b).length)) := by show _ = _; unfold canC canB; rw [htb, Bool.true_and]
  have hwl := waysOf_len hok a b
  have hshort := Lib.hid (fun y (hy : y ∈ waysOf t a b) => (short_wf hok a b y hy).2)
  have Htb := Lib.hid htb
  clear hv h3 htb
  go_enter Try.func73, Try.ntmps73
  go_wp2_with fail
  refine (l2Ways_any lo hi _ _ t a b _ hv3.out (by simp; omega) Htb.out).mono ?_
  rintro e w1 ⟨ov, rfl, hb1, xs, S, hown, hints, hS⟩
  have hb1' := H3.out.trans (hb1.mono (by simp; omega))
  have hs1 := hb1.size
  simp only [World.size_alloc] at hs1
  have hcell : ∀ j, ∀ (hj : j < (waysOf t a b).length), ∃ g A2 c2, ov = .slice (some ⟨g, 0, none⟩) (waysOf t a b).length (match ov with | .slice _ _ c => c | _ => 0) ∧ w1.cell? ⟨g, j, none⟩ = some (.slice A2 (waysOf t a b)[j].length c2) ∧ IntsAt w1 w.heap.size w1.heap.size (.slice A2 (waysOf t a b)[j].length c2) (waysOf t a b)[j] := by
    intro j hj
    obtain ⟨x, hx, hz⟩ := hints j hj
    obtain ⟨_, ⟨_, h0⟩ | ⟨g, cap', cur, rfl, hrest⟩⟩ := hown
    · omega
    · have hc := World.ownsRow.cells (⟨‹_›, .inr ⟨g, cap', cur, rfl, hrest⟩⟩ : w1.ownsRow _ 23 1 (.slice (some ⟨g, 0, none⟩) (waysOf t a b).length cap') (waysOf t a b).length xs) (g := g) rfl j x hx
      have hat := hz.at (lo := w.heap.size) (hi := w1.heap.size) fun b hb => ⟨by have := (hS b hb).1; simp at this; omega, (hS b hb).2.1⟩
      obtain ⟨A2, c2, rfl, _, _, hat2⟩ := hat.form
      rw [Go.WideShapes.add_plain, Nat.zero_add] at hc
      exact ⟨_, A2, c2, rfl, hc, hat2⟩
  obtain ⟨OA, OC, rfl⟩ := owns_form hown
  have Hcell := Lib.hid hcell
  have Hb1 := Lib.hid hb1'
  clear hb1 hb1' hown hints hS hcell
  have hemp : Hid (IntsAt w1 w.heap.size w1.heap.size (.slice (some ⟨w.heap.size + 1, 0, none⟩) 0 0) []) := ⟨_, 0, rfl, Nat.le_refl _, Nat.zero_le _, fun z hz => absurd hz (by simp), fun h => absurd h (by simp)⟩
  go_wp2
  go_loopw [8, 19] (fun l i wr => ∃ (j : Nat) (A3 : Option Addr) (c3 : Nat), j ≤ (waysOf t a b).length ∧ i = .int .i64 j ∧ w1 = wr ∧ l = .slice A3 ((shortO ((waysOf t a b).take j)).getD []).length c3 ∧ Hid (IntsAt w1 w.heap.size w1.heap.size l ((shortO ((waysOf t a b).take j)).getD []))) (fun _ i _ => (waysOf t a b).length - (intOf i).toNat)
  case atStart => exact ⟨0, _, 0, Nat.zero_le _, rfl, rfl, rfl, hemp⟩
  case round =>
    obtain ⟨j, A3, c3, hj, rfl, rfl, rfl, hcur⟩ := hrel
    by_cases hlt : j < (waysOf t a b).length
    · obtain ⟨OA', A2, c2, e1, cz, hat⟩ := Hcell.out j hlt
      simp only [Value.slice.injEq, and_true] at e1
      subst e1
      have htake : (waysOf t a b).take (j + 1) = (waysOf t a b).take j ++ [(waysOf t a b)[j]] := List.take_succ_eq_append_getElem hlt
      have hsn := shortO_snoc ((waysOf t a b).take j) (waysOf t a b)[j]
      rw [← htake] at hsn
      have hl5 := hshort.out _ (List.getElem_mem hlt)
      have Hat := Lib.hid hat
      clear hat htake
      by_cases hj0 : j = 0
      · subst hj0
        have hnext : Hid (IntsAt w1 w.heap.size w1.heap.size (.slice A2 (waysOf t a b)[0].length c2) ((shortO ((waysOf t a b).take (0 + 1))).getD [])) := by
          show IntsAt _ _ _ _ _
          rw [hsn]
          exact Hat.out
        have hlen : ((shortO ((waysOf t a b).take (0 + 1))).getD []).length = (waysOf t a b)[0].length := by rw [hsn]; rfl
        clear hsn
        go_wp2
        go_roundw
        case rel => exact ⟨0 + 1, _, _, by omega, by go_num, trivial, by rw [hlen], hnext⟩
        case measure => simp [intOf]; omega
      · obtain ⟨y, hy⟩ := shortO_some ((waysOf t a b).take j) (by intro e; have h := congrArg List.length e; simp only [List.length_take, List.length_nil] at h; omega)
        rw [hy] at hsn hcur
        simp only [hy, Option.getD_some] at hcur ⊢
        have hy5 := hshort.out y (List.mem_of_mem_take (shortO_mem _ y hy))
        by_cases hless : (waysOf t a b)[j].length < y.length
        · have hnext : Hid (IntsAt w1 w.heap.size w1.heap.size (.slice A2 (waysOf t a b)[j].length c2) ((shortO ((waysOf t a b).take (j + 1))).getD [])) := by
            show IntsAt _ _ _ _ _
            rw [hsn, pickS, if_pos hless]
            exact Hat.out
          have hlen : ((shortO ((waysOf t a b).take (j + 1))).getD []).length = (waysOf t a b)[j].length := by rw [hsn, pickS, if_pos hless]; rfl
          have hjz : ((j : Int) == 0) = false := by simpa using hj0
          clear hsn
          go_wp2
          go_roundw
          case rel => exact ⟨j + 1, _, _, by omega, by go_num, trivial, by rw [hlen], hnext⟩
          case measure => simp [intOf]; omega
        · have hnext : Hid (IntsAt w1 w.heap.size w1.heap.size (.slice A3 y.length c3) ((shortO ((waysOf t a b).take (j + 1))).getD [])) := by
            show IntsAt _ _ _ _ _
            rw [hsn, pickS, if_neg hless]
            exact hcur.out
          have hlen : ((shortO ((waysOf t a b).take (j + 1))).getD []).length = y.length := by rw [hsn, pickS, if_neg hless]; rfl
          have hjz : ((j : Int) == 0) = false := by simpa using hj0
          clear hsn
          go_wp2
          go_roundw
          case rel => exact ⟨j + 1, _, _, by omega, by go_num, trivial, by rw [hlen], hnext⟩
          case measure => simp [intOf]; omega
    · obtain rfl : j = (waysOf t a b).length := by omega
      have hfin : Hid (IntsAt w1 w.heap.size w1.heap.size (.slice A3 ((shortO ((waysOf t a b).take (waysOf t a b).length)).getD []).length c3) (shortV t a b)) := by
        show IntsAt _ _ _ _ _
        rw [hval.out]
        have h := hcur.out
        rw [List.take_length] at h ⊢
        exact h
      clear hcur
      by_cases h0 : 0 < (waysOf t a b).length
      · have hc2 : Hid (canC t a b = true) := by show _ = _; rw [hcan.out]; simpa using h0
        go_wp2
        refine bodyPost_ret (v := .tuple #[.slice A3 ((shortO ((waysOf t a b).take (waysOf t a b).length)).getD []).length c3, .bool true]) (by simp [results, Try.results73, go_sem]) rfl ?_
        exact ⟨_, by rw [hc2.out], Hb1.out, hfin.out⟩
      · have hc2 : Hid (canC t a b = false) := by show _ = _; rw [hcan.out]; simpa using h0
        go_wp2
        refine bodyPost_ret (v := .tuple #[.slice A3 ((shortO ((waysOf t a b).take (waysOf t a b).length)).getD []).length c3, .bool false]) (by simp [results, Try.results73, go_sem]) rfl ?_
        exact ⟨_, by rw [hc2.out], Hb1.out, hfin.out⟩
end Go.Proofs.Ytabipfomcldkiaa

