/-
  The contract of the model's function that copies types.
-/
import Derived.Test.YtilcahidmoaakaaRows
import Derived.Test.YtilcahidmoaakaaOwn
import Derived.Test.YtilcahidmoaakaaTo
import Derived.Outline
import Derived.Handy
import Derived.Lib.SliceRun
import Derived.Laws.AppendOwnNone
import Derived.BigRegion
import Derived.Deep.RegionLaw
import Derived.Deep.AppendLies
import Derived.Deep.DeepCutAuto
namespace Go.Proofs.Ytilcahidmoaakaa
open Go.RowKit

/-- A value that owns a copy of these numbers. -/
def Cloned (base : Nat) (zs : List Int) (w : World) (e : Ending) (w' : World) : Prop := ∃ v, e = .returned v ∧ Below base w w' ∧ w'.ownsRow base 3 1 v zs.length (zs.map (Value.int .i64))

theorem ints_oneCell' (zs : List Int) : ∀ u ∈ zs.map (Value.int .i64), u.oneCell' = true := by
  intro u hu
  obtain ⟨z, _, rfl⟩ := List.mem_map.1 hu
  rfl
theorem IntsAt.cells {w : World} {lo hi cap n : Nat} {ad : Addr} {zs : List Int} (h : IntsAt w lo hi (.slice (some ad) n cap) zs) : ∀ j u, (zs.map (Value.int .i64))[j]? = some u → w.cell? (ad.add j) = some u := by
  intro j u hj
  have hjl : j < zs.length := by
    have := (List.getElem?_eq_some_iff.1 hj).1
    simpa using this
  obtain ⟨b, off, e, _, _, hc, _⟩ := h.at_ hjl
  injection e with e
  subst e
  rw [Go.WideShapes.add_plain, hc]
  rw [List.getElem?_map, List.getElem?_eq_getElem hjl] at hj
  simpa using hj

set_option maxRecDepth 100000 in
set_option maxHeartbeats 1000000 in
theorem clone_any (lo hi : Nat) (v : Value) (zs : List Int) (w : World) (hv : IntsAt w lo hi v zs) (hB : hi ≤ w.heap.size) (hlen : zs.length ≤ 1048576) :
    Calls Try.prog 157 #[v] w (Cloned w.heap.size zs w) := by
  obtain ⟨A, cap, rfl, hl, hm, hz⟩ := hv.form
  obtain ⟨i0, hi0, hz0, hz1, hz2⟩ := info_parts Try.infoInt
  have heq := fun wx => Lib.run_eql_slice_nil (P := Try.prog) wx 22 3 A zs.length cap 0 0 Try.underlying22
  rcases A with _ | ad
  · have hn : zs = [] := by
      rcases zs with _ | ⟨z, zs⟩
      · rfl
      · obtain ⟨b, off, e, _⟩ := hz.at_ (k := 0) (by simp)
        cases e
    subst hn
    clear hz hv
    simp only [Option.isNone_none, List.length_nil] at heq
    go_enter Try.func157, Try.ntmps157
    go_wp2
    go_ret
    exact ⟨_, rfl, Below.refl _ _, World.ownsRow_nil _ _ _ _⟩
  · have h0 := World.ownsRow_lit (base := w.heap.size) (e := 3) (size := 1) w #[] 0 (Nat.le_refl _) (by unfold maxLen; omega) rfl
    have hb0 : Below w.heap.size w (w.alloc (.cells #[] 3)) := by go_grown
    have H0 := Lib.hid h0
    have Hc := Lib.hid (hz.below hb0 hB).cells
    have Hb0 := Lib.hid hb0
    clear h0 hz hv hb0
    go_enter Try.func157, Try.ntmps157
    go_wp2_with (at_builtin; refine wpList_append_own _ rfl (.tmp 5) (.tmp 6) 22 rfl w.heap.size 3 i0 (.int .i64 0) 1 8 Try.underlying22 hi0 hz0 hz1 hz2 rfl (by decide) _ _ _ rfl H0.out ad zs.length cap (zs.map (Value.int .i64)) rfl (by simp) Hc.out (ints_oneCell' zs) (by unfold maxLen; omega) (by omega) (by simp) ?_; intro v' w2 hown2 hgrow _)
    go_ret
    refine ⟨_, rfl, Hb0.out.grown hgrow (by simp) (fun k hk => ?_), ?_⟩
    · have h : (some w.heap.size : Option Nat) = some k := hk
      injection h with h
      omega
    · simpa using hown2

/-- The value of a coercion with a map of its own. -/
def Copied (base : Nat) (c : Co) (w : World) (e : Ending) (w' : World) : Prop := ∃ v, e = .returned (.agg #[.int .i64 c.src, .int .i64 c.dst, v]) ∧ Below base w w' ∧ w'.ownsRow base 3 1 v c.map.length (c.map.map (Value.int .i64))

theorem ownsRow_keep {w w' : World} {base : Nat} {t : TypeId} {size : Nat} {v : Value} {n : Nat} {xs : List Value} (h : w.ownsRow base t size v n xs) (hk : ∀ g, base ≤ g → g < w.heap.size → w'.heap[g]? = w.heap[g]?) : w'.ownsRow base t size v n xs := by
  obtain ⟨h1, h2 | ⟨g, cap, cur, e, hg, hh, r⟩⟩ := h
  · exact ⟨h1, .inl h2⟩
  · have hlt : g < w.heap.size := by
      rcases Nat.lt_or_ge g w.heap.size with hlt | hge
      · exact hlt
      · rw [Array.getElem?_eq_none hge] at hh; cases hh
    exact ⟨h1, .inr ⟨g, cap, cur, e, hg, (hk g hg hlt).trans hh, r⟩⟩
theorem ownsRow_lower {w : World} {base base' : Nat} {t : TypeId} {size : Nat} {v : Value} {n : Nat} {xs : List Value} (h : w.ownsRow base t size v n xs) (hb : base' ≤ base) : w.ownsRow base' t size v n xs := by
  obtain ⟨h1, h2 | ⟨g, cap, cur, e, hg, r⟩⟩ := h
  · exact ⟨h1, .inl h2⟩
  · exact ⟨h1, .inr ⟨g, cap, cur, e, by omega, r⟩⟩

set_option maxRecDepth 100000 in
set_option maxHeartbeats 1000000 in
theorem copied_any (lo hi : Nat) (x y z : Value) (c : Co) (w : World) (hv : CoAt w lo hi x y z c) (hB : hi ≤ w.heap.size) (hlen : c.map.length ≤ 1048576) :
    Calls Try.prog 118 #[.agg #[x, y, z]] w (Copied w.heap.size c w) := by
  obtain ⟨rfl, rfl, hs, hd, hz⟩ := hv
  obtain ⟨A, cap, rfl, _, _, hz⟩ := hz.form
  have h3 : Below w.heap.size w ((w.alloc (.cells #[.int .i64 c.src, .int .i64 c.dst, .slice A c.map.length cap] 67)).alloc (.cells #[.int .i64 0, .int .i64 0, .slice none 0 0] 67)) := by go_grown
  go_enter Try.func118, Try.ntmps118
  go_wp2_with fail
  refine (clone_any lo hi _ c.map _ (hz.below h3 hB) (by simp; omega) hlen).mono ?_
  rintro e w1 ⟨v, rfl, hb, hown⟩
  have hbel := Lib.hid (h3.trans (hb.mono (by simp; omega)))
  obtain ⟨hcl, hfr⟩ := bcell hb
  have hs1 := hb.size
  simp only [World.size_alloc] at hown hcl hfr hs1
  have hz1 : w.heap.size + 1 < w1.heap.size := by omega
  obtain ⟨u, hu, hup⟩ : ∃ u, v = u ∧ w1.ownsRow (w.heap.size + 1 + 1) 3 1 u c.map.length (c.map.map (Value.int .i64)) := ⟨v, rfl, hown⟩
  have hc2 : w1.cell? ⟨w.heap.size, 2, none⟩ = some (.slice A c.map.length cap) := by rw [hcl _ _ (by omega)]; simp [go_sem]
  have hc2' : ∀ u, (w1.setCell ⟨w.heap.size, 2, none⟩ u).cell? ⟨w.heap.size, 2, none⟩ = some u := fun u => World.cell?_setCell_same _ _ _ hc2
  have hd0 : w1.cell? ⟨w.heap.size + 1, 0, none⟩ = some (.int .i64 0) := by rw [hcl _ _ (by omega)]; simp [go_sem]
  have hd1 : w1.cell? ⟨w.heap.size + 1, 1, none⟩ = some (.int .i64 0) := by rw [hcl _ _ (by omega)]; simp [go_sem]
  have hd2 : w1.cell? ⟨w.heap.size + 1, 2, none⟩ = some (.slice none 0 0) := by rw [hcl _ _ (by omega)]; simp [go_sem]
  have Hown := Lib.hid hown
  clear hown hb hu hup h3
  obtain ⟨_, ⟨rfl, hn0⟩ | ⟨g, cap3, cur, rfl, hr⟩⟩ := Hown.out
  · clear hn0
    go_wp2
    refine bodyPost_ret (v := .agg #[.int .i64 c.src, .int .i64 c.dst, .slice none 0 0]) (by simp [results, Try.results118, go_sem, hd0, hd1, hd2]) rfl ?_
    refine ⟨_, rfl, ?_, ?_⟩
    · exact (((hbel.out.setCell (by dsimp only; omega) _).setCell (by dsimp only; omega) _).setCell (by dsimp only; omega) _).setCell (by dsimp only; omega) _
    · exact ownsRow_lower (ownsRow_keep Hown.out fun g hg hgl => (Below.heap_setCell _ _ _ _ (by dsimp only; omega)).trans ((Below.heap_setCell _ _ _ _ (by dsimp only; omega)).trans ((Below.heap_setCell _ _ _ _ (by dsimp only; omega)).trans (Below.heap_setCell _ _ _ _ (by dsimp only; omega))))) (by omega)
  · clear hr
    go_wp2
    refine bodyPost_ret (v := .agg #[.int .i64 c.src, .int .i64 c.dst, .slice (some ⟨g, 0, none⟩) c.map.length cap3]) (by simp [results, Try.results118, go_sem, hd0, hd1, hd2]) rfl ?_
    refine ⟨_, rfl, ?_, ?_⟩
    · exact (((hbel.out.setCell (by dsimp only; omega) _).setCell (by dsimp only; omega) _).setCell (by dsimp only; omega) _).setCell (by dsimp only; omega) _
    · exact ownsRow_lower (ownsRow_keep Hown.out fun g hg hgl => (Below.heap_setCell _ _ _ _ (by dsimp only; omega)).trans ((Below.heap_setCell _ _ _ _ (by dsimp only; omega)).trans ((Below.heap_setCell _ _ _ _ (by dsimp only; omega)).trans (Below.heap_setCell _ _ _ _ (by dsimp only; omega))))) (by omega)
end Go.Proofs.Ytilcahidmoaakaa

namespace Go.Proofs.Ytilcahidmoaakaa
open Go.RowKit

/-- The cells xs are k coercions f, whose maps lie in blocks of their own. -/
structure MapsOf (w : World) (base : Nat) (row : Option Nat) (f : Nat → Co) (k : Nat) (xs : List Value) (m : Nat → Nat) (mv : Nat → Value) : Prop where
  cells : ∀ i, i < k → xs[i * 3]? = some (.int .i64 (f i).src) ∧ xs[i * 3 + 1]? = some (.int .i64 (f i).dst) ∧ xs[i * 3 + 2]? = some (mv i)
  own : ∀ i, i < k → OwnI w 3 (m i) (mv i) (f i).map
  away : ∀ i, i < k → 0 < (f i).map.length → base ≤ m i ∧ m i < w.heap.size ∧ row ≠ some (m i) ∧ ∀ j, j < k → j ≠ i → 0 < (f j).map.length → m j ≠ m i

def CosOwned (w : World) (base : Nat) (l : Value) (f : Nat → Co) (k : Nat) : Prop :=
  ∃ xs m mv, w.ownsRow base 67 3 l k xs ∧ MapsOf w base l.ownBlock f k xs m mv

theorem MapsOf.keep {w w' : World} {base : Nat} {row : Option Nat} {f : Nat → Co} {k : Nat} {xs : List Value} {m : Nat → Nat} {mv : Nat → Value} (h : MapsOf w base row f k xs m mv)
    (hs : w.heap.size ≤ w'.heap.size) (hk : ∀ g, base ≤ g → g < w.heap.size → w'.heap[g]? = w.heap[g]?) : MapsOf w' base row f k xs m mv :=
  ⟨h.cells, fun i hi => (h.own i hi).keep fun h0 => hk _ (h.away i hi (by simpa using h0)).1 (h.away i hi (by simpa using h0)).2.1,
    fun i hi h0 => ⟨(h.away i hi h0).1, Nat.lt_of_lt_of_le (h.away i hi h0).2.1 hs, (h.away i hi h0).2.2⟩⟩
theorem CosOwned.keep {w w' : World} {base : Nat} {l : Value} {f : Nat → Co} {k : Nat} (h : CosOwned w base l f k)
    (hs : w.heap.size ≤ w'.heap.size) (hk : ∀ g, base ≤ g → g < w.heap.size → w'.heap[g]? = w.heap[g]?) : CosOwned w' base l f k := by
  obtain ⟨xs, m, mv, h1, h2⟩ := h
  exact ⟨xs, m, mv, ownsRow_keep h1 hk, h2.keep hs hk⟩
theorem CosOwned.nil (w : World) (base : Nat) (f : Nat → Co) : CosOwned w base (.slice none 0 0) f 0 :=
  ⟨[], fun _ => 0, fun _ => .slice none 0 0, World.ownsRow_nil _ _ _ _, fun i hi => absurd hi (by omega), fun i hi => absurd hi (by omega), fun i hi => absurd hi (by omega)⟩
theorem owns_lt {w : World} {base : Nat} {t : TypeId} {size : Nat} {v : Value} {n : Nat} {xs : List Value} (h : w.ownsRow base t size v n xs) : ∀ g, v.ownBlock = some g → base ≤ g ∧ g < w.heap.size := by
  intro g hg
  obtain ⟨_, ⟨rfl, _⟩ | ⟨g', cap, cur, rfl, hb, hh, _⟩⟩ := h
  · simp [Value.ownBlock] at hg
  · simp [Value.ownBlock] at hg
    subst hg
    refine ⟨hb, ?_⟩
    rcases Nat.lt_or_ge g' w.heap.size with hlt | hge
    · exact hlt
    · rw [Array.getElem?_eq_none hge] at hh; cases hh

theorem MapsOf.step {w w2 w3 : World} {base : Nat} {l : Value} {f : Nat → Co} {k : Nat} {xs : List Value} {m : Nat → Nat} {mv : Nat → Value} {v : Value} {g' : Nat}
    (h : MapsOf w base l.ownBlock f k xs m mv) (hl : xs.length = k * 3) (hb : base ≤ w.heap.size) (h12 : Below w.heap.size w w2)
    {bv : Nat} (hbv : w.heap.size ≤ bv) (hown : w2.ownsRow bv 3 1 v (f k).map.length ((f k).map.map (Value.int .i64))) (hlt : ∀ g, l.ownBlock = some g → g < w.heap.size)
    (hg : w2.grownBy w3 l.ownBlock) (hat : l.ownBlock = some g' ∨ g' = w2.heap.size) :
    ∃ m' mv', MapsOf w3 base (some g') f (k + 1) (xs ++ [.int .i64 (f k).src, .int .i64 (f k).dst, v]) m' mv' ∧ ∀ i, i < k + 1 → 0 < (f i).map.length → m' i < w.heap.size ∨ bv ≤ m' i := by
  obtain ⟨g, hog, hgb⟩ := OwnI.of_owns hown
  have hsz := h12.size
  have hsz3 := hg.size
  refine ⟨fun i => if i = k then g else m i, fun i => if i = k then v else mv i, ⟨fun i hi => ?_, fun i hi => ?_, fun i hi h0 => ?_⟩, fun i hi h0 => ?_⟩
  · by_cases e : i = k
    · subst e
      simp [hl]
    · rw [if_neg e]
      obtain ⟨a, b, c⟩ := h.cells i (by omega)
      rw [List.getElem?_append_left (by omega), List.getElem?_append_left (by omega), List.getElem?_append_left (by omega)]
      exact ⟨a, b, c⟩
  · by_cases e : i = k
    · subst e
      rw [if_pos rfl, if_pos rfl]
      refine hog.keep fun h0 => ?_
      have := hgb (by simpa using h0)
      exact hg.block _ this.2 (fun hc => by have := hlt _ hc.symm; omega)
    · rw [if_neg e, if_neg e]
      refine (h.own i (by omega)).keep fun h0 => ?_
      obtain ⟨a, b, c, _⟩ := h.away i (by omega) (by simpa using h0)
      exact (hg.block _ (by omega) (fun hc => c hc.symm)).trans (h12.block _ b)
  · by_cases e : i = k
    · subst e
      rw [if_pos rfl]
      have hgg := hgb h0
      refine ⟨by omega, by omega, ?_, fun j hj hne h1 => ?_⟩
      · intro hc
        injection hc with hc
        rcases hat with hat | hat
        · have := hlt _ hat; omega
        · omega
      · rw [if_neg hne]
        have := (h.away j (by omega) h1).2.1
        omega
    · rw [if_neg e]
      obtain ⟨a, b, c, d⟩ := h.away i (by omega) h0
      refine ⟨a, by omega, ?_, fun j hj hne h1 => ?_⟩
      · intro hc
        injection hc with hc
        rcases hat with hat | hat
        · exact c (by rw [hat, hc])
        · omega
      · by_cases ej : j = k
        · subst ej
          rw [if_pos rfl]
          have := hgb h1
          omega
        · rw [if_neg ej]
          exact d j (by omega) hne h1
  · by_cases e : i = k
    · subst e
      simp only [if_true]
      exact .inr (hgb h0).1
    · simp only [if_neg e]
      exact .inl (h.away i (by omega) h0).2.1

theorem CosOwned.push {w w2 w3 : World} {base : Nat} {l : Value} {f : Nat → Co} {k : Nat} {xs : List Value} {m : Nat → Nat} {mv : Nat → Value} {v : Value} {g' cap3 : Nat} {c : Co} {o : Obj}
    (h : MapsOf w base l.ownBlock f k xs m mv) (how : w.ownsRow base 67 3 l k xs) (hb : base ≤ w.heap.size) (hf : f k = c) (h12 : Below w.heap.size w w2)
    (hown : w2.ownsRow w.heap.size 3 1 v c.map.length (c.map.map (Value.int .i64))) (hg : (w2.alloc o).grownBy w3 l.ownBlock) (hat : l.ownBlock = some g' ∨ g' = w2.heap.size + 1)
    (h3 : w3.ownsRow base 67 3 (.slice (some ⟨g', 0, none⟩) (k + 1) cap3) (k + 1) (xs ++ [.int .i64 c.src, .int .i64 c.dst, v])) : CosOwned w3 base (.slice (some ⟨g', 0, none⟩) (k + 1) cap3) f (k + 1) := by
  subst hf
  obtain ⟨m', mv', hm, _⟩ := h.step (w2 := w2.alloc o) how.1 hb (h12.alloc h12.size o) (Nat.le_refl _) (hown.alloc o) (fun g hg => (owns_lt how g hg).2) hg (by rcases hat with a | a; exact .inl a; exact .inr (by rw [a]; simp))
  exact ⟨_, m', mv', h3, hm⟩
theorem ownsRow_keep1 {w w' : World} {base : Nat} {t : TypeId} {size : Nat} {v : Value} {n : Nat} {xs : List Value} (h : w.ownsRow base t size v n xs) (hk : ∀ g, v.ownBlock = some g → w'.heap[g]? = w.heap[g]?) : w'.ownsRow base t size v n xs := by
  obtain ⟨h1, h2 | ⟨g, cap, cur, e, hg, hh, r⟩⟩ := h
  · exact ⟨h1, .inl h2⟩
  · exact ⟨h1, .inr ⟨g, cap, cur, e, hg, (hk g (by rw [e]; rfl)).trans hh, r⟩⟩
/-- As 'push', with a store behind it into a block that was made between the list and the coercion. -/
theorem CosOwned.push_store {w w2 w3 w4 : World} {base bv : Nat} {l : Value} {f : Nat → Co} {k : Nat} {xs : List Value} {m : Nat → Nat} {mv : Nat → Value} {v : Value} {g' cap3 : Nat} {c : Co} {o : Obj}
    (h : MapsOf w base l.ownBlock f k xs m mv) (how : w.ownsRow base 67 3 l k xs) (hb : base ≤ w.heap.size) (hf : f k = c) (h12 : Below w.heap.size w w2) (hbv : w.heap.size ≤ bv) (hbv2 : bv ≤ w2.heap.size)
    (hown : w2.ownsRow bv 3 1 v c.map.length (c.map.map (Value.int .i64))) (hg : (w2.alloc o).grownBy w3 l.ownBlock) (hat : l.ownBlock = some g' ∨ g' = w2.heap.size + 1)
    (h3 : w3.ownsRow base 67 3 (.slice (some ⟨g', 0, none⟩) (k + 1) cap3) (k + 1) (xs ++ [.int .i64 c.src, .int .i64 c.dst, v]))
    (hs4 : w3.heap.size ≤ w4.heap.size) (hk4 : ∀ g, g < w.heap.size ∨ bv ≤ g → w4.heap[g]? = w3.heap[g]?) : CosOwned w4 base (.slice (some ⟨g', 0, none⟩) (k + 1) cap3) f (k + 1) := by
  subst hf
  obtain ⟨m', mv', hm, hfar⟩ := h.step (w2 := w2.alloc o) how.1 hb (h12.alloc h12.size o) hbv (hown.alloc o) (fun g hg => (owns_lt how g hg).2) hg (by rcases hat with a | a; exact .inl a; exact .inr (by rw [a]; simp))
  refine ⟨_, m', mv', ownsRow_keep1 h3 (fun g hg => hk4 g ?_), hm.cells, fun i hi => (hm.own i hi).keep fun h0 => hk4 _ (hfar i hi (by simpa using h0)), fun i hi h0 => ?_⟩
  · have e : g' = g := by
      have h : some g' = some g := hg
      injection h
    subst e
    rcases hat with a | a
    · exact .inl (owns_lt how _ a).2
    · exact .inr (by omega)
  · obtain ⟨a, b, c, d⟩ := hm.away i hi h0
    exact ⟨a, by omega, c, d⟩
end Go.Proofs.Ytilcahidmoaakaa

namespace Go.Proofs.Ytilcahidmoaakaa
open Go.RowKit

theorem infoCoercionW : (Try.prog.info? 67).map (fun i => (i.zero, i.size, i.bytes)) = some (some (.agg #[.int .i64 0, .int .i64 0, .slice none 0 0]), 3, 40) := by kernel_rfl

theorem owns_form {w : World} {base : Nat} {t : TypeId} {size : Nat} {v : Value} {n : Nat} {xs : List Value} (h : w.ownsRow base t size v n xs) : ∃ A c, v = .slice A n c := by
  obtain ⟨_, ⟨rfl, rfl⟩ | ⟨g', cap, cur, rfl, _⟩⟩ := h
  · exact ⟨_, _, rfl⟩
  · exact ⟨_, _, rfl⟩

set_option maxRecDepth 100000 in
set_option maxHeartbeats 2000000 in
theorem copyTypes_any (lo hi : Nat) (sv cv : Value) (t : Ty) (w : World) (hv : TyAt w lo hi sv cv t) (hB : hi ≤ w.heap.size) (hbk : t.bulk ≤ 1048576) :
    Calls Try.prog 117 #[.agg #[sv, cv]] w fun e w' => ∃ v l C, e = .returned (.agg #[v, l]) ∧ Below w.heap.size w w' ∧ w.heap.size ≤ C ∧ C < w'.heap.size ∧
      w'.ownsRow w.heap.size 3 1 v t.sizes.length (t.sizes.map (Value.int .i64)) ∧ (∀ g, v.ownBlock = some g → g < C) ∧ CosOwned w' (C + 1) l (fun i => t.cos.getD i default) t.cos.length := by
  obtain ⟨A, cap, rfl, hl1, hm1, hz⟩ := hv.1.form
  obtain ⟨B, bap, rfl, hl2, hm2, hc1⟩ := hv.2.form
  unfold maxLen at hm2
  obtain ⟨i0, hi0, hz0, hz1, hz2⟩ := info_parts infoCoercionW
  have hn : t.cos.length ≤ 1048576 := by unfold Ty.bulk at hbk; omega
  have hn1 : t.sizes.length ≤ 1048576 := by unfold Ty.bulk at hbk; omega
  have hl3 : Hid (∀ j, ∀ (hj : j < t.cos.length), t.cos[j].map.length ≤ 1048576) := fun j hj => Nat.le_trans (t.map_le j hj) hbk
  have h3 : Below w.heap.size w ((w.alloc (.cells #[.slice A t.sizes.length cap, .slice B t.cos.length bap] 33)).alloc (.cells #[.slice none 0 0, .slice none 0 0] 33)) := by go_grown
  have Hc1 := Lib.hid hc1
  clear hv hc1
  go_enter Try.func117, Try.ntmps117
  go_wp2_with fail
  refine (clone_any lo hi _ t.sizes _ (hz.below h3 hB) (by simp; omega) hn1).mono ?_
  rintro e w1 ⟨v, rfl, hb, hown⟩
  have hbel := Lib.hid (h3.trans (hb.mono (by simp; omega)))
  obtain ⟨hcl, hfr⟩ := bcell hb
  have hs1 := hb.size
  simp only [World.size_alloc] at hown hcl hfr hs1
  have hz1' : w.heap.size + 1 < w1.heap.size := by omega
  have hz0' : w.heap.size < w1.heap.size := by omega
  obtain ⟨VA, VC, rfl⟩ := owns_form hown
  have Hown := Lib.hid hown
  have he0 : w1.cell? ⟨w.heap.size, 0, none⟩ = some (.slice A t.sizes.length cap) := by rw [hcl _ _ (by omega)]; simp [go_sem]
  have he1 : w1.cell? ⟨w.heap.size, 1, none⟩ = some (.slice B t.cos.length bap) := by rw [hcl _ _ (by omega)]; simp [go_sem]
  have hd0 : w1.cell? ⟨w.heap.size + 1, 0, none⟩ = some (.slice none 0 0) := by rw [hcl _ _ (by omega)]; simp [go_sem]
  have hd1 : w1.cell? ⟨w.heap.size + 1, 1, none⟩ = some (.slice none 0 0) := by rw [hcl _ _ (by omega)]; simp [go_sem]
  have hf0 : w1.frozen? ⟨w.heap.size + 1, 0, none⟩ = false := by rw [hfr _ _ (by omega)]; simp [go_sem]
  have hf1 : w1.frozen? ⟨w.heap.size + 1, 1, none⟩ = false := by rw [hfr _ _ (by omega)]; simp [go_sem]
  have Hcl := Lib.hid hcl
  have Hfr := Lib.hid hfr
  clear hown hb h3 hcl hfr hz
  go_wp2
  go_loopw [13] (fun i wr => ∃ (j : Nat) (l : Value), j ≤ t.cos.length ∧ i = .int .i64 j ∧ Hid (Below w1.heap.size w1 wr) ∧ w1.heap.size < wr.heap.size ∧ Row wr w1.heap.size 33 [.slice VA t.sizes.length VC, l] ∧ Hid (CosOwned wr (w1.heap.size + 1) l (fun i => t.cos.getD i default) j)) (fun i _ => t.cos.length - (intOf i).toNat)
  case atStart => exact ⟨0, .slice none 0 0, Nat.zero_le _, rfl, Lib.hid ((Below.refl _ _).alloc (Nat.le_refl _) _), by simp, Row.new w1 _ [.slice VA t.sizes.length VC, .slice none 0 0], CosOwned.nil _ _ _⟩
  case round =>
    obtain ⟨j, l, hj, rfl, hb, hsz, hrow, hown⟩ := hrel
    have g0 := hrow.cell 0
    have g1 := hrow.cell 1
    simp only [List.getElem?_cons_zero, List.getElem?_cons_succ] at g0 g1
    have k0 := hrow.frozen 0
    have k1 := hrow.frozen 1
    have Hrow := Lib.hid hrow
    clear hrow
    by_cases hlt : j < t.cos.length
    · have hbw : Below w.heap.size w wr := hbel.out.trans (hb.out.mono (by omega))
      obtain ⟨b, off, A2, cap2, rfl, hlo, hhi, c0, c1, c2, h5, h6, hs, hd, hz2'⟩ := (Hc1.out.below hbw hB).at_ hlt
      have hmap := hl3.out j hlt
      obtain ⟨xs, m, mv, how, hmo⟩ := hown.out
      obtain ⟨LA, LC, rfl⟩ := owns_form how
      have How := Lib.hid how
      have Hmo := Lib.hid hmo
      have Hz2 := Lib.hid hz2'
      have Hbw := Lib.hid hbw
      clear how hmo hz2' hbw
      have hdraw : Below hi wr (wr.alloc (.cells #[.int .i64 t.cos[j].src, .int .i64 t.cos[j].dst, .slice A2 t.cos[j].map.length cap2] 67)) := (Below.refl _ _).alloc (by have := hbel.out.size; have := hb.out.size; omega) _
      have Hz3 := Lib.hid (Hz2.out.below hdraw (Nat.le_refl _))
      have hj1 : (j : Int) + 1 ≤ 1048576 := by omega
      clear hdraw
      go_upto_region 5 with fail
      go_region_law (first
        | (refine step_append_lies _ (by rfl) (.tmp 18) (.tmp 21) 31 (by rfl) (w1.heap.size + 1) 67 i0 _ 3 40 Try.underlying31 hi0 hz0 hz1 hz2 rfl (by omega) (.slice LA j LC) j xs (by rfl) ((H2.out.alloc _).drew)
            ⟨w2.heap.size, 0, none⟩ 1 1 [.int .i64 t.cos[j].src, .int .i64 t.cos[j].dst, .slice VA2 t.cos[j].map.length VC2] (by rfl) (by rfl) (World.news_of_block (cs := #[.int .i64 t.cos[j].src, .int .i64 t.cos[j].dst, .slice VA2 t.cos[j].map.length VC2]) (t := 67) (fr := (0, 0)) (heap_alloc_new w2 _)) (by simp [Value.oneCell'])
            (by omega) (by unfold maxLen; omega) (by omega) (by (try simp); (try omega)) (w2.heap.size + 1) (by simp) ?_; intro g' cap3 w3 hown3 hgrow hat hlt3; have hC3 : w3.heap[w1.heap.size]? = wr.heap[w1.heap.size]? := (hgrow.block _ (by (try simp); (try omega)) (fun hc => by have := (owns_lt How.out _ hc.symm).1; omega)).trans ((Below.heap_alloc w2 _ _ (by omega)).trans (hblk.out _ hsz)); have q1 := (Hrow.out.keep hC3).cell 1; have q1f := (Hrow.out.keep hC3).frozen 1; simp only [List.getElem?_cons_zero, List.getElem?_cons_succ] at q1; have Hown3 := Lib.hid hown3; have Hgrow := Lib.hid hgrow; have Hat := Lib.hid hat; have HC3 := Lib.hid hC3; clear hown3 hgrow hat hC3)
        | (go_simp; go_at_call 118; refine (copied_any lo hi _ _ _ t.cos[j] _ ⟨rfl, rfl, hs, hd, by exact Hz3.out⟩ (by (try simp); (try omega)) hmap).mono ?_; rintro e w2 ⟨v2, rfl, hb2, hown2⟩; obtain ⟨VA2, VC2, rfl⟩ := owns_form hown2; have hsz2 : wr.heap.size + 1 ≤ w2.heap.size := (by simpa using hb2.size); have H2 := Lib.hid (ownsRow_keep How.out fun g hg hgl => (hb2.block g (by (try simp); (try omega))).trans (Below.heap_alloc wr _ g hgl)); have hblk : Hid (∀ g, g < wr.heap.size → w2.heap[g]? = wr.heap[g]?) := fun g hgl => (hb2.block g (by (try simp); (try omega))).trans (Below.heap_alloc wr _ g hgl); have p1 : w2.cell? ⟨w1.heap.size, 1, none⟩ = some (.slice LA j LC) := (Hrow.out.keep (hblk.out _ hsz)).cell 1; have hsz3 : w1.heap.size < w2.heap.size := (by omega); have Hb2 := Lib.hid hb2; have Hown2 := Lib.hid hown2; clear hb2 hown2))
      all_goals
        have hq : Below wr.heap.size _ w2 := Hb2.out.mono (by (try simp); (try omega))
        have hb12 : Below wr.heap.size wr w2 := (((Below.refl _ wr).alloc (Nat.le_refl _) (.cells #[.int .i64 t.cos[j].src, .int .i64 t.cos[j].dst, .slice A2 t.cos[j].map.length cap2] 67)).drew).trans hq
        have ho2 := ownsRow_lower (base' := wr.heap.size) Hown2.out (by (try simp); (try omega))
        have hpush := CosOwned.push (w2 := w2) Hmo.out How.out (by omega) (show t.cos.getD j default = t.cos[j] by rw [List.getD_eq_getElem?_getD, List.getElem?_eq_getElem hlt]; rfl) hb12 ho2 Hgrow.out Hat.out Hown3.out
        have hb13 : Below w1.heap.size w1 w3 := ((hb.out.trans (hb12.mono (by omega))).alloc (by omega) _).grown Hgrow.out (by (try simp); (try omega)) (fun k hk => by have := (owns_lt How.out k hk).1; omega)
        have Hpush := Lib.hid hpush
        have Hb13 := Lib.hid hb13
        have hsz4 : w1.heap.size < w3.heap.size := by have := Hgrow.out.size; simp only [World.size_alloc] at this; omega
        clear hpush hb12 hb13 q1 q1f p1 hq ho2
        go_wp2
        go_roundw
        case rel =>
          exact ⟨j + 1, _, by omega, by go_num, Lib.hid (Hb13.out.setCell (Nat.le_refl _) _), by simp [World.setCell]; omega, (Hrow.out.keep HC3.out).set_ 1 _,
            Lib.hid (Hpush.out.keep (by simp [World.setCell]) fun g hg hgl => Below.heap_setCell _ _ _ _ (by dsimp only; omega))⟩
        case measure => simp [intOf]; omega
    · obtain rfl : j = t.cos.length := by omega
      have r0 : wr.cell? ⟨w.heap.size + 1, 0, none⟩ = some (.slice none 0 0) := ((bcell hb.out).1 _ _ hz1').trans hd0
      have r1 : wr.cell? ⟨w.heap.size + 1, 1, none⟩ = some (.slice none 0 0) := ((bcell hb.out).1 _ _ hz1').trans hd1
      have rf0 : wr.frozen? ⟨w.heap.size + 1, 0, none⟩ = false := ((bcell hb.out).2 _ _ hz1').trans hf0
      have rf1 : wr.frozen? ⟨w.heap.size + 1, 1, none⟩ = false := ((bcell hb.out).2 _ _ hz1').trans hf1
      obtain ⟨xs, m, mv, how, hmo⟩ := hown.out
      obtain ⟨LA, LC, rfl⟩ := owns_form how
      clear how hmo
      go_wp2
      refine bodyPost_ret (v := .agg #[.slice VA t.sizes.length VC, .slice LA t.cos.length LC]) (by simp [results, Try.results117, go_sem, r0, r1]) rfl ?_
      have hbw : Below w.heap.size w wr := hbel.out.trans (hb.out.mono (by omega))
      refine ⟨_, _, w1.heap.size, rfl, (hbw.setCell (by dsimp only; omega) _).setCell (by dsimp only; omega) _, by omega, by simpa [World.setCell] using hsz, ?_, ?_, ?_⟩
      · exact ownsRow_lower (ownsRow_keep Hown.out fun g hg hgl => (Below.heap_setCell _ _ _ _ (by dsimp only; omega)).trans ((Below.heap_setCell _ _ _ _ (by dsimp only; omega)).trans (hb.out.block g hgl))) (by omega)
      · intro g hg
        exact (owns_lt Hown.out g hg).2
      · refine hown.out.keep (by simp [World.setCell]) fun g hg hgl => (Below.heap_setCell _ _ _ _ (by dsimp only; omega)).trans (Below.heap_setCell _ _ _ _ (by dsimp only; omega))
end Go.Proofs.Ytilcahidmoaakaa

namespace Go.Proofs.Ytilcahidmoaakaa
open Go.RowKit

theorem grown_cell {w w' : World} {g : Nat} (h : w.grownBy w' (some g)) (b o : Nat) (hb : b < w.heap.size) (hne : b ≠ g) : w'.cell? ⟨b, o, none⟩ = w.cell? ⟨b, o, none⟩ :=
  World.cell?_of_block (a := ⟨b, o, none⟩) (h.block b hb (fun e => hne (by injection e)))
theorem grown_frozen {w w' : World} {g : Nat} (h : w.grownBy w' (some g)) (b o : Nat) (hb : b < w.heap.size) (hne : b ≠ g) : w'.frozen? ⟨b, o, none⟩ = w.frozen? ⟨b, o, none⟩ :=
  World.frozen?_of_block (a := ⟨b, o, none⟩) (h.block b hb (fun e => hne (by injection e)))
theorem run_append_owned_none' {P : Program} {w : World} (base : Nat) (t ty e : TypeId) (i : TypeInfo) (size : Nat) (ht : P.underlying t = some (.slice e)) (hi : P.info? e = some i)
    (v : Value) (n : Nat) (xs : List Value) (c : Nat) (hown : w.ownsRow base e size v n xs) :
    (Builtin.append_ #[t, t] ty #[v, .slice none 0 c]).run P w = .ok v w := by
  rcases hown.2 with ⟨rfl, rfl⟩ | ⟨g, cap, cur, rfl, _, _, hnc, _⟩
  · simp [Builtin.append_, run_underlying ht, sizeOf, typeInfo, hi, Builtin.lenOf, Builtin.firstCells]
  · simp [Builtin.append_, run_underlying ht, sizeOf, typeInfo, hi, Builtin.lenOf, Builtin.firstCells, hnc, storeCells]
theorem wpList_append_own_none' {P : Program} {w : World} {ops : Array Oper} {rest : List Oper} {o : Oper} {a : Act} {Q : Exit → Act → World → Prop} (hgd : o.guard = none) (s x : Operand) (t : TypeId)
    (ho : o.op = .call { callee := .builtin .append, args := #[s, x], argTypes := #[t, t] })
    (base : Nat) (e : TypeId) (i : TypeInfo) (size : Nat) (ht : P.underlying t = some (.slice e)) (hi : P.info? e = some i)
    (v : Value) (n : Nat) (xs : List Value) (c : Nat) (hs : a.eval s = v) (hown : w.ownsRow base e size v n xs) (hx : a.eval x = .slice none 0 c)
    (h : wpList P ops Q rest (a.put o.dst v) w) : wpList P ops Q (o :: rest) a w := by
  refine wpList_plain hgd fun K hK => ?_
  have hrun := run_append_owned_none' (P := P) (w := w) base t o.type e i size ht hi v n xs c hown
  unfold Oper.wp
  simp [execOp, ho, resolve, invoke, builtin, hs, hx, hrun, Result.andThen]
  exact hK _ _ h

set_option maxRecDepth 100000 in
set_option maxHeartbeats 1000000 in
theorem ownCo_any (lo hi : Nat) (x y z : Value) (c : Co) (w : World) (hv : CoAt w lo hi x y z c) (hB : hi ≤ w.heap.size) (hlen : c.map.length ≤ 1048576) :
    Calls Try.prog 163 #[.agg #[x, y, z]] w (Copied w.heap.size c w) := by
  obtain ⟨rfl, rfl, hs, hd, hz⟩ := hv
  obtain ⟨A, cap, rfl, hl, hm, hz⟩ := hz.form
  obtain ⟨i0, hi0, hz0, hz1, hz2⟩ := info_parts Try.infoInt
  have h3 : Below w.heap.size w (((w.alloc (.cells #[.int .i64 c.src, .int .i64 c.dst, .slice A c.map.length cap] 67)).alloc (.cells #[.int .i64 0, .int .i64 0, .slice none 0 0] 67)).alloc (.cells #[] 3)) := by go_grown
  have hw2 : (((w.alloc (.cells #[.int .i64 c.src, .int .i64 c.dst, .slice A c.map.length cap] 67)).alloc (.cells #[.int .i64 0, .int .i64 0, .slice none 0 0] 67)).heap.size) = w.heap.size + 1 + 1 := by simp
  have h0 := World.ownsRow_lit (base := w.heap.size + 1 + 1) (e := 3) (size := 1) ((w.alloc (.cells #[.int .i64 c.src, .int .i64 c.dst, .slice A c.map.length cap] 67)).alloc (.cells #[.int .i64 0, .int .i64 0, .slice none 0 0] 67)) #[] 0 (by rw [hw2]; exact Nat.le_refl _) (by unfold maxLen; omega) rfl
  rw [hw2] at h0
  have H0 := Lib.hid h0
  have Hz := Lib.hid (hz.below h3 hB)
  have H3 := Lib.hid h3
  clear h0 hz h3 hw2
  rcases A with _ | ad
  · have hn : c.map = [] := by
      rcases hc : c.map with _ | ⟨z, zs⟩
      · rfl
      · obtain ⟨b, off, e, _⟩ := Hz.out.at_ (k := 0) (by rw [hc]; simp)
        cases e
    have hn' : c.map.length = 0 := by rw [hn]; rfl
    rw [hn'] at Hz ⊢
    go_enter Try.func163, Try.ntmps163
    go_wp2
    refine bodyPost_ret (v := .agg #[.int .i64 c.src, .int .i64 c.dst, .slice (some ⟨w.heap.size + 1 + 1, 0, none⟩) 0 0]) (by simp [results, Try.results163, go_sem]) rfl ?_
    refine ⟨_, rfl, by go_grown, ?_⟩
    have h1 := World.ownsRow_lit (base := w.heap.size) (e := 3) (size := 1) ((w.alloc (.cells #[.int .i64 c.src, .int .i64 c.dst, .slice (some ⟨w.heap.size + 1 + 1, 0, none⟩) 0 0] 67)).alloc (.cells #[.int .i64 c.src, .int .i64 c.dst, .slice (some ⟨w.heap.size + 1 + 1, 0, none⟩) 0 0] 67)) #[] 0 (by simp; omega) (by unfold maxLen; omega) rfl
    rw [hn]
    simpa using h1
  · have Hc := Lib.hid Hz.out.cells
    go_enter Try.func163, Try.ntmps163
    go_wp2_with (at_builtin; refine wpList_append_own _ rfl (.tmp 3) (.tmp 5) 22 rfl (w.heap.size + 1 + 1) 3 i0 (.int .i64 0) 1 8 Try.underlying22 hi0 hz0 hz1 hz2 rfl (by decide) _ _ _ rfl H0.out ad c.map.length cap (c.map.map (Value.int .i64)) rfl (by simp) Hc.out (ints_oneCell' c.map) (by unfold maxLen; omega) (by omega) (by simp) ?_; intro v' w2 hown2 hgrow _; obtain ⟨VA, VC, rfl⟩ := owns_form hown2; have hb := H3.out.grown hgrow (by simp; omega) (fun k hk => (by have h : (some (w.heap.size + 1 + 1) : Option Nat) = some k := hk; injection h with h; omega)); have hs2 := hgrow.size; simp only [World.size_alloc] at hs2; have hgrow' : World.grownBy _ w2 (some (w.heap.size + 1 + 1)) := hgrow; have e0 := grown_cell hgrow' w.heap.size 0 (by simp; omega) (by omega); have e1 := grown_cell hgrow' w.heap.size 1 (by simp; omega) (by omega); have e2 := grown_cell hgrow' w.heap.size 2 (by simp; omega) (by omega); have d0 := grown_cell hgrow' (w.heap.size + 1) 0 (by simp) (by omega); have d1 := grown_cell hgrow' (w.heap.size + 1) 1 (by simp) (by omega); have d2 := grown_cell hgrow' (w.heap.size + 1) 2 (by simp) (by omega); have f2 := grown_frozen hgrow' w.heap.size 2 (by simp; omega) (by omega); have k0 := grown_frozen hgrow' (w.heap.size + 1) 0 (by simp) (by omega); have k1 := grown_frozen hgrow' (w.heap.size + 1) 1 (by simp) (by omega); have k2 := grown_frozen hgrow' (w.heap.size + 1) 2 (by simp) (by omega); simp [go_sem] at e0 e1 e2 d0 d1 d2 f2 k0 k1 k2; have e2' : ∀ u, (w2.setCell ⟨w.heap.size, 2, none⟩ u).cell? ⟨w.heap.size, 2, none⟩ = some u := (fun u => World.cell?_setCell_same _ _ _ e2); have Hown2 := Lib.hid hown2; have Hb := Lib.hid hb; clear hown2 hgrow hgrow' hb)
    refine bodyPost_ret (v := .agg #[.int .i64 c.src, .int .i64 c.dst, .slice VA c.map.length VC]) (by simp [results, Try.results163, go_sem, d0, d1, d2]) rfl ?_
    refine ⟨_, rfl, ?_, ?_⟩
    · exact (((Hb.out.setCell (by dsimp only; omega) _).setCell (by dsimp only; omega) _).setCell (by dsimp only; omega) _).setCell (by dsimp only; omega) _
    · have ho : w2.ownsRow (w.heap.size + 1 + 1) 3 1 (.slice VA c.map.length VC) c.map.length (c.map.map (Value.int .i64)) := by simpa using Hown2.out
      exact ownsRow_lower (ownsRow_keep ho fun g hg hgl => (Below.heap_setCell _ _ _ _ (by dsimp only; omega)).trans ((Below.heap_setCell _ _ _ _ (by dsimp only; omega)).trans ((Below.heap_setCell _ _ _ _ (by dsimp only; omega)).trans (Below.heap_setCell _ _ _ _ (by dsimp only; omega))))) (by omega)

theorem CosOwned.lit (w : World) (base : Nat) (f : Nat → Co) (hb : base ≤ w.heap.size) : CosOwned (w.alloc (.cells #[] 67)) base (.slice (some ⟨w.heap.size, 0, none⟩) 0 0) f 0 :=
  ⟨[], fun _ => 0, fun _ => .slice none 0 0, World.ownsRow_lit w #[] 0 hb (by unfold maxLen; omega) rfl, fun i hi => absurd hi (by omega), fun i hi => absurd hi (by omega), fun i hi => absurd hi (by omega)⟩

set_option maxRecDepth 100000 in
set_option maxHeartbeats 2000000 in
theorem ownList_any (lo hi : Nat) (v : Value) (cs : List Co) (w : World) (hv : CosAt w lo hi v cs) (hB : hi ≤ w.heap.size) (hn : cs.length ≤ 1048576) (hmaps : ∀ j, ∀ (hj : j < cs.length), cs[j].map.length ≤ 1048576) :
    Calls Try.prog 164 #[v] w fun e w' => ∃ l, e = .returned l ∧ Below w.heap.size w w' ∧ CosOwned w' w.heap.size l (fun i => cs.getD i default) cs.length := by
  obtain ⟨B, bap, rfl, hl2, hm2, hc1⟩ := hv.form
  unfold maxLen at hm2
  obtain ⟨i0, hi0, hz0, hz1, hz2⟩ := info_parts infoCoercionW
  have hl3 := Lib.hid hmaps
  have Hc1 := Lib.hid hc1
  clear hv hc1 hmaps
  go_enter Try.func164, Try.ntmps164
  go_wp2
  go_loopw [3, 9] (fun l i wr => ∃ (j : Nat), j ≤ cs.length ∧ i = .int .i64 j ∧ Hid (Below w.heap.size w wr) ∧ Hid (CosOwned wr w.heap.size l (fun i => cs.getD i default) j)) (fun _ i _ => cs.length - (intOf i).toNat)
  case atStart => exact ⟨0, Nat.zero_le _, rfl, Lib.hid ((Below.refl _ _).alloc (Nat.le_refl _) _), CosOwned.lit _ _ _ (Nat.le_refl _)⟩
  case round =>
    obtain ⟨j, hj, rfl, hb, hown⟩ := hrel
    by_cases hlt : j < cs.length
    · obtain ⟨b, off, A2, cap2, rfl, hlo, hhi, c0, c1, c2, h5, h6, hs, hd, hz2'⟩ := (Hc1.out.below hb.out hB).at_ hlt
      have hmap := hl3.out j hlt
      obtain ⟨xs, m, mv, how, hmo⟩ := hown.out
      obtain ⟨LA, LC, rfl⟩ := owns_form how
      have How := Lib.hid how
      have Hmo := Lib.hid hmo
      have hbs := hb.out.size
      have hdraw : Below hi wr (wr.alloc (.cells #[.int .i64 cs[j].src, .int .i64 cs[j].dst, .slice A2 cs[j].map.length cap2] 67)) := (Below.refl _ _).alloc (by omega) _
      have Hz3 := Lib.hid (hz2'.below hdraw (Nat.le_refl _))
      clear how hmo hz2' hdraw
      go_wp2_with fail
      refine (ownCo_any lo hi _ _ _ cs[j] _ ⟨rfl, rfl, hs, hd, Hz3.out⟩ (by simp; omega) hmap).mono ?_
      rintro e w2 ⟨v2, rfl, hb2, hown2⟩
      obtain ⟨VA2, VC2, rfl⟩ := owns_form hown2
      have hsz2 : wr.heap.size + 1 ≤ w2.heap.size := by simpa using hb2.size
      have H2 := Lib.hid (ownsRow_keep How.out fun g hg hgl => (hb2.block g (by (try simp); (try omega))).trans (Below.heap_alloc wr _ g hgl))
      have hq : Below wr.heap.size _ w2 := hb2.mono (by (try simp); (try omega))
      have hb12 : Below wr.heap.size wr w2 := ((Below.refl _ wr).alloc (Nat.le_refl _) (.cells #[.int .i64 cs[j].src, .int .i64 cs[j].dst, .slice A2 cs[j].map.length cap2] 67)).trans hq
      have ho2 := Lib.hid (ownsRow_lower (base' := wr.heap.size) hown2 (by (try simp); (try omega)))
      have Hb12 := Lib.hid hb12
      clear hb2 hown2 hq hb12
      go_wp2_with (at_builtin; refine wpList_append_lies _ rfl (.tmp 13) (.tmp 16) 31 rfl w.heap.size 67 i0 _ 3 40 Try.underlying31 hi0 hz0 hz1 hz2 rfl (by omega) (.slice LA j LC) j xs rfl (H2.out.alloc _) ⟨w2.heap.size, 0, none⟩ 1 1 [.int .i64 cs[j].src, .int .i64 cs[j].dst, .slice VA2 cs[j].map.length VC2] rfl rfl (World.news_of_block (cs := #[.int .i64 cs[j].src, .int .i64 cs[j].dst, .slice VA2 cs[j].map.length VC2]) (t := 67) (fr := (0, 0)) (heap_alloc_new w2 _)) (by simp [Value.oneCell']) (by omega) (by unfold maxLen; omega) (by omega) (by (try simp); (try omega)) (w2.heap.size + 1) (by simp) ?_; intro g' cap3 w3 hown3 hgrow hat hlt3; have Hown3 := Lib.hid hown3; have Hgrow := Lib.hid hgrow; have Hat := Lib.hid hat; clear hown3 hgrow hat)
      have hpush := CosOwned.push (w2 := w2) Hmo.out How.out (by omega) (show cs.getD j default = cs[j] by rw [List.getD_eq_getElem?_getD, List.getElem?_eq_getElem hlt]; rfl) Hb12.out ho2.out Hgrow.out Hat.out Hown3.out
      have hb13 : Below w.heap.size w w3 := ((hb.out.trans (Hb12.out.mono (by omega))).alloc (by omega) _).grown Hgrow.out (by (try simp); (try omega)) (fun k hk => by have := (owns_lt How.out k hk).1; omega)
      have Hpush := Lib.hid hpush
      have Hb13 := Lib.hid hb13
      clear hpush hb13
      go_roundw
      case rel => exact ⟨j + 1, by omega, by go_num, Hb13, Hpush⟩
      case measure => simp [intOf]; omega
    · obtain rfl : j = cs.length := by omega
      go_wp2
      go_ret
      exact ⟨_, rfl, hb.out, hown.out⟩
end Go.Proofs.Ytilcahidmoaakaa

namespace Go.Proofs.Ytilcahidmoaakaa
open Go.RowKit

theorem wpList_append_ints {w : World} {ops : Array Oper} {rest : List Oper} {o : Oper} {a : Act} {Q : Exit → Act → World → Prop} (hgd : o.guard = none) (s x : Operand)
    (ho : o.op = .call { callee := .builtin .append, args := #[s, x], argTypes := #[22, 22] })
    (base : Nat) (v : Value) (n : Nat) (xs : List Value) (hs : a.eval s = v) (hown : w.ownsRow base 3 1 v n xs) (lo hi : Nat) (A : Option Addr) (m c : Nat) (zs : List Int) (hx : a.eval x = .slice A m c)
    (hz : IntsAt w lo hi (.slice A m c) zs) (hm : zs.length = m) (h63 : n + m ≤ 2097152) (hbase : base ≤ w.heap.size)
    (h : ∀ VA VC w', w'.ownsRow base 3 1 (.slice VA (n + m) VC) (n + m) (xs ++ zs.map (Value.int .i64)) → w.grownBy w' v.ownBlock → wpList Try.prog ops Q rest (a.put o.dst (.slice VA (n + m) VC)) w') : wpList Try.prog ops Q (o :: rest) a w := by
  obtain ⟨i0, hi0, hz0, hz1, hz2⟩ := info_parts Try.infoInt
  subst hm
  rcases A with _ | ad
  · have hn : zs = [] := by
      rcases zs with _ | ⟨z, zs⟩
      · rfl
      · obtain ⟨b, off, e, _⟩ := hz.at_ (k := 0) (by simp)
        cases e
    subst hn
    obtain ⟨VA, VC, rfl⟩ := owns_form hown
    refine wpList_append_own_none' hgd s x 22 ho base 3 i0 1 Try.underlying22 hi0 _ _ _ c hs hown hx ?_
    have := h VA VC w (by simpa using hown) ⟨rfl, rfl, rfl, Nat.le_refl _, fun _ _ _ => rfl⟩
    simpa using this
  · refine wpList_append_own _ hgd s x 22 ho base 3 i0 (.int .i64 0) 1 8 Try.underlying22 hi0 hz0 hz1 hz2 rfl (by decide) _ _ _ hs hown ad zs.length c (zs.map (Value.int .i64)) hx (by simp) hz.cells (ints_oneCell' zs) (by unfold maxLen; omega) (by omega) hbase ?_
    intro v' w2 hown2 hgrow _
    obtain ⟨VA, VC, rfl⟩ := owns_form hown2
    exact h VA VC w2 hown2 hgrow

theorem ownsRow.intsAt {w : World} {base : Nat} {v : Value} {zs : List Int} (h : w.ownsRow base 3 1 v zs.length (zs.map (Value.int .i64))) (hw : ∀ z ∈ zs, I64 z) {lo hi : Nat} (hlo : lo ≤ base) (hhi : w.heap.size ≤ hi) : IntsAt w lo hi v zs := by
  obtain ⟨g, ho, hg⟩ := OwnI.of_owns h
  exact ho.ints hw fun h0 => by have := hg h0; omega

/-- Coercions in a row, whose maps read as they should, read as coercions. -/
theorem row_cosAt {w : World} {base lo hi n : Nat} {l : Value} {xs : List Value} {f : Nat → Co} {mv : Nat → Value} (h : w.ownsRow base 67 3 l n xs)
    (hcells : ∀ i, i < n → xs[i * 3]? = some (.int .i64 (f i).src) ∧ xs[i * 3 + 1]? = some (.int .i64 (f i).dst) ∧ xs[i * 3 + 2]? = some (mv i))
    (hmaps : ∀ i, i < n → IntsAt w lo hi (mv i) (f i).map) (hw : ∀ i, i < n → I64 (f i).src ∧ I64 (f i).dst) (hlo : lo ≤ base) (hhi : w.heap.size ≤ hi) : CosAt w lo hi l ((List.range n).map f) := by
  have e : ((List.range n).map f).length = n := by simp
  obtain ⟨hx, ⟨rfl, rfl⟩ | ⟨g, cap, cur, rfl, hb, hh, hc, hm, hs, ht⟩⟩ := h
  · exact ⟨none, 0, rfl, Nat.le_refl _, by unfold maxLen; omega, fun h0 => absurd h0 (by simp)⟩
  · have hlt := owns_lt (⟨hx, .inr ⟨g, cap, cur, rfl, hb, hh, hc, hm, hs, ht⟩⟩ : w.ownsRow base 67 3 (.slice (some ⟨g, 0, none⟩) n cap) n xs) g rfl
    have hcell : ∀ j u, xs[j]? = some u → w.cell? ⟨g, j, none⟩ = some u := fun j u hj => by
      have := World.ownsRow.cells (⟨hx, .inr ⟨g, cap, cur, rfl, hb, hh, hc, hm, hs, ht⟩⟩ : w.ownsRow base 67 3 (.slice (some ⟨g, 0, none⟩) n cap) n xs) (g := g) rfl j u hj
      rw [Go.WideShapes.add_plain] at this
      simpa using this
    refine ⟨_, cap, by rw [e], by rw [e]; exact hc, hm, fun h0 => ⟨g, 0, rfl, by omega, by omega, fun k hk => ?_⟩⟩
    rw [e] at hk
    obtain ⟨a, b, c⟩ := hcells k hk
    obtain ⟨w1, w2⟩ := hw k hk
    rw [List.getD_eq_getElem?_getD, List.getElem?_eq_getElem (by rw [e]; exact hk)]
    simp only [List.getElem_map, List.getElem_range, Option.getD_some]
    refine ⟨_, _, _, ?_, ?_, ?_, rfl, rfl, w1, w2, hmaps k hk⟩
    · rw [Nat.zero_add]; exact hcell _ _ a
    · rw [Nat.zero_add]; exact hcell _ _ b
    · rw [Nat.zero_add]; exact hcell _ _ c

theorem CosOwned.cosAt {w : World} {base : Nat} {l : Value} {f : Nat → Co} {n lo hi : Nat} (h : CosOwned w base l f n) (hw : ∀ i, i < n → I64 (f i).src ∧ I64 (f i).dst ∧ ∀ z ∈ (f i).map, I64 z) (hlo : lo ≤ base) (hhi : w.heap.size ≤ hi) :
    CosAt w lo hi l ((List.range n).map f) := by
  obtain ⟨xs, m, mv, h1, h2⟩ := h
  refine row_cosAt h1 h2.cells (fun i hi => (h2.own i hi).ints (hw i hi).2.2 fun h0 => ?_) (fun i hi => ⟨(hw i hi).1, (hw i hi).2.1⟩) hlo hhi
  have := h2.away i hi h0
  omega
end Go.Proofs.Ytilcahidmoaakaa

namespace Go.Proofs.Ytilcahidmoaakaa
open Go.RowKit

theorem range_getD (cs : List Co) : (List.range cs.length).map (fun i => cs.getD i default) = cs := by
  apply List.ext_getElem
  · simp
  · intro i h1 h2
    simp [List.getElem?_eq_getElem h2]
theorem CosAt.wf {w : World} {lo hi : Nat} {v : Value} {cs : List Co} (h : CosAt w lo hi v cs) : ∀ i, i < cs.length → I64 (cs.getD i default).src ∧ I64 (cs.getD i default).dst ∧ ∀ z ∈ (cs.getD i default).map, I64 z := by
  intro i hi'
  obtain ⟨A, cap, rfl, _, _, hc⟩ := h.form
  obtain ⟨b, off, A2, cap2, _, _, _, _, _, _, _, _, hs, hd, hz⟩ := hc.at_ hi'
  have e : cs.getD i default = cs[i] := by rw [List.getD_eq_getElem?_getD, List.getElem?_eq_getElem hi']; rfl
  obtain ⟨_, _, _, _, _, hw, _⟩ := hz
  rw [e]
  exact ⟨hs, hd, hw⟩
theorem IntsAt.wf {w : World} {lo hi : Nat} {v : Value} {zs : List Int} (h : IntsAt w lo hi v zs) : ∀ z ∈ zs, I64 z := by
  obtain ⟨_, _, _, _, _, hw, _⟩ := h
  exact hw

set_option maxRecDepth 100000 in
set_option maxHeartbeats 2000000 in
theorem ownTypes_any (lo hi : Nat) (sv cv : Value) (t : Ty) (w : World) (hv : TyAt w lo hi sv cv t) (hB : hi ≤ w.heap.size) (hbk : t.bulk ≤ 1048576) :
    Calls Try.prog 120 #[.agg #[sv, cv]] w fun e w' => ∃ v l, e = .returned (.agg #[v, l]) ∧ Below w.heap.size w w' ∧ TyAt w' w.heap.size w'.heap.size v l t := by
  have hwf1 := Lib.hid (IntsAt.wf hv.1)
  have hwf2 := Lib.hid (CosAt.wf hv.2)
  obtain ⟨A, cap, rfl, hl1, hm1, hz⟩ := hv.1.form
  obtain ⟨B, bap, rfl, hl2, hm2, hc1⟩ := hv.2.form
  have hn : t.cos.length ≤ 1048576 := by unfold Ty.bulk at hbk; omega
  have hn1 : t.sizes.length ≤ 1048576 := by unfold Ty.bulk at hbk; omega
  have hl3 := Lib.hid (show ∀ j, ∀ (hj : j < t.cos.length), t.cos[j].map.length ≤ 1048576 from fun j hj => Nat.le_trans (t.map_le j hj) hbk)
  have h3 : Below w.heap.size w (((w.alloc (.cells #[.slice A t.sizes.length cap, .slice B t.cos.length bap] 33)).alloc (.cells #[.slice none 0 0, .slice none 0 0] 33)).alloc (.cells #[] 3)) := by go_grown
  have hw2 : (((w.alloc (.cells #[.slice A t.sizes.length cap, .slice B t.cos.length bap] 33)).alloc (.cells #[.slice none 0 0, .slice none 0 0] 33)).heap.size) = w.heap.size + 1 + 1 := by simp
  have h0 := World.ownsRow_lit (base := w.heap.size + 1 + 1) (e := 3) (size := 1) ((w.alloc (.cells #[.slice A t.sizes.length cap, .slice B t.cos.length bap] 33)).alloc (.cells #[.slice none 0 0, .slice none 0 0] 33)) #[] 0 (by rw [hw2]; exact Nat.le_refl _) (by unfold maxLen; omega) rfl
  rw [hw2] at h0
  have H0 := Lib.hid h0
  have Hz := Lib.hid (hz.below h3 hB)
  have Hc1 := Lib.hid hc1
  have H3 := Lib.hid h3
  clear h0 hz h3 hw2 hc1 hv
  go_enter Try.func120, Try.ntmps120
  go_wp2_with (at_builtin; refine wpList_append_ints rfl (.tmp 3) (.tmp 5) rfl (w.heap.size + 1 + 1) _ 0 [] rfl H0.out lo hi A t.sizes.length cap t.sizes rfl Hz.out rfl (by omega) (by simp) ?_; intro VA VC w2 hown2 hgrow; have hb := H3.out.grown hgrow (by simp; omega) (fun k hk => (by have h : (some (w.heap.size + 1 + 1) : Option Nat) = some k := hk; injection h with h; omega)); have hs2 := hgrow.size; simp only [World.size_alloc] at hs2; have hgrow' : World.grownBy _ w2 (some (w.heap.size + 1 + 1)) := hgrow; have e0 := grown_cell hgrow' w.heap.size 0 (by simp; omega) (by omega); have e1 := grown_cell hgrow' w.heap.size 1 (by simp; omega) (by omega); have d0 := grown_cell hgrow' (w.heap.size + 1) 0 (by simp) (by omega); have d1 := grown_cell hgrow' (w.heap.size + 1) 1 (by simp) (by omega); have f0 := grown_frozen hgrow' w.heap.size 0 (by simp; omega) (by omega); have f1 := grown_frozen hgrow' w.heap.size 1 (by simp; omega) (by omega); have k0 := grown_frozen hgrow' (w.heap.size + 1) 0 (by simp) (by omega); have k1 := grown_frozen hgrow' (w.heap.size + 1) 1 (by simp) (by omega); simp [go_sem] at e0 e1 d0 d1 f0 f1 k0 k1; have e0' : ∀ u, (w2.setCell ⟨w.heap.size, 0, none⟩ u).cell? ⟨w.heap.size, 0, none⟩ = some u := (fun u => World.cell?_setCell_same _ _ _ e0); have ho2 : w2.ownsRow (w.heap.size + 1 + 1) 3 1 (.slice VA t.sizes.length VC) t.sizes.length (t.sizes.map (Value.int .i64)) := (by simpa using hown2); have Hown2 := Lib.hid ho2; have Hb := Lib.hid hb; clear hown2 hgrow hgrow' hb ho2)
  refine (ownList_any lo hi _ t.cos _ (Hc1.out.below (Hb.out.setCell (by dsimp only; omega) _) hB) (by simp [World.setCell]; omega) hn hl3.out).mono ?_
  rintro e w3 ⟨l, rfl, hb3, hco⟩
  have hss : (w2.setCell ⟨w.heap.size, 0, none⟩ (.slice VA t.sizes.length VC)).heap.size = w2.heap.size := by simp [World.setCell]
  rw [hss] at hb3 hco
  have p0 : w3.cell? ⟨w.heap.size, 0, none⟩ = some (.slice VA t.sizes.length VC) := ((bcell hb3).1 _ _ (by omega)).trans (e0' _)
  have p1 : w3.cell? ⟨w.heap.size, 1, none⟩ = some (.slice B t.cos.length bap) := ((bcell hb3).1 _ _ (by omega)).trans (by simp [go_sem, e1])
  have q0 : w3.cell? ⟨w.heap.size + 1, 0, none⟩ = some (.slice none 0 0) := ((bcell hb3).1 _ _ (by omega)).trans (by simp [go_sem, d0])
  have q1 : w3.cell? ⟨w.heap.size + 1, 1, none⟩ = some (.slice none 0 0) := ((bcell hb3).1 _ _ (by omega)).trans (by simp [go_sem, d1])
  have pf0 : w3.frozen? ⟨w.heap.size, 0, none⟩ = false := ((bcell hb3).2 _ _ (by omega)).trans (by simp [go_sem, f0])
  have pf1 : w3.frozen? ⟨w.heap.size, 1, none⟩ = false := ((bcell hb3).2 _ _ (by omega)).trans (by simp [go_sem, f1])
  have qf0 : w3.frozen? ⟨w.heap.size + 1, 0, none⟩ = false := ((bcell hb3).2 _ _ (by omega)).trans (by simp [go_sem, k0])
  have qf1 : w3.frozen? ⟨w.heap.size + 1, 1, none⟩ = false := ((bcell hb3).2 _ _ (by omega)).trans (by simp [go_sem, k1])
  have p1' : ∀ u, (w3.setCell ⟨w.heap.size, 1, none⟩ u).cell? ⟨w.heap.size, 1, none⟩ = some u := fun u => World.cell?_setCell_same _ _ _ p1
  obtain ⟨xs, m, mv, how, hmo⟩ := hco
  obtain ⟨LA, LC, rfl⟩ := owns_form how
  have Hco := Lib.hid (show CosOwned w3 w2.heap.size (.slice LA t.cos.length LC) (fun i => t.cos.getD i default) t.cos.length from ⟨xs, m, mv, how, hmo⟩)
  have hsz3 := hb3.size
  rw [hss] at hsz3
  have hb03 := Lib.hid ((Hb.out.setCell (by dsimp only; omega) _).trans (hb3.mono (by omega)))
  have ho3 := Lib.hid (ownsRow_keep Hown2.out fun g hg hgl => (hb3.block g hgl).trans (Below.heap_setCell _ _ _ _ (by dsimp only; omega)))
  have hblk : Hid (∀ g, w.heap.size + 1 + 1 ≤ g → (((w3.setCell ⟨w.heap.size, 1, none⟩ (.slice LA t.cos.length LC)).setCell ⟨w.heap.size + 1, 0, none⟩ (.slice VA t.sizes.length VC)).setCell ⟨w.heap.size + 1, 1, none⟩ (.slice LA t.cos.length LC)).heap[g]? = w3.heap[g]?) := fun g hg => (Below.heap_setCell _ _ _ _ (by dsimp only; omega)).trans ((Below.heap_setCell _ _ _ _ (by dsimp only; omega)).trans (Below.heap_setCell _ _ _ _ (by dsimp only; omega)))
  clear how hmo hb3 hss e0' e0 e1 d0 d1 f0 f1 k0 k1
  go_wp2
  refine bodyPost_ret (v := .agg #[.slice VA t.sizes.length VC, .slice LA t.cos.length LC]) (by simp [results, Try.results120, go_sem, q0, q1]) rfl ?_
  refine ⟨_, _, rfl, ((hb03.out.setCell (by dsimp only; omega) _).setCell (by dsimp only; omega) _).setCell (by dsimp only; omega) _, ?_, ?_⟩
  · exact ownsRow.intsAt (base := w.heap.size + 1 + 1) (lo := w.heap.size) (ownsRow_keep ho3.out fun g hg _ => hblk.out g hg) hwf1.out (by omega) (Nat.le_refl _)
  · have := CosOwned.cosAt (lo := w.heap.size) (base := w2.heap.size) (Hco.out.keep (by simp [World.setCell]) fun g hg hgl => hblk.out g (by omega)) hwf2.out (by omega) (Nat.le_refl _)
    rw [range_getD] at this
    exact this
end Go.Proofs.Ytilcahidmoaakaa

