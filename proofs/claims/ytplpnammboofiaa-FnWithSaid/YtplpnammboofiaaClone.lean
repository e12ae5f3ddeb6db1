/-
  The contracts of the functions that copy a slice of numbers, and a coercion.
-/
import Derived.Test.YtplpnammboofiaaRows
import Derived.Test.YtplpnammboofiaaOwn
import Derived.Test.YtplpnammboofiaaTo
import Derived.Outline
import Derived.Handy
import Derived.Lib.SliceRun
import Derived.Laws.AppendOwnNone
namespace Go.Proofs.Ytplpnammboofiaa
open Go.RowKit

/-- A value that owns a copy of these numbers. -/
def Cloned (base : Nat) (zs : List Int) (w : World) (e : Ending) (w' : World) : Prop := ∃ v, e = .returned v ∧ Below base w w' ∧ w'.ownsRow base 3 1 v zs.length (zs.map (Value.int .i64))

theorem ints_oneCell' (zs : List Int) : ∀ u ∈ zs.map (Value.int .i64), u.oneCell' = true := by
  intro u hu
  obtain ⟨z, _, rfl⟩ := List.mem_map.1 hu
  rfl
theorem IntsAt.cells {w : World} {lo hi cap n : Nat} {ad : Addr} {zs : List Int} (h : IntsAt w lo hi (.slice (some ad) n cap) zs) : ∀ j u, (zs.map (Value.int .i64))[j]? = some u → w.cell? (ad.add j) = some u := by
  intro j u hj
  have hjl : j < zs.length := by
    have := (List.getElem?_eq_some_iff.1 hj).1
    simpa using this
  obtain ⟨b, off, e, _, _, hc, _⟩ := h.at_ hjl
  injection e with e
  subst e
  rw [Go.WideShapes.add_plain, hc]
  rw [List.getElem?_map, List.getElem?_eq_getElem hjl] at hj
  simpa using hj

set_option maxRecDepth 100000 in
set_option maxHeartbeats 1000000 in
theorem clone_any (lo hi : Nat) (v : Value) (zs : List Int) (w : World) (hv : IntsAt w lo hi v zs) (hB : hi ≤ w.heap.size) (hlen : zs.length ≤ 1048576) :
    Calls Try.prog 76 #[v] w (Cloned w.heap.size zs w) := by
  obtain ⟨A, cap, rfl, hl, hm, hz⟩ := hv.form
  obtain ⟨i0, hi0, hz0, hz1, hz2⟩ := info_parts Try.infoInt
  have heq := fun wx => Lib.run_eql_slice_nil (P := Try.prog) wx 23 3 A zs.length cap 0 0 Try.underlying23
  rcases A with _ | ad
  · have hn : zs = [] := by
      rcases zs with _ | ⟨z, zs⟩
      · rfl
      · obtain ⟨b, off, e, _⟩ := hz.at_ (k := 0) (by simp)
        cases e
    subst hn
    clear hz hv
    simp only [Option.isNone_none, List.length_nil] at heq
    go_enter Try.func76, Try.ntmps76
    go_wp2
    go_ret
    exact ⟨_, rfl, Below.refl _ _, World.ownsRow_nil _ _ _ _⟩
  · have h0 := World.ownsRow_lit (base := w.heap.size) (e := 3) (size := 1) w #[] 0 (Nat.le_refl _) (by unfold maxLen; omega) rfl
    have hb0 : Below w.heap.size w (w.alloc (.cells #[] 3)) := by go_grown
    have H0 := Lib.hid h0
    have Hc := Lib.hid (hz.below hb0 hB).cells
    have Hb0 := Lib.hid hb0
    clear h0 hz hv hb0
    go_enter Try.func76, Try.ntmps76
    go_wp2_with (at_builtin; refine wpList_append_own _ rfl (.tmp 5) (.tmp 6) 23 rfl w.heap.size 3 i0 (.int .i64 0) 1 8 Try.underlying23 hi0 hz0 hz1 hz2 rfl (by decide) _ _ _ rfl H0.out ad zs.length cap (zs.map (Value.int .i64)) rfl (by simp) Hc.out (ints_oneCell' zs) (by unfold maxLen; omega) (by omega) (by simp) ?_; intro v' w2 hown2 hgrow _)
    go_ret
    refine ⟨_, rfl, Hb0.out.grown hgrow (by simp) (fun k hk => ?_), ?_⟩
    · have h : (some w.heap.size : Option Nat) = some k := hk
      injection h with h
      omega
    · simpa using hown2

/-- The value of a coercion with a map of its own. -/
def Copied (base : Nat) (c : Co) (w : World) (e : Ending) (w' : World) : Prop := ∃ v, e = .returned (.agg #[.int .i64 c.src, .int .i64 c.dst, v]) ∧ Below base w w' ∧ w'.ownsRow base 3 1 v c.map.length (c.map.map (Value.int .i64))

theorem ownsRow_keep {w w' : World} {base : Nat} {t : TypeId} {size : Nat} {v : Value} {n : Nat} {xs : List Value} (h : w.ownsRow base t size v n xs) (hk : ∀ g, base ≤ g → g < w.heap.size → w'.heap[g]? = w.heap[g]?) : w'.ownsRow base t size v n xs := by
  obtain ⟨h1, h2 | ⟨g, cap, cur, e, hg, hh, r⟩⟩ := h
  · exact ⟨h1, .inl h2⟩
  · have hlt : g < w.heap.size := by
      rcases Nat.lt_or_ge g w.heap.size with hlt | hge
      · exact hlt
      · rw [Array.getElem?_eq_none hge] at hh; cases hh
    exact ⟨h1, .inr ⟨g, cap, cur, e, hg, (hk g hg hlt).trans hh, r⟩⟩
theorem ownsRow_lower {w : World} {base base' : Nat} {t : TypeId} {size : Nat} {v : Value} {n : Nat} {xs : List Value} (h : w.ownsRow base t size v n xs) (hb : base' ≤ base) : w.ownsRow base' t size v n xs := by
  obtain ⟨h1, h2 | ⟨g, cap, cur, e, hg, r⟩⟩ := h
  · exact ⟨h1, .inl h2⟩
  · exact ⟨h1, .inr ⟨g, cap, cur, e, by omega, r⟩⟩

set_option maxRecDepth 100000 in
set_option maxHeartbeats 1000000 in
theorem copied_any (lo hi : Nat) (x y z : Value) (c : Co) (w : World) (hv : CoAt w lo hi x y z c) (hB : hi ≤ w.heap.size) (hlen : c.map.length ≤ 1048576) :
    Calls Try.prog 40 #[.agg #[x, y, z]] w (Copied w.heap.size c w) := by
  obtain ⟨rfl, rfl, hs, hd, hz⟩ := hv
  obtain ⟨A, cap, rfl, _, _, hz⟩ := hz.form
  have h3 : Below w.heap.size w ((w.alloc (.cells #[.int .i64 c.src, .int .i64 c.dst, .slice A c.map.length cap] 28)).alloc (.cells #[.int .i64 0, .int .i64 0, .slice none 0 0] 28)) := by go_grown
  go_enter Try.func40, Try.ntmps40
  go_wp2_with fail
  refine (clone_any lo hi _ c.map _ (hz.below h3 hB) (by simp; omega) hlen).mono ?_
  rintro e w1 ⟨v, rfl, hb, hown⟩
  have hbel := Lib.hid (h3.trans (hb.mono (by simp; omega)))
  obtain ⟨hcl, hfr⟩ := bcell hb
  have hs1 := hb.size
  simp only [World.size_alloc] at hown hcl hfr hs1
  have hz1 : w.heap.size + 1 < w1.heap.size := by omega
  obtain ⟨u, hu, hup⟩ : ∃ u, v = u ∧ w1.ownsRow (w.heap.size + 1 + 1) 3 1 u c.map.length (c.map.map (Value.int .i64)) := ⟨v, rfl, hown⟩
  have hc2 : w1.cell? ⟨w.heap.size, 2, none⟩ = some (.slice A c.map.length cap) := by rw [hcl _ _ (by omega)]; simp [go_sem]
  have hc2' : ∀ u, (w1.setCell ⟨w.heap.size, 2, none⟩ u).cell? ⟨w.heap.size, 2, none⟩ = some u := fun u => World.cell?_setCell_same _ _ _ hc2
  have hd0 : w1.cell? ⟨w.heap.size + 1, 0, none⟩ = some (.int .i64 0) := by rw [hcl _ _ (by omega)]; simp [go_sem]
  have hd1 : w1.cell? ⟨w.heap.size + 1, 1, none⟩ = some (.int .i64 0) := by rw [hcl _ _ (by omega)]; simp [go_sem]
  have hd2 : w1.cell? ⟨w.heap.size + 1, 2, none⟩ = some (.slice none 0 0) := by rw [hcl _ _ (by omega)]; simp [go_sem]
  have Hown := Lib.hid hown
  clear hown hb hu hup h3
  obtain ⟨_, ⟨rfl, hn0⟩ | ⟨g, cap3, cur, rfl, hr⟩⟩ := Hown.out
  · clear hn0
    go_wp2
    refine bodyPost_ret (v := .agg #[.int .i64 c.src, .int .i64 c.dst, .slice none 0 0]) (by simp [results, Try.results40, go_sem, hd0, hd1, hd2]) rfl ?_
    refine ⟨_, rfl, ?_, ?_⟩
    · exact (((hbel.out.setCell (by dsimp only; omega) _).setCell (by dsimp only; omega) _).setCell (by dsimp only; omega) _).setCell (by dsimp only; omega) _
    · exact ownsRow_lower (ownsRow_keep Hown.out fun g hg hgl => (Below.heap_setCell _ _ _ _ (by dsimp only; omega)).trans ((Below.heap_setCell _ _ _ _ (by dsimp only; omega)).trans ((Below.heap_setCell _ _ _ _ (by dsimp only; omega)).trans (Below.heap_setCell _ _ _ _ (by dsimp only; omega))))) (by omega)
  · clear hr
    go_wp2
    refine bodyPost_ret (v := .agg #[.int .i64 c.src, .int .i64 c.dst, .slice (some ⟨g, 0, none⟩) c.map.length cap3]) (by simp [results, Try.results40, go_sem, hd0, hd1, hd2]) rfl ?_
    refine ⟨_, rfl, ?_, ?_⟩
    · exact (((hbel.out.setCell (by dsimp only; omega) _).setCell (by dsimp only; omega) _).setCell (by dsimp only; omega) _).setCell (by dsimp only; omega) _
    · exact ownsRow_lower (ownsRow_keep Hown.out fun g hg hgl => (Below.heap_setCell _ _ _ _ (by dsimp only; omega)).trans ((Below.heap_setCell _ _ _ _ (by dsimp only; omega)).trans ((Below.heap_setCell _ _ _ _ (by dsimp only; omega)).trans (Below.heap_setCell _ _ _ _ (by dsimp only; omega))))) (by omega)
end Go.Proofs.Ytplpnammboofiaa
