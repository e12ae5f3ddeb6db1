/-
  The contracts of the program's TermValid, readCall, HeadOf, LiteralOf, sizeOf, SizeOf, depthOf, DepthOf.
-/
import Derived.Test.YtcecljolnknapaaDoorTra
namespace Go.Proofs.YtcecljolnknapaaDoor
open Go.RowKit

set_option maxRecDepth 100000 in
set_option maxHeartbeats 1000000 in
theorem implTermValid_any (l : List UInt8) (n : Nat) (a : Addr) (w : World) (hv : Ev w n a) (hn : n ≤ w.heap.size) (hm : l.length ≤ 1048576) :
    Calls Tryd.prog 17 #[.string (str l)] w fun e w' => e = .returned (.bool (parseT l).isSome) ∧ Below w.heap.size w w' := by
  have HR := Lib.hid (readTerm_any l n a w hv hn hm)
  clear hv
  go_enter Tryd.func17, Tryd.ntmps17
  go_wp2_with fail
  refine HR.out.mono ?_
  rintro e w1 ⟨⟨t, o, hp, rfl, _⟩ | ⟨hp, rfl⟩, hb⟩
  · have HP := Lib.hid hp
    have HB := Lib.hid hb
    clear hp hb
    go_wp2
    go_ret
    exact ⟨by rw [HP.out]; rfl, HB.out⟩
  · have HP := Lib.hid hp
    have HB := Lib.hid hb
    clear hp hb
    go_wp2
    go_ret
    exact ⟨by rw [HP.out]; rfl, HB.out⟩

/-- A call's node, open. -/
theorem NodeAt.open {w : World} {B : Nat} {t : Tm} {o : Value} (h : NodeAt w B t o) (hc : isCallT t = true) : ∃ ps vs, o = .iface 52 (.agg #[.string (str (headT t)), ps]) ∧ w.ownsRow B 47 1 ps (partsT t).length vs ∧ NodesAt w B (partsT t) vs := by
  cases t with
  | lit k v => cases hc
  | c0 n => obtain ⟨ps, e, h⟩ := h; exact ⟨ps, [], e, h, trivial⟩
  | c1 n a => obtain ⟨ps, v, e, h, g⟩ := h; exact ⟨ps, [v], e, h, g, trivial⟩
  | c2 n a b => obtain ⟨ps, v, v2, e, h, g, g2⟩ := h; exact ⟨ps, [v, v2], e, h, g, g2, trivial⟩
theorem NodeAt.lit {w : World} {B : Nat} {t : Tm} {o : Value} (h : NodeAt w B t o) (hc : isCallT t = false) : ∃ k v, t = .lit k v ∧ o = .iface 58 (.agg #[.int .i64 k, .int .i64 v]) := by
  cases t with
  | lit k v => exact ⟨k, v, rfl, h⟩
  | c0 n => cases hc
  | c1 n a => cases hc
  | c2 n a b => cases hc
theorem NodesAt.at {w : World} {B : Nat} : ∀ {ts : List Tm} {vs : List Value}, NodesAt w B ts vs → ∀ i, ∀ (h1 : i < ts.length), ∃ v, vs[i]? = some v ∧ NodeAt w B ts[i] v
  | t :: ts, v :: vs, ⟨h, g⟩, i, h1 => by
    cases i with
    | zero => exact ⟨v, rfl, h⟩
    | succ i => exact g.at i (by simpa using h1)
/-- What a row gives a walk. -/
theorem own_cells {w : World} {N : Nat} {t : TypeId} {A : Option Addr} {n n' cap : Nat} {xs : List Value} (h : w.ownsRow N t 1 (.slice A n' cap) n xs) (h0 : 0 < n) : ∃ g, A = some ⟨g, 0, none⟩ ∧ N ≤ g ∧ g < w.heap.size ∧ n ≤ cap ∧ ∀ j, j < n → w.cell? ⟨g, j, none⟩ = xs[j]? := by
  obtain ⟨_, ⟨_, e⟩ | ⟨g, cap', cur, e, hg, hh, hc1, hc2, hcs, htake⟩⟩ := h
  · omega
  · injection e with e1 e2 e3
    subst e1; subst e2; subst e3
    refine ⟨g, rfl, hg, ?_, hc1, fun j hj => ?_⟩
    · rcases Nat.lt_or_ge g w.heap.size with h' | h'
      · exact h'
      · rw [Array.getElem?_eq_none h'] at hh; cases hh
    · have e : w.cell? ⟨g, j, none⟩ = cur[j]? := by simp [World.cell?, hh]
      rw [e]
      have e2 : cur[j]? = (cur.toList.take (n' * 1))[j]? := by
        rw [List.getElem?_take_of_lt (by omega)]
        simp
      rw [e2, htake]

/-- What reading a text as a call comes to. -/
def headP (l : List UInt8) : List UInt8 := match parseT l with
  | some t => headT t
  | none => []
theorem headP_some {l : List UInt8} {t : Tm} (h : parseT l = some t) : headP l = headT t := by unfold headP; rw [h]
theorem headP_none {l : List UInt8} (h : parseT l = none) : headP l = [] := by unfold headP; rw [h]
def callP (l : List UInt8) : Bool := match parseT l with
  | some t => isCallT t
  | none => false
theorem callP_some {l : List UInt8} {t : Tm} (h : parseT l = some t) : callP l = isCallT t := by unfold callP; rw [h]
theorem callP_none {l : List UInt8} (h : parseT l = none) : callP l = false := by unfold callP; rw [h]
def RcPost (l : List UInt8) (w : World) (e : Ending) (w' : World) : Prop :=
  (∃ ps vs ts, ts = ((parseT l).map partsT).getD [] ∧ e = .returned (.tuple #[.agg #[.string (str (headP l)), ps], .bool (callP l)]) ∧ w'.ownsRow w.heap.size 47 1 ps ts.length vs ∧ NodesAt w' w.heap.size ts vs) ∧ Below w.heap.size w w'
set_option maxRecDepth 100000 in
set_option maxHeartbeats 1000000 in
theorem readCall_any (l : List UInt8) (n : Nat) (a : Addr) (w : World) (hv : Ev w n a) (hn : n ≤ w.heap.size) (hm : l.length ≤ 1048576) :
    Calls Tryd.prog 47 #[.string (str l)] w fun e w' => RcPost l w e w' := by
  have hb0 : Below w.heap.size w (w.alloc (.cells #[.string ⟨#[]⟩, .slice none 0 0] 52)) := (Below.refl _ _).alloc (Nat.le_refl _) _
  have HR := Lib.hid (readTerm_any l n a _ (hv.keep (b := w.heap.size) ((Keep.refl _ _).of_below hb0) hn) (Nat.le_trans hn hb0.size) hm)
  have R0 : Hid (Row (w.alloc (.cells #[.string ⟨#[]⟩, .slice none 0 0] 52)) w.heap.size 52 [.string ⟨#[]⟩, .slice none 0 0]) := Row.new w _ _
  have HB0 := Lib.hid hb0
  clear hv hb0
  have fC := asCC
  have fL := asLC
  have fN := asNC
  go_enter Tryd.func47, Tryd.ntmps47
  go_wp2_with fail
  refine HR.out.mono ?_
  rintro e w1 ⟨⟨t, o, hp, rfl, hnod⟩ | ⟨hp, rfl⟩, hb⟩
  · have hs1 := hb.size
    rw [World.size_alloc] at hs1
    have hs1 : w.heap.size ≤ w1.heap.size := by omega
    have r1 := R0.out.below hb (by rw [World.size_alloc]; omega)
    have HB1 := Lib.hid (HB0.out.trans (hb.mono (by rw [World.size_alloc]; omega)))
    rw [World.size_alloc] at hnod
    have HN := Lib.hid hnod
    have hhead := Lib.hid (headP_some hp)
    have hcall := Lib.hid (callP_some hp)
    have hparts : Hid (((parseT l).map partsT).getD [] = partsT t) := by show _ = _; rw [hp]; rfl
    clear hp hb hnod HB0
    cases hc : isCallT t with
    | true =>
      obtain ⟨ps, vs, rfl, hown, hnods⟩ := HN.out.open hc
      obtain ⟨PA, PC, rfl⟩ := own_slice' hown
      have Hown := Lib.hid hown
      have Hnods := Lib.hid hnods
      rw [hc] at hcall
      clear hown hnods HN hc
      have r2 := r1.alloc (.cells #[.string (str (headT t)), .slice PA (partsT t).length PC] 52)
      have m0 := r2.cell 0
      have m1 := r2.cell 1
      have f0 := r2.frozen 0
      have f1 := r2.frozen 1
      simp only [List.getElem?_cons_zero, List.getElem?_cons_succ] at m0 m1
      have R2 := Lib.hid r2
      clear r1 r2 R0
      go_wp2
      obtain ⟨u5, hu5⟩ : ∃ u, u = ((w1.alloc (.cells #[.string (str (headT t)), .slice PA (partsT t).length PC] 52)).setCell ⟨w.heap.size, 0, none⟩ (.string (str (headT t)))).setCell ⟨w.heap.size, 1, none⟩ (.slice PA (partsT t).length PC) := ⟨_, rfl⟩
      rw [← hu5]
      have R5 : Hid (Row u5 w.heap.size 52 [.string (str (headT t)), .slice PA (partsT t).length PC]) := by rw [hu5]; exact (R2.out.set_ 0 _).set_ 1 _
      have HB5 : Hid (Below w.heap.size w u5) := by rw [hu5]; exact ((HB1.out.alloc hs1 _).setCell (Nat.le_refl _) _).setCell (Nat.le_refl _) _
      have hsame : Hid (∀ g, w.heap.size + 1 ≤ g → g < w1.heap.size → u5.heap[g]? = w1.heap[g]?) := by
        rw [hu5]
        intro g hg hw
        rw [Below.heap_setCell _ _ _ _ (by dsimp only; omega), Below.heap_setCell _ _ _ _ (by dsimp only; omega)]
        exact ((Below.refl _ _).alloc (Nat.le_refl _) _).block g hw
      have d0 := R5.out.cell 0
      have d1 := R5.out.cell 1
      simp only [List.getElem?_cons_zero, List.getElem?_cons_succ] at d0 d1
      clear hu5
      refine bodyPost_ret (v := .tuple #[.agg #[.string (str (headT t)), .slice PA (partsT t).length PC], .bool true]) (by simp [results, Tryd.results47, go_sem, d0, d1]) rfl ?_
      exact ⟨⟨_, vs, partsT t, hparts.out.symm, by rw [hhead.out, hcall.out], ownsRow_base (own_same Hown.out hsame.out) (by omega), (Hnods.out.same hsame.out).base (by omega)⟩, HB5.out⟩
    | false =>
      obtain ⟨k, v, rfl, rfl⟩ := HN.out.lit hc
      rw [hc] at hcall
      clear HN hc
      have r2 := r1.alloc (.cells #[.string ⟨#[]⟩, .slice none 0 0] 52)
      have m0 := r2.cell 0
      have m1 := r2.cell 1
      have f0 := r2.frozen 0
      have f1 := r2.frozen 1
      simp only [List.getElem?_cons_zero, List.getElem?_cons_succ] at m0 m1
      have R2 := Lib.hid r2
      clear r1 r2 R0
      go_wp2
      obtain ⟨u5, hu5⟩ : ∃ u, u = ((w1.alloc (.cells #[.string ⟨#[]⟩, .slice none 0 0] 52)).setCell ⟨w.heap.size, 0, none⟩ (.string ⟨#[]⟩)).setCell ⟨w.heap.size, 1, none⟩ (.slice none 0 0) := ⟨_, rfl⟩
      rw [← hu5]
      have R5 : Hid (Row u5 w.heap.size 52 [.string ⟨#[]⟩, .slice none 0 0]) := by rw [hu5]; exact (R2.out.set_ 0 _).set_ 1 _
      have HB5 : Hid (Below w.heap.size w u5) := by rw [hu5]; exact ((HB1.out.alloc hs1 _).setCell (Nat.le_refl _) _).setCell (Nat.le_refl _) _
      have hsame : Hid (∀ g, w.heap.size + 1 ≤ g → g < w1.heap.size → u5.heap[g]? = w1.heap[g]?) := by
        rw [hu5]
        intro g hg hw
        rw [Below.heap_setCell _ _ _ _ (by dsimp only; omega), Below.heap_setCell _ _ _ _ (by dsimp only; omega)]
        exact ((Below.refl _ _).alloc (Nat.le_refl _) _).block g hw
      have d0 := R5.out.cell 0
      have d1 := R5.out.cell 1
      simp only [List.getElem?_cons_zero, List.getElem?_cons_succ] at d0 d1
      clear hu5
      refine bodyPost_ret (v := .tuple #[.agg #[.string ⟨#[]⟩, .slice none 0 0], .bool false]) (by simp [results, Tryd.results47, go_sem, d0, d1]) rfl ?_
      exact ⟨⟨_, [], [], hparts.out.symm, by rw [hhead.out, hcall.out]; rfl, ⟨by simp, .inl ⟨rfl, rfl⟩⟩, trivial⟩, HB5.out⟩
  · have hs1 := hb.size
    rw [World.size_alloc] at hs1
    have hs1 : w.heap.size ≤ w1.heap.size := by omega
    have r1 := R0.out.below hb (by rw [World.size_alloc]; omega)
    have HB1 := Lib.hid (HB0.out.trans (hb.mono (by rw [World.size_alloc]; omega)))
    have hhead := Lib.hid (headP_none hp)
    have hcall := Lib.hid (callP_none hp)
    have hparts : Hid (((parseT l).map partsT).getD [] = []) := by show _ = _; rw [hp]; rfl
    clear hp hb HB0
    have r2 := r1.alloc (.cells #[.string ⟨#[]⟩, .slice none 0 0] 52)
    have m0 := r2.cell 0
    have m1 := r2.cell 1
    have f0 := r2.frozen 0
    have f1 := r2.frozen 1
    simp only [List.getElem?_cons_zero, List.getElem?_cons_succ] at m0 m1
    have R2 := Lib.hid r2
    clear r1 r2 R0
    go_wp2
    obtain ⟨u5, hu5⟩ : ∃ u, u = ((w1.alloc (.cells #[.string ⟨#[]⟩, .slice none 0 0] 52)).setCell ⟨w.heap.size, 0, none⟩ (.string ⟨#[]⟩)).setCell ⟨w.heap.size, 1, none⟩ (.slice none 0 0) := ⟨_, rfl⟩
    rw [← hu5]
    have R5 : Hid (Row u5 w.heap.size 52 [.string ⟨#[]⟩, .slice none 0 0]) := by rw [hu5]; exact (R2.out.set_ 0 _).set_ 1 _
    have HB5 : Hid (Below w.heap.size w u5) := by rw [hu5]; exact ((HB1.out.alloc hs1 _).setCell (Nat.le_refl _) _).setCell (Nat.le_refl _) _
    have hsame : Hid (∀ g, w.heap.size + 1 ≤ g → g < w1.heap.size → u5.heap[g]? = w1.heap[g]?) := by
      rw [hu5]
      intro g hg hw
      rw [Below.heap_setCell _ _ _ _ (by dsimp only; omega), Below.heap_setCell _ _ _ _ (by dsimp only; omega)]
      exact ((Below.refl _ _).alloc (Nat.le_refl _) _).block g hw
    have d0 := R5.out.cell 0
    have d1 := R5.out.cell 1
    simp only [List.getElem?_cons_zero, List.getElem?_cons_succ] at d0 d1
    clear hu5
    refine bodyPost_ret (v := .tuple #[.agg #[.string ⟨#[]⟩, .slice none 0 0], .bool false]) (by simp [results, Tryd.results47, go_sem, d0, d1]) rfl ?_
    exact ⟨⟨_, [], [], hparts.out.symm, by rw [hhead.out, hcall.out]; rfl, ⟨by simp, .inl ⟨rfl, rfl⟩⟩, trivial⟩, HB5.out⟩
end Go.Proofs.YtcecljolnknapaaDoor
