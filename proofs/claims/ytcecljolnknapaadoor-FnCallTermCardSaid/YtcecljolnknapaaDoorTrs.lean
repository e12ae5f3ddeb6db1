/-
  The contracts of the program's HeadOf, LiteralOf, sizeOf, SizeOf, depthOf, DepthOf.
-/
import Derived.Test.YtcecljolnknapaaDoorTri
namespace Go.Proofs.YtcecljolnknapaaDoor
open Go.RowKit

set_option maxRecDepth 100000 in
set_option maxHeartbeats 1000000 in
theorem implHead_any (l : List UInt8) (n : Nat) (a : Addr) (w : World) (hv : Ev w n a) (hn : n ≤ w.heap.size) (hm : l.length ≤ 1048576) :
    Calls Tryd.prog 19 #[.string (str l)] w fun e w' => e = .returned (.string (str (headP l))) ∧ Below w.heap.size w w' := by
  have HR := Lib.hid (readCall_any l n a w hv hn hm)
  clear hv
  go_enter Tryd.func19, Tryd.ntmps19
  go_wp2_with fail
  refine HR.out.mono ?_
  rintro e w1 ⟨⟨ps, vs, ts, hts, rfl, hown, hnods⟩, hb⟩
  obtain ⟨PA, PC, rfl⟩ := own_slice' hown
  have HB := Lib.hid (hb.alloc hb.size (.cells #[.string (str (headP l)), .slice PA ts.length PC] 52))
  have r2 := Row.new w1 52 [.string (str (headP l)), .slice PA ts.length PC]
  have m0 := r2.cell 0
  simp only [List.getElem?_cons_zero] at m0
  clear hts hown hnods hb r2
  go_wp2
  go_ret
  exact ⟨rfl, HB.out⟩

def litP (l : List UInt8) : Int × Int × Bool := match parseT l with
  | some t => litT t
  | none => (0, 0, false)
theorem litP_some {l : List UInt8} {t : Tm} (h : parseT l = some t) : litP l = litT t := by unfold litP; rw [h]
theorem litP_none {l : List UInt8} (h : parseT l = none) : litP l = (0, 0, false) := by unfold litP; rw [h]
theorem litT_call {t : Tm} (h : isCallT t = true) : litT t = (0, 0, false) := by
  cases t with
  | lit k v => cases h
  | c0 n => rfl
  | c1 n a => rfl
  | c2 n a b => rfl

set_option maxRecDepth 100000 in
set_option maxHeartbeats 2000000 in
theorem implLiteral_any (l : List UInt8) (n : Nat) (a : Addr) (w : World) (hv : Ev w n a) (hn : n ≤ w.heap.size) (hm : l.length ≤ 1048576) :
    Calls Tryd.prog 26 #[.string (str l)] w fun e w' => e = .returned (.tuple #[.int .i64 (litP l).1, .int .i64 (litP l).2.1, .bool (litP l).2.2]) ∧ Below w.heap.size w w' := by
  have HR := Lib.hid (readTerm_any l n a w hv hn hm)
  have fC := asCL
  have fL := asLL
  have fN := asNL
  clear hv
  go_enter Tryd.func26, Tryd.ntmps26
  go_wp2_with fail
  refine HR.out.mono ?_
  rintro e w1 ⟨⟨t, o, hp, rfl, hnod⟩ | ⟨hp, rfl⟩, hb⟩
  · have hlit := Lib.hid (litP_some hp)
    cases hc : isCallT t with
    | true =>
      obtain ⟨ps, vs, rfl, hown, hnods⟩ := hnod.open hc
      have hl2 := litT_call hc
      rw [hl2] at hlit
      have HB := Lib.hid (hb.alloc hb.size (.cells #[.int .i64 0, .int .i64 0] 58))
      have r2 := Row.new w1 58 [.int .i64 0, .int .i64 0]
      have m0 := r2.cell 0
      have m1 := r2.cell 1
      simp only [List.getElem?_cons_zero, List.getElem?_cons_succ] at m0 m1
      clear hp hnod hown hnods hb r2 hl2 hc
      go_wp2_with fail
      go_quiet (fail)
      go_wp2
      refine bodyPost_ret (v := .tuple #[.int .i64 0, .int .i64 0, .bool false]) (by simp [results, Tryd.results26, go_sem]) rfl ?_
      exact ⟨by rw [hlit.out]; try rfl, below_drewN HB.out _⟩
    | false =>
      obtain ⟨k, v, rfl, rfl⟩ := hnod.lit hc
      have HB := Lib.hid (hb.alloc hb.size (.cells #[.int .i64 k, .int .i64 v] 58))
      have r2 := Row.new w1 58 [.int .i64 k, .int .i64 v]
      have m0 := r2.cell 0
      have m1 := r2.cell 1
      simp only [List.getElem?_cons_zero, List.getElem?_cons_succ] at m0 m1
      clear hp hnod hb r2 hc
      go_wp2_with fail
      go_quiet (fail)
      go_wp2
      refine bodyPost_ret (v := .tuple #[.int .i64 k, .int .i64 v, .bool true]) (by simp [results, Tryd.results26, go_sem]) rfl ?_
      exact ⟨by rw [hlit.out]; try rfl, below_drewN HB.out _⟩
  · have hlit := Lib.hid (litP_none hp)
    have HB := Lib.hid (hb.alloc hb.size (.cells #[.int .i64 0, .int .i64 0] 58))
    have r2 := Row.new w1 58 [.int .i64 0, .int .i64 0]
    have m0 := r2.cell 0
    have m1 := r2.cell 1
    simp only [List.getElem?_cons_zero, List.getElem?_cons_succ] at m0 m1
    clear hp hb r2
    go_wp2_with fail
    go_quiet (fail)
    go_wp2
    refine bodyPost_ret (v := .tuple #[.int .i64 0, .int .i64 0, .bool false]) (by simp [results, Tryd.results26, go_sem]) rfl ?_
    exact ⟨by rw [hlit.out]; try rfl, below_drewN HB.out _⟩

theorem sum_take_le : ∀ (l : List Nat) (k : Nat), (l.take k).sum ≤ l.sum
  | [], k => by simp
  | a :: l, 0 => by simp
  | a :: l, k + 1 => by have := sum_take_le l k; simp only [List.take_succ_cons, List.sum_cons]; omega
theorem foldl_max_le (l : List Nat) : ∀ {a b : Nat}, a ≤ b → l.foldl max a ≤ l.foldl max b := by
  induction l with
  | nil => intro a b h; exact h
  | cons x l ih => intro a b h; exact ih (by omega)
theorem foldl_max_ge (l : List Nat) : ∀ a : Nat, a ≤ l.foldl max a := by
  induction l with
  | nil => intro a; exact Nat.le_refl _
  | cons x l ih => intro a; exact Nat.le_trans (Nat.le_max_left a x) (ih _)
theorem max_take_le (l : List Nat) (k : Nat) : (l.take k).foldl max 0 ≤ l.foldl max 0 := by
  have h : l.foldl max 0 = (l.drop k).foldl max ((l.take k).foldl max 0) := by rw [← List.foldl_append, List.take_append_drop]
  rw [h]
  exact foldl_max_ge _ _
def numP (f : Tm → Nat) (l : List UInt8) : Int := match parseT l with
  | some t => (f t : Int)
  | none => -1
theorem numP_some (f : Tm → Nat) {l : List UInt8} {t : Tm} (h : parseT l = some t) : numP f l = f t := by unfold numP; rw [h]
theorem numP_none (f : Tm → Nat) {l : List UInt8} (h : parseT l = none) : numP f l = -1 := by unfold numP; rw [h]

set_option maxRecDepth 100000 in
set_option maxHeartbeats 4000000 in
theorem sizeOf_any : ∀ (q : Nat) (t : Tm) (B : Nat) (o : Value) (w : World), (tmT t).length ≤ q → (tmT t).length ≤ 1048576 → NodeAt w B t o →
    Calls Tryd.prog 54 #[o] w fun e w' => e = .returned (.int .i64 (sizeT t)) ∧ Below w.heap.size w w' := by
  intro q
  induction q with
  | zero =>
    intro t B o w hq
    exact absurd hq (by cases t <;> simp [tmT])
  | succ q ih =>
    intro t B o w hq hm hnod
    have IH := Lib.hid ih
    clear ih
    have fC := asCC
    have fL := asLC
    cases hc : isCallT t with
    | false =>
      obtain ⟨k, v, rfl, rfl⟩ := hnod.lit hc
      clear hnod hc
      go_enter Tryd.func54, Tryd.ntmps54
      go_wp2
      go_ret
      exact ⟨rfl, Below.refl _ _⟩
    | true =>
      obtain ⟨ps, vs, rfl, hown, hnods⟩ := hnod.open hc
      obtain ⟨PA, PC, rfl⟩ := own_slice' hown
      obtain ⟨ts, hts⟩ : ∃ ts, ts = partsT t := ⟨_, rfl⟩
      have hall : Hid (∀ p ∈ ts, (tmT p).length + 3 ≤ (tmT t).length) := fun p hp => partsT_len (by rw [← hts]; exact hp)
      have hlen2 : ts.length ≤ 2 := by rw [hts]; exact partsT_two t
      have hdat : Hid (sizeT t = 1 + (ts.map sizeT).sum) := by show _ = _; rw [size_sum, hts]
      rw [← hts] at hown hnods ⊢
      have Hown := Lib.hid hown
      have Hnods := Lib.hid hnods
      have hb0 : Below w.heap.size w (w.alloc (.cells #[.string (str (headT t)), .slice PA ts.length PC] 52)) := (Below.refl _ _).alloc (Nat.le_refl _) _
      have HB0 := Lib.hid hb0
      have r2 := Row.new w 52 [.string (str (headT t)), .slice PA ts.length PC]
      have m1 := r2.cell 1
      simp only [List.getElem?_cons_zero, List.getElem?_cons_succ] at m1
      clear hown hnods hnod hc hb0 r2 hts
      go_enter Tryd.func54, Tryd.ntmps54
      go_wp2_with fail
      go_loopw [4, 15] (fun s i wr => ∃ k : Nat, k ≤ ts.length ∧ i = .int .i64 k ∧ s = .int .i64 ((1 + ((ts.map sizeT).take k).sum : Nat) : Int) ∧ Hid (Below w.heap.size w wr)) (fun _ i _ => ts.length - (intOf i).toNat)
      case atStart => exact ⟨0, Nat.zero_le _, rfl, by simp, HB0.out⟩
      case round =>
        obtain ⟨k, hk, rfl, rfl, hbr⟩ := hrel
        by_cases hkl : k < ts.length
        · obtain ⟨g, hPA, _, hgw, _, hcells⟩ := own_cells Hown.out (by omega)
          obtain ⟨v, hv, hnv⟩ := Hnods.out.at k hkl
          have hck : wr.cell? ⟨g, k, none⟩ = some v := (World.cell?_of_block (w := w) (hbr.out.block g hgw)).trans ((hcells k hkl).trans hv)
          have hpl := hall.out ts[k] (List.getElem_mem hkl)
          have hsl := sizeT_le ts[k]
          have HC := Lib.hid (IH.out ts[k] B v wr (by omega) (by omega) (hnv.same fun g _ hg => hbr.out.block g hg))
          have htk : Hid (1 + ((ts.map sizeT).take (k + 1)).sum = 1 + ((ts.map sizeT).take k).sum + sizeT ts[k]) := by show _ = _; rw [sum_take (by simpa using hkl)]; simp; omega
          have hacc : 1 + ((ts.map sizeT).take k).sum ≤ 1048576 := by have h1 := sizeT_le t; rw [hdat.out] at h1; have h2 := sum_take_le (ts.map sizeT) k; omega
          subst hPA
          obtain ⟨acc, ha⟩ : ∃ acc : Nat, acc = 1 + ((ts.map sizeT).take k).sum := ⟨_, rfl⟩
          rw [← ha] at htk hacc ⊢
          obtain ⟨sk, hsk⟩ : ∃ sk, sk = sizeT ts[k] := ⟨_, rfl⟩
          rw [← hsk] at HC htk hsl
          clear hcells hv hnv ha hsk
          go_wp2_with (first | (go_at_call 54; refine HC.out.mono ?_; rintro e w2 ⟨rfl, hb2⟩; have HB2 := Lib.hid (hbr.out.trans (hb2.mono hbr.out.size)); clear hb2))
          go_roundw
          case rel => exact ⟨k + 1, by omega, by go_num, by rw [htk.out]; go_num, HB2.out⟩
          case measure => simp [intOf]; omega
        · have hke : k = ts.length := by omega
          subst hke
          have hfin : Hid (sizeT t = 1 + (ts.map sizeT).sum) := by show _ = _; rw [hdat.out]; skip
          have hbnd := sizeT_le t
          have hki : ¬ ((ts.length : Int) < (ts.length : Int)) := by omega
          obtain ⟨acc, ha⟩ : ∃ acc : Nat, acc = 1 + (ts.map sizeT).sum := ⟨_, rfl⟩
          rw [show 1 + ((ts.map sizeT).take ts.length).sum = 1 + (ts.map sizeT).sum by rw [List.take_of_length_le (by simp)]]
          rw [← ha] at hfin ⊢
          rw [hfin.out] at hbnd
          clear ha hki
          go_wp2
          go_ret
          exact ⟨by rw [hfin.out]; go_num, hbr.out⟩

set_option maxRecDepth 100000 in
set_option maxHeartbeats 4000000 in
theorem depthOf_any : ∀ (q : Nat) (t : Tm) (B : Nat) (o : Value) (w : World), (tmT t).length ≤ q → (tmT t).length ≤ 1048576 → NodeAt w B t o →
    Calls Tryd.prog 56 #[o] w fun e w' => e = .returned (.int .i64 (depthT t)) ∧ Below w.heap.size w w' := by
  intro q
  induction q with
  | zero =>
    intro t B o w hq
    exact absurd hq (by cases t <;> simp [tmT])
  | succ q ih =>
    intro t B o w hq hm hnod
    have IH := Lib.hid ih
    clear ih
    have fC := asCC
    have fL := asLC
    cases hc : isCallT t with
    | false =>
      obtain ⟨k, v, rfl, rfl⟩ := hnod.lit hc
      clear hnod hc
      go_enter Tryd.func56, Tryd.ntmps56
      go_wp2
      go_ret
      exact ⟨rfl, Below.refl _ _⟩
    | true =>
      obtain ⟨ps, vs, rfl, hown, hnods⟩ := hnod.open hc
      obtain ⟨PA, PC, rfl⟩ := own_slice' hown
      obtain ⟨ts, hts⟩ : ∃ ts, ts = partsT t := ⟨_, rfl⟩
      have hall : Hid (∀ p ∈ ts, (tmT p).length + 3 ≤ (tmT t).length) := fun p hp => partsT_len (by rw [← hts]; exact hp)
      have hlen2 : ts.length ≤ 2 := by rw [hts]; exact partsT_two t
      have hdat : Hid (depthT t = (ts.map depthT).foldl max 0 + 1) := by show _ = _; rw [depth_max t hc, hts]
      rw [← hts] at hown hnods ⊢
      have Hown := Lib.hid hown
      have Hnods := Lib.hid hnods
      have hb0 : Below w.heap.size w (w.alloc (.cells #[.string (str (headT t)), .slice PA ts.length PC] 52)) := (Below.refl _ _).alloc (Nat.le_refl _) _
      have HB0 := Lib.hid hb0
      have r2 := Row.new w 52 [.string (str (headT t)), .slice PA ts.length PC]
      have m1 := r2.cell 1
      simp only [List.getElem?_cons_zero, List.getElem?_cons_succ] at m1
      clear hown hnods hnod hc hb0 r2 hts
      go_enter Tryd.func56, Tryd.ntmps56
      go_wp2_with fail
      go_loopw [4, 15] (fun s i wr => ∃ k : Nat, k ≤ ts.length ∧ i = .int .i64 k ∧ s = .int .i64 ((((ts.map depthT).take k).foldl max 0 : Nat) : Int) ∧ Hid (Below w.heap.size w wr)) (fun _ i _ => ts.length - (intOf i).toNat)
      case atStart => exact ⟨0, Nat.zero_le _, rfl, by simp, HB0.out⟩
      case round =>
        obtain ⟨k, hk, rfl, rfl, hbr⟩ := hrel
        by_cases hkl : k < ts.length
        · obtain ⟨g, hPA, _, hgw, _, hcells⟩ := own_cells Hown.out (by omega)
          obtain ⟨v, hv, hnv⟩ := Hnods.out.at k hkl
          have hck : wr.cell? ⟨g, k, none⟩ = some v := (World.cell?_of_block (w := w) (hbr.out.block g hgw)).trans ((hcells k hkl).trans hv)
          have hpl := hall.out ts[k] (List.getElem_mem hkl)
          have hsl := depthT_le ts[k]
          have HC := Lib.hid (IH.out ts[k] B v wr (by omega) (by omega) (hnv.same fun g _ hg => hbr.out.block g hg))
          have htk : Hid (((ts.map depthT).take (k + 1)).foldl max 0 = max (((ts.map depthT).take k).foldl max 0) (depthT ts[k])) := by show _ = _; rw [maxTo_take _ (by simpa using hkl)]; simp
          have hacc : ((ts.map depthT).take k).foldl max 0 ≤ 1048576 := by have h1 := depthT_le t; rw [hdat.out] at h1; have h2 := max_take_le (ts.map depthT) k; omega
          subst hPA
          obtain ⟨acc, ha⟩ : ∃ acc : Nat, acc = ((ts.map depthT).take k).foldl max 0 := ⟨_, rfl⟩
          rw [← ha] at htk hacc ⊢
          obtain ⟨sk, hsk⟩ : ∃ sk, sk = depthT ts[k] := ⟨_, rfl⟩
          rw [← hsk] at HC htk hsl
          clear hcells hv hnv ha hsk
          go_wp2_with (first | (go_at_call 56; refine HC.out.mono ?_; rintro e w2 ⟨rfl, hb2⟩; have HB2 := Lib.hid (hbr.out.trans (hb2.mono hbr.out.size)); clear hb2))
          go_roundw
          case rel => exact ⟨k + 1, by omega, by go_num, by rw [htk.out]; go_num, HB2.out⟩
          case measure => simp [intOf]; omega
        · have hke : k = ts.length := by omega
          subst hke
          have hfin : Hid (depthT t = ((ts.map depthT).foldl max 0) + 1) := by show _ = _; rw [hdat.out]; skip
          have hbnd := depthT_le t
          have hki : ¬ ((ts.length : Int) < (ts.length : Int)) := by omega
          obtain ⟨acc, ha⟩ : ∃ acc : Nat, acc = (ts.map depthT).foldl max 0 := ⟨_, rfl⟩
          rw [show (ts.map depthT).take ts.length = ts.map depthT by rw [List.take_of_length_le (by simp)]]
          rw [← ha] at hfin ⊢
          rw [hfin.out] at hbnd
          clear ha hki
          go_wp2
          go_ret
          exact ⟨by rw [hfin.out]; go_num, hbr.out⟩

set_option maxRecDepth 100000 in
set_option maxHeartbeats 1000000 in
theorem implSizeOf_any (l : List UInt8) (n : Nat) (a : Addr) (w : World) (hv : Ev w n a) (hn : n ≤ w.heap.size) (hm : l.length ≤ 1048576) :
    Calls Tryd.prog 32 #[.string (str l)] w fun e w' => e = .returned (.int .i64 (numP sizeT l)) ∧ Below w.heap.size w w' := by
  have HR := Lib.hid (readTerm_any l n a w hv hn hm)
  clear hv
  go_enter Tryd.func32, Tryd.ntmps32
  go_wp2_with fail
  refine HR.out.mono ?_
  rintro e w1 ⟨⟨t, o, hp, rfl, hnod⟩ | ⟨hp, rfl⟩, hb⟩
  · have HP := Lib.hid (numP_some sizeT hp)
    have HB := Lib.hid hb
    have htl := (parseT_tmT.1 hp).2.1
    have HC := Lib.hid (sizeOf_any (tmT t).length t _ o w1 (Nat.le_refl _) (by rw [← htl]; exact hm) hnod)
    clear hp hb hnod htl
    go_wp2_with fail
    refine HC.out.mono ?_
    rintro e w2 ⟨rfl, hb2⟩
    have HB2 := Lib.hid (HB.out.trans (hb2.mono HB.out.size))
    clear hb2
    go_wp2
    go_ret
    exact ⟨by rw [HP.out]; rfl, HB2.out⟩
  · have HP := Lib.hid (numP_none sizeT hp)
    have HB := Lib.hid hb
    clear hp hb
    go_wp2
    go_ret
    exact ⟨by rw [HP.out]; rfl, HB.out⟩

set_option maxRecDepth 100000 in
set_option maxHeartbeats 1000000 in
theorem implDepthOf_any (l : List UInt8) (n : Nat) (a : Addr) (w : World) (hv : Ev w n a) (hn : n ≤ w.heap.size) (hm : l.length ≤ 1048576) :
    Calls Tryd.prog 34 #[.string (str l)] w fun e w' => e = .returned (.int .i64 (numP depthT l)) ∧ Below w.heap.size w w' := by
  have HR := Lib.hid (readTerm_any l n a w hv hn hm)
  clear hv
  go_enter Tryd.func34, Tryd.ntmps34
  go_wp2_with fail
  refine HR.out.mono ?_
  rintro e w1 ⟨⟨t, o, hp, rfl, hnod⟩ | ⟨hp, rfl⟩, hb⟩
  · have HP := Lib.hid (numP_some depthT hp)
    have HB := Lib.hid hb
    have htl := (parseT_tmT.1 hp).2.1
    have HC := Lib.hid (depthOf_any (tmT t).length t _ o w1 (Nat.le_refl _) (by rw [← htl]; exact hm) hnod)
    clear hp hb hnod htl
    go_wp2_with fail
    refine HC.out.mono ?_
    rintro e w2 ⟨rfl, hb2⟩
    have HB2 := Lib.hid (HB.out.trans (hb2.mono HB.out.size))
    clear hb2
    go_wp2
    go_ret
    exact ⟨by rw [HP.out]; rfl, HB2.out⟩
  · have HP := Lib.hid (numP_none depthT hp)
    have HB := Lib.hid hb
    clear hp hb
    go_wp2
    go_ret
    exact ⟨by rw [HP.out]; rfl, HB.out⟩
end Go.Proofs.YtcecljolnknapaaDoor
