/-
  Proved here: FnExactReducedTypes returns true for all arguments, and each argument reads afterwards as it read before.
  Conditions: none.
-/
import Derived.Test.YtokklaoldgdkaaaCopyw
import Derived.Deep.RegionLaw
import Derived.Deep.Upon
import Derived.Test.YtokklaoldgdkaaaScut
import Derived.Test.YtokklaoldgdkaaaRta
import Derived.Test.YtokklaoldgdkaaaIwith
import Derived.Test.YtokklaoldgdkaaaMarkt
import Derived.Test.YtokklaoldgdkaaaRtb
import Derived.Test.YtokklaoldgdkaaaRfacts
import Derived.Test.YtokklaoldgdkaaaLgen
import Derived.Deep.RegionHeld3
import Derived.Test.YtokklaoldgdkaaaRows
import Derived.Test.YtokklaoldgdkaaaMem
import Derived.WalkKit
import Derived.ProofKit
import Derived.OpenShut
import Derived.Lib.SmallJoins
import Derived.Deep.Slices
import Derived.Deep.Fields
import Derived.Conc.HoldsTime
import Derived.Handed
import Derived.Carry
import Derived.JoinedOf
namespace Go.Proofs.Ytokklaoldgdkaaa
open Go.RowKit

theorem Row.setCells_ {g : Nat} {t : TypeId} : ∀ (vs : List Value) (o : Nat) (w : World) (ys : List Value), Row w g t ys → o + vs.length ≤ ys.length → Row (w.setCells g o vs) g t (ys.take o ++ vs ++ ys.drop (o + vs.length))
  | [], o, w, ys, h, _ => by
    simpa [World.setCells] using h
  | v :: r, o, w, ys, h, hl => by
    have h1 := Row.setCells_ r (o + 1) (w.setCell ⟨g, o, none⟩ v) (ys.set o v) (h.set_ o v) (by simp at hl ⊢; omega)
    have e : (ys.set o v).take (o + 1) ++ r ++ (ys.set o v).drop (o + 1 + r.length) = ys.take o ++ (v :: r) ++ ys.drop (o + (v :: r).length) := by
      have hlo : o < ys.length := by simp at hl; omega
      rw [List.take_succ_eq_append_getElem (by simpa using hlo), List.drop_set_of_lt (by omega), List.take_set_of_le (by omega)]
      simp [Nat.add_assoc, Nat.add_comm 1]
    rw [e] at h1
    exact h1
theorem grown_setCells {g : Nat} : ∀ (vs : List Value) (o : Nat) (w : World), w.grownBy (w.setCells g o vs) (some g)
  | [], _, w => ⟨rfl, rfl, rfl, Nat.le_refl _, fun _ _ _ => rfl⟩
  | v :: r, o, w => by
    have h := grown_setCells (g := g) r (o + 1) (w.setCell ⟨g, o, none⟩ v)
    refine ⟨h.os, h.tape, h.output, Nat.le_trans (Nat.le_of_eq (by simp [World.setCell])) h.size, fun i hi hne => (h.block i (by simpa [World.setCell] using hi) hne).trans (Below.heap_setCell _ _ _ _ (fun e => hne (by rw [e])))⟩

theorem zeroCo (u : World) : (zeroValue 52).run Try.prog u = .ok (.agg #[.int .i64 0, .int .i64 0, .slice none 0 0]) u := by kernel_rfl

theorem clear_one (w : World) (g : Nat) (ys : List Value) (o c : Nat) (hr : Row w g 52 ys) (hl : o + 3 ≤ ys.length) (ty : TypeId) :
    (Builtin.clear_ #[28] ty #[.slice (some ⟨g, o, none⟩) 1 c]).run Try.prog w = .ok (.tuple #[]) (w.setCells g o [.int .i64 0, .int .i64 0, .slice none 0 0]) := by
  have hst := run_storeCells_cells (P := Try.prog) g o [.int .i64 0, .int .i64 0, .slice none 0 0] 0 w (fun j hj => by
    rw [hr.cell, Nat.add_zero, List.getElem?_eq_getElem (by simp at hj; omega)]; rfl) (fun j _ => hr.frozen _) (by intro v hv; simp at hv; rcases hv with rfl | rfl <;> rfl)
  simp only [Nat.add_zero] at hst
  have hz : (Builtin.zeroCells (Value.agg #[.int .i64 0, .int .i64 0, .slice none 0 0]).cells 1).toList = [.int .i64 0, .int .i64 0, .slice none 0 0] := by first | kernel_rfl | (simp [Builtin.zeroCells, go_sem]; decide)
  simp [Builtin.clear_, run_underlying Try.underlying28, hz, hst]

set_option maxHeartbeats 4000000 in
set_option maxRecDepth 1000000 in
theorem delete_any (base : Nat) (l : Value) (k n : Nat) (xs : List Value) (w : World) (hown : w.ownsRow base 52 3 l k xs) (hn : n < k) (hk : k ≤ 1048576) (hone : ∀ x ∈ xs, x.oneCell' = true) :
    Calls Try.prog 80 #[l, .int .i64 n, .int .i64 ((n : Int) + 1)] w fun e w' => ∃ l', e = .returned l' ∧ l'.ownBlock = l.ownBlock ∧ w'.ownsRow base 52 3 l' (k - 1) (xs.take (n * 3) ++ xs.drop ((n + 1) * 3)) ∧ w.grownBy w' l.ownBlock := by
  obtain ⟨i0, hi0, hz0, hz1, hz2⟩ := info_parts infoCoercionW
  obtain ⟨hlen, ⟨_, h0⟩ | ⟨g, cap, cur, rfl, hg, hh, hc1, hc2, hcs, htake⟩⟩ := hown
  · omega
  unfold maxLen at hc2
  have hrow : Row w g 52 cur.toList := by unfold Row; simpa using hh
  have hyl : cur.toList.length = cap * 3 := by simpa using hcs
  generalize hys : cur.toList = ys at *
  have hxsl : xs.length = k * 3 := hlen
  obtain ⟨news, hnews⟩ : ∃ news, news = xs.drop ((n + 1) * 3) := ⟨_, rfl⟩
  have hnl : news.length = (k - (n + 1)) * 3 := by rw [hnews, List.length_drop, hxsl]; omega
  have hget : ∀ j u, news[j]? = some u → ys[(n + 1) * 3 + j]? = some u := fun j u hu => by
    rw [hnews, List.getElem?_drop, ← htake] at hu
    have hj : (n + 1) * 3 + j < k * 3 := by
      have := (List.getElem?_eq_some_iff.1 hu).1
      simp only [List.length_take] at this
      omega
    rwa [List.getElem?_take_of_lt hj] at hu
  obtain ⟨A, hA, hsrc⟩ : ∃ A : Addr, (if cap = n + 1 then some (⟨g, 0, none⟩ : Addr) else some ⟨g, (n + 1) * 3, none⟩) = some A ∧ Hid (∀ j u, news[j]? = some u → w.drew.cell? (A.add j) = some u) := by
    by_cases h : cap = n + 1
    · refine ⟨⟨g, 0, none⟩, by simp [h], fun j u hu => ?_⟩
      have hj := (List.getElem?_eq_some_iff.1 hu).1
      rw [hnl] at hj
      omega
    · refine ⟨⟨g, (n + 1) * 3, none⟩, by simp [h], fun j u hu => ?_⟩
      rw [Go.WideShapes.add_plain]
      exact (hrow.cell _).trans (hget j u hu)
  have s1 : Hid (news.length = (k - (n + 1)) * 3) := hnl
  have s2 : Hid (∀ u ∈ news, u.oneCell' = true) := fun u hu => by rw [hnews] at hu; exact hone u (List.mem_of_mem_drop hu)
  have s3 : Hid (∀ j, j < news.length → (w.drew.cell? ⟨g, 0 + n * 3 + j, none⟩).isSome = true ∧ w.drew.frozen? ⟨g, 0 + n * 3 + j, none⟩ = false) := by
    intro j hj
    rw [hnl] at hj
    refine ⟨?_, hrow.frozen _⟩
    rw [show w.drew.cell? ⟨g, 0 + n * 3 + j, none⟩ = ys[0 + n * 3 + j]? from hrow.cell _, List.getElem?_eq_getElem (by rw [hyl]; omega)]
    rfl
  obtain ⟨W1, hW1⟩ : ∃ W1, W1 = w.drew.setCells g (0 + n * 3) news := ⟨_, rfl⟩
  have hg1 : w.grownBy W1 (some g) := by
    have := grown_setCells (g := g) news (0 + n * 3) w.drew
    rw [← hW1] at this
    exact ⟨this.os, this.tape, this.output, this.size, this.block⟩
  have hr1 : Row W1 g 52 (ys.take (n * 3) ++ news ++ ys.drop (n * 3 + news.length)) := by
    have := Row.setCells_ news (0 + n * 3) w.drew ys hrow.drew (by rw [hyl, hnl]; omega)
    rw [← hW1, Nat.zero_add] at this
    exact this
  have hl1 : (ys.take (n * 3) ++ news ++ ys.drop (n * 3 + news.length)).length = cap * 3 := by
    simp only [List.length_append, List.length_take, List.length_drop, hyl, hnl]; omega
  have hcl := fun ty => clear_one W1 g _ ((k - 1) * 3) (cap - (k - 1)) hr1 (by rw [hl1]; omega) ty
  have ek : n + (k - (n + 1)) = k - 1 := by omega
  have ek2 : k - (k - 1) = 1 := by omega
  have hcl2 : ∀ ty, (Builtin.clear_ #[28] ty #[.slice (some ⟨g, (n + (k - (n + 1))) * 3, none⟩) (k - (n + (k - (n + 1)))) (cap - (n + (k - (n + 1))))]).run Try.prog W1 = .ok (.tuple #[]) (W1.setCells g ((k - 1) * 3) [.int .i64 0, .int .i64 0, .slice none 0 0]) := fun ty => by rw [ek, ek2]; exact hcl ty
  clear hcl ek ek2
  have hr2 := Row.setCells_ [.int .i64 0, .int .i64 0, .slice none 0 0] ((k - 1) * 3) W1 _ hr1 (by rw [hl1]; simp; omega)
  have hg2 : w.grownBy (W1.setCells g ((k - 1) * 3) [.int .i64 0, .int .i64 0, .slice none 0 0]) (some g) := by
    have h2 := grown_setCells (g := g) [.int .i64 0, .int .i64 0, .slice none 0 0] ((k - 1) * 3) W1
    exact ⟨h2.os.trans hg1.os, h2.tape.trans hg1.tape, h2.output.trans hg1.output, Nat.le_trans hg1.size h2.size, fun i hi hne => (h2.block i (Nat.lt_of_lt_of_le hi hg1.size) hne).trans (hg1.block i hi hne)⟩
  have Hr2 := Lib.hid hr2
  have Hg2 := Lib.hid hg2
  have Hl1 := Lib.hid hl1
  have hW : Hid (W1 = w.drew.setCells g (0 + n * 3) news) := hW1
  have Hnl := Lib.hid hnl
  have Hyl := Lib.hid hyl
  have Hnews := Lib.hid hnews
  have Htake := Lib.hid htake
  have Hxsl := Lib.hid hxsl
  have hwr : IntKind.i64.wrap ((n : Int) + 1) = (n : Int) + 1 := by rw [IntKind.wrap_i64]; omega
  have hp0 : (0 : Int) ≤ (n : Int) + 1 := by omega
  have hp1 : (n : Int) + 1 ≤ (k : Int) := by omega
  have hp2 : ((n : Int) + 1).toNat = n + 1 := by omega
  have hic : n ≤ cap := by omega
  have hne : ((n : Int) == (n : Int) + 1) = false := by simp; omega
  clear hW1 hg1 hr1 hl1 hr2 hg2 hrow hget hnews hnl hyl hh hcs hlen htake hxsl hone hys
  go_enter Try.func80, Try.ntmps80
  go_wp2_with fail
  go_region_law (refine step_append_room rfl (.tmp 22) (.tmp 25) 28 rfl 52 i0 3 Try.underlying28 hi0 hz1 g 0 n cap (by simp [Act.eval, Act.put]) A (k-(n+1)) (cap-(n+1)) news (by simp [Act.eval, Act.put]) s1.out hsrc.out s2.out (by omega) s3.out ?_; rw [← hW.out])
  go_wp2
  go_ret
  have ek : n + (k - (n + 1)) = k - 1 := by omega
  rw [ek]
  refine ⟨_, rfl, rfl, ⟨by rw [List.length_append, List.length_take, List.length_drop, Hxsl.out]; omega, .inr ⟨g, cap, _, rfl, hg, Hr2.out, by omega, by unfold maxLen; omega, ?_, ?_⟩⟩, Hg2.out⟩
  · have h1 := Hl1.out
    simp only [List.size_toArray, List.length_append, List.length_take, List.length_drop, List.length_cons, List.length_nil, Hyl.out, Hnl.out] at h1 ⊢
    omega
  · have hxt : xs.take (n * 3) = ys.take (n * 3) := by rw [← Htake.out, List.take_take, Nat.min_eq_left (by omega)]
    have hl2 : (ys.take (n * 3) ++ news).length = (k - 1) * 3 := by rw [List.length_append, List.length_take, Hyl.out, Hnl.out]; omega
    have hl3 : (List.take ((k - 1) * 3) (ys.take (n * 3) ++ news ++ ys.drop (n * 3 + news.length))).length = (k - 1) * 3 := by rw [List.length_take, Hl1.out]; omega
    rw [hxt, ← Hnews.out, List.append_assoc, List.take_append_of_le_length (by rw [hl3]; omega), List.take_take, Nat.min_self, List.take_append_of_le_length (by rw [hl2]; omega), List.take_of_length_le (by rw [hl2]; omega)]
end Go.Proofs.Ytokklaoldgdkaaa

namespace Go.Proofs.Ytokklaoldgdkaaa
open Go.RowKit

/-- Where a place of the shorter list stood. -/
def sh (k i : Nat) : Nat := if i < k then i else i + 1
theorem sh_lt {k i n : Nat} (hi : i < n - 1) : sh k i < n := by unfold sh; split <;> omega
theorem sh_ne {k i j : Nat} (h : j ≠ i) : sh k j ≠ sh k i := by unfold sh; split <;> split <;> omega
theorem cut_len {t : Ty} {k : Nat} (hk : k < t.cos.length) : (cutCo t k).cos.length = t.cos.length - 1 := by
  show (t.cos.take k ++ t.cos.drop (k + 1)).length = _
  rw [List.length_append, List.length_take, List.length_drop]; omega
theorem cut_at {t : Ty} {k i : Nat} (hk : k < t.cos.length) (_hi : i < t.cos.length - 1) : (cutCo t k).cos.getD i default = t.cos.getD (sh k i) default := by
  show (t.cos.take k ++ t.cos.drop (k + 1)).getD i default = _
  have hl : (t.cos.take k).length = k := by rw [List.length_take, Nat.min_eq_left (Nat.le_of_lt hk)]
  rw [List.getD_eq_getElem?_getD, List.getD_eq_getElem?_getD]
  unfold sh
  by_cases h : i < k
  · rw [if_pos h, List.getElem?_append_left (by omega), List.getElem?_take_of_lt h]
  · rw [if_neg h, List.getElem?_append_right (by omega), hl, List.getElem?_drop, show k + 1 + (i - k) = i + 1 by omega]

theorem MapsOf.cut {w w' : World} {base : Nat} {row : Option Nat} {f : Nat → Co} {n : Nat} {xs : List Value} {m : Nat → Nat} {mv : Nat → Value} (h : MapsOf w base row f n xs m mv) (hx : xs.length = n * 3) {k : Nat} (hk : k < n) (hs : w.heap.size ≤ w'.heap.size) (hg : ∀ g, base ≤ g → g < w.heap.size → row ≠ some g → w'.heap[g]? = w.heap[g]?) :
    MapsOf w' base row (fun i => f (sh k i)) (n - 1) (xs.take (k * 3) ++ xs.drop ((k + 1) * 3)) (fun i => m (sh k i)) (fun i => mv (sh k i)) := by
  have hl : (xs.take (k * 3)).length = k * 3 := by rw [List.length_take, hx]; omega
  refine ⟨fun i hi => ?_, fun i hi => ?_, fun i hi h0 => ?_⟩
  · obtain ⟨c0, c1, c2⟩ := h.cells (sh k i) (sh_lt hi)
    have key : ∀ r, r < 3 → (xs.take (k * 3) ++ xs.drop ((k + 1) * 3))[i * 3 + r]? = xs[sh k i * 3 + r]? := by
      intro r hr
      unfold sh
      by_cases h1 : i < k
      · rw [if_pos h1, List.getElem?_append_left (by omega), List.getElem?_take_of_lt (by omega)]
      · rw [if_neg h1, List.getElem?_append_right (by omega), hl, List.getElem?_drop, show (k + 1) * 3 + (i * 3 + r - k * 3) = (i + 1) * 3 + r by omega]
    exact ⟨(key 0 (by omega)).trans c0, (key 1 (by omega)).trans c1, (key 2 (by omega)).trans c2⟩
  · exact (h.own (sh k i) (sh_lt hi)).keep fun h0 => by
      have ha := h.away (sh k i) (sh_lt hi) (by simpa using h0)
      exact hg _ ha.1 ha.2.1 ha.2.2.1
  · obtain ⟨a, b, c, d⟩ := h.away (sh k i) (sh_lt hi) h0
    exact ⟨a, Nat.lt_of_lt_of_le b hs, c, fun j hj hne h1 => d (sh k j) (sh_lt hj) (sh_ne hne) h1⟩
theorem MapsOf.one {w : World} {base : Nat} {row : Option Nat} {f : Nat → Co} {n : Nat} {xs : List Value} {m : Nat → Nat} {mv : Nat → Value} (h : MapsOf w base row f n xs m mv) (hx : xs.length = n * 3) : ∀ x ∈ xs, x.oneCell' = true := by
  intro x hxm
  obtain ⟨j, hj, rfl⟩ := List.getElem_of_mem hxm
  have hlt : j / 3 < n := by omega
  obtain ⟨c0, c1, c2⟩ := h.cells (j / 3) hlt
  have e := List.getElem?_eq_getElem hj
  rcases (by omega : j = j / 3 * 3 ∨ j = j / 3 * 3 + 1 ∨ j = j / 3 * 3 + 2) with e1 | e1 | e1
  · rw [← e1, e] at c0; injection c0 with c0; rw [c0]; rfl
  · rw [← e1, e] at c1; injection c1 with c1; rw [c1]; rfl
  · rw [← e1, e] at c2; injection c2 with c2; rw [c2]
    obtain ⟨A, cap, e2, _⟩ := h.own (j / 3) hlt
    rw [e2]; rfl

set_option maxRecDepth 100000 in
set_option maxHeartbeats 2000000 in
theorem implCut_any (lo hi : Nat) (sv cv : Value) (t : Ty) (i : Int) (w : World) (hv : TyAt w lo hi sv cv t) (hB : hi ≤ w.heap.size) (hbk : t.bulk ≤ 1048576) :
    Calls Try.prog 40 #[.agg #[sv, cv], .int .i64 i] w fun e w' => ∃ v l, e = .returned (.tuple #[.agg #[v, l], .bool (hasC t i)]) ∧ Below w.heap.size w w' ∧ TyOwned w' w.heap.size v l (wout t i) := by
  obtain ⟨A, cap, rfl, hl1, hm1, _⟩ := hv.1.form
  obtain ⟨B, bap, rfl, hl2, hm2, _⟩ := hv.2.form
  have hn : t.cos.length ≤ 1048576 := by unfold Ty.bulk at hbk; omega
  have h3 : Below w.heap.size w ((w.alloc (.cells #[.slice A t.sizes.length cap, .slice B t.cos.length bap] 30)).alloc (.cells #[.slice none 0 0, .slice none 0 0] 30)) := by go_grown
  have Hv := Lib.hid hv
  have H3 := Lib.hid h3
  clear hv h3
  go_enter Try.func40, Try.ntmps40
  go_wp2_with fail
  refine (hasCoercion_any lo hi _ _ t i _ (Hv.out.below H3.out hB) (by simp; omega)).mono ?_
  rintro e w1 ⟨rfl, hb1⟩
  have H1 := Lib.hid (H3.out.trans (hb1.mono (by simp; omega)))
  have RT : Row w1 w.heap.size 30 [.slice A t.sizes.length cap, .slice B t.cos.length bap] := ((Row.new w 30 [.slice A t.sizes.length cap, .slice B t.cos.length bap]).alloc _).below hb1 (by simp; omega)
  have RR : Row w1 (w.heap.size + 1) 30 [.slice none 0 0, .slice none 0 0] := by
    have h := Row.new (w.alloc (.cells #[.slice A t.sizes.length cap, .slice B t.cos.length bap] 30)) 30 [.slice none 0 0, .slice none 0 0]
    rw [World.size_alloc] at h
    exact h.below hb1 (by simp)
  have hs1 : w.heap.size + 1 + 1 ≤ w1.heap.size := by have := hb1.size; simpa using this
  have RT1 := Lib.hid RT
  have RR1 := Lib.hid RR
  clear hb1 RT RR
  have a0 := RT1.out.cell 0
  have a1 := RT1.out.cell 1
  have r0 := RR1.out.cell 0
  have r1 := RR1.out.cell 1
  have rf0 := RR1.out.frozen 0
  have rf1 := RR1.out.frozen 1
  simp only [List.getElem?_cons_zero, List.getElem?_cons_succ] at a0 a1 r0 r1
  by_cases hok : hasC t i = true
  · obtain ⟨_, hi0, hi1, hilt⟩ := hasC_of hok
    obtain ⟨k, rfl⟩ := Int.eq_ofNat_of_zero_le hi0
    have hkl : k < t.cos.length := by simpa using hilt
    have hwo : wout t (k : Nat) = cutCo t k := by rw [wout_yes hok]; simp
    have Hwo := Lib.hid hwo
    have Hok := Lib.hid hok
    have hw1 : IntKind.i64.wrap ((k : Int) + 1) = (k : Int) + 1 := by rw [IntKind.wrap_i64]; omega
    rw [hok]
    clear hok hwo hilt hi0 hi1
    go_wp2_with fail
    refine (copyTypes_any lo hi _ _ t _ (Hv.out.below H1.out hB) (by omega) hbk).mono ?_
    rintro e w2 ⟨v, l, C, rfl, hb2, hC, hC2, hov, hvC, hco⟩
    obtain ⟨VA, VC, rfl⟩ := owns_form hov
    obtain ⟨xs, m, mv, how, hmo⟩ := hco
    obtain ⟨LA, LC, rfl⟩ := owns_form how
    have hs2 := hb2.size
    have RR2 := Lib.hid (RR1.out.below hb2 (by omega))
    have H2 := Lib.hid (H1.out.trans (hb2.mono (by omega)))
    have How := Lib.hid how
    have Hmo := Lib.hid hmo
    have Hov := Lib.hid hov
    have HvC := Lib.hid hvC
    clear how hmo hov hvC hb2 a0 a1 r0 r1 rf0 rf1
    go_wp2_with fail
    refine (delete_any (C + 1) _ t.cos.length k xs _ (ownsRow_keep How.out fun g _ hg => Below.heap_alloc w2 _ g hg) hkl hn (Hmo.out.one How.out.1)).mono ?_
    rintro e w4 ⟨l', rfl, hlb, hown4, hg4⟩
    have hl4 := hg4.size
    simp only [World.size_alloc] at hl4
    obtain ⟨LA2, LC2, rfl⟩ := owns_form hown4
    have RQ : Row w4 w2.heap.size 30 [.slice VA t.sizes.length VC, .slice LA t.cos.length LC] := (Row.new w2 30 [.slice VA t.sizes.length VC, .slice LA t.cos.length LC]).keep (hg4.block _ (by simp) (fun e => by have := (owns_lt How.out _ e.symm).2; omega))
    have hb4 : ∀ g, g < C + 1 → w4.heap[g]? = w2.heap[g]? := fun g hg => (hg4.block g (by simp; omega) (fun e => by have := (owns_lt How.out _ e.symm).1; omega)).trans (Below.heap_alloc w2 _ g (by omega))
    have RR4 := Lib.hid (RR2.out.keep (hb4 (w.heap.size + 1) (by omega)))
    have RQ4 := Lib.hid RQ
    have Hb4 := Lib.hid hb4
    have Hg4 := Lib.hid hg4
    have Hown4 := Lib.hid hown4
    have Hlb := Lib.hid hlb
    have q0 := RQ4.out.cell 0
    have q1 := RQ4.out.cell 1
    have qf0 := RQ4.out.frozen 0
    have qf1 := RQ4.out.frozen 1
    have r0 := RR4.out.cell 0
    have r1 := RR4.out.cell 1
    have rf0 := RR4.out.frozen 0
    have rf1 := RR4.out.frozen 1
    simp only [List.getElem?_cons_zero, List.getElem?_cons_succ] at q0 q1 r0 r1
    clear RQ hb4 hg4 hown4 hlb
    go_wp2
    refine bodyPost_ret (v := .tuple #[.agg #[.slice VA t.sizes.length VC, .slice LA2 (t.cos.length - 1) LC2], .bool true]) (by simp [results, Try.results40, go_sem, r0, r1]) rfl ?_
    have hne : w.heap.size + 1 ≠ w2.heap.size := by omega
    have H4 : Below w.heap.size w w4 := H2.out.trans ⟨Hg4.out.os, Hg4.out.tape, Hg4.out.output, by omega, fun g hg => Hb4.out g (by omega)⟩
    refine ⟨_, _, by rw [Hok.out], ((H4.setCell (by dsimp only; omega) _).setCell (by dsimp only; omega) _).setCell (by dsimp only; omega) _, ?_⟩
    rw [Hwo.out]
    have hblk : ∀ g, g ≠ w2.heap.size → g ≠ w.heap.size + 1 → (((w4.setCell ⟨w2.heap.size, 1, none⟩ (.slice LA2 (t.cos.length - 1) LC2)).setCell ⟨w.heap.size + 1, 0, none⟩ (.slice VA t.sizes.length VC)).setCell ⟨w.heap.size + 1, 1, none⟩ (.slice LA2 (t.cos.length - 1) LC2)).heap[g]? = w4.heap[g]? := fun g h1 h2 =>
      (Below.heap_setCell _ _ _ _ (by dsimp only; omega)).trans ((Below.heap_setCell _ _ _ _ (by dsimp only; omega)).trans (Below.heap_setCell _ _ _ _ (by dsimp only; omega)))
    refine ⟨C, by omega, ?_, HvC.out, ?_⟩
    · exact ownsRow_lower (ownsRow_keep1 Hov.out fun g hg => (hblk g (by have := HvC.out g hg; omega) (by have := (owns_lt Hov.out g hg).1; omega)).trans (Hb4.out g (by have := HvC.out g hg; omega))) (by omega)
    · rw [cut_len hkl]
      refine CosOwned.congr (f := fun i => t.cos.getD (sh k i) default) ?_ (fun i hi => (cut_at hkl hi).symm)
      refine ⟨_, fun i => m (sh k i), fun i => mv (sh k i), ownsRow_keep1 Hown4.out fun g hg => ?_, ?_⟩
      · have h1 := owns_lt How.out g (by rw [← Hlb.out]; exact hg)
        exact hblk g (by omega) (by omega)
      · rw [Hlb.out]
        refine Hmo.out.cut How.out.1 hkl (by simp [World.setCell]; omega) fun g h1 h2 h3 => ?_
        exact (hblk g (by omega) (by omega)).trans ((Hg4.out.block g (by simp; omega) (fun e => h3 e.symm)).trans (Below.heap_alloc w2 _ g h2))
  · have hokf : hasC t i = false := by simpa using hok
    have hwo : wout t i = ⟨[], []⟩ := wout_no hokf
    have Hwo := Lib.hid hwo
    have Hok := Lib.hid hokf
    rw [hokf]
    clear hok hokf hwo
    go_wp2
    refine bodyPost_ret (v := .tuple #[.agg #[.slice none 0 0, .slice none 0 0], .bool false]) (by simp [results, Try.results40, go_sem, r0, r1]) rfl ?_
    refine ⟨_, _, by rw [Hok.out], (H1.out.setCell (by dsimp only; omega) _).setCell (by dsimp only; omega) _, ?_⟩
    rw [Hwo.out]
    exact ⟨w.heap.size, Nat.le_refl _, World.ownsRow_nil _ _ _ _, fun g hg => (by simp [Value.ownBlock] at hg), CosOwned.nil _ _ _⟩
end Go.Proofs.Ytokklaoldgdkaaa

namespace Go.Proofs.Ytokklaoldgdkaaa
open Go.RowKit

def redStep (t : Ty) (k : Nat) : Ty := if redB t k (t.cos.getD k default) = true then cutCo t k else t
def redDown : Nat → Ty → Ty
  | 0, t => t
  | k + 1, t => redDown k (redStep t k)
def redTy (t : Ty) : Ty := if tyOk t = true then redDown t.cos.length t else ⟨[], []⟩
theorem redStep_yes {t : Ty} {k : Nat} (h : redB t k (t.cos.getD k default) = true) : redStep t k = cutCo t k := by unfold redStep; rw [if_pos h]
theorem redStep_no {t : Ty} {k : Nat} (h : redB t k (t.cos.getD k default) = false) : redStep t k = t := by unfold redStep; rw [if_neg (by rw [h]; exact Bool.false_ne_true)]
theorem redStep_ok {t : Ty} {k : Nat} (h : tyOk t = true) : tyOk (redStep t k) = true := by
  unfold redStep
  split
  · exact tyOk_cut h
  · exact h
theorem redDown_ok : ∀ (k : Nat) (t : Ty), tyOk t = true → tyOk (redDown k t) = true
  | 0, _, h => h
  | k + 1, _t, h => redDown_ok k _ (redStep_ok h)
theorem redTy_yes {t : Ty} (h : tyOk t = true) : redTy t = redDown t.cos.length t := by unfold redTy; rw [if_pos h]
theorem redTy_no {t : Ty} (h : tyOk t = false) : redTy t = ⟨[], []⟩ := by unfold redTy; rw [if_neg (by rw [h]; exact Bool.false_ne_true)]
theorem redTy_bulk (t : Ty) : (redTy t).bulk ≤ 45 := by
  cases h : tyOk t with
  | true => rw [redTy_yes h]; exact tyOk_bulk (redDown_ok _ _ h)
  | false => rw [redTy_no h]; simp [Ty.bulk, mapsLen]
theorem hasC_at {t : Ty} {k : Nat} (h : tyOk t = true) (hk : k < t.cos.length) : hasC t (k : Nat) = true := by
  unfold hasC
  rw [h, ixB_yes (by omega) (by omega)]; rfl

set_option maxRecDepth 100000 in
set_option maxHeartbeats 4000000 in
theorem specRawRed_any (lo hi : Nat) (sv cv : Value) (t : Ty) (w : World) (hv : TyAt w lo hi sv cv t) (hB : hi ≤ w.heap.size) (hbk : t.bulk ≤ 1048576) :
    Calls Try.prog 77 #[.agg #[sv, cv]] w fun e w' => ∃ v l, e = .returned (.tuple #[.agg #[v, l], .bool (tyOk t)]) ∧ Below w.heap.size w w' ∧ TyAt w' w.heap.size w'.heap.size v l (redTy t) := by
  obtain ⟨A, cap, rfl, hl1, hm1, _⟩ := hv.1.form
  obtain ⟨B, bap, rfl, hl2, hm2, _⟩ := hv.2.form
  have hn : t.cos.length ≤ 1048576 := by unfold Ty.bulk at hbk; omega
  have h3 : Below w.heap.size w ((w.alloc (.cells #[.slice A t.sizes.length cap, .slice B t.cos.length bap] 30)).alloc (.cells #[.slice none 0 0, .slice none 0 0] 30)) := by go_grown
  have Hv := Lib.hid hv
  have H3 := Lib.hid h3
  clear hv h3
  go_enter Try.func77, Try.ntmps77
  go_wp2_with fail
  refine (ownTypes_any lo hi _ _ t _ (Hv.out.below H3.out hB) (by simp; omega) hbk).mono ?_
  rintro e w1 ⟨v, l, rfl, hb1, hty1⟩
  obtain ⟨VA, VC, rfl, _, _, _⟩ := hty1.1.form
  obtain ⟨LA, LC, rfl, hLn, hLm, _⟩ := hty1.2.form
  have hs1 := hb1.size
  simp only [World.size_alloc] at hs1
  have hb1w : Below w.heap.size w w1 := H3.out.trans (hb1.mono (by simp; omega))
  simp only [World.size_alloc] at hty1
  have hkT : w1.heap[w.heap.size]? = _ := hb1.block w.heap.size (by simp; omega)
  have hkR : w1.heap[w.heap.size + 1]? = _ := hb1.block (w.heap.size + 1) (by simp)
  have RT : Row w1 w.heap.size 30 [.slice A t.sizes.length cap, .slice B t.cos.length bap] := ((Row.new w _ [.slice A t.sizes.length cap, .slice B t.cos.length bap]).alloc _).keep hkT
  have RR : Row w1 (w.heap.size + 1) 30 [.slice none 0 0, .slice none 0 0] := by
    have := (Row.new (w.alloc (.cells #[.slice A t.sizes.length cap, .slice B t.cos.length bap] 30)) 30 [.slice none 0 0, .slice none 0 0])
    rw [World.size_alloc] at this
    exact this.keep hkR
  have Hb1 := Lib.hid hb1w
  have Hty1 := Lib.hid hty1
  have HRT := Lib.hid RT
  have HRR := Lib.hid RR
  have a0 := RT.cell 0
  have a1 := RT.cell 1
  have af0 := RT.frozen 0
  have af1 := RT.frozen 1
  simp only [List.getElem?_cons_zero, List.getElem?_cons_succ] at a0 a1
  clear hb1 hty1 hb1w RT RR hkT hkR
  go_wp2_with fail
  obtain ⟨w2, hw2⟩ : ∃ u, u = (w1.setCell ⟨w.heap.size, 0, none⟩ (.slice VA t.sizes.length VC)).setCell ⟨w.heap.size, 1, none⟩ (.slice LA t.cos.length LC) := ⟨_, rfl⟩
  rw [← hw2]
  have RT2 : Hid (Row w2 w.heap.size 30 [.slice VA t.sizes.length VC, .slice LA t.cos.length LC]) := by rw [hw2]; exact (HRT.out.set_ 0 _).set_ 1 _
  have RR2 : Hid (Row w2 (w.heap.size + 1) 30 [.slice none 0 0, .slice none 0 0]) := by rw [hw2]; exact (HRR.out.far (by dsimp only; omega) _).far (by dsimp only; omega) _
  have Hb2 : Hid (Below w.heap.size w w2) := by rw [hw2]; exact (Hb1.out.setCell (by dsimp only; omega) _).setCell (by dsimp only; omega) _
  have Hty2 : Hid (TyAt w2 (w.heap.size + 1 + 1) w2.heap.size (.slice VA t.sizes.length VC) (.slice LA t.cos.length LC) t) := by
    have e : w2.heap.size = w1.heap.size := by rw [hw2]; simp [World.setCell]
    rw [e]
    exact Hty1.out.keep fun k hk1 hk2 => by rw [hw2]; exact (Below.heap_setCell _ _ _ _ (by dsimp only; omega)).trans (Below.heap_setCell _ _ _ _ (by dsimp only; omega))
  have hs2 : w.heap.size + 1 + 1 ≤ w2.heap.size := by rw [hw2]; simp [World.setCell]; omega
  clear hw2 a0 a1 af0 af1 Hty1 Hb1 HRT HRR
  refine (specValid_any _ _ _ _ t _ Hty2.out (Nat.le_refl _)).mono ?_
  rintro e w3 ⟨rfl, hb3⟩
  have hs3 := hb3.size
  have RT3 := Lib.hid (RT2.out.below hb3 (by omega))
  have RR3 := Lib.hid (RR2.out.below hb3 (by omega))
  have Hty3 := Lib.hid ((Hty2.out.below hb3 (Nat.le_refl _)).more (Nat.le_refl _) hs3)
  have Hb3 := Lib.hid (Hb2.out.trans (hb3.mono (by omega)))
  clear hb3 RT2 RR2 Hty2 Hb2
  have t0 := RT3.out.cell 0
  have t1 := RT3.out.cell 1
  have r0 := RR3.out.cell 0
  have r1 := RR3.out.cell 1
  have rf0 := RR3.out.frozen 0
  have rf1 := RR3.out.frozen 1
  simp only [List.getElem?_cons_zero, List.getElem?_cons_succ] at r0 r1 t0 t1
  by_cases hok : tyOk t = true
  · have Hok := Lib.hid hok
    have hwr : IntKind.i64.wrap ((t.cos.length : Int) - 1) = (t.cos.length : Int) - 1 := by rw [IntKind.wrap_i64]; omega
    rw [hok]
    clear hok r0 r1 rf0 rf1
    go_wp2
    go_loopw [4] (fun iv wr => ∃ (cur : Ty) (j : Nat) (VA LA : Option Addr) (VC LC : Nat), iv = .int .i64 ((j : Int) - 1) ∧ j ≤ cur.cos.length ∧ Hid (redDown j cur = redDown t.cos.length t) ∧ Hid (tyOk cur = true) ∧ Hid (Below w.heap.size w wr) ∧ Hid (Row wr w.heap.size 30 [.slice VA cur.sizes.length VC, .slice LA cur.cos.length LC]) ∧ Hid (Row wr (w.heap.size + 1) 30 [.slice none 0 0, .slice none 0 0]) ∧ Hid (TyAt wr (w.heap.size + 1 + 1) wr.heap.size (.slice VA cur.sizes.length VC) (.slice LA cur.cos.length LC) cur)) (fun iv _ => (intOf iv + 1).toNat)
    case atStart => exact ⟨t, t.cos.length, VA, LA, VC, LC, rfl, Nat.le_refl _, Lib.hid rfl, Hok, Hb3, RT3, RR3, Hty3⟩
    case round =>
      obtain ⟨cur, j, XA, YA, XC, YC, rfl, hj, hrd, hcok, hbw, hrT, hrR, hty⟩ := hrel
      have p0 := hrT.out.cell 0
      have p1 := hrT.out.cell 1
      have q0 := hrR.out.cell 0
      have q1 := hrR.out.cell 1
      have pf0 := hrT.out.frozen 0
      have pf1 := hrT.out.frozen 1
      have qf0 := hrR.out.frozen 0
      have qf1 := hrR.out.frozen 1
      have hlt := hrR.out.lt
      simp only [List.getElem?_cons_zero, List.getElem?_cons_succ] at p0 p1 q0 q1
      clear t0 t1 hwr
      by_cases hj0 : j = 0
      · subst hj0
        have hneg : ((0 : Nat) : Int) - 1 = -1 := rfl
        rw [hneg]
        go_wp2
        refine bodyPost_ret (v := .tuple #[.agg #[.slice XA cur.sizes.length XC, .slice YA cur.cos.length YC], .bool true]) (by simp [results, Try.results77, go_sem, q0, q1]) rfl ?_
        refine ⟨_, _, by rw [Hok.out], (hbw.out.setCell (by dsimp only; omega) _).setCell (by dsimp only; omega) _, ?_⟩
        have e1 : redTy t = cur := by rw [redTy_yes Hok.out, ← hrd.out]; rfl
        rw [e1]
        exact (hty.out.keep fun k hk1 _ => (Below.heap_setCell _ _ _ _ (by dsimp only; omega)).trans (Below.heap_setCell _ _ _ _ (by dsimp only; omega))).more (by omega) (by simp [World.setCell])
      · obtain ⟨k, rfl⟩ : ∃ k, j = k + 1 := ⟨j - 1, by omega⟩
        have e0 : (((k + 1 : Nat) : Int) - 1) = (k : Int) := by omega
        rw [e0]
        have hkn : k < cur.cos.length := by omega
        have hcb := tyOk_bulk hcok.out
        have hcl : cur.cos.length ≤ 45 := by unfold Ty.bulk at hcb; omega
        have hwr : IntKind.i64.wrap ((k : Int) - 1) = (k : Int) - 1 := by rw [IntKind.wrap_i64]; omega
        have hge : (0 : Int) ≤ (k : Int) := by omega
        have hhas := Lib.hid (hasC_at hcok.out hkn)
        have hbv : redB cur ((k : Int)).toNat (cur.cos.getD ((k : Int)).toNat default) = redB cur k (cur.cos.getD k default) := by rw [Int.toNat_natCast]
        clear e0 hj0 hj
        go_wp2_with fail
        refine (l3Redundant_any _ _ _ _ cur (k : Int) _ hty.out (Nat.le_refl _) hhas.out).mono ?_
        rintro e w5 ⟨rfl, hb5⟩
        rw [hbv]
        have hs5 := hb5.size
        have hrT5 := Lib.hid (hrT.out.below hb5 hrT.out.lt)
        have hrR5 := Lib.hid (hrR.out.below hb5 hrR.out.lt)
        have hty5 := Lib.hid ((hty.out.below hb5 (Nat.le_refl _)).more (Nat.le_refl _) hs5)
        have hbw5 := Lib.hid (hbw.out.trans (hb5.mono (by omega)))
        clear hb5 p0 p1 q0 q1 pf0 pf1 qf0 qf1 hbv
        have p0 := hrT5.out.cell 0
        have p1 := hrT5.out.cell 1
        simp only [List.getElem?_cons_zero, List.getElem?_cons_succ] at p0 p1
        by_cases hr : redB cur k (cur.cos.getD k default) = true
        · have hst := Lib.hid (redStep_yes hr)
          have hwo : wout cur (k : Nat) = cutCo cur k := by rw [wout_yes hhas.out]; simp
          rw [hr]
          have Hwo := Lib.hid hwo
          clear hr hwo
          go_wp2_with fail
          refine (specCut_any _ _ _ _ cur (k : Int) _ hty5.out (Nat.le_refl _) (by omega)).mono ?_
          rintro e w6 ⟨v, l, rfl, hb6, hty6⟩
          rw [Hwo.out] at hty6
          obtain ⟨XA2, XC2, rfl, _, _, _⟩ := hty6.1.form
          obtain ⟨YA2, YC2, rfl, _, _, _⟩ := hty6.2.form
          have hs6 := hb6.size
          have hrT6 := Lib.hid (hrT5.out.below hb6 hrT5.out.lt)
          have hrR6 := Lib.hid (hrR5.out.below hb6 hrR5.out.lt)
          have hty6' := Lib.hid (hty6.more (lo' := w.heap.size + 1 + 1) (by omega) (Nat.le_refl _))
          have hbw6 := Lib.hid (hbw5.out.trans (hb6.mono (by omega)))
          clear hb6 hty6 p0 p1
          have p0 := hrT6.out.cell 0
          have p1 := hrT6.out.cell 1
          have pf0 := hrT6.out.frozen 0
          have pf1 := hrT6.out.frozen 1
          simp only [List.getElem?_cons_zero, List.getElem?_cons_succ] at p0 p1
          go_wp2
          go_roundw
          case rel =>
            refine ⟨cutCo cur k, k, XA2, YA2, XC2, YC2, rfl, by rw [cut_len hkn]; omega, Lib.hid ?_, Lib.hid (tyOk_cut hcok.out), Lib.hid ((hbw6.out.setCell (by dsimp only; omega) _).setCell (by dsimp only; omega) _), Lib.hid ((hrT6.out.set_ 0 _).set_ 1 _), Lib.hid ((hrR6.out.far (by dsimp only; omega) _).far (by dsimp only; omega) _), Lib.hid ?_⟩
            · rw [← hrd.out, ← hst.out]; rfl
            · exact (hty6'.out.keep fun k hk1 _ => (Below.heap_setCell _ _ _ _ (by dsimp only; omega)).trans (Below.heap_setCell _ _ _ _ (by dsimp only; omega))).more (by omega) (by simp [World.setCell])
          case measure => simp [intOf]
        · have hrf : redB cur k (cur.cos.getD k default) = false := by simpa using hr
          have hst := Lib.hid (redStep_no hrf)
          rw [hrf]
          clear hr hrf
          go_wp2
          go_roundw
          case rel =>
            refine ⟨cur, k, XA, YA, XC, YC, rfl, by omega, Lib.hid ?_, hcok, hbw5, hrT5, hrR5, hty5⟩
            rw [← hrd.out]
            show redDown k cur = redDown k (redStep cur k)
            rw [hst.out]
          case measure => simp [intOf]
  · have hokf : tyOk t = false := by simpa using hok
    have hwo : redTy t = ⟨[], []⟩ := redTy_no hokf
    have Hwo := Lib.hid hwo
    have Hok := Lib.hid hokf
    rw [hokf]
    clear hok hokf hwo
    go_wp2
    refine bodyPost_ret (v := .tuple #[.agg #[.slice none 0 0, .slice none 0 0], .bool false]) (by simp [results, Try.results77, go_sem, r0, r1]) rfl ?_
    refine ⟨_, _, by rw [Hok.out], (Hb3.out.setCell (by dsimp only; omega) _).setCell (by dsimp only; omega) _, ?_⟩
    rw [Hwo.out]
    exact ⟨⟨none, 0, rfl, Nat.le_refl _, Nat.zero_le _, by simp, fun h => absurd h (by simp)⟩, none, 0, rfl, Nat.le_refl _, Nat.zero_le _, fun h => absurd h (by simp)⟩
end Go.Proofs.Ytokklaoldgdkaaa

namespace Go.Proofs.Ytokklaoldgdkaaa
open Go.RowKit

set_option maxRecDepth 100000 in
set_option maxHeartbeats 1000000 in
theorem specRedTy_any (lo hi : Nat) (sv cv : Value) (t : Ty) (w : World) (hv : TyAt w lo hi sv cv t) (hB : hi ≤ w.heap.size) (hbk : t.bulk ≤ 1048576) :
    Calls Try.prog 28 #[.agg #[sv, cv]] w fun e w' => ∃ v l, e = .returned (.tuple #[.agg #[v, l], .bool (tyOk t)]) ∧ Below w.heap.size w w' ∧ TyAt w' w.heap.size w'.heap.size v l (redTy t) := by
  obtain ⟨A, cap, rfl, hl1, hm1, _⟩ := hv.1.form
  obtain ⟨B, bap, rfl, hl2, hm2, _⟩ := hv.2.form
  have h3 : Below w.heap.size w ((w.alloc (.cells #[.slice A t.sizes.length cap, .slice B t.cos.length bap] 30)).alloc (.cells #[.slice none 0 0, .slice none 0 0] 30)) := by go_grown
  have hv3 := Lib.hid (hv.below h3 hB)
  have H3 := Lib.hid h3
  have Hb := Lib.hid (redTy_bulk t)
  clear hv h3
  go_enter Try.func28, Try.ntmps28
  go_wp2_with fail
  refine (specRawRed_any lo hi _ _ t _ hv3.out (by simp; omega) hbk).mono ?_
  rintro e w1 ⟨v, l, rfl, hb1, hty1⟩
  have H1 := Lib.hid (H3.out.trans (hb1.mono (by simp; omega)))
  obtain ⟨VA, VC, rfl, _, _, _⟩ := hty1.1.form
  obtain ⟨LA, LC, rfl, _, _, _⟩ := hty1.2.form
  have RR : Row w1 (w.heap.size + 1) 30 [.slice none 0 0, .slice none 0 0] := by
    have h := Row.new (w.alloc (.cells #[.slice A t.sizes.length cap, .slice B t.cos.length bap] 30)) 30 [.slice none 0 0, .slice none 0 0]
    rw [World.size_alloc] at h
    exact h.below hb1 (by simp)
  have hs1 : w.heap.size + 1 + 1 ≤ w1.heap.size := by have := hb1.size; simpa using this
  simp only [World.size_alloc] at hty1
  have Hty1 := Lib.hid hty1
  have RR1 := Lib.hid RR
  clear hb1 hty1 RR
  go_wp2_with fail
  have hbx : Below w1.heap.size w1 (w1.alloc (.cells #[.slice VA (redTy t).sizes.length VC, .slice LA (redTy t).cos.length LC] 30)) := (Below.refl _ _).alloc (Nat.le_refl _) _
  refine (ownTypes_any _ _ _ _ (redTy t) _ (Hty1.out.below hbx (Nat.le_refl _)) (by simp) (Nat.le_trans Hb.out (by omega))).mono ?_
  rintro e w2 ⟨v', l', rfl, hb2, hty2⟩
  obtain ⟨VA2, VC2, rfl, _, _, _⟩ := hty2.1.form
  obtain ⟨LA2, LC2, rfl, _, _, _⟩ := hty2.2.form
  have hb12 := hbx.trans (hb2.mono (by simp))
  have hs2 := hb12.size
  have RR2 := Lib.hid (RR1.out.below hb12 (by omega))
  have H2 := Lib.hid (H1.out.trans (hb12.mono (by omega)))
  have Hty2 := Lib.hid (hty2.more (lo' := w.heap.size + 1 + 1) (hi' := w2.heap.size) (by simp; omega) (Nat.le_refl _))
  have r0 := RR2.out.cell 0
  have r1 := RR2.out.cell 1
  have rf0 := RR2.out.frozen 0
  have rf1 := RR2.out.frozen 1
  simp only [List.getElem?_cons_zero, List.getElem?_cons_succ] at r0 r1
  clear hb2 hty2 hbx hb12
  go_wp2
  refine bodyPost_ret (v := .tuple #[.agg #[.slice VA2 (redTy t).sizes.length VC2, .slice LA2 (redTy t).cos.length LC2], .bool (tyOk t)]) (by simp [results, Try.results28, go_sem, r0, r1]) rfl ?_
  exact ⟨_, _, rfl, (H2.out.setCell (by dsimp only; omega) _).setCell (by dsimp only; omega) _, (Hty2.out.keep fun k hk1 _ => (Below.heap_setCell _ _ _ _ (by dsimp only; omega)).trans (Below.heap_setCell _ _ _ _ (by dsimp only; omega))).more (by omega) (by simp [World.setCell])⟩
end Go.Proofs.Ytokklaoldgdkaaa

namespace Go.Proofs.Ytokklaoldgdkaaa
open Go.RowKit

theorem slAt_own {w : World} {base n size : Nat} {e : TypeId} {v : Value} {xs : List Value} (d : Nat) (h : w.ownsRow base e size v n xs) (_hz : 0 < size) : SlAt w e (v.ownBlock.getD d) v n xs ∧ (0 < n → v.ownBlock = some (v.ownBlock.getD d) ∧ base ≤ v.ownBlock.getD d ∧ v.ownBlock.getD d < w.heap.size) := by
  have hlt := owns_lt h
  obtain ⟨h1, ⟨rfl, rfl⟩ | ⟨g, cap, cur, rfl, hb, hh, hc, hm, hsz, htk⟩⟩ := h
  · exact ⟨⟨none, 0, rfl, Nat.le_refl _, Nat.zero_le _, fun _ => List.eq_nil_of_length_eq_zero (by simpa using h1), fun h0 => absurd h0 (by omega)⟩, fun h0 => absurd h0 (by omega)⟩
  · have hr : Row w g e (xs ++ cur.toList.drop (n * size)) := by
      rw [← htk, List.take_append_drop]
      simpa [Row] using hh
    exact ⟨⟨_, _, rfl, hc, hm, fun e0 => List.eq_nil_of_length_eq_zero (by rw [h1, e0]; simp), fun _ => ⟨rfl, _, hr⟩⟩, fun _ => ⟨rfl, hlt g rfl⟩⟩

theorem TyOwned.own {w : World} {base : Nat} {v l : Value} {t : Ty} (h : TyOwned w base v l t) : ∃ (gs gc : Nat) (m : Nat → Nat) (mv : Nat → Value), OwnTy w 3 52 gs gc m mv v l t.sizes t.cos.length (fun i => t.cos.getD i default) ∧
    ∀ k, OwnTy.uses gs gc m t.sizes t.cos.length (fun i => t.cos.getD i default) k → base ≤ k ∧ k < w.heap.size := by
  obtain ⟨C, hC, hv, hvC, xs, m, mv, hl, hm⟩ := h
  obtain ⟨s1, s2⟩ := slAt_own 0 hv (by omega)
  obtain ⟨c1, c2⟩ := slAt_own C hl (by omega)
  have hgc : C ≤ l.ownBlock.getD C := by
    cases e : l.ownBlock with
    | none => exact Nat.le_refl _
    | some g => have := (owns_lt hl g e).1; simp only [Option.getD_some]; omega
  have hne : ∀ i, i < t.cos.length → 0 < (t.cos.getD i default).map.length → m i ≠ l.ownBlock.getD C := by
    intro i hi h0 e
    obtain ⟨a1, a2, a3, _⟩ := hm.away i hi h0
    cases e2 : l.ownBlock with
    | none => rw [e2] at e; simp only [Option.getD_none] at e; omega
    | some g => rw [e2] at e a3; simp only [Option.getD_some] at e; exact a3 (by rw [e])
  refine ⟨v.ownBlock.getD 0, l.ownBlock.getD C, m, mv, ⟨s1, ⟨xs, c1, hl.1, hm.cells, hm.own⟩, fun i hi h0 => ⟨hne i hi h0, (hm.away i hi h0).2.2.2⟩, fun h0 => ?_⟩, fun k hk => ?_⟩
  · have h1 := hvC _ (s2 h0).1
    exact ⟨by omega, fun i hi hl0 => by have := (hm.away i hi hl0).1; omega⟩
  · rcases hk with ⟨h0, rfl⟩ | ⟨h0, rfl⟩ | ⟨i, hi, h0, rfl⟩
    · exact ⟨(s2 h0).2.1, (s2 h0).2.2⟩
    · have := c2 h0
      exact ⟨by omega, this.2.2⟩
    · have := hm.away i hi h0
      exact ⟨by omega, this.2.1⟩

theorem TyOwned.tyAt {w : World} {base : Nat} {v l : Value} {t : Ty} (h : TyOwned w base v l t) (hs : ∀ z ∈ t.sizes, I64 z) (hw : ∀ i, i < t.cos.length → I64 (t.cos.getD i default).src ∧ I64 (t.cos.getD i default).dst ∧ ∀ z ∈ (t.cos.getD i default).map, I64 z) : TyAt w base w.heap.size v l t := by
  obtain ⟨gs, gc, m, mv, h1, h2⟩ := h.own
  have := h1.tyAt hs hw h2
  rw [range_getD] at this
  exact this
end Go.Proofs.Ytokklaoldgdkaaa

namespace Go.Proofs.Ytokklaoldgdkaaa
open Go.RowKit

theorem MapsOf.cut2 {w w' : World} {base : Nat} {row : Option Nat} {f : Nat → Co} {n : Nat} {xs : List Value} {m : Nat → Nat} {mv : Nat → Value} (h : MapsOf w base row f n xs m mv) (hx : xs.length = n * 3) {k : Nat} (hk : k < n) (hs : w.heap.size ≤ w'.heap.size) (hg : ∀ i, i < n → 0 < (f i).map.length → w'.heap[m i]? = w.heap[m i]?) :
    MapsOf w' base row (fun i => f (sh k i)) (n - 1) (xs.take (k * 3) ++ xs.drop ((k + 1) * 3)) (fun i => m (sh k i)) (fun i => mv (sh k i)) := by
  have h1 := h.cut (w' := w) hx hk (Nat.le_refl _) fun _ _ _ _ => rfl
  refine ⟨h1.cells, fun i hi => (h1.own i hi).keep fun h0 => hg _ (sh_lt hi) (by simpa using h0), fun i hi h0 => ?_⟩
  obtain ⟨a, b, c, d⟩ := h1.away i hi h0
  exact ⟨a, Nat.lt_of_lt_of_le b hs, c, d⟩
theorem MapsOf.congr {w : World} {base : Nat} {row : Option Nat} {f f' : Nat → Co} {n : Nat} {xs : List Value} {m : Nat → Nat} {mv : Nat → Value} (h : MapsOf w base row f n xs m mv) (he : ∀ i, i < n → f i = f' i) : MapsOf w base row f' n xs m mv :=
  ⟨fun i hi => by rw [← he i hi]; exact h.cells i hi, fun i hi => by rw [← he i hi]; exact h.own i hi, fun i hi h0 => by
    rw [← he i hi] at h0
    obtain ⟨a, b, c, d⟩ := h.away i hi h0
    exact ⟨a, b, c, fun j hj hne h1 => d j hj hne (by rw [he j hj]; exact h1)⟩⟩
theorem cut_mem {t : Ty} {k : Nat} {c : Co} (h : c ∈ (cutCo t k).cos) : c ∈ t.cos := by
  rcases List.mem_append.1 h with h1 | h1
  · exact List.mem_of_mem_take h1
  · exact List.mem_of_mem_drop h1

set_option maxRecDepth 100000 in
set_option maxHeartbeats 4000000 in
theorem implRedTy_any (lo hi : Nat) (sv cv : Value) (t : Ty) (w : World) (hv : TyAt w lo hi sv cv t) (hB : hi ≤ w.heap.size) (hbk : t.bulk ≤ 1048576) :
    Calls Try.prog 29 #[.agg #[sv, cv]] w fun e w' => ∃ v l, e = .returned (.tuple #[.agg #[v, l], .bool (tyOk t)]) ∧ Below w.heap.size w w' ∧ TyOwned w' w.heap.size v l (redTy t) := by
  obtain ⟨A, cap, rfl, hl1, hm1, _⟩ := hv.1.form
  obtain ⟨B, bap, rfl, hl2, hm2, _⟩ := hv.2.form
  have hn : t.cos.length ≤ 1048576 := by unfold Ty.bulk at hbk; omega
  have h3 : Below w.heap.size w ((w.alloc (.cells #[.slice A t.sizes.length cap, .slice B t.cos.length bap] 30)).alloc (.cells #[.slice none 0 0, .slice none 0 0] 30)) := by go_grown
  have hwS := IntsAt.wf hv.1
  have hwC : ∀ c ∈ t.cos, I64 c.src ∧ I64 c.dst ∧ ∀ z ∈ c.map, I64 z := fun c hc => by
    obtain ⟨j, hj, rfl⟩ := List.getElem_of_mem hc
    have h := CosAt.wf hv.2 j hj
    rw [getD_at hj] at h
    exact h
  have HwS := Lib.hid hwS
  have HwC := Lib.hid hwC
  have Hv := Lib.hid hv
  have H3 := Lib.hid h3
  clear hv h3 hwS hwC
  go_enter Try.func29, Try.ntmps29
  go_wp2_with fail
  refine (implValid_any lo hi _ _ t _ (Hv.out.below H3.out hB) (by simp; omega)).mono ?_
  rintro e w1 ⟨rfl, hb1⟩
  have H1 := Lib.hid (H3.out.trans (hb1.mono (by simp; omega)))
  have RT : Row w1 w.heap.size 30 [.slice A t.sizes.length cap, .slice B t.cos.length bap] := ((Row.new w 30 [.slice A t.sizes.length cap, .slice B t.cos.length bap]).alloc _).below hb1 (by simp; omega)
  have RR : Row w1 (w.heap.size + 1) 30 [.slice none 0 0, .slice none 0 0] := by
    have h := Row.new (w.alloc (.cells #[.slice A t.sizes.length cap, .slice B t.cos.length bap] 30)) 30 [.slice none 0 0, .slice none 0 0]
    rw [World.size_alloc] at h
    exact h.below hb1 (by simp)
  have hs1 : w.heap.size + 1 + 1 ≤ w1.heap.size := by have := hb1.size; simpa using this
  have RT1 := Lib.hid RT
  have RR1 := Lib.hid RR
  clear hb1 RT RR
  have a0 := RT1.out.cell 0
  have a1 := RT1.out.cell 1
  have r0 := RR1.out.cell 0
  have r1 := RR1.out.cell 1
  have rf0 := RR1.out.frozen 0
  have rf1 := RR1.out.frozen 1
  simp only [List.getElem?_cons_zero, List.getElem?_cons_succ] at a0 a1 r0 r1
  by_cases hok : tyOk t = true
  · have Hok := Lib.hid hok
    have hwr : IntKind.i64.wrap ((t.cos.length : Int) - 1) = (t.cos.length : Int) - 1 := by rw [IntKind.wrap_i64]; omega
    rw [hok]
    clear hok
    go_wp2_with fail
    refine (copyTypes_any lo hi _ _ t _ (Hv.out.below H1.out hB) (by omega) hbk).mono ?_
    rintro e w2 ⟨v, l, C, rfl, hb2, hC, hC2, hov, hvC, hco⟩
    obtain ⟨VA, VC, rfl⟩ := owns_form hov
    obtain ⟨xs, m, mv, how, hmo⟩ := hco
    obtain ⟨LA, LC, rfl⟩ := owns_form how
    have hs2 := hb2.size
    have RT2 := Lib.hid (RT1.out.below hb2 (by omega))
    have RR2 := Lib.hid (RR1.out.below hb2 (by omega))
    have H2 := Lib.hid (H1.out.trans (hb2.mono (by omega)))
    have How := Lib.hid how
    have Hmo := Lib.hid hmo
    have Hov := Lib.hid (ownsRow_lower hov (by omega : w.heap.size ≤ w1.heap.size))
    have Hov0 := Lib.hid hov
    have HvC := Lib.hid hvC
    clear how hmo hov hvC hb2 a0 a1 r0 r1 rf0 rf1
    have a0 := RT2.out.cell 0
    have a1 := RT2.out.cell 1
    simp only [List.getElem?_cons_zero, List.getElem?_cons_succ] at a0 a1
    have hlT := RT2.out.lt
    go_wp2
    go_loopw [5] (fun iv wr => ∃ (cur : Ty) (j : Nat) (YA : Option Addr) (YC : Nat) (xs : List Value) (m : Nat → Nat) (mv : Nat → Value), iv = .int .i64 ((j : Int) - 1) ∧ j ≤ cur.cos.length ∧ Hid (redDown j cur = redDown t.cos.length t) ∧ Hid (tyOk cur = true) ∧ Hid (cur.sizes = t.sizes) ∧ Hid (∀ c ∈ cur.cos, I64 c.src ∧ I64 c.dst ∧ ∀ z ∈ c.map, I64 z) ∧ Hid (Below w.heap.size w wr) ∧ Hid (Row wr w2.heap.size 30 [.slice VA t.sizes.length VC, .slice YA cur.cos.length YC]) ∧ Hid (Row wr (w.heap.size + 1) 30 [.slice none 0 0, .slice none 0 0]) ∧
      Hid (wr.ownsRow w.heap.size 3 1 (.slice VA t.sizes.length VC) t.sizes.length (t.sizes.map (Value.int .i64))) ∧ Hid (wr.ownsRow (C + 1) 52 3 (.slice YA cur.cos.length YC) cur.cos.length xs) ∧ Hid (MapsOf wr (C + 1) (Value.slice YA cur.cos.length YC).ownBlock (fun i => cur.cos.getD i default) cur.cos.length xs m mv) ∧
      Hid (∀ g, (Value.slice YA cur.cos.length YC).ownBlock = some g → g < w2.heap.size) ∧ Hid (∀ i, i < cur.cos.length → 0 < (cur.cos.getD i default).map.length → m i < w2.heap.size)) (fun iv _ => (intOf iv + 1).toNat)
    case atStart =>
      have hbA : ∀ g, g < w2.heap.size → (w2.alloc (.cells #[.slice VA t.sizes.length VC, .slice LA t.cos.length LC] 30)).heap[g]? = w2.heap[g]? := fun g hg => Below.heap_alloc w2 _ g hg
      exact ⟨t, t.cos.length, LA, LC, xs, m, mv, rfl, Nat.le_refl _, Lib.hid rfl, Hok, Lib.hid rfl, HwC, Lib.hid (H2.out.alloc (by omega) _), Lib.hid (Row.new w2 30 [.slice VA t.sizes.length VC, .slice LA t.cos.length LC]), Lib.hid (RR2.out.alloc _), Lib.hid (ownsRow_keep Hov.out fun g _ hg => hbA g hg), Lib.hid (ownsRow_keep How.out fun g _ hg => hbA g hg),
        Lib.hid (Hmo.out.keep (by simp) fun g _ hg => hbA g hg), Lib.hid fun g hg => (owns_lt How.out g hg).2, Lib.hid fun i hi h0 => (Hmo.out.away i hi h0).2.1⟩
    case round =>
      obtain ⟨cur, j, YA, YC, ys, mm, mmv, rfl, hj, hrd, hcok, hsz, hcw, hbw, hrQ, hrR, hvr, hyo, hmy, hyB, hmB⟩ := hrel
      have p0 := hrQ.out.cell 0
      have p1 := hrQ.out.cell 1
      have q0 := hrR.out.cell 0
      have q1 := hrR.out.cell 1
      have qf0 := hrR.out.frozen 0
      have qf1 := hrR.out.frozen 1
      have hlQ := hrQ.out.lt
      simp only [List.getElem?_cons_zero, List.getElem?_cons_succ] at p0 p1 q0 q1
      clear a0 a1 hwr
      by_cases hj0 : j = 0
      · subst hj0
        have hneg : ((0 : Nat) : Int) - 1 = -1 := rfl
        rw [hneg]
        go_wp2
        refine bodyPost_ret (v := .tuple #[.agg #[.slice VA t.sizes.length VC, .slice YA cur.cos.length YC], .bool true]) (by simp [results, Try.results29, go_sem, q0, q1]) rfl ?_
        refine ⟨_, _, by rw [Hok.out], (hbw.out.setCell (by dsimp only; omega) _).setCell (by dsimp only; omega) _, ?_⟩
        have e1 : redTy t = cur := by rw [redTy_yes Hok.out, ← hrd.out]; rfl
        rw [e1]
        have hblk : ∀ g, g ≠ w.heap.size + 1 → ((wr.setCell ⟨w.heap.size + 1, 0, none⟩ (.slice VA t.sizes.length VC)).setCell ⟨w.heap.size + 1, 1, none⟩ (.slice YA cur.cos.length YC)).heap[g]? = wr.heap[g]? := fun g h2 =>
          (Below.heap_setCell _ _ _ _ (by dsimp only; omega)).trans (Below.heap_setCell _ _ _ _ (by dsimp only; omega))
        unfold TyOwned
        rw [hsz.out]
        refine ⟨C, by omega, ownsRow_keep1 hvr.out fun g hg => hblk g ?_, HvC.out, ys, mm, mmv, ownsRow_keep1 hyo.out fun g hg => hblk g (by have := (owns_lt hyo.out g hg).1; omega), hmy.out.keep (by simp [World.setCell]) fun g hg _ => hblk g (by omega)⟩
        have h1 := (owns_lt Hov0.out g hg).1
        omega
      · obtain ⟨k, rfl⟩ : ∃ k, j = k + 1 := ⟨j - 1, by omega⟩
        have e0 : (((k + 1 : Nat) : Int) - 1) = (k : Int) := by omega
        rw [e0]
        have hkn : k < cur.cos.length := by omega
        have hcb := tyOk_bulk hcok.out
        have hcl : cur.cos.length ≤ 45 := by unfold Ty.bulk at hcb; omega
        have hwr : IntKind.i64.wrap ((k : Int) - 1) = (k : Int) - 1 := by rw [IntKind.wrap_i64]; omega
        have hwr1 : IntKind.i64.wrap ((k : Int) + 1) = (k : Int) + 1 := by rw [IntKind.wrap_i64]; omega
        have hge : (0 : Int) ≤ (k : Int) := by omega
        have hhas := Lib.hid (hasC_at hcok.out hkn)
        have hbv : redV cur (k : Int) = redB cur k (cur.cos.getD k default) := by unfold redV; rw [hhas.out, Bool.true_and, Int.toNat_natCast]
        have hty : TyAt wr w.heap.size wr.heap.size (.slice VA t.sizes.length VC) (.slice YA cur.cos.length YC) cur := by
          have h : TyOwned wr w.heap.size (.slice VA t.sizes.length VC) (.slice YA cur.cos.length YC) cur := by
            unfold TyOwned
            rw [hsz.out]
            exact ⟨C, by omega, hvr.out, HvC.out, ys, mm, mmv, hyo.out, hmy.out⟩
          refine h.tyAt (by rw [hsz.out]; exact HwS.out) fun i hi => ?_
          rw [getD_at hi]
          exact hcw.out _ (List.getElem_mem hi)
        have Hty := Lib.hid hty
        clear e0 hj0 hj hty
        go_wp2_with fail
        refine (implRed_any _ _ _ _ cur (k : Int) _ Hty.out (Nat.le_refl _) (by unfold I64; omega)).mono ?_
        rintro e w5 ⟨rfl, hb5⟩
        rw [hbv]
        have hs5 := hb5.size
        have hrQ5 := Lib.hid (hrQ.out.below hb5 hrQ.out.lt)
        have hrR5 := Lib.hid (hrR.out.below hb5 hrR.out.lt)
        have hbw5 := Lib.hid (hbw.out.trans (hb5.mono (by have := hbw.out.size; omega)))
        have hvr5 := Lib.hid (ownsRow_keep hvr.out fun g _ hg => hb5.block g hg)
        have hyo5 := Lib.hid (ownsRow_keep hyo.out fun g _ hg => hb5.block g hg)
        have hmy5 := Lib.hid (hmy.out.keep hs5 fun g _ hg => hb5.block g hg)
        clear hb5 p0 p1 q0 q1 qf0 qf1 hbv
        have p0 := hrQ5.out.cell 0
        have p1 := hrQ5.out.cell 1
        simp only [List.getElem?_cons_zero, List.getElem?_cons_succ] at p0 p1
        by_cases hr : redB cur k (cur.cos.getD k default) = true
        · have hst := Lib.hid (redStep_yes hr)
          rw [hr]
          clear hr
          go_wp2_with fail
          refine (delete_any (C + 1) _ cur.cos.length k ys _ hyo5.out hkn (by omega) (hmy5.out.one hyo5.out.1)).mono ?_
          rintro e w6 ⟨l', rfl, hlb, hown6, hg6⟩
          have hs6 := hg6.size
          obtain ⟨LA2, LC2, rfl⟩ := owns_form hown6
          have hrQ6 := Lib.hid (hrQ5.out.keep (hg6.block _ hrQ5.out.lt (fun e => by have := hyB.out _ e.symm; omega)))
          have hrR6 := Lib.hid (hrR5.out.keep (hg6.block _ hrR5.out.lt (fun e => by have := (owns_lt hyo5.out _ e.symm).1; omega)))
          have Hg6 := Lib.hid hg6
          have Hown6 := Lib.hid hown6
          have Hlb := Lib.hid hlb
          clear hg6 hown6 hlb p0 p1
          have p0 := hrQ6.out.cell 0
          have p1 := hrQ6.out.cell 1
          have pf1 := hrQ6.out.frozen 1
          simp only [List.getElem?_cons_zero, List.getElem?_cons_succ] at p0 p1
          go_wp2
          go_roundw
          case rel =>
            have hblk : ∀ g, g ≠ w2.heap.size → (w6.setCell ⟨w2.heap.size, 1, none⟩ (.slice LA2 (cur.cos.length - 1) LC2)).heap[g]? = w6.heap[g]? := fun g h2 => Below.heap_setCell _ _ _ _ (by dsimp only; omega)
            have hlen : (cutCo cur k).cos.length = cur.cos.length - 1 := cut_len hkn
            refine ⟨cutCo cur k, k, LA2, LC2, ys.take (k * 3) ++ ys.drop ((k + 1) * 3), fun i => mm (sh k i), fun i => mmv (sh k i), rfl, by rw [hlen]; omega, Lib.hid (by rw [← hrd.out, ← hst.out]; rfl), Lib.hid (tyOk_cut hcok.out), Lib.hid hsz.out, Lib.hid (fun c hc => hcw.out c (cut_mem hc)), Lib.hid ?_, Lib.hid ?_, Lib.hid ?_, Lib.hid ?_, Lib.hid ?_, Lib.hid ?_, Lib.hid ?_, Lib.hid ?_⟩
            · refine (hbw5.out.trans ⟨Hg6.out.os, Hg6.out.tape, Hg6.out.output, Hg6.out.size, fun g hg => Hg6.out.block g (by omega) (fun e => by have := (owns_lt hyo5.out _ e.symm).1; omega)⟩).setCell (by dsimp only; omega) _
            · rw [hlen]; exact hrQ6.out.set_ 1 _
            · exact hrR6.out.far (by dsimp only; omega) _
            · refine ownsRow_keep1 hvr5.out fun g hg => (hblk g (by have := HvC.out g hg; omega)).trans (Hg6.out.block g (owns_lt hvr5.out g hg).2 (fun e => by have := (owns_lt hyo5.out _ e.symm).1; have := HvC.out g hg; omega))
            · rw [hlen]
              refine ownsRow_keep1 Hown6.out fun g hg => hblk g ?_
              have := hyB.out g (by rw [← Hlb.out]; exact hg)
              omega
            · rw [hlen, Hlb.out]
              refine MapsOf.congr (f := fun i => cur.cos.getD (sh k i) default) ?_ (fun i hi => (cut_at hkn hi).symm)
              refine hmy5.out.cut2 hyo5.out.1 hkn (by simp [World.setCell]; omega) fun i hi h0 => ?_
              have ha := hmy5.out.away i hi h0
              exact (hblk _ (by have := hmB.out i hi h0; omega)).trans (Hg6.out.block _ ha.2.1 (fun e => ha.2.2.1 e.symm))
            · intro g hg
              rw [hlen, Hlb.out] at hg
              exact hyB.out g hg
            · intro i hi h0
              rw [hlen] at hi
              rw [cut_at hkn hi] at h0
              exact hmB.out _ (sh_lt hi) h0
          case measure => simp [intOf]
        · have hrf : redB cur k (cur.cos.getD k default) = false := by simpa using hr
          have hst := Lib.hid (redStep_no hrf)
          rw [hrf]
          clear hr hrf
          go_wp2
          go_roundw
          case rel =>
            refine ⟨cur, k, YA, YC, ys, mm, mmv, rfl, by omega, Lib.hid ?_, hcok, hsz, hcw, hbw5, hrQ5, hrR5, hvr5, hyo5, hmy5, hyB, hmB⟩
            rw [← hrd.out]
            show redDown k cur = redDown k (redStep cur k)
            rw [hst.out]
          case measure => simp [intOf]
  · have hokf : tyOk t = false := by simpa using hok
    have hwo : redTy t = ⟨[], []⟩ := redTy_no hokf
    have Hwo := Lib.hid hwo
    have Hok := Lib.hid hokf
    rw [hokf]
    clear hok hokf hwo
    go_wp2
    refine bodyPost_ret (v := .tuple #[.agg #[.slice none 0 0, .slice none 0 0], .bool false]) (by simp [results, Try.results29, go_sem, r0, r1]) rfl ?_
    refine ⟨_, _, by rw [Hok.out], (H1.out.setCell (by dsimp only; omega) _).setCell (by dsimp only; omega) _, ?_⟩
    rw [Hwo.out]
    exact ⟨w.heap.size, Nat.le_refl _, World.ownsRow_nil _ _ _ _, fun g hg => (by simp [Value.ownBlock] at hg), CosOwned.nil _ _ _⟩
end Go.Proofs.Ytokklaoldgdkaaa

namespace Go.Proofs.Ytokklaoldgdkaaa
open Go.RowKit

/-- Marked types: their numbers and their blocks. -/
theorem markC_wf {f : Nat → Co} {k0 : Int} {n : Nat} (h0 : 0 ≤ k0) (h1 : k0 + 2 * (n : Int) + (lenSum f n : Int) ≤ 900000000) : ∀ i, i < n → I64 (mixCo f k0 n i).src ∧ I64 (mixCo f k0 n i).dst ∧ ∀ z ∈ (mixCo f k0 n i).map, I64 z := by
  intro i hi
  have e : mixCo f k0 n i = markCo f k0 i := by unfold mixCo; rw [if_pos hi]
  have hs := lenSum_mono f (show i + 1 ≤ n by omega)
  have hl : lenSum f (i + 1) = lenSum f i + (f i).map.length := rfl
  have hm : markAt f k0 i = k0 + 2 * (i : Int) + (lenSum f i : Int) := rfl
  rw [e]
  refine ⟨?_, ?_, markL_wf _ _ ?_ ?_⟩
  · show I64 (markAt f k0 i); unfold I64; omega
  · show I64 (markAt f k0 i + 1); unfold I64; omega
  · omega
  · omega
theorem uses_mark {gs gc n : Nat} {m : Nat → Nat} {f : Nat → Co} {k0 k1 : Int} {s : Nat} {ss : List Int} (hs : ss.length = s) {k : Nat} (h : OwnTy.uses gs gc m (markL k0 s) n (mixCo f k1 n) k) : OwnTy.uses gs gc m ss n f k := by
  rcases h with ⟨h0, rfl⟩ | h | ⟨i, hi, h0, rfl⟩
  · rw [markL_len] at h0; exact .inl ⟨by omega, rfl⟩
  · exact .inr (.inl h)
  · rw [mixCo_len] at h0; exact .inr (.inr ⟨i, hi, h0, rfl⟩)

set_option maxRecDepth 100000 in
set_option maxHeartbeats 4000000 in
theorem lawRt_walk (sv cv : Value) (t : Ty)  (w : World) (hv : TyAt w 0 w.heap.size sv cv t) :
    Calls Try.prog 7 #[.agg #[sv, cv]] w fun e w' => e = .returned (.bool true) ∧ Below w.heap.size w w' := by
  obtain ⟨A, cap, rfl, hl1, hm1, _⟩ := hv.1.form
  obtain ⟨B, bap, rfl, hl2, hm2, _⟩ := hv.2.form
  clear hl1 hm1 hl2 hm2
  have Hv := Lib.hid hv
  clear hv
  have H1 := Lib.hid (Below.refl (w.heap.size + 1) (w.alloc (.cells #[.slice A t.sizes.length cap, .slice B t.cos.length bap] 25)))
  have Hbulk := Lib.hid (redTy_bulk t)
  go_enter Try.func7, Try.ntmps7
  go_wp2_with fail
  refine (szTypes_any 0 w.heap.size _ _ t 1048576 _ (by omega) (by omega) (Hv.out.below (box2 H1.out).2.2.2 (Nat.le_refl _)) (by simp)).mono ?_
  rintro e w2 ⟨rfl, hb2⟩
  have H2 := H1.out.trans (hb2.mono (by simp))
  obtain ⟨q0, q1, hz2, hB2⟩ := box2 H2
  have RT2 := Lib.hid (show Row w2 w.heap.size 25 [.slice A t.sizes.length cap, .slice B t.cos.length bap] from (Row.new w 25 [.slice A t.sizes.length cap, .slice B t.cos.length bap]).below hb2 (by simp))
  have HB2 := Lib.hid hB2
  clear hb2 H2 hB2
  by_cases hbig : (1048576 : Int) - t.bulk < 0
  · rw [subI_neg hbig]
    go_wp2
    go_ret
    exact ⟨rfl, HB2.out⟩
  rw [subI_pos hbig]
  have hbk : Hid (t.bulk ≤ 1048576) := by show t.bulk ≤ 1048576; omega
  go_wp2_with fail
  clear hbig
  refine (toTypes_any 0 w.heap.size _ _ t _ (Hv.out.below HB2.out (Nat.le_refl _)) (by omega) hbk.out).mono ?_
  rintro e w3 ⟨rfl, hb3, hs3, hn3⟩
  have hat := Lib.hid (hn3.at_ Hv.out.fits hbk.out)
  clear q0 q1
  have RT3 := Lib.hid (RT2.out.below hb3 RT2.out.lt)
  have HB3 := Lib.hid (HB2.out.trans (hb3.mono (by have := HB2.out.size; omega)))
  have hz3 := hb3.size
  have t0 := RT3.out.cell 0
  have t1 := RT3.out.cell 1
  have tl := RT3.out.lt
  simp only [List.getElem?_cons_zero, List.getElem?_cons_succ] at t0 t1
  have hs3b : w2.heap.size + 5 + 4 * t.cos.length ≤ w3.heap.size := by omega
  clear hb3 hn3 hs3
  go_wp2_with fail
  refine (specRedTy_any _ _ _ _ t  _ hat.out (by omega) hbk.out).mono ?_
  rintro e w4 ⟨v0, l0, rfl, hb4, hty4⟩
  have WS := Lib.hid (IntsAt.wf hty4.1)
  have WC := Lib.hid (CosAt.wf hty4.2)
  obtain ⟨A0, cap0, rfl, _, _, _⟩ := hty4.1.form
  obtain ⟨B0, bap0, rfl, _, _, _⟩ := hty4.2.form
  have RT4 := Lib.hid (RT3.out.below hb4 RT3.out.lt)
  have HB4 := Lib.hid (HB3.out.trans (hb4.mono (by have := HB3.out.size; omega)))
  have hz4 := hb4.size
  have ST4 := Lib.hid hty4
  clear t0 t1 tl
  have t0 := RT4.out.cell 0
  have t1 := RT4.out.cell 1
  have tl := RT4.out.lt
  simp only [List.getElem?_cons_zero, List.getElem?_cons_succ] at t0 t1
  clear hb4 hty4 hat
  go_wp2_with fail
  obtain ⟨w4a, hw4a⟩ : ∃ u, u = w4.alloc (.cells #[.slice A0 (redTy t).sizes.length cap0, .slice B0 (redTy t).cos.length bap0] 30) := ⟨_, rfl⟩
  rw [← hw4a]
  have hb4a : Below w4.heap.size w4 w4a := by rw [hw4a]; exact (Below.refl _ _).alloc (Nat.le_refl _) _
  have RT4a := Lib.hid (RT4.out.below hb4a RT4.out.lt)
  have HB4a := Lib.hid (HB4.out.trans (hb4a.mono (by have := HB4.out.size; omega)))
  have ST4a := Lib.hid (ST4.out.below hb4a (by omega))
  have hz4a := hb4a.size
  have RP4a : Hid (Row w4a w4.heap.size 30 [.slice A0 (redTy t).sizes.length cap0, .slice B0 (redTy t).cos.length bap0]) := by rw [hw4a]; exact Row.new w4 30 [.slice A0 (redTy t).sizes.length cap0, .slice B0 (redTy t).cos.length bap0]
  have hlP : w4.heap.size < w4a.heap.size := RP4a.out.lt
  clear hw4a
  clear t0 t1 tl
  have t0 := RT4a.out.cell 0
  have t1 := RT4a.out.cell 1
  have tl := RT4a.out.lt
  have p0 := RP4a.out.cell 0
  have p1 := RP4a.out.cell 1
  have pl := RP4a.out.lt
  simp only [List.getElem?_cons_zero, List.getElem?_cons_succ] at t0 t1 p0 p1
  clear hb4a
  refine (toTypes_any 0 w.heap.size _ _ t _ (Hv.out.below HB4a.out (Nat.le_refl _)) (by omega) hbk.out).mono ?_
  rintro e w5 ⟨rfl, hb5, hs5, hn5⟩
  have RT5 := Lib.hid (RT4a.out.below hb5 RT4a.out.lt)
  have RP5 := Lib.hid (RP4a.out.below hb5 RP4a.out.lt)
  have HB5 := Lib.hid (HB4a.out.trans (hb5.mono (by have := HB4a.out.size; omega)))
  have ST5 := Lib.hid (ST4a.out.below hb5 (by omega))
  have hz5 := hb5.size
  have XN5 := Lib.hid (hn5.at_ Hv.out.fits hbk.out)
  have Hn5 := Lib.hid hn5
  clear t0 t1 tl p0 p1 pl
  have t0 := RT5.out.cell 0
  have t1 := RT5.out.cell 1
  have tl := RT5.out.lt
  have p0 := RP5.out.cell 0
  have p1 := RP5.out.cell 1
  have pl := RP5.out.lt
  simp only [List.getElem?_cons_zero, List.getElem?_cons_succ] at t0 t1 p0 p1
  have hs5b : w4a.heap.size + 5 + 4 * t.cos.length ≤ w5.heap.size := by omega
  clear hb5 hn5 hs5
  go_wp2_with fail
  obtain ⟨w5a, hw5a⟩ : ∃ u, u = w5.alloc (.cells #[.slice (some ⟨w4a.heap.size + 3, 0, none⟩) t.sizes.length t.sizes.length, .slice (some ⟨w4a.heap.size + 4, 0, none⟩) t.cos.length t.cos.length] 30) := ⟨_, rfl⟩
  rw [← hw5a]
  have hb5a : Below w5.heap.size w5 w5a := by rw [hw5a]; exact (Below.refl _ _).alloc (Nat.le_refl _) _
  have RT5a := Lib.hid (RT5.out.below hb5a RT5.out.lt)
  have RP5a := Lib.hid (RP5.out.below hb5a RP5.out.lt)
  have HB5a := Lib.hid (HB5.out.trans (hb5a.mono (by have := HB5.out.size; omega)))
  have ST5a := Lib.hid (ST5.out.below hb5a (by omega))
  have XN5a := Lib.hid (XN5.out.below hb5a (by omega))
  have hz5a := hb5a.size
  have RX5a : Hid (Row w5a w5.heap.size 30 [.slice (some ⟨w4a.heap.size + 3, 0, none⟩) t.sizes.length t.sizes.length, .slice (some ⟨w4a.heap.size + 4, 0, none⟩) t.cos.length t.cos.length]) := by rw [hw5a]; exact Row.new w5 30 [.slice (some ⟨w4a.heap.size + 3, 0, none⟩) t.sizes.length t.sizes.length, .slice (some ⟨w4a.heap.size + 4, 0, none⟩) t.cos.length t.cos.length]
  have hlX : w5.heap.size < w5a.heap.size := RX5a.out.lt
  clear hw5a
  have B55a := Lib.hid hb5a
  clear t0 t1 tl p0 p1 pl
  have t0 := RT5a.out.cell 0
  have t1 := RT5a.out.cell 1
  have tl := RT5a.out.lt
  have p0 := RP5a.out.cell 0
  have p1 := RP5a.out.cell 1
  have pl := RP5a.out.lt
  have x0 := RX5a.out.cell 0
  have x1 := RX5a.out.cell 1
  have xl := RX5a.out.lt
  simp only [List.getElem?_cons_zero, List.getElem?_cons_succ] at t0 t1 p0 p1 x0 x1
  clear hb5a
  refine (implRedTy_any _ _ _ _ t  _ XN5a.out (by omega) hbk.out).mono ?_
  rintro e w6 ⟨v1, l1, rfl, hb6, hto6⟩
  have hty6 := hto6.tyAt WS.out WC.out
  obtain ⟨gs, gc, m, mv, hown6, huse6⟩ := hto6.own
  obtain ⟨A1, cap1, rfl, _, _, _⟩ := hty6.1.form
  obtain ⟨B1, bap1, rfl, _, _, _⟩ := hty6.2.form
  have RT6 := Lib.hid (RT5a.out.below hb6 RT5a.out.lt)
  have RP6 := Lib.hid (RP5a.out.below hb6 RP5a.out.lt)
  have RX6 := Lib.hid (RX5a.out.below hb6 RX5a.out.lt)
  have HB6 := Lib.hid (HB5a.out.trans (hb6.mono (by have := HB5a.out.size; omega)))
  have ST6 := Lib.hid (ST5a.out.below hb6 (by omega))
  have XN6 := Lib.hid (XN5a.out.below hb6 (by omega))
  have hz6 := hb6.size
  have B56 := Lib.hid (B55a.out.trans (hb6.mono (by omega)))
  have IT6 := Lib.hid hty6
  have IO6 := Lib.hid hown6
  have IU := Lib.hid huse6
  clear t0 t1 tl p0 p1 pl x0 x1 xl
  have t0 := RT6.out.cell 0
  have t1 := RT6.out.cell 1
  have tl := RT6.out.lt
  have p0 := RP6.out.cell 0
  have p1 := RP6.out.cell 1
  have pl := RP6.out.lt
  have x0 := RX6.out.cell 0
  have x1 := RX6.out.cell 1
  have xl := RX6.out.lt
  simp only [List.getElem?_cons_zero, List.getElem?_cons_succ] at t0 t1 p0 p1 x0 x1
  clear hb6 hto6 hty6 hown6 huse6
  go_wp2_with fail
  obtain ⟨w6a, hw6a⟩ : ∃ u, u = w6.alloc (.cells #[.slice A1 (redTy t).sizes.length cap1, .slice B1 (redTy t).cos.length bap1] 30) := ⟨_, rfl⟩
  rw [← hw6a]
  have hb6a : Below w6.heap.size w6 w6a := by rw [hw6a]; exact (Below.refl _ _).alloc (Nat.le_refl _) _
  have RT6a := Lib.hid (RT6.out.below hb6a RT6.out.lt)
  have RP6a := Lib.hid (RP6.out.below hb6a RP6.out.lt)
  have RX6a := Lib.hid (RX6.out.below hb6a RX6.out.lt)
  have HB6a := Lib.hid (HB6.out.trans (hb6a.mono (by have := HB6.out.size; omega)))
  have ST6a := Lib.hid (ST6.out.below hb6a (by omega))
  have XN6a := Lib.hid (XN6.out.below hb6a (by omega))
  have IT6a := Lib.hid (IT6.out.below hb6a (by omega))
  have hz6a := hb6a.size
  have RY6a : Hid (Row w6a w6.heap.size 30 [.slice A1 (redTy t).sizes.length cap1, .slice B1 (redTy t).cos.length bap1]) := by rw [hw6a]; exact Row.new w6 30 [.slice A1 (redTy t).sizes.length cap1, .slice B1 (redTy t).cos.length bap1]
  have hlY : w6.heap.size < w6a.heap.size := RY6a.out.lt
  clear hw6a
  have B56a := Lib.hid (B56.out.trans (hb6a.mono (by omega)))
  have IO6a := Lib.hid (IO6.out.keep fun k hk _ => hb6a.block k hk)
  clear t0 t1 tl p0 p1 pl x0 x1 xl
  have t0 := RT6a.out.cell 0
  have t1 := RT6a.out.cell 1
  have tl := RT6a.out.lt
  have p0 := RP6a.out.cell 0
  have p1 := RP6a.out.cell 1
  have pl := RP6a.out.lt
  have x0 := RX6a.out.cell 0
  have x1 := RX6a.out.cell 1
  have xl := RX6a.out.lt
  have y0 := RY6a.out.cell 0
  have y1 := RY6a.out.cell 1
  have yl := RY6a.out.lt
  simp only [List.getElem?_cons_zero, List.getElem?_cons_succ] at t0 t1 p0 p1 x0 x1 y0 y1
  clear hb6a
  have hbn : (tyOk t != tyOk t) = false := by simp
  refine (eqTypes_same _ _ _ _ _ _ _ _ (redTy t) _ IT6a.out ST6a.out (by omega) (by omega)).mono ?_
  rintro e w7 ⟨rfl, hb7⟩
  have RT7 := Lib.hid (RT6a.out.below hb7 RT6a.out.lt)
  have RP7 := Lib.hid (RP6a.out.below hb7 RP6a.out.lt)
  have RX7 := Lib.hid (RX6a.out.below hb7 RX6a.out.lt)
  have RY7 := Lib.hid (RY6a.out.below hb7 RY6a.out.lt)
  have HB7 := Lib.hid (HB6a.out.trans (hb7.mono (by have := HB6a.out.size; omega)))
  have ST7 := Lib.hid (ST6a.out.below hb7 (by omega))
  have XN7 := Lib.hid (XN6a.out.below hb7 (by omega))
  have IT7 := Lib.hid (IT6a.out.below hb7 (by omega))
  have hz7 := hb7.size
  have B57 := Lib.hid (B56a.out.trans (hb7.mono (by omega)))
  have IO7 := Lib.hid (IO6a.out.keep fun k hk _ => hb7.block k hk)
  clear t0 t1 tl p0 p1 pl x0 x1 xl y0 y1 yl
  have t0 := RT7.out.cell 0
  have t1 := RT7.out.cell 1
  have tl := RT7.out.lt
  have p0 := RP7.out.cell 0
  have p1 := RP7.out.cell 1
  have pl := RP7.out.lt
  have x0 := RX7.out.cell 0
  have x1 := RX7.out.cell 1
  have xl := RX7.out.lt
  have y0 := RY7.out.cell 0
  have y1 := RY7.out.cell 1
  have yl := RY7.out.lt
  simp only [List.getElem?_cons_zero, List.getElem?_cons_succ] at t0 t1 p0 p1 x0 x1 y0 y1
  clear hb7
  go_wp2_with fail
  have RT7d : Hid (Row w7.drew w.heap.size 25 [.slice A t.sizes.length cap, .slice B t.cos.length bap]) := RT7.out.drew
  have RP7d : Hid (Row w7.drew w4.heap.size 30 [.slice A0 (redTy t).sizes.length cap0, .slice B0 (redTy t).cos.length bap0]) := RP7.out.drew
  have RX7d : Hid (Row w7.drew w5.heap.size 30 [.slice (some ⟨w4a.heap.size + 3, 0, none⟩) t.sizes.length t.sizes.length, .slice (some ⟨w4a.heap.size + 4, 0, none⟩) t.cos.length t.cos.length]) := RX7.out.drew
  have RY7d : Hid (Row w7.drew w6.heap.size 30 [.slice A1 (redTy t).sizes.length cap1, .slice B1 (redTy t).cos.length bap1]) := RY7.out.drew
  have HB7d : Hid (Below w.heap.size w w7.drew) := HB7.out.drew
  have B57d : Hid (Below w5.heap.size w5 w7.drew) := B57.out.drew
  have XN7d : Hid (TyAt w7.drew _ _ _ _ t) := XN7.out
  have ST7d : Hid (TyAt w7.drew _ _ _ _ (redTy t)) := ST7.out
  have IT7d : Hid (TyAt w7.drew _ _ _ _ (redTy t)) := IT7.out
  have IO7d := Lib.hid (IO7.out.keep (w' := w7.drew) fun k _ _ => rfl)
  have hz7d : w6a.heap.size ≤ w7.drew.heap.size := hz7
  have K7d : Hid (w7.drew.cell? ⟨w.heap.size, 0, none⟩ = some (.slice A t.sizes.length cap) ∧ w7.drew.cell? ⟨w.heap.size, 1, none⟩ = some (.slice B t.cos.length bap) ∧ w7.drew.cell? ⟨w5.heap.size, 0, none⟩ = some (.slice (some ⟨w4a.heap.size + 3, 0, none⟩) t.sizes.length t.sizes.length) ∧ w7.drew.cell? ⟨w5.heap.size, 1, none⟩ = some (.slice (some ⟨w4a.heap.size + 4, 0, none⟩) t.cos.length t.cos.length)) := ⟨RT7d.out.cell 0, RT7d.out.cell 1, RX7d.out.cell 0, RX7d.out.cell 1⟩
  clear t0 t1 tl p0 p1 pl x0 x1 xl y0 y1 yl
  go_region_held3 (fun w' => w'.cell? ⟨w.heap.size, 0, none⟩ = some (.slice A t.sizes.length cap) ∧ w'.cell? ⟨w.heap.size, 1, none⟩ = some (.slice B t.cos.length bap) ∧ w'.cell? ⟨w5.heap.size, 0, none⟩ = some (.slice (some ⟨w4a.heap.size + 3, 0, none⟩) t.sizes.length t.sizes.length) ∧ w'.cell? ⟨w5.heap.size, 1, none⟩ = some (.slice (some ⟨w4a.heap.size + 4, 0, none⟩) t.cos.length t.cos.length))
    (first | exact K7d.out | exact K8.out | exact K9.out)
    (first
      | (go_at_call 15
         refine (toTypes_any 0 w.heap.size _ _ t w7.drew (Hv.out.below HB7d.out (Nat.le_refl _)) HB7d.out.size hbk.out).mono ?_
         rintro e w8 ⟨rfl, hb8, hs8, hn8⟩
         have RT8 := Lib.hid (RT7d.out.below hb8 RT7d.out.lt)
         have RP8 := Lib.hid (RP7d.out.below hb8 RP7d.out.lt)
         have RX8 := Lib.hid (RX7d.out.below hb8 RX7d.out.lt)
         have RY8 := Lib.hid (RY7d.out.below hb8 RY7d.out.lt)
         have HB8 := Lib.hid (HB7d.out.trans (hb8.mono (by have := HB7d.out.size; omega)))
         have ST8 := Lib.hid (ST7d.out.below hb8 (by omega))
         have XN8 := Lib.hid (XN7d.out.below hb8 (by omega))
         have IT8 := Lib.hid (IT7d.out.below hb8 (by omega))
         have hz8 := hb8.size
         have B58 := Lib.hid (B57d.out.trans (hb8.mono B57d.out.size))
         have IO8 := Lib.hid (IO7d.out.keep fun k hk _ => hb8.block k hk)
         have hat8 := Lib.hid (hn8.at_ Hv.out.fits hbk.out)
         have Hs8 := Lib.hid hs8
         have K8 : Hid (w8.cell? ⟨w.heap.size, 0, none⟩ = some (.slice A t.sizes.length cap) ∧ w8.cell? ⟨w.heap.size, 1, none⟩ = some (.slice B t.cos.length bap) ∧ w8.cell? ⟨w5.heap.size, 0, none⟩ = some (.slice (some ⟨w4a.heap.size + 3, 0, none⟩) t.sizes.length t.sizes.length) ∧ w8.cell? ⟨w5.heap.size, 1, none⟩ = some (.slice (some ⟨w4a.heap.size + 4, 0, none⟩) t.cos.length t.cos.length)) := ⟨RT8.out.cell 0, RT8.out.cell 1, RX8.out.cell 0, RX8.out.cell 1⟩
         clear hb8 hn8 hs8)
      | (go_at_call 17
         refine (eqTypes_same _ _ _ _ _ _ _ _ t _ XN8.out hat8.out (by omega) (by have h := Hs8.out; omega)).mono ?_
         rintro e w9 ⟨rfl, hb9⟩
         have RT9 := Lib.hid (RT8.out.below hb9 RT8.out.lt)
         have RP9 := Lib.hid (RP8.out.below hb9 RP8.out.lt)
         have RX9 := Lib.hid (RX8.out.below hb9 RX8.out.lt)
         have RY9 := Lib.hid (RY8.out.below hb9 RY8.out.lt)
         have HB9 := Lib.hid (HB8.out.trans (hb9.mono (by have := HB8.out.size; omega)))
         have ST9 := Lib.hid (ST8.out.below hb9 (by omega))
         have XN9 := Lib.hid (XN8.out.below hb9 (by omega))
         have IT9 := Lib.hid (IT8.out.below hb9 (by omega))
         have hz9 := hb9.size
         have B59 := Lib.hid (B58.out.trans (hb9.mono (by omega)))
         have IO9 := Lib.hid (IO8.out.keep fun k hk _ => hb9.block k hk)
         have K9 : Hid (w9.cell? ⟨w.heap.size, 0, none⟩ = some (.slice A t.sizes.length cap) ∧ w9.cell? ⟨w.heap.size, 1, none⟩ = some (.slice B t.cos.length bap) ∧ w9.cell? ⟨w5.heap.size, 0, none⟩ = some (.slice (some ⟨w4a.heap.size + 3, 0, none⟩) t.sizes.length t.sizes.length) ∧ w9.cell? ⟨w5.heap.size, 1, none⟩ = some (.slice (some ⟨w4a.heap.size + 4, 0, none⟩) t.cos.length t.cos.length)) := ⟨RT9.out.cell 0, RT9.out.cell 1, RX9.out.cell 0, RX9.out.cell 1⟩
         clear hb9))
  have t0 := RT9.out.cell 0
  have t1 := RT9.out.cell 1
  have tl := RT9.out.lt
  have p0 := RP9.out.cell 0
  have p1 := RP9.out.cell 1
  have pl := RP9.out.lt
  have x0 := RX9.out.cell 0
  have x1 := RX9.out.cell 1
  have xl := RX9.out.lt
  have y0 := RY9.out.cell 0
  have y1 := RY9.out.cell 1
  have yl := RY9.out.lt
  simp only [List.getElem?_cons_zero, List.getElem?_cons_succ] at t0 t1 p0 p1 x0 x1 y0 y1
  clear K9
  have hty9 := (Hn5.out.below B59.out (by omega)).own hbk.out
  have hcnt : Hid ((1 : Int) + (t.sizes.length : Int) + 2 * (t.cos.length : Int) + (lenSum (fun j => t.cos.getD j default) t.cos.length : Int) ≤ 900000000) := by
    have h1 := lenSum_maps t _ (Nat.le_refl _)
    have h2 : t.sizes.length + t.cos.length + mapsLen t.cos t.cos.length ≤ 1048576 := hbk.out
    show _ ≤ _
    rw [h1]; omega
  have Hty9 := Lib.hid hty9
  clear hty9
  go_wp2_with fail
  refine (markTypes_any _ _ _ _ _ _ _ _ _ 1 _ Hty9.out (by omega) hcnt.out).mono ?_
  rintro e w10 ⟨rfl, hk10, hs10, _⟩
  have hM : decide (markAt (fun j => t.cos.getD j default) (1 + (t.sizes.length : Int)) t.cos.length < 0) = false := by
    have h1 : markAt (fun j => t.cos.getD j default) (1 + (t.sizes.length : Int)) t.cos.length = 1 + (t.sizes.length : Int) + 2 * (t.cos.length : Int) + (lenSum (fun j => t.cos.getD j default) t.cos.length : Int) := rfl
    rw [h1]; exact decide_eq_false (by omega)
  generalize markAt (fun j => t.cos.getD j default) (1 + (t.sizes.length : Int)) t.cos.length = M at hM ⊢
  have hu : ∀ k, OwnTy.uses (w4a.heap.size + 3) (w4a.heap.size + 3 + 1) (fun j => w4a.heap.size + 3 + 1 + 1 + 4 * j + 3) t.sizes t.cos.length (fun j => t.cos.getD j default) k → w4a.heap.size < k ∧ k < w5.heap.size := fun k h => by
    have := newUses h
    omega
  have hz10 : w9.heap.size ≤ w10.heap.size := by omega
  have RT10 := Lib.hid (RT9.out.keep (hk10.block _ RT9.out.lt fun h => by have := hu _ h; omega))
  have RP10 := Lib.hid (RP9.out.keep (hk10.block _ RP9.out.lt fun h => by have := hu _ h; omega))
  have RX10 := Lib.hid (RX9.out.keep (hk10.block _ RX9.out.lt fun h => by have := hu _ h; omega))
  have RY10 := Lib.hid (RY9.out.keep (hk10.block _ RY9.out.lt fun h => by have := hu _ h; omega))
  have HB10 := Lib.hid (HB9.out.trans (hk10.below (B := w.heap.size) (by omega) fun j hj h => by have := hu j h; omega))
  have ST10 := Lib.hid (ST9.out.keep fun j h1 h2 => hk10.block j (by omega) fun h => by have := hu j h; omega)
  have IT10 := Lib.hid (IT9.out.keep fun j h1 h2 => hk10.block j (by omega) fun h => by have := hu j h; omega)
  have IO10 := Lib.hid (IO9.out.keep fun j hj hj2 => hk10.block j hj fun h => by have := hu j h; have := IU.out j hj2; omega)
  clear t0 t1 tl p0 p1 pl x0 x1 xl y0 y1 yl
  have t0 := RT10.out.cell 0
  have t1 := RT10.out.cell 1
  have tl := RT10.out.lt
  have p0 := RP10.out.cell 0
  have p1 := RP10.out.cell 1
  have pl := RP10.out.lt
  have x0 := RX10.out.cell 0
  have x1 := RX10.out.cell 1
  have xl := RX10.out.lt
  have y0 := RY10.out.cell 0
  have y1 := RY10.out.cell 1
  have yl := RY10.out.lt
  simp only [List.getElem?_cons_zero, List.getElem?_cons_succ] at t0 t1 p0 p1 x0 x1 y0 y1
  clear hk10 hs10 hu
  go_wp2_with fail
  refine (eqTypes_same _ _ _ _ _ _ _ _ (redTy t) _ IT10.out ST10.out (by omega) (by omega)).mono ?_
  rintro e w11 ⟨rfl, hb11⟩
  have RT11 := Lib.hid (RT10.out.below hb11 RT10.out.lt)
  have RP11 := Lib.hid (RP10.out.below hb11 RP10.out.lt)
  have RX11 := Lib.hid (RX10.out.below hb11 RX10.out.lt)
  have RY11 := Lib.hid (RY10.out.below hb11 RY10.out.lt)
  have HB11 := Lib.hid (HB10.out.trans (hb11.mono (by have := HB10.out.size; omega)))
  have ST11 := Lib.hid (ST10.out.below hb11 (by omega))
  have IT11 := Lib.hid (IT10.out.below hb11 (by omega))
  have hz11 := hb11.size
  have IO11 := Lib.hid (IO10.out.keep fun k hk _ => hb11.block k hk)
  clear t0 t1 tl p0 p1 pl x0 x1 xl y0 y1 yl
  have t0 := RT11.out.cell 0
  have t1 := RT11.out.cell 1
  have tl := RT11.out.lt
  have p0 := RP11.out.cell 0
  have p1 := RP11.out.cell 1
  have pl := RP11.out.lt
  have x0 := RX11.out.cell 0
  have x1 := RX11.out.cell 1
  have xl := RX11.out.lt
  have y0 := RY11.out.cell 0
  have y1 := RY11.out.cell 1
  have yl := RY11.out.lt
  simp only [List.getElem?_cons_zero, List.getElem?_cons_succ] at t0 t1 p0 p1 x0 x1 y0 y1
  clear hb11
  have hcn2 : Hid ((1 : Int) + ((redTy t).sizes.length : Int) + 2 * ((redTy t).cos.length : Int) + (lenSum (fun j => (redTy t).cos.getD j default) (redTy t).cos.length : Int) ≤ 900000000) := by
    have h1 := lenSum_maps (redTy t) _ (Nat.le_refl _)
    have h2 : (redTy t).sizes.length + (redTy t).cos.length + mapsLen (redTy t).cos (redTy t).cos.length ≤ 45 := Hbulk.out
    show _ ≤ _
    rw [h1]; omega
  go_wp2_with fail
  refine (markTypes_any _ _ _ _ _ _ _ _ _ 1 _ IO11.out (by omega) hcn2.out).mono ?_
  rintro e w12 ⟨rfl, hk12, hs12, ho12⟩
  obtain ⟨M1, hM1⟩ : ∃ M, M = markAt (fun j => (redTy t).cos.getD j default) (1 + ((redTy t).sizes.length : Int)) (redTy t).cos.length := ⟨_, rfl⟩
  rw [← hM1]
  have hM2 : decide (M1 < 0) = false := by
    have h1 : markAt (fun j => (redTy t).cos.getD j default) (1 + ((redTy t).sizes.length : Int)) (redTy t).cos.length = 1 + ((redTy t).sizes.length : Int) + 2 * ((redTy t).cos.length : Int) + (lenSum (fun j => (redTy t).cos.getD j default) (redTy t).cos.length : Int) := rfl
    rw [hM1, h1]; exact decide_eq_false (by omega)
  have hM3 : (M1 != M1) = false := by simp
  have HM1 := Lib.hid hM1
  clear hM1
  have hu : ∀ k, OwnTy.uses gs gc m (redTy t).sizes (redTy t).cos.length (fun j => (redTy t).cos.getD j default) k → w5a.heap.size ≤ k ∧ k < w6.heap.size := fun k h => IU.out k h
  have hz12 : w11.heap.size ≤ w12.heap.size := by omega
  have RT12 := Lib.hid (RT11.out.keep (hk12.block _ RT11.out.lt fun h => by have := hu _ h; omega))
  have RP12 := Lib.hid (RP11.out.keep (hk12.block _ RP11.out.lt fun h => by have := hu _ h; omega))
  have RX12 := Lib.hid (RX11.out.keep (hk12.block _ RX11.out.lt fun h => by have := hu _ h; omega))
  have RY12 := Lib.hid (RY11.out.keep (hk12.block _ RY11.out.lt fun h => by have := hu _ h; omega))
  have HB12 := Lib.hid (HB11.out.trans (hk12.below (B := w.heap.size) (by omega) fun j hj h => by have := hu j h; omega))
  have ST12 := Lib.hid (ST11.out.keep fun j h1 h2 => hk12.block j (by omega) fun h => by have := hu j h; omega)
  have hms : ∀ z ∈ markL 1 (redTy t).sizes.length, I64 z := markL_wf _ _ (by omega) (by have := hcn2.out; omega)
  have MT12 : Hid (TyAt w12 w5a.heap.size w6.heap.size (.slice A1 (redTy t).sizes.length cap1) (.slice B1 (redTy t).cos.length bap1) (⟨markL 1 (redTy t).sizes.length, (List.range (redTy t).cos.length).map (mixCo (fun j => (redTy t).cos.getD j default) (1 + ((redTy t).sizes.length : Int)) (redTy t).cos.length)⟩ : Ty)) := ho12.tyAt hms (markC_wf (by omega) (by have h := hcn2.out; omega)) fun k h => hu k (uses_mark rfl h)
  clear t0 t1 tl p0 p1 pl x0 x1 xl y0 y1 yl
  have t0 := RT12.out.cell 0
  have t1 := RT12.out.cell 1
  have tl := RT12.out.lt
  have p0 := RP12.out.cell 0
  have p1 := RP12.out.cell 1
  have pl := RP12.out.lt
  have x0 := RX12.out.cell 0
  have x1 := RX12.out.cell 1
  have xl := RX12.out.lt
  have y0 := RY12.out.cell 0
  have y1 := RY12.out.cell 1
  have yl := RY12.out.lt
  simp only [List.getElem?_cons_zero, List.getElem?_cons_succ] at t0 t1 p0 p1 x0 x1 y0 y1
  clear hk12 hs12 hu ho12 hms
  go_wp2_with fail
  refine (heldTypes_any _ _ _ _ _ _ _ 1 _ MT12.out (by omega) (by omega) hcn2.out).mono ?_
  rintro e w13 ⟨rfl, hb13⟩
  rw [← HM1.out]
  have RT13 := Lib.hid (RT12.out.below hb13 RT12.out.lt)
  have RP13 := Lib.hid (RP12.out.below hb13 RP12.out.lt)
  have RX13 := Lib.hid (RX12.out.below hb13 RX12.out.lt)
  have RY13 := Lib.hid (RY12.out.below hb13 RY12.out.lt)
  have HB13 := Lib.hid (HB12.out.trans (hb13.mono (by have := HB12.out.size; omega)))
  have ST13 := Lib.hid (ST12.out.below hb13 (by omega))
  have MT13 := Lib.hid (MT12.out.below hb13 (by omega))
  have hz13 := hb13.size
  clear t0 t1 tl p0 p1 pl x0 x1 xl y0 y1 yl
  have t0 := RT13.out.cell 0
  have t1 := RT13.out.cell 1
  have tl := RT13.out.lt
  have p0 := RP13.out.cell 0
  have p1 := RP13.out.cell 1
  have pl := RP13.out.lt
  have x0 := RX13.out.cell 0
  have x1 := RX13.out.cell 1
  have xl := RX13.out.lt
  have y0 := RY13.out.cell 0
  have y1 := RY13.out.cell 1
  have yl := RY13.out.lt
  simp only [List.getElem?_cons_zero, List.getElem?_cons_succ] at t0 t1 p0 p1 x0 x1 y0 y1
  clear hb13
  go_wp2_with fail
  refine (toTypes_any 0 w.heap.size _ _ t _ (Hv.out.below HB13.out (Nat.le_refl _)) (by omega) hbk.out).mono ?_
  rintro e w14 ⟨rfl, hb14, hs14, hn14⟩
  have hat14 := Lib.hid (hn14.at_ Hv.out.fits hbk.out)
  have RT14 := Lib.hid (RT13.out.below hb14 RT13.out.lt)
  have RP14 := Lib.hid (RP13.out.below hb14 RP13.out.lt)
  have RX14 := Lib.hid (RX13.out.below hb14 RX13.out.lt)
  have RY14 := Lib.hid (RY13.out.below hb14 RY13.out.lt)
  have HB14 := Lib.hid (HB13.out.trans (hb14.mono (by have := HB13.out.size; omega)))
  have ST14 := Lib.hid (ST13.out.below hb14 (by omega))
  have MT14 := Lib.hid (MT13.out.below hb14 (by omega))
  have hz14 := hb14.size
  clear t0 t1 tl p0 p1 pl x0 x1 xl y0 y1 yl
  have t0 := RT14.out.cell 0
  have t1 := RT14.out.cell 1
  have tl := RT14.out.lt
  have p0 := RP14.out.cell 0
  have p1 := RP14.out.cell 1
  have pl := RP14.out.lt
  have x0 := RX14.out.cell 0
  have x1 := RX14.out.cell 1
  have xl := RX14.out.lt
  have y0 := RY14.out.cell 0
  have y1 := RY14.out.cell 1
  have yl := RY14.out.lt
  simp only [List.getElem?_cons_zero, List.getElem?_cons_succ] at t0 t1 p0 p1 x0 x1 y0 y1
  have hs14b : w13.heap.size + 5 + 4 * t.cos.length ≤ w14.heap.size := by omega
  clear hb14 hn14 hs14
  go_wp2_with fail
  refine (implRedTy_any _ _ _ _ t  _ hat14.out (by omega) hbk.out).mono ?_
  rintro e w15 ⟨v2, l2, rfl, hb15, hto15⟩
  have hty15 := hto15.tyAt WS.out WC.out
  obtain ⟨A2, cap2, rfl, _, _, _⟩ := hty15.1.form
  obtain ⟨B2, bap2, rfl, _, _, _⟩ := hty15.2.form
  have RT15 := Lib.hid (RT14.out.below hb15 RT14.out.lt)
  have RP15 := Lib.hid (RP14.out.below hb15 RP14.out.lt)
  have RX15 := Lib.hid (RX14.out.below hb15 RX14.out.lt)
  have RY15 := Lib.hid (RY14.out.below hb15 RY14.out.lt)
  have HB15 := Lib.hid (HB14.out.trans (hb15.mono (by have := HB14.out.size; omega)))
  have ST15 := Lib.hid (ST14.out.below hb15 (by omega))
  have MT15 := Lib.hid (MT14.out.below hb15 (by omega))
  have hz15 := hb15.size
  have ZT15 := Lib.hid hty15
  clear t0 t1 tl p0 p1 pl x0 x1 xl y0 y1 yl
  have t0 := RT15.out.cell 0
  have t1 := RT15.out.cell 1
  have tl := RT15.out.lt
  have p0 := RP15.out.cell 0
  have p1 := RP15.out.cell 1
  have pl := RP15.out.lt
  have x0 := RX15.out.cell 0
  have x1 := RX15.out.cell 1
  have xl := RX15.out.lt
  have y0 := RY15.out.cell 0
  have y1 := RY15.out.cell 1
  have yl := RY15.out.lt
  simp only [List.getElem?_cons_zero, List.getElem?_cons_succ] at t0 t1 p0 p1 x0 x1 y0 y1
  clear hb15 hto15 hty15 hat14
  go_wp2_with fail
  obtain ⟨w15a, hw15a⟩ : ∃ u, u = w15.alloc (.cells #[.slice A2 (redTy t).sizes.length cap2, .slice B2 (redTy t).cos.length bap2] 30) := ⟨_, rfl⟩
  rw [← hw15a]
  have hb15a : Below w15.heap.size w15 w15a := by rw [hw15a]; exact (Below.refl _ _).alloc (Nat.le_refl _) _
  have RT15a := Lib.hid (RT15.out.below hb15a RT15.out.lt)
  have RP15a := Lib.hid (RP15.out.below hb15a RP15.out.lt)
  have RX15a := Lib.hid (RX15.out.below hb15a RX15.out.lt)
  have RY15a := Lib.hid (RY15.out.below hb15a RY15.out.lt)
  have HB15a := Lib.hid (HB15.out.trans (hb15a.mono (by have := HB15.out.size; omega)))
  have ST15a := Lib.hid (ST15.out.below hb15a (by omega))
  have MT15a := Lib.hid (MT15.out.below hb15a (by omega))
  have ZT15a := Lib.hid (ZT15.out.below hb15a (by omega))
  have hz15a := hb15a.size
  have RZ15a : Hid (Row w15a w15.heap.size 30 [.slice A2 (redTy t).sizes.length cap2, .slice B2 (redTy t).cos.length bap2]) := by rw [hw15a]; exact Row.new w15 30 [.slice A2 (redTy t).sizes.length cap2, .slice B2 (redTy t).cos.length bap2]
  have hlZ : w15.heap.size < w15a.heap.size := RZ15a.out.lt
  clear hw15a
  clear t0 t1 tl p0 p1 pl x0 x1 xl y0 y1 yl
  have p0 := RP15a.out.cell 0
  have p1 := RP15a.out.cell 1
  have pl := RP15a.out.lt
  have y0 := RY15a.out.cell 0
  have y1 := RY15a.out.cell 1
  have yl := RY15a.out.lt
  have z0 := RZ15a.out.cell 0
  have z1 := RZ15a.out.cell 1
  have zl := RZ15a.out.lt
  simp only [List.getElem?_cons_zero, List.getElem?_cons_succ] at p0 p1 y0 y1 z0 z1
  clear hb15a
  refine (eqTypes_same _ _ _ _ _ _ _ _ (redTy t) _ ZT15a.out ST15a.out (by omega) (by omega)).mono ?_
  rintro e w16 ⟨rfl, hb16⟩
  have RT16 := Lib.hid (RT15a.out.below hb16 RT15a.out.lt)
  have RP16 := Lib.hid (RP15a.out.below hb16 RP15a.out.lt)
  have RX16 := Lib.hid (RX15a.out.below hb16 RX15a.out.lt)
  have RY16 := Lib.hid (RY15a.out.below hb16 RY15a.out.lt)
  have RZ16 := Lib.hid (RZ15a.out.below hb16 RZ15a.out.lt)
  have HB16 := Lib.hid (HB15a.out.trans (hb16.mono (by have := HB15a.out.size; omega)))
  have ST16 := Lib.hid (ST15a.out.below hb16 (by omega))
  have MT16 := Lib.hid (MT15a.out.below hb16 (by omega))
  have ZT16 := Lib.hid (ZT15a.out.below hb16 (by omega))
  have hz16 := hb16.size
  clear p0 p1 pl y0 y1 yl z0 z1 zl
  have p0 := RP16.out.cell 0
  have p1 := RP16.out.cell 1
  have pl := RP16.out.lt
  have y0 := RY16.out.cell 0
  have y1 := RY16.out.cell 1
  have yl := RY16.out.lt
  have z0 := RZ16.out.cell 0
  have z1 := RZ16.out.cell 1
  have zl := RZ16.out.lt
  simp only [List.getElem?_cons_zero, List.getElem?_cons_succ] at p0 p1 y0 y1 z0 z1
  clear hb16
  go_wp2_with fail
  refine (heldTypes_any _ _ _ _ _ _ _ 1 _ MT16.out (by omega) (by omega) hcn2.out).mono ?_
  rintro e w17 ⟨rfl, hb17⟩
  rw [← HM1.out]
  have Hfin := Lib.hid (HB16.out.trans (hb17.mono (by have := HB16.out.size; omega)))
  clear p0 p1 pl y0 y1 yl z0 z1 zl
  clear hb17
  go_wp2
  go_ret
  exact ⟨rfl, Hfin.out⟩
end Go.Proofs.Ytokklaoldgdkaaa

namespace Go.Proofs.Ytokklaoldgdkaaa
open Go.ChangeShapes Go.WideShapes Go.ChangeAt Go.RowKit Go.Joins Go.Deep

theorem Try.own : ownKnob Try.prog.godebug = none := by kernel_rfl
theorem Try.laidOut : laidOutB Try.prog = true := by kernel_rfl
theorem Try.cellsInt : Try.prog.cellsOf 3 = 1 := by kernel_rfl
theorem Try.cellsTypes : Try.prog.cellsOf 25 = 2 := by kernel_rfl
theorem Try.cellsCo : Try.prog.cellsOf 49 = 3 := by kernel_rfl

theorem wf_I64 {z : Int} (h : (Lit.int .i64 z).wf = true) : I64 z := by
  simpa [Lit.wf, IntKind.min, IntKind.max, IntKind.signed, IntKind.bits, I64] using h

section
variable {H : Type} {enc : TypeId × Value → H} {W : World} {base : Nat} {held : Bool}

/-- A slice of ints that comes in. -/
theorem open_intsAt {fuel : Nat} {v : Value} {x : DataW H × List MemPlace} (h : DataW.trod enc Try.prog W base (fun _ => true) held fuel 22 [v] = some x) : ∃ zs, IntsAt W 0 W.heap.size v zs := by
  rcases open_ints Try.underlying22 Try.underlying3 Try.cellsInt h with ⟨hcs, _⟩ | ⟨a, len, cap, zs, hcs, _, hl, hm, hz, _, hcell, hwz⟩
  · simp only [List.cons.injEq, and_true] at hcs
    subst hcs
    exact ⟨[], _, _, rfl, Nat.le_refl _, Nat.zero_le _, fun z hz => absurd hz (by simp), fun h => absurd h (by simp)⟩
  · simp only [List.cons.injEq, and_true] at hcs
    subst hcs
    simp only [if_true] at hz
    have e : (zs.take len).length = len := by rw [List.length_take]; omega
    refine ⟨zs.take len, some a, cap, by rw [e], by rw [e]; exact hl, hm, fun z hzm => wf_I64 (hwz z (List.mem_of_mem_take hzm)), fun h0 => ?_⟩
    rw [e] at h0
    obtain ⟨b, off, spot⟩ := a
    have hspot : spot = none := by simpa [Addr.add] using World.cell?_spot (hcell 0 (by omega))
    subst hspot
    refine ⟨b, off, rfl, Nat.zero_le _, World.block_lt_of_cell? W _ (hcell 0 (by omega)), fun k hk => ?_⟩
    rw [e] at hk
    rw [← add_plain, hcell k (by omega), List.getD_eq_getElem?_getD, List.getD_eq_getElem?_getD, List.getElem?_take_of_lt hk]

theorem three_fields {P : Program} {spare : Nat → Bool} {t : TypeId} {f0 f1 f2 : Field} {n : Nat} {x y z : Value} {r : DataW H × List MemPlace} (hs : P.underlying t = some (.struct #[f0, f1, f2])) (hone : oneCellFields P #[f0, f1, f2] = true)
    (h : DataW.trod enc P W base spare held n t [x, y, z] = some r) :
    ∃ (y0 y1 y2 : DataW H × List MemPlace) (m : Nat), DataW.trod enc P W base spare held m f0.type [x] = some y0 ∧ DataW.trod enc P W base spare held m f1.type [y] = some y1 ∧ DataW.trod enc P W base spare held m f2.type [z] = some y2 := by
  obtain ⟨ys, m, _, _, _, hyl, hf⟩ := DataW.trod_struct hs h
  obtain ⟨o0, k0⟩ := hone_of hone 0 f0 rfl
  obtain ⟨o1, k1⟩ := hone_of hone 1 f1 rfl
  obtain ⟨o2, k2⟩ := hone_of hone 2 f2 rfl
  match ys, hyl with
  | [y0, y1, y2], _ =>
    exact ⟨y0, y1, y2, m, by simpa [o0, k0] using hf 0 f0 rfl, by simpa [o1, k1] using hf 1 f1 rfl, by simpa [o2, k2] using hf 2 f2 rfl⟩

/-- A coercion's three cells. -/
theorem open_coAt {n : Nat} {x y z : Value} {r : DataW H × List MemPlace} (h : DataW.trod enc Try.prog W base (fun _ => true) held n 49 [x, y, z] = some r) : ∃ c, CoAt W 0 W.heap.size x y z c := by
  obtain ⟨y0, y1, y2, m, e0, e1, e2⟩ := three_fields Try.underlying49 (by kernel_rfl) h
  obtain ⟨a, ea, _, wa⟩ := DataW.trod_int Try.underlying3 e0
  obtain ⟨b, eb, _, wb⟩ := DataW.trod_int Try.underlying3 e1
  obtain ⟨zs, hz⟩ := open_intsAt e2
  simp only [List.cons.injEq, and_true] at ea eb
  exact ⟨⟨a, b, zs⟩, ea, eb, wf_I64 wa, wf_I64 wb, hz⟩

theorem open_cosAt {fuel : Nat} {v : Value} {x : DataW H × List MemPlace} (h : DataW.trod enc Try.prog W base (fun _ => true) held fuel 23 [v] = some x) : ∃ cs, CosAt W 0 W.heap.size v cs := by
  rcases open_slice Try.underlying23 h with ⟨hcs, _⟩ | ⟨a, len, cap, m, n, D, Pl, hcs, hb, hl, hm, hmm, hx, hi⟩
  · simp only [List.cons.injEq, and_true] at hcs
    subst hcs
    exact ⟨[], _, _, rfl, Nat.le_refl _, Nat.zero_le _, fun h => absurd h (by simp)⟩
  · simp only [List.cons.injEq, and_true] at hcs
    subst hcs
    simp only [if_true] at hmm
    have key : ∀ i, i < len → ∃ c : Co, ∃ x y z, W.cell? (a.add (i * 3)) = some x ∧ W.cell? ((a.add (i * 3)).add 1) = some y ∧ W.cell? ((a.add (i * 3)).add 2) = some z ∧ CoAt W 0 W.heap.size x y z c := by
      intro i hil
      obtain ⟨cs', hc, ht⟩ := hi i (by omega)
      rw [Try.cellsCo] at hc
      obtain ⟨_, hcl, hat⟩ := World.cells?_some hc
      match cs', hcl with
      | [x, y, z], _ =>
        obtain ⟨c, hco⟩ := open_coAt ht
        exact ⟨c, x, y, z, by simpa [Addr.add] using hat 0 (by omega), hat 1 (by omega), hat 2 (by omega), hco⟩
    obtain ⟨f, hfx⟩ := choose_lt key
    have e : ((List.range len).map f).length = len := by simp
    refine ⟨(List.range len).map f, some a, cap, by rw [e], by rw [e]; exact hl, hm, fun h0 => ?_⟩
    rw [e] at h0
    obtain ⟨b, off, spot⟩ := a
    obtain ⟨x0, _, _, h00, _⟩ := hfx 0 h0
    have hspot : spot = none := by simpa [Addr.add] using World.cell?_spot h00
    subst hspot
    refine ⟨b, off, rfl, Nat.zero_le _, ?_, fun k hk => ?_⟩
    · have := World.block_lt_of_cell? W _ h00
      simpa [Addr.add] using this
    · rw [e] at hk
      obtain ⟨x, y, z, c0, c1, c2, hco⟩ := hfx k hk
      rw [add_plain] at c0 c1 c2
      rw [add_plain] at c1 c2
      refine ⟨x, y, z, c0, c1, c2, ?_⟩
      rw [List.getD_eq_getElem?_getD, List.getElem?_eq_getElem (by rw [e]; exact hk)]
      simpa using hco

set_option maxRecDepth 100000 in
/-- Types that come in by value. -/
theorem open_tyAt {r : Reach} {b0 : Nat} {v : Value} {d : DataW H} {p : List MemPlace} (hv : Value.okWide Try.prog W r b0 25 v) (h : DataW.Trod enc Try.prog W base (fun _ => true) held 25 v d p) :
    ∃ sv cv t, v = .agg #[sv, cv] ∧ TyAt W 0 W.heap.size sv cv t := by
  obtain ⟨c0, c1, y0, y1, m, rfl, _, _, hy0, hy1⟩ := open_agg2 Try.underlying25 (by kernel_rfl) Try.cellsTypes hv h
  obtain ⟨zs, hz⟩ := open_intsAt hy0
  obtain ⟨cs, hc⟩ := open_cosAt hy1
  exact ⟨c0, c1, ⟨zs, cs⟩, rfl, hz, hc⟩

set_option maxRecDepth 100000 in
/-- A coercion that comes in by value. -/
theorem open_coVal {r : Reach} {b0 : Nat} {v : Value} {d : DataW H} {p : List MemPlace} (hv : Value.okWide Try.prog W r b0 49 v) (h : DataW.Trod enc Try.prog W base (fun _ => true) held 49 v d p) :
    ∃ x y z c, v = .agg #[x, y, z] ∧ CoAt W 0 W.heap.size x y z c := by
  obtain ⟨cs, rfl, hsz⟩ := okWide_struct Try.underlying49 hv
  obtain ⟨l⟩ := cs
  match l, hsz.trans Try.cellsCo with
  | [x, y, z], _ =>
    obtain ⟨fuel, hf⟩ := h
    obtain ⟨c, hc⟩ := open_coAt (by simpa [Value.cells] using hf)
    exact ⟨x, y, z, c, rfl, hc⟩
end
end Go.Proofs.Ytokklaoldgdkaaa

namespace Go.Proofs.Ytokklaoldgdkaaa
open Go Go.Conc Go.ConcM

section
variable {H : Type} {enc : TypeId × Value → H}

theorem leaving_of_lone {P : Program} {n : Nat} {m : Machine} {fr : Frame} {w w' : World} (h : runN P n m = .next (lone fr [] w)) : leavingAtReturn P (lone fr [] w) w' (runNT P (n + 1) m #[]).2 :=
  ⟨(alone_of_lone (w' := w') h).2.1, ⟨fun g hg => by simp [lone] at hg, rfl⟩, fun i g hg hi => by
    cases i with
    | zero => exact absurd rfl hi
    | succ k => simp [lone] at hg⟩

theorem leavingTime_of_change {a : Assume} {C : Checked} {os : Os} {f : FuncId} {fn : Func} {s : ChangeSpec} {F : Stop.Interp} {conds : List PathCond} {apart fresh handsOn : Bool}
    (own : ownKnob C.prog.godebug = none) (started : os.Started) (noInit : C.prog.inits.idxOf? f = none) (hfn : C.prog.funcs[f]? = some fn)
    (witness : ∃ (w : World) (tape : Tape) (i : Input), w.os = os ∧ (w.forCall tape i).Shaped C.prog ∧ i.vars = [] ∧ Input.okWide C.prog (w.forCall tape i) .any w.heap.size f i ∧
      s.pre6 enc C.prog fn conds apart (w.forCall tape i).memory i.args ∧ a.holds C.prog (lone (Frame.enter C.prog f i.args .normal) [] (w.forCall tape i)))
    (contract : ∀ (W : World) (base : Nat) (args : Array Value) (ds gs : List (DataW H)) (before : List MemPlace),
      (∀ (j : Nat) t v, fn.params[j]? = some t → args[j]? = some v → Value.okWide C.prog W .any base t v) →
      DataW.Whole enc C.prog fn.params.toList s.vars apart W args.toList ds gs before →
      conds.all (PathCond.test C.prog ⟨fn.params.toList, ds, s.plain.varTypes C.prog, gs⟩) = true →
      a.holds C.prog (lone (Frame.enter C.prog f args .normal) [] W) →
      Calls C.prog f args W fun e W' => ∃ v, e = .returned v ∧ s.post enc C.prog fn apart fresh handsOn false W args v W') :
    ReturnsInLeavingWide a C os f .any (s.pre6 enc C.prog fn conds apart) ((OpenSpec.ofChange s).postWith enc C.prog fn F (outsideKept [.timePasses]) apart fresh handsOn) := fun enter => by
  obtain ⟨w0, t0, i0, a1, a2, a3, a4, a5, a6⟩ := witness
  refine ⟨enter, own, started, ⟨w0, t0, i0, a1, a2, a3, a4, a5, a6, trivial⟩, fun w tape i h => ?_⟩
  obtain ⟨_, _, _, fn', hfn', _, _, _, _, hval⟩ := h.2.2.2.1
  have e : fn' = fn := Option.some.inj (hfn'.symm.trans hfn)
  subst e
  obtain ⟨⟨ds, gs, before, hw, hc⟩, _⟩ := h.2.2.2.2.1
  have hw' := DataW.Whole.of_heap (w' := w.forCall tape i) (by rfl) hw
  have hcall : Calls C.prog f i.args (w.forCall tape i) fun
      | .returned v, w' => (OpenSpec.ofChange s).postWith enc C.prog fn' F (outsideKept [.timePasses]) apart fresh handsOn (w.forCall tape i).blind i.args v w'.blind
      | _, _ => False := by
    refine (contract (w.forCall tape i) w.heap.size i.args ds gs before hval hw' hc h.2.2.2.2.2.1).mono fun e W' ⟨v, he, hp⟩ => ?_
    subst he
    refine postWith_blind (postWith_of_post ?_ ?_)
    · have hos : W'.os = (w.forCall tape i).os := by obtain ⟨_, _, _, _, _, _, _, _, _, _, h5, _⟩ := hp; exact h5.1
      have e2 : ({ W' with os := (w.forCall tape i).os } : World) = W' := by rw [← hos]
      rw [e2]
      exact hp
    · have hos : W'.os = (w.forCall tape i).os := by obtain ⟨_, _, _, _, _, _, _, _, _, _, h5, _⟩ := hp; exact h5.1
      rw [hos]
      exact OsLater.refl _
  obtain ⟨n, v, w', fr, hn, hend, hp⟩ := hcall.done_lone noInit
  exact ⟨n + 1, v, w', hend, (clean_of_lone hn).2, roomy_placeholder .., hp, ⟨n, _, hn, step_of_runs hn hend, leaving_of_lone hn⟩, fun _ _ _ => trivial⟩
end
end Go.Proofs.Ytokklaoldgdkaaa

namespace Go.Proofs.Ytokklaoldgdkaaa
open Go.ChangeShapes Go.WideShapes Go.ChangeAt Go.RowKit

set_option maxRecDepth 100000 in
theorem lawRt_lifted (os : Os) (started : os.Started) (H : Type) (enc : TypeId × Value → H) (F : Stop.Interp) :
    ReturnsInLeavingWide { calm := true } Try.checked os 7 .any (Rows.fnExactReducedTypesSpec.pre6 enc Try.prog Try.f7 Rows.fnExactReducedTypesRow.domain false) ((OpenSpec.ofChange Rows.fnExactReducedTypesSpec).postWith enc Try.prog Try.f7 F (outsideKept [.timePasses]) false true false) := by
  refine leavingTime_of_change (C := Try.checked) Try.own started (by kernel_rfl) Try.func7
    (ChangeSpec.witness6c (enc := enc) (C := Try.checked) ⟨#[], #[.agg #[.slice none 0 0, .slice none 0 0]], []⟩ 8 (by kernel_rfl) (by kernel_rfl) (by kernel_rfl) (by kernel_rfl)) ?_
  intro W base args ds gs before hval0 hW _ _
  have hval : ∀ (j : Nat) t v, Try.f7.params[j]? = some t → args[j]? = some v → Value.okWide Try.prog W .any base t v := hval0
  have hW' := hW
  obtain ⟨p, q, hA0, hV, rfl, _, _⟩ := hW
  have hA : DataW.TrodAll enc Try.prog W 0 (fun _ => true) true Try.f7.params.toList args.toList ds p := hA0
  rw [Try.params7] at hA hval
  obtain ⟨v0, vs0, d0, ds0, p, q0, hargs, rfl, rfl, h0, r0⟩ := trodAll_cons hA
  obtain ⟨rfl, rfl, rfl⟩ := trodAll_nil r0
  obtain rfl : args = #[v0] := by cases args; simp_all
  obtain ⟨rfl, rfl⟩ := trodVars_none hV
  obtain ⟨sv, cv, t, rfl, ht⟩ := open_tyAt (hval 0 _ v0 rfl rfl) h0
  have hlt : ∀ x ∈ p, x.block < W.heap.size := fun x hx => by simpa using hW'.lt x (by simp [hx])
  refine (lawRt_walk sv cv t W ht).mono fun e W' ⟨he, hb⟩ => ?_
  subst he
  exact ⟨_, rfl, _, _, _, [], _, [], hW', trodAll_mk1 (shut_bool Try.underlying4 _), trodAll_cons_mk (Below.trod Try.laidOut (by kernel_rfl) (of_decide_eq_true (by kernel_rfl)) h0 hb hlt) trodAll_mk0, rfl, hb.frame _, fun h => by cases h⟩

theorem rt_holds : Rows.FnExactReducedTypesSaid :=
  OpenClaim.holds_of_wide_leaving_time 7 Try.f7 rfl rfl rfl rfl rfl rfl rfl ⟨rfl, rfl, rfl, rfl, rfl⟩ rfl rfl rfl rfl rfl (by kernel_rfl) Try.func7 (by kernel_rfl)
    (of_decide_eq_true (by kernel_rfl)) (by unfold Func.isWrapper; first | (rw [if_pos (by decide +kernel)]; kernel_rfl) | (rw [if_neg (by decide +kernel)]; exact ⟨rfl, rfl⟩))
    (fun os started H enc _ F => lawRt_lifted os started H enc F)
end Go.Proofs.Ytokklaoldgdkaaa

