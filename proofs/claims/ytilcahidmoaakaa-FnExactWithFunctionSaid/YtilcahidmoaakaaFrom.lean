/-
  The contracts of CoercionsFrom, the program's and the model's.
-/
import Derived.Test.YtilcahidmoaakaaSv
import Derived.Test.YtilcahidmoaakaaIt
import Derived.Test.YtilcahidmoaakaaTo
namespace Go.Proofs.Ytilcahidmoaakaa
open Go.RowKit

/-- The indices, below j, of the coercions that begin with a type. -/
def cfr (cs : List Co) (k : Int) (j : Nat) : List Int := ((List.range j).filter fun i => decide ((cs.getD i default).src = k)).map fun i : Nat => (i : Int)
theorem cfr_zero (cs : List Co) (k : Int) : cfr cs k 0 = [] := rfl
theorem cfr_hit {cs : List Co} {k : Int} {j : Nat} (hj : j < cs.length) (h : cs[j].src = k) : cfr cs k (j + 1) = cfr cs k j ++ [(j : Int)] := by
  unfold cfr
  rw [List.range_succ, List.filter_append, List.map_append]
  have e : (cs[j]?.getD default).src = k := by rw [List.getElem?_eq_getElem hj]; exact h
  simp [e]
theorem cfr_miss {cs : List Co} {k : Int} {j : Nat} (hj : j < cs.length) (h : ¬ cs[j].src = k) : cfr cs k (j + 1) = cfr cs k j := by
  unfold cfr
  rw [List.range_succ, List.filter_append, List.map_append]
  have e : ¬ (cs[j]?.getD default).src = k := by rw [List.getElem?_eq_getElem hj]; exact h
  simp [e]
theorem cfr_le (cs : List Co) (k : Int) (j : Nat) : (cfr cs k j).length ≤ j := by
  unfold cfr
  rw [List.length_map]
  have := List.length_filter_le (fun i => decide ((cs.getD i default).src = k)) (List.range j)
  simpa using this
theorem cfr_wf (cs : List Co) (k : Int) (j : Nat) (hj : j ≤ 1048576) : ∀ z ∈ cfr cs k j, I64 z := by
  intro z hz
  unfold cfr at hz
  obtain ⟨i, hi, rfl⟩ := List.mem_map.1 hz
  have := List.mem_range.1 (List.mem_filter.1 hi).1
  unfold I64
  omega
def cFrom (t : Ty) (k : Int) : List Int := if tyOk t = true then cfr t.cos k t.cos.length else []

def accF (t : Ty) (q : Int) (j : Nat) : List Int := if tyOk t = true then cfr t.cos q j else []
theorem accF_le (t : Ty) (q : Int) (j : Nat) : (accF t q j).length ≤ j := by
  unfold accF
  split
  · exact cfr_le _ _ _
  · simp
theorem ownsRow_cast {w : World} {base : Nat} {t : TypeId} {v : Value} {n n' : Nat} {xs xs' : List Value} (h : w.ownsRow base t 1 v n xs) (hn : n = n') (hx : xs = xs') : w.ownsRow base t 1 v n' xs' := by subst hn; subst hx; exact h

set_option maxRecDepth 100000 in
set_option maxHeartbeats 2000000 in
theorem implFrom_any (lo hi : Nat) (sv cv : Value) (t : Ty) (q : Int) (w : World) (hv : TyAt w lo hi sv cv t) (hB : hi ≤ w.heap.size) (hbk : t.bulk ≤ 1048576) :
    Calls Try.prog 40 #[.agg #[sv, cv], .int .i64 q] w fun e w' => ∃ v, e = .returned v ∧ Below w.heap.size w w' ∧ w'.ownsRow w.heap.size 3 1 v (cFrom t q).length ((cFrom t q).map (Value.int .i64)) := by
  obtain ⟨A, cap, rfl, hl1, hm1, _⟩ := hv.1.form
  obtain ⟨B, bap, rfl, hl2, hm2, hc1⟩ := hv.2.form
  unfold maxLen at hm2
  obtain ⟨i0, hi0, hz0, hz1, hz2⟩ := info_parts Try.infoInt
  have hn : t.cos.length ≤ 1048576 := by unfold Ty.bulk at hbk; omega
  have h3 : Below w.heap.size w (w.alloc (.cells #[.slice A t.sizes.length cap, .slice B t.cos.length bap] 33)) := by go_grown
  have hv3 := Lib.hid (hv.below h3 hB)
  have Hc1 := Lib.hid hc1
  clear hv hc1
  go_enter Try.func40, Try.ntmps40
  go_wp2_with fail
  refine (implValid_any lo hi _ _ t _ hv3.out (by simp; omega)).mono ?_
  rintro e w1 ⟨rfl, hb1⟩
  have H1 := Lib.hid (box2 (hb1.mono (by simp)))
  obtain ⟨q0, q1, hl, hb0⟩ := box2 (hb1.mono (by simp))
  have Hb0 := Lib.hid hb0
  clear hb1 hb0
  by_cases hok : tyOk t = true
  · have hfin : Hid (cFrom t q = cfr t.cos q t.cos.length) := by show _ = _; unfold cFrom; rw [if_pos hok]
    rw [hok]
    clear hok
    go_wp2
    go_loopw [5, 14] (fun l i wr => ∃ j : Nat, j ≤ t.cos.length ∧ i = .int .i64 j ∧ Hid (Below w.heap.size w wr) ∧ Hid (wr.ownsRow w.heap.size 3 1 l (cfr t.cos q j).length ((cfr t.cos q j).map (Value.int .i64)))) (fun _ i _ => t.cos.length - (intOf i).toNat)
    case atStart => exact ⟨0, Nat.zero_le _, rfl, Hb0.out, World.ownsRow_nil _ _ _ _⟩
    case round =>
      obtain ⟨j, hj, rfl, hb, hown⟩ := hrel
      by_cases hlt : j < t.cos.length
      · obtain ⟨b, off, A2, cap2, rfl, hlo, hhi, c0, c1, c2, h5, h6, hs, hd, hz2'⟩ := (Hc1.out.below hb.out hB).at_ hlt
        have hle := cfr_le t.cos q j
        have hbs := hb.out.size
        clear hz2'
        by_cases hq : t.cos[j].src = q
        · have hh := Lib.hid (cfr_hit hlt hq)
          have htest : (t.cos[j].src == q) = true := by simpa using hq
          have Hq := Lib.hid hq
          clear hq
          go_wp2_with (at_builtin; refine wpList_append_own _ rfl (.tmp 23) (.tmp 25) 22 rfl w.heap.size 3 i0 (.int .i64 0) 1 8 Try.underlying22 hi0 hz0 hz1 hz2 rfl (by decide) _ _ _ rfl ((hown.out.alloc _).alloc _) ⟨wr.heap.size + 1, 0, none⟩ 1 1 [.int .i64 j] rfl rfl ?c1 ?c2 ?c3 ?c4 ?c5 ?_)
          case c1 =>
            intro i u hi
            match i, hi with
            | 0, hi => simp at hi; subst hi; simp [Addr.add]
          case c2 => intro u hu; simp at hu; subst hu; rfl
          case c3 => unfold maxLen; omega
          case c4 => omega
          case c5 => simp; omega
          intro v' w2 hown2 hgrow _
          have hb2 : Below w.heap.size w w2 := ((hb.out.alloc (by omega) _).alloc (by simp; omega) _).grown hgrow (by simp; omega) (fun k hk => by
            obtain ⟨_, ⟨e, _⟩ | ⟨g, cap3, cur, e, hg, _⟩⟩ := hown.out
            · rw [e] at hk; simp [Value.ownBlock] at hk
            · rw [e] at hk; simp [Value.ownBlock] at hk; omega)
          have Hb2 := Lib.hid hb2
          have Hown2 := Lib.hid hown2
          clear hown2 hgrow hb2
          go_wp2
          go_roundw
          case rel => exact ⟨j + 1, by omega, by go_num, Hb2.out, ownsRow_cast Hown2.out (by rw [hh.out]; simp) (by rw [hh.out]; simp)⟩
          case measure => simp [intOf]; omega
        · have hh := Lib.hid (cfr_miss hlt hq)
          have htest : (t.cos[j].src == q) = false := by simpa using hq
          clear hq
          go_wp2
          go_roundw
          case rel => exact ⟨j + 1, by omega, by go_num, hb.out.alloc (by omega) _, by rw [hh.out]; exact hown.out.alloc _⟩
          case measure => simp [intOf]; omega
      · obtain rfl : j = t.cos.length := by omega
        go_wp2
        go_ret
        exact ⟨_, rfl, hb.out, by rw [hfin.out]; exact hown.out⟩
  · have hokf : tyOk t = false := by simpa using hok
    have hfin : Hid (cFrom t q = []) := by show _ = _; unfold cFrom; rw [if_neg hok]
    rw [hokf]
    clear hok
    go_wp2
    go_ret
    refine ⟨_, rfl, Hb0.out, ?_⟩
    rw [hfin.out]
    exact World.ownsRow_nil _ _ _ _

theorem ownsRow_base {w : World} {base base' : Nat} {t : TypeId} {v : Value} {n : Nat} {xs : List Value} (h : w.ownsRow base t 1 v n xs) (hb : base' ≤ base) : w.ownsRow base' t 1 v n xs := by
  obtain ⟨h1, h2 | ⟨g, cap, cur, e, hg, r⟩⟩ := h
  · exact ⟨h1, .inl h2⟩
  · exact ⟨h1, .inr ⟨g, cap, cur, e, by omega, r⟩⟩
theorem ownsRow_below {w w' : World} {base B : Nat} {t : TypeId} {v : Value} {n : Nat} {xs : List Value} (h : w.ownsRow base t 1 v n xs) (hb : Below B w w') (hB : w.heap.size ≤ B) : w'.ownsRow base t 1 v n xs := by
  obtain ⟨h1, h2 | ⟨g, cap, cur, e, hg, hh, r⟩⟩ := h
  · exact ⟨h1, .inl h2⟩
  · have hlt : g < w.heap.size := by
      rcases Nat.lt_or_ge g w.heap.size with hlt | hge
      · exact hlt
      · rw [Array.getElem?_eq_none hge] at hh; cases hh
    exact ⟨h1, .inr ⟨g, cap, cur, e, hg, (hb.block g (by omega)).trans hh, r⟩⟩
end Go.Proofs.Ytilcahidmoaakaa
