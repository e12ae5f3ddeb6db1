/-
  The contracts of CoercionsFrom, the program's and the model's.
  The contract of the model's CoercionsFrom.
  sync.Once in one goroutine, the lock free and nothing done yet: the parts of its slow road, each a contract of its own.
  The table that a coercion makes once: filled by the function that is handed to the Once.
  sync.Once's Do, not done yet, the lock free, over the table of a coercion; and the look-up in the table.
  The contracts of ApplyCoercion, the program's and the model's.
  From the reading of an argument to the words for memory: types and a coercion that come in by value.
  A text of bytes that comes in.
-/
import Derived.Test.YtabipfomcldkiaaH5
import Derived.Test.YtabipfomcldkiaaH2
import Derived.Test.YtabipfomcldkiaaRows
import Derived.Tactics
import Derived.Tactics2
import Derived.Defers
import Derived.Laws.Pointers
import Derived.Laws.LoneSync
import Derived.RegionTactic
import Derived.RegionCalls
import Derived.ChangeAlike
import Derived.Outline
import Derived.Handy
import Derived.StillTailTactics
import Derived.Laws.CopyOwn
import Derived.Deep.RegionHeld3
import Derived.BigQuiet
import Derived.Test.YtabipfomcldkiaaH1
import Derived.WalkKit
import Derived.ProofKit
import Derived.OpenShut
import Derived.Lib.SmallJoins
import Derived.Deep.Slices
import Derived.Deep.Fields
namespace Go.Proofs.Ytabipfomcldkiaa
open Go.RowKit

/-- The indices, below j, of the coercions that begin with a type. -/
def cfr (cs : List Co) (k : Int) (j : Nat) : List Int := ((List.range j).filter fun i => decide ((cs.getD i default).src = k)).map fun i : Nat => (i : Int)
theorem cfr_zero (cs : List Co) (k : Int) : cfr cs k 0 = [] := rfl
theorem cfr_hit {cs : List Co} {k : Int} {j : Nat} (hj : j < cs.length) (h : cs[j].src = k) : cfr cs k (j + 1) = cfr cs k j ++ [(j : Int)] := by
  unfold cfr
  rw [List.range_succ, List.filter_append, List.map_append]
  have e : (cs[j]?.getD default).src = k := by rw [List.getElem?_eq_getElem hj]; exact h
  simp [e]
theorem cfr_miss {cs : List Co} {k : Int} {j : Nat} (hj : j < cs.length) (h : ¬ cs[j].src = k) : cfr cs k (j + 1) = cfr cs k j := by
  unfold cfr
  rw [List.range_succ, List.filter_append, List.map_append]
  have e : ¬ (cs[j]?.getD default).src = k := by rw [List.getElem?_eq_getElem hj]; exact h
  simp [e]
theorem cfr_le (cs : List Co) (k : Int) (j : Nat) : (cfr cs k j).length ≤ j := by
  unfold cfr
  rw [List.length_map]
  have := List.length_filter_le (fun i => decide ((cs.getD i default).src = k)) (List.range j)
  simpa using this
theorem cfr_wf (cs : List Co) (k : Int) (j : Nat) (hj : j ≤ 1048576) : ∀ z ∈ cfr cs k j, I64 z := by
  intro z hz
  unfold cfr at hz
  obtain ⟨i, hi, rfl⟩ := List.mem_map.1 hz
  have := List.mem_range.1 (List.mem_filter.1 hi).1
  unfold I64
  omega
def cFrom (t : Ty) (k : Int) : List Int := if tyOk t = true then cfr t.cos k t.cos.length else []

def accF (t : Ty) (q : Int) (j : Nat) : List Int := if tyOk t = true then cfr t.cos q j else []
theorem accF_le (t : Ty) (q : Int) (j : Nat) : (accF t q j).length ≤ j := by
  unfold accF
  split
  · exact cfr_le _ _ _
  · simp
theorem ownsRow_cast {w : World} {base : Nat} {t : TypeId} {v : Value} {n n' : Nat} {xs xs' : List Value} (h : w.ownsRow base t 1 v n xs) (hn : n = n') (hx : xs = xs') : w.ownsRow base t 1 v n' xs' := by subst hn; subst hx; exact h

set_option maxRecDepth 100000 in
set_option maxHeartbeats 2000000 in
theorem implFrom_any (lo hi : Nat) (sv cv : Value) (t : Ty) (q : Int) (w : World) (hv : TyAt w lo hi sv cv t) (hB : hi ≤ w.heap.size) (hbk : t.bulk ≤ 1048576) :
    Calls Try.prog 14 #[.agg #[sv, cv], .int .i64 q] w fun e w' => ∃ v, e = .returned v ∧ Below w.heap.size w w' ∧ w'.ownsRow w.heap.size 3 1 v (cFrom t q).length ((cFrom t q).map (Value.int .i64)) := by
  obtain ⟨A, cap, rfl, hl1, hm1, _⟩ := hv.1.form
  obtain ⟨B, bap, rfl, hl2, hm2, hc1⟩ := hv.2.form
  unfold maxLen at hm2
  obtain ⟨i0, hi0, hz0, hz1, hz2⟩ := info_parts Try.infoInt
  have hn : t.cos.length ≤ 1048576 := by unfold Ty.bulk at hbk; omega
  have h3 : Below w.heap.size w (w.alloc (.cells #[.slice A t.sizes.length cap, .slice B t.cos.length bap] 26)) := by go_grown
  have hv3 := Lib.hid (hv.below h3 hB)
  have Hc1 := Lib.hid hc1
  clear hv hc1
  go_enter Try.func14, Try.ntmps14
  go_wp2_with fail
  refine (implValid_any lo hi _ _ t _ hv3.out (by simp; omega)).mono ?_
  rintro e w1 ⟨rfl, hb1⟩
  have H1 := Lib.hid (box2 (hb1.mono (by simp)))
  obtain ⟨q0, q1, hl, hb0⟩ := box2 (hb1.mono (by simp))
  have Hb0 := Lib.hid hb0
  clear hb1 hb0
  by_cases hok : tyOk t = true
  · have hfin : Hid (cFrom t q = cfr t.cos q t.cos.length) := by show _ = _; unfold cFrom; rw [if_pos hok]
    rw [hok]
    clear hok
    go_wp2
    go_loopw [5, 14] (fun l i wr => ∃ j : Nat, j ≤ t.cos.length ∧ i = .int .i64 j ∧ Hid (Below w.heap.size w wr) ∧ Hid (wr.ownsRow w.heap.size 3 1 l (cfr t.cos q j).length ((cfr t.cos q j).map (Value.int .i64)))) (fun _ i _ => t.cos.length - (intOf i).toNat)
    case atStart => exact ⟨0, Nat.zero_le _, rfl, Hb0.out, World.ownsRow_nil _ _ _ _⟩
    case round =>
      obtain ⟨j, hj, rfl, hb, hown⟩ := hrel
      by_cases hlt : j < t.cos.length
      · obtain ⟨b, off, A2, cap2, rfl, hlo, hhi, c0, c1, c2, h5, h6, hs, hd, hz2'⟩ := (Hc1.out.below hb.out hB).at_ hlt
        have hle := cfr_le t.cos q j
        have hbs := hb.out.size
        clear hz2'
        by_cases hq : t.cos[j].src = q
        · have hh := Lib.hid (cfr_hit hlt hq)
          have htest : (t.cos[j].src == q) = true := by simpa using hq
          have Hq := Lib.hid hq
          clear hq
          go_wp2_with (at_builtin; refine wpList_append_own _ rfl (.tmp 23) (.tmp 25) 23 rfl w.heap.size 3 i0 (.int .i64 0) 1 8 Try.underlying23 hi0 hz0 hz1 hz2 rfl (by decide) _ _ _ rfl ((hown.out.alloc _).alloc _) ⟨wr.heap.size + 1, 0, none⟩ 1 1 [.int .i64 j] rfl rfl ?c1 ?c2 ?c3 ?c4 ?c5 ?_)
          case c1 =>
            intro i u hi
            match i, hi with
            | 0, hi => simp at hi; subst hi; simp [Addr.add]
          case c2 => intro u hu; simp at hu; subst hu; rfl
          case c3 => unfold maxLen; omega
          case c4 => omega
          case c5 => simp; omega
          intro v' w2 hown2 hgrow _
          have hb2 : Below w.heap.size w w2 := ((hb.out.alloc (by omega) _).alloc (by simp; omega) _).grown hgrow (by simp; omega) (fun k hk => by
            obtain ⟨_, ⟨e, _⟩ | ⟨g, cap3, cur, e, hg, _⟩⟩ := hown.out
            · rw [e] at hk; simp [Value.ownBlock] at hk
            · rw [e] at hk; simp [Value.ownBlock] at hk; omega)
          have Hb2 := Lib.hid hb2
          have Hown2 := Lib.hid hown2
          clear hown2 hgrow hb2
          go_wp2
          go_roundw
          case rel => exact ⟨j + 1, by omega, by go_num, Hb2.out, ownsRow_cast Hown2.out (by rw [hh.out]; simp) (by rw [hh.out]; simp)⟩
          case measure => simp [intOf]; omega
        · have hh := Lib.hid (cfr_miss hlt hq)
          have htest : (t.cos[j].src == q) = false := by simpa using hq
          clear hq
          go_wp2
          go_roundw
          case rel => exact ⟨j + 1, by omega, by go_num, hb.out.alloc (by omega) _, by rw [hh.out]; exact hown.out.alloc _⟩
          case measure => simp [intOf]; omega
      · obtain rfl : j = t.cos.length := by omega
        go_wp2
        go_ret
        exact ⟨_, rfl, hb.out, by rw [hfin.out]; exact hown.out⟩
  · have hokf : tyOk t = false := by simpa using hok
    have hfin : Hid (cFrom t q = []) := by show _ = _; unfold cFrom; rw [if_neg hok]
    rw [hokf]
    clear hok
    go_wp2
    go_ret
    refine ⟨_, rfl, Hb0.out, ?_⟩
    rw [hfin.out]
    exact World.ownsRow_nil _ _ _ _

theorem ownsRow_base {w : World} {base base' : Nat} {t : TypeId} {v : Value} {n : Nat} {xs : List Value} (h : w.ownsRow base t 1 v n xs) (hb : base' ≤ base) : w.ownsRow base' t 1 v n xs := by
  obtain ⟨h1, h2 | ⟨g, cap, cur, e, hg, r⟩⟩ := h
  · exact ⟨h1, .inl h2⟩
  · exact ⟨h1, .inr ⟨g, cap, cur, e, by omega, r⟩⟩
theorem ownsRow_below {w w' : World} {base B : Nat} {t : TypeId} {v : Value} {n : Nat} {xs : List Value} (h : w.ownsRow base t 1 v n xs) (hb : Below B w w') (hB : w.heap.size ≤ B) : w'.ownsRow base t 1 v n xs := by
  obtain ⟨h1, h2 | ⟨g, cap, cur, e, hg, hh, r⟩⟩ := h
  · exact ⟨h1, .inl h2⟩
  · have hlt : g < w.heap.size := by
      rcases Nat.lt_or_ge g w.heap.size with hlt | hge
      · exact hlt
      · rw [Array.getElem?_eq_none hge] at hh; cases hh
    exact ⟨h1, .inr ⟨g, cap, cur, e, hg, (hb.block g (by omega)).trans hh, r⟩⟩
end Go.Proofs.Ytabipfomcldkiaa

namespace Go.Proofs.Ytabipfomcldkiaa
open Go.RowKit

set_option maxRecDepth 100000 in
set_option maxHeartbeats 2000000 in
theorem specFrom_any (lo hi : Nat) (sv cv : Value) (t : Ty) (q : Int) (w : World) (hv : TyAt w lo hi sv cv t) (hB : hi ≤ w.heap.size) (hbk : t.bulk ≤ 1048576) :
    Calls Try.prog 17 #[.agg #[sv, cv], .int .i64 q] w fun e w' => ∃ v, e = .returned v ∧ Below w.heap.size w w' ∧ w'.ownsRow w.heap.size 3 1 v (cFrom t q).length ((cFrom t q).map (Value.int .i64)) := by
  obtain ⟨A, cap, rfl, hl1, hm1, _⟩ := hv.1.form
  obtain ⟨B, bap, rfl, hl2, hm2, hc1⟩ := hv.2.form
  unfold maxLen at hm2
  obtain ⟨i0, hi0, hz0, hz1, hz2⟩ := info_parts Try.infoInt
  have hn : t.cos.length ≤ 1048576 := by unfold Ty.bulk at hbk; omega
  have Hv := Lib.hid hv
  have Hc1 := Lib.hid hc1
  clear hv hc1
  have h3 : Below (w.heap.size + 1) (w.alloc (.cells #[.slice A t.sizes.length cap, .slice B t.cos.length bap] 26)) (w.alloc (.cells #[.slice A t.sizes.length cap, .slice B t.cos.length bap] 26)) := Below.refl _ _
  have H3 := Lib.hid h3
  clear h3
  go_enter Try.func17, Try.ntmps17
  go_wp2
  go_loopw [5, 12] (fun l i wr => ∃ j : Nat, j ≤ t.cos.length ∧ i = .int .i64 j ∧ Hid (Below (w.heap.size + 1) (w.alloc (.cells #[.slice A t.sizes.length cap, .slice B t.cos.length bap] 26)) wr) ∧ Hid (wr.ownsRow (w.heap.size + 1) 3 1 l (accF t q j).length ((accF t q j).map (Value.int .i64)))) (fun _ i _ => t.cos.length - (intOf i).toNat)
  case atStart =>
    refine ⟨0, Nat.zero_le _, rfl, H3.out.alloc (by simp) _, ?_⟩
    have e : accF t q 0 = [] := by unfold accF; split <;> rfl
    show World.ownsRow _ _ _ _ _ _ _
    rw [e]
    have := World.ownsRow_lit (base := w.heap.size + 1) (e := 3) (size := 1) (w.alloc (.cells #[.slice A t.sizes.length cap, .slice B t.cos.length bap] 26)) #[] 0 (by simp) (by unfold maxLen; omega) rfl
    simpa using this
  case round =>
    obtain ⟨j, hj, rfl, hb, hown⟩ := hrel
    by_cases hlt : j < t.cos.length
    · obtain ⟨q0, q1, hlr, hb0⟩ := box2 hb.out
      obtain ⟨b, off, A2, cap2, rfl, hlo, hhi, c0, c1, c2, h5, h6, hs, hd, hz2'⟩ := (Hc1.out.below hb0 hB).at_ hlt
      have hle := accF_le t q j
      have Hb0 := Lib.hid hb0
      clear hz2' hb0
      go_wp2_with fail
      have hbc : Below wr.heap.size wr (wr.alloc (.cells #[.int .i64 t.cos[j].src, .int .i64 t.cos[j].dst, .slice A2 t.cos[j].map.length cap2] 32)) := (Below.refl _ _).alloc (Nat.le_refl _) _
      refine (specValid_any lo hi _ _ t _ (Hv.out.below (Hb0.out.trans (hbc.mono (by omega))) hB) (by simp; omega)).mono ?_
      rintro e w1 ⟨rfl, hb1⟩
      have d0 : w1.cell? ⟨wr.heap.size, 0, none⟩ = some (.int .i64 t.cos[j].src) := by
        rw [hb1.cell (p := ⟨wr.heap.size, 0, none⟩) (by simp)]
        simp [go_sem]
      have hown1 := ownsRow_below (hown.out.alloc (.cells #[.int .i64 t.cos[j].src, .int .i64 t.cos[j].dst, .slice A2 t.cos[j].map.length cap2] 32)) hb1 (Nat.le_refl _)
      have hbx := (hb.out.alloc (by omega) _).trans (hb1.mono (B' := w.heap.size + 1) (by simp; omega))
      have Hown1 := Lib.hid hown1
      have Hbx := Lib.hid hbx
      have hsz1 : w.heap.size + 1 ≤ w1.heap.size := by have := hb1.size; simp at this; omega
      clear hown1 hbx hb1 hbc
      by_cases hok : tyOk t = true
      · have eacc : ∀ i, accF t q i = cfr t.cos q i := fun i => by unfold accF; rw [if_pos hok]
        have Eacc := Lib.hid eacc
        clear eacc
        rw [hok]
        clear hok
        by_cases hq : t.cos[j].src = q
        · have hh := Lib.hid (cfr_hit hlt hq)
          have htest : (t.cos[j].src == q) = true := by simpa using hq
          clear hq
          go_wp2_with (at_builtin; refine wpList_append_own _ rfl (.tmp 25) (.tmp 27) 23 rfl (w.heap.size + 1) 3 i0 (.int .i64 0) 1 8 Try.underlying23 hi0 hz0 hz1 hz2 rfl (by decide) _ _ _ rfl (Hown1.out.alloc _) ⟨w1.heap.size, 0, none⟩ 1 1 [.int .i64 j] rfl rfl ?c1 ?c2 ?c3 ?c4 ?c5 ?_)
          case c1 =>
            intro i u hi
            match i, hi with
            | 0, hi => simp at hi; subst hi; simp [Addr.add]
          case c2 => intro u hu; simp at hu; subst hu; rfl
          case c3 => unfold maxLen; omega
          case c4 => omega
          case c5 => simp; omega
          intro v' w2 hown2 hgrow _
          have hb2 := (Hbx.out.alloc (by omega) _).grown hgrow (by simp; omega) (fun k hk => by
            obtain ⟨_, ⟨e, _⟩ | ⟨g, cap3, cur, e, hg, _⟩⟩ := hown.out
            · rw [e] at hk; simp [Value.ownBlock] at hk
            · rw [e] at hk; simp [Value.ownBlock] at hk; omega)
          have Hb2 := Lib.hid hb2
          have Hown2 := Lib.hid hown2
          clear hown2 hgrow hb2
          go_wp2
          go_roundw
          case rel => exact ⟨j + 1, by omega, by go_num, Hb2.out, ownsRow_cast Hown2.out (by rw [Eacc.out, Eacc.out, hh.out]; simp) (by rw [Eacc.out, Eacc.out, hh.out]; simp)⟩
          case measure => simp [intOf]; omega
        · have hh := Lib.hid (cfr_miss hlt hq)
          have htest : (t.cos[j].src == q) = false := by simpa using hq
          clear hq
          go_wp2
          go_roundw
          case rel => exact ⟨j + 1, by omega, by go_num, Hbx.out, ownsRow_cast Hown1.out (by rw [Eacc.out, Eacc.out, hh.out]) (by rw [Eacc.out, Eacc.out, hh.out])⟩
          case measure => simp [intOf]; omega
      · have eacc : ∀ i, accF t q i = [] := fun i => by unfold accF; rw [if_neg hok]
        have hokf : tyOk t = false := by simpa using hok
        have Eacc := Lib.hid eacc
        clear eacc
        rw [hokf]
        clear hok
        go_wp2
        go_roundw
        case rel => exact ⟨j + 1, by omega, by go_num, Hbx.out, ownsRow_cast Hown1.out (by rw [Eacc.out, Eacc.out]) (by rw [Eacc.out, Eacc.out])⟩
        case measure => simp [intOf]; omega
    · obtain rfl : j = t.cos.length := by omega
      go_wp2
      go_ret
      exact ⟨_, rfl, (box2 hb.out).2.2.2, ownsRow_base hown.out (by omega)⟩
end Go.Proofs.Ytabipfomcldkiaa

namespace Go.Proofs.Ytabipfomcldkiaa
open Go.RowKit

theorem disable (w : World) : (callFunc 104 #[]).run Try.prog w = .ok (.value (.tuple #[])) w := run_call_mark0 Try.func104 (by kernel_rfl) (by kernel_rfl) (by kernel_rfl) .disable (by kernel_rfl) w
theorem enable (w : World) : (callFunc 106 #[]).run Try.prog w = .ok (.value (.tuple #[])) w := run_call_mark0 Try.func106 (by kernel_rfl) (by kernel_rfl) (by kernel_rfl) .enable (by kernel_rfl) w
theorem acquire (a : Addr) (w : World) : (callFunc 107 #[.pointer (some a)]).run Try.prog w = .ok (.value (.tuple #[])) w := run_call_marked Try.func107 (by kernel_rfl) (by kernel_rfl) (by kernel_rfl) .acquire (by kernel_rfl) a w
theorem releaseMerge (a : Addr) (w : World) : (callFunc 109 #[.pointer (some a)]).run Try.prog w = .ok (.value (.tuple #[])) w := run_call_marked Try.func109 (by kernel_rfl) (by kernel_rfl) (by kernel_rfl) .releaseMerge (by kernel_rfl) a w

set_option maxRecDepth 100000 in
set_option maxHeartbeats 800000 in
/-- The flag is stored, as a deferred call. -/
theorem store_deferred (a : Addr) (x : Value) (u : FrameMode) (w : World) (hc : w.cell? a = some x) (hz : w.frozen? a = false) :
    CallsD Try.prog 99 #[.pointer (some a), .bool true] u w fun e u' w' => u' = u ∧ (e = .returned (.tuple #[]) ∧ w' = w.drew.setCell a (.int .u32 1)) := by
  have hc' : w.drew.cell? a = some x := by go_simp
  have hz' : w.drew.frozen? a = false := by go_simp
  have hst := run_call_store (P := Try.prog) Try.func102 (by kernel_rfl) (by kernel_rfl) (by kernel_rfl) (by kernel_rfl) (k := .u32) (y := 1) hc' hz'
  go_enter_d Try.func99, Try.ntmps99
  go_wp2
  go_region_calls
  all_goals (go_end0; exact ⟨rfl, rfl⟩)

set_option maxRecDepth 100000 in
set_option maxHeartbeats 800000 in
/-- The lock is let go, as a deferred call. -/
theorem unlock_deferred (a : Addr) (u : FrameMode) (w : World) (hc : w.cell? a = some (.int .i32 1)) (hz : w.frozen? a = false) :
    CallsD Try.prog 98 #[.pointer (some a)] u w fun e u' w' => u' = u ∧ (e = .returned (.tuple #[]) ∧ w' = w.setCell a (.int .i32 0)) := by
  have hd := disable
  have he := enable
  have hr := releaseMerge
  have hadd := run_call_add (P := Try.prog) Try.func110 (by kernel_rfl) (by kernel_rfl) (by kernel_rfl) .i32 (by kernel_rfl) (y := -1) (s := 0) hc hz (by simp [go_sem]; rfl)
  have hcv := run_convert_to_unsafe (P := Try.prog) (src := 129) (dst := 133) Try.underlying129 Try.underlying133 (by kernel_rfl) hc
  go_enter_d Try.func98, Try.ntmps98
  go_wp2
  go_end0
  go_wp2
  all_goals go_end0
  all_goals exact ⟨rfl, rfl⟩

set_option maxRecDepth 100000 in
set_option maxHeartbeats 800000 in
/-- The lock is taken. -/
theorem lock_free (a : Addr) (w : World) (hc : w.cell? a = some (.int .i32 0)) (hz : w.frozen? a = false) :
    Calls Try.prog 97 #[.pointer (some a)] w fun e w' => e = .returned (.tuple #[]) ∧ w' = w.setCell a (.int .i32 1) := by
  have hd := disable
  have he := enable
  have ha := acquire
  have hcas := run_call_cas_hit (P := Try.prog) Try.func105 (by kernel_rfl) (by kernel_rfl) (by kernel_rfl) .i32 (by kernel_rfl) (y := 1) hc hz
  have hc' : (w.setCell a (.int .i32 1)).cell? a = some (.int .i32 1) := World.cell?_setCell_same w a _ hc
  have hcv := run_convert_to_unsafe (P := Try.prog) (src := 129) (dst := 133) Try.underlying129 Try.underlying133 (by kernel_rfl) hc'
  go_enter Try.func97, Try.ntmps97
  go_wp2
  first | go_end0 | (simp only [Exit.inBlock, Exit.then]; refine bodyPost_ret (results_none rfl _ _ _) rfl ?_) | refine bodyPost_ret (results_none rfl _ _ _) rfl ?_
  go_wp2
  all_goals go_end0
  all_goals exact ⟨rfl, rfl⟩
end Go.Proofs.Ytabipfomcldkiaa

namespace Go.Proofs.Ytabipfomcldkiaa
open Go.RowKit

/-- What the table holds. -/
def tabOf (zs : List Int) : List Value := zs.map (Value.int .i64) ++ List.replicate (4 - zs.length) (.int .i64 (-1))

set_option maxRecDepth 100000 in
set_option maxHeartbeats 2000000 in
theorem fill_any (lo hi g : Nat) (a b y3 y4 y5 z0 z1 z2 z3 : Value) (A : Option Addr) (cap : Nat) (zs : List Int) (w : World) (hr : Row w g 106 [a, b, .slice A zs.length cap, y3, y4, y5, z0, z1, z2, z3])
    (hz : IntsAt w lo hi (.slice A zs.length cap) zs) (hB : hi ≤ g) (hn : zs.length ≤ 4) (hpos : 0 < zs.length) :
    Calls Try.prog 83 #[.pointer (some ⟨g, 0, none⟩)] w fun e w' => e = .returned (.tuple #[]) ∧ Kept (· ≠ g) w w' ∧ Row w' g 106 ([a, b, .slice A zs.length cap, y3, y4, y5] ++ tabOf zs) := by
  have c2 : w.cell? ⟨g, 2, none⟩ = some (.slice A zs.length cap) := hr.cell 2
  have c6 : w.cell? ⟨g, 6, none⟩ = some z0 := hr.cell 6
  have c7 : w.cell? ⟨g, 7, none⟩ = some z1 := hr.cell 7
  have c8 : w.cell? ⟨g, 8, none⟩ = some z2 := hr.cell 8
  have c9 : w.cell? ⟨g, 9, none⟩ = some z3 := hr.cell 9
  have f6 := hr.frozen 6
  have f7 := hr.frozen 7
  have f8 := hr.frozen 8
  have f9 := hr.frozen 9
  have Hr := Lib.hid hr
  have Hz := Lib.hid hz
  clear hr hz
  go_enter Try.func83, Try.ntmps83
  go_wp2
  refine wp_loop_rounds 5 ?_
  rw [rounds_succ]; go_wp2
  rw [rounds_succ]; go_wp2
  rw [rounds_succ]; go_wp2
  rw [rounds_succ]; go_wp2
  rw [rounds_succ]; go_wp2
  obtain ⟨W, hW⟩ : ∃ W : World, W = ((((w.setCell ⟨g, 6, none⟩ (.int .i64 (-1))).setCell ⟨g, 7, none⟩ (.int .i64 (-1))).setCell ⟨g, 8, none⟩ (.int .i64 (-1))).setCell ⟨g, 9, none⟩ (.int .i64 (-1))) := ⟨_, rfl⟩
  have hk : Kept (· ≠ g) w W := by
    rw [hW]
    exact ((((Kept.refl _ w).setCell (fun h => h rfl) _).setCell (fun h => h rfl) _).setCell (fun h => h rfl) _).setCell (fun h => h rfl) _
  have hrW : Row W g 106 [a, b, .slice A zs.length cap, y3, y4, y5, .int .i64 (-1), .int .i64 (-1), .int .i64 (-1), .int .i64 (-1)] := by
    rw [hW]
    exact (((Hr.out.set_ 6 (.int .i64 (-1))).set_ 7 (.int .i64 (-1))).set_ 8 (.int .i64 (-1))).set_ 9 (.int .i64 (-1))
  rw [← hW]
  clear hW
  have hzW : IntsAt W lo hi (.slice A zs.length cap) zs := Hz.out.keep fun k _ hkk => hk.block k (by have := Hr.out.lt; omega) (by omega)
  have c2 : W.cell? ⟨g, 2, none⟩ = some (.slice A zs.length cap) := hrW.cell 2
  obtain ⟨A2, cap2, e, _, _, _, hcells⟩ := hzW
  injection e with e1 e2 e3
  subst e1 e3
  obtain ⟨b3, off3, rfl, _, _, hc⟩ := hcells hpos
  have hcp := run_copy_row (P := Try.prog) W.drew 23 23 3 3 g 6 4 4 ⟨b3, off3, none⟩ zs.length cap [a, b, Value.slice (some ⟨b3, off3, none⟩) zs.length cap, y3, y4, y5, .int .i64 (-1), .int .i64 (-1), .int .i64 (-1), .int .i64 (-1)].toArray 106 (zs.map (Value.int .i64))
    Try.underlying23 (by kernel_rfl) hrW (by rw [List.length_map]; exact (Nat.min_eq_left hn).symm) (by
      intro j v hj
      have hjl : j < zs.length := by
        have := (List.getElem?_eq_some_iff.1 hj).1
        simpa using this
      rw [Go.WideShapes.add_plain]
      have := hc j hjl
      rw [List.getElem?_map, List.getElem?_eq_getElem hjl] at hj
      rw [List.getD_eq_getElem?_getD, List.getElem?_eq_getElem hjl] at this
      simp only [Option.map_some, Option.some.injEq] at hj
      subst hj
      exact this) (by simp; omega) (by intro v hv; obtain ⟨z, _, rfl⟩ := List.mem_map.1 hv; rfl)
  have hdrop : [a, b, Value.slice (some ⟨b3, off3, none⟩) zs.length cap, y3, y4, y5, .int .i64 (-1), .int .i64 (-1), .int .i64 (-1), .int .i64 (-1)].drop (6 + zs.length) = List.replicate (4 - zs.length) (.int .i64 (-1)) := by
    have h4 : zs.length = 1 ∨ zs.length = 2 ∨ zs.length = 3 ∨ zs.length = 4 := by omega
    rcases h4 with e | e | e | e <;> simp [e, List.replicate]
  rw [List.length_map] at hcp
  have hlist : ([a, b, Value.slice (some ⟨b3, off3, none⟩) zs.length cap, y3, y4, y5, .int .i64 (-1), .int .i64 (-1), .int .i64 (-1), .int .i64 (-1)].toArray.toList.take 6 ++ zs.map (Value.int .i64) ++ [a, b, Value.slice (some ⟨b3, off3, none⟩) zs.length cap, y3, y4, y5, .int .i64 (-1), .int .i64 (-1), .int .i64 (-1), .int .i64 (-1)].toArray.toList.drop (6 + zs.length)) = [a, b, Value.slice (some ⟨b3, off3, none⟩) zs.length cap, y3, y4, y5] ++ tabOf zs := by
    rw [hdrop]
    unfold tabOf
    simp
  rw [hlist] at hcp
  have hnew := setRow_heap W.drew g _ ([a, b, Value.slice (some ⟨b3, off3, none⟩) zs.length cap, y3, y4, y5] ++ tabOf zs).toArray _ _ hrW
  generalize hWn : W.drew.setRow g ([a, b, Value.slice (some ⟨b3, off3, none⟩) zs.length cap, y3, y4, y5] ++ tabOf zs).toArray = Wn at hcp hnew
  have hkn : Kept (· ≠ g) w Wn := by
    rw [← hWn]
    exact ⟨hk.os, hk.tape, hk.output, by rw [size_setRow]; exact hk.size, fun k hkk hS => (setRow_other _ g k _ hS).trans (hk.block k hkk hS)⟩
  have Hkn := Lib.hid hkn
  have Hnew := Lib.hid hnew
  clear hk hrW hc hcells hkn hnew hWn hdrop hlist
  go_still_tail 9, (by kernel_rfl)
  change wpList _ _ _ _ _ W.drew
  go_wp2
  go_end0
  exact ⟨rfl, Hkn.out, Hnew.out⟩
end Go.Proofs.Ytabipfomcldkiaa

namespace Go.Proofs.Ytabipfomcldkiaa
open Go.RowKit

set_option maxRecDepth 100000 in
set_option maxHeartbeats 2000000 in
theorem slow_any (lo hi g : Nat) (a b y5 z0 z1 z2 z3 : Value) (A : Option Addr) (cap : Nat) (zs : List Int) (w : World) (hr : Row w g 106 [a, b, .slice A zs.length cap, .int .u32 0, .int .i32 0, y5, z0, z1, z2, z3])
    (hz : IntsAt w lo hi (.slice A zs.length cap) zs) (hB : hi ≤ g) (hn : zs.length ≤ 4) (hpos : 0 < zs.length) :
    Calls Try.prog 94 #[.pointer (some ⟨g, 3, none⟩), .func (.func 83) #[.pointer (some ⟨g, 0, none⟩)] #[]] w fun e w' => e = .returned (.tuple #[]) ∧ Kept (· ≠ g) w w' ∧
      Row w' g 106 ([a, b, .slice A zs.length cap, .int .u32 1, .int .i32 0, y5] ++ tabOf zs) := by
  have hr1 : Row (w.setCell ⟨g, 4, none⟩ (.int .i32 1)) g 106 [a, b, .slice A zs.length cap, .int .u32 0, .int .i32 1, y5, z0, z1, z2, z3] := hr.set_ 4 (.int .i32 1)
  have hk1 : Kept (· ≠ g) w (w.setCell ⟨g, 4, none⟩ (.int .i32 1)) := (Kept.refl _ w).setCell (fun h => h rfl) _
  have hz1 : IntsAt (w.setCell ⟨g, 4, none⟩ (.int .i32 1)) lo hi (.slice A zs.length cap) zs := hz.keep fun k _ hkk => hk1.block k (by have := hr.lt; omega) (by omega)
  have hl := run_call_load (P := Try.prog) Try.func96 (by kernel_rfl) (by kernel_rfl) (by kernel_rfl) .u32 (by kernel_rfl) (w := w.setCell ⟨g, 4, none⟩ (.int .i32 1)) (a := ⟨g, 3, none⟩) (x := 0) (hr1.cell 3)
  have hnot : ∀ (x : Bool) (w : World), (Op.unary .not (.bool x)).run Try.prog w = .ok (.bool (!x)) w := fun _ _ => rfl
  have c4 : w.cell? ⟨g, 4, none⟩ = some (.int .i32 0) := hr.cell 4
  have f4 := hr.frozen 4
  have Hr1 := Lib.hid hr1
  have Hk1 := Lib.hid hk1
  have Hz1 := Lib.hid hz1
  clear hr1 hk1 hz1 hr hz
  go_enter_defers Try.func94, Try.ntmps94
  go_wp2_with (first
    | (go_at_call 97; refine (lock_free ⟨g, 4, none⟩ _ c4 f4).mono ?_; rintro e w' ⟨rfl, rfl⟩)
    | (go_at_call 93; go_in)
    | (go_at_call 83; refine (fill_any lo hi g a b _ _ _ z0 z1 z2 z3 A cap zs _ Hr1.out Hz1.out hB hn hpos).mono ?_; rintro e w2 ⟨rfl, hk2, hr2⟩))
  have hk02 := Hk1.out.trans hk2
  -- the door: two deferred calls, the last laid first
  refine leaves_cons (f := 99) (args := #[.pointer (some ⟨g, 3, none⟩), .bool true]) (by simp) (by simp [go_sem]) ?_
  refine (store_deferred ⟨g, 3, none⟩ (.int .u32 0) .returning _ (hr2.cell 3) (hr2.frozen 3)).mono ?_
  rintro e u' w'' ⟨rfl, rfl, rfl⟩
  have hr3 : Row (w2.drew.setCell ⟨g, 3, none⟩ (.int .u32 1)) g 106 ([a, b, .slice A zs.length cap, .int .u32 1, .int .i32 1, y5] ++ tabOf zs) := (Row.drew hr2).set_ 3 (.int .u32 1)
  have hk3 := (hk02.drew).setCell (p := ⟨g, 3, none⟩) (fun h => h rfl) (.int .u32 1)
  refine leaves_cons (f := 98) (args := #[.pointer (some ⟨g, 4, none⟩)]) (by simp [settle]) (by simp [go_sem]) ?_
  refine (unlock_deferred ⟨g, 4, none⟩ _ _ (hr3.cell 4) (hr3.frozen 4)).mono ?_
  rintro e u' w'' ⟨rfl, rfl, rfl⟩
  have hr4 : Row ((w2.drew.setCell ⟨g, 3, none⟩ (.int .u32 1)).setCell ⟨g, 4, none⟩ (.int .i32 0)) g 106 ([a, b, .slice A zs.length cap, .int .u32 1, .int .i32 0, y5] ++ tabOf zs) := hr3.set_ 4 (.int .i32 0)
  have hk4 := hk3.setCell (p := ⟨g, 4, none⟩) (fun h => h rfl) (.int .i32 0)
  generalize (w2.drew.setCell ⟨g, 3, none⟩ (.int .u32 1)).setCell ⟨g, 4, none⟩ (.int .i32 0) = w4 at hr4 hk4 ⊢
  exact ⟨.tuple #[], by simp [results, Try.results94], rfl, hk4, hr4⟩

set_option maxRecDepth 100000 in
set_option maxHeartbeats 2000000 in
theorem do_first (lo hi g : Nat) (a b y5 z0 z1 z2 z3 : Value) (A : Option Addr) (cap : Nat) (zs : List Int) (w : World) (hr : Row w g 106 [a, b, .slice A zs.length cap, .int .u32 0, .int .i32 0, y5, z0, z1, z2, z3])
    (hz : IntsAt w lo hi (.slice A zs.length cap) zs) (hB : hi ≤ g) (hn : zs.length ≤ 4) (hpos : 0 < zs.length) :
    Calls Try.prog 82 #[.pointer (some ⟨g, 3, none⟩), .func (.func 83) #[.pointer (some ⟨g, 0, none⟩)] #[]] w fun e w' => e = .returned (.tuple #[]) ∧ Kept (· ≠ g) w w' ∧
      Row w' g 106 ([a, b, .slice A zs.length cap, .int .u32 1, .int .i32 0, y5] ++ tabOf zs) := by
  have hl := run_call_load (P := Try.prog) Try.func96 (by kernel_rfl) (by kernel_rfl) (by kernel_rfl) .u32 (by kernel_rfl) (w := w) (a := ⟨g, 3, none⟩) (x := 0) (hr.cell 3)
  have hnot : ∀ (x : Bool) (w : World), (Op.unary .not (.bool x)).run Try.prog w = .ok (.bool (!x)) w := fun _ _ => rfl
  have Hr := Lib.hid hr
  have Hz := Lib.hid hz
  clear hr hz
  go_enter Try.func82, Try.ntmps82
  go_wp2_with (first
    | (go_at_call 94; refine (slow_any lo hi g a b y5 z0 z1 z2 z3 A cap zs _ Hr.out Hz.out hB hn hpos).mono ?_; rintro e w' ⟨rfl, hk, hr2⟩)
    | (go_at_call 93; go_in))
  go_end0
  exact ⟨rfl, hk, hr2⟩

set_option maxRecDepth 100000 in
set_option maxHeartbeats 1000000 in
/-- Done already: the function is not called. -/
theorem do_done (a : Addr) (fv : Value) (w : World) (h0 : w.cell? a = some (.int .u32 1)) :
    Calls Try.prog 82 #[.pointer (some a), fv] w fun e w' => e = .returned (.tuple #[]) ∧ w = w' := by
  have hl := run_call_load (P := Try.prog) Try.func96 (by kernel_rfl) (by kernel_rfl) (by kernel_rfl) .u32 (by kernel_rfl) h0
  have hnot : ∀ (x : Bool) (w : World), (Op.unary .not (.bool x)).run Try.prog w = .ok (.bool (!x)) w := fun _ _ => rfl
  go_enter Try.func82, Try.ntmps82
  go_wp2_with (go_at_call 93; go_in)
  go_end0
  exact ⟨rfl, rfl⟩

/-- What the table gives for a value. -/
def lookOf (zs : List Int) (v : Int) : Int := if 0 ≤ v ∧ v < zs.length then zs.getD v.toNat 0 else -1
theorem tabOf_get (zs : List Int) (hn : zs.length ≤ 4) (v : Int) (h0 : 0 ≤ v) (h4 : v < 4) : (tabOf zs)[v.toNat]? = some (.int .i64 (lookOf zs v)) := by
  unfold tabOf lookOf
  by_cases h : v < zs.length
  · rw [List.getElem?_append_left (by simp; omega), List.getElem?_map, List.getElem?_eq_getElem (by omega), if_pos ⟨h0, h⟩, List.getD_eq_getElem?_getD, List.getElem?_eq_getElem (by omega)]
    rfl
  · rw [List.getElem?_append_right (by simp; omega), if_neg (fun hh => h hh.2), List.length_map, List.getElem?_replicate, if_pos (by omega)]
theorem lookOf_out (zs : List Int) (hn : zs.length ≤ 4) (v : Int) (h : ¬ (0 ≤ v ∧ v < 4)) : lookOf zs v = -1 := by
  unfold lookOf
  rw [if_neg (fun hh => h ⟨hh.1, by omega⟩)]

set_option maxRecDepth 100000 in
set_option maxHeartbeats 2000000 in
/-- The first look. -/
theorem of_first (lo hi g : Nat) (a b y5 z0 z1 z2 z3 : Value) (A : Option Addr) (cap : Nat) (zs : List Int) (v : Int) (w : World) (hr : Row w g 106 [a, b, .slice A zs.length cap, .int .u32 0, .int .i32 0, y5, z0, z1, z2, z3])
    (hz : IntsAt w lo hi (.slice A zs.length cap) zs) (hB : hi ≤ g) (hn : zs.length ≤ 4) (hpos : 0 < zs.length) :
    Calls Try.prog 47 #[.pointer (some ⟨g, 0, none⟩), .int .i64 v] w fun e w' => e = .returned (.int .i64 (lookOf zs v)) ∧ Kept (· ≠ g) w w' ∧
      Row w' g 106 ([a, b, .slice A zs.length cap, .int .u32 1, .int .i32 0, y5] ++ tabOf zs) := by
  have hmf : ∀ (fn : Fn) (first cap : Array Value) (w : World), (Instr.makeFunc fn first cap).run Try.prog w = .ok (.func fn first cap) w := fun _ _ _ _ => rfl
  have c0 : w.cell? ⟨g, 0, none⟩ = some a := hr.cell 0
  have Hr := Lib.hid hr
  have Hz := Lib.hid hz
  clear hr hz
  go_enter Try.func47, Try.ntmps47
  go_wp2_with fail
  refine (do_first lo hi g a b y5 z0 z1 z2 z3 A cap zs _ Hr.out Hz.out hB hn hpos).mono ?_
  rintro e w1 ⟨rfl, hk, hr2⟩
  have Hk := Lib.hid hk
  have Hr2 := Lib.hid hr2
  by_cases hv : 0 ≤ v ∧ v < 4
  · have hix := ixB_yes hv.1 hv.2
    have hcell : w1.cell? ⟨g, 6 + v.toNat, none⟩ = some (.int .i64 (lookOf zs v)) := by
      rw [hr2.cell, List.getElem?_append_right (by simp), List.length_cons, List.length_cons, List.length_cons, List.length_cons, List.length_cons, List.length_cons, List.length_nil]
      rw [show 6 + v.toNat - (0 + 1 + 1 + 1 + 1 + 1 + 1) = v.toNat from by omega]
      exact tabOf_get zs hn v hv.1 hv.2
    have hv0 := hv.1
    have hv1 := hv.2
    clear hk hr2 c0 hv
    go_wp2_with (go_at_call 50; refine (isIndex_any _ _ _).mono ?_; rintro e w' ⟨rfl, rfl⟩; rw [hix])
    go_ret
    exact ⟨rfl, Hk.out, Hr2.out⟩
  · have hix := ixB_no hv
    have hout := Lib.hid (lookOf_out zs hn v hv)
    clear hk hr2 c0 hv
    go_wp2_with (go_at_call 50; refine (isIndex_any _ _ _).mono ?_; rintro e w' ⟨rfl, rfl⟩; rw [hix])
    go_ret
    exact ⟨ret_int hout.out.symm, Hk.out, Hr2.out⟩
end Go.Proofs.Ytabipfomcldkiaa

namespace Go.Proofs.Ytabipfomcldkiaa
open Go.RowKit

/-- A world of a class. -/
structure InC (D : World → Prop) where
  val : World
  inD : D val
/-- A region that draws its order, every operation of which yields one value in every world of a class and leaves a world of the class: one walk serves every order. -/
theorem wp_region_class {P : Program} (D : World → Prop) {id : Nat} {Q : Exit → Act → World → Prop} {a : Act} {w : World} {l : List Oper} (hm : P.follows .mixedOrders = true) (hB : Region.lexB .any l.toArray = true) (hD : D w.drew)
    (h : wpQuiet P l.toArray (fun w' => ∃ x : InC D, w' = x.val) (fun a' => ∀ w', (∃ x : InC D, w' = x.val) → Q .normal a' w') l a) : (Code.region id l.toArray true).wp P Q a w :=
  wp_region_quiet (C := fun w' => ∃ x : InC D, w' = x.val) hm hB ⟨⟨_, hD⟩, rfl⟩ (by simpa using h)

theorem lookOf_in {zs : List Int} {v : Int} (h0 : 0 ≤ v) (h : v.toNat < zs.length) : lookOf zs v = zs[v.toNat] := by
  unfold lookOf
  rw [if_pos ⟨h0, by omega⟩, List.getD_eq_getElem?_getD, List.getElem?_eq_getElem h]; rfl

/-- Are the types valid, and is there such a coercion? -/
def hasC (t : Ty) (i : Int) : Bool := tyOk t && ixB i t.cos.length
theorem hasC_of {t : Ty} {i : Int} (h : hasC t i = true) : tyOk t = true ∧ 0 ≤ i ∧ i < t.cos.length ∧ i.toNat < t.cos.length := by
  simp only [hasC, Bool.and_eq_true, ixB, decide_eq_true_eq] at h
  exact ⟨h.1, h.2.1, h.2.2, by omega⟩
theorem hasC_co {t : Ty} {i : Int} (h : hasC t i = true) (hi : i.toNat < t.cos.length) : coOk t.sizes t.cos[i.toNat] = true := by
  have h1 := (hasC_of h).1
  simp only [tyOk, Bool.and_eq_true, List.all_eq_true] at h1
  exact h1.2 _ (List.getElem_mem hi)
/-- What a coercion makes of a value. -/
def applyV (t : Ty) (i v : Int) : Int := if hasC t i = true then lookOf (t.cos.getD i.toNat default).map v else -1
theorem applyV_no {t : Ty} {i v : Int} (h : hasC t i = false) : applyV t i v = -1 := by unfold applyV; rw [h]; rfl
theorem applyV_yes {t : Ty} {i v : Int} (h : hasC t i = true) (hi : i.toNat < t.cos.length) : applyV t i v = lookOf t.cos[i.toNat].map v := by
  unfold applyV; rw [if_pos h, List.getD_eq_getElem?_getD, List.getElem?_eq_getElem hi]; rfl

set_option maxRecDepth 100000 in
set_option maxHeartbeats 1000000 in
theorem images_any (a b c : Value) (w : World) :
    Calls Try.prog 46 #[.agg #[a, b, c]] w fun e w' => e = .returned (.pointer (some ⟨w.heap.size + 1, 0, none⟩)) ∧
      (w.alloc (.cells #[a, b, c] 32)).alloc (.cells [a, b, c, .int .u32 0, .int .i32 0, .int .u32 0, .int .i64 0, .int .i64 0, .int .i64 0, .int .i64 0].toArray 106) = w' := by
  go_enter Try.func46, Try.ntmps46
  go_wp2
  go_ret
  exact ⟨rfl, rfl⟩

set_option maxRecDepth 100000 in
set_option maxHeartbeats 1000000 in
theorem hasCoercion_any (lo hi : Nat) (sv cv : Value) (t : Ty) (i : Int) (w : World) (hv : TyAt w lo hi sv cv t) (hB : hi ≤ w.heap.size) :
    Calls Try.prog 45 #[.agg #[sv, cv], .int .i64 i] w fun e w' => e = .returned (.bool (hasC t i)) ∧ Below w.heap.size w w' := by
  obtain ⟨A, cap, rfl, hl1, hm1, _⟩ := hv.1.form
  obtain ⟨B, bap, rfl, hl2, hm2, _⟩ := hv.2.form
  unfold maxLen at hm2
  have h3 : Below w.heap.size w (w.alloc (.cells #[.slice A t.sizes.length cap, .slice B t.cos.length bap] 26)) := by go_grown
  have hv3 := Lib.hid (hv.below h3 hB)
  clear hv
  go_enter Try.func45, Try.ntmps45
  go_wp2_with fail
  refine (implValid_any lo hi _ _ t _ hv3.out (by simp; omega)).mono ?_
  rintro e w1 ⟨rfl, hb1⟩
  have H1 := Lib.hid (box2 (hb1.mono (by simp)))
  obtain ⟨q0, q1, hl, _⟩ := box2 (hb1.mono (by simp))
  clear hb1
  by_cases hok : tyOk t = true
  · have hfin : Hid (hasC t i = ixB i t.cos.length) := by show hasC t i = _; unfold hasC; rw [hok, Bool.true_and]
    rw [hok]
    go_wp2_with (go_at_call 50; refine (isIndex_any _ _ _).mono ?_; rintro e w' ⟨rfl, rfl⟩)
    go_ret
    exact ⟨ret_bool (by rw [hfin.out]), H1.out.2.2.2⟩
  · have hokf : tyOk t = false := by simpa using hok
    have hfin : Hid (hasC t i = false) := by show hasC t i = _; unfold hasC; rw [hokf, Bool.false_and]
    rw [hokf]
    clear hok
    go_wp2
    go_ret
    exact ⟨ret_bool hfin.out.symm, H1.out.2.2.2⟩

set_option maxRecDepth 100000 in
set_option maxHeartbeats 2000000 in
theorem implApply_any (lo hi : Nat) (sv cv : Value) (t : Ty) (i v : Int) (w : World) (hv : TyAt w lo hi sv cv t) (hB : hi ≤ w.heap.size) :
    Calls Try.prog 10 #[.agg #[sv, cv], .int .i64 i, .int .i64 v] w fun e w' => e = .returned (.int .i64 (applyV t i v)) ∧ Below w.heap.size w w' := by
  obtain ⟨A, cap, rfl, hl1, hm1, _⟩ := hv.1.form
  obtain ⟨B, bap, rfl, hl2, hm2, hc1⟩ := hv.2.form
  have h3 : Below w.heap.size w (w.alloc (.cells #[.slice A t.sizes.length cap, .slice B t.cos.length bap] 26)) := by go_grown
  have hv3 := Lib.hid (hv.below h3 hB)
  have Hc1 := Lib.hid hc1
  clear hv hc1
  go_enter Try.func10, Try.ntmps10
  go_wp2_with fail
  refine (hasCoercion_any lo hi _ _ t i _ hv3.out (by simp; omega)).mono ?_
  rintro e w1 ⟨rfl, hb1⟩
  have H1 := Lib.hid (box2 (hb1.mono (by simp)))
  obtain ⟨q0, q1, hl, _⟩ := box2 (hb1.mono (by simp))
  clear hb1
  by_cases hok : hasC t i = true
  · obtain ⟨hty, hi0, hi1, hlt⟩ := hasC_of hok
    have hfin := Lib.hid (applyV_yes (v := v) hok hlt)
    have hco := coOk_of (hasC_co hok hlt)
    have hsz := sizesOk_of (tyOk_sizes hty)
    obtain ⟨b, off, A2, cap2, rfl, hlo, hhi, c0, c1, c2, h5, h6, hs, hd, hz⟩ := (Hc1.out.below H1.out.2.2.2 hB).at_ hlt
    have hsrc : t.cos[i.toNat].src.toNat < t.sizes.length := by omega
    have hsr := hsz.2.2 _ hsrc
    have hml := hco.2.2.2.1
    rw [List.getD_eq_getElem?_getD, List.getElem?_eq_getElem hsrc] at hml
    simp only [Option.getD_some] at hml
    have hn4 : t.cos[i.toNat].map.length ≤ 4 := by omega
    have hpos : 0 < t.cos[i.toNat].map.length := by omega
    have Hz := Lib.hid hz
    rw [hok]
    clear hml hsr hsz hco hok hty hz
    go_wp2_with fail
    refine (images_any _ _ _ _).mono ?_
    rintro e w2 ⟨rfl, rfl⟩
    have hb2 : Below w1.heap.size w1 ((w1.alloc (.cells #[.int .i64 t.cos[i.toNat].src, .int .i64 t.cos[i.toNat].dst, .slice A2 t.cos[i.toNat].map.length cap2] 32)).alloc (.cells [.int .i64 t.cos[i.toNat].src, .int .i64 t.cos[i.toNat].dst, .slice A2 t.cos[i.toNat].map.length cap2, .int .u32 0, .int .i32 0, .int .u32 0, .int .i64 0, .int .i64 0, .int .i64 0, .int .i64 0].toArray 106)) := by go_grown
    have hr2 := Row.new (w1.alloc (.cells #[.int .i64 t.cos[i.toNat].src, .int .i64 t.cos[i.toNat].dst, .slice A2 t.cos[i.toNat].map.length cap2] 32)) 106 [.int .i64 t.cos[i.toNat].src, .int .i64 t.cos[i.toNat].dst, .slice A2 t.cos[i.toNat].map.length cap2, .int .u32 0, .int .i32 0, .int .u32 0, .int .i64 0, .int .i64 0, .int .i64 0, .int .i64 0]
    rw [World.size_alloc] at hr2
    have hz2 := Hz.out.below hb2 (by omega)
    have Hb2 := Lib.hid hb2
    have Hr2 := Lib.hid hr2
    have Hz2 := Lib.hid hz2
    clear hb2 hr2 hz2
    go_wp2_with fail
    refine (of_first lo hi (w1.heap.size + 1) _ _ _ _ _ _ _ A2 cap2 t.cos[i.toNat].map v _ Hr2.out Hz2.out (by omega) hn4 hpos).mono ?_
    rintro e w3 ⟨rfl, hk3, _⟩
    have hb3 : Below w1.heap.size w1 w3 := Hb2.out.trans (hk3.below (by simp; omega) (fun k hk => by omega))
    have Hb3 := Lib.hid hb3
    clear hk3 hb3
    go_wp2
    go_ret
    exact ⟨ret_int hfin.out.symm, H1.out.2.2.2.trans (Hb3.out.mono (by omega))⟩
  · have hokf : hasC t i = false := by simpa using hok
    have hfin := Lib.hid (applyV_no (v := v) hokf)
    rw [hokf]
    clear hok hokf
    go_wp2
    go_ret
    exact ⟨ret_int hfin.out.symm, H1.out.2.2.2⟩
end Go.Proofs.Ytabipfomcldkiaa

namespace Go.Proofs.Ytabipfomcldkiaa
open Go.ChangeShapes Go.WideShapes Go.ChangeAt Go.RowKit Go.Joins Go.Deep

theorem Try.own : ownKnob Try.prog.godebug = none := by kernel_rfl
theorem Try.laidOut : laidOutB Try.prog = true := by kernel_rfl
theorem Try.cellsInt : Try.prog.cellsOf 3 = 1 := by kernel_rfl
theorem wf_I64 {z : Int} (h : (Lit.int .i64 z).wf = true) : I64 z := by
  simpa [Lit.wf, IntKind.min, IntKind.max, IntKind.signed, IntKind.bits, I64] using h

section
variable {H : Type} {enc : TypeId × Value → H} {W : World} {base : Nat} {held : Bool}

/-- A slice of ints that comes in. -/
theorem open_intsAt {fuel : Nat} {v : Value} {x : DataW H × List MemPlace} (h : DataW.trod enc Try.prog W base (fun _ => true) held fuel 23 [v] = some x) : ∃ zs, IntsAt W 0 W.heap.size v zs := by
  rcases open_ints Try.underlying23 Try.underlying3 Try.cellsInt h with ⟨hcs, _⟩ | ⟨a, len, cap, zs, hcs, _, hl, hm, hz, _, hcell, hwz⟩
  · simp only [List.cons.injEq, and_true] at hcs
    subst hcs
    exact ⟨[], _, _, rfl, Nat.le_refl _, Nat.zero_le _, fun z hz => absurd hz (by simp), fun h => absurd h (by simp)⟩
  · simp only [List.cons.injEq, and_true] at hcs
    subst hcs
    simp only [if_true] at hz
    have e : (zs.take len).length = len := by rw [List.length_take]; omega
    refine ⟨zs.take len, some a, cap, by rw [e], by rw [e]; exact hl, hm, fun z hzm => wf_I64 (hwz z (List.mem_of_mem_take hzm)), fun h0 => ?_⟩
    rw [e] at h0
    obtain ⟨b, off, spot⟩ := a
    have hspot : spot = none := by simpa [Addr.add] using World.cell?_spot (hcell 0 (by omega))
    subst hspot
    refine ⟨b, off, rfl, Nat.zero_le _, World.block_lt_of_cell? W _ (hcell 0 (by omega)), fun k hk => ?_⟩
    rw [e] at hk
    rw [← add_plain, hcell k (by omega), List.getD_eq_getElem?_getD, List.getD_eq_getElem?_getD, List.getElem?_take_of_lt hk]

theorem three_fields {P : Program} {spare : Nat → Bool} {t : TypeId} {f0 f1 f2 : Field} {n : Nat} {x y z : Value} {r : DataW H × List MemPlace} (hs : P.underlying t = some (.struct #[f0, f1, f2])) (hone : oneCellFields P #[f0, f1, f2] = true)
    (h : DataW.trod enc P W base spare held n t [x, y, z] = some r) :
    ∃ (y0 y1 y2 : DataW H × List MemPlace) (m : Nat), DataW.trod enc P W base spare held m f0.type [x] = some y0 ∧ DataW.trod enc P W base spare held m f1.type [y] = some y1 ∧ DataW.trod enc P W base spare held m f2.type [z] = some y2 := by
  obtain ⟨ys, m, _, _, _, hyl, hf⟩ := DataW.trod_struct hs h
  obtain ⟨o0, k0⟩ := hone_of hone 0 f0 rfl
  obtain ⟨o1, k1⟩ := hone_of hone 1 f1 rfl
  obtain ⟨o2, k2⟩ := hone_of hone 2 f2 rfl
  match ys, hyl with
  | [y0, y1, y2], _ =>
    exact ⟨y0, y1, y2, m, by simpa [o0, k0] using hf 0 f0 rfl, by simpa [o1, k1] using hf 1 f1 rfl, by simpa [o2, k2] using hf 2 f2 rfl⟩

end
end Go.Proofs.Ytabipfomcldkiaa

namespace Go.Proofs.Ytabipfomcldkiaa
open Go.ChangeShapes Go.WideShapes Go.ChangeAt Go.RowKit Go.Joins Go.Deep

theorem Try.cellsU8 : Try.prog.cellsOf 5 = 1 := by kernel_rfl
section
variable {H : Type} {enc : TypeId × Value → H} {W : World} {base : Nat} {held : Bool}
theorem open_codeAt {fuel : Nat} {v : Value} {x : DataW H × List MemPlace} (h : DataW.trod enc Try.prog W base (fun _ => true) held fuel 22 [v] = some x) : CodeAt W W.heap.size v := by
  rcases open_ints Try.underlying22 Try.underlying5 Try.cellsU8 h with ⟨hcs, _⟩ | ⟨a, len, cap, zs, hcs, _, hl, hm, hz, _, hcell, hwz⟩
  · simp only [List.cons.injEq, and_true] at hcs
    subst hcs
    exact ⟨none, 0, 0, rfl, Nat.le_refl _, Nat.zero_le _, fun h => absurd h (by omega)⟩
  · simp only [List.cons.injEq, and_true] at hcs
    subst hcs
    simp only [if_true] at hz
    refine ⟨some a, len, cap, rfl, hl, hm, fun h0 => ?_⟩
    obtain ⟨b, off, spot⟩ := a
    have hspot : spot = none := by simpa [Addr.add] using World.cell?_spot (hcell 0 (by omega))
    subst hspot
    have hg := World.block_lt_of_cell? _ _ (hcell 0 (by omega))
    refine ⟨b, off, rfl, hg, fun k hk => ?_⟩
    have h1 := hcell k (by omega)
    have h2 : zs.getD k 0 = zs[k]'(by omega) := by rw [List.getD_eq_getElem?_getD, List.getElem?_eq_getElem (by omega)]; rfl
    rw [h2, Addr.add_lit] at h1
    have h3 := hwz (zs[k]'(by omega)) (List.getElem_mem _)
    have h4 : 0 ≤ zs[k]'(by omega) ∧ zs[k]'(by omega) ≤ 255 := by simpa [Lit.wf, IntKind.min, IntKind.max, IntKind.signed, IntKind.bits] using h3
    refine ⟨(zs[k]'(by omega)).toNat, by omega, ?_⟩
    rw [h1]
    congr 2
    omega
end

end Go.Proofs.Ytabipfomcldkiaa

