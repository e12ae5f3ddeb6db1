/-
  The contracts of AboveOf, the program's and the model's.
-/
import Derived.Test.YtfnfcagdoedilaaCan
namespace Go.Proofs.Ytfnfcagdoedilaa
open Go.RowKit

/-- The numbers below n that pass. -/
def filtL (p : Nat → Bool) (n : Nat) : List Int := ((List.range n).filter p).map fun i : Nat => (i : Int)
theorem filtL_zero (p : Nat → Bool) : filtL p 0 = [] := rfl
theorem filtL_hit {p : Nat → Bool} {n : Nat} (h : p n = true) : filtL p (n + 1) = filtL p n ++ [(n : Int)] := by
  unfold filtL
  rw [List.range_succ, List.filter_append, List.map_append]
  simp [h]
theorem filtL_miss {p : Nat → Bool} {n : Nat} (h : p n = false) : filtL p (n + 1) = filtL p n := by
  unfold filtL
  rw [List.range_succ, List.filter_append, List.map_append]
  simp [h]
theorem filtL_le (p : Nat → Bool) (n : Nat) : (filtL p n).length ≤ n := by
  unfold filtL
  rw [List.length_map]
  have := List.length_filter_le p (List.range n)
  simpa using this
theorem filtL_mem {p : Nat → Bool} {n : Nat} {z : Int} (h : z ∈ filtL p n) : ∃ i : Nat, z = (i : Int) ∧ i < n ∧ p i = true := by
  unfold filtL at h
  obtain ⟨i, hi, rfl⟩ := List.mem_map.1 h
  have h2 := List.mem_filter.1 hi
  exact ⟨i, rfl, List.mem_range.1 h2.1, h2.2⟩
theorem filtL_congr {p q : Nat → Bool} {n : Nat} (h : ∀ i, i < n → p i = q i) : filtL p n = filtL q n := by
  unfold filtL
  rw [List.filter_congr fun i hi => h i (List.mem_range.1 hi)]
theorem filtL_none {p : Nat → Bool} {n : Nat} (h : ∀ i, i < n → p i = false) : filtL p n = [] := by
  rw [filtL_congr (q := fun _ => false) h]
  simp [filtL]
/-- The types above one. -/
def aboveV (t : Ty) (k : Int) : List Int := filtL (fun i => canC t k i) t.sizes.length
theorem aboveV_wf (t : Ty) (k : Int) (hb : t.bulk ≤ 1048576) : ∀ z ∈ aboveV t k, I64 z := by
  intro z hz
  obtain ⟨i, rfl, hi, _⟩ := filtL_mem hz
  unfold Ty.bulk at hb
  unfold I64
  omega
theorem aboveV_le (t : Ty) (k : Int) : (aboveV t k).length ≤ t.sizes.length := filtL_le _ _
theorem aboveV_ok {t : Ty} {k : Int} (h : (tyOk t && ixB k t.sizes.length) = true) : aboveV t k = filtL (fun i => canB t k i) t.sizes.length := by
  unfold aboveV
  refine filtL_congr fun i hi => ?_
  have hx : ixB (i : Int) t.sizes.length = true := ixB_yes (by omega) (by omega)
  unfold canC typesB
  rw [h, hx, Bool.and_self, Bool.true_and]
theorem aboveV_no {t : Ty} {k : Int} (h : (tyOk t && ixB k t.sizes.length) = false) : aboveV t k = [] := by
  refine filtL_none fun i hi => ?_
  unfold canC typesB
  rw [h, Bool.false_and, Bool.false_and]

set_option maxRecDepth 100000 in
set_option maxHeartbeats 2000000 in
theorem specAbove_any (lo hi : Nat) (sv cv : Value) (t : Ty) (q : Int) (w : World) (hv : TyAt w lo hi sv cv t) (hB : hi ≤ w.heap.size) (hbk : t.bulk ≤ 1048576) :
    Calls Try.prog 34 #[.agg #[sv, cv], .int .i64 q] w fun e w' => ∃ v, e = .returned v ∧ Below w.heap.size w w' ∧ w'.ownsRow w.heap.size 3 1 v (aboveV t q).length ((aboveV t q).map (Value.int .i64)) := by
  obtain ⟨A, cap, rfl, hl1, hm1, hi1⟩ := hv.1.form
  obtain ⟨B, bap, rfl, hl2, hm2, hc1⟩ := hv.2.form
  obtain ⟨i0, hi0, hz0, hz1, hz2⟩ := info_parts Try.infoInt
  have hn : t.sizes.length ≤ 1048576 := by unfold Ty.bulk at hbk; omega
  have Hv := Lib.hid hv
  clear hv hi1 hc1
  have h3 : Below (w.heap.size + 1) (w.alloc (.cells #[.slice A t.sizes.length cap, .slice B t.cos.length bap] 26)) (w.alloc (.cells #[.slice A t.sizes.length cap, .slice B t.cos.length bap] 26)) := Below.refl _ _
  have H3 := Lib.hid h3
  clear h3
  go_enter Try.func34, Try.ntmps34
  go_wp2
  go_loopw [5, 11] (fun l i wr => ∃ j : Nat, j ≤ t.sizes.length ∧ i = .int .i64 j ∧ Hid (Below (w.heap.size + 1) (w.alloc (.cells #[.slice A t.sizes.length cap, .slice B t.cos.length bap] 26)) wr) ∧ Hid (wr.ownsRow (w.heap.size + 1) 3 1 l (filtL (fun i => canC t q i) j).length ((filtL (fun i => canC t q i) j).map (Value.int .i64)))) (fun _ i _ => t.sizes.length - (intOf i).toNat)
  case atStart =>
    refine ⟨0, Nat.zero_le _, rfl, H3.out.alloc (by simp) _, ?_⟩
    show World.ownsRow _ _ _ _ _ _ _
    rw [filtL_zero]
    have := World.ownsRow_lit (base := w.heap.size + 1) (e := 3) (size := 1) (w.alloc (.cells #[.slice A t.sizes.length cap, .slice B t.cos.length bap] 26)) #[] 0 (by simp) (by unfold maxLen; omega) rfl
    simpa using this
  case round =>
    obtain ⟨j, hj, rfl, hb, hown⟩ := hrel
    obtain ⟨q0, q1, hlr, hb0⟩ := box2 hb.out
    have Hb0 := Lib.hid hb0
    have hle := filtL_le (fun i => canC t q i) j
    clear hb0
    by_cases hlt : j < t.sizes.length
    · go_wp2_with fail
      refine (specCan_any lo hi _ _ t q j _ (Hv.out.below Hb0.out hB) (by omega)).mono ?_
      rintro e w1 ⟨rfl, hb1⟩
      have hbx := hb.out.trans (hb1.mono (by omega))
      have hown1 := ownsRow_below hown.out hb1 (Nat.le_refl _)
      have Hown1 := Lib.hid hown1
      have Hbx := Lib.hid hbx
      have hsz1 : w.heap.size + 1 ≤ w1.heap.size := by have := hb1.size; omega
      clear hown1 hbx hb1
      by_cases hq : canC t q j = true
      · have hh := Lib.hid (filtL_hit (p := fun i => canC t q i) (n := j) hq)
        rw [hq]
        clear hq
        go_wp2_with (at_builtin; refine wpList_append_own _ rfl (.tmp 18) (.tmp 20) 23 rfl (w.heap.size + 1) 3 i0 (.int .i64 0) 1 8 Try.underlying23 hi0 hz0 hz1 hz2 rfl (by decide) _ _ _ rfl (Hown1.out.alloc _) ⟨w1.heap.size, 0, none⟩ 1 1 [.int .i64 j] rfl rfl ?c1 ?c2 ?c3 ?c4 ?c5 ?_)
        case c1 =>
          intro i u hi
          match i, hi with
          | 0, hi => simp at hi; subst hi; simp [Addr.add]
        case c2 => intro u hu; simp at hu; subst hu; rfl
        case c3 => unfold maxLen; omega
        case c4 => omega
        case c5 => simp; omega
        intro v' w2 hown2 hgrow _
        have hb2 := (Hbx.out.alloc (by omega) _).grown hgrow (by simp; omega) (fun k hk => by
          obtain ⟨_, ⟨e, _⟩ | ⟨g, cap3, cur, e, hg, _⟩⟩ := hown.out
          · rw [e] at hk; simp [Value.ownBlock] at hk
          · rw [e] at hk; simp [Value.ownBlock] at hk; omega)
        have Hb2 := Lib.hid hb2
        have Hown2 := Lib.hid hown2
        clear hown2 hgrow hb2
        go_wp2
        go_roundw
        case rel => exact ⟨j + 1, by omega, by go_num, Hb2.out, ownsRow_cast Hown2.out (by rw [hh.out]; simp) (by rw [hh.out]; simp)⟩
        case measure => simp [intOf]; omega
      · have hqf : canC t q j = false := by simpa using hq
        have hh := Lib.hid (filtL_miss (p := fun i => canC t q i) (n := j) hqf)
        rw [hqf]
        clear hq hqf
        go_wp2
        go_roundw
        case rel => exact ⟨j + 1, by omega, by go_num, Hbx.out, ownsRow_cast Hown1.out (by rw [hh.out]) (by rw [hh.out])⟩
        case measure => simp [intOf]; omega
    · obtain rfl : j = t.sizes.length := by omega
      go_wp2
      go_ret
      exact ⟨_, rfl, Hb0.out, ownsRow_base hown.out (by omega)⟩

set_option maxRecDepth 100000 in
set_option maxHeartbeats 2000000 in
theorem above_any (lo hi g : Nat) (sv cv : Value) (t : Ty) (q : Int) (w : World) (hv : TyAt w lo hi sv cv t) (hB : hi ≤ w.heap.size) (hrow : Row w g 87 [sv, cv]) (hok : (tyOk t && ixB q t.sizes.length) = true) :
    Calls Try.prog 78 #[.pointer (some ⟨g, 0, none⟩), .int .i64 q] w fun e w' => ∃ v, e = .returned v ∧ Below w.heap.size w w' ∧ w'.ownsRow w.heap.size 3 1 v (aboveV t q).length ((aboveV t q).map (Value.int .i64)) := by
  obtain ⟨A, cap, rfl, hl1, hm1, hi1⟩ := hv.1.form
  obtain ⟨B, bap, rfl, hl2, hm2, hc1⟩ := hv.2.form
  obtain ⟨i0, hi0, hz0, hz1, hz2⟩ := info_parts Try.infoInt
  have g0 : w.cell? ⟨g, 0, none⟩ = some (.slice A t.sizes.length cap) := hrow.cell 0
  have hab := Lib.hid (aboveV_ok hok)
  have htb : ∀ j : Nat, j < t.sizes.length → typesB t q j = true := fun j hj => by unfold typesB; rw [hok, Bool.true_and]; exact ixB_yes (by omega) (by omega)
  have hn : t.sizes.length ≤ 5 := by rw [Bool.and_eq_true] at hok; exact typesB_len hok.1
  have Htb := Lib.hid htb
  have Hv := Lib.hid hv
  have Hrow := Lib.hid hrow
  have hgl := hrow.lt
  clear hv hrow hi1 hc1 hok htb
  go_enter Try.func78, Try.ntmps78
  go_wp2
  go_loopw [5, 13] (fun l i wr => ∃ j : Nat, j ≤ t.sizes.length ∧ i = .int .i64 j ∧ Hid (Below w.heap.size w wr) ∧ Hid (wr.ownsRow w.heap.size 3 1 l (filtL (fun i => canB t q i) j).length ((filtL (fun i => canB t q i) j).map (Value.int .i64)))) (fun _ i _ => t.sizes.length - (intOf i).toNat)
  case atStart => exact ⟨0, Nat.zero_le _, rfl, Below.refl _ _, World.ownsRow_nil _ _ _ _⟩
  case round =>
    obtain ⟨j, hj, rfl, hb, hown⟩ := hrel
    have hbs := hb.out.size
    have hle := filtL_le (fun i => canB t q i) j
    by_cases hlt : j < t.sizes.length
    · go_wp2_with fail
      refine (leads_any lo hi g _ _ t q j _ (Hv.out.below hb.out hB) (by omega) (Hrow.out.below hb.out hgl) (Htb.out j hlt)).mono ?_
      rintro e w1 ⟨rfl, hb1⟩
      have hbx := hb.out.trans (hb1.mono hbs)
      have hown1 := ownsRow_below hown.out hb1 (Nat.le_refl _)
      have Hown1 := Lib.hid hown1
      have Hbx := Lib.hid hbx
      have hsz1 : w.heap.size ≤ w1.heap.size := by have := hb1.size; omega
      clear hown1 hbx hb1
      by_cases hq : canB t q j = true
      · have hh := Lib.hid (filtL_hit (p := fun i => canB t q i) (n := j) hq)
        rw [hq]
        clear hq
        go_wp2_with (at_builtin; refine wpList_append_own _ rfl (.tmp 20) (.tmp 22) 23 rfl w.heap.size 3 i0 (.int .i64 0) 1 8 Try.underlying23 hi0 hz0 hz1 hz2 rfl (by decide) _ _ _ rfl (Hown1.out.alloc _) ⟨w1.heap.size, 0, none⟩ 1 1 [.int .i64 j] rfl rfl ?c1 ?c2 ?c3 ?c4 ?c5 ?_)
        case c1 =>
          intro i u hi
          match i, hi with
          | 0, hi => simp at hi; subst hi; simp [Addr.add]
        case c2 => intro u hu; simp at hu; subst hu; rfl
        case c3 => unfold maxLen; omega
        case c4 => omega
        case c5 => simp; omega
        intro v' w2 hown2 hgrow _
        have hb2 := (Hbx.out.alloc (by omega) _).grown hgrow (by simp; omega) (fun k hk => by
          obtain ⟨_, ⟨e, _⟩ | ⟨g, cap3, cur, e, hg, _⟩⟩ := hown.out
          · rw [e] at hk; simp [Value.ownBlock] at hk
          · rw [e] at hk; simp [Value.ownBlock] at hk; omega)
        have Hb2 := Lib.hid hb2
        have Hown2 := Lib.hid hown2
        clear hown2 hgrow hb2
        go_wp2
        go_roundw
        case rel => exact ⟨j + 1, by omega, by go_num, Hb2.out, ownsRow_cast Hown2.out (by rw [hh.out]; simp) (by rw [hh.out]; simp)⟩
        case measure => simp [intOf]; omega
      · have hqf : canB t q j = false := by simpa using hq
        have hh := Lib.hid (filtL_miss (p := fun i => canB t q i) (n := j) hqf)
        rw [hqf]
        clear hq hqf
        go_wp2
        go_roundw
        case rel => exact ⟨j + 1, by omega, by go_num, Hbx.out, ownsRow_cast Hown1.out (by rw [hh.out]) (by rw [hh.out])⟩
        case measure => simp [intOf]; omega
    · obtain rfl : j = t.sizes.length := by omega
      go_wp2
      go_ret
      exact ⟨_, rfl, hb.out, by rw [hab.out]; exact hown.out⟩

set_option maxRecDepth 100000 in
set_option maxHeartbeats 1000000 in
theorem implAbove_any (lo hi : Nat) (sv cv : Value) (t : Ty) (q : Int) (w : World) (hv : TyAt w lo hi sv cv t) (hB : hi ≤ w.heap.size) (hq : I64 q) :
    Calls Try.prog 32 #[.agg #[sv, cv], .int .i64 q] w fun e w' => ∃ v, e = .returned v ∧ Below w.heap.size w w' ∧ w'.ownsRow w.heap.size 3 1 v (aboveV t q).length ((aboveV t q).map (Value.int .i64)) := by
  obtain ⟨A, cap, rfl, hl1, hm1, hi1⟩ := hv.1.form
  obtain ⟨B, bap, rfl, hl2, hm2, hc1⟩ := hv.2.form
  have Hv := Lib.hid hv
  clear hv hi1 hc1
  have h4 : Below w.heap.size w ((w.alloc (.cells #[.slice A t.sizes.length cap, .slice B t.cos.length bap] 26)).alloc (.cells #[.int .i64 q] 3)) := by go_grown
  have hone := ints_one (w.alloc (.cells #[.slice A t.sizes.length cap, .slice B t.cos.length bap] 26)) q hq 3
  rw [World.size_alloc] at hone
  have H4 := Lib.hid h4
  have Hone := Lib.hid hone
  clear h4 hone
  go_enter Try.func32, Try.ntmps32
  go_wp2_with fail
  refine (finderOf_any lo hi _ _ _ _ _ t [q] _ (Hv.out.below H4.out hB) (by simp; omega) Hone.out (by simp only [World.size_alloc]; omega)).mono ?_
  rintro e w1 ⟨p, rfl, hb1, hf1⟩
  rw [findOk_one] at hf1 ⊢
  have H1 := Lib.hid (H4.out.trans (hb1.mono (by simp; omega)))
  have hs1 : w.heap.size ≤ w1.heap.size := H1.out.size
  clear hb1
  by_cases hok : (tyOk t && ixB q t.sizes.length) = true
  · obtain ⟨g, rfl, hg, hrow⟩ := hf1 hok
    have Hrow := Lib.hid hrow
    have Hok := Lib.hid hok
    rw [hok]
    clear hrow hok
    go_wp2_with fail
    refine (above_any lo hi g _ _ t q _ (Hv.out.below H1.out hB) (by omega) Hrow.out Hok.out).mono ?_
    rintro e w2 ⟨v, rfl, hb2, hown2⟩
    have H2 := Lib.hid (H1.out.trans (hb2.mono hs1))
    have Hown2 := Lib.hid (ownsRow_base hown2 hs1)
    clear hb2 hown2
    go_wp2
    go_ret
    exact ⟨_, rfl, H2.out, Hown2.out⟩
  · have hokf : (tyOk t && ixB q t.sizes.length) = false := by simpa using hok
    have hno := Lib.hid (aboveV_no hokf)
    rw [hokf]
    clear hok hf1
    go_wp2
    go_ret
    refine ⟨_, rfl, H1.out, ?_⟩
    rw [hno.out]
    exact World.ownsRow_nil _ _ _ _
end Go.Proofs.Ytfnfcagdoedilaa
