/-
  The contracts of JoinsOf: the model's face, the program's two functions.
-/
import Derived.Test.YtfnfcagdoedilaaJoins
namespace Go.Proofs.Ytfnfcagdoedilaa
open Go.RowKit

set_option maxRecDepth 100000 in
set_option maxHeartbeats 1000000 in
theorem specJoins_any (lo hi : Nat) (sv cv : Value) (t : Ty) (a b : Int) (w : World) (hv : TyAt w lo hi sv cv t) (hB : hi ≤ w.heap.size) (_hbk : t.bulk ≤ 1048576) :
    Calls Try.prog 35 #[.agg #[sv, cv], .int .i64 a, .int .i64 b] w fun e w' => ∃ v, e = .returned v ∧ Below w.heap.size w w' ∧ w'.ownsRow w.heap.size 3 1 v (joinsV t a b).length ((joinsV t a b).map (Value.int .i64)) := by
  obtain ⟨A, cap, rfl, hl1, hm1, _⟩ := hv.1.form
  obtain ⟨B, bap, rfl, hl2, hm2, _⟩ := hv.2.form
  have h3 : Below w.heap.size w (w.alloc (.cells #[.slice A t.sizes.length cap, .slice B t.cos.length bap] 26)) := by go_grown
  have hv3 := Lib.hid (hv.below h3 hB)
  have Hv := Lib.hid hv
  clear hv
  go_enter Try.func35, Try.ntmps35
  go_wp2_with fail
  refine (l2Types_any lo hi _ _ t a b _ hv3.out (by simp; omega)).mono ?_
  rintro e w1 ⟨rfl, hb1⟩
  have H1 := Lib.hid (box2 (hb1.mono (by simp)))
  obtain ⟨q0, q1, hl, _⟩ := box2 (hb1.mono (by simp))
  clear hb1
  by_cases hok : typesB t a b = true
  · have Hok := Lib.hid hok
    rw [hok]
    clear hok
    go_wp2_with fail
    refine (l2Joins_any lo hi _ _ t a b _ (Hv.out.below H1.out.2.2.2 hB) (by omega) Hok.out).mono ?_
    rintro e w2 ⟨v, rfl, hb2, hown2⟩
    have H2 := Lib.hid (H1.out.2.2.2.trans (hb2.mono (by omega)))
    have Hown2 := Lib.hid (ownsRow_base hown2 (Nat.le_of_lt hl))
    clear hb2 hown2
    go_wp2
    go_ret
    exact ⟨_, rfl, H2.out, Hown2.out⟩
  · have hokf : typesB t a b = false := by simpa using hok
    have hno := Lib.hid (joinsV_no hokf)
    rw [hokf]
    clear hok
    go_wp2
    go_ret
    refine ⟨_, rfl, H1.out.2.2.2.alloc (by omega) _, ?_⟩
    rw [hno.out]
    have := World.ownsRow_lit (base := w.heap.size) (e := 3) (size := 1) w1 #[] 0 (by omega) (by unfold maxLen; omega) rfl
    simpa using this

def accL (t : Ty) (b : Int) (l : List Int) (j : Nat) : List Int := (l.take j).filter fun z => canB t b z
theorem accL_zero (t : Ty) (b : Int) (l : List Int) : accL t b l 0 = [] := by simp [accL]
theorem accL_hit {t : Ty} {b : Int} {l : List Int} {m : Nat} (hm : m < l.length) (h : canB t b l[m] = true) : accL t b l (m + 1) = accL t b l m ++ [l[m]] := by
  unfold accL
  rw [List.take_succ_eq_append_getElem hm, List.filter_append]
  simp [h]
theorem accL_miss {t : Ty} {b : Int} {l : List Int} {m : Nat} (hm : m < l.length) (h : canB t b l[m] = false) : accL t b l (m + 1) = accL t b l m := by
  unfold accL
  rw [List.take_succ_eq_append_getElem hm, List.filter_append]
  simp [h]
theorem accL_le (t : Ty) (b : Int) (l : List Int) (j : Nat) : (accL t b l j).length ≤ j := by
  unfold accL
  have h1 := List.length_filter_le (fun z => canB t b z) (l.take j)
  rw [List.length_take] at h1
  omega
theorem accL_all {t : Ty} {a b : Int} (h : (tyOk t && ixB a t.sizes.length) = true) : accL t b (aboveV t a) (aboveV t a).length = bothV t a b := by
  unfold accL bothV
  rw [List.take_length, aboveV_ok h]
  unfold filtL
  rw [List.filter_map, List.filter_filter]
  congr 1
  refine List.filter_congr fun i _ => ?_
  simp [Bool.and_comm]

set_option maxRecDepth 100000 in
set_option maxHeartbeats 2000000 in
theorem aboveBoth_any (lo hi g : Nat) (sv cv : Value) (t : Ty) (a b : Int) (w : World) (hv : TyAt w lo hi sv cv t) (hB : hi ≤ w.heap.size) (hrow : Row w g 87 [sv, cv]) (htb : typesB t a b = true) :
    Calls Try.prog 79 #[.pointer (some ⟨g, 0, none⟩), .int .i64 a, .int .i64 b] w fun e w' => ∃ v, e = .returned v ∧ Below w.heap.size w w' ∧ w'.ownsRow w.heap.size 3 1 v (bothV t a b).length ((bothV t a b).map (Value.int .i64)) := by
  obtain ⟨A, cap, rfl, hl1, hm1, hi1⟩ := hv.1.form
  obtain ⟨B, bap, rfl, hl2, hm2, hc1⟩ := hv.2.form
  obtain ⟨i0, hi0, hz0, hz1, hz2⟩ := info_parts Try.infoInt
  obtain ⟨hty, ha0, ha1, hb0', hb1'⟩ := typesB_of htb
  have hn := typesB_len hty
  have hok : (tyOk t && ixB a t.sizes.length) = true := by rw [hty, ixB_yes ha0 ha1]; rfl
  have hall := Lib.hid (accL_all (b := b) hok)
  have hal := aboveV_le t a
  have hmem : ∀ j, ∀ (hj : j < (aboveV t a).length), typesB t b (aboveV t a)[j] = true := fun j hj => by
    obtain ⟨i, e, hi, _⟩ := filtL_mem (show (aboveV t a)[j] ∈ filtL (fun i => canC t a i) t.sizes.length from List.getElem_mem hj)
    rw [e]
    unfold typesB
    rw [hty, ixB_yes hb0' hb1', ixB_yes (by omega) (by omega)]
    rfl
  have hwf : ∀ z ∈ aboveV t a, I64 z := fun z hz => by
    obtain ⟨i, rfl, hi, _⟩ := filtL_mem hz
    unfold I64
    omega
  have Hmem := Lib.hid hmem
  have Hwf := Lib.hid hwf
  have Hok := Lib.hid hok
  have Hv := Lib.hid hv
  have Hrow := Lib.hid hrow
  have hgl := hrow.lt
  clear hv hrow hi1 hc1 hok htb hmem hwf
  go_enter Try.func79, Try.ntmps79
  go_wp2_with fail
  refine (above_any lo hi g _ _ t a _ Hv.out hB Hrow.out Hok.out).mono ?_
  rintro e w1 ⟨v1, rfl, hb1, hown1⟩
  have Hi1 := Lib.hid (ownsRow.intsAt (lo := w.heap.size) (hi := w1.heap.size) hown1 Hwf.out (Nat.le_refl _) (Nat.le_refl _))
  obtain ⟨VA, VC, rfl⟩ := owns_form hown1
  have Hb1 := Lib.hid hb1
  have hs1 := hb1.size
  clear hb1 hown1
  go_wp2
  go_loopw [7, 14] (fun l i wr => ∃ j : Nat, j ≤ (aboveV t a).length ∧ i = .int .i64 j ∧ Hid (Below w1.heap.size w1 wr) ∧ Hid (wr.ownsRow w1.heap.size 3 1 l (accL t b (aboveV t a) j).length ((accL t b (aboveV t a) j).map (Value.int .i64)))) (fun _ i _ => (aboveV t a).length - (intOf i).toNat)
  case atStart => exact ⟨0, Nat.zero_le _, rfl, Below.refl _ _, by show World.ownsRow _ _ _ _ _ _ _; rw [accL_zero]; exact World.ownsRow_nil _ _ _ _⟩
  case round =>
    obtain ⟨j, hj, rfl, hb, hown⟩ := hrel
    have hbs := hb.out.size
    have hle := accL_le t b (aboveV t a) j
    have Hbw := Lib.hid (Hb1.out.trans (hb.out.mono hs1))
    by_cases hlt : j < (aboveV t a).length
    · obtain ⟨b8, off8, rfl, _, _, c8, _⟩ := (Hi1.out.below hb.out (Nat.le_refl _)).at_ hlt
      go_wp2_with fail
      refine (leads_any lo hi g _ _ t b (aboveV t a)[j] _ (Hv.out.below Hbw.out hB) (by omega) (Hrow.out.below Hbw.out hgl) (Hmem.out j hlt)).mono ?_
      rintro e w2 ⟨rfl, hb2⟩
      have hbx := hb.out.trans (hb2.mono hbs)
      have hown1 := ownsRow_below hown.out hb2 (Nat.le_refl _)
      have Hown1 := Lib.hid hown1
      have Hbx := Lib.hid hbx
      have hsz1 : w1.heap.size ≤ w2.heap.size := by have := hb2.size; omega
      clear hown1 hbx hb2
      by_cases hq : canB t b (aboveV t a)[j] = true
      · have hh := Lib.hid (accL_hit hlt hq)
        rw [hq]
        clear hq
        go_wp2_with (at_builtin; refine wpList_append_own _ rfl (.tmp 22) (.tmp 24) 23 rfl w1.heap.size 3 i0 (.int .i64 0) 1 8 Try.underlying23 hi0 hz0 hz1 hz2 rfl (by decide) _ _ _ rfl (Hown1.out.alloc _) ⟨w2.heap.size, 0, none⟩ 1 1 [.int .i64 (aboveV t a)[j]] rfl rfl ?c1 ?c2 ?c3 ?c4 ?c5 ?_)
        case c1 =>
          intro i u hi
          match i, hi with
          | 0, hi => simp at hi; subst hi; simp [Addr.add]
        case c2 => intro u hu; simp at hu; subst hu; rfl
        case c3 => unfold maxLen; omega
        case c4 => omega
        case c5 => simp; omega
        intro v' w3 hown2 hgrow _
        have hbl := owns_lt Hown1.out
        have hb3 := (Hbx.out.alloc (by omega) _).grown hgrow (by simp; omega) (fun k hk => (hbl k hk).1)
        have Hb3 := Lib.hid hb3
        have Hown2 := Lib.hid hown2
        clear hown2 hgrow hb3 hbl
        go_wp2
        go_roundw
        case rel => exact ⟨j + 1, by omega, by go_num, Hb3.out, ownsRow_cast Hown2.out (by rw [hh.out]; simp) (by rw [hh.out]; simp)⟩
        case measure => simp [intOf]; omega
      · have hqf : canB t b (aboveV t a)[j] = false := by simpa using hq
        have hh := Lib.hid (accL_miss hlt hqf)
        rw [hqf]
        clear hq hqf
        go_wp2
        go_roundw
        case rel => exact ⟨j + 1, by omega, by go_num, Hbx.out, ownsRow_cast Hown1.out (by rw [hh.out]) (by rw [hh.out])⟩
        case measure => simp [intOf]; omega
    · obtain rfl : j = (aboveV t a).length := by omega
      go_wp2
      go_ret
      exact ⟨_, rfl, Hbw.out, by rw [← hall.out]; exact ownsRow_base hown.out hs1⟩

set_option maxRecDepth 100000 in
set_option maxHeartbeats 4000000 in
theorem implJoins_any (lo hi : Nat) (sv cv : Value) (t : Ty) (a b : Int) (w : World) (hv : TyAt w lo hi sv cv t) (hB : hi ≤ w.heap.size) (ha : I64 a) (hb : I64 b) :
    Calls Try.prog 33 #[.agg #[sv, cv], .int .i64 a, .int .i64 b] w fun e w' => ∃ v, e = .returned v ∧ Below w.heap.size w w' ∧ w'.ownsRow w.heap.size 3 1 v (joinsV t a b).length ((joinsV t a b).map (Value.int .i64)) := by
  obtain ⟨A, cap, rfl, hl1, hm1, hi1⟩ := hv.1.form
  obtain ⟨B, bap, rfl, hl2, hm2, hc1⟩ := hv.2.form
  obtain ⟨i0, hi0, hz0, hz1, hz2⟩ := info_parts Try.infoInt
  have Hv := Lib.hid hv
  clear hv hi1 hc1
  have h4 : Below w.heap.size w ((w.alloc (.cells #[.slice A t.sizes.length cap, .slice B t.cos.length bap] 26)).alloc (.cells #[.int .i64 a, .int .i64 b] 3)) := by go_grown
  have hone := ints_two (w.alloc (.cells #[.slice A t.sizes.length cap, .slice B t.cos.length bap] 26)) a b ha hb 3
  rw [World.size_alloc] at hone
  have H4 := Lib.hid h4
  have Hone := Lib.hid hone
  clear h4 hone
  go_enter Try.func33, Try.ntmps33
  go_wp2
  go_step3
  go_wp2_with fail
  refine (finderOf_any lo hi _ _ _ _ _ t [a, b] _ (Hv.out.below H4.out hB) (by simp; omega) Hone.out (by simp only [World.size_alloc]; omega)).mono ?_
  rintro e w1 ⟨p, rfl, hb1, hf1⟩
  rw [findOk_two] at hf1 ⊢
  have H1 := Lib.hid (H4.out.trans (hb1.mono (by simp; omega)))
  have hs1 : w.heap.size ≤ w1.heap.size := H1.out.size
  clear hb1
  by_cases hok : typesB t a b = true
  · obtain ⟨g, rfl, hg, hrow⟩ := hf1 hok
    have Hrow := Lib.hid hrow
    have Htb := Lib.hid hok
    have hval := Lib.hid (joinsV_yes hok)
    have hn5 := typesB_len (typesB_of hok).1
    have hgl := hrow.lt
    rw [hok]
    clear hrow hok
    go_wp2_with fail
    refine (aboveBoth_any lo hi g _ _ t a b _ (Hv.out.below H1.out hB) (by omega) Hrow.out Htb.out).mono ?_
    rintro e wL ⟨vb, rfl, hb2, hown2⟩
    have hble := bothV_le t a b
    have Hbi := Lib.hid (ownsRow.intsAt (lo := w1.heap.size) (hi := wL.heap.size) hown2 (bothV_wf t a b (by omega)) (Nat.le_refl _) (Nat.le_refl _))
    obtain ⟨OA, OC, rfl⟩ := owns_form hown2
    have hsL := hb2.size
    have HbL := Lib.hid (H1.out.trans (hb2.mono hs1))
    have HrowL := Lib.hid (Hrow.out.below hb2 hgl)
    clear hb2 hown2
    go_wp2
    go_step3
    go_wp2
    go_loopg [10, 31] (bothV t a b).length (fun gk l i wx => ∃ j : Nat, j + gk = (bothV t a b).length ∧ i = .int .i64 j ∧ Hid (Below wL.heap.size wL wx) ∧
      Hid (wx.ownsRow wL.heap.size 3 1 l (joinL t (bothV t a b) j).length ((joinL t (bothV t a b) j).map (Value.int .i64))))
    case atStart => exact ⟨0, by omega, rfl, Below.refl _ _, by show World.ownsRow _ _ _ _ _ _ _; rw [joinL_zero]; exact World.ownsRow_nil _ _ _ _⟩
    case round =>
      obtain ⟨j, hjg, rfl, hbx, hownx⟩ := hrel
      obtain ⟨wx, rfl⟩ : ∃ u, u = wr := ⟨_, rfl⟩
      have hjle := joinL_le t (bothV t a b) j
      have hsx := hbx.out.size
      cases gk with
      | zero =>
        obtain rfl : j = (bothV t a b).length := by omega
        have Hfin := Lib.hid (HbL.out.trans (hbx.out.mono (by omega)))
        go_wp2
        try rw [Exit.noGoto_ret]
        go_ret
        exact ⟨_, rfl, Hfin.out, by rw [hval.out]; exact ownsRow_base hownx.out (by omega)⟩
      | succ g2 =>
        have hlt : j < (bothV t a b).length := by omega
        obtain ⟨b8, off8, rfl, _, _, c8, _⟩ := (Hbi.out.below hbx.out (Nat.le_refl _)).at_ hlt
        go_wp2
        go_loopg [37] (bothV t a b).length (fun gi i wy => ∃ m : Nat, m + gi = (bothV t a b).length ∧ i = .int .i64 m ∧ Hid (Below wx.heap.size wx wy) ∧ Hid (∀ q, ∀ (hq : q < (bothV t a b).length), q < m → ¬ ((bothV t a b)[q] ≠ (bothV t a b)[j] ∧ canB t (bothV t a b)[q] (bothV t a b)[j] = true)))
        case atStart => exact ⟨0, by omega, rfl, Below.refl _ _, fun q _ h => absurd h (by omega)⟩
        case round =>
          obtain ⟨m, hmg, rfl, hby, hnone⟩ := hrel
          obtain ⟨wy, rfl⟩ : ∃ u, u = wr := ⟨_, rfl⟩
          have Hbxy := Lib.hid (hbx.out.trans (hby.out.mono hsx))
          have Hby0 := Lib.hid (HbL.out.trans (Hbxy.out.mono (by omega)))
          have hsy := hby.out.size
          have Howny := Lib.hid (ownsRow_below hownx.out hby.out (Nat.le_refl _))
          cases gk with
          | zero =>
            obtain rfl : m = (bothV t a b).length := by omega
            have hlow := lowB_yes (t := t) (both := bothV t a b) (k := (bothV t a b)[j]) (fun q hq => hnone.out q hq hq)
            have hh := Lib.hid (joinL_hit hlt hlow)
            have hbl2 := Lib.hid (owns_lt Howny.out)
            clear hlow
            go_wp2_with (at_builtin; refine wpList_push rfl (.tmp 51) (.tmp 53) 23 rfl i0 (.int .i64 0) 8 Try.underlying23 hi0 hz0 hz1 hz2 rfl rfl (Howny.out.alloc _) ⟨wy.heap.size, 0, none⟩ 1 (.int .i64 (bothV t a b)[j]) rfl (by simp [go_sem]) rfl (by unfold maxLen; omega) (by omega) (by simp; omega) ?_)
            intro v' w3 hp
            have hb3 := Lib.hid ((Hbxy.out.alloc (by omega) (.cells #[.int .i64 (bothV t a b)[j]] 3)).grown hp.grown (by simp; omega) (fun k hk => (hbl2.out k hk).1))
            have Hown3 := Lib.hid hp.own
            clear hp
            go_wp2
            go_roundg g2
            case measure => omega
            case rel => exact ⟨j + 1, by omega, by go_num, hb3, ownsRow_cast Hown3.out (by rw [hh.out]; simp) (by rw [hh.out]; simp)⟩
          | succ g3 =>
            have hmt : m < (bothV t a b).length := by omega
            obtain ⟨b9, off9, e9, _, _, c9, _⟩ := (Hbi.out.below Hbxy.out (Nat.le_refl _)).at_ hmt
            injection e9 with e9
            injection e9 with e91 e92
            subst e91
            subst e92
            by_cases hne : (bothV t a b)[m] = (bothV t a b)[j]
            · have htest : ((bothV t a b)[m] != (bothV t a b)[j]) = false := by simpa using hne
              have hnone2 : Hid (∀ q, ∀ (hq : q < (bothV t a b).length), q < m + 1 → ¬ ((bothV t a b)[q] ≠ (bothV t a b)[j] ∧ canB t (bothV t a b)[q] (bothV t a b)[j] = true)) := fun q hq h => by
                by_cases e : q = m
                · subst e; exact fun h2 => h2.1 hne
                · exact hnone.out q hq (by omega)
              clear hne
              go_wp2
              go_roundg g3
              case measure => omega
              case rel => exact ⟨m + 1, by omega, by go_num, hby, hnone2⟩
            · have htest : ((bothV t a b)[m] != (bothV t a b)[j]) = true := by simpa using hne
              go_wp2_with fail
              refine (leads_any lo hi g _ _ t (bothV t a b)[m] (bothV t a b)[j] _ (Hv.out.below Hby0.out hB) (by omega) (HrowL.out.below Hbxy.out (by omega)) (both_types Htb.out hmt hlt)).mono ?_
              rintro e w4 ⟨rfl, hb4⟩
              have Hb4 := Lib.hid hb4
              clear hb4
              by_cases hc : canB t (bothV t a b)[m] (bothV t a b)[j] = true
              · have hh := Lib.hid (joinL_miss hlt (lowB_no hmt hne hc))
                have hb5 := Lib.hid (Hbxy.out.trans (Hb4.out.mono (by omega)))
                have Hown5 := Lib.hid (ownsRow_below Howny.out Hb4.out (Nat.le_refl _))
                rw [hc]
                clear hc hne
                go_wp2
                go_roundg g2
                case measure => omega
                case rel => exact ⟨j + 1, by omega, by go_num, hb5, ownsRow_cast Hown5.out (by rw [hh.out]) (by rw [hh.out])⟩
              · have hcf : canB t (bothV t a b)[m] (bothV t a b)[j] = false := by simpa using hc
                have hnone2 : Hid (∀ q, ∀ (hq : q < (bothV t a b).length), q < m + 1 → ¬ ((bothV t a b)[q] ≠ (bothV t a b)[j] ∧ canB t (bothV t a b)[q] (bothV t a b)[j] = true)) := fun q hq h => by
                  by_cases e : q = m
                  · subst e; exact fun h2 => hc h2.2
                  · exact hnone.out q hq (by omega)
                have hby4 := Lib.hid (hby.out.trans (Hb4.out.mono hsy))
                rw [hcf]
                clear hc hcf hne
                go_wp2
                go_roundg g3
                case measure => omega
                case rel => exact ⟨m + 1, by omega, by go_num, hby4, hnone2⟩
  · have hokf : typesB t a b = false := by simpa using hok
    have hno := Lib.hid (joinsV_no hokf)
    rw [hokf]
    clear hok hf1
    go_wp2
    try rw [Exit.noGoto_ret]
    go_ret
    refine ⟨_, rfl, H1.out, ?_⟩
    rw [hno.out]
    exact World.ownsRow_nil _ _ _ _
end Go.Proofs.Ytfnfcagdoedilaa
