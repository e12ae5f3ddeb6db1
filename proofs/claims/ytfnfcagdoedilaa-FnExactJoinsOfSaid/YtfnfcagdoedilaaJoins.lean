/-
  The contracts of JoinsOf, the program's and the model's.
-/
import Derived.Test.YtfnfcagdoedilaaAbove
import Derived.WalkMore
import Derived.Deep.LoopGhost
namespace Go.Proofs.Ytfnfcagdoedilaa
open Go.RowKit

/-- The types above both. -/
def bothV (t : Ty) (a b : Int) : List Int := filtL (fun i => canB t a i && canB t b i) t.sizes.length
/-- Is no other one of the list below k? -/
def lowB (t : Ty) (both : List Int) (k : Int) : Bool := both.all fun l => !(decide (l ≠ k) && canB t l k)
def joinL (t : Ty) (both : List Int) (m : Nat) : List Int := (both.take m).filter fun k => lowB t both k
theorem joinL_zero (t : Ty) (both : List Int) : joinL t both 0 = [] := by simp [joinL]
theorem joinL_hit {t : Ty} {both : List Int} {m : Nat} (hm : m < both.length) (h : lowB t both both[m] = true) : joinL t both (m + 1) = joinL t both m ++ [both[m]] := by
  unfold joinL
  rw [List.take_succ_eq_append_getElem hm, List.filter_append]
  simp [h]
theorem joinL_miss {t : Ty} {both : List Int} {m : Nat} (hm : m < both.length) (h : lowB t both both[m] = false) : joinL t both (m + 1) = joinL t both m := by
  unfold joinL
  rw [List.take_succ_eq_append_getElem hm, List.filter_append]
  simp [h]
theorem joinL_le (t : Ty) (both : List Int) (m : Nat) : (joinL t both m).length ≤ m := by
  unfold joinL
  have h1 := List.length_filter_le (fun k => lowB t both k) (both.take m)
  rw [List.length_take] at h1
  omega
def joinsV (t : Ty) (a b : Int) : List Int := if typesB t a b = true then joinL t (bothV t a b) (bothV t a b).length else []
theorem joinsV_yes {t : Ty} {a b : Int} (h : typesB t a b = true) : joinsV t a b = joinL t (bothV t a b) (bothV t a b).length := by unfold joinsV; rw [if_pos h]
theorem joinsV_no {t : Ty} {a b : Int} (h : typesB t a b = false) : joinsV t a b = [] := by unfold joinsV; rw [if_neg (by simp [h])]
theorem bothV_le (t : Ty) (a b : Int) : (bothV t a b).length ≤ t.sizes.length := filtL_le _ _
theorem bothV_at {t : Ty} {a b : Int} {m : Nat} (hm : m < (bothV t a b).length) : ∃ i : Nat, (bothV t a b)[m] = (i : Int) ∧ i < t.sizes.length := by
  obtain ⟨i, h1, h2, _⟩ := filtL_mem (List.getElem_mem hm)
  exact ⟨i, h1, h2⟩
theorem bothV_wf (t : Ty) (a b : Int) (h : t.sizes.length ≤ 1048576) : ∀ z ∈ bothV t a b, I64 z := by
  intro z hz
  obtain ⟨i, rfl, hi, _⟩ := filtL_mem hz
  unfold I64
  omega
theorem joinsV_le (t : Ty) (a b : Int) : (joinsV t a b).length ≤ t.sizes.length := by
  by_cases h : typesB t a b = true
  · rw [joinsV_yes h]; exact Nat.le_trans (joinL_le _ _ _) (bothV_le _ _ _)
  · rw [joinsV_no (by simpa using h)]; simp
theorem joinsV_wf (t : Ty) (a b : Int) (hb : t.bulk ≤ 1048576) : ∀ z ∈ joinsV t a b, I64 z := by
  intro z hz
  by_cases h : typesB t a b = true
  · rw [joinsV_yes h] at hz
    unfold joinL at hz
    have h2 := List.mem_of_mem_take (List.mem_filter.1 hz).1
    exact bothV_wf t a b (by unfold Ty.bulk at hb; omega) z h2
  · rw [joinsV_no (by simpa using h)] at hz; exact absurd hz (by simp)
theorem lowB_no {t : Ty} {both : List Int} {k : Int} {m : Nat} (hm : m < both.length) (h1 : both[m] ≠ k) (h2 : canB t both[m] k = true) : lowB t both k = false := by
  unfold lowB
  exact all_false_of m hm (by simp [h1, h2])
theorem lowB_yes {t : Ty} {both : List Int} {k : Int} (h : ∀ m, ∀ (hm : m < both.length), ¬ (both[m] ≠ k ∧ canB t both[m] k = true)) : lowB t both k = true := by
  unfold lowB
  refine all_true_of fun m hm => ?_
  have := h m hm
  by_cases e : both[m] = k
  · simp [e]
  · have : canB t both[m] k = false := by
      cases hc : canB t both[m] k
      · rfl
      · exact absurd ⟨e, hc⟩ this
    simp [this]
/-- Types that are above one are types. -/
theorem both_types {t : Ty} {a b : Int} (h : typesB t a b = true) {m n : Nat} (hm : m < (bothV t a b).length) (hn : n < (bothV t a b).length) : typesB t (bothV t a b)[m] (bothV t a b)[n] = true := by
  obtain ⟨i, e, hi⟩ := bothV_at hm
  obtain ⟨j, e', hj⟩ := bothV_at hn
  rw [e, e']
  have := (typesB_of h).1
  unfold typesB
  rw [this, ixB_yes (by omega) (by omega), ixB_yes (by omega) (by omega)]
  rfl

set_option maxRecDepth 100000 in
set_option maxHeartbeats 4000000 in
theorem l2Joins_any (lo hi : Nat) (sv cv : Value) (t : Ty) (a b : Int) (w : World) (hv : TyAt w lo hi sv cv t) (hB : hi ≤ w.heap.size) (htb : typesB t a b = true) :
    Calls Try.prog 80 #[.agg #[sv, cv], .int .i64 a, .int .i64 b] w fun e w' => ∃ v, e = .returned v ∧ Below w.heap.size w w' ∧ w'.ownsRow w.heap.size 3 1 v (joinsV t a b).length ((joinsV t a b).map (Value.int .i64)) := by
  obtain ⟨A, cap, rfl, hl1, hm1, hi1⟩ := hv.1.form
  obtain ⟨B, bap, rfl, hl2, hm2, hc1⟩ := hv.2.form
  obtain ⟨i0, hi0, hz0, hz1, hz2⟩ := info_parts Try.infoInt
  obtain ⟨hty, ha0, ha1, hb0', hb1'⟩ := typesB_of htb
  have hn5 := typesB_len hty
  have hval := Lib.hid (joinsV_yes htb)
  have htk : ∀ (x : Int), 0 ≤ x → x < t.sizes.length → ∀ j : Nat, j < t.sizes.length → typesB t x j = true := fun x h0 h1 j hj => by
    unfold typesB
    rw [hty, ixB_yes h0 h1, ixB_yes (by omega) (by omega)]
    rfl
  have Htk := Lib.hid htk
  have Htb := Lib.hid htb
  have Hv := Lib.hid hv
  clear hv hi1 hc1 htk htb
  have h3 : Below (w.heap.size + 1) (w.alloc (.cells #[.slice A t.sizes.length cap, .slice B t.cos.length bap] 26)) (w.alloc (.cells #[.slice A t.sizes.length cap, .slice B t.cos.length bap] 26)) := Below.refl _ _
  have H3 := Lib.hid h3
  clear h3
  go_enter Try.func80, Try.ntmps80
  go_wp2
  go_step3
  go_wp2
  go_loopw [8, 19] (fun l i wr => ∃ j : Nat, j ≤ t.sizes.length ∧ i = .int .i64 j ∧ Hid (Below (w.heap.size + 1) (w.alloc (.cells #[.slice A t.sizes.length cap, .slice B t.cos.length bap] 26)) wr) ∧ Hid (w.heap.size + 2 ≤ wr.heap.size ∧ Row wr (w.heap.size + 1) 3 []) ∧ Hid (wr.ownsRow (w.heap.size + 2) 3 1 l (filtL (fun i => canB t a i && canB t b i) j).length ((filtL (fun i => canB t a i && canB t b i) j).map (Value.int .i64)))) (fun _ i _ => t.sizes.length - (intOf i).toNat)
  case atStart =>
    refine ⟨0, Nat.zero_le _, rfl, (H3.out.alloc (by simp) _).alloc (by simp) _, ?_, ?_⟩
    · refine ⟨by simp, ?_⟩
      have := (Row.new (w.alloc (.cells #[.slice A t.sizes.length cap, .slice B t.cos.length bap] 26)) 3 []).alloc (.cells #[] 3)
      rw [World.size_alloc] at this
      exact this
    · show World.ownsRow _ _ _ _ _ _ _
      rw [filtL_zero]
      have := World.ownsRow_lit (base := w.heap.size + 2) (e := 3) (size := 1) ((w.alloc (.cells #[.slice A t.sizes.length cap, .slice B t.cos.length bap] 26)).alloc (.cells #[] 3)) #[] 0 (by simp) (by unfold maxLen; omega) rfl
      simpa using this
  case round =>
    obtain ⟨j, hj, rfl, hb, hlit, hown⟩ := hrel
    obtain ⟨q0, q1, hlr, hb0⟩ := box2 hb.out
    have Hb0 := Lib.hid hb0
    obtain ⟨hsz0, hlrow⟩ := hlit.out
    have Hlrow := Lib.hid hlrow
    have hle := filtL_le (fun i => canB t a i && canB t b i) j
    clear hb0 hlrow
    by_cases hlt : j < t.sizes.length
    · go_wp2_with fail
      refine (l2Can_any lo hi _ _ t a j _ (Hv.out.below Hb0.out hB) (by omega) (Htk.out a ha0 ha1 j hlt)).mono ?_
      rintro e w1 ⟨rfl, hb1⟩
      have Hb1 := Lib.hid hb1
      have hbx := hb.out.trans (hb1.mono (by omega))
      have q0' : w1.cell? ⟨w.heap.size, 0, none⟩ = some (.slice A t.sizes.length cap) := (box2 hbx).1
      have q1' : w1.cell? ⟨w.heap.size, 1, none⟩ = some (.slice B t.cos.length bap) := (box2 hbx).2.1
      have Hbx := Lib.hid hbx
      have hs1 := hb1.size
      clear hb1 hbx
      by_cases hqa : canB t a j = true
      · rw [hqa]
        go_wp2_with fail
        refine (l2Can_any lo hi _ _ t b j _ (Hv.out.below (box2 Hbx.out).2.2.2 hB) (by omega) (Htk.out b hb0' hb1' j hlt)).mono ?_
        rintro e w2 ⟨rfl, hb2⟩
        have hb12 := Hb1.out.trans (hb2.mono hs1)
        have hbx2 := Lib.hid (hb.out.trans (hb12.mono (by omega)))
        have Hown2 := Lib.hid (ownsRow_below hown.out hb12 (Nat.le_refl _))
        have Hlit2 := Lib.hid (show w.heap.size + 2 ≤ w2.heap.size ∧ Row w2 (w.heap.size + 1) 3 [] from ⟨by have := hb12.size; omega, Hlrow.out.below hb12 (by omega)⟩)
        have hs2 := Hlit2.out.1
        clear hb2 hb12 q0 q1 q0' q1'
        by_cases hqb : canB t b j = true
        · have hh := Lib.hid (filtL_hit (p := fun i => canB t a i && canB t b i) (n := j) (by rw [hqa, hqb]; rfl))
          rw [hqb]
          clear hqa hqb
          go_wp2_with (at_builtin; refine wpList_push rfl (.tmp 32) (.tmp 34) 23 rfl i0 (.int .i64 0) 8 Try.underlying23 hi0 hz0 hz1 hz2 rfl rfl (Hown2.out.alloc _) ⟨w2.heap.size, 0, none⟩ 1 (.int .i64 j) rfl (by simp [go_sem]) rfl (by unfold maxLen; omega) (by omega) (by simp; omega) ?_)
          intro v' w3 hp
          have hbl := owns_lt Hown2.out
          have hb3 := Lib.hid ((hbx2.out.alloc (by omega) (.cells #[.int .i64 j] 3)).grown hp.grown (by simp; omega) (fun k hk => by have := (hbl k hk).1; omega))
          have Hlit3 := Lib.hid (show w.heap.size + 2 ≤ w3.heap.size ∧ Row w3 (w.heap.size + 1) 3 [] from ⟨by have := hp.grown.size; simp at this; omega, (Hlit2.out.2.alloc _).keep (hp.grown.block _ (by simp; omega) (fun e => by have := (hbl _ e.symm).1; omega))⟩)
          have Hown3 := Lib.hid hp.own
          clear hp
          go_wp2
          go_roundw
          case rel => exact ⟨j + 1, by omega, by go_num, hb3, Hlit3, ownsRow_cast Hown3.out (by rw [hh.out]; simp) (by rw [hh.out]; simp)⟩
          case measure => simp [intOf]; omega
        · have hqf : canB t b j = false := by simpa using hqb
          have hh := Lib.hid (filtL_miss (p := fun i => canB t a i && canB t b i) (n := j) (by rw [hqa, hqf]; rfl))
          rw [hqf]
          clear hqa hqb hqf
          go_wp2
          go_roundw
          case rel => exact ⟨j + 1, by omega, by go_num, hbx2, Hlit2, ownsRow_cast Hown2.out (by rw [hh.out]) (by rw [hh.out])⟩
          case measure => simp [intOf]; omega
      · have hqf : canB t a j = false := by simpa using hqa
        have hh := Lib.hid (filtL_miss (p := fun i => canB t a i && canB t b i) (n := j) (by rw [hqf]; rfl))
        have Hown1 := Lib.hid (ownsRow_below hown.out Hb1.out (Nat.le_refl _))
        have Hlit1 := Lib.hid (show w.heap.size + 2 ≤ w1.heap.size ∧ Row w1 (w.heap.size + 1) 3 [] from ⟨by omega, Hlrow.out.below Hb1.out (by omega)⟩)
        rw [hqf]
        clear hqa hqf
        go_wp2
        go_roundw
        case rel => exact ⟨j + 1, by omega, by go_num, Hbx, Hlit1, ownsRow_cast Hown1.out (by rw [hh.out]) (by rw [hh.out])⟩
        case measure => simp [intOf]; omega
    · obtain rfl : j = t.sizes.length := by omega
      have hwfb := bothV_wf t a b (by omega)
      have hbl := Lib.hid (owns_lt hown.out)
      have hbi := Lib.hid (ownsRow.intsAt (lo := w.heap.size + 2) (hi := wr.heap.size) (show wr.ownsRow (w.heap.size + 2) 3 1 _ (bothV t a b).length ((bothV t a b).map (Value.int .i64)) from hown.out) hwfb (Nat.le_refl _) (Nat.le_refl _))
      obtain ⟨OA, OC, rfl⟩ := owns_form hown.out
      have hble := bothV_le t a b
      have hlenb : (filtL (fun i => canB t a i && canB t b i) t.sizes.length).length = (bothV t a b).length := rfl
      rw [hlenb] at *
      have Hbi := hbi
      have hlit0 : wr.ownsRow (w.heap.size + 1) 3 1 (.slice (some ⟨w.heap.size + 1, 0, none⟩) 0 0) 0 [] := ⟨rfl, .inr ⟨w.heap.size + 1, 0, #[], rfl, Nat.le_refl _, Hlrow.out, Nat.le_refl _, by unfold maxLen; omega, rfl, rfl⟩⟩
      have Hlit0 := Lib.hid hlit0
      clear hlit0 hwfb
      obtain ⟨wL, rfl⟩ : ∃ u, u = wr := ⟨_, rfl⟩
      go_wp2
      go_step3
      go_wp2
      go_loopg [7, 39] (bothV t a b).length (fun gk l i wx => ∃ j : Nat, j + gk = (bothV t a b).length ∧ i = .int .i64 j ∧ Hid (Below (w.heap.size + 1) (w.alloc (.cells #[.slice A t.sizes.length cap, .slice B t.cos.length bap] 26)) wx) ∧ Hid (wL.heap.size ≤ wx.heap.size ∧ ∀ k, k < wL.heap.size → k ≠ w.heap.size + 1 → wx.heap[k]? = wL.heap[k]?) ∧
        Hid (wx.ownsRow (w.heap.size + 1) 3 1 l (joinL t (bothV t a b) j).length ((joinL t (bothV t a b) j).map (Value.int .i64))) ∧ Hid (∀ b, l.ownBlock = some b → b = w.heap.size + 1 ∨ wL.heap.size ≤ b))
      case atStart =>
        refine ⟨0, by omega, rfl, hb, ⟨Nat.le_refl _, fun _ _ _ => rfl⟩, by show World.ownsRow _ _ _ _ _ _ _; rw [joinL_zero]; exact Hlit0.out, fun b hb => ?_⟩
        simp only [Value.ownBlock, Option.some.injEq] at hb
        omega
      case round =>
        obtain ⟨j, hjg, rfl, hbx, hhx, hownx, hobx⟩ := hrel
        obtain ⟨wx, rfl⟩ : ∃ u, u = wr := ⟨_, rfl⟩
        have hjle := joinL_le t (bothV t a b) j
        cases gk with
        | zero =>
          obtain rfl : j = (bothV t a b).length := by omega
          go_wp2
          try rw [Exit.noGoto_ret]
          go_ret
          exact ⟨_, rfl, (box2 hbx.out).2.2.2, by rw [hval.out]; exact ownsRow_base hownx.out (by omega)⟩
        | succ g2 =>
          have hlt : j < (bothV t a b).length := by omega
          have hlx : w.heap.size + 1 ≤ wx.heap.size := by have := hhx.out.1; omega
          have Hbix := Lib.hid (Hbi.out.keep (w' := wx) fun k hk1 hk2 => hhx.out.2 k hk2 (by omega))
          obtain ⟨b8, off8, rfl, _, _, c8, _⟩ := Hbix.out.at_ hlt
          obtain ⟨q0, q1, hlr', hb0⟩ := box2 hbx.out
          have Hbx0 := Lib.hid hb0
          have hsx := hhx.out.1
          clear hb0
          go_wp2
          go_loopg [45] (bothV t a b).length (fun gi i wy => ∃ m : Nat, m + gi = (bothV t a b).length ∧ i = .int .i64 m ∧ Hid (Below wx.heap.size wx wy) ∧ Hid (∀ q, ∀ (hq : q < (bothV t a b).length), q < m → ¬ ((bothV t a b)[q] ≠ (bothV t a b)[j] ∧ canB t (bothV t a b)[q] (bothV t a b)[j] = true)))
          case atStart => exact ⟨0, by omega, rfl, Below.refl _ _, fun q _ h => absurd h (by omega)⟩
          case round =>
            obtain ⟨m, hmg, rfl, hby, hnone⟩ := hrel
            obtain ⟨wy, rfl⟩ : ∃ u, u = wr := ⟨_, rfl⟩
            have hbxy := hbx.out.trans (hby.out.mono hlx)
            obtain ⟨z0, z1, hlz, hbz⟩ := box2 hbxy
            have Hbxy := Lib.hid hbxy
            have Hbz := Lib.hid hbz
            have hsy := hby.out.size
            have Hhy := Lib.hid (show wL.heap.size ≤ wy.heap.size ∧ ∀ k, k < wL.heap.size → k ≠ w.heap.size + 1 → wy.heap[k]? = wL.heap[k]? from ⟨by omega, fun k h1 h2 => (hby.out.block k (by omega)).trans (hhx.out.2 k h1 h2)⟩)
            have Howny := Lib.hid (ownsRow_below hownx.out hby.out (Nat.le_refl _))
            clear hbxy hbz
            cases gk with
            | zero =>
              obtain rfl : m = (bothV t a b).length := by omega
              have hlow := lowB_yes (t := t) (both := bothV t a b) (k := (bothV t a b)[j]) (fun q hq => hnone.out q hq hq)
              have hh := Lib.hid (joinL_hit hlt hlow)
              have hbl2 := Lib.hid (owns_lt Howny.out)
              clear hlow
              go_wp2_with (at_builtin; refine wpList_push rfl (.tmp 59) (.tmp 61) 23 rfl i0 (.int .i64 0) 8 Try.underlying23 hi0 hz0 hz1 hz2 rfl rfl (Howny.out.alloc _) ⟨wy.heap.size, 0, none⟩ 1 (.int .i64 (bothV t a b)[j]) rfl (by simp [go_sem]) rfl (by unfold maxLen; omega) (by omega) (by simp; omega) ?_)
              intro v' w3 hp
              have hb3 := Lib.hid ((Hbxy.out.alloc (by omega) (.cells #[.int .i64 (bothV t a b)[j]] 3)).grown hp.grown (by simp; omega) (fun k hk => (hbl2.out k hk).1))
              have hg3 := hp.grown.size
              simp only [World.size_alloc] at hg3
              have Hh3 := Lib.hid (show wL.heap.size ≤ w3.heap.size ∧ ∀ k, k < wL.heap.size → k ≠ w.heap.size + 1 → w3.heap[k]? = wL.heap[k]? from ⟨by omega, fun k h1 h2 => (hp.grown.block k (by simp; omega) (fun e => by rcases hobx.out k e.symm with h | h <;> omega)).trans ((Below.heap_alloc wy _ k (by omega)).trans (Hhy.out.2 k h1 h2))⟩)
              have hob3 : Hid (∀ b, v'.ownBlock = some b → b = w.heap.size + 1 ∨ wL.heap.size ≤ b) := fun b hb => by
                rcases hp.at_ with e | ⟨g', e, h6, _⟩
                · exact hobx.out b (by rw [← e]; exact hb)
                · rw [e] at hb
                  simp only [Option.some.injEq, World.size_alloc] at hb h6
                  omega
              have Hown3 := Lib.hid hp.own
              clear hp hg3
              go_wp2
              go_roundg g2
              case measure => omega
              case rel => exact ⟨j + 1, by omega, by go_num, hb3, Hh3, ownsRow_cast Hown3.out (by rw [hh.out]; simp) (by rw [hh.out]; simp), hob3⟩
            | succ g3 =>
              have hmt : m < (bothV t a b).length := by omega
              have Hbiy := Lib.hid (Hbi.out.keep (w' := wy) fun k hk1 hk2 => Hhy.out.2 k hk2 (by omega))
              obtain ⟨b9, off9, e9, _, _, c9, _⟩ := Hbiy.out.at_ hmt
              injection e9 with e9
              injection e9 with e91 e92
              subst e91
              subst e92
              by_cases hne : (bothV t a b)[m] = (bothV t a b)[j]
              · have htest : ((bothV t a b)[m] != (bothV t a b)[j]) = false := by simpa using hne
                have hnone2 : Hid (∀ q, ∀ (hq : q < (bothV t a b).length), q < m + 1 → ¬ ((bothV t a b)[q] ≠ (bothV t a b)[j] ∧ canB t (bothV t a b)[q] (bothV t a b)[j] = true)) := fun q hq h => by
                  by_cases e : q = m
                  · subst e; exact fun h2 => h2.1 hne
                  · exact hnone.out q hq (by omega)
                clear hne
                go_wp2
                go_roundg g3
                case measure => omega
                case rel => exact ⟨m + 1, by omega, by go_num, hby, hnone2⟩
              · have htest : ((bothV t a b)[m] != (bothV t a b)[j]) = true := by simpa using hne
                go_wp2_with fail
                refine (l2Can_any lo hi _ _ t (bothV t a b)[m] (bothV t a b)[j] _ (Hv.out.below Hbz.out hB) (by omega) (both_types Htb.out hmt hlt)).mono ?_
                rintro e w4 ⟨rfl, hb4⟩
                have Hb4 := Lib.hid hb4
                clear hb4
                by_cases hc : canB t (bothV t a b)[m] (bothV t a b)[j] = true
                · have hh := Lib.hid (joinL_miss hlt (lowB_no hmt hne hc))
                  have hs4 := Hb4.out.size
                  have hb5 := Lib.hid (Hbxy.out.trans (Hb4.out.mono (by omega)))
                  have Hh5 := Lib.hid (show wL.heap.size ≤ w4.heap.size ∧ ∀ k, k < wL.heap.size → k ≠ w.heap.size + 1 → w4.heap[k]? = wL.heap[k]? from ⟨by omega, fun k h1 h2 => (Hb4.out.block k (by omega)).trans (Hhy.out.2 k h1 h2)⟩)
                  have Hown5 := Lib.hid (ownsRow_below Howny.out Hb4.out (Nat.le_refl _))
                  rw [hc]
                  clear hc hne
                  go_wp2
                  go_roundg g2
                  case measure => omega
                  case rel => exact ⟨j + 1, by omega, by go_num, hb5, Hh5, ownsRow_cast Hown5.out (by rw [hh.out]) (by rw [hh.out]), hobx⟩
                · have hcf : canB t (bothV t a b)[m] (bothV t a b)[j] = false := by simpa using hc
                  have hnone2 : Hid (∀ q, ∀ (hq : q < (bothV t a b).length), q < m + 1 → ¬ ((bothV t a b)[q] ≠ (bothV t a b)[j] ∧ canB t (bothV t a b)[q] (bothV t a b)[j] = true)) := fun q hq h => by
                    by_cases e : q = m
                    · subst e; exact fun h2 => hc h2.2
                    · exact hnone.out q hq (by omega)
                  have hby4 := Lib.hid (hby.out.trans (Hb4.out.mono hsy))
                  rw [hcf]
                  clear hc hcf hne
                  go_wp2
                  go_roundg g3
                  case measure => omega
                  case rel => exact ⟨m + 1, by omega, by go_num, hby4, hnone2⟩
end Go.Proofs.Ytfnfcagdoedilaa
