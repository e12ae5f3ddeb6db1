/-
  The contracts of the model's l6Size, SizeOf, l6Depth, DepthOf.
-/
import Derived.Test.YtcecljolnknapaaDoorSp6
namespace Go.Proofs.YtcecljolnknapaaDoor
open Go.RowKit

set_option maxRecDepth 100000 in
set_option maxHeartbeats 4000000 in
theorem l6Size_any : ∀ (q : Nat) (t : Tm) (w : World), (tmT t).length ≤ q → (tmT t).length ≤ 1048576 → TmOk t →
    Calls Tryd.prog 53 #[.string (str (tmT t))] w fun e w' => e = .returned (.int .i64 (sizeT t)) ∧ Below w.heap.size w w' := by
  intro q
  induction q with
  | zero =>
    intro t w hq
    exact absurd hq (by cases t <;> simp [tmT])
  | succ q ih =>
    intro t w hq hm hok
    have IH := Lib.hid ih
    clear ih
    obtain ⟨a, c, r, hLe, _⟩ := tmT_second hok
    have hsz := str_size (tmT t)
    have hl3 : 2 < (tmT t).length := by rw [hLe]; simp
    have b1 : ∀ h, (str (tmT t))[1]'h = if isCallT t = true then 40 else 58 := by rw [hLe]; exact fun _ => rfl
    cases hc : isCallT t with
    | false =>
      have b1' : ∀ h, (str (tmT t))[1]'h = 58 := fun h => by rw [b1 h, hc]; rfl
      have hz : Hid (sizeT t = 1) := by
        show _ = _
        cases t with
        | lit k v => rfl
        | c0 n => cases hc
        | c1 n a => cases hc
        | c2 n a b => cases hc
      obtain ⟨L, hL⟩ : ∃ L, L = tmT t := ⟨_, rfl⟩
      rw [← hL] at b1' hl3 hsz ⊢
      clear b1 hc hLe hL
      go_enter Tryd.func53, Tryd.ntmps53
      go_wp2
      go_ret
      exact ⟨by rw [hz.out]; rfl, Below.refl _ _⟩
    | true =>
      have b1' : ∀ h, (str (tmT t))[1]'h = 40 := fun h => by rw [b1 h, hc]; rfl
      have HPARTS := Lib.hid (l6Parts_any t hok hc w hm)
      obtain ⟨ts, hts⟩ : ∃ ts, ts = partsT t := ⟨_, rfl⟩
      have hall : Hid (∀ p ∈ ts, (tmT p).length + 3 ≤ (tmT t).length ∧ TmOk p) := fun p hp => ⟨partsT_len (by rw [← hts]; exact hp), partsT_ok hok (by rw [← hts]; exact hp)⟩
      have hlen2 : ts.length ≤ 2 := by rw [hts]; exact partsT_two t
      have hdat : Hid (sizeT t = 1 + (ts.map sizeT).sum) := by show _ = _; rw [size_sum, hts]
      rw [← hts] at HPARTS
      have hle := sizeT_le t
      obtain ⟨L, hL⟩ : ∃ L, L = tmT t := ⟨_, rfl⟩
      rw [← hL] at b1' hl3 hsz HPARTS hall hm hq hle ⊢
      have hle := Lib.hid hle
      clear b1 hc hLe hts hL
      go_enter Tryd.func53, Tryd.ntmps53
      go_wp2_with fail
      refine HPARTS.out.mono ?_
      rintro e w1 ⟨v, rfl, hb1, hown⟩
      obtain ⟨PA, PC, rfl⟩ := own_slice' hown
      have Hown := Lib.hid hown
      have HB0 := Lib.hid hb1
      clear hown hb1
      go_wp2_with fail
      go_loopw [3, 12] (fun s i wr => ∃ k : Nat, k ≤ ts.length ∧ i = .int .i64 k ∧ s = .int .i64 ((1 + ((ts.map sizeT).take k).sum : Nat) : Int) ∧ Hid (Below w.heap.size w wr) ∧ Hid (Below w1.heap.size w1 wr)) (fun _ i _ => ts.length - (intOf i).toNat)
      case atStart => exact ⟨0, Nat.zero_le _, rfl, by simp, HB0.out, Below.refl _ _⟩
      case round =>
        obtain ⟨k, hk, rfl, rfl, hbr, hb1r⟩ := hrel
        by_cases hkl : k < ts.length
        · obtain ⟨g, hPA, _, hgw, _, hcells⟩ := own_cells Hown.out (by omega)
          have hck : wr.cell? ⟨g, k, none⟩ = some (.string (str (tmT ts[k]))) := (World.cell?_of_block (w := w1) (hb1r.out.block g hgw)).trans ((hcells k hkl).trans (by simp [strV, hkl]))
          obtain ⟨hpl, hpo⟩ := hall.out ts[k] (List.getElem_mem hkl)
          have hsl := sizeT_le ts[k]
          have HC := Lib.hid (IH.out ts[k] wr (by omega) (by omega) hpo)
          have htk : Hid (1 + ((ts.map sizeT).take (k + 1)).sum = 1 + ((ts.map sizeT).take k).sum + sizeT ts[k]) := by show _ = _; rw [sum_take (by simpa using hkl)]; simp; omega
          have hacc : 1 + ((ts.map sizeT).take k).sum ≤ 1048576 := by have h1 := hle.out; rw [hdat.out] at h1; have h2 := sum_take_le (ts.map sizeT) k; omega
          subst hPA
          obtain ⟨acc, ha⟩ : ∃ acc : Nat, acc = 1 + ((ts.map sizeT).take k).sum := ⟨_, rfl⟩
          rw [← ha] at htk hacc ⊢
          obtain ⟨sk, hsk⟩ : ∃ sk, sk = sizeT ts[k] := ⟨_, rfl⟩
          rw [← hsk] at HC htk hsl
          obtain ⟨pt, hpt⟩ : ∃ pt, pt = tmT ts[k] := ⟨_, rfl⟩
          rw [← hpt] at HC hck hsl hpl
          clear hcells ha hsk hpt hpo
          go_wp2_with (first | (go_at_call 53; refine HC.out.mono ?_; rintro e w2 ⟨rfl, hb2⟩; have HB2 := Lib.hid (hbr.out.trans (hb2.mono hbr.out.size)); have HB3 := Lib.hid (hb1r.out.trans (hb2.mono hb1r.out.size)); clear hb2))
          go_roundw
          case rel => exact ⟨k + 1, by omega, by go_num, by rw [htk.out]; go_num, HB2.out, HB3.out⟩
          case measure => simp [intOf]; omega
        · have hke : k = ts.length := by omega
          subst hke
          have hfin : Hid (sizeT t = 1 + (ts.map sizeT).sum) := hdat.out
          have hki : ¬ ((ts.length : Int) < (ts.length : Int)) := by omega
          have hbnd := hle.out
          obtain ⟨acc, ha⟩ : ∃ acc : Nat, acc = 1 + (ts.map sizeT).sum := ⟨_, rfl⟩
          rw [show 1 + ((ts.map sizeT).take ts.length).sum = 1 + (ts.map sizeT).sum by rw [List.take_of_length_le (by simp)]]
          rw [← ha] at hfin ⊢
          rw [hfin.out] at hbnd
          clear ha hki
          go_wp2
          go_ret
          exact ⟨by rw [hfin.out]; go_num, hbr.out⟩

set_option maxRecDepth 100000 in
set_option maxHeartbeats 4000000 in
theorem l6Depth_any : ∀ (q : Nat) (t : Tm) (w : World), (tmT t).length ≤ q → (tmT t).length ≤ 1048576 → TmOk t →
    Calls Tryd.prog 55 #[.string (str (tmT t))] w fun e w' => e = .returned (.int .i64 (depthT t)) ∧ Below w.heap.size w w' := by
  intro q
  induction q with
  | zero =>
    intro t w hq
    exact absurd hq (by cases t <;> simp [tmT])
  | succ q ih =>
    intro t w hq hm hok
    have IH := Lib.hid ih
    clear ih
    obtain ⟨a, c, r, hLe, _⟩ := tmT_second hok
    have hsz := str_size (tmT t)
    have hl3 : 2 < (tmT t).length := by rw [hLe]; simp
    have b1 : ∀ h, (str (tmT t))[1]'h = if isCallT t = true then 40 else 58 := by rw [hLe]; exact fun _ => rfl
    cases hc : isCallT t with
    | false =>
      have b1' : ∀ h, (str (tmT t))[1]'h = 58 := fun h => by rw [b1 h, hc]; rfl
      have hz : Hid (depthT t = 0) := by
        show _ = _
        cases t with
        | lit k v => rfl
        | c0 n => cases hc
        | c1 n a => cases hc
        | c2 n a b => cases hc
      obtain ⟨L, hL⟩ : ∃ L, L = tmT t := ⟨_, rfl⟩
      rw [← hL] at b1' hl3 hsz ⊢
      clear b1 hc hLe hL
      go_enter Tryd.func55, Tryd.ntmps55
      go_wp2
      go_ret
      exact ⟨by rw [hz.out]; rfl, Below.refl _ _⟩
    | true =>
      have b1' : ∀ h, (str (tmT t))[1]'h = 40 := fun h => by rw [b1 h, hc]; rfl
      have HPARTS := Lib.hid (l6Parts_any t hok hc w hm)
      obtain ⟨ts, hts⟩ : ∃ ts, ts = partsT t := ⟨_, rfl⟩
      have hall : Hid (∀ p ∈ ts, (tmT p).length + 3 ≤ (tmT t).length ∧ TmOk p) := fun p hp => ⟨partsT_len (by rw [← hts]; exact hp), partsT_ok hok (by rw [← hts]; exact hp)⟩
      have hlen2 : ts.length ≤ 2 := by rw [hts]; exact partsT_two t
      have hdat : Hid (depthT t = (ts.map depthT).foldl max 0 + 1) := by show _ = _; rw [depth_max t hc, hts]
      rw [← hts] at HPARTS
      have hle := depthT_le t
      obtain ⟨L, hL⟩ : ∃ L, L = tmT t := ⟨_, rfl⟩
      rw [← hL] at b1' hl3 hsz HPARTS hall hm hq hle ⊢
      have hle := Lib.hid hle
      clear b1 hc hLe hts hL
      go_enter Tryd.func55, Tryd.ntmps55
      go_wp2_with fail
      refine HPARTS.out.mono ?_
      rintro e w1 ⟨v, rfl, hb1, hown⟩
      obtain ⟨PA, PC, rfl⟩ := own_slice' hown
      have Hown := Lib.hid hown
      have HB0 := Lib.hid hb1
      clear hown hb1
      go_wp2_with fail
      go_loopw [3, 12] (fun s i wr => ∃ k : Nat, k ≤ ts.length ∧ i = .int .i64 k ∧ s = .int .i64 ((((ts.map depthT).take k).foldl max 0 : Nat) : Int) ∧ Hid (Below w.heap.size w wr) ∧ Hid (Below w1.heap.size w1 wr)) (fun _ i _ => ts.length - (intOf i).toNat)
      case atStart => exact ⟨0, Nat.zero_le _, rfl, by simp, HB0.out, Below.refl _ _⟩
      case round =>
        obtain ⟨k, hk, rfl, rfl, hbr, hb1r⟩ := hrel
        by_cases hkl : k < ts.length
        · obtain ⟨g, hPA, _, hgw, _, hcells⟩ := own_cells Hown.out (by omega)
          have hck : wr.cell? ⟨g, k, none⟩ = some (.string (str (tmT ts[k]))) := (World.cell?_of_block (w := w1) (hb1r.out.block g hgw)).trans ((hcells k hkl).trans (by simp [strV, hkl]))
          obtain ⟨hpl, hpo⟩ := hall.out ts[k] (List.getElem_mem hkl)
          have hsl := depthT_le ts[k]
          have HC := Lib.hid (IH.out ts[k] wr (by omega) (by omega) hpo)
          have htk : Hid (((ts.map depthT).take (k + 1)).foldl max 0 = max (((ts.map depthT).take k).foldl max 0) (depthT ts[k])) := by show _ = _; rw [maxTo_take _ (by simpa using hkl)]; simp
          have hacc : ((ts.map depthT).take k).foldl max 0 ≤ 1048576 := by have h1 := hle.out; rw [hdat.out] at h1; have h2 := max_take_le (ts.map depthT) k; omega
          subst hPA
          obtain ⟨acc, ha⟩ : ∃ acc : Nat, acc = ((ts.map depthT).take k).foldl max 0 := ⟨_, rfl⟩
          rw [← ha] at htk hacc ⊢
          obtain ⟨sk, hsk⟩ : ∃ sk, sk = depthT ts[k] := ⟨_, rfl⟩
          rw [← hsk] at HC htk hsl
          obtain ⟨pt, hpt⟩ : ∃ pt, pt = tmT ts[k] := ⟨_, rfl⟩
          rw [← hpt] at HC hck hsl hpl
          clear hcells ha hsk hpt hpo
          go_wp2_with (first | (go_at_call 55; refine HC.out.mono ?_; rintro e w2 ⟨rfl, hb2⟩; have HB2 := Lib.hid (hbr.out.trans (hb2.mono hbr.out.size)); have HB3 := Lib.hid (hb1r.out.trans (hb2.mono hb1r.out.size)); clear hb2))
          go_roundw
          case rel => exact ⟨k + 1, by omega, by go_num, by rw [htk.out]; go_num, HB2.out, HB3.out⟩
          case measure => simp [intOf]; omega
        · have hke : k = ts.length := by omega
          subst hke
          have hfin : Hid (depthT t = ((ts.map depthT).foldl max 0) + 1) := hdat.out
          have hki : ¬ ((ts.length : Int) < (ts.length : Int)) := by omega
          have hbnd := hle.out
          obtain ⟨acc, ha⟩ : ∃ acc : Nat, acc = (ts.map depthT).foldl max 0 := ⟨_, rfl⟩
          rw [show (ts.map depthT).take ts.length = ts.map depthT by rw [List.take_of_length_le (by simp)]]
          rw [← ha] at hfin ⊢
          rw [hfin.out] at hbnd
          clear ha hki
          go_wp2
          go_ret
          exact ⟨by rw [hfin.out]; go_num, hbr.out⟩

set_option maxRecDepth 100000 in
set_option maxHeartbeats 1000000 in
theorem specSizeOf_any (L : List UInt8) (hL : L.length ≤ 1048576) (w : World) :
    Calls Tryd.prog 31 #[.string (str L)] w fun e w' => e = .returned (.int .i64 (numP sizeT L)) ∧ Below w.heap.size w w' := by
  have HT := Lib.hid (specTermValid_any L hL w)
  cases hp : parseT L with
  | none =>
    have hc := Lib.hid (numP_none sizeT hp)
    rw [hp] at HT
    clear hp
    go_enter Tryd.func31, Tryd.ntmps31
    go_wp2_with (first | (go_at_call 16; refine HT.out.mono ?_; rintro e w1 ⟨rfl, rfl⟩))
    go_ret
    exact ⟨by rw [hc.out]; rfl, Below.refl _ _⟩
  | some t =>
    have hc := Lib.hid (numP_some sizeT hp)
    obtain ⟨ho, hLt, h60⟩ := parseT_tmT.1 hp
    have HC := l6Size_any (tmT t).length t w (Nat.le_refl _) (by rw [← hLt]; exact hL) ho
    rw [← hLt] at HC
    have HC := Lib.hid HC
    rw [hp] at HT
    clear hp hLt
    go_enter Tryd.func31, Tryd.ntmps31
    go_wp2_with (first | (go_at_call 16; refine HT.out.mono ?_; rintro e w1 ⟨rfl, rfl⟩))
    refine HC.out.mono ?_
    rintro e w2 ⟨rfl, hb⟩
    have HB := Lib.hid hb
    clear hb
    go_wp2
    go_ret
    exact ⟨by rw [hc.out]; try rfl, HB.out⟩

set_option maxRecDepth 100000 in
set_option maxHeartbeats 1000000 in
theorem specDepthOf_any (L : List UInt8) (hL : L.length ≤ 1048576) (w : World) :
    Calls Tryd.prog 33 #[.string (str L)] w fun e w' => e = .returned (.int .i64 (numP depthT L)) ∧ Below w.heap.size w w' := by
  have HT := Lib.hid (specTermValid_any L hL w)
  cases hp : parseT L with
  | none =>
    have hc := Lib.hid (numP_none depthT hp)
    rw [hp] at HT
    clear hp
    go_enter Tryd.func33, Tryd.ntmps33
    go_wp2_with (first | (go_at_call 16; refine HT.out.mono ?_; rintro e w1 ⟨rfl, rfl⟩))
    go_ret
    exact ⟨by rw [hc.out]; rfl, Below.refl _ _⟩
  | some t =>
    have hc := Lib.hid (numP_some depthT hp)
    obtain ⟨ho, hLt, h60⟩ := parseT_tmT.1 hp
    have HC := l6Depth_any (tmT t).length t w (Nat.le_refl _) (by rw [← hLt]; exact hL) ho
    rw [← hLt] at HC
    have HC := Lib.hid HC
    rw [hp] at HT
    clear hp hLt
    go_enter Tryd.func33, Tryd.ntmps33
    go_wp2_with (first | (go_at_call 16; refine HT.out.mono ?_; rintro e w1 ⟨rfl, rfl⟩))
    refine HC.out.mono ?_
    rintro e w2 ⟨rfl, hb⟩
    have HB := Lib.hid hb
    clear hb
    go_wp2
    go_ret
    exact ⟨by rw [hc.out]; try rfl, HB.out⟩
end Go.Proofs.YtcecljolnknapaaDoor
