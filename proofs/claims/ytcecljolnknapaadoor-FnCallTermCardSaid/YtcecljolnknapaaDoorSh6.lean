/-
  The contracts of the model's l6Call, HeadOf, LiteralOf.
-/
import Derived.Test.YtcecljolnknapaaDoorSe6
import Derived.Test.YtcecljolnknapaaDoorTrs
namespace Go.Proofs.YtcecljolnknapaaDoor
open Go.RowKit

/-- The signs of a term that was read. -/
theorem term_signs {L : List UInt8} {t : Tm} (h : parseT L = some t) : ∃ a c r, L = a :: (if isCallT t = true then 40 else 58) :: c :: r ∧ (isCallT t = true → headT t = [a]) ∧ (∀ h, (str L)[0]'h = a) ∧ (∀ h, (str L)[1]'h = if isCallT t = true then 40 else 58) ∧ (∀ h, (str L)[2]'h = c) := by
  obtain ⟨ho, e, _⟩ := parseT_tmT.1 h
  obtain ⟨a, c, r, e2, e3⟩ := tmT_second ho
  rw [e2] at e
  subst e
  exact ⟨a, c, r, rfl, fun hc => (e3 hc).1, fun _ => rfl, fun _ => rfl, fun _ => rfl⟩

set_option maxRecDepth 100000 in
set_option maxHeartbeats 1000000 in
theorem l6Call_any (L : List UInt8) (hL : L.length ≤ 1048576) (w : World) :
    Calls Tryd.prog 46 #[.string (str L)] w fun e w' => e = .returned (.bool (callP L)) ∧ w' = w := by
  have hsz := str_size L
  have HT := Lib.hid (specTermValid_any L hL w)
  cases hp : parseT L with
  | none =>
    have hc := Lib.hid (callP_none hp)
    rw [hp] at HT
    clear hp
    go_enter Tryd.func46, Tryd.ntmps46
    go_wp2_with (first | (go_at_call 16; refine HT.out.mono ?_; rintro e w1 ⟨rfl, rfl⟩))
    go_ret
    exact ⟨by rw [hc.out]; rfl, rfl⟩
  | some t =>
    have hc := Lib.hid (callP_some hp)
    obtain ⟨a, c, r, hLe, _, _, b1, _⟩ := term_signs hp
    have h1 : 1 < L.length := by rw [hLe]; simp
    rw [hp] at HT
    clear hp hLe
    cases hcc : isCallT t with
    | true =>
      rw [hcc] at hc
      have b1' : ∀ h, (str L)[1]'h = 40 := fun h => by rw [b1 h, hcc]; rfl
      clear b1 hcc
      go_enter Tryd.func46, Tryd.ntmps46
      go_wp2_with (first | (go_at_call 16; refine HT.out.mono ?_; rintro e w1 ⟨rfl, rfl⟩))
      go_ret
      exact ⟨by rw [hc.out]; rfl, rfl⟩
    | false =>
      rw [hcc] at hc
      have b1' : ∀ h, (str L)[1]'h = 58 := fun h => by rw [b1 h, hcc]; rfl
      clear b1 hcc
      go_enter Tryd.func46, Tryd.ntmps46
      go_wp2_with (first | (go_at_call 16; refine HT.out.mono ?_; rintro e w1 ⟨rfl, rfl⟩))
      go_ret
      exact ⟨by rw [hc.out]; rfl, rfl⟩

set_option maxRecDepth 100000 in
set_option maxHeartbeats 1000000 in
theorem specHead_any (L : List UInt8) (hL : L.length ≤ 1048576) (w : World) :
    Calls Tryd.prog 18 #[.string (str L)] w fun e w' => e = .returned (.string (str (headP L))) ∧ w' = w := by
  have hsz := str_size L
  have HC := Lib.hid (l6Call_any L hL w)
  cases hcp : callP L with
  | false =>
    rw [hcp] at HC
    have hh : Hid (headP L = []) := by
      show _ = _
      cases hp : parseT L with
      | none => exact headP_none hp
      | some t => rw [headP_some hp]; exact (headT_call (by rw [← callP_some hp]; exact hcp)).1
    clear hcp
    go_enter Tryd.func18, Tryd.ntmps18
    go_wp2_with (first | (go_at_call 46; refine HC.out.mono ?_; rintro e w1 ⟨rfl, rfl⟩))
    go_ret
    exact ⟨by rw [hh.out]; rfl, rfl⟩
  | true =>
    rw [hcp] at HC
    cases hp : parseT L with
    | none => rw [callP_none hp] at hcp; cases hcp
    | some t =>
      obtain ⟨a, c, r, hLe, hh, _, _, _⟩ := term_signs hp
      have hH : Hid (headP L = [a]) := by show _ = _; rw [headP_some hp]; exact hh (by rw [← callP_some hp]; exact hcp)
      have h1 : 1 < L.length := by rw [hLe]; simp
      have he : (str L).extract 0 1 = str [a] := by rw [hLe]; exact str_head1 _ _
      clear hp hcp hh hLe
      go_enter Tryd.func18, Tryd.ntmps18
      go_wp2_with (first | (go_at_call 46; refine HC.out.mono ?_; rintro e w1 ⟨rfl, rfl⟩))
      go_ret
      exact ⟨by rw [hH.out]; rfl, rfl⟩

theorem lit_vals {L r : List UInt8} {a x c : UInt8} {k v : Int} (hL : L = a :: x :: c :: r) (h : parseT L = some (.lit k v)) : (a.toNat : Int) = 48 + k ∧ (c.toNat : Int) = 48 + v ∧ Dig k ∧ Dig v := by
  obtain ⟨ho, e, _⟩ := parseT_tmT.1 h
  have key : ∀ {z : Int}, Dig z → ((UInt8.ofNat (48 + z.toNat)).toNat : Int) = 48 + z := by
    intro z hz
    unfold Dig at hz
    rw [UInt8.toNat_ofNat', show (48 + z.toNat) % 2 ^ 8 = 48 + z.toNat by omega]
    omega
  have e' : L = [UInt8.ofNat (48 + k.toNat), 58, UInt8.ofNat (48 + v.toNat)] := e
  rw [hL] at e'
  injection e' with e1 e2
  injection e2 with e2 e3
  injection e3 with e3 e4
  exact ⟨by rw [e1]; exact key ho.1, by rw [e3]; exact key ho.2, ho.1, ho.2⟩

set_option maxRecDepth 100000 in
set_option maxHeartbeats 2000000 in
theorem specLiteral_any (L : List UInt8) (hL : L.length ≤ 1048576) (w : World) :
    Calls Tryd.prog 25 #[.string (str L)] w fun e w' => e = .returned (.tuple #[.int .i64 (litP L).1, .int .i64 (litP L).2.1, .bool (litP L).2.2]) ∧ Below w.heap.size w w' := by
  have hsz := str_size L
  have HT := Lib.hid (specTermValid_any L hL w)
  cases hp : parseT L with
  | none =>
    have hc := Lib.hid (litP_none hp)
    rw [hp] at HT
    clear hp
    go_enter Tryd.func25, Tryd.ntmps25
    go_wp2_with (first | (go_at_call 16; refine HT.out.mono ?_; rintro e w1 ⟨rfl, rfl⟩))
    refine bodyPost_ret (v := .tuple #[.int .i64 0, .int .i64 0, .bool false]) (by simp [results, Tryd.results25, go_sem]) rfl ?_
    exact ⟨by rw [hc.out], Below.refl _ _⟩
  | some t =>
    have hc := Lib.hid (litP_some hp)
    obtain ⟨a, c, r, hLe, _, b0, b1, b2⟩ := term_signs hp
    have h1 : 2 < L.length := by rw [hLe]; simp
    have h2 : 1 < L.length := by omega
    rw [hp] at HT
    cases hcc : isCallT t with
    | true =>
      rw [litT_call hcc] at hc
      have b1' : ∀ h, (str L)[1]'h = 40 := fun h => by rw [b1 h, hcc]; rfl
      clear b1 hcc hp hLe
      go_enter Tryd.func25, Tryd.ntmps25
      go_wp2_with (first | (go_at_call 16; refine HT.out.mono ?_; rintro e w1 ⟨rfl, rfl⟩))
      refine bodyPost_ret (v := .tuple #[.int .i64 0, .int .i64 0, .bool false]) (by simp [results, Tryd.results25, go_sem]) rfl ?_
      exact ⟨by rw [hc.out], Below.refl _ _⟩
    | false =>
      cases t with
      | c0 n => cases hcc
      | c1 n a => cases hcc
      | c2 n a b => cases hcc
      | lit k v =>
        obtain ⟨g0, g2, d1, d2⟩ := lit_vals hLe hp
        unfold Dig at d1 d2
        have ea : wrap64 (wrap64 (a.toNat : Int) - 48) = k := by unfold wrap64; omega
        have ec : wrap64 (wrap64 (c.toNat : Int) - 48) = v := by unfold wrap64; omega
        clear g0 g2 d1 d2
        have b1' : ∀ h, (str L)[1]'h = 58 := fun h => by rw [b1 h, hcc]; rfl
        clear b1 hcc hp hLe
        go_enter Tryd.func25, Tryd.ntmps25
        go_wp2_with (first | (go_at_call 16; refine HT.out.mono ?_; rintro e w1 ⟨rfl, rfl⟩))
        go_quiet (fail)
        go_wp2
        refine bodyPost_ret (v := .tuple #[.int .i64 k, .int .i64 v, .bool true]) (by simp [results, Tryd.results25, go_sem, ea, ec]) rfl ?_
        exact ⟨by rw [hc.out]; try rfl, below_drewN (Below.refl _ _) _⟩
end Go.Proofs.YtcecljolnknapaaDoor
