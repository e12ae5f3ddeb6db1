/-
  The model's draw of the arguments of CallTerm.
-/
import Derived.Test.YtcecljolnknapaaDoorDpl
import Derived.Test.YtcecljolnknapaaDoorStd
import Derived.Test.YtcecljolnknapaaDoorSp6
import Derived.Test.YtcecljolnknapaaDoorPrs
namespace Go.Proofs.YtcecljolnknapaaDoor
open Go.RowKit

def ShortsV (w : World) (N : Nat) (v : Value) : Prop := ∃ g, N ≤ g ∧ v = .slice (some ⟨g, 0, none⟩) 7 7 ∧ ∀ j, j < 7 → ∃ M : List UInt8, M.length ≤ 2 ∧ w.cell? ⟨g, j, none⟩ = some (.string (str M))
theorem ShortsV.keep {w w' : World} {N b : Nat} {v : Value} (h : ShortsV w N v) (hk : Keep b w w') (hb : b < N) : ShortsV w' N v := by
  obtain ⟨g, hg, e, hc⟩ := h
  refine ⟨g, hg, e, fun j hj => ?_⟩
  obtain ⟨M, hM, hcell⟩ := hc j hj
  have hl := World.block_lt_of_cell? _ _ hcell
  exact ⟨M, hM, (World.cell?_of_block (w := w) (a := ⟨g, j, none⟩) (hk.block hl (by dsimp only; omega))).trans hcell⟩
theorem ShortsV.new (w : World) : ShortsV (w.alloc (.cells #[.string ⟨#[102]⟩, .string ⟨#[103]⟩, .string ⟨#[107]⟩, .string ⟨#[101]⟩, .string ⟨#[]⟩, .string ⟨#[102, 102]⟩, .string ⟨#[104]⟩] 9)) w.heap.size (.slice (some ⟨w.heap.size, 0, none⟩) 7 7) :=
  ⟨w.heap.size, Nat.le_refl _, rfl, fun j hj => by
    have hrow := Row.new w 9 [.string ⟨#[102]⟩, .string ⟨#[103]⟩, .string ⟨#[107]⟩, .string ⟨#[101]⟩, .string ⟨#[]⟩, .string ⟨#[102, 102]⟩, .string ⟨#[104]⟩]
    match j, hj with
    | 0, _ => exact ⟨[102], by simp, hrow.cell 0⟩
    | 1, _ => exact ⟨[103], by simp, hrow.cell 1⟩
    | 2, _ => exact ⟨[107], by simp, hrow.cell 2⟩
    | 3, _ => exact ⟨[101], by simp, hrow.cell 3⟩
    | 4, _ => exact ⟨[], by simp, hrow.cell 4⟩
    | 5, _ => exact ⟨[102, 102], by simp, hrow.cell 5⟩
    | 6, _ => exact ⟨[104], by simp, hrow.cell 6⟩⟩

set_option maxRecDepth 100000 in
set_option maxHeartbeats 1000000 in
theorem of7_any (b B N : Nat) (v : Value) (w : World) (h : RdAt w b B) (hB : B ≤ 999999) (hv : ShortsV w N v) (hb : b < N) :
    Calls Tryd.prog 68 #[.pointer (some ⟨b, 0, none⟩), v] w fun e w' => ∃ M : List UInt8, e = .returned (.string (str M)) ∧ M.length ≤ 2 ∧ RdAt w' b (B + 1) ∧ Keep b w w' := by
  have HV := Lib.hid hv
  have HR := Lib.hid h
  obtain ⟨g, hg, rfl, _⟩ := hv
  clear h
  go_enter Tryd.func68, Tryd.ntmps68
  go_wp2_with fail
  refine (pick_any b B 7 w HR.out (by omega) (by omega)).mono ?_
  rintro e w1 ⟨x, rfl, hx, _, hr, hgr, _⟩
  have hx8 := hx (by omega)
  have hk : Keep b w w1 := ⟨hgr⟩
  obtain ⟨g', _, e1, hc⟩ := HV.out.keep hk hb
  injection e1 with e1 _ _
  injection e1 with e1
  injection e1 with e1
  subst e1
  obtain ⟨M, hM, hcell⟩ := hc x (by omega)
  have HK := Lib.hid hk
  have HR1 := Lib.hid hr
  clear hx hr hgr hk hc
  go_wp2
  go_ret
  exact ⟨M, rfl, hM, HR1.out, HK.out⟩

theorem five_wf : ∀ z ∈ ([1, 2, 0, 1, 3] : List Int), I64 z := by
  intro z hz
  simp at hz
  unfold I64
  omega
theorem strVs_snoc (ps : List (List UInt8)) (M : List UInt8) : strVs ps ++ [Value.string (str M)] = strVs (ps ++ [M]) := by unfold strVs; rw [List.map_append]; rfl

set_option maxRecDepth 100000 in
set_option maxHeartbeats 2000000 in
theorem drawCall_any (v : Value) (w : World) (h : CodeAt w w.heap.size v) :
    Calls Tryd.prog 41 #[v] w fun e w' => ∃ (nm : List UInt8) (ps : List (List UInt8)) (r : Value), e = .returned (.tuple #[.string (str nm), r]) ∧ nm.length ≤ 2 ∧ StrsAt w' r ps ∧ ps.length ≤ 3 ∧ (∀ p ∈ ps, p.length ≤ 122) ∧ Below w.heap.size w w' := by
  obtain ⟨i0, hi0, hz0, hz1, hz2⟩ := info_parts (show (Tryd.prog.info? 9).map (fun i => (i.zero, i.size, i.bytes)) = some (some (.string ⟨#[]⟩), 1, 16) by kernel_rfl)
  have HO := Lib.hid (l13Open_any w.heap.size v w h (Nat.le_refl _))
  clear h
  go_enter Tryd.func41, Tryd.ntmps41
  go_wp2_with fail
  refine HO.out.mono ?_
  rintro e w1 ⟨rfl, hb, hs, hr⟩
  have HB := Lib.hid hb
  have HR := Lib.hid hr
  clear hb hr
  have hbl : w.heap.size < w1.heap.size := by omega
  clear hs
  have HA : Hid (Below w1.heap.size w1 (w1.alloc (.cells #[.string ⟨#[102]⟩, .string ⟨#[103]⟩, .string ⟨#[107]⟩, .string ⟨#[101]⟩, .string ⟨#[]⟩, .string ⟨#[102, 102]⟩, .string ⟨#[104]⟩] 9))) := (Below.refl _ _).alloc (Nat.le_refl _) _
  have HS : Hid (ShortsV (w1.alloc (.cells #[.string ⟨#[102]⟩, .string ⟨#[103]⟩, .string ⟨#[107]⟩, .string ⟨#[101]⟩, .string ⟨#[]⟩, .string ⟨#[102, 102]⟩, .string ⟨#[104]⟩] 9)) w1.heap.size (.slice (some ⟨w1.heap.size, 0, none⟩) 7 7)) := ShortsV.new w1
  have HC := Lib.hid (of7_any w.heap.size 0 w1.heap.size _ _ (HR.out.under HA.out) (by omega) HS.out hbl)
  go_wp2_with fail
  refine HC.out.mono ?_
  rintro e w2 ⟨nm, rfl, hnm, hr, hk⟩
  have HR2 := Lib.hid hr
  have hs2 : w.heap.size < w2.heap.size := Nat.lt_of_lt_of_le hbl (Nat.le_trans HA.out.size hk.size)
  have HB2 : Hid (Below w.heap.size w w2) := (HB.out.trans (HA.out.mono (Nat.le_of_lt hbl))).trans (hk.below (Nat.le_refl _) (Nat.le_of_lt (Nat.lt_of_lt_of_le hbl HA.out.size)))
  clear hr hk HR HB HA HS HC hbl
  have hsz : (w2.alloc (.cells #[] 9)).heap.size = w2.heap.size + 1 := World.size_alloc _ _
  have HA : Hid (Below w2.heap.size w2 ((w2.alloc (.cells #[] 9)).alloc (.cells #[.int .i64 1, .int .i64 2, .int .i64 0, .int .i64 1, .int .i64 3] 3))) := ((Below.refl _ _).alloc (Nat.le_refl _) _).alloc (by rw [hsz]; omega) _
  have HO2 : Hid (((w2.alloc (.cells #[] 9)).alloc (.cells #[.int .i64 1, .int .i64 2, .int .i64 0, .int .i64 1, .int .i64 3] 3)).ownsRow w2.heap.size 9 1 (.slice (some ⟨w2.heap.size, 0, none⟩) 0 0) 0 []) := World.ownsRow.alloc (World.ownsRow_lit w2 #[] 0 (Nat.le_refl _) (by unfold maxLen; omega) rfl) _
  have HI : Hid (IntsAt ((w2.alloc (.cells #[] 9)).alloc (.cells #[.int .i64 1, .int .i64 2, .int .i64 0, .int .i64 1, .int .i64 3] 3)) (w2.heap.size + 1) (w2.heap.size + 2) (.slice (some ⟨w2.heap.size + 1, 0, none⟩) 5 5) [1, 2, 0, 1, 3]) := by
    have hr := Row.new (w2.alloc (.cells #[] 9)) 3 (([1, 2, 0, 1, 3] : List Int).map (Value.int .i64))
    rw [hsz] at hr
    exact hr.ints five_wf (Nat.le_refl _) (by omega) (by decide) (by unfold maxLen; omega)
  have hsz2 : w2.heap.size + 2 ≤ ((w2.alloc (.cells #[] 9)).alloc (.cells #[.int .i64 1, .int .i64 2, .int .i64 0, .int .i64 1, .int .i64 3] 3)).heap.size := by rw [World.size_alloc, hsz]; omega
  have HC := Lib.hid (num_any w.heap.size 1 (w2.heap.size + 1) (w2.heap.size + 2) _ _ _ (HR2.out.under HA.out) (by omega) HI.out (by omega) hsz2 (by decide) (by decide))
  clear hsz hsz2
  go_wp2_with fail
  refine HC.out.mono ?_
  rintro e w3 ⟨z, hz, rfl, hr, hg, _⟩
  have hz3 : 0 ≤ z ∧ z ≤ 3 := by simp at hz; omega
  obtain ⟨hza, hzb⟩ := hz3
  have hk : Keep w.heap.size ((w2.alloc (.cells #[] 9)).alloc (.cells #[.int .i64 1, .int .i64 2, .int .i64 0, .int .i64 1, .int .i64 3] 3)) w3 := ⟨hg⟩
  have HR3 := Lib.hid hr
  have HO3 := Lib.hid (own_keep HO2.out hk hs2)
  have HB3 : Hid (Below w.heap.size w w3) := (HB2.out.trans (HA.out.mono (Nat.le_of_lt hs2))).trans (hk.below (Nat.le_refl _) (Nat.le_of_lt (Nat.lt_of_lt_of_le hs2 HA.out.size)))
  have hs3 : w2.heap.size ≤ w3.heap.size := Nat.le_trans HA.out.size hk.size
  clear hz hr hg hk HA HO2 HI HC HR2 HB2
  go_wp2_with fail
  go_loopw [6, 16] (fun o i wr => ∃ (k : Nat) (ps : List (List UInt8)), (k : Int) ≤ z ∧ i = .int .i64 k ∧ w2.heap.size ≤ wr.heap.size ∧ Hid (RdAt wr w.heap.size (2 + 200 * k)) ∧ Hid (Below w.heap.size w wr) ∧ Hid (wr.ownsRow w2.heap.size 9 1 o k (strVs ps)) ∧ Hid (ps.length = k ∧ ∀ p ∈ ps, p.length ≤ 122)) (fun _ i _ => z.toNat - (intOf i).toNat)
  case atStart => exact ⟨0, [], by omega, rfl, hs3, HR3.out, HB3.out, HO3.out, rfl, fun p hp => by cases hp⟩
  case round =>
    obtain ⟨k, ps, hk, rfl, hsr, hrd, hbr, hor, hps⟩ := hrel
    clear HR3 HB3 HO3
    by_cases hkl : (k : Int) < z
    · have HC := Lib.hid (some_any w.heap.size (2 + 200 * k) wr hrd.out (by omega))
      go_wp2_with fail
      refine HC.out.mono ?_
      rintro e w4 ⟨M, rfl, hM, hr, hk4⟩
      have hs4 : w2.heap.size ≤ w4.heap.size := Nat.le_trans hsr hk4.size
      have HR4 := Lib.hid hr
      have HO4 := Lib.hid (own_keep hor.out hk4 hs2)
      have HB4 : Hid (Below w.heap.size w w4) := hbr.out.trans (hk4.below (Nat.le_refl _) (Nat.le_of_lt (Nat.lt_of_lt_of_le hs2 hsr)))
      have hnx : Hid ((ps ++ [M]).length = k + 1 ∧ ∀ p ∈ ps ++ [M], p.length ≤ 122) := by
        show _ ∧ _
        refine ⟨by rw [List.length_append, hps.out.1]; rfl, fun p hp => ?_⟩
        rcases List.mem_append.1 hp with hp | hp
        · exact hps.out.2 p hp
        · simp at hp; subst hp; exact hM
      have htk := Lib.hid (strVs_snoc ps M)
      clear hr hk4 hor hbr hrd hps HC hM
      go_wp2_with (at_builtin; refine wpList_append_own _ rfl (.tmp 18) (.tmp 21) 24 rfl w2.heap.size 9 i0 (.string ⟨#[]⟩) 1 16 Tryd.underlying24 hi0 hz0 hz1 hz2 rfl (by decide) _ _ _ rfl (HO4.out.alloc _) ⟨w4.heap.size, 0, none⟩ 1 1 [.string (str M)] rfl rfl ?c1 ?c2 ?c3 ?c4 ?c5 ?_)
      case c1 =>
        intro j u hj
        match j, hj with
        | 0, hj => simp at hj; subst hj; simp [Addr.add]
      case c2 => intro u hu; simp at hu; subst hu; rfl
      case c3 => unfold maxLen; omega
      case c4 => omega
      case c5 => simp; omega
      intro v2 w5 hown2 hgrow _
      have hal : Below w4.heap.size w4 (w4.alloc (.cells #[.string (str M)] 9)) := (Below.refl _ _).alloc (Nat.le_refl _) _
      have hge := own_ge (HO4.out.alloc (.cells #[.string (str M)] 9))
      have Hb5 : Hid (Below w.heap.size w w5) := (HB4.out.trans (hal.mono (Nat.le_of_lt (Nat.lt_of_lt_of_le hs2 hs4)))).grown hgrow (by simp; omega) fun j hj => Nat.le_trans (Nat.le_of_lt hs2) (hge j hj)
      have HR5 : Hid (RdAt w5 w.heap.size (2 + 200 * (k + 1))) := ((HR4.out.under hal).keep fun g hg => hgrow.block g (Nat.lt_of_le_of_lt hg (Nat.lt_of_lt_of_le hs2 (Nat.le_trans hs4 hal.size))) fun e => by have := hge g e.symm; omega).more (by omega)
      have hs5 : w2.heap.size ≤ w5.heap.size := Nat.le_trans hs4 (Nat.le_trans hal.size hgrow.size)
      have Hown2 := Lib.hid hown2
      clear hown2 hgrow hal hge
      go_wp2
      go_roundw
      case rel => exact ⟨k + 1, ps ++ [M], by omega, by go_num, hs5, HR5.out, Hb5.out, ownsRow_cast Hown2.out rfl htk.out, hnx.out⟩
      case measure => simp [intOf]; omega
    · obtain ⟨OA, OC, rfl⟩ := own_slice' hor.out
      have hfin : Hid (StrsAt wr (.slice OA k OC) ps ∧ ps.length ≤ 3 ∧ ∀ p ∈ ps, p.length ≤ 122) := by
        show _ ∧ _ ∧ _
        have ho := hor.out
        rw [← hps.out.1] at ho
        exact ⟨by have h := strsAt_own ho; rw [hps.out.1] at h; exact h, by have := hps.out.1; omega, hps.out.2⟩
      clear hor hps hrd
      go_wp2
      refine bodyPost_ret (v := .tuple #[.string (str nm), .slice OA k OC]) (by simp [results, Tryd.results41, go_sem]) rfl ?_
      exact ⟨nm, ps, _, rfl, hnm, hfin.out.1, hfin.out.2.1, hfin.out.2.2, hbr.out⟩
end Go.Proofs.YtcecljolnknapaaDoor
