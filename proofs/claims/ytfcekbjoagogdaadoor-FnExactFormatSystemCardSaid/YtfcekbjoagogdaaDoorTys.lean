/-
  The contracts of the model's l4Signature and SignatureOf.
-/
import Derived.Test.YtfcekbjoagogdaaDoorTyd
import Derived.Test.YtfcekbjoagogdaaDoorTxs
import Derived.Test.YtfcekbjoagogdaaDoorHask
namespace Go.Proofs.YtfcekbjoagogdaaDoor
open Go.RowKit

theorem box4 {w wk : World} {a b c d : Value} {t : TypeId} (h : Below (w.heap.size + 1) (w.alloc (.cells #[a, b, c, d] t)) wk) :
    wk.cell? ⟨w.heap.size, 0, none⟩ = some a ∧ wk.cell? ⟨w.heap.size, 1, none⟩ = some b ∧ wk.cell? ⟨w.heap.size, 2, none⟩ = some c ∧ wk.cell? ⟨w.heap.size, 3, none⟩ = some d ∧ w.heap.size < wk.heap.size ∧ Below w.heap.size w wk := by
  have hs := h.size
  rw [World.size_alloc] at hs
  refine ⟨(h.cell (p := ⟨w.heap.size, 0, none⟩) (by dsimp only; omega)).trans (by simp [go_sem]), (h.cell (p := ⟨w.heap.size, 1, none⟩) (by dsimp only; omega)).trans (by simp [go_sem]), (h.cell (p := ⟨w.heap.size, 2, none⟩) (by dsimp only; omega)).trans (by simp [go_sem]), (h.cell (p := ⟨w.heap.size, 3, none⟩) (by dsimp only; omega)).trans (by simp [go_sem]), by omega, ((Below.refl _ w).alloc (Nat.le_refl _) _).trans (h.mono (by omega))⟩

set_option maxRecDepth 100000 in
set_option maxHeartbeats 4000000 in
theorem specSig_any (lo hi : Nat) (x a r tv : Value) (f : Fu) (w : World) (hv : FuAt w lo hi x a r tv f) (hB : hi ≤ w.heap.size) (hd : FuDigs f) :
    Calls Tryd.prog 54 #[.agg #[x, a, r, tv]] w fun e w' => e = .returned (.string (str (sigT f))) ∧ Below w.heap.size w w' := by
  obtain ⟨rfl, rfl, hn, hr, ha, ht⟩ := hv
  obtain ⟨A1, cap1, rfl, hl1, hm1, hi1⟩ := ha.form
  obtain ⟨A2, cap2, rfl, hl2, hm2, _⟩ := ht.form
  obtain ⟨name, args, res, table⟩ := f
  have hx : name = str name.data.toList := (str_list _).symm
  have hd2 := Lib.hid hd
  have hsz : name.data.toList.length = 1 := hd.name
  have hes : Hid (sigT ⟨name, args, res, table⟩ = name.data.toList ++ [40] ++ comsTo args args.length ++ [41] ++ dg res) := rfl
  generalize hnm : name.data.toList = nm at hx hsz hes
  subst hx
  have Hi1 := Lib.hid hi1
  clear hn ha ht hl2 hm2 hi1 hd hnm
  have hda : Hid (∀ z ∈ args, Dig z) := hd2.out.args
  have hdr : Hid (Dig res) := hd2.out.res
  have hfew : args.length ≤ 2 := hd2.out.few
  clear hd2
  simp only at hl1 hm1
  have H1 := Lib.hid (Below.refl (w.heap.size + 1) (w.alloc (.cells #[.string (str nm), .slice A1 args.length cap1, .int .i64 res, .slice A2 table.length cap2] 84)))
  have hk : ∀ k, (nm ++ [40] ++ comsTo args k).length ≤ 2 + 2 * k := fun k => by
    have := comsTo_len args k
    simp only [List.length_append, List.length_cons, List.length_nil, hsz]
    omega
  have s0 : str nm ++ (⟨#[40]⟩ : ByteArray) = str (nm ++ [40]) := str_append _ _
  have n0 : ¬ 9223372036854775807 < (str nm).size + 1 := by rw [str_size, hsz]; decide
  have n0' : ¬ 9223372036854775807 < (str nm).size + (⟨#[40]⟩ : ByteArray).size := n0
  obtain ⟨G, hG⟩ : ∃ G : Nat → List UInt8, ∀ k, G k = nm ++ [40] ++ comsTo args k := ⟨fun k => nm ++ [40] ++ comsTo args k, fun _ => rfl⟩
  have hG0 : nm ++ [40] = G 0 := by rw [hG]; simp [comsTo]
  rw [hG0] at s0
  have hGl : Hid (∀ k, (G k).length ≤ 2 + 2 * k) := fun k => by rw [hG]; exact hk k
  have hes2 : Hid (sigT ⟨str nm, args, res, table⟩ = G args.length ++ [41] ++ dg res) := by
    show _ = _
    rw [hes.out, hG]
  have hGs : Hid (∀ k, k < args.length → (if 0 < k then G k ++ [44] else G k) ++ dg (args.getD k 0) = G (k + 1)) := fun k _ => by
    rw [hG, hG, ← comsTo_step args k]
    by_cases h : 0 < k
    · rw [if_pos h, if_pos h]
      simp [List.append_assoc]
    · rw [if_neg h, if_neg h]
      simp [List.append_assoc]
  clear hG hG0 hk hes
  go_enter Tryd.func54, Tryd.ntmps54
  go_wp2_with fail
  clear s0 n0 n0'
  go_loopw [3, 12] (fun o i wr => ∃ k : Nat, k ≤ args.length ∧ i = .int .i64 k ∧ o = .string (str (G k)) ∧ Hid (Below (w.heap.size + 1) (w.alloc (.cells #[.string (str nm), .slice A1 args.length cap1, .int .i64 res, .slice A2 table.length cap2] 84)) wr)) (fun _ i _ => args.length - (intOf i).toNat)
  case atStart => exact ⟨0, Nat.zero_le _, rfl, rfl, H1.out⟩
  case round =>
    obtain ⟨k, hk, rfl, rfl, hbr⟩ := hrel
    obtain ⟨q0, q1, q2, q3, hlt, hbw⟩ := box4 hbr.out
    have Hbw := Lib.hid hbw
    clear hbw
    by_cases hkl : k < args.length
    · obtain ⟨b3, off3, rfl, _, _, c3, _⟩ := (Hi1.out.below Hbw.out hB).at_ hkl
      have e : args.getD k 0 = args[k] := by rw [List.getD_eq_getElem?_getD, List.getElem?_eq_getElem hkl]; rfl
      have hz : Hid (Dig args[k]) := hda.out _ (List.getElem_mem hkl)
      have hgl := hGl.out k
      have es := hGs.out k hkl
      rw [e] at es
      by_cases h0 : 0 < k
      · rw [if_pos h0] at es
        have Es := Lib.hid es
        have sp : str (G k) ++ (⟨#[44]⟩ : ByteArray) = str (G k ++ [44]) := str_append _ _
        have n1 : ¬ 9223372036854775807 < (str (G k)).size + 1 := by rw [str_size]; omega
        have n1' : ¬ 9223372036854775807 < (str (G k)).size + (⟨#[44]⟩ : ByteArray).size := n1
        have n2 : ¬ 9223372036854775807 < (str (G k ++ [44])).size + (str (dg args[k])).size := by
          rw [str_size, str_size, List.length_append]
          simp [dg]
          omega
        clear es
        go_wp2_with fail
        refine (specDec_any args[k] hz.out wr).mono ?_
        rintro e w2 ⟨rfl, hb2⟩
        have Hb2 := Lib.hid (hbr.out.trans (hb2.mono (by omega)))
        clear hb2 hbr
        go_wp2
        rw [str_append, Es.out]
        go_roundw
        case rel => exact ⟨k + 1, by omega, by go_num, rfl, Hb2.out⟩
        case measure => simp [intOf]; omega
      · rw [if_neg h0] at es
        have Es := Lib.hid es
        have n2 : ¬ 9223372036854775807 < (str (G k)).size + (str (dg args[k])).size := by
          rw [str_size, str_size]
          simp [dg]
          omega
        clear es
        go_wp2_with fail
        refine (specDec_any args[k] hz.out wr).mono ?_
        rintro e w2 ⟨rfl, hb2⟩
        have Hb2 := Lib.hid (hbr.out.trans (hb2.mono (by omega)))
        clear hb2 hbr
        go_wp2
        rw [str_append, Es.out]
        go_roundw
        case rel => exact ⟨k + 1, by omega, by go_num, rfl, Hb2.out⟩
        case measure => simp [intOf]; omega
    · obtain rfl : k = args.length := by omega
      have hgl := hGl.out args.length
      have sp : str (G args.length) ++ (⟨#[41]⟩ : ByteArray) = str (G args.length ++ [41]) := str_append _ _
      have n1 : ¬ 9223372036854775807 < (str (G args.length)).size + 1 := by rw [str_size]; omega
      have n1' : ¬ 9223372036854775807 < (str (G args.length)).size + (⟨#[41]⟩ : ByteArray).size := n1
      have n2 : ¬ 9223372036854775807 < (str (G args.length ++ [41])).size + (str (dg res)).size := by
        rw [str_size, str_size, List.length_append]
        simp [dg]
        omega
      go_wp2_with fail
      refine (specDec_any res hdr.out wr).mono ?_
      rintro e w2 ⟨rfl, hb2⟩
      have Hb2 := Lib.hid (Hbw.out.trans (hb2.mono (by omega)))
      clear hb2 hbr
      go_wp2
      go_ret
      refine ⟨?_, Hb2.out⟩
      rw [hes2.out, ← str_append]
      rfl

/-- The text of the i-th function, where there is one. -/
noncomputable def sigOf (y : Sy) (i : Int) : List UInt8 := if hasFB y i = true then sigT (y.fs.getD i.toNat default) else []

set_option maxRecDepth 100000 in
set_option maxHeartbeats 2000000 in
theorem specSigOf_any (lo hi : Nat) (sv cv fv : Value) (y : Sy) (i : Int) (w : World) (hv : SyAt w lo hi sv cv fv y) (hB : hi ≤ w.heap.size) :
    Calls Tryd.prog 18 #[.agg #[sv, cv, fv], .int .i64 i] w fun e w' => e = .returned (.string (str (sigOf y i))) ∧ Below w.heap.size w w' := by
  obtain ⟨A, cap, rfl, hl1, hm1, hi1⟩ := hv.1.1.form
  obtain ⟨B, bap, rfl, hl2, hm2, hc1⟩ := hv.1.2.form
  obtain ⟨F, fap, rfl, hl3, hm3, hf1⟩ := hv.2.form
  unfold maxLen at hm3
  have h3 : Below w.heap.size w (w.alloc (.cells #[.slice A y.ty.sizes.length cap, .slice B y.ty.cos.length bap, .slice F y.fs.length fap] 45)) := by go_grown
  have H1 := Lib.hid (Below.refl (w.heap.size + 1) (w.alloc (.cells #[.slice A y.ty.sizes.length cap, .slice B y.ty.cos.length bap, .slice F y.fs.length fap] 45)))
  have Hf := Lib.hid hf1
  have Hv := Lib.hid hv
  clear hi1 hc1 hf1 hv
  go_enter Tryd.func18, Tryd.ntmps18
  go_wp2_with fail
  refine (l4Has_any lo hi _ _ _ y i _ (Hv.out.below h3 hB) (by simp; omega)).mono ?_
  rintro e w1 ⟨rfl, hb1⟩
  have H2 := Lib.hid (H1.out.trans (hb1.mono (by simp)))
  obtain ⟨q0, q1, q2, hl, hB1⟩ := box3 H2.out
  have HB1 := Lib.hid hB1
  clear hb1 h3 hB1 H1
  by_cases hs : hasFB y i = true
  · obtain ⟨hok, i0, i1, i2⟩ := hasFB_of hs
    have hsig : Hid (sigOf y i = sigT y.fs[i.toNat]) := by
      show _ = _
      unfold sigOf
      rw [if_pos hs, List.getD_eq_getElem?_getD, List.getElem?_eq_getElem i2]
      rfl
    rw [hs]
    have hd := syDigs hok i.toNat i2
    obtain ⟨n, rfl⟩ : ∃ n : Nat, i = n := ⟨i.toNat, by omega⟩
    simp only [Int.toNat_natCast] at i2 hsig hd
    obtain ⟨b, off, A1, cap1, A2, cap2, rfl, _, _, c0, c1, c2, c3, _, _, _, _, hfu⟩ := (Hf.out.below HB1.out hB).at_ i2
    have Hfu := Lib.hid hfu
    clear hfu hs
    go_wp2_with fail
    refine (specSig_any lo hi _ _ _ _ y.fs[n] w1 Hfu.out (by omega) hd).mono ?_
    rintro e w2 ⟨rfl, hb2⟩
    have HB2 := Lib.hid (HB1.out.trans (hb2.mono (by omega)))
    clear hb2
    go_wp2
    go_ret
    exact ⟨by rw [hsig.out]; rfl, HB2.out⟩
  · have hsf : hasFB y i = false := by simpa using hs
    have hsig : Hid (sigOf y i = []) := if_neg hs
    rw [hsf]
    clear hs
    go_wp2
    go_ret
    exact ⟨by rw [hsig.out]; rfl, HB1.out⟩
end Go.Proofs.YtfcekbjoagogdaaDoor
