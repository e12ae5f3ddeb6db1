/-
  The contract of the program's FormatTypes.
-/
import Derived.Test.YtfcekbjoagogdaaDoorTxb
import Derived.Test.YtfcekbjoagogdaaDoorTxc
import Derived.Test.YtfcekbjoagogdaaDoorIv
import Derived.Test.YtfcekbjoagogdaaDoorIt
namespace Go.Proofs.YtfcekbjoagogdaaDoor
open Go.RowKit

theorem coAt_kept {w w' : World} {lo hi : Nat} {x y z : Value} {c : Co} (h : CoAt w lo hi x y z c) (hk : ∀ k, lo ≤ k → k < hi → w'.heap[k]? = w.heap[k]?) : CoAt w' lo hi x y z c := by
  obtain ⟨h1, h2, h3, h4, h5⟩ := h
  exact ⟨h1, h2, h3, h4, h5.keep hk⟩

set_option maxRecDepth 100000 in
set_option maxHeartbeats 4000000 in
theorem implFormat_any (lo hi : Nat) (sv cv : Value) (t : Ty) (w : World) (hv : TyAt w lo hi sv cv t) (hB : hi ≤ w.heap.size) :
    Calls Tryd.prog 11 #[.agg #[sv, cv]] w fun e w' => e = .returned (.string (str (fmtTy t))) ∧ Below w.heap.size w w' := by
  obtain ⟨A, cap, rfl, hl1, hm1, _⟩ := hv.1.form
  obtain ⟨B, bap, rfl, hl2, hm2, _⟩ := hv.2.form
  clear hl1 hm1 hl2 hm2
  have Hv := Lib.hid hv
  clear hv
  have h1 : Below (w.heap.size + 1) (w.alloc (.cells #[.slice A t.sizes.length cap, .slice B t.cos.length bap] 30)) (w.alloc (.cells #[.slice A t.sizes.length cap, .slice B t.cos.length bap] 30)) := Below.refl _ _
  have H1 := Lib.hid h1
  clear h1
  go_enter Tryd.func11, Tryd.ntmps11
  go_wp2_with fail
  refine (implValid_any lo hi _ _ t _ (Hv.out.below (box2 H1.out).2.2.2 hB) (by simp; omega)).mono ?_
  rintro e w2 ⟨rfl, hb2⟩
  have H2 := Lib.hid (H1.out.trans (hb2.mono (by simp)))
  obtain ⟨q0, q1, hl2, _⟩ := box2 H2.out
  clear hb2
  by_cases hok : tyOk t = true
  · have hd := Lib.hid (tyDigs hok)
    have hf : Hid (fmtTy t = tyT t) := if_pos hok
    rw [hok]
    have hl5 := hd.out.few
    have hs2 : w.heap.size + 1 ≤ w2.heap.size := by omega
    have H2a : Hid (Below (w.heap.size + 1) (w.alloc (.cells #[.slice A t.sizes.length cap, .slice B t.cos.length bap] 30)) (w2.alloc (.cells #[.pointer none, .slice none 0 0] 66))) := H2.out.alloc hs2 _
    have hb0 : Hid (Bld w2.heap.size [] (w2.alloc (.cells #[.pointer none, .slice none 0 0] 66))) := Bld.new w2
    go_wp2_with fail
    refine (implNums_any lo hi _ t.sizes _ (Hv.out.below (box2 H2a.out).2.2.2 hB).1 (by simp; omega) hd.out.sizes (by omega)).mono ?_
    rintro e w3 ⟨rfl, hb3⟩
    have hs3 := hb3.size
    rw [World.size_alloc] at hs3
    have H3 := Lib.hid (H2a.out.trans (hb3.mono (by simp; omega)))
    have hB3 := Lib.hid (hb0.out.below hb3)
    clear hb3 H2a hb0 q0 q1
    go_wp2_with fail
    refine (writeString_any w2.heap.size [] (numsT t.sizes) w3 hB3.out (by have := numsT_len t.sizes; simp; omega)).mono ?_
    rintro e w4 ⟨⟨v4, rfl⟩, hB4, hb4, _⟩
    rw [List.nil_append] at hB4
    have H4 := Lib.hid (H3.out.trans (hb4.mono hs2))
    have HB4 := Lib.hid hB4
    obtain ⟨q0', q1', hl4, _⟩ := box2 H4.out
    clear hb4 hB4 hB3 H3
    go_wp2_with fail
    go_loopw [16] (fun i wr => ∃ k : Nat, k ≤ t.cos.length ∧ i = .int .i64 k ∧ Hid (Bld w2.heap.size (tyTo t k) wr) ∧ Hid (Below (w.heap.size + 1) (w.alloc (.cells #[.slice A t.sizes.length cap, .slice B t.cos.length bap] 30)) wr)) (fun i _ => t.cos.length - (intOf i).toNat)
    case atStart => exact ⟨0, Nat.zero_le _, rfl, HB4.out, H4.out⟩
    case round =>
      obtain ⟨k, hk, rfl, hbl, hbr⟩ := hrel
      obtain ⟨r0, r1, hlr, hbw⟩ := box2 hbr.out
      have Hbw := Lib.hid hbw
      have hltb := hbl.out.lt
      clear hbw q0' q1' H4 HB4
      by_cases hkl : k < t.cos.length
      · obtain ⟨b4, off4, A2, cap2, rfl, _, _, c0, c1, c2, _, _, hs4, hd4, hz4⟩ := (Hv.out.below Hbw.out hB).2.at_ hkl
        have hz := Lib.hid (hd.out.each k hkl)
        have hlen := tyTo_len hd.out k (by omega)
        have hc8 := hd.out.cos
        have eg : Hid (t.cos.getD k default = t.cos[k]) := by
          show _ = _
          rw [List.getD_eq_getElem?_getD, List.getElem?_eq_getElem hkl]; rfl
        have hco : Hid (CoAt wr lo hi (.int .i64 t.cos[k].src) (.int .i64 t.cos[k].dst) (.slice A2 t.cos[k].map.length cap2) t.cos[k]) := ⟨rfl, rfl, hs4, hd4, hz4⟩
        clear hz4
        have hrow : Hid (Row (wr.alloc (.cells #[.int .i64 t.cos[k].src, .int .i64 t.cos[k].dst, .slice A2 t.cos[k].map.length cap2] 59)) wr.heap.size 59 [.int .i64 t.cos[k].src, .int .i64 t.cos[k].dst, .slice A2 t.cos[k].map.length cap2]) := Row.new _ _ _
        go_wp2_with fail
        refine (writeByte_any w2.heap.size (tyTo t k) 59 59 rfl _ (hbl.out.alloc _) (by omega)).mono ?_
        rintro e w5 ⟨⟨v5, rfl⟩, hB5, hb5, ho5⟩
        have hs5 := hb5.size
        have hrow5 := others_row ho5 hrow.out (by omega) (by decide)
        have H5 := Lib.hid ((hbr.out.alloc (by omega) (.cells #[.int .i64 t.cos[k].src, .int .i64 t.cos[k].dst, .slice A2 t.cos[k].map.length cap2] 59)).trans (hb5.mono hs2))
        have Hx5 := Lib.hid (((Below.refl w2.heap.size wr).alloc (by omega) (.cells #[.int .i64 t.cos[k].src, .int .i64 t.cos[k].dst, .slice A2 t.cos[k].map.length cap2] 59)).trans hb5)
        have HB5 := Lib.hid hB5
        have p0 := hrow5.cell 0
        have p1 := hrow5.cell 1
        have p2 := hrow5.cell 2
        simp only [List.getElem?_cons_zero, List.getElem?_cons_succ] at p0 p1 p2
        clear hb5 ho5 hrow hrow5 hB5 hbl hs5 c0 c1 c2 r0 r1
        have hlt5 := HB5.out.lt
        go_wp2_with fail
        refine (implCo_any lo hi _ _ _ t.cos[k] w5 (coAt_kept hco.out fun j _ hj => Hx5.out.block j (by omega)) (by omega) hz.out.1 hz.out.2.1 hz.out.2.2.1 hz.out.2.2.2).mono ?_
        rintro e w6 ⟨rfl, hb6⟩
        have hs6 := hb6.size
        have H6 := Lib.hid (H5.out.trans (hb6.mono (by omega)))
        have HB6 := Lib.hid (HB5.out.below hb6)
        clear hb6 H5 HB5 p0 p1 p2
        have hcl := coT_len t.cos[k]
        have hml := hz.out.2.2.2
        go_wp2_with fail
        refine (writeString_any w2.heap.size (tyTo t k ++ [59]) (coT t.cos[k]) w6 HB6.out (by simp; omega)).mono ?_
        rintro e w7 ⟨⟨v7, rfl⟩, hB7, hb7, _⟩
        have H7 := Lib.hid (H6.out.trans (hb7.mono hs2))
        have HB7 : Hid (Bld w2.heap.size (tyTo t (k + 1)) w7) := by
          show Bld w2.heap.size (tyTo t k ++ [59] ++ coT (t.cos.getD k default)) w7
          rw [eg.out]
          exact hB7
        clear hB7 hb7 H6 HB6
        go_wp2
        go_roundw
        case rel => exact ⟨k + 1, by omega, by go_num, HB7.out, H7.out⟩
        case measure => simp [intOf]; omega
      · obtain rfl : k = t.cos.length := by omega
        go_wp2_with fail
        refine (bldString_any w2.heap.size (tyT t) wr hbl.out).mono ?_
        rintro e w5 ⟨rfl, hb5⟩
        have H5 := Lib.hid (hbr.out.trans (hb5.mono hs2))
        clear hb5
        go_wp2
        go_ret
        exact ⟨by rw [hf.out]; rfl, (box2 H5.out).2.2.2⟩
  · have hff : tyOk t = false := by simpa using hok
    have hf : Hid (fmtTy t = []) := if_neg hok
    rw [hff]
    go_wp2
    go_ret
    exact ⟨by rw [hf.out]; rfl, (box2 H2.out).2.2.2⟩
end Go.Proofs.YtfcekbjoagogdaaDoor
