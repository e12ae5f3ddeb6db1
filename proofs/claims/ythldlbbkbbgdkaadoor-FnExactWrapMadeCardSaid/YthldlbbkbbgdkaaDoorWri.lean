/-
  The contracts of strconv.Itoa for every number, of the program's writeOpening and WrapMade.
-/
import Derived.Test.YthldlbbkbbgdkaaDoorTxb
import Derived.Test.YthldlbbkbbgdkaaDoorWrd
import Derived.Lib.LaidTab
namespace Go.Proofs.YthldlbbkbbgdkaaDoor
open Go.RowKit Go.Sort

theorem IntsAt.wf7 {w : World} {lo hi : Nat} {v : Value} {zs : List Int} (h : IntsAt w lo hi v zs) : ∀ z ∈ zs, I64 z := by
  obtain ⟨_, _, _, _, _, h, _⟩ := h
  exact h
/-- The table of powers of ten. -/
def Tab (w : World) (n : Nat) : Prop := 1 < n ∧ Lib.TabIs Tryd.prog w "internal/strconv.uint64pow10" .u64 Lib.pow10Tab
theorem Tab.below {w w' : World} {n B : Nat} (h : Tab w n) (hb : Below B w w') (hn : n ≤ B) : Tab w' n := by
  have hg : Tryd.prog.globalNamed "internal/strconv.uint64pow10" = some 1 := by kernel_rfl
  refine ⟨h.1, ?_⟩
  have h2 := h.2
  unfold Lib.TabIs World.var? at h2 ⊢
  simp only [hg, Option.bind_some] at h2 ⊢
  rw [hb.block _ (by have := h.1; omega)]
  exact h2
theorem grow_below {w : World} (n : Nat) (os : Array Obj) : Below w.heap.size w (grow (w.drewN n) os) :=
  (below_drewN (Below.refl _ w) n).trans ⟨rfl, rfl, rfl, by rw [size_grow]; show w.heap.size ≤ w.heap.size + os.size; omega, fun k hk => heap_grow_old (w.drewN n) os (show k < w.heap.size from hk)⟩
theorem itoa_all (z : Int) (hz : I64 z) (w : World) (n : Nat) (ht : Tab w n) :
    Calls Tryd.prog 40 #[.int .i64 z] w fun e w' => e = .returned (.string (str (Lib.itoa z))) ∧ Below w.heap.size w w' := by
  refine (Any.strconv_Itoa lays171 z hz.1 hz.2 w ht.2).mono ?_
  rintro e w' ⟨rfl, k, os, rfl⟩
  exact ⟨rfl, grow_below k os⟩

set_option maxRecDepth 100000 in
set_option maxHeartbeats 1000000 in
theorem writeOpening_any (b : Nat) (l : List UInt8) (c : UInt8) (x : Int) (hx : x = (c.toNat : Int)) (z : Int) (hz : I64 z) (n : Nat) (w : World) (h : Bld b l w) (hl : l.length + 30 ≤ 4294967296) (ht : Tab w n) (hn : n ≤ b) :
    Calls Tryd.prog 24 #[.pointer (some ⟨b, 0, none⟩), .int .u8 x, .int .i64 z] w fun e w' => e = .returned (.tuple #[]) ∧ Bld b (l ++ ([c] ++ Lib.itoa z ++ [40])) w' ∧ Below b w w' := by
  have Hln := Lib.hid (itoa_len hz)
  have Hx := Lib.hid hx
  have Hz := Lib.hid hz
  have HB := Lib.hid h
  have HT := Lib.hid ht
  clear h ht hx hz
  go_enter Tryd.func24, Tryd.ntmps24
  go_wp2_with fail
  refine (writeByte_any b l c x Hx.out w HB.out (by omega)).mono ?_
  rintro e w1 ⟨⟨v1, rfl⟩, hB1, hb1, _⟩
  have HB1 := Lib.hid hB1
  have HW1 := Lib.hid hb1
  have HT1 : Hid (Tab w1 n) := HT.out.below hb1 hn
  have hl1 := hB1.lt
  clear hB1 hb1 HB HT
  go_wp2_with fail
  refine (itoa_all z Hz.out w1 n HT1.out).mono ?_
  rintro e w2 ⟨rfl, hb2⟩
  have HB2 := Lib.hid (HB1.out.below hb2)
  have HW2 := Lib.hid (HW1.out.trans (hb2.mono (by omega)))
  clear hb2 HB1 HW1 HT1
  go_wp2_with fail
  refine (writeString_any b (l ++ [c]) (Lib.itoa z) w2 HB2.out (by have := Hln.out; simp; omega)).mono ?_
  rintro e w3 ⟨⟨v3, rfl⟩, hB3, hb3, _⟩
  have HB3 := Lib.hid hB3
  have HW3 := Lib.hid (HW2.out.trans hb3)
  clear hB3 hb3 HB2 HW2
  go_wp2_with fail
  refine (writeByte_any b (l ++ [c] ++ Lib.itoa z) 40 40 rfl w3 HB3.out (by have := Hln.out; simp; omega)).mono ?_
  rintro e w4 ⟨⟨v4, rfl⟩, hB4, hb4, _⟩
  have HB4 : Hid (Bld b (l ++ ([c] ++ Lib.itoa z ++ [40])) w4) := by
    show Bld _ _ _
    have e : l ++ [c] ++ Lib.itoa z ++ [40] = l ++ ([c] ++ Lib.itoa z ++ [40]) := by simp
    rw [← e]
    exact hB4
  have HW4 := Lib.hid (HW3.out.trans hb4)
  clear hB4 hb4 HB3 HW3
  go_wp2
  go_end0
  exact ⟨rfl, HB4.out, HW4.out⟩

set_option maxRecDepth 100000 in
set_option maxHeartbeats 2000000 in
theorem implWrap_any (lo hi : Nat) (m : List UInt8) (v : Value) (zs : List Int) (n : Nat) (w : World) (hv : IntsAt w lo hi v zs) (hB : hi ≤ w.heap.size) (hm : m.length ≤ 1048576) (hz : zs.length ≤ 1048576) (ht : Tab w n) (hn : n ≤ w.heap.size) :
    Calls Tryd.prog 9 #[.string (str m), v] w fun e w' => e = .returned (.string (str (wrT m zs))) ∧ Below w.heap.size w w' := by
  obtain ⟨A, cap, rfl, hl1, hm1, hi1⟩ := hv.form
  have hwf := IntsAt.wf7 hv
  have Hi := Lib.hid hi1
  have Hwf := Lib.hid hwf
  have hol := opns_len hwf
  have hwe := Lib.hid (wrT_eq zs m)
  have HB0 : Hid (Bld w.heap.size [] (w.alloc (.cells #[.pointer none, .slice none 0 0] 54))) := Bld.new w
  have HT := Lib.hid ht
  have H0 : Hid (Below w.heap.size w (w.alloc (.cells #[.pointer none, .slice none 0 0] 54))) := (Below.refl _ _).alloc (Nat.le_refl _) _
  clear hi1 hv ht hwf
  go_enter Tryd.func9, Tryd.ntmps9
  go_wp2_with fail
  go_loopw [6] (fun i wr => ∃ j : Nat, j ≤ zs.length ∧ i = .int .i64 ((j : Int) - 1) ∧ Hid (Bld w.heap.size (opns (zs.drop j)) wr) ∧ Hid (Below w.heap.size w wr)) (fun i _ => (intOf i + 1).toNat)
  case atStart =>
    refine ⟨zs.length, Nat.le_refl _, rfl, ?_, H0.out⟩
    show Bld _ _ _
    rw [List.drop_length]
    exact HB0.out
  case round =>
    obtain ⟨j, hj, rfl, hbl, hbr⟩ := hrel
    by_cases hj0 : j = 0
    · subst hj0
      have hneg : ((0 : Nat) : Int) - 1 = -1 := rfl
      rw [hneg]
      rw [List.drop_zero] at hbl
      clear HB0 H0
      go_wp2_with fail
      refine (writeString_any w.heap.size (opns zs) m wr hbl.out (by omega)).mono ?_
      rintro e w2 ⟨⟨v2, rfl⟩, hB2, hb2, _⟩
      have HB2 := Lib.hid hB2
      have HW2 := Lib.hid (hbr.out.trans hb2)
      clear hB2 hb2 hbl hbr
      go_wp2_with fail
      go_loopw [23] (fun i wr => ∃ k : Nat, k ≤ zs.length ∧ i = .int .i64 k ∧ Hid (Bld w.heap.size (opns zs ++ m ++ List.replicate k 41) wr) ∧ Hid (Below w.heap.size w wr)) (fun i _ => zs.length - (intOf i).toNat)
      case atStart =>
        refine ⟨0, Nat.zero_le _, rfl, ?_, HW2.out⟩
        show Bld _ _ _
        simpa using HB2.out
      case round =>
        obtain ⟨k, hk, rfl, hbl, hbr⟩ := hrel
        clear HB2 HW2
        by_cases hkl : k < zs.length
        · go_wp2_with fail
          refine (writeByte_any w.heap.size _ 41 41 rfl wr hbl.out (by simp; omega)).mono ?_
          rintro e w3 ⟨⟨v3, rfl⟩, hB3, hb3, _⟩
          have HB3 : Hid (Bld w.heap.size (opns zs ++ m ++ List.replicate (k + 1) 41) w3) := by
            show Bld _ _ _
            rw [List.replicate_succ', ← List.append_assoc]
            exact hB3
          have HW3 := Lib.hid (hbr.out.trans hb3)
          clear hB3 hb3 hbl hbr
          go_wp2
          go_roundw
          case rel => exact ⟨k + 1, by omega, by go_num, HB3.out, HW3.out⟩
          case measure => simp [intOf]; omega
        · obtain rfl : k = zs.length := by omega
          rw [← hwe.out] at hbl
          go_wp2_with fail
          refine (bldString_any w.heap.size (wrT m zs) wr hbl.out).mono ?_
          rintro e w3 ⟨rfl, hb3⟩
          have HW3 := Lib.hid (hbr.out.trans hb3)
          clear hb3 hbl hbr
          go_wp2
          go_ret
          exact ⟨rfl, HW3.out⟩
    · obtain ⟨k, rfl⟩ : ∃ k, j = k + 1 := ⟨j - 1, by omega⟩
      have e0 : (((k + 1 : Nat) : Int) - 1) = (k : Int) := by omega
      rw [e0]
      have hk : k < zs.length := by omega
      have hge : (0 : Int) ≤ (k : Int) := by omega
      obtain ⟨b3, off3, rfl, _, _, c3, i3⟩ := (Hi.out.below hbr.out hB).at_ hk
      have hdr := Lib.hid (opns_drop zs hk)
      have hdl : (opns (zs.drop (k + 1))).length ≤ 22 * (zs.drop (k + 1)).length := opns_len fun z hz => Hwf.out z (List.mem_of_mem_drop hz)
      have hdl2 : (zs.drop (k + 1)).length ≤ zs.length := by simp
      have I3 := Lib.hid i3
      have HTr : Hid (Tab wr n) := HT.out.below hbr.out hn
      clear e0 hj0 hj i3 HB0 H0
      go_wp2_with fail
      refine (writeOpening_any w.heap.size _ 35 35 rfl zs[k] I3.out n wr hbl.out (by omega) HTr.out hn).mono ?_
      rintro e w2 ⟨rfl, hB2, hb2⟩
      have HB2 : Hid (Bld w.heap.size (opns (zs.drop k)) w2) := by
        show Bld _ _ _
        rw [hdr.out]
        exact hB2
      have HW2 := Lib.hid (hbr.out.trans hb2)
      clear hB2 hb2 hbl hbr c3 HTr
      go_wp2
      go_roundw
      case rel => exact ⟨k, by omega, by go_num, HB2.out, HW2.out⟩
      case measure => simp [intOf]
end Go.Proofs.YthldlbbkbbgdkaaDoor
