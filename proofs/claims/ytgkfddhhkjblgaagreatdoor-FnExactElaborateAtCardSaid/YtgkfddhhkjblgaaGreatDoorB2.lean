/-
  The contracts of the functions that weigh a function, some functions, a system.
  The contracts of the functions that copy an argument into new memory.
  The contracts of the functions that copy a function, some functions, a system into new memory.
-/
import Derived.Test.YtgkfddhhkjblgaaGreatDoorB1
import Derived.Test.YtgkfddhhkjblgaaGreatDoorRows
import Derived.Outline
import Derived.Handy
import Derived.Deep.OwnRows
namespace Go.Proofs.YtgkfddhhkjblgaaGreatDoor
open Go.RowKit

set_option maxRecDepth 100000 in
set_option maxHeartbeats 800000 in
theorem szFunction_any (nm : ByteArray) (r : Value) (A : Option Addr) (n c : Nat) (A2 : Option Addr) (n2 c2 : Nat) (left : Int) (w : World) (h0 : 0 ≤ left) (h1 : left ≤ 1048576) (hs : nm.size ≤ maxLen) (hn : n ≤ maxLen) (hn2 : n2 ≤ maxLen) :
    Calls Tryz.prog 65 #[.agg #[.string nm, .slice A n c, r, .slice A2 n2 c2], .int .i64 left] w fun e w' => e = .returned (.int .i64 (subI left (nm.size + n + n2))) ∧ Below w.heap.size w w' := by
  unfold maxLen at hs hn hn2
  by_cases ha : left - nm.size < 0
  · have hs : Hid (subI left (nm.size + n + n2) = -1) := subI_neg (by omega)
    go_enter Tryz.func65, Tryz.ntmps65
    go_wp2
    go_ret
    exact ⟨ret_int hs.out.symm, by go_grown⟩
  · by_cases hb : left - nm.size - n < 0
    · have hs2 : Hid (subI left (nm.size + n + n2) = -1) := subI_neg (by omega)
      have hs := Lib.hid (subI_neg hb)
      go_enter Tryz.func65, Tryz.ntmps65
      go_wp2_with (go_at_call 63; refine (szIntS_any _ _ _ _ _ (by omega) (by omega) (by unfold maxLen; omega)).mono ?_; rintro e w' ⟨rfl, rfl⟩; rw [hs.out])
      go_ret
      exact ⟨ret_int hs2.out.symm, by go_grown⟩
    · have hs := Lib.hid (subI_pos hb)
      by_cases hc : left - nm.size - n - n2 < 0
      · have hs2 : Hid (subI left (nm.size + n + n2) = -1) := subI_neg (by omega)
        have hs3 := Lib.hid (subI_neg hc)
        go_enter Tryz.func65, Tryz.ntmps65
        go_wp2_with (first | (go_at_call 63; with_reducible refine (szIntS_any A n c (left - nm.size) _ (by omega) (by omega) (by unfold maxLen; omega)).mono ?_; rintro e w' ⟨rfl, rfl⟩; rw [hs.out]) | (go_at_call 63; with_reducible refine (szIntS_any A2 n2 c2 (left - nm.size - n) _ (by omega) (by omega) (by unfold maxLen; omega)).mono ?_; rintro e w' ⟨rfl, rfl⟩; rw [hs3.out]))
        go_ret
        exact ⟨ret_int hs2.out.symm, by go_grown⟩
      · have hs2 : Hid (subI left (nm.size + n + n2) = left - nm.size - n - n2) := by
          show _ = _
          rw [subI_pos (by omega)]; omega
        have hs3 := Lib.hid (subI_pos hc)
        go_enter Tryz.func65, Tryz.ntmps65
        go_wp2_with (first | (go_at_call 63; with_reducible refine (szIntS_any A n c (left - nm.size) _ (by omega) (by omega) (by unfold maxLen; omega)).mono ?_; rintro e w' ⟨rfl, rfl⟩; rw [hs.out]) | (go_at_call 63; with_reducible refine (szIntS_any A2 n2 c2 (left - nm.size - n) _ (by omega) (by omega) (by unfold maxLen; omega)).mono ?_; rintro e w' ⟨rfl, rfl⟩; rw [hs3.out]))
        go_ret
        exact ⟨ret_int hs2.out.symm, by go_grown⟩

set_option maxHeartbeats 400000 in
theorem szFunctionS_any (lo hi : Nat) (v : Value) (fs : List Fu) (left : Int) (w : World) (h0 : 0 ≤ left) (h1 : left ≤ 1048576) (hv : FusAt w lo hi v fs) (hB : hi ≤ w.heap.size) :
    Calls Tryz.prog 35 #[v, .int .i64 left] w fun e w' => e = .returned (.int .i64 (subI left (fs.length + fusLen fs fs.length))) ∧ Below w.heap.size w w' := by
  obtain ⟨A, cap, rfl, hl, hm, hc⟩ := hv.form
  unfold maxLen at hm
  clear hv
  by_cases hneg : left - (fs.length : Int) < 0
  · have hs : Hid (subI left (fs.length + fusLen fs fs.length) = -1) := subI_neg (by omega)
    clear hc
    go_enter Tryz.func35, Tryz.ntmps35
    go_wp2
    go_ret
    exact ⟨ret_int hs.out.symm, Below.refl _ _⟩
  · have hc' := Lib.hid hc
    clear hc
    go_enter Tryz.func35, Tryz.ntmps35
    go_wp2
    go_loopw [1, 5] (fun l i wr => ∃ k : Nat, k ≤ fs.length ∧ i = .int .i64 k ∧ l = .int .i64 (left - ((fs.length : Int) + (fusLen fs k : Int))) ∧ 0 ≤ left - ((fs.length : Int) + (fusLen fs k : Int)) ∧ Below w.heap.size w wr) (fun _ i _ => fs.length - (intOf i).toNat)
    case atStart => exact ⟨0, Nat.zero_le _, rfl, by rw [fusLen_zero]; go_num, by rw [fusLen_zero]; omega, Below.refl _ _⟩
    case round =>
      obtain ⟨k, hk, rfl, rfl, hpos, hb⟩ := hrel
      by_cases hlt : k < fs.length
      · obtain ⟨b, off, A1, cap1, A2, cap2, rfl, hlo, hhi, c0, c1, c2, c3, g1, g2, g3, g4, _, _, hn, _⟩ := (hc'.out.below hb hB).at_ hlt
        have hms := Lib.hid (fusLen_succ fs k hlt)
        have hmm := fusLen_mono fs (k + 1)
        rw [hms.out] at hmm
        have hw : (fs.getD k default).weight = fs[k].name.size + fs[k].args.length + fs[k].table.length := by
          rw [List.getD_eq_getElem?_getD, List.getElem?_eq_getElem hlt]; rfl
        rw [hw] at hmm
        have Hw := Lib.hid hw
        clear hw
        clear hc'
        by_cases hn2 : left - ((fs.length : Int) + (fusLen fs k : Int)) - ((fs[k].name.size + fs[k].args.length + fs[k].table.length : Nat) : Int) < 0
        · have hs := Lib.hid (subI_neg hn2)
          have hs' : Hid (subI left (fs.length + fusLen fs fs.length) = -1) := subI_neg (by omega)
          go_wp2_with (go_at_call 65; refine (szFunction_any _ _ _ _ _ _ _ _ _ _ (by omega) (by omega) hn (Nat.le_trans g1 g2) (Nat.le_trans g3 g4)).mono ?_; rintro e w' ⟨rfl, hb2⟩; rw [hs.out])
          go_ret
          exact ⟨ret_int hs'.out.symm, hb.trans (hb2.mono hb.size)⟩
        · have hs := Lib.hid (subI_pos hn2)
          go_wp2_with (go_at_call 65; refine (szFunction_any _ _ _ _ _ _ _ _ _ _ (by omega) (by omega) hn (Nat.le_trans g1 g2) (Nat.le_trans g3 g4)).mono ?_; rintro e w' ⟨rfl, hb2⟩; rw [hs.out])
          go_roundw
          case rel => exact ⟨k + 1, by omega, by go_num, by rw [hms.out, Hw.out]; go_num, by rw [hms.out, Hw.out]; omega, hb.trans (hb2.mono hb.size)⟩
          case measure => simp [intOf]; omega
      · obtain rfl : k = fs.length := by omega
        have hs' : Hid (subI left (fs.length + fusLen fs fs.length) = left - ((fs.length + fusLen fs fs.length : Nat) : Int)) := subI_pos (by omega)
        go_wp2
        go_ret
        exact ⟨ret_int hs'.out.symm, hb⟩

set_option maxHeartbeats 400000 in
theorem szSystem_any (lo hi : Nat) (s c v : Value) (y : Sy) (left : Int) (w : World) (h0 : 0 ≤ left) (h1 : left ≤ 1048576) (hv : SyAt w lo hi s c v y) (hB : hi ≤ w.heap.size) :
    Calls Tryz.prog 10 #[.agg #[s, c, v], .int .i64 left] w fun e w' => e = .returned (.int .i64 (subI left y.bulk)) ∧ Below w.heap.size w w' := by
  obtain ⟨hty, hfs⟩ := hv
  obtain ⟨A, cap, rfl, _, _, hz⟩ := hty.1.form
  obtain ⟨A2, cap2, rfl, _, _, hco⟩ := hty.2.form
  obtain ⟨A3, cap3, rfl, _, _, hfu⟩ := hfs.form
  have hT : TyAt w lo hi (.slice A y.ty.sizes.length cap) (.slice A2 y.ty.cos.length cap2) y.ty := ⟨hz, hco⟩
  clear hty hfs hz hco
  have e : y.bulk = y.ty.bulk + (y.fs.length + fusLen y.fs y.fs.length) := rfl
  have h3 : Below w.heap.size w (w.alloc (.cells #[.slice A y.ty.sizes.length cap, .slice A2 y.ty.cos.length cap2, .slice A3 y.fs.length cap3] 28)) := by go_grown
  by_cases h : left - (y.ty.bulk : Int) < 0
  · have hs := Lib.hid (subI_neg h)
    have hs2 : Hid (subI left y.bulk = -1) := subI_neg (by rw [e]; omega)
    clear e
    go_enter Tryz.func10, Tryz.ntmps10
    go_wp2_with (go_at_call 34; refine (szTypes_any lo hi _ _ y.ty _ _ h0 h1 (hT.below h3 hB) (by simp; omega)).mono ?_; rintro e w' ⟨rfl, hb⟩; rw [hs.out])
    go_ret
    exact ⟨ret_int hs2.out.symm, h3.trans (hb.mono (by simp))⟩
  · have hs := Lib.hid (subI_pos h)
    have hss := subI_sub (m := y.fs.length + fusLen y.fs y.fs.length) h
    rw [← e] at hss
    have hle : (y.ty.bulk : Int) ≤ left := by omega
    have arm := fun (wx : World) (hbx : Below w.heap.size w wx) => szFunctionS_any lo hi _ y.fs (left - y.ty.bulk) wx (by omega) (by omega) (hfu.below hbx hB) (Nat.le_trans hB hbx.size)
    have Arm := Lib.hid arm
    clear arm
    have Hss := Lib.hid hss
    clear hss e
    go_enter Tryz.func10, Tryz.ntmps10
    go_wp2_with fail
    refine (szTypes_any lo hi _ _ y.ty _ _ h0 h1 (hT.below h3 hB) (by simp; omega)).mono ?_
    rintro e w1 ⟨rfl, hb⟩
    have hbel := h3.trans (hb.mono (by simp))
    obtain ⟨hcl, hfr⟩ := bcell hb
    have hz1 := hb.size
    simp only [World.size_alloc] at hcl hfr hz1
    have Hbel := Lib.hid hbel
    clear hbel hb h3
    have hz2 : w.heap.size < w1.heap.size := by omega
    rw [hs.out]
    by_cases h2 : left - y.ty.bulk - ((y.fs.length + fusLen y.fs y.fs.length : Nat) : Int) < 0
    · have hs2 := Lib.hid (subI_neg h2)
      go_wp2_with (go_at_call 35; refine (Arm.out _ Hbel.out).mono ?_; rintro e w' ⟨rfl, hb2⟩; rw [hs2.out])
      go_ret
      exact ⟨ret_int (by rw [← Hss.out, hs2.out]; try omega), Hbel.out.trans (hb2.mono (by omega))⟩
    · have hs2 := Lib.hid (subI_pos h2)
      go_wp2_with (go_at_call 35; refine (Arm.out _ Hbel.out).mono ?_; rintro e w' ⟨rfl, hb2⟩; rw [hs2.out])
      go_ret
      exact ⟨ret_int (by rw [← Hss.out, hs2.out]; try omega), Hbel.out.trans (hb2.mono (by omega))⟩
end Go.Proofs.YtgkfddhhkjblgaaGreatDoor

namespace Go.Proofs.YtgkfddhhkjblgaaGreatDoor
open Go.RowKit

theorem Tryz.infoInt : (Tryz.prog.info? 3).map (fun i => (i.zero, i.size, i.bytes)) = some (some (.int .i64 0), 1, 8) := by kernel_rfl

set_option maxHeartbeats 400000 in
theorem toIntS_any (lo hi : Nat) (v : Value) (zs : List Int) (w : World) (hv : IntsAt w lo hi v zs) (hB : hi ≤ w.heap.size) (hlen : zs.length ≤ 1048576) :
    Calls Tryz.prog 72 #[v] w fun e w' => e = .returned (.slice (some ⟨w.heap.size, 0, none⟩) zs.length zs.length) ∧ Below w.heap.size w w' ∧ w'.heap.size = w.heap.size + 1 ∧ Row w' w.heap.size 3 (zs.map (Value.int .i64)) := by
  obtain ⟨A, cap, rfl, hl, hm, hw, hc⟩ := hv
  unfold maxLen at hm
  have hmk := fun wx => run_make_row' (P := Tryz.prog) 22 3 (.int .i64 0) 8 Tryz.underlying22 Tryz.infoInt rfl .i64 .i64 zs.length (by omega) (by omega) wx
  rw [madeCells_one] at hmk
  have hc' := Lib.hid hc
  clear hc
  go_enter Tryz.func72, Tryz.ntmps72
  go_wp2
  go_loopw [4] (fun i wr => ∃ k : Nat, k ≤ zs.length ∧ i = .int .i64 k ∧ Below w.heap.size w wr ∧ wr.heap.size = w.heap.size + 1 ∧ Row wr w.heap.size 3 ((zs.take k).map (Value.int .i64) ++ List.replicate (zs.length - k) (.int .i64 0))) (fun i _ => zs.length - (intOf i).toNat)
  case atStart => exact ⟨0, Nat.zero_le _, rfl, (Below.refl _ _).alloc (Nat.le_refl _) _, by simp, by rw [fill_zero]; exact Row.new _ _ _⟩
  case round =>
    obtain ⟨k, hk, rfl, hb, hsz, hrow⟩ := hrel
    by_cases hlt : k < zs.length
    · obtain ⟨b, off, rfl, hlo, hhi, hcell⟩ := hc'.out (by omega)
      have c0 := (hb.cell (p := ⟨b, off + k, none⟩) (by simp; omega)).trans (hcell k hlt)
      have c1 := hrow.cell_some (i := k) (by rw [fill_len _ _ _ _ hk]; exact hlt)
      have f1 := hrow.frozen k
      have hset := hrow.set_ k (.int .i64 zs[k])
      rw [fill_step _ _ _ _ hlt] at hset
      generalize ((zs.take k).map (Value.int .i64) ++ List.replicate (zs.length - k) (.int .i64 0))[k]'(by rw [fill_len _ _ _ _ hk]; exact hlt) = u at c1
      have H := Lib.hid hset
      clear hset hrow hcell hc'
      go_wp2
      go_roundw
      case rel => exact ⟨k + 1, by omega, by go_num, hb.setCell (Nat.le_refl _) _, by simpa [World.setCell] using hsz, H.out⟩
      case measure => simp [intOf]; omega
    · obtain rfl : k = zs.length := by omega
      rw [fill_all] at hrow
      have H := Lib.hid hrow
      clear hrow hc'
      go_wp2
      go_ret
      exact ⟨rfl, hb, hsz, H.out⟩

set_option maxHeartbeats 400000 in
theorem toCoercion_any (lo hi : Nat) (x y z : Value) (c : Co) (w : World) (hv : CoAt w lo hi x y z c) (hB : hi ≤ w.heap.size) (hlen : c.map.length ≤ 1048576) :
    Calls Tryz.prog 111 #[.agg #[x, y, z]] w fun e w' => e = .returned (.agg #[.int .i64 c.src, .int .i64 c.dst, .slice (some ⟨w.heap.size + 3, 0, none⟩) c.map.length c.map.length]) ∧
      Below w.heap.size w w' ∧ w'.heap.size = w.heap.size + 4 ∧ Row w' (w.heap.size + 3) 3 (c.map.map (Value.int .i64)) := by
  obtain ⟨rfl, rfl, hs, hd, hz⟩ := hv
  obtain ⟨A, cap, rfl, _, _, hz⟩ := hz.form
  go_enter Tryz.func111, Tryz.ntmps111
  have h3 : Below w.heap.size w (((w.alloc (.cells #[.int .i64 c.src, .int .i64 c.dst, .slice A c.map.length cap] 165)).alloc (.cells #[.int .i64 0, .int .i64 0, .slice none 0 0] 172)).alloc (.cells #[.int .i64 c.src, .int .i64 c.dst, .slice none 0 0] 172)) := by go_grown
  go_wp2_with fail
  refine (toIntS_any lo hi _ c.map _ (hz.below h3 hB) (by simp; omega) hlen).mono ?_
  rintro e w1 ⟨rfl, hb, hsz, hrow⟩
  have hbel := h3.trans (hb.mono (by simp; omega))
  obtain ⟨hcl, hfr⟩ := bcell hb
  simp only [World.size_alloc] at hsz hrow hcl hfr
  have hz1 : w.heap.size + 1 + 1 < w1.heap.size := by omega
  have Hrow := Lib.hid hrow
  have Hsz := Lib.hid hsz
  clear hsz hrow
  go_wp2
  refine bodyPost_ret (v := .agg #[.int .i64 c.src, .int .i64 c.dst, .slice (some ⟨w.heap.size + 1 + 1 + 1, 0, none⟩) c.map.length c.map.length]) (by simp [results, Tryz.results111, go_sem, hcl]) rfl ⟨rfl, ?_, ?_, ?_⟩
  · exact (((hbel.setCell (by dsimp only; omega) _).setCell (by dsimp only; omega) _).setCell (by dsimp only; omega) _).setCell (by dsimp only; omega) _
  · simpa [World.setCell] using Hsz.out
  · exact (((Hrow.out.far (by dsimp only; omega) _).far (by dsimp only; omega) _).far (by dsimp only; omega) _).far (by dsimp only; omega) _

theorem infoCoercion : (Tryz.prog.info? 172).map (fun i => (i.zero, i.size, i.bytes)) = some (some (.agg #[.int .i64 0, .int .i64 0, .slice none 0 0]), 3, 40) := by kernel_rfl

theorem run_make_rows {P : Program} (t e : TypeId) (i : TypeInfo) (z : Value) (ht : P.underlying t = some (.slice e)) (hi : P.info? e = some i) (hz : i.zero = some z)
    (kl kc : IntKind) (n : Nat) (hbytes : i.bytes * n ≤ 281474976710656) (h63 : n ≤ 9223372036854775807) (w : World) :
    (Instr.makeSlice t (.int kl (n : Int)) (.int kc (n : Int))).run P w = .ok (.slice (some ⟨w.heap.size, 0, none⟩) n n) (w.alloc (.cells (madeCells z.cells (n * i.size)) e)) := by
  have hb : (i.bytes : Int) * (n : Int) ≤ 281474976710656 := by
    have h : ((i.bytes * n : Nat) : Int) ≤ 281474976710656 := by omega
    rwa [Int.natCast_mul] at h
  have hr := run_make (P := P) w t e i z ht hi hz kl kc n n (by omega) (by omega) hb (by omega)
  simp only [Int.toNat_natCast] at hr
  exact hr

set_option maxHeartbeats 800000 in
theorem toCoercionS_any (lo hi : Nat) (v : Value) (cs : List Co) (w : World) (hv : CosAt w lo hi v cs) (hB : hi ≤ w.heap.size) (hlen : cs.length ≤ 1048576) (hmaps : ∀ j, ∀ (hj : j < cs.length), cs[j].map.length ≤ 1048576) :
    Calls Tryz.prog 73 #[v] w fun e w' => e = .returned (.slice (some ⟨w.heap.size, 0, none⟩) cs.length cs.length) ∧
      Below w.heap.size w w' ∧ w'.heap.size = w.heap.size + 1 + 4 * cs.length ∧ (∃ xs, Row w' w.heap.size 172 xs ∧ CoRow xs (fun j => w.heap.size + 1 + 4 * j + 3) cs cs.length) ∧
      ∀ j, ∀ (hj : j < cs.length), Row w' (w.heap.size + 1 + 4 * j + 3) 3 (cs[j].map.map (Value.int .i64)) := by
  obtain ⟨A, cap, rfl, hl, hm, hcos⟩ := hv.form
  unfold maxLen at hm
  obtain ⟨i0, hi0, hz0, hs0, hb0⟩ := info_parts infoCoercion
  have hmk := fun wx => run_make_rows (P := Tryz.prog) 32 172 i0 _ Tryz.underlying32 hi0 hz0 .i64 .i64 cs.length (by rw [hb0]; omega) (by omega) wx
  rw [hs0] at hmk
  clear hi0 hz0 hs0 hb0
  generalize hX : madeCells (Value.agg #[.int .i64 0, .int .i64 0, .slice none 0 0]).cells (cs.length * 3) = X at hmk
  have hXs : X.toList.length = cs.length * 3 := by rw [← hX]; simp [madeCells]
  have HX := Lib.hid hXs
  clear hX hXs hv
  go_enter Tryz.func73, Tryz.ntmps73
  go_wp2
  go_loopw [4] (fun i wr => ∃ k : Nat, k ≤ cs.length ∧ i = .int .i64 k ∧ Below w.heap.size w wr ∧ wr.heap.size = w.heap.size + 1 + 4 * k ∧ (∃ xs, Row wr w.heap.size 172 xs ∧ CoRow xs (fun j => w.heap.size + 1 + 4 * j + 3) cs k) ∧
      ∀ j, j < k → ∀ (hj : j < cs.length), Row wr (w.heap.size + 1 + 4 * j + 3) 3 (cs[j].map.map (Value.int .i64))) (fun i _ => cs.length - (intOf i).toNat)
  case atStart => exact ⟨0, Nat.zero_le _, rfl, (Below.refl _ _).alloc (Nat.le_refl _) _, by simp, ⟨X.toList, by simpa using Row.new w _ X.toList, HX.out, fun j hj => absurd hj (by omega)⟩, fun j hj => absurd hj (by omega)⟩
  case round =>
    obtain ⟨k, hk, rfl, hb, hsz, ⟨xs, hrow, hxs⟩, hmr⟩ := hrel
    by_cases hlt : k < cs.length
    · have hin := hcos.below hb hB
      obtain ⟨b, off, A2, cap2, rfl, hlo, hhi, c0, c1, c2, h5, h6, hs, hd, hz2⟩ := hin.at_ hlt
      have hmap := hmaps k hlt
      have Hs := Lib.hid hsz
      clear hsz
      have hbs := hb.size
      go_wp2_with fail
      refine (toCoercion_any lo hi _ _ _ cs[k] _ ⟨rfl, rfl, hs, hd, hz2⟩ (by omega) hmap).mono ?_
      rintro e w1 ⟨rfl, hb1, hsz1, hrow1⟩
      have hrow' := hrow.below hb1 hrow.lt
      have hlx := hxs.1
      have d0 := hrow'.cell_some (i := k * 3) (by omega)
      have d1 := hrow'.cell_some (i := k * 3 + 1) (by omega)
      have d2 := hrow'.cell_some (i := k * 3 + 2) (by omega)
      have g0 := hrow'.frozen (k * 3)
      have g1 := hrow'.frozen (k * 3 + 1)
      have g2 := hrow'.frozen (k * 3 + 2)
      generalize xs[k * 3]'(by omega) = y0 at d0
      generalize xs[k * 3 + 1]'(by omega) = y1 at d1
      generalize xs[k * 3 + 2]'(by omega) = y2 at d2
      have Hx := Lib.hid hxs
      have Hs1 := Lib.hid hsz1
      have Hr := Lib.hid hrow'
      have Hr1 := Lib.hid hrow1
      have Hmr := Lib.hid hmr
      have Hb := Lib.hid hb
      have Hb1 := Lib.hid hb1
      clear hxs hsz1 hrow' hrow1 hmr hrow hlx hin hcos hz2 hb hb1
      go_wp2
      go_roundw
      case rel => 
        have e1 := Hs.out
        have e2 := Hs1.out
        have hbb := Hb.out.trans (Hb1.out.mono (by omega : w.heap.size ≤ wr.heap.size))
        refine ⟨k + 1, by omega, by go_num, ((hbb.setCell (Nat.le_refl _) _).setCell (Nat.le_refl _) _).setCell (Nat.le_refl _) _, ?_, ⟨_, ((Hr.out.set_ _ _).set_ _ _).set_ _ _, ?_⟩, ?_⟩
        · simp only [World.setCell, Array.size_modify]; omega
        · have := Hx.out.step hlt
          rw [← e1] at this
          exact this
        · intro j hj hjl
          by_cases ejk : j = k
          · subst ejk
            rw [← e1]
            exact ((Hr1.out.far (by dsimp only; omega) _).far (by dsimp only; omega) _).far (by dsimp only; omega) _
          · exact ((((Hmr.out j (by omega) hjl).below Hb1.out (by omega)).far (by dsimp only; omega) _).far (by dsimp only; omega) _).far (by dsimp only; omega) _
      case measure => simp [intOf]; omega
    · obtain rfl : k = cs.length := by omega
      have H : Hid (Below w.heap.size w wr ∧ wr.heap.size = w.heap.size + 1 + 4 * cs.length ∧ (∃ xs, Row wr w.heap.size 172 xs ∧ CoRow xs (fun j => w.heap.size + 1 + 4 * j + 3) cs cs.length) ∧
        ∀ j, ∀ (hj : j < cs.length), Row wr (w.heap.size + 1 + 4 * j + 3) 3 (cs[j].map.map (Value.int .i64))) := ⟨hb, hsz, ⟨xs, hrow, hxs⟩, fun j hj => hmr j hj hj⟩
      clear hb hsz hrow hxs hmr hcos
      go_wp2
      go_ret
      exact ⟨rfl, H.out⟩

set_option maxHeartbeats 400000 in
theorem toTypes_any (lo hi : Nat) (s c : Value) (t : Ty) (w : World) (hv : TyAt w lo hi s c t) (hB : hi ≤ w.heap.size) (hlen : t.bulk ≤ 1048576) :
    Calls Tryz.prog 38 #[.agg #[s, c]] w fun e w' => e = .returned (.agg #[.slice (some ⟨w.heap.size + 3, 0, none⟩) t.sizes.length t.sizes.length, .slice (some ⟨w.heap.size + 4, 0, none⟩) t.cos.length t.cos.length]) ∧
      Below w.heap.size w w' ∧ w'.heap.size = w.heap.size + 5 + 4 * t.cos.length ∧ NewTy w' 3 172 (w.heap.size + 3) t := by
  obtain ⟨h1, h2⟩ := hv
  obtain ⟨A, cap, rfl, _, _, hz⟩ := h1.form
  obtain ⟨A2, cap2, rfl, _, _, hcos⟩ := h2.form
  have hl1 : t.sizes.length ≤ 1048576 := by unfold Ty.bulk at hlen; omega
  have hl2 : t.cos.length ≤ 1048576 := by unfold Ty.bulk at hlen; omega
  have hl3 : Hid (∀ j, ∀ (hj : j < t.cos.length), t.cos[j].map.length ≤ 1048576) := fun j hj => Nat.le_trans (t.map_le j hj) hlen
  clear h1 h2
  have h3 : Below w.heap.size w (((w.alloc (.cells #[.slice A t.sizes.length cap, .slice A2 t.cos.length cap2] 25)).alloc (.cells #[.slice none 0 0, .slice none 0 0] 34)).alloc (.cells #[.slice none 0 0, .slice none 0 0] 34)) := by go_grown
  go_enter Tryz.func38, Tryz.ntmps38
  go_wp2_with fail
  refine (toIntS_any lo hi _ t.sizes _ (hz.below h3 hB) (by simp; omega) hl1).mono ?_
  rintro e w1 ⟨rfl, hb, hsz, hrow⟩
  have hbel := h3.trans (hb.mono (by simp; omega))
  obtain ⟨hcl, hfr⟩ := bcell hb
  simp only [World.size_alloc] at hsz hrow hcl hfr
  have hz1 : w.heap.size + 1 + 1 < w1.heap.size := by omega
  have Hrow := Lib.hid hrow
  have Hsz := Lib.hid hsz
  have Hbel := Lib.hid hbel
  clear hsz hrow hbel hb h3
  go_wp2_with fail
  have hs1 : (w1.setCell ⟨w.heap.size + 1 + 1, 0, none⟩ (.slice (some ⟨w.heap.size + 1 + 1 + 1, 0, none⟩) t.sizes.length t.sizes.length)).heap.size = w.heap.size + 1 + 1 + 1 + 1 := by simpa [World.setCell] using Hsz.out
  have hb1 : Below w.heap.size w (w1.setCell ⟨w.heap.size + 1 + 1, 0, none⟩ (.slice (some ⟨w.heap.size + 1 + 1 + 1, 0, none⟩) t.sizes.length t.sizes.length)) := Hbel.out.setCell (by dsimp only; omega) _
  have hr1 : Row (w1.setCell ⟨w.heap.size + 1 + 1, 0, none⟩ (.slice (some ⟨w.heap.size + 1 + 1 + 1, 0, none⟩) t.sizes.length t.sizes.length)) (w.heap.size + 1 + 1 + 1) 3 (t.sizes.map (Value.int .i64)) := Hrow.out.far (by dsimp only; omega) _
  refine (toCoercionS_any lo hi _ t.cos _ (hcos.below hb1 hB) (by rw [hs1]; omega) hl2 hl3.out).mono ?_
  rintro e w2 ⟨rfl, hb2, hsz2, ⟨xs, hrow2, hxs⟩, hmr⟩
  obtain ⟨hcl2, hfr2⟩ := bcell hb2
  have hbel2 := hb1.trans (hb2.mono (by rw [hs1]; omega))
  have hr2 := hr1.below hb2 (by rw [hs1]; omega)
  rw [hs1] at hsz2 hrow2 hcl2 hfr2 hxs hmr
  have hs1' := Lib.hid hs1
  have hz2 : w.heap.size + 1 + 1 < w2.heap.size := by omega
  have Hsz2 := Lib.hid hsz2
  have Hbel2 := Lib.hid hbel2
  have Hr2 := Lib.hid hr2
  have Hrow2 := Lib.hid hrow2
  have Hxs := Lib.hid hxs
  have Hmr := Lib.hid hmr
  clear hsz2 hbel2 hr2 hrow2 hxs hmr hs1 hb1 hr1 hb2 hcos hz
  rw [hs1'.out]
  go_wp2
  refine bodyPost_ret (v := .agg #[.slice (some ⟨w.heap.size + 1 + 1 + 1, 0, none⟩) t.sizes.length t.sizes.length, .slice (some ⟨w.heap.size + 1 + 1 + 1 + 1, 0, none⟩) t.cos.length t.cos.length]) (by simp [results, Tryz.results38, go_sem, hcl2, hcl]) rfl ⟨rfl, ?_, ?_, ?_⟩
  · exact ((Hbel2.out.setCell (by dsimp only; omega) _).setCell (by dsimp only; omega) _).setCell (by dsimp only; omega) _
  · have := Hsz2.out
    simp only [World.setCell, Array.size_modify]; omega
  · refine ⟨((Hr2.out.far (by dsimp only; omega) _).far (by dsimp only; omega) _).far (by dsimp only; omega) _, ⟨xs, ((Hrow2.out.far (by dsimp only; omega) _).far (by dsimp only; omega) _).far (by dsimp only; omega) _, Hxs.out⟩, fun j hj => ?_⟩
    exact (((Hmr.out j hj).far (by dsimp only; omega) _).far (by dsimp only; omega) _).far (by dsimp only; omega) _
end Go.Proofs.YtgkfddhhkjblgaaGreatDoor

namespace Go.Proofs.YtgkfddhhkjblgaaGreatDoor
open Go.RowKit

set_option maxHeartbeats 800000 in
theorem toFunction_any (lo hi : Nat) (x a r t : Value) (f : Fu) (w : World) (hv : FuAt w lo hi x a r t f) (hB : hi ≤ w.heap.size) (hlen : f.args.length ≤ 1048576) (hlen2 : f.table.length ≤ 1048576) :
    Calls Tryz.prog 74 #[.agg #[x, a, r, t]] w fun e w' => e = .returned (.agg #[.string f.name, .slice (some ⟨w.heap.size + 3, 0, none⟩) f.args.length f.args.length, .int .i64 f.res, .slice (some ⟨w.heap.size + 4, 0, none⟩) f.table.length f.table.length]) ∧
      Below w.heap.size w w' ∧ w'.heap.size = w.heap.size + 5 ∧ Row w' (w.heap.size + 3) 3 (f.args.map (Value.int .i64)) ∧ Row w' (w.heap.size + 4) 3 (f.table.map (Value.int .i64)) := by
  obtain ⟨rfl, rfl, _, hs, ha, ht⟩ := hv
  obtain ⟨A, cap, rfl, _, _, ha⟩ := ha.form
  obtain ⟨B, bap, rfl, _, _, ht⟩ := ht.form
  go_enter Tryz.func74, Tryz.ntmps74
  go_wp2_with fail
  have h3 : Below w.heap.size w ((((w.alloc (.cells #[.string f.name, .slice A f.args.length cap, .int .i64 f.res, .slice B f.table.length bap] 100)).alloc (.cells #[.string ByteArray.empty, .slice none 0 0, .int .i64 0, .slice none 0 0] 106)).alloc (.cells #[.string f.name, .slice none 0 0, .int .i64 0, .slice none 0 0] 106))) := by go_grown
  refine (toIntS_any lo hi _ f.args _ (ha.below h3 hB) (by simp; omega) hlen).mono ?_
  rintro e w1 ⟨rfl, hb, hsz, hrow⟩
  have hbel := h3.trans (hb.mono (by simp; omega))
  obtain ⟨hcl, hfr⟩ := bcell hb
  simp only [World.size_alloc] at hsz hrow hcl hfr
  have hz1 : w.heap.size + 1 + 1 < w1.heap.size := by omega
  have Hrow := Lib.hid hrow
  have Hsz := Lib.hid hsz
  have Hbel := Lib.hid hbel
  have Hbw := Lib.hid hb
  clear hsz hrow hbel hb h3 ha
  go_wp2_with fail
  obtain ⟨wu, hwu⟩ : ∃ wu, wu = ((w1.setCell ⟨w.heap.size + 1 + 1, 1, none⟩ (.slice (some ⟨w.heap.size + 1 + 1 + 1, 0, none⟩) f.args.length f.args.length)).setCell ⟨w.heap.size + 1 + 1, 2, none⟩ (.int .i64 f.res)) := ⟨_, rfl⟩
  have hs1 : wu.heap.size = w.heap.size + 1 + 1 + 1 + 1 := by rw [hwu]; simpa [World.setCell] using Hsz.out
  have hb1 : Below w.heap.size w wu := by rw [hwu]; exact (Hbel.out.setCell (by dsimp only; omega) _).setCell (by dsimp only; omega) _
  have hr1 : Row wu (w.heap.size + 1 + 1 + 1) 3 (f.args.map (Value.int .i64)) := by rw [hwu]; exact (Hrow.out.far (by dsimp only; omega) _).far (by dsimp only; omega) _
  have hR1 : Row w1 (w.heap.size + 1 + 1) 106 [.string f.name, .slice none 0 0, .int .i64 0, .slice none 0 0] := by
    have hnew := Row.new ((w.alloc (.cells #[.string f.name, .slice A f.args.length cap, .int .i64 f.res, .slice B f.table.length bap] 100)).alloc (.cells #[.string ByteArray.empty, .slice none 0 0, .int .i64 0, .slice none 0 0] 106)) 106 [.string f.name, .slice none 0 0, .int .i64 0, .slice none 0 0]
    simp only [World.size_alloc] at hnew
    exact hnew.below Hbw.out (by simp)
  have hRu : Row wu (w.heap.size + 1 + 1) 106 [.string f.name, .slice (some ⟨w.heap.size + 1 + 1 + 1, 0, none⟩) f.args.length f.args.length, .int .i64 f.res, .slice none 0 0] := by rw [hwu]; exact (hR1.set_ 1 _).set_ 2 _
  have hB1 : Row w1 (w.heap.size + 1) 106 [.string ByteArray.empty, .slice none 0 0, .int .i64 0, .slice none 0 0] := by
    have hnew := (Row.new (w.alloc (.cells #[.string f.name, .slice A f.args.length cap, .int .i64 f.res, .slice B f.table.length bap] 100)) 106 [.string ByteArray.empty, .slice none 0 0, .int .i64 0, .slice none 0 0]).alloc (.cells #[.string f.name, .slice none 0 0, .int .i64 0, .slice none 0 0] 106)
    simp only [World.size_alloc] at hnew
    exact hnew.below Hbw.out (by simp)
  have hBu : Row wu (w.heap.size + 1) 106 [.string ByteArray.empty, .slice none 0 0, .int .i64 0, .slice none 0 0] := by rw [hwu]; exact (hB1.far (by dsimp only; omega) _).far (by dsimp only; omega) _
  rw [← hwu]
  clear hwu hcl hfr
  refine (toIntS_any lo hi _ f.table _ (ht.below hb1 hB) (by rw [hs1]; omega) hlen2).mono ?_
  rintro e w2 ⟨rfl, hb2, hsz2, hrow2⟩
  rw [hs1] at hsz2 hrow2
  have hbel2 := Lib.hid (hb1.trans (hb2.mono (by omega)))
  have hr2 := Lib.hid (hr1.below hb2 (by omega))
  have hR2 := hRu.below hb2 (by omega)
  have hR2x := Lib.hid hR2
  have k0 := hR2.cell 0
  have k1 := hR2.cell 1
  have k2 := hR2.cell 2
  have k3 := hR2.cell 3
  have m0 := hR2.frozen 0
  have m1 := hR2.frozen 1
  have m2 := hR2.frozen 2
  have m3 := hR2.frozen 3
  simp only [List.getElem?_cons_zero, List.getElem?_cons_succ] at k0 k1 k2 k3
  have hR3 := Lib.hid (hBu.below hb2 (by omega))
  have e0 := hR3.out.cell 0
  have e1 := hR3.out.cell 1
  have e2 := hR3.out.cell 2
  have e3 := hR3.out.cell 3
  have f0 := hR3.out.frozen 0
  have f1 := hR3.out.frozen 1
  have f2 := hR3.out.frozen 2
  have f3 := hR3.out.frozen 3
  simp only [List.getElem?_cons_zero, List.getElem?_cons_succ] at e0 e1 e2 e3
  have Hsz2 := Lib.hid hsz2
  have Hrow2 := Lib.hid hrow2
  rw [hs1]
  clear hsz2 hrow2 hb2 hb1 hr1 hRu hR2 hs1 hR1 hB1 hBu
  have Hb2 := hbel2
  go_wp2
  refine bodyPost_ret (v := .agg #[.string f.name, .slice (some ⟨w.heap.size + 1 + 1 + 1, 0, none⟩) f.args.length f.args.length, .int .i64 f.res, .slice (some ⟨w.heap.size + 1 + 1 + 1 + 1, 0, none⟩) f.table.length f.table.length]) (by simp [results, Tryz.results74, go_sem, e0, e1, e2, e3]) rfl ⟨rfl, ?_, ?_, ?_, ?_⟩
  · exact ((((Hb2.out.setCell (by dsimp only; omega) _).setCell (by dsimp only; omega) _).setCell (by dsimp only; omega) _).setCell (by dsimp only; omega) _).setCell (by dsimp only; omega) _
  · have := Hsz2.out
    simp only [World.setCell, Array.size_modify]; omega
  · exact ((((hr2.out.far (by dsimp only; omega) _).far (by dsimp only; omega) _).far (by dsimp only; omega) _).far (by dsimp only; omega) _).far (by dsimp only; omega) _
  · exact ((((Hrow2.out.far (by dsimp only; omega) _).far (by dsimp only; omega) _).far (by dsimp only; omega) _).far (by dsimp only; omega) _).far (by dsimp only; omega) _

theorem infoFunction : (Tryz.prog.info? 106).map (fun i => (i.zero, i.size, i.bytes)) = some (some (.agg #[.string ByteArray.empty, .slice none 0 0, .int .i64 0, .slice none 0 0]), 4, 72) := by kernel_rfl

set_option maxHeartbeats 1600000 in
theorem toFunctionS_any (lo hi : Nat) (v : Value) (fs : List Fu) (w : World) (hv : FusAt w lo hi v fs) (hB : hi ≤ w.heap.size) (hlen : fs.length ≤ 1048576) (hmaps : ∀ j, ∀ (hj : j < fs.length), fs[j].weight ≤ 1048576) :
    Calls Tryz.prog 39 #[v] w fun e w' => e = .returned (.slice (some ⟨w.heap.size, 0, none⟩) fs.length fs.length) ∧
      Below w.heap.size w w' ∧ w'.heap.size = w.heap.size + 1 + 5 * fs.length ∧ NewFus w' 3 106 w.heap.size fs := by
  obtain ⟨A, cap, rfl, hl, hm, hcos⟩ := hv.form
  unfold maxLen at hm
  obtain ⟨i0, hi0, hz0, hs0, hb0⟩ := info_parts infoFunction
  have hmk := fun wx => run_make_rows (P := Tryz.prog) 35 106 i0 _ Tryz.underlying35 hi0 hz0 .i64 .i64 fs.length (by rw [hb0]; omega) (by omega) wx
  rw [hs0] at hmk
  clear hi0 hz0 hs0 hb0
  generalize hX : madeCells (Value.agg #[.string ByteArray.empty, .slice none 0 0, .int .i64 0, .slice none 0 0]).cells (fs.length * 4) = X at hmk
  have hXs : X.toList.length = fs.length * 4 := by rw [← hX]; simp [madeCells]
  have HX := Lib.hid hXs
  clear hX hXs hv
  go_enter Tryz.func39, Tryz.ntmps39
  go_wp2
  go_loopw [4] (fun i wr => ∃ k : Nat, k ≤ fs.length ∧ i = .int .i64 k ∧ Below w.heap.size w wr ∧ wr.heap.size = w.heap.size + 1 + 5 * k ∧ (∃ xs, Row wr w.heap.size 106 xs ∧ FuRow xs (fun j => w.heap.size + 1 + 5 * j + 3) (fun j => w.heap.size + 1 + 5 * j + 4) fs k) ∧
      ∀ j, j < k → ∀ (hj : j < fs.length), Row wr (w.heap.size + 1 + 5 * j + 3) 3 (fs[j].args.map (Value.int .i64)) ∧ Row wr (w.heap.size + 1 + 5 * j + 4) 3 (fs[j].table.map (Value.int .i64))) (fun i _ => fs.length - (intOf i).toNat)
  case atStart => exact ⟨0, Nat.zero_le _, rfl, (Below.refl _ _).alloc (Nat.le_refl _) _, by simp, ⟨X.toList, by simpa using Row.new w _ X.toList, HX.out, fun j hj => absurd hj (by omega)⟩, fun j hj => absurd hj (by omega)⟩
  case round =>
    obtain ⟨k, hk, rfl, hb, hsz, ⟨xs, hrow, hxs⟩, hmr⟩ := hrel
    by_cases hlt : k < fs.length
    · have hin := hcos.below hb hB
      obtain ⟨b, off, A1, cap1, A2, cap2, rfl, hlo, hhi, c0, c1, c2, c3, h5, h6, h7, h8, hfu⟩ := hin.at_ hlt
      have hmap := hmaps k hlt
      unfold Fu.weight at hmap
      have Hs := Lib.hid hsz
      clear hsz
      have hbs := hb.size
      go_wp2_with fail
      refine (toFunction_any lo hi _ _ _ _ fs[k] _ hfu (by omega) (by omega) (by omega)).mono ?_
      rintro e w1 ⟨rfl, hb1, hsz1, hrow1, hrow1'⟩
      have hrow' := hrow.below hb1 hrow.lt
      have hlx := hxs.1
      have d0 := hrow'.cell_some (i := k * 4) (by omega)
      have d1 := hrow'.cell_some (i := k * 4 + 1) (by omega)
      have d2 := hrow'.cell_some (i := k * 4 + 2) (by omega)
      have d3 := hrow'.cell_some (i := k * 4 + 3) (by omega)
      have g0 := hrow'.frozen (k * 4)
      have g1 := hrow'.frozen (k * 4 + 1)
      have g2 := hrow'.frozen (k * 4 + 2)
      have g3 := hrow'.frozen (k * 4 + 3)
      generalize xs[k * 4]'(by omega) = y0 at d0
      generalize xs[k * 4 + 1]'(by omega) = y1 at d1
      generalize xs[k * 4 + 2]'(by omega) = y2 at d2
      generalize xs[k * 4 + 3]'(by omega) = y3 at d3
      have Hx := Lib.hid hxs
      have Hs1 := Lib.hid hsz1
      have Hr := Lib.hid hrow'
      have Hr1 := Lib.hid hrow1
      have Hr1' := Lib.hid hrow1'
      have Hmr := Lib.hid hmr
      have Hb := Lib.hid hb
      have Hb1 := Lib.hid hb1
      clear hxs hsz1 hrow' hrow1 hrow1' hmr hrow hlx hin hcos hfu hb hb1
      go_wp2
      go_roundw
      case rel =>
        have e1 := Hs.out
        have e2 := Hs1.out
        have hbb := Hb.out.trans (Hb1.out.mono (by omega : w.heap.size ≤ wr.heap.size))
        refine ⟨k + 1, by omega, by go_num, (((hbb.setCell (Nat.le_refl _) _).setCell (Nat.le_refl _) _).setCell (Nat.le_refl _) _).setCell (Nat.le_refl _) _, ?_, ⟨_, (((Hr.out.set_ _ _).set_ _ _).set_ _ _).set_ _ _, ?_⟩, ?_⟩
        · simp only [World.setCell, Array.size_modify]; omega
        · have := Hx.out.step hlt
          rw [← e1] at this
          exact this
        · intro j hj hjl
          by_cases ejk : j = k
          · subst ejk
            rw [← e1]
            exact ⟨(((Hr1.out.far (by dsimp only; omega) _).far (by dsimp only; omega) _).far (by dsimp only; omega) _).far (by dsimp only; omega) _, (((Hr1'.out.far (by dsimp only; omega) _).far (by dsimp only; omega) _).far (by dsimp only; omega) _).far (by dsimp only; omega) _⟩
          · exact ⟨((((((Hmr.out j (by omega) hjl).1).below Hb1.out (by omega)).far (by dsimp only; omega) _).far (by dsimp only; omega) _).far (by dsimp only; omega) _).far (by dsimp only; omega) _, ((((((Hmr.out j (by omega) hjl).2).below Hb1.out (by omega)).far (by dsimp only; omega) _).far (by dsimp only; omega) _).far (by dsimp only; omega) _).far (by dsimp only; omega) _⟩
      case measure => simp [intOf]; omega
    · obtain rfl : k = fs.length := by omega
      have H : Hid (Below w.heap.size w wr ∧ wr.heap.size = w.heap.size + 1 + 5 * fs.length ∧ NewFus wr 3 106 w.heap.size fs) := ⟨hb, hsz, ⟨xs, hrow, hxs⟩, fun j hj => hmr j hj hj⟩
      clear hb hsz hrow hxs hmr hcos
      go_wp2
      go_ret
      exact ⟨rfl, H.out⟩

set_option maxHeartbeats 800000 in
theorem toSystem_any (lo hi : Nat) (s c v : Value) (y : Sy) (w : World) (hv : SyAt w lo hi s c v y) (hB : hi ≤ w.heap.size) (hlen : y.bulk ≤ 1048576) :
    Calls Tryz.prog 12 #[.agg #[s, c, v]] w fun e w' => e = .returned (.agg #[.slice (some ⟨w.heap.size + 6, 0, none⟩) y.ty.sizes.length y.ty.sizes.length, .slice (some ⟨w.heap.size + 7, 0, none⟩) y.ty.cos.length y.ty.cos.length, .slice (some ⟨w.heap.size + 8 + 4 * y.ty.cos.length, 0, none⟩) y.fs.length y.fs.length]) ∧
      Below w.heap.size w w' ∧ w'.heap.size = w.heap.size + 9 + 4 * y.ty.cos.length + 5 * y.fs.length ∧ NewSy w' 3 172 106 (w.heap.size + 6) y := by
  obtain ⟨hty, hf⟩ := hv
  obtain ⟨A, cap, rfl, _, _, hz⟩ := hty.1.form
  obtain ⟨A2, cap2, rfl, _, _, hcos⟩ := hty.2.form
  obtain ⟨A3, cap3, rfl, _, _, hfu⟩ := hf.form
  have hT : TyAt w lo hi (.slice A y.ty.sizes.length cap) (.slice A2 y.ty.cos.length cap2) y.ty := ⟨hz, hcos⟩
  have hl1 : y.ty.bulk ≤ 1048576 := by unfold Sy.bulk at hlen; omega
  have hl2 : y.fs.length ≤ 1048576 := by unfold Sy.bulk at hlen; omega
  have hl3 : Hid (∀ j, ∀ (hj : j < y.fs.length), y.fs[j].weight ≤ 1048576) := fun j hj => Nat.le_trans (y.fu_le j hj) hlen
  clear hty hf hz hcos
  have h3 : Below w.heap.size w (((w.alloc (.cells #[.slice A y.ty.sizes.length cap, .slice A2 y.ty.cos.length cap2, .slice A3 y.fs.length cap3] 28)).alloc (.cells #[.slice none 0 0, .slice none 0 0, .slice none 0 0] 37)).alloc (.cells #[.slice none 0 0, .slice none 0 0, .slice none 0 0] 37)) := by go_grown
  go_enter Tryz.func12, Tryz.ntmps12
  go_wp2_with fail
  refine (toTypes_any lo hi _ _ y.ty _ (hT.below h3 hB) (by simp; omega) hl1).mono ?_
  rintro e w1 ⟨rfl, hb, hsz, hnew⟩
  have hbel := h3.trans (hb.mono (by simp; omega))
  simp only [World.size_alloc] at hsz hnew
  have hR1 : Row w1 (w.heap.size + 1 + 1) 37 [.slice none 0 0, .slice none 0 0, .slice none 0 0] := by
    have hn := Row.new ((w.alloc (.cells #[.slice A y.ty.sizes.length cap, .slice A2 y.ty.cos.length cap2, .slice A3 y.fs.length cap3] 28)).alloc (.cells #[.slice none 0 0, .slice none 0 0, .slice none 0 0] 37)) 37 [.slice none 0 0, .slice none 0 0, .slice none 0 0]
    simp only [World.size_alloc] at hn
    exact hn.below hb (by simp)
  have hB1 : Row w1 (w.heap.size + 1) 37 [.slice none 0 0, .slice none 0 0, .slice none 0 0] := by
    have hn := (Row.new (w.alloc (.cells #[.slice A y.ty.sizes.length cap, .slice A2 y.ty.cos.length cap2, .slice A3 y.fs.length cap3] 28)) 37 [.slice none 0 0, .slice none 0 0, .slice none 0 0]).alloc (.cells #[.slice none 0 0, .slice none 0 0, .slice none 0 0] 37)
    simp only [World.size_alloc] at hn
    exact hn.below hb (by simp)
  have hA1 : Row w1 w.heap.size 28 [.slice A y.ty.sizes.length cap, .slice A2 y.ty.cos.length cap2, .slice A3 y.fs.length cap3] := by
    have hn := ((Row.new w 28 [.slice A y.ty.sizes.length cap, .slice A2 y.ty.cos.length cap2, .slice A3 y.fs.length cap3]).alloc (.cells #[.slice none 0 0, .slice none 0 0, .slice none 0 0] 37)).alloc (.cells #[.slice none 0 0, .slice none 0 0, .slice none 0 0] 37)
    exact hn.below hb (by simp; omega)
  have a0 := hA1.cell 0
  have a1 := hA1.cell 1
  have a2 := hA1.cell 2
  have k0 := hR1.cell 0
  have k1 := hR1.cell 1
  have k2 := hR1.cell 2
  have m0 := hR1.frozen 0
  have m1 := hR1.frozen 1
  have m2 := hR1.frozen 2
  simp only [List.getElem?_cons_zero, List.getElem?_cons_succ] at a0 a1 a2 k0 k1 k2
  have hz1 : w.heap.size + 1 + 1 < w1.heap.size := by omega
  have Hnew := Lib.hid hnew
  have Hsz := Lib.hid hsz
  have Hbel := Lib.hid hbel
  have HR1 := Lib.hid hR1
  have HB1 := Lib.hid hB1
  clear hsz hnew hbel hb h3 hR1 hB1 hA1 hT
  go_wp2_with fail
  obtain ⟨wu, hwu⟩ : ∃ wu, wu = ((w1.setCell ⟨w.heap.size + 1 + 1, 0, none⟩ (.slice (some ⟨w.heap.size + 1 + 1 + 1 + 3, 0, none⟩) y.ty.sizes.length y.ty.sizes.length)).setCell ⟨w.heap.size + 1 + 1, 1, none⟩ (.slice (some ⟨w.heap.size + 1 + 1 + 1 + 4, 0, none⟩) y.ty.cos.length y.ty.cos.length)) := ⟨_, rfl⟩
  have hs1 : wu.heap.size = w.heap.size + 1 + 1 + 1 + 5 + 4 * y.ty.cos.length := by rw [hwu]; simpa [World.setCell] using Hsz.out
  have hb1 : Below w.heap.size w wu := by rw [hwu]; exact (Hbel.out.setCell (by dsimp only; omega) _).setCell (by dsimp only; omega) _
  have hN1 : NewTy wu 3 172 (w.heap.size + 1 + 1 + 1 + 3) y.ty := by
    rw [hwu]
    exact Hnew.out.keep fun k h1 _ => (Below.heap_setCell _ _ _ k (by dsimp only; omega)).trans (Below.heap_setCell _ _ _ k (by dsimp only; omega))
  have hRu : Row wu (w.heap.size + 1 + 1) 37 [.slice (some ⟨w.heap.size + 1 + 1 + 1 + 3, 0, none⟩) y.ty.sizes.length y.ty.sizes.length, .slice (some ⟨w.heap.size + 1 + 1 + 1 + 4, 0, none⟩) y.ty.cos.length y.ty.cos.length, .slice none 0 0] := by rw [hwu]; exact (HR1.out.set_ 0 _).set_ 1 _
  have hBu : Row wu (w.heap.size + 1) 37 [.slice none 0 0, .slice none 0 0, .slice none 0 0] := by rw [hwu]; exact (HB1.out.far (by dsimp only; omega) _).far (by dsimp only; omega) _
  rw [← hwu]
  clear hwu a0 a1 a2 k0 k1 k2 m0 m1 m2
  refine (toFunctionS_any lo hi _ y.fs _ (hfu.below hb1 hB) (by rw [hs1]; omega) hl2 hl3.out).mono ?_
  rintro e w2 ⟨rfl, hb2, hsz2, hnew2⟩
  rw [hs1] at hsz2 hnew2
  have Hb2 := Lib.hid (hb1.trans (hb2.mono (by omega)))
  have Hn2 := Lib.hid (hN1.below hb2 (by omega))
  have Hn3 := Lib.hid hnew2
  have hR2 := hRu.below hb2 (by omega)
  have hR3 := hBu.below hb2 (by omega)
  have k0 := hR2.cell 0
  have k1 := hR2.cell 1
  have k2 := hR2.cell 2
  have m0 := hR2.frozen 0
  have m1 := hR2.frozen 1
  have m2 := hR2.frozen 2
  have e0 := hR3.cell 0
  have e1 := hR3.cell 1
  have e2 := hR3.cell 2
  have f0 := hR3.frozen 0
  have f1 := hR3.frozen 1
  have f2 := hR3.frozen 2
  simp only [List.getElem?_cons_zero, List.getElem?_cons_succ] at k0 k1 k2 e0 e1 e2
  have hz2 : w.heap.size + 1 + 1 < w2.heap.size := by omega
  have Hsz2 := Lib.hid hsz2
  rw [hs1]
  clear hsz2 hnew2 hb2 hb1 hN1 hRu hBu hR2 hR3 hs1 hfu
  go_wp2
  refine bodyPost_ret (v := .agg #[.slice (some ⟨w.heap.size + 1 + 1 + 1 + 3, 0, none⟩) y.ty.sizes.length y.ty.sizes.length, .slice (some ⟨w.heap.size + 1 + 1 + 1 + 4, 0, none⟩) y.ty.cos.length y.ty.cos.length, .slice (some ⟨w.heap.size + 1 + 1 + 1 + 5 + 4 * y.ty.cos.length, 0, none⟩) y.fs.length y.fs.length]) (by simp [results, Tryz.results12, go_sem, e0, e1, e2]) rfl ⟨rfl, ?_, ?_, ?_, ?_⟩
  · exact (((Hb2.out.setCell (by dsimp only; omega) _).setCell (by dsimp only; omega) _).setCell (by dsimp only; omega) _).setCell (by dsimp only; omega) _
  · have := Hsz2.out
    simp only [World.setCell, Array.size_modify]; omega
  · exact Hn2.out.keep fun k h1 _ => (((Below.heap_setCell _ _ _ k (by dsimp only; omega)).trans (Below.heap_setCell _ _ _ k (by dsimp only; omega))).trans (Below.heap_setCell _ _ _ k (by dsimp only; omega))).trans (Below.heap_setCell _ _ _ k (by dsimp only; omega))
  · exact Hn3.out.keep fun k h1 _ => (((Below.heap_setCell _ _ _ k (by dsimp only; omega)).trans (Below.heap_setCell _ _ _ k (by dsimp only; omega))).trans (Below.heap_setCell _ _ _ k (by dsimp only; omega))).trans (Below.heap_setCell _ _ _ k (by dsimp only; omega))
end Go.Proofs.YtgkfddhhkjblgaaGreatDoor

