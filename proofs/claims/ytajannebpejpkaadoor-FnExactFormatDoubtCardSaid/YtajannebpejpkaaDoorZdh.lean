/-
  The law's helpers at gaps, clashes and doubts: what they weigh, how they are copied, when they are equal.
-/
import Derived.Test.YtajannebpejpkaaDoorSz
import Derived.Test.YtajannebpejpkaaDoorTo
import Derived.Test.YtajannebpejpkaaDoorEq
namespace Go.Proofs.YtajannebpejpkaaDoor
open Go.RowKit

set_option maxHeartbeats 400000 in
theorem szGap_any (nm : ByteArray) (A : Option Addr) (n c : Nat) (left : Int) (w : World) (h0 : 0 ≤ left) (h1 : left ≤ 1048576) (hn : n ≤ maxLen) (hs : nm.size ≤ 9223372036854775807) :
    Calls Tryd.prog 16 #[.agg #[.string nm, .slice A n c], .int .i64 left] w fun e w' => e = .returned (.int .i64 (subI left (nm.size + n))) ∧ Below w.heap.size w w' := by
  by_cases hg : left - (nm.size : Int) < 0
  · have hs2 : Hid (subI left (nm.size + n) = -1) := subI_neg (by omega)
    go_enter Tryd.func16, Tryd.ntmps16
    go_wp2
    go_ret
    exact ⟨ret_int hs2.out.symm, by go_grown⟩
  · by_cases h : left - nm.size - n < 0
    · have hs2 : Hid (subI left (nm.size + n) = -1) := subI_neg (by omega)
      have hs3 : Hid (subI (left - nm.size) n = -1) := subI_neg h
      go_enter Tryd.func16, Tryd.ntmps16
      go_wp2_with (go_at_call 28; refine (szIntS_any _ _ _ _ _ (by omega) (by omega) hn).mono ?_; rintro e w' ⟨rfl, rfl⟩; rw [hs3.out])
      go_ret
      exact ⟨ret_int hs2.out.symm, by go_grown⟩
    · have hs2 : Hid (subI left (nm.size + n) = left - nm.size - n) := (subI_pos (by omega)).trans (by omega)
      have hs3 : Hid (subI (left - nm.size) n = left - nm.size - n) := subI_pos h
      go_enter Tryd.func16, Tryd.ntmps16
      go_wp2_with (go_at_call 28; refine (szIntS_any _ _ _ _ _ (by omega) (by omega) hn).mono ?_; rintro e w' ⟨rfl, rfl⟩; rw [hs3.out])
      go_ret
      exact ⟨ret_int hs2.out.symm, by go_grown⟩

set_option maxHeartbeats 400000 in
theorem szClash_any (x y : Value) (A : Option Addr) (n c : Nat) (left : Int) (w : World) (h0 : 0 ≤ left) (h1 : left ≤ 1048576) (hn : n ≤ maxLen) :
    Calls Tryd.prog 21 #[.agg #[x, y, .slice A n c], .int .i64 left] w fun e w' => e = .returned (.int .i64 (subI left n)) ∧ Below w.heap.size w w' := by
  by_cases h : left - n < 0
  · have hs := Lib.hid (subI_neg h)
    go_enter Tryd.func21, Tryd.ntmps21
    go_wp2_with (go_at_call 28; refine (szIntS_any _ _ _ _ _ h0 h1 hn).mono ?_; rintro e w' ⟨rfl, rfl⟩; rw [hs.out])
    go_ret
    exact ⟨ret_int hs.out.symm, by go_grown⟩
  · have hs := Lib.hid (subI_pos h)
    go_enter Tryd.func21, Tryd.ntmps21
    go_wp2_with (go_at_call 28; refine (szIntS_any _ _ _ _ _ h0 h1 hn).mono ?_; rintro e w' ⟨rfl, rfl⟩; rw [hs.out])
    go_ret
    exact ⟨ret_int hs.out.symm, by go_grown⟩

set_option maxHeartbeats 800000 in
theorem szDoubt_any (x y z : Value) (A A2 : Option Addr) (n c n2 c2 : Nat) (left : Int) (w : World) (h0 : 0 ≤ left) (h1 : left ≤ 1048576) (hn : n ≤ maxLen) (hn2 : n2 ≤ maxLen) :
    Calls Tryd.prog 11 #[.agg #[x, y, z, .slice A n c, .slice A2 n2 c2], .int .i64 left] w fun e w' => e = .returned (.int .i64 (subI left (n + n2))) ∧ Below w.heap.size w w' := by
  by_cases hg : left - (n : Int) < 0
  · have hs2 : Hid (subI left (n + n2) = -1) := subI_neg (by omega)
    have hs := Lib.hid (subI_neg hg)
    go_enter Tryd.func11, Tryd.ntmps11
    go_wp2_with (go_at_call 28; refine (szIntS_any _ _ _ _ _ h0 h1 hn).mono ?_; rintro e w' ⟨rfl, rfl⟩; rw [hs.out])
    go_ret
    exact ⟨ret_int hs2.out.symm, by go_grown⟩
  · have hs := Lib.hid (subI_pos hg)
    by_cases h : left - n - n2 < 0
    · have hs2 : Hid (subI left (n + n2) = -1) := subI_neg (by omega)
      have hs3 : Hid (subI (left - n) n2 = -1) := subI_neg h
      go_enter Tryd.func11, Tryd.ntmps11
      go_wp2_with fail
      refine (szIntS_any A n c left _ h0 h1 hn).mono ?_
      rintro e w' ⟨rfl, rfl⟩
      rw [hs.out]
      go_wp2_with fail
      refine (szIntS_any A2 n2 c2 (left - n) _ (by omega) (by omega) hn2).mono ?_
      rintro e w' ⟨rfl, rfl⟩
      rw [hs3.out]
      go_wp2
      go_ret
      exact ⟨ret_int hs2.out.symm, by go_grown⟩
    · have hs2 : Hid (subI left (n + n2) = left - n - n2) := (subI_pos (by omega)).trans (by omega)
      have hs3 : Hid (subI (left - n) n2 = left - n - n2) := subI_pos h
      go_enter Tryd.func11, Tryd.ntmps11
      go_wp2_with fail
      refine (szIntS_any A n c left _ h0 h1 hn).mono ?_
      rintro e w' ⟨rfl, rfl⟩
      rw [hs.out]
      go_wp2_with fail
      refine (szIntS_any A2 n2 c2 (left - n) _ (by omega) (by omega) hn2).mono ?_
      rintro e w' ⟨rfl, rfl⟩
      rw [hs3.out]
      go_wp2
      go_ret
      exact ⟨ret_int hs2.out.symm, by go_grown⟩

set_option maxRecDepth 100000 in
set_option maxHeartbeats 1000000 in
theorem toGap_any (lo hi : Nat) (nm : ByteArray) (z : Value) (zs : List Int) (w : World) (hz : IntsAt w lo hi z zs) (hB : hi ≤ w.heap.size) (hlen : zs.length ≤ 1048576) :
    Calls Tryd.prog 18 #[.agg #[.string nm, z]] w fun e w' => e = .returned (.agg #[.string nm, .slice (some ⟨w.heap.size + 3, 0, none⟩) zs.length zs.length]) ∧
      Below w.heap.size w w' ∧ w'.heap.size = w.heap.size + 4 ∧ Row w' (w.heap.size + 3) 3 (zs.map (Value.int .i64)) := by
  obtain ⟨A, cap, rfl, _, _, hz⟩ := hz.form
  go_enter Tryd.func18, Tryd.ntmps18
  have h3 : Below w.heap.size w (((w.alloc (.cells #[.string nm, .slice A zs.length cap] 36)).alloc (.cells #[.string ⟨#[]⟩, .slice none 0 0] 39)).alloc (.cells #[.string nm, .slice none 0 0] 39)) := by go_grown
  go_wp2_with fail
  refine (toIntS_any lo hi _ zs _ (hz.below h3 hB) (by simp; omega) hlen).mono ?_
  rintro e w1 ⟨rfl, hb, hsz, hrow⟩
  have hbel := h3.trans (hb.mono (by simp; omega))
  obtain ⟨hcl, hfr⟩ := bcell hb
  simp only [World.size_alloc] at hsz hrow hcl hfr
  have hz1 : w.heap.size + 1 + 1 < w1.heap.size := by omega
  have Hrow := Lib.hid hrow
  have Hsz := Lib.hid hsz
  clear hsz hrow
  go_wp2
  refine bodyPost_ret (v := .agg #[.string nm, .slice (some ⟨w.heap.size + 1 + 1 + 1, 0, none⟩) zs.length zs.length]) (by simp [results, Tryd.results18, go_sem, hcl]) rfl ⟨rfl, ?_, ?_, ?_⟩
  · exact ((hbel.setCell (by dsimp only; omega) _).setCell (by dsimp only; omega) _).setCell (by dsimp only; omega) _
  · simpa [World.setCell] using Hsz.out
  · exact ((Hrow.out.far (by dsimp only; omega) _).far (by dsimp only; omega) _).far (by dsimp only; omega) _

set_option maxRecDepth 100000 in
set_option maxHeartbeats 1000000 in
theorem toClash_any (lo hi : Nat) (a b : Int) (z : Value) (zs : List Int) (w : World) (hz : IntsAt w lo hi z zs) (hB : hi ≤ w.heap.size) (hlen : zs.length ≤ 1048576) :
    Calls Tryd.prog 23 #[.agg #[.int .i64 a, .int .i64 b, z]] w fun e w' => e = .returned (.agg #[.int .i64 a, .int .i64 b, .slice (some ⟨w.heap.size + 3, 0, none⟩) zs.length zs.length]) ∧
      Below w.heap.size w w' ∧ w'.heap.size = w.heap.size + 4 ∧ Row w' (w.heap.size + 3) 3 (zs.map (Value.int .i64)) := by
  obtain ⟨A, cap, rfl, _, _, hz⟩ := hz.form
  go_enter Tryd.func23, Tryd.ntmps23
  have h3 : Below w.heap.size w (((w.alloc (.cells #[.int .i64 a, .int .i64 b, .slice A zs.length cap] 44)).alloc (.cells #[.int .i64 0, .int .i64 0, .slice none 0 0] 47)).alloc (.cells #[.int .i64 a, .int .i64 b, .slice none 0 0] 47)) := by go_grown
  go_wp2_with fail
  refine (toIntS_any lo hi _ zs _ (hz.below h3 hB) (by simp; omega) hlen).mono ?_
  rintro e w1 ⟨rfl, hb, hsz, hrow⟩
  have hbel := h3.trans (hb.mono (by simp; omega))
  obtain ⟨hcl, hfr⟩ := bcell hb
  simp only [World.size_alloc] at hsz hrow hcl hfr
  have hz1 : w.heap.size + 1 + 1 < w1.heap.size := by omega
  have Hrow := Lib.hid hrow
  have Hsz := Lib.hid hsz
  clear hsz hrow
  go_wp2
  refine bodyPost_ret (v := .agg #[.int .i64 a, .int .i64 b, .slice (some ⟨w.heap.size + 1 + 1 + 1, 0, none⟩) zs.length zs.length]) (by simp [results, Tryd.results23, go_sem, hcl]) rfl ⟨rfl, ?_, ?_, ?_⟩
  · exact (((hbel.setCell (by dsimp only; omega) _).setCell (by dsimp only; omega) _).setCell (by dsimp only; omega) _).setCell (by dsimp only; omega) _
  · simpa [World.setCell] using Hsz.out
  · exact (((Hrow.out.far (by dsimp only; omega) _).far (by dsimp only; omega) _).far (by dsimp only; omega) _).far (by dsimp only; omega) _

set_option maxRecDepth 100000 in
set_option maxHeartbeats 1000000 in
theorem eqGapZ (lo hi lo' hi' : Nat) (nm : ByteArray) (v v' : Value) (zs : List Int) (w : World) (hv : IntsAt w lo hi v zs) (hv' : IntsAt w lo' hi' v' zs) (hB : hi ≤ w.heap.size) (hB' : hi' ≤ w.heap.size) :
    Calls Tryd.prog 20 #[.agg #[.string nm, v], .agg #[.string nm, v']] w fun e w' => e = .returned (.bool true) ∧ Below w.heap.size w w' := by
  obtain ⟨A, cap, rfl, _, _, ha⟩ := hv.form
  obtain ⟨A', cap', rfl, _, _, ha'⟩ := hv'.form
  have h3 : Below w.heap.size w ((w.alloc (.cells #[.string nm, .slice A zs.length cap] 39)).alloc (.cells #[.string nm, .slice A' zs.length cap'] 39)) := by go_grown
  have HQ := Lib.hid (eqIntS_same lo hi lo' hi' _ _ zs _ (hv.below h3 hB) (hv'.below h3 hB') (by simp; omega) (by simp; omega))
  have H3 := Lib.hid h3
  clear hv hv' ha ha' h3
  go_enter Tryd.func20, Tryd.ntmps20
  go_wp2_with fail
  refine HQ.out.mono ?_
  clear HQ
  rintro e w1 ⟨rfl, hb⟩
  have HB := Lib.hid (H3.out.trans (hb.mono (by simp; omega)))
  clear hb
  go_wp2
  go_ret
  exact ⟨rfl, HB.out⟩

set_option maxRecDepth 100000 in
set_option maxHeartbeats 1000000 in
theorem eqClashZ (lo hi lo' hi' : Nat) (a b : Int) (v v' : Value) (zs : List Int) (w : World) (hv : IntsAt w lo hi v zs) (hv' : IntsAt w lo' hi' v' zs) (hB : hi ≤ w.heap.size) (hB' : hi' ≤ w.heap.size) :
    Calls Tryd.prog 25 #[.agg #[.int .i64 a, .int .i64 b, v], .agg #[.int .i64 a, .int .i64 b, v']] w fun e w' => e = .returned (.bool true) ∧ Below w.heap.size w w' := by
  obtain ⟨A, cap, rfl, _, _, ha⟩ := hv.form
  obtain ⟨A', cap', rfl, _, _, ha'⟩ := hv'.form
  have h3 : Below w.heap.size w ((w.alloc (.cells #[.int .i64 a, .int .i64 b, .slice A zs.length cap] 47)).alloc (.cells #[.int .i64 a, .int .i64 b, .slice A' zs.length cap'] 47)) := by go_grown
  have HQ := Lib.hid (eqIntS_same lo hi lo' hi' _ _ zs _ (hv.below h3 hB) (hv'.below h3 hB') (by simp; omega) (by simp; omega))
  have H3 := Lib.hid h3
  clear hv hv' ha ha' h3
  go_enter Tryd.func25, Tryd.ntmps25
  go_wp2_with fail
  refine HQ.out.mono ?_
  clear HQ
  rintro e w1 ⟨rfl, hb⟩
  have HB := Lib.hid (H3.out.trans (hb.mono (by simp; omega)))
  clear hb
  go_wp2
  go_ret
  exact ⟨rfl, HB.out⟩

set_option maxRecDepth 100000 in
set_option maxHeartbeats 1000000 in
theorem toDoubt_any (lo hi : Nat) (a b c : Int) (z z2 : Value) (zs ys : List Int) (w : World) (hz : IntsAt w lo hi z zs) (hy : IntsAt w lo hi z2 ys) (hB : hi ≤ w.heap.size) (hlen : zs.length ≤ 1048576) (hlen2 : ys.length ≤ 1048576) :
    Calls Tryd.prog 13 #[.agg #[.int .i64 a, .int .i64 b, .int .i64 c, z, z2]] w fun e w' => e = .returned (.agg #[.int .i64 a, .int .i64 b, .int .i64 c, .slice (some ⟨w.heap.size + 3, 0, none⟩) zs.length zs.length, .slice (some ⟨w.heap.size + 4, 0, none⟩) ys.length ys.length]) ∧
      Below w.heap.size w w' ∧ w'.heap.size = w.heap.size + 5 ∧ Row w' (w.heap.size + 3) 3 (zs.map (Value.int .i64)) ∧ Row w' (w.heap.size + 4) 3 (ys.map (Value.int .i64)) := by
  obtain ⟨A, cap, rfl, _, _, hz⟩ := hz.form
  obtain ⟨A2, cap2, rfl, _, _, hy⟩ := hy.form
  go_enter Tryd.func13, Tryd.ntmps13
  have h3 : Below w.heap.size w (((w.alloc (.cells #[.int .i64 a, .int .i64 b, .int .i64 c, .slice A zs.length cap, .slice A2 ys.length cap2] 28)).alloc (.cells #[.int .i64 0, .int .i64 0, .int .i64 0, .slice none 0 0, .slice none 0 0] 31)).alloc (.cells #[.int .i64 a, .int .i64 b, .int .i64 c, .slice none 0 0, .slice none 0 0] 31)) := by go_grown
  go_wp2_with fail
  refine (toIntS_any lo hi _ zs _ (hz.below h3 hB) (by simp; omega) hlen).mono ?_
  rintro e w1 ⟨rfl, hb, hsz, hrow⟩
  have hbel := h3.trans (hb.mono (by simp; omega))
  obtain ⟨hcl, hfr⟩ := bcell hb
  simp only [World.size_alloc] at hsz hrow hcl hfr
  have hz1 : w.heap.size + 1 + 1 < w1.heap.size := by omega
  have Hrow := Lib.hid hrow
  have Hsz := Lib.hid hsz
  clear hsz hrow hb
  go_wp2_with fail
  have hb2 := Lib.hid (hbel.setCell (p := ⟨w.heap.size + 1 + 1, 3, none⟩) (by dsimp only; omega) (Value.slice (some ⟨w.heap.size + 1 + 1 + 1, 0, none⟩) zs.length zs.length))
  have hs2 : w.heap.size + 4 = (w1.setCell ⟨w.heap.size + 1 + 1, 3, none⟩ (Value.slice (some ⟨w.heap.size + 1 + 1 + 1, 0, none⟩) zs.length zs.length)).heap.size := by
    have h := Hsz.out
    simp [World.setCell]
    omega
  refine (toIntS_any lo hi _ ys _ (hy.below hb2.out hB) (by omega) hlen2).mono ?_
  rintro e w3 ⟨rfl, hb3, hs3, hr3⟩
  rw [← hs2] at hs3 hr3 hb3 ⊢
  have H3 := Lib.hid (hb2.out.trans (hb3.mono (by omega)))
  obtain ⟨hcl3, hfr3⟩ := bcell hb3
  have Hr1 := Lib.hid ((Hrow.out.far (p := ⟨w.heap.size + 1 + 1, 3, none⟩) (by dsimp only; omega) (Value.slice (some ⟨w.heap.size + 1 + 1 + 1, 0, none⟩) zs.length zs.length)).below hb3 (by omega))
  have Hr3 := Lib.hid hr3
  have Hs3 := Lib.hid hs3
  clear hb3 hr3 hs2 hb2 Hrow hbel
  go_wp2
  refine bodyPost_ret (v := .agg #[.int .i64 a, .int .i64 b, .int .i64 c, .slice (some ⟨w.heap.size + 1 + 1 + 1, 0, none⟩) zs.length zs.length, .slice (some ⟨w.heap.size + 4, 0, none⟩) ys.length ys.length]) (by simp [results, Tryd.results13, go_sem, hcl, hcl3]) rfl ⟨rfl, ?_, ?_, ?_, ?_⟩
  · exact (((((H3.out.setCell (by dsimp only; omega) _).setCell (by dsimp only; omega) _).setCell (by dsimp only; omega) _).setCell (by dsimp only; omega) _).setCell (by dsimp only; omega) _).setCell (by dsimp only; omega) _
  · simpa [World.setCell] using Hs3.out
  · exact (((((Hr1.out.far (by dsimp only; omega) _).far (by dsimp only; omega) _).far (by dsimp only; omega) _).far (by dsimp only; omega) _).far (by dsimp only; omega) _).far (by dsimp only; omega) _
  · exact (((((Hr3.out.far (by dsimp only; omega) _).far (by dsimp only; omega) _).far (by dsimp only; omega) _).far (by dsimp only; omega) _).far (by dsimp only; omega) _).far (by dsimp only; omega) _

set_option maxRecDepth 100000 in
set_option maxHeartbeats 1000000 in
theorem eqDoubtZ (lo hi lo' hi' : Nat) (a b c : Int) (v v' u u' : Value) (zs ys : List Int) (w : World) (hv : IntsAt w lo hi v zs) (hv' : IntsAt w lo' hi' v' zs) (hu : IntsAt w lo hi u ys) (hu' : IntsAt w lo' hi' u' ys) (hB : hi ≤ w.heap.size) (hB' : hi' ≤ w.heap.size) :
    Calls Tryd.prog 15 #[.agg #[.int .i64 a, .int .i64 b, .int .i64 c, v, u], .agg #[.int .i64 a, .int .i64 b, .int .i64 c, v', u']] w fun e w' => e = .returned (.bool true) ∧ Below w.heap.size w w' := by
  obtain ⟨A, cap, rfl, _, _, ha⟩ := hv.form
  obtain ⟨A', cap', rfl, _, _, ha'⟩ := hv'.form
  obtain ⟨A2, cap2, rfl, _, _, hb⟩ := hu.form
  obtain ⟨A2', cap2', rfl, _, _, hb'⟩ := hu'.form
  have h3 : Below w.heap.size w ((w.alloc (.cells #[.int .i64 a, .int .i64 b, .int .i64 c, .slice A zs.length cap, .slice A2 ys.length cap2] 31)).alloc (.cells #[.int .i64 a, .int .i64 b, .int .i64 c, .slice A' zs.length cap', .slice A2' ys.length cap2'] 31)) := by go_grown
  have HQ := Lib.hid (eqIntS_same lo hi lo' hi' _ _ zs _ (hv.below h3 hB) (hv'.below h3 hB') (by simp; omega) (by simp; omega))
  have H3 := Lib.hid h3
  have Hu := Lib.hid hu
  have Hu' := Lib.hid hu'
  clear hv hv' ha ha' h3 hb hb' hu hu'
  go_enter Tryd.func15, Tryd.ntmps15
  go_wp2_with fail
  refine HQ.out.mono ?_
  clear HQ
  rintro e w1 ⟨rfl, hb⟩
  have HB := Lib.hid (H3.out.trans (hb.mono (by simp; omega)))
  have HQ := Lib.hid (eqIntS_same lo hi lo' hi' _ _ ys w1 (Hu.out.below HB.out hB) (Hu'.out.below HB.out hB') (by have := HB.out.size; omega) (by have := HB.out.size; omega))
  obtain ⟨hcl, hfr⟩ := bcell hb
  simp only [World.size_alloc] at hcl hfr
  clear hb Hu Hu' H3
  go_wp2_with fail
  refine HQ.out.mono ?_
  clear HQ
  rintro e w2 ⟨rfl, hb⟩
  have HB2 := Lib.hid (HB.out.trans (hb.mono HB.out.size))
  clear hb
  go_wp2
  go_ret
  exact ⟨rfl, HB2.out⟩
end Go.Proofs.YtajannebpejpkaaDoor
