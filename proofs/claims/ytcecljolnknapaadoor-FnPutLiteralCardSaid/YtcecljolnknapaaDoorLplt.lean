/-
  The walk of the law FnPutLiteral.
-/
import Derived.Test.YtcecljolnknapaaDoorDsz
import Derived.Test.YtcecljolnknapaaDoorDpl
import Derived.Test.YtcecljolnknapaaDoorPld
import Derived.Test.YtcecljolnknapaaDoorPui
import Derived.Test.YtcecljolnknapaaDoorTrs
import Derived.Test.YtcecljolnknapaaDoorSh6
import Derived.Test.YtcecljolnknapaaDoorNmi
import Derived.Test.YtcecljolnknapaaDoorTrx
namespace Go.Proofs.YtcecljolnknapaaDoor
open Go.RowKit

theorem CodeAt.under {w w' : World} {v : Value} (h : CodeAt w w.heap.size v) (hb : Below w.heap.size w w') : CodeAt w' w'.heap.size v := by
  obtain ⟨A, n, c, e, h1, h2, h3⟩ := h
  refine ⟨A, n, c, e, h1, h2, fun h0 => ?_⟩
  obtain ⟨a, off, hA, ha, hc⟩ := h3 h0
  refine ⟨a, off, hA, Nat.lt_of_lt_of_le ha hb.size, fun k hk => ?_⟩
  obtain ⟨x, hx, hcell⟩ := hc k hk
  exact ⟨x, hx, (World.cell?_of_block (w := w) (a := ⟨a, off + k, none⟩) (hb.block a ha)).trans hcell⟩

set_option maxRecDepth 100000 in
set_option maxHeartbeats 2000000 in
theorem lawPlt_walk (v v2 : Value) (n : Nat) (a : Addr) (W : World) (hE : Ev W n a) (hn : n ≤ W.heap.size) (hv : CodeAt W W.heap.size v) (hv2 : CodeAt W W.heap.size v2) :
    Calls Tryd.prog 15 #[v, v2] W fun e W' => e = .returned (.bool true) ∧ Below W.heap.size W W' := by
  have HD := Lib.hid (drawPut_any v W hv)
  have HL : Hid (∀ u, Below W.heap.size W u → Calls Tryd.prog 43 #[v2] u fun e w' => ∃ M : List UInt8, e = .returned (.string (str M)) ∧ M.length ≤ 122 ∧ Below u.heap.size u w') := fun u hb => drawLit_any v2 u (hv2.under hb)
  have HEv := Lib.hid hE
  obtain ⟨A, cl, cc, rfl, hcl, hcc, _⟩ := hv
  obtain ⟨A2, cl2, cc2, rfl, hcl2, hcc2, _⟩ := hv2
  unfold maxLen at hcc hcc2
  clear hE
  by_cases hbig : 1048576 < cl
  · have h1 : (1048576 : Int) < (cl : Int) := by omega
    go_enter Tryd.func15, Tryd.ntmps15
    go_wp2
    go_ret
    exact ⟨rfl, Below.refl _ _⟩
  have h1 : ¬ (1048576 : Int) < (cl : Int) := by omega
  by_cases hbig2 : 1048576 < cl2
  · have h2 : (1048576 : Int) < (cl2 : Int) := by omega
    go_enter Tryd.func15, Tryd.ntmps15
    go_wp2
    go_ret
    exact ⟨rfl, Below.refl _ _⟩
  have h2 : ¬ (1048576 : Int) < (cl2 : Int) := by omega
  go_enter Tryd.func15, Tryd.ntmps15
  go_wp2_with fail
  refine HD.out.mono ?_
  rintro e w1 ⟨L, i, k, z, rfl, hL, hb1⟩
  have HB1 := Lib.hid hb1
  clear hb1 HD
  have hL1 : L.length ≤ 1048576 := by omega
  have IPt : Hid (∀ M : List UInt8, M.length ≤ 1048576 → ∀ u, Below W.heap.size W u → Calls Tryd.prog 38 #[.string (str M), .int .i64 i, .int .i64 k, .int .i64 z] u fun e w' => e = putE (putV M i k z) ∧ Below u.heap.size u w') := fun M hM u hb => implPut_any M hM i k z n a u (HEv.out.under hb) (Nat.le_trans hn hb.size)
  have SPt : Hid (∀ u, Calls Tryd.prog 37 #[.string (str L), .int .i64 i, .int .i64 k, .int .i64 z] u fun e w' => e = putE (putV L i k z) ∧ Below u.heap.size u w') := fun u => specPut_any L hL1 i k z u
  cases hP : putV L i k z with
  | none =>
    have I0 := Lib.hid (IPt.out L hL1)
    rw [hP] at I0 SPt
    have e0 : putE none = .returned (.tuple #[.string ⟨#[]⟩, .bool false]) := rfl
    rw [e0] at I0 SPt
    clear IPt hP e0
    go_wp2_with fail
    refine (I0.out w1 HB1.out).mono ?_
    rintro e w2 ⟨rfl, hb⟩
    have HB2 := Lib.hid (HB1.out.trans (hb.mono HB1.out.size))
    clear hb
    go_wp2_with fail
    refine (SPt.out w2).mono ?_
    rintro e w3 ⟨rfl, hb⟩
    have HB3 := Lib.hid (HB2.out.trans (hb.mono HB2.out.size))
    clear hb
    go_wp2
    go_ret
    exact ⟨rfl, HB3.out⟩
  | some T =>
    obtain ⟨t, t', p1, p2, p3, p4, p5, p6⟩ := put_facts hP
    have hT1 : T.length ≤ 1048576 := by omega
    have I0 := Lib.hid (IPt.out L hL1)
    have I1 := Lib.hid (IPt.out T hT1)
    rw [hP] at I0 SPt
    rw [p6] at I1
    have e0 : putE (some T) = .returned (.tuple #[.string (str T), .bool true]) := rfl
    rw [e0] at I0 I1 SPt
    have V0 : Hid (∀ u, Below W.heap.size W u → Calls Tryd.prog 17 #[.string (str T)] u fun e w' => e = .returned (.bool true) ∧ Below u.heap.size u w') := fun u hb => (implTermValid_any T n a u (HEv.out.under hb) (Nat.le_trans hn hb.size) hT1).mono fun e w' h => ⟨by rw [h.1, p2]; rfl, h.2⟩
    have Z0 : Hid (∀ u, Below W.heap.size W u → Calls Tryd.prog 32 #[.string (str T)] u fun e w' => e = .returned (.int .i64 (sizeT t : Nat)) ∧ Below u.heap.size u w') := fun u hb => (implSizeOf_any T n a u (HEv.out.under hb) (Nat.le_trans hn hb.size) hT1).mono fun e w' h => ⟨by rw [h.1, numP_some _ p2, p4], h.2⟩
    have Z1 : Hid (∀ u, Below W.heap.size W u → Calls Tryd.prog 32 #[.string (str L)] u fun e w' => e = .returned (.int .i64 (sizeT t : Nat)) ∧ Below u.heap.size u w') := fun u hb => (implSizeOf_any L n a u (HEv.out.under hb) (Nat.le_trans hn hb.size) hL1).mono fun e w' h => ⟨by rw [h.1, numP_some _ p1], h.2⟩
    have N0 : Hid (∀ u, Below W.heap.size W u → Calls Tryd.prog 36 #[.string (str T)] u fun e w' => e = .returned (.string (str (nmV L))) ∧ Below u.heap.size u w') := fun u hb => (implNames_any T n a u (HEv.out.under hb) (Nat.le_trans hn hb.size) hT1).mono fun e w' h => ⟨by rw [h.1, p5], h.2⟩
    have N1 : Hid (∀ u, Below W.heap.size W u → Calls Tryd.prog 36 #[.string (str L)] u fun e w' => e = .returned (.string (str (nmV L))) ∧ Below u.heap.size u w') := fun u hb => implNames_any L n a u (HEv.out.under hb) (Nat.le_trans hn hb.size) hL1
    have hle : ((T.length : Int) == (L.length : Int)) = true := by simp [p3]
    have hsT := str_size T
    have hsL := str_size L
    obtain ⟨N, hN⟩ : ∃ N, N = sizeT t := ⟨_, rfl⟩
    obtain ⟨X, hX⟩ : ∃ X, X = nmV L := ⟨_, rfl⟩
    rw [← hN] at Z0 Z1
    rw [← hX] at N0 N1
    clear IPt hP e0 p1 p2 p3 p4 p5 p6 hN hX
    go_wp2_with fail
    refine (I0.out w1 HB1.out).mono ?_
    rintro e w2 ⟨rfl, hb⟩
    have HB2 := Lib.hid (HB1.out.trans (hb.mono HB1.out.size))
    clear hb I0
    go_wp2_with fail
    refine (SPt.out w2).mono ?_
    rintro e w3 ⟨rfl, hb⟩
    have HB3 := Lib.hid (HB2.out.trans (hb.mono HB2.out.size))
    clear hb SPt
    go_wp2_with fail
    refine (HL.out w3 HB3.out).mono ?_
    rintro e w4 ⟨Q, rfl, hQ, hb⟩
    have HB4 := Lib.hid (HB3.out.trans (hb.mono HB3.out.size))
    clear hb HL
    have hQ1 : Q.length ≤ 1048576 := by omega
    have L0 : Hid (∀ u, Below W.heap.size W u → Calls Tryd.prog 26 #[.string (str Q)] u fun e w' => e = .returned (.tuple #[.int .i64 (litP Q).1, .int .i64 (litP Q).2.1, .bool (litP Q).2.2]) ∧ Below u.heap.size u w') := fun u hb => implLiteral_any Q n a u (HEv.out.under hb) (Nat.le_trans hn hb.size) hQ1
    have L1 : Hid (∀ u, Calls Tryd.prog 25 #[.string (str Q)] u fun e w' => e = .returned (.tuple #[.int .i64 (litP Q).1, .int .i64 (litP Q).2.1, .bool (litP Q).2.2]) ∧ Below u.heap.size u w') := fun u => specLiteral_any Q hQ1 u
    obtain ⟨l1, hl1⟩ : ∃ l1, l1 = (litP Q).1 := ⟨_, rfl⟩
    obtain ⟨l2, hl2⟩ : ∃ l2, l2 = (litP Q).2.1 := ⟨_, rfl⟩
    obtain ⟨l3, hl3⟩ : ∃ l3, l3 = (litP Q).2.2 := ⟨_, rfl⟩
    rw [← hl1, ← hl2, ← hl3] at L0 L1
    clear hl1 hl2 hl3
    go_wp2_with fail
    refine (L0.out w4 HB4.out).mono ?_
    rintro e w5 ⟨rfl, hb⟩
    have HB5 := Lib.hid (HB4.out.trans (hb.mono HB4.out.size))
    clear hb L0
    go_wp2_with fail
    refine (L1.out w5).mono ?_
    rintro e w6 ⟨rfl, hb⟩
    have HB6 := Lib.hid (HB5.out.trans (hb.mono HB5.out.size))
    clear hb L1
    go_wp2_with fail
    refine (I1.out w6 HB6.out).mono ?_
    rintro e w7 ⟨rfl, hb⟩
    have HB7 := Lib.hid (HB6.out.trans (hb.mono HB6.out.size))
    clear hb I1
    go_wp2_with fail
    refine (V0.out w7 HB7.out).mono ?_
    rintro e w8 ⟨rfl, hb⟩
    have HB8 := Lib.hid (HB7.out.trans (hb.mono HB7.out.size))
    clear hb V0
    go_wp2_with fail
    refine (Z0.out w8 HB8.out).mono ?_
    rintro e w9 ⟨rfl, hb⟩
    have HB9 := Lib.hid (HB8.out.trans (hb.mono HB8.out.size))
    clear hb Z0
    go_wp2_with fail
    refine (Z1.out w9 HB9.out).mono ?_
    rintro e w10 ⟨rfl, hb⟩
    have HB10 := Lib.hid (HB9.out.trans (hb.mono HB9.out.size))
    clear hb Z1
    go_wp2_with fail
    refine (N0.out w10 HB10.out).mono ?_
    rintro e w11 ⟨rfl, hb⟩
    have HB11 := Lib.hid (HB10.out.trans (hb.mono HB10.out.size))
    clear hb N0
    go_wp2_with fail
    refine (N1.out w11 HB11.out).mono ?_
    rintro e w12 ⟨rfl, hb⟩
    have HB12 := Lib.hid (HB11.out.trans (hb.mono HB11.out.size))
    clear hb N1
    go_wp2
    go_ret
    exact ⟨rfl, HB12.out⟩
end Go.Proofs.YtcecljolnknapaaDoor
