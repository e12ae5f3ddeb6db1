/-
  The contract of the program's reader: literal, functionName.
  The contracts of the program's isFunctionName, strings.Clone, functionName.
-/
import Derived.Test.YtnmbjmocnafekaaGreatDoorE17
import Derived.Test.YtnmbjmocnafekaaGreatDoorE16
import Derived.Shelf.Pu.Clone
namespace Go.Proofs.YtnmbjmocnafekaaGreatDoor
open Go.RowKit

theorem Row.kept' {b g : Nat} {T : TypeId} {xs : List Value} {w w' : World} (h : Row w g T xs) (hk : Keep b w w') (hg : g ≠ b) : Row w' g T xs := h.keep (hk.block (Row.lt h) hg)
theorem Keep.seto' {b : Nat} {w w' : World} (h : Keep b w w') {p : Addr} (hp : w.heap.size ≤ p.block) (v : Value) : Keep b w (w'.setCell p v) :=
  ⟨⟨h.grown.os, h.grown.tape, h.grown.output, Nat.le_trans h.size (by simp [World.setCell]), fun j hj hb => (Below.heap_setCell _ _ _ _ (by omega)).trans (h.grown.block j hj hb)⟩⟩
theorem Txr.far' {b : Nat} {l : List UInt8} {w : World} (h : Txr b l w) {p : Addr} (hp : b ≠ p.block) (v : Value) : Txr b l (w.setCell p v) := Row.far h hp v
theorem Ev.far' {w : World} {n : Nat} {a : Addr} (h : Ev w n a) {p : Addr} (hp : n ≤ p.block) (v : Value) : Ev (w.setCell p v) n a :=
  ⟨h.1, (World.cell?_of_block (w := w) (Below.heap_setCell _ _ _ _ (by have := h.1; dsimp only; omega))).trans h.2⟩

/-- A call of the reader that has laid its result and its variable: two boxes of one kind. -/
structure Rd2 (T : TypeId) (b n : Nat) (a : Addr) (w w' : World) (xs ys : List Value) (l : List UInt8) : Prop where
  blt : b < w.heap.size
  nb : n ≤ b
  siz : w.heap.size + 2 ≤ w'.heap.size
  res : Row w' w.heap.size T xs
  var : Row w' (w.heap.size + 1) T ys
  txr : Txr b l w'
  kee : Keep b w w'
  ev : Ev w' n a
theorem Rd2.start {T : TypeId} {b n : Nat} {a : Addr} {w : World} {l : List UInt8} (h : Txr b l w) (hv : Ev w n a) (hnb : n ≤ b) (xs : List Value) : Rd2 T b n a w ((w.alloc (.cells xs.toArray T)).alloc (.cells xs.toArray T)) xs xs l := by
  have k : Keep b w ((w.alloc (.cells xs.toArray T)).alloc (.cells xs.toArray T)) := ((Keep.refl b w).of_below ((Below.refl _ _).alloc (Nat.le_refl _) _)).of_below ((Below.refl _ _).alloc (Nat.le_refl _) _)
  refine ⟨h.lt, hnb, by simp, (Row.new w T xs).alloc _, ?_, (h.below ((Below.refl _ _).alloc (Nat.le_refl _) _)).below ((Below.refl _ _).alloc (Nat.le_refl _) _), k, hv.keep k hnb⟩
  have hr := Row.new (w.alloc (.cells xs.toArray T)) T xs
  rw [World.size_alloc] at hr
  exact hr
theorem Rd2.go {T : TypeId} {b n : Nat} {a : Addr} {w w' w'' : World} {xs ys : List Value} {l r : List UInt8} (h : Rd2 T b n a w w' xs ys l) (hk : Keep b w' w'') (ht : Txr b r w'') : Rd2 T b n a w w'' xs ys r :=
  ⟨h.blt, h.nb, Nat.le_trans h.siz hk.size, h.res.kept' hk (by have := h.blt; omega), h.var.kept' hk (by have := h.blt; omega), ht, h.kee.trans hk, h.ev.keep hk h.nb⟩
theorem Rd2.setv {T : TypeId} {b n : Nat} {a : Addr} {w w' : World} {xs ys : List Value} {l : List UInt8} (h : Rd2 T b n a w w' xs ys l) (i : Nat) (v : Value) : Rd2 T b n a w (w'.setCell ⟨w.heap.size + 1, i, none⟩ v) xs (ys.set i v) l :=
  ⟨h.blt, h.nb, by have := h.siz; simp [World.setCell]; omega, h.res.far (by dsimp only; omega) _, h.var.set_ i _, h.txr.far' (by have := h.blt; dsimp only; omega) _, h.kee.seto' (by dsimp only; omega) _, h.ev.far' (by have := h.blt; have := h.nb; dsimp only; omega) _⟩
theorem Rd2.setr {T : TypeId} {b n : Nat} {a : Addr} {w w' : World} {xs ys : List Value} {l : List UInt8} (h : Rd2 T b n a w w' xs ys l) (i : Nat) (v : Value) : Rd2 T b n a w (w'.setCell ⟨w.heap.size, i, none⟩ v) (xs.set i v) ys l :=
  ⟨h.blt, h.nb, by have := h.siz; simp [World.setCell]; omega, h.res.set_ i _, h.var.far (by dsimp only; omega) _, h.txr.far' (by have := h.blt; dsimp only; omega) _, h.kee.seto' (by dsimp only; omega) _, h.ev.far' (by have := h.blt; have := h.nb; dsimp only; omega) _⟩

/-- What reading a literal comes to. -/
def LitPost (b : Nat) (l : List UInt8) (a : Addr) (w : World) (e : Ending) (w' : World) : Prop :=
  ((∃ k v r, rdLit l = some (.lit k v, r) ∧ e = .returned (.agg #[.int .i64 k, .int .i64 v]) ∧ Txr b r w') ∨ (rdLit l = none ∧ e = boom a)) ∧ Keep b w w'

set_option maxRecDepth 100000 in
set_option maxHeartbeats 4000000 in
theorem literal_any (b : Nat) (l : List UInt8) (n : Nat) (a : Addr) (w : World) (h : Txr b l w) (hv : Ev w n a) (hnb : n ≤ b) (hm : l.length ≤ 1048576) :
    Calls Tryz.prog 161 #[.pointer (some ⟨b, 0, none⟩)] w fun e w' => LitPost b l a w e w' := by
  have hblt := h.lt
  have S0 : Hid (Rd2 164 b n a w ((w.alloc (.cells #[.int .i64 0, .int .i64 0] 164)).alloc (.cells #[.int .i64 0, .int .i64 0] 164)) [.int .i64 0, .int .i64 0] [.int .i64 0, .int .i64 0] l) := Rd2.start h hv hnb [.int .i64 0, .int .i64 0]
  clear h hv
  go_enter Tryz.func161, Tryz.ntmps161
  go_wp2_with fail
  cases hd1 : rdDigit l with
  | none =>
    have hno : Hid (rdLit l = none) := by show rdLit l = none; simp [rdLit, hd1]
    refine (digit_no b l hd1 n a _ S0.out.txr S0.out.ev).mono ?_
    clear hd1
    rintro e w1 ⟨rfl, rfl⟩
    go_wp2
    exact ⟨rfl, .inr ⟨hno.out, rfl⟩, S0.out.kee⟩
  | some p =>
    obtain ⟨z1, r1⟩ := p
    obtain ⟨c1, rfl, hc1, rfl⟩ := rdDigit_cons hd1
    have hco1 : Hid (rdLit (c1 :: r1) = (rdTake 58 r1).bind fun r => (rdDigit r).map fun b => (.lit (valD c1) b.1, b.2)) := by
      show rdLit (c1 :: r1) = _
      simp [rdLit, hd1]
    simp only [List.length_cons] at hm
    clear hd1
    refine (digit_yes b c1 r1 hc1 _ S0.out.txr (by omega)).mono ?_
    rintro e w1 ⟨rfl, hk1, ht1⟩
    have S1 := Lib.hid (S0.out.go hk1 ht1)
    have m0 := S1.out.var.cell 0
    have f0 := S1.out.var.frozen 0
    simp only [List.getElem?_cons_zero] at m0
    clear hk1 ht1 S0
    go_wp2_with fail
    obtain ⟨u1, hu1⟩ : ∃ u, u = w1.setCell ⟨w.heap.size + 1, 0, none⟩ (.int .i64 (valD c1)) := ⟨_, rfl⟩
    rw [← hu1]
    have S2 : Hid (Rd2 164 b n a w u1 [.int .i64 0, .int .i64 0] [.int .i64 (valD c1), .int .i64 0] r1) := by rw [hu1]; exact S1.out.setv 0 _
    clear hu1 S1 m0 f0
    cases htk : rdTake 58 r1 with
    | none =>
      have hno : Hid (rdLit (c1 :: r1) = none) := by show _ = _; rw [hco1.out, htk]; rfl
      refine (take_no b r1 58 58 rfl htk n a _ S2.out.txr S2.out.ev).mono ?_
      clear htk
      rintro e w2 ⟨rfl, rfl⟩
      go_wp2
      exact ⟨rfl, .inr ⟨hno.out, rfl⟩, S2.out.kee⟩
    | some q1 =>
      have hq1 := rdTake_len htk
      have hco2 : Hid (rdLit (c1 :: r1) = (rdDigit q1).map fun b => (.lit (valD c1) b.1, b.2)) := by
        show _ = _
        rw [hco1.out, htk]
        rfl
      refine (take_yes b r1 q1 58 58 rfl htk _ S2.out.txr (by omega)).mono ?_
      clear htk hco1
      rintro e w2 ⟨rfl, hk2, ht2⟩
      have S3 := Lib.hid (S2.out.go hk2 ht2)
      clear hk2 ht2 S2
      go_wp2_with fail
      cases hd2 : rdDigit q1 with
      | none =>
        have hno : Hid (rdLit (c1 :: r1) = none) := by show _ = _; rw [hco2.out, hd2]; rfl
        refine (digit_no b q1 hd2 n a _ S3.out.txr S3.out.ev).mono ?_
        clear hd2
        rintro e w3 ⟨rfl, rfl⟩
        go_wp2
        exact ⟨rfl, .inr ⟨hno.out, rfl⟩, S3.out.kee⟩
      | some p =>
        obtain ⟨z2, r2⟩ := p
        obtain ⟨c2, rfl, hc2, rfl⟩ := rdDigit_cons hd2
        have hfin : Hid (rdLit (c1 :: r1) = some (.lit (valD c1) (valD c2), r2)) := by
          show _ = _
          rw [hco2.out, hd2]
          rfl
        simp only [List.length_cons] at hq1
        clear hd2 hco2
        refine (digit_yes b c2 r2 hc2 _ S3.out.txr (by omega)).mono ?_
        rintro e w3 ⟨rfl, hk3, ht3⟩
        have S4 := Lib.hid (S3.out.go hk3 ht3)
        have m0 := S4.out.var.cell 0
        have m1 := S4.out.var.cell 1
        have f0 := S4.out.var.frozen 0
        have f1 := S4.out.var.frozen 1
        have p0 := S4.out.res.cell 0
        have p1 := S4.out.res.cell 1
        have e0 := S4.out.res.frozen 0
        have e1 := S4.out.res.frozen 1
        simp only [List.getElem?_cons_zero, List.getElem?_cons_succ] at m0 m1 p0 p1
        clear hk3 ht3 S3
        go_wp2
        obtain ⟨u5, hu5⟩ : ∃ u, u = ((w3.setCell ⟨w.heap.size + 1, 1, none⟩ (.int .i64 (valD c2))).setCell ⟨w.heap.size, 0, none⟩ (.int .i64 (valD c1))).setCell ⟨w.heap.size, 1, none⟩ (.int .i64 (valD c2)) := ⟨_, rfl⟩
        rw [← hu5]
        have S5 : Hid (Rd2 164 b n a w u5 [.int .i64 (valD c1), .int .i64 (valD c2)] [.int .i64 (valD c1), .int .i64 (valD c2)] r2) := by rw [hu5]; exact ((S4.out.setv 1 _).setr 0 _).setr 1 _
        have d0 := S5.out.res.cell 0
        have d1 := S5.out.res.cell 1
        simp only [List.getElem?_cons_zero, List.getElem?_cons_succ] at d0 d1
        clear hu5
        refine bodyPost_ret (v := .agg #[.int .i64 (valD c1), .int .i64 (valD c2)]) (by simp [results, Tryz.results161, go_sem, d0, d1]) rfl ?_
        exact ⟨.inl ⟨valD c1, valD c2, r2, hfin.out, rfl, S5.out.txr⟩, S5.out.kee⟩
end Go.Proofs.YtnmbjmocnafekaaGreatDoor

namespace Go.Proofs.YtnmbjmocnafekaaGreatDoor
open Go.RowKit

def layC_ren : Go.Shelf.Ren := { f := fun _ => 122, t := fun | 0 => 0 | 3 => 3 | 4 => 4 | 5 => 5 | 9 => 9 | 37 => 74 | 47 => 233 | _ => 0, g := fun _ => 0 }
theorem layC : LaysPu.n25 Tryz.prog layC_ren := {
  mixed := by kernel_rfl
  f25 := Tryz.func122.trans (congrArg some (by kernel_rfl))
  t0 := Tryz.underlying0, a0 := Tryz.isAgg0, z0 := Tryz.sizeOf0, v0 := Tryz.zeroValue0, i0 := by kernel_rfl
  t3 := Tryz.underlying3, a3 := Tryz.isAgg3, z3 := Tryz.sizeOf3, v3 := Tryz.zeroValue3, i3 := by kernel_rfl
  t4 := Tryz.underlying4, a4 := Tryz.isAgg4, z4 := Tryz.sizeOf4, v4 := Tryz.zeroValue4, i4 := by kernel_rfl
  t5 := Tryz.underlying5, a5 := Tryz.isAgg5, z5 := Tryz.sizeOf5, v5 := Tryz.zeroValue5, i5 := by kernel_rfl
  t9 := Tryz.underlying9, a9 := Tryz.isAgg9, z9 := Tryz.sizeOf9, v9 := Tryz.zeroValue9, i9 := by kernel_rfl
  t37 := Tryz.underlying74, a37 := Tryz.isAgg74, z37 := Tryz.sizeOf74, v37 := Tryz.zeroValue74, i37 := by kernel_rfl
  t47 := Tryz.underlying233, a47 := Tryz.isAgg233, z47 := Tryz.sizeOf233, v47 := Tryz.zeroValue233, i47 := by kernel_rfl }

theorem cloneS_any (s : ByteArray) (w : World) (hs : s.size ≤ 1048576) :
    Calls Tryz.prog 76 #[.string s] w fun e w' => e = .returned (.string s) ∧ Below w.heap.size w w' := by
  have H := Lib.hid (AnyPu.stringslite_Clone layC s w (by omega))
  go_enter Tryz.func76, Tryz.ntmps76
  go_wp2_with (go_at_call 122; refine (show Calls Tryz.prog 122 #[.string s] w _ from H.out).mono ?_; rintro e w1 ⟨rfl, hb⟩)
  go_ret
  exact ⟨rfl, hb⟩

set_option maxRecDepth 100000 in
set_option maxHeartbeats 400000 in
theorem isFn_any (c : UInt8) (w : World) : Calls Tryz.prog 143 #[.string (str [c])] w fun e w' => e = .returned (.bool (isN c)) ∧ w' = w := by
  have hs : (str [c]).size = 1 := rfl
  have hb : ∀ h, (str [c])[0]'h = c := fun _ => rfl
  have hN : isN c = (decide ((102 : Int) ≤ (c.toNat : Int)) && decide ((c.toNat : Int) ≤ 107)) := by
    unfold isN
    congr 1
    · apply decide_eq_decide.2; omega
    · apply decide_eq_decide.2; omega
  have HN := Lib.hid hN
  clear hN
  by_cases h1 : (102 : Int) ≤ (c.toNat : Int)
  · by_cases h2 : (c.toNat : Int) ≤ 107
    · have hv : Hid (isN c = true) := by show _ = _; rw [HN.out]; simp [h1, h2]
      go_enter Tryz.func143, Tryz.ntmps143
      go_wp2
      go_ret
      exact ⟨by rw [hv.out]; rfl, rfl⟩
    · have hv : Hid (isN c = false) := by show _ = _; rw [HN.out]; simp [h2]
      go_enter Tryz.func143, Tryz.ntmps143
      go_wp2
      go_ret
      exact ⟨by rw [hv.out]; rfl, rfl⟩
  · have hv : Hid (isN c = false) := by show _ = _; rw [HN.out]; simp [h1]
    go_enter Tryz.func143, Tryz.ntmps143
    go_wp2
    go_ret
    exact ⟨by rw [hv.out]; rfl, rfl⟩

theorem str_head1 (c : UInt8) (r : List UInt8) : (str (c :: r)).extract 0 1 = str [c] := by
  apply ByteArray.ext
  simp [str, ByteArray.data_extract]

set_option maxRecDepth 100000 in
set_option maxHeartbeats 1000000 in
theorem name_yes (b : Nat) (c : UInt8) (r : List UInt8) (hd : isN c = true) (w : World) (h : Txr b (c :: r) w) (hm : r.length + 1 ≤ 1048576) :
    Calls Tryz.prog 176 #[.pointer (some ⟨b, 0, none⟩)] w fun e w' => e = .returned (.string (str [c])) ∧ Keep b w w' ∧ Txr b r w' := by
  have c0 := h.cell
  have f0 := h.frozen
  have HT := Lib.hid h
  have h1 : (str (c :: r)).toList = c :: r := str_toList _
  have h3 := str_pos c r
  have h4 := str_head1 c r
  have h5 := str_tail c r
  have h6 : (str (c :: r)).size = r.length + 1 := by rw [str_size]; rfl
  rw [h6] at h5 h3
  clear h
  go_enter Tryz.func176, Tryz.ntmps176
  go_wp2_with (go_at_call 143; refine (isFn_any c _).mono ?_; rintro e w1 ⟨rfl, rfl⟩; rw [hd])
  go_ret
  exact ⟨rfl, (Keep.refl b _).setb _, HT.out.set r⟩
end Go.Proofs.YtnmbjmocnafekaaGreatDoor

