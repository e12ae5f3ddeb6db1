/-
  The contract of the program's reader: literal, functionName.
  The contracts of the program's isFunctionName, strings.Clone, functionName.
  Nodes in memory; the contracts of the program's reader: arguments, call, term.
-/
import Derived.Test.YtnmbjmocnafekaaGreatDoorG12
import Derived.Shelf.Pu.Clone
import Derived.ArgAppend
namespace Go.Proofs.YtnmbjmocnafekaaGreatDoor
open Go.RowKit

theorem Row.kept' {b g : Nat} {T : TypeId} {xs : List Value} {w w' : World} (h : Row w g T xs) (hk : Keep b w w') (hg : g ≠ b) : Row w' g T xs := h.keep (hk.block (Row.lt h) hg)
theorem Keep.seto' {b : Nat} {w w' : World} (h : Keep b w w') {p : Addr} (hp : w.heap.size ≤ p.block) (v : Value) : Keep b w (w'.setCell p v) :=
  ⟨⟨h.grown.os, h.grown.tape, h.grown.output, Nat.le_trans h.size (by simp [World.setCell]), fun j hj hb => (Below.heap_setCell _ _ _ _ (by omega)).trans (h.grown.block j hj hb)⟩⟩
theorem Txr.far' {b : Nat} {l : List UInt8} {w : World} (h : Txr b l w) {p : Addr} (hp : b ≠ p.block) (v : Value) : Txr b l (w.setCell p v) := Row.far h hp v
theorem Ev.far' {w : World} {n : Nat} {a : Addr} (h : Ev w n a) {p : Addr} (hp : n ≤ p.block) (v : Value) : Ev (w.setCell p v) n a :=
  ⟨h.1, (World.cell?_of_block (w := w) (Below.heap_setCell _ _ _ _ (by have := h.1; dsimp only; omega))).trans h.2⟩

/-- A call of the reader that has laid its result and its variable: two boxes of one kind. -/
structure Rd2 (T : TypeId) (b n : Nat) (a : Addr) (w w' : World) (xs ys : List Value) (l : List UInt8) : Prop where
  blt : b < w.heap.size
  nb : n ≤ b
  siz : w.heap.size + 2 ≤ w'.heap.size
  res : Row w' w.heap.size T xs
  var : Row w' (w.heap.size + 1) T ys
  txr : Txr b l w'
  kee : Keep b w w'
  ev : Ev w' n a
theorem Rd2.start {T : TypeId} {b n : Nat} {a : Addr} {w : World} {l : List UInt8} (h : Txr b l w) (hv : Ev w n a) (hnb : n ≤ b) (xs : List Value) : Rd2 T b n a w ((w.alloc (.cells xs.toArray T)).alloc (.cells xs.toArray T)) xs xs l := by
  have k : Keep b w ((w.alloc (.cells xs.toArray T)).alloc (.cells xs.toArray T)) := ((Keep.refl b w).of_below ((Below.refl _ _).alloc (Nat.le_refl _) _)).of_below ((Below.refl _ _).alloc (Nat.le_refl _) _)
  refine ⟨h.lt, hnb, by simp, (Row.new w T xs).alloc _, ?_, (h.below ((Below.refl _ _).alloc (Nat.le_refl _) _)).below ((Below.refl _ _).alloc (Nat.le_refl _) _), k, hv.keep k hnb⟩
  have hr := Row.new (w.alloc (.cells xs.toArray T)) T xs
  rw [World.size_alloc] at hr
  exact hr
theorem Rd2.go {T : TypeId} {b n : Nat} {a : Addr} {w w' w'' : World} {xs ys : List Value} {l r : List UInt8} (h : Rd2 T b n a w w' xs ys l) (hk : Keep b w' w'') (ht : Txr b r w'') : Rd2 T b n a w w'' xs ys r :=
  ⟨h.blt, h.nb, Nat.le_trans h.siz hk.size, h.res.kept' hk (by have := h.blt; omega), h.var.kept' hk (by have := h.blt; omega), ht, h.kee.trans hk, h.ev.keep hk h.nb⟩
theorem Rd2.setv {T : TypeId} {b n : Nat} {a : Addr} {w w' : World} {xs ys : List Value} {l : List UInt8} (h : Rd2 T b n a w w' xs ys l) (i : Nat) (v : Value) : Rd2 T b n a w (w'.setCell ⟨w.heap.size + 1, i, none⟩ v) xs (ys.set i v) l :=
  ⟨h.blt, h.nb, by have := h.siz; simp [World.setCell]; omega, h.res.far (by dsimp only; omega) _, h.var.set_ i _, h.txr.far' (by have := h.blt; dsimp only; omega) _, h.kee.seto' (by dsimp only; omega) _, h.ev.far' (by have := h.blt; have := h.nb; dsimp only; omega) _⟩
theorem Rd2.setr {T : TypeId} {b n : Nat} {a : Addr} {w w' : World} {xs ys : List Value} {l : List UInt8} (h : Rd2 T b n a w w' xs ys l) (i : Nat) (v : Value) : Rd2 T b n a w (w'.setCell ⟨w.heap.size, i, none⟩ v) (xs.set i v) ys l :=
  ⟨h.blt, h.nb, by have := h.siz; simp [World.setCell]; omega, h.res.set_ i _, h.var.far (by dsimp only; omega) _, h.txr.far' (by have := h.blt; dsimp only; omega) _, h.kee.seto' (by dsimp only; omega) _, h.ev.far' (by have := h.blt; have := h.nb; dsimp only; omega) _⟩

/-- What reading a literal comes to. -/
def LitPost (b : Nat) (l : List UInt8) (a : Addr) (w : World) (e : Ending) (w' : World) : Prop :=
  ((∃ k v r, rdLit l = some (.lit k v, r) ∧ e = .returned (.agg #[.int .i64 k, .int .i64 v]) ∧ Txr b r w') ∨ (rdLit l = none ∧ e = boom a)) ∧ Keep b w w'

set_option maxRecDepth 100000 in
set_option maxHeartbeats 4000000 in
theorem literal_any (b : Nat) (l : List UInt8) (n : Nat) (a : Addr) (w : World) (h : Txr b l w) (hv : Ev w n a) (hnb : n ≤ b) (hm : l.length ≤ 1048576) :
    Calls Tryz.prog 161 #[.pointer (some ⟨b, 0, none⟩)] w fun e w' => LitPost b l a w e w' := by
  have hblt := h.lt
  have S0 : Hid (Rd2 164 b n a w ((w.alloc (.cells #[.int .i64 0, .int .i64 0] 164)).alloc (.cells #[.int .i64 0, .int .i64 0] 164)) [.int .i64 0, .int .i64 0] [.int .i64 0, .int .i64 0] l) := Rd2.start h hv hnb [.int .i64 0, .int .i64 0]
  clear h hv
  go_enter Tryz.func161, Tryz.ntmps161
  go_wp2_with fail
  cases hd1 : rdDigit l with
  | none =>
    have hno : Hid (rdLit l = none) := by show rdLit l = none; simp [rdLit, hd1]
    refine (digit_no b l hd1 n a _ S0.out.txr S0.out.ev).mono ?_
    clear hd1
    rintro e w1 ⟨rfl, rfl⟩
    go_wp2
    exact ⟨rfl, .inr ⟨hno.out, rfl⟩, S0.out.kee⟩
  | some p =>
    obtain ⟨z1, r1⟩ := p
    obtain ⟨c1, rfl, hc1, rfl⟩ := rdDigit_cons hd1
    have hco1 : Hid (rdLit (c1 :: r1) = (rdTake 58 r1).bind fun r => (rdDigit r).map fun b => (.lit (valD c1) b.1, b.2)) := by
      show rdLit (c1 :: r1) = _
      simp [rdLit, hd1]
    simp only [List.length_cons] at hm
    clear hd1
    refine (digit_yes b c1 r1 hc1 _ S0.out.txr (by omega)).mono ?_
    rintro e w1 ⟨rfl, hk1, ht1⟩
    have S1 := Lib.hid (S0.out.go hk1 ht1)
    have m0 := S1.out.var.cell 0
    have f0 := S1.out.var.frozen 0
    simp only [List.getElem?_cons_zero] at m0
    clear hk1 ht1 S0
    go_wp2_with fail
    obtain ⟨u1, hu1⟩ : ∃ u, u = w1.setCell ⟨w.heap.size + 1, 0, none⟩ (.int .i64 (valD c1)) := ⟨_, rfl⟩
    rw [← hu1]
    have S2 : Hid (Rd2 164 b n a w u1 [.int .i64 0, .int .i64 0] [.int .i64 (valD c1), .int .i64 0] r1) := by rw [hu1]; exact S1.out.setv 0 _
    clear hu1 S1 m0 f0
    cases htk : rdTake 58 r1 with
    | none =>
      have hno : Hid (rdLit (c1 :: r1) = none) := by show _ = _; rw [hco1.out, htk]; rfl
      refine (take_no b r1 58 58 rfl htk n a _ S2.out.txr S2.out.ev).mono ?_
      clear htk
      rintro e w2 ⟨rfl, rfl⟩
      go_wp2
      exact ⟨rfl, .inr ⟨hno.out, rfl⟩, S2.out.kee⟩
    | some q1 =>
      have hq1 := rdTake_len htk
      have hco2 : Hid (rdLit (c1 :: r1) = (rdDigit q1).map fun b => (.lit (valD c1) b.1, b.2)) := by
        show _ = _
        rw [hco1.out, htk]
        rfl
      refine (take_yes b r1 q1 58 58 rfl htk _ S2.out.txr (by omega)).mono ?_
      clear htk hco1
      rintro e w2 ⟨rfl, hk2, ht2⟩
      have S3 := Lib.hid (S2.out.go hk2 ht2)
      clear hk2 ht2 S2
      go_wp2_with fail
      cases hd2 : rdDigit q1 with
      | none =>
        have hno : Hid (rdLit (c1 :: r1) = none) := by show _ = _; rw [hco2.out, hd2]; rfl
        refine (digit_no b q1 hd2 n a _ S3.out.txr S3.out.ev).mono ?_
        clear hd2
        rintro e w3 ⟨rfl, rfl⟩
        go_wp2
        exact ⟨rfl, .inr ⟨hno.out, rfl⟩, S3.out.kee⟩
      | some p =>
        obtain ⟨z2, r2⟩ := p
        obtain ⟨c2, rfl, hc2, rfl⟩ := rdDigit_cons hd2
        have hfin : Hid (rdLit (c1 :: r1) = some (.lit (valD c1) (valD c2), r2)) := by
          show _ = _
          rw [hco2.out, hd2]
          rfl
        simp only [List.length_cons] at hq1
        clear hd2 hco2
        refine (digit_yes b c2 r2 hc2 _ S3.out.txr (by omega)).mono ?_
        rintro e w3 ⟨rfl, hk3, ht3⟩
        have S4 := Lib.hid (S3.out.go hk3 ht3)
        have m0 := S4.out.var.cell 0
        have m1 := S4.out.var.cell 1
        have f0 := S4.out.var.frozen 0
        have f1 := S4.out.var.frozen 1
        have p0 := S4.out.res.cell 0
        have p1 := S4.out.res.cell 1
        have e0 := S4.out.res.frozen 0
        have e1 := S4.out.res.frozen 1
        simp only [List.getElem?_cons_zero, List.getElem?_cons_succ] at m0 m1 p0 p1
        clear hk3 ht3 S3
        go_wp2
        obtain ⟨u5, hu5⟩ : ∃ u, u = ((w3.setCell ⟨w.heap.size + 1, 1, none⟩ (.int .i64 (valD c2))).setCell ⟨w.heap.size, 0, none⟩ (.int .i64 (valD c1))).setCell ⟨w.heap.size, 1, none⟩ (.int .i64 (valD c2)) := ⟨_, rfl⟩
        rw [← hu5]
        have S5 : Hid (Rd2 164 b n a w u5 [.int .i64 (valD c1), .int .i64 (valD c2)] [.int .i64 (valD c1), .int .i64 (valD c2)] r2) := by rw [hu5]; exact ((S4.out.setv 1 _).setr 0 _).setr 1 _
        have d0 := S5.out.res.cell 0
        have d1 := S5.out.res.cell 1
        simp only [List.getElem?_cons_zero, List.getElem?_cons_succ] at d0 d1
        clear hu5
        refine bodyPost_ret (v := .agg #[.int .i64 (valD c1), .int .i64 (valD c2)]) (by simp [results, Tryz.results161, go_sem, d0, d1]) rfl ?_
        exact ⟨.inl ⟨valD c1, valD c2, r2, hfin.out, rfl, S5.out.txr⟩, S5.out.kee⟩
end Go.Proofs.YtnmbjmocnafekaaGreatDoor

namespace Go.Proofs.YtnmbjmocnafekaaGreatDoor
open Go.RowKit

def layC_ren : Go.Shelf.Ren := { f := fun _ => 122, t := fun | 0 => 0 | 3 => 3 | 4 => 4 | 5 => 5 | 9 => 9 | 37 => 74 | 47 => 233 | _ => 0, g := fun _ => 0 }
theorem layC : LaysPu.n25 Tryz.prog layC_ren := {
  mixed := by kernel_rfl
  f25 := Tryz.func122.trans (congrArg some (by kernel_rfl))
  t0 := Tryz.underlying0, a0 := Tryz.isAgg0, z0 := Tryz.sizeOf0, v0 := Tryz.zeroValue0, i0 := by kernel_rfl
  t3 := Tryz.underlying3, a3 := Tryz.isAgg3, z3 := Tryz.sizeOf3, v3 := Tryz.zeroValue3, i3 := by kernel_rfl
  t4 := Tryz.underlying4, a4 := Tryz.isAgg4, z4 := Tryz.sizeOf4, v4 := Tryz.zeroValue4, i4 := by kernel_rfl
  t5 := Tryz.underlying5, a5 := Tryz.isAgg5, z5 := Tryz.sizeOf5, v5 := Tryz.zeroValue5, i5 := by kernel_rfl
  t9 := Tryz.underlying9, a9 := Tryz.isAgg9, z9 := Tryz.sizeOf9, v9 := Tryz.zeroValue9, i9 := by kernel_rfl
  t37 := Tryz.underlying74, a37 := Tryz.isAgg74, z37 := Tryz.sizeOf74, v37 := Tryz.zeroValue74, i37 := by kernel_rfl
  t47 := Tryz.underlying233, a47 := Tryz.isAgg233, z47 := Tryz.sizeOf233, v47 := Tryz.zeroValue233, i47 := by kernel_rfl }

theorem cloneS_any (s : ByteArray) (w : World) (hs : s.size ≤ 1048576) :
    Calls Tryz.prog 76 #[.string s] w fun e w' => e = .returned (.string s) ∧ Below w.heap.size w w' := by
  have H := Lib.hid (AnyPu.stringslite_Clone layC s w (by omega))
  go_enter Tryz.func76, Tryz.ntmps76
  go_wp2_with (go_at_call 122; refine (show Calls Tryz.prog 122 #[.string s] w _ from H.out).mono ?_; rintro e w1 ⟨rfl, hb⟩)
  go_ret
  exact ⟨rfl, hb⟩

set_option maxRecDepth 100000 in
set_option maxHeartbeats 400000 in
theorem isFn_any (c : UInt8) (w : World) : Calls Tryz.prog 143 #[.string (str [c])] w fun e w' => e = .returned (.bool (isN c)) ∧ w' = w := by
  have hs : (str [c]).size = 1 := rfl
  have hb : ∀ h, (str [c])[0]'h = c := fun _ => rfl
  have hN : isN c = (decide ((102 : Int) ≤ (c.toNat : Int)) && decide ((c.toNat : Int) ≤ 107)) := by
    unfold isN
    congr 1
    · apply decide_eq_decide.2; omega
    · apply decide_eq_decide.2; omega
  have HN := Lib.hid hN
  clear hN
  by_cases h1 : (102 : Int) ≤ (c.toNat : Int)
  · by_cases h2 : (c.toNat : Int) ≤ 107
    · have hv : Hid (isN c = true) := by show _ = _; rw [HN.out]; simp [h1, h2]
      go_enter Tryz.func143, Tryz.ntmps143
      go_wp2
      go_ret
      exact ⟨by rw [hv.out]; rfl, rfl⟩
    · have hv : Hid (isN c = false) := by show _ = _; rw [HN.out]; simp [h2]
      go_enter Tryz.func143, Tryz.ntmps143
      go_wp2
      go_ret
      exact ⟨by rw [hv.out]; rfl, rfl⟩
  · have hv : Hid (isN c = false) := by show _ = _; rw [HN.out]; simp [h1]
    go_enter Tryz.func143, Tryz.ntmps143
    go_wp2
    go_ret
    exact ⟨by rw [hv.out]; rfl, rfl⟩

theorem str_head1 (c : UInt8) (r : List UInt8) : (str (c :: r)).extract 0 1 = str [c] := by
  apply ByteArray.ext
  simp [str, ByteArray.data_extract]

set_option maxRecDepth 100000 in
set_option maxHeartbeats 1000000 in
theorem name_yes (b : Nat) (c : UInt8) (r : List UInt8) (hd : isN c = true) (w : World) (h : Txr b (c :: r) w) (hm : r.length + 1 ≤ 1048576) :
    Calls Tryz.prog 176 #[.pointer (some ⟨b, 0, none⟩)] w fun e w' => e = .returned (.string (str [c])) ∧ Keep b w w' ∧ Txr b r w' := by
  have c0 := h.cell
  have f0 := h.frozen
  have HT := Lib.hid h
  have h1 : (str (c :: r)).toList = c :: r := str_toList _
  have h3 := str_pos c r
  have h4 := str_head1 c r
  have h5 := str_tail c r
  have h6 : (str (c :: r)).size = r.length + 1 := by rw [str_size]; rfl
  rw [h6] at h5 h3
  clear h
  go_enter Tryz.func176, Tryz.ntmps176
  go_wp2_with (go_at_call 143; refine (isFn_any c _).mono ?_; rintro e w1 ⟨rfl, rfl⟩; rw [hd])
  go_ret
  exact ⟨rfl, (Keep.refl b _).setb _, HT.out.set r⟩
end Go.Proofs.YtnmbjmocnafekaaGreatDoor

namespace Go.Proofs.YtnmbjmocnafekaaGreatDoor
open Go.RowKit

/-- A value stands for a term: its rows lie in blocks from B on. -/
def NodeAt (w : World) (B : Nat) : Tm → Value → Prop
  | .lit k v, o => o = .iface 164 (.agg #[.int .i64 k, .int .i64 v])
  | .c0 n, o => ∃ ps, o = .iface 167 (.agg #[.string (str [n]), ps]) ∧ w.ownsRow B 93 1 ps 0 []
  | .c1 n t, o => ∃ ps v, o = .iface 167 (.agg #[.string (str [n]), ps]) ∧ w.ownsRow B 93 1 ps 1 [v] ∧ NodeAt w B t v
  | .c2 n t u, o => ∃ ps v v2, o = .iface 167 (.agg #[.string (str [n]), ps]) ∧ w.ownsRow B 93 1 ps 2 [v, v2] ∧ NodeAt w B t v ∧ NodeAt w B u v2
def NodesAt (w : World) (B : Nat) : List Tm → List Value → Prop
  | [], [] => True
  | t :: ts, v :: vs => NodeAt w B t v ∧ NodesAt w B ts vs
  | _, _ => False
theorem own_same {w w' : World} {N : Nat} {t : TypeId} {v : Value} {n : Nat} {xs : List Value} (h : w.ownsRow N t 1 v n xs) (hs : ∀ g, N ≤ g → g < w.heap.size → w'.heap[g]? = w.heap[g]?) : w'.ownsRow N t 1 v n xs := by
  obtain ⟨h1, h2 | ⟨g, cap, cur, e, hg, hh, r⟩⟩ := h
  · exact ⟨h1, .inl h2⟩
  · refine ⟨h1, .inr ⟨g, cap, cur, e, hg, (hs g hg ?_).trans hh, r⟩⟩
    rcases Nat.lt_or_ge g w.heap.size with h' | h'
    · exact h'
    · rw [Array.getElem?_eq_none h'] at hh; cases hh
theorem NodeAt.same {w w' : World} {B : Nat} (hs : ∀ g, B ≤ g → g < w.heap.size → w'.heap[g]? = w.heap[g]?) : ∀ {t : Tm} {o : Value}, NodeAt w B t o → NodeAt w' B t o
  | .lit _ _, _, h => h
  | .c0 _, _, ⟨ps, e, h⟩ => ⟨ps, e, own_same h hs⟩
  | .c1 _ _, _, ⟨ps, v, e, h, g⟩ => ⟨ps, v, e, own_same h hs, g.same hs⟩
  | .c2 _ _ _, _, ⟨ps, v, v2, e, h, g, g2⟩ => ⟨ps, v, v2, e, own_same h hs, g.same hs, g2.same hs⟩
theorem NodeAt.base {w : World} {B C : Nat} (hC : C ≤ B) : ∀ {t : Tm} {o : Value}, NodeAt w B t o → NodeAt w C t o
  | .lit _ _, _, h => h
  | .c0 _, _, ⟨ps, e, h⟩ => ⟨ps, e, ownsRow_base h hC⟩
  | .c1 _ _, _, ⟨ps, v, e, h, g⟩ => ⟨ps, v, e, ownsRow_base h hC, g.base hC⟩
  | .c2 _ _ _, _, ⟨ps, v, v2, e, h, g, g2⟩ => ⟨ps, v, v2, e, ownsRow_base h hC, g.base hC, g2.base hC⟩
theorem NodesAt.same {w w' : World} {B : Nat} (hs : ∀ g, B ≤ g → g < w.heap.size → w'.heap[g]? = w.heap[g]?) : ∀ {ts : List Tm} {vs : List Value}, NodesAt w B ts vs → NodesAt w' B ts vs
  | [], [], _ => trivial
  | _ :: _, _ :: _, ⟨h, g⟩ => ⟨h.same hs, g.same hs⟩
theorem NodesAt.base {w : World} {B C : Nat} (hC : C ≤ B) : ∀ {ts : List Tm} {vs : List Value}, NodesAt w B ts vs → NodesAt w C ts vs
  | [], [], _ => trivial
  | _ :: _, _ :: _, ⟨h, g⟩ => ⟨h.base hC, g.base hC⟩
theorem NodesAt.len {w : World} {B : Nat} : ∀ {ts : List Tm} {vs : List Value}, NodesAt w B ts vs → vs.length = ts.length
  | [], [], _ => rfl
  | _ :: _, _ :: _, ⟨_, g⟩ => by simp [g.len]
theorem NodesAt.snoc {w : World} {B : Nat} {t : Tm} {v : Value} (ht : NodeAt w B t v) : ∀ {ts : List Tm} {vs : List Value}, NodesAt w B ts vs → NodesAt w B (ts ++ [t]) (vs ++ [v])
  | [], [], _ => ⟨ht, trivial⟩
  | _ :: _, _ :: _, ⟨h, g⟩ => ⟨h, g.snoc ht⟩
theorem Keep.same {b B : Nat} {w w' : World} (h : Keep b w w') (hb : b < B) : ∀ g, B ≤ g → g < w.heap.size → w'.heap[g]? = w.heap[g]? := fun _ hg hw => h.block hw (by omega)
theorem set_same {B : Nat} (w : World) {p : Addr} (hp : p.block < B) (v : Value) : ∀ g, B ≤ g → g < w.heap.size → (w.setCell p v).heap[g]? = w.heap[g]? := fun g hg _ => Below.heap_setCell _ _ _ _ (by omega)
theorem NodeAt.mk {w : World} {B : Nat} {n : UInt8} {ps : Value} {ts : List Tm} {vs : List Value} (h2 : ts.length ≤ 2) (hr : w.ownsRow B 93 1 ps ts.length vs) (hn : NodesAt w B ts vs) : NodeAt w B (mkCall n ts) (.iface 167 (.agg #[.string (str [n]), ps])) := by
  match ts, vs, h2, hr, hn with
  | [], [], _, hr, _ => exact ⟨ps, rfl, hr⟩
  | [t], [v], _, hr, hn => exact ⟨ps, v, rfl, hr, hn.1⟩
  | [t, u], [v, v2], _, hr, hn => exact ⟨ps, v, v2, rfl, hr, hn.1, hn.2.1⟩

theorem NodeAt.form {w : World} {B : Nat} : ∀ {t : Tm} {o : Value}, NodeAt w B t o → ∃ T x, o = .iface T x
  | .lit _ _, _, h => ⟨_, _, h⟩
  | .c0 _, _, ⟨_, e, _⟩ => ⟨_, _, e⟩
  | .c1 _ _, _, ⟨_, _, e, _⟩ => ⟨_, _, e⟩
  | .c2 _ _ _, _, ⟨_, _, _, e, _⟩ => ⟨_, _, e⟩

/-- What reading a term comes to. -/
def TermPost (f b : Nat) (l : List UInt8) (a : Addr) (w : World) (e : Ending) (w' : World) : Prop :=
  ((∃ t r o, rdTm f l = some (t, r) ∧ e = .returned o ∧ NodeAt w' w.heap.size t o ∧ Txr b r w') ∨ (rdTm f l = none ∧ e = boom a)) ∧ Keep b w w'
def TermReads (f : Nat) : Prop := ∀ (b : Nat) (l : List UInt8) (n : Nat) (a : Addr) (w : World), Txr b l w → Ev w n a → n ≤ b → l.length ≤ f → l.length ≤ 1048576 →
  Calls Tryz.prog 138 #[.pointer (some ⟨b, 0, none⟩)] w fun e w' => TermPost f b l a w e w'
def ArgsPost (f b : Nat) (l : List UInt8) (a : Addr) (w : World) (e : Ending) (w' : World) : Prop :=
  ((∃ ts r o vs, rdArgs (rdTm f) l = some (ts, r) ∧ ts.length ≤ 2 ∧ r.length ≤ l.length ∧ e = .returned o ∧ w'.ownsRow w.heap.size 93 1 o ts.length vs ∧ NodesAt w' w.heap.size ts vs ∧ Txr b r w') ∨ (rdArgs (rdTm f) l = none ∧ e = boom a)) ∧ Keep b w w'

/-- What is left to be read behind the first arguments. -/
def contArgs (rd : List UInt8 → Option (Tm × List UInt8)) (ts : List Tm) (r : List UInt8) : Option (List Tm × List UInt8) :=
  if ts.length < 2 ∧ hasB 44 r = true then (rdTake 44 r).bind fun r1 => (rd r1).map fun q => (ts ++ [q.1], q.2) else some (ts, r)
theorem rdArgs_cont (rd : List UInt8 → Option (Tm × List UInt8)) {l : List UInt8} (h : hasB 41 l = false) : rdArgs rd l = (rd l).bind fun p => contArgs rd [p.1] p.2 := by
  unfold rdArgs contArgs
  rw [if_neg (by simp [h])]
  congr 1
  funext p
  by_cases h44 : hasB 44 p.2 = true
  · rw [if_pos h44, if_pos ⟨by simp, h44⟩]
    rfl
  · rw [if_neg h44, if_neg (fun c => h44 c.2)]
theorem own_slice' {w : World} {N : Nat} {t : TypeId} {v : Value} {n : Nat} {xs : List Value} (h : w.ownsRow N t 1 v n xs) : ∃ A c, v = .slice A n c := by
  obtain ⟨_, ⟨rfl, rfl⟩ | ⟨g, cap3, cur, rfl, _⟩⟩ := h
  · exact ⟨_, _, rfl⟩
  · exact ⟨_, _, rfl⟩
def lenOf : Value → Nat
  | .slice _ n _ => n
  | _ => 0
theorem hasB_yes {s : UInt8} {l : List UInt8} (h : hasB s l = true) : ∃ r, l = s :: r ∧ rdTake s l = some r := by
  cases l with
  | nil => cases h
  | cons c r =>
    have hc : c = s := by simpa [hasB] using h
    subst hc
    exact ⟨r, rfl, by simp [rdTake]⟩

set_option maxRecDepth 100000 in
set_option maxHeartbeats 4000000 in
theorem arguments_any (f : Nat) (IH : TermReads f) (b : Nat) (l : List UInt8) (n : Nat) (a : Addr) (w : World) (h : Txr b l w) (hv : Ev w n a) (hnb : n ≤ b) (hf : l.length ≤ f) (hm : l.length ≤ 1048576) :
    Calls Tryz.prog 178 #[.pointer (some ⟨b, 0, none⟩)] w fun e w' => ArgsPost f b l a w e w' := by
  obtain ⟨i0, hi0, hz0, hz1, hz2⟩ := info_parts (show (Tryz.prog.info? 93).map (fun i => (i.zero, i.size, i.bytes)) = some (some .nilIface, 1, 16) by kernel_rfl)
  have HI := Lib.hid IH
  have HT := Lib.hid h
  have HV := Lib.hid hv
  have hblt := h.lt
  clear h hv IH
  cases hb41 : hasB 41 l with
  | true =>
    have hyes : Hid (rdArgs (rdTm f) l = some ([], l)) := by show _ = _; unfold rdArgs; rw [if_pos hb41]
    have HB := Lib.hid hb41
    clear hb41
    go_enter Tryz.func178, Tryz.ntmps178
    go_wp2_with (first | (go_at_call 195; refine (has_any b l 41 41 rfl w HT.out).mono ?_; rintro e w1 ⟨rfl, rfl⟩; rw [HB.out]))
    go_ret
    exact ⟨.inl ⟨[], l, _, [], hyes.out, by simp, Nat.le_refl _, rfl, ⟨by simp, .inl ⟨rfl, rfl⟩⟩, trivial, HT.out⟩, Keep.refl _ _⟩
  | false =>
    have hco := Lib.hid (rdArgs_cont (rdTm f) hb41)
    have HB := Lib.hid hb41
    clear hb41
    go_enter Tryz.func178, Tryz.ntmps178
    go_wp2_with fail
    refine (has_any b l 41 41 rfl w HT.out).mono ?_
    rintro e w0 ⟨rfl, rfl⟩
    rw [HB.out]
    go_wp2_with fail
    refine (HI.out b l n a w0 HT.out HV.out hnb hf hm).mono ?_
    rintro e w1 ⟨⟨t, r, o, hrd, rfl, hno, htx⟩ | ⟨hrd, rfl⟩, hk1⟩
    · have hrl := rdTm_len hrd
      have hs1 := hk1.size
      obtain ⟨oT, ox, rfl⟩ := hno.form
      have hco1 : Hid (rdArgs (rdTm f) l = contArgs (rdTm f) [t] r) := by show _ = _; rw [hco.out, hrd]; rfl
      have hown0 : Hid ((w1.alloc (.cells #[.iface oT ox] 93)).ownsRow w0.heap.size 93 1 (.slice (some ⟨w1.heap.size, 0, none⟩) 1 1) 1 [.iface oT ox]) := World.ownsRow_lit w1 #[.iface oT ox] 1 hs1 (by unfold maxLen; omega) rfl
      have hk2 : Below w1.heap.size w1 (w1.alloc (.cells #[.iface oT ox] 93)) := (Below.refl _ _).alloc (Nat.le_refl _) _
      have HK0 : Hid (Keep b w0 (w1.alloc (.cells #[.iface oT ox] 93))) := hk1.of_below hk2
      have HT0 : Hid (Txr b r (w1.alloc (.cells #[.iface oT ox] 93))) := htx.below hk2
      have HN0 : Hid (NodesAt (w1.alloc (.cells #[.iface oT ox] 93)) w0.heap.size [t] [.iface oT ox]) := ⟨hno.same (fun g _ hg => hk2.block g hg), trivial⟩
      have HC0 : Hid ((w1.alloc (.cells #[.iface oT ox] 93)).cell? ⟨w1.heap.size, 0, none⟩ = some (.iface oT ox)) := (Row.new w1 93 [.iface oT ox]).cell 0
      clear hk1 hk2 htx hno hrd hco
      go_wp2_with fail
      go_loopw [3] (fun o wr => ∃ ts r2 vs, 0 < ts.length ∧ ts.length ≤ 2 ∧ r2.length + 1 ≤ l.length ∧ Hid (rdArgs (rdTm f) l = contArgs (rdTm f) ts r2) ∧ Hid (Keep b w0 wr) ∧ Hid (Txr b r2 wr) ∧ Hid (wr.ownsRow w0.heap.size 93 1 o ts.length vs) ∧ Hid (NodesAt wr w0.heap.size ts vs) ∧ Hid (ts.length = 1 → ∃ g v, o = .slice (some ⟨g, 0, none⟩) 1 1 ∧ vs = [v] ∧ wr.cell? ⟨g, 0, none⟩ = some v ∧ w0.heap.size ≤ g)) (fun o _ => 2 - lenOf o)
      case atStart => exact ⟨[t], r, _, by simp, by simp, by omega, hco1.out, HK0.out, HT0.out, hown0.out, HN0.out, fun _ => ⟨_, _, rfl, rfl, HC0.out, hs1⟩⟩
      case round =>
        clear hco1 HK0 HT0 hown0 HN0 HC0
        obtain ⟨ts, r2, vs, hl0, hl2, hr2, hrel2, hkr, htr, hor, hnr, hone⟩ := hrel
        have HVr : Hid (Ev wr n a) := HV.out.keep hkr.out hnb
        have hwr := hkr.out.size
        obtain ⟨SA, SC, hsl⟩ := own_slice' hor.out
        by_cases hlt : ts.length < 2
        · have hl1 : ts.length = 1 := by omega
          obtain ⟨g, v, hso, rfl, hcv, hgb⟩ := hone.out hl1
          rw [hl1] at hor hlt
          subst hso
          have HCV := Lib.hid hcv
          clear hone hsl hcv
          cases hb : hasB 44 r2 with
          | false =>
            have hfin : Hid (rdArgs (rdTm f) l = some (ts, r2)) := by show _ = _; rw [hrel2.out]; unfold contArgs; rw [if_neg (by simp [hb])]
            have HB2 := Lib.hid hb
            clear hb hrel2
            go_wp2_with (first | (go_at_call 195; refine (has_any b r2 44 44 rfl wr htr.out).mono ?_; rintro e w1 ⟨rfl, rfl⟩; rw [HB2.out]))
            go_ret
            exact ⟨.inl ⟨ts, r2, _, [v], hfin.out, hl2, by omega, rfl, by rw [hl1]; exact hor.out, hnr.out, htr.out⟩, hkr.out⟩
          | true =>
            obtain ⟨r3, rfl, htk⟩ := hasB_yes hb
            have hrel3 : Hid (rdArgs (rdTm f) l = (rdTm f r3).map fun q => (ts ++ [q.1], q.2)) := by show _ = _; rw [hrel2.out]; unfold contArgs; rw [if_pos ⟨by omega, hb⟩, htk]; rfl
            have HB2 := Lib.hid hb
            clear hb hrel2
            simp only [List.length_cons] at hr2
            go_wp2_with fail
            refine (has_any b (44 :: r3) 44 44 rfl wr htr.out).mono ?_
            rintro e wr2 ⟨rfl, rfl⟩
            rw [HB2.out]
            go_wp2_with fail
            refine (take_yes b _ r3 44 44 rfl htk _ htr.out (by simp; omega)).mono ?_
            rintro e w3 ⟨rfl, hk3, ht3⟩
            have HK3 := Lib.hid (hkr.out.trans hk3)
            have HT3 := Lib.hid ht3
            have HN3 := Lib.hid (hnr.out.same (hk3.same hblt))
            have HV3 : Hid (Ev w3 n a) := HVr.out.keep hk3 hnb
            have hgl := World.block_lt_of_cell? _ _ HCV.out
            have HC3 : Hid (w3.cell? ⟨g, 0, none⟩ = some v) := (World.cell?_of_block (w := wr2) (hk3.block hgl (by dsimp only; omega))).trans HCV.out
            clear hk3 ht3 hor hnr htr hkr HVr hgl HCV
            go_wp2_with fail
            refine (HI.out b r3 n a w3 HT3.out HV3.out hnb (by omega) (by omega)).mono ?_
            rintro e w4 ⟨⟨t2, r4, o2, hrd2, rfl, hno2, htx2⟩ | ⟨hrd2, rfl⟩, hk4⟩
            · have hrl2 := rdTm_len hrd2
              obtain ⟨o2T, o2x, rfl⟩ := hno2.form
              have hrel4 : Hid (rdArgs (rdTm f) l = contArgs (rdTm f) (ts ++ [t2]) r4) := by
                show _ = _
                rw [hrel3.out, hrd2]
                unfold contArgs
                rw [if_neg (by simp; omega)]
                rfl
              have HK4 := Lib.hid (HK3.out.trans hk4)
              have HT4 := Lib.hid htx2
              have HN4 : Hid (NodesAt w4 w0.heap.size (ts ++ [t2]) [v, .iface o2T o2x]) := (HN3.out.same (hk4.same hblt)).snoc (hno2.base HK3.out.size)
              have hgl := World.block_lt_of_cell? _ _ HC3.out
              have hs4 := HK4.out.size
              have HC4 : Hid (w4.cell? ⟨g, 0, none⟩ = some v) := (World.cell?_of_block (w := w3) (hk4.block hgl (by dsimp only; omega))).trans HC3.out
              have hgl4 := World.block_lt_of_cell? _ _ HC4.out
              dsimp only at hgl4
              clear hk4 htx2 hno2 HN3 HT3 HV3 hrel3 hrd2 HC3 hgl
              go_wp2_with (at_builtin; refine wpList_append_grows _ rfl (.tmp 18) (.tmp 21) 165 rfl 93 i0 .nilIface 1 16 Tryz.underlying165 hi0 hz0 hz1 hz2 rfl (by decide) (some ⟨g, 0, none⟩) 1 1 [v] rfl (by simp) rfl ?c0 ⟨w4.heap.size, 0, none⟩ 1 1 [.iface o2T o2x] rfl rfl ?c1 ?c2 (by decide) ?c3 ?c4 ?_)
              case c0 =>
                intro b' hb' j u hj
                injection hb' with hb'
                subst hb'
                match j, hj with
                | 0, hj =>
                  simp at hj
                  subst hj
                  show (w4.alloc _).cell? ⟨g, 0, none⟩ = _
                  rw [World.cell?_alloc_past _ _ _ hgl4]
                  exact HC4.out
              case c1 =>
                intro i u hi
                match i, hi with
                | 0, hi => simp at hi; subst hi; simp [Addr.add]
              case c2 => intro u hu; simp at hu; subst hu; rfl
              case c3 => unfold maxLen; omega
              case c4 => omega
              intro v' w5 hown5 hgrow
              have hk5 : Below w4.heap.size w4 w5 := ((Below.refl _ _).alloc (Nat.le_refl _) (.cells #[.iface o2T o2x] 93)).trans ⟨hgrow.os, hgrow.tape, hgrow.output, hgrow.size, fun k hk => hgrow.block k (by rw [World.size_alloc]; omega) (by intro h; cases h)⟩
              have HK5 : Hid (Keep b w0 w5) := HK4.out.of_below hk5
              have HT5 : Hid (Txr b r4 w5) := HT4.out.below hk5
              have HN5 : Hid (NodesAt w5 w0.heap.size (ts ++ [t2]) [v, .iface o2T o2x]) := HN4.out.same (fun g _ hg => hk5.block g hg)
              have hown6 := Lib.hid (ownsRow_base hown5 (show w0.heap.size ≤ w4.heap.size + 1 by omega))
              have hlen : Hid (lenOf v' = 2) := by
                obtain ⟨SA2, SC2, hsl2⟩ := own_slice' hown6.out
                show lenOf v' = 2
                rw [hsl2]
                rfl
              clear hown5 hgrow hk5 HK4 HT4 HN4 HC4
              go_wp2
              go_roundw
              case rel => exact ⟨ts ++ [t2], r4, [v, .iface o2T o2x], by simp, by simp; omega, by omega, hrel4.out, HK5.out, HT5.out, ownsRow_cast hown6.out (by rw [List.length_append, hl1]; rfl) rfl, HN5.out, fun h => absurd h (by simp only [List.length_append, List.length_cons, List.length_nil]; omega)⟩
              case measure => rw [hlen.out]; simp [lenOf]
            · have hno : Hid (rdArgs (rdTm f) l = none) := by show _ = _; rw [hrel3.out, hrd2]; rfl
              have HK := Lib.hid (HK3.out.trans hk4)
              clear hk4 hrd2
              go_wp2
              exact ⟨rfl, .inr ⟨hno.out, rfl⟩, HK.out⟩
        · have hfin : Hid (rdArgs (rdTm f) l = some (ts, r2)) := by show _ = _; rw [hrel2.out]; unfold contArgs; rw [if_neg (fun c => hlt c.1)]
          have hlti : ¬ ((ts.length : Int) < 2) := by omega
          subst hsl
          clear hrel2 hone
          go_wp2
          go_ret
          exact ⟨.inl ⟨ts, r2, _, vs, hfin.out, hl2, by omega, rfl, hor.out, hnr.out, htr.out⟩, hkr.out⟩
    · have hno : Hid (rdArgs (rdTm f) l = none) := by show _ = _; rw [hco.out, hrd]; rfl
      have HK := Lib.hid hk1
      clear hk1 hrd
      go_wp2
      exact ⟨rfl, .inr ⟨hno.out, rfl⟩, HK.out⟩

/-- What reading a call comes to. -/
def CallPost (f b : Nat) (c : UInt8) (l : List UInt8) (a : Addr) (w : World) (e : Ending) (w' : World) : Prop :=
  ((∃ t r o, rdCall (rdTm f) c l = some (t, r) ∧ e = .returned o ∧ NodeAt w' w.heap.size t (.iface 167 o) ∧ Txr b r w') ∨ (rdCall (rdTm f) c l = none ∧ e = boom a)) ∧ Keep b w w'
theorem Rd2.under {T : TypeId} {b n : Nat} {a : Addr} {w w' w'' : World} {xs ys : List Value} {l : List UInt8} (h : Rd2 T b n a w w' xs ys l) (hb : Below w'.heap.size w' w'') : Rd2 T b n a w w'' xs ys l :=
  h.go ((Keep.refl b w').of_below hb) (h.txr.below hb)

set_option maxRecDepth 100000 in
set_option maxHeartbeats 4000000 in
theorem call_any (f : Nat) (IH : TermReads f) (b : Nat) (c : UInt8) (l : List UInt8) (hc : isN c = true) (n : Nat) (a : Addr) (w : World) (h : Txr b (c :: l) w) (hv : Ev w n a) (hnb : n ≤ b) (hf : l.length ≤ f) (hm : l.length + 1 ≤ 1048576) :
    Calls Tryz.prog 160 #[.pointer (some ⟨b, 0, none⟩)] w fun e w' => CallPost f b c l a w e w' := by
  have hblt := h.lt
  have S0 : Hid (Rd2 167 b n a w ((w.alloc (.cells #[.string ⟨#[]⟩, .slice none 0 0] 167)).alloc (.cells #[.string ⟨#[]⟩, .slice none 0 0] 167)) [.string ⟨#[]⟩, .slice none 0 0] [.string ⟨#[]⟩, .slice none 0 0] (c :: l)) := Rd2.start h hv hnb [.string ⟨#[]⟩, .slice none 0 0]
  have HI := Lib.hid IH
  clear h hv IH
  go_enter Tryz.func160, Tryz.ntmps160
  go_wp2_with fail
  refine (name_yes b c l hc _ S0.out.txr hm).mono ?_
  rintro e w1 ⟨rfl, hk1, ht1⟩
  have S1 := Lib.hid (S0.out.go hk1 ht1)
  clear hk1 ht1 S0 hc
  go_wp2_with fail
  refine (cloneS_any (str [c]) w1 (by rw [str_size]; simp)).mono ?_
  rintro e w2 ⟨rfl, hb2⟩
  have S2 := Lib.hid (S1.out.under hb2)
  have m0 := S2.out.var.cell 0
  have f0 := S2.out.var.frozen 0
  simp only [List.getElem?_cons_zero] at m0
  clear hb2 S1
  go_wp2_with fail
  obtain ⟨u1, hu1⟩ : ∃ u, u = w2.setCell ⟨w.heap.size + 1, 0, none⟩ (.string (str [c])) := ⟨_, rfl⟩
  rw [← hu1]
  have S3 : Hid (Rd2 167 b n a w u1 [.string ⟨#[]⟩, .slice none 0 0] [.string (str [c]), .slice none 0 0] l) := by rw [hu1]; exact S2.out.setv 0 _
  clear hu1 S2 m0 f0
  cases htk : rdTake 40 l with
  | none =>
    have hno : Hid (rdCall (rdTm f) c l = none) := by show _ = _; unfold rdCall; rw [htk]; rfl
    refine (take_no b l 40 40 rfl htk n a _ S3.out.txr S3.out.ev).mono ?_
    clear htk
    rintro e w2 ⟨rfl, rfl⟩
    go_wp2
    exact ⟨rfl, .inr ⟨hno.out, rfl⟩, S3.out.kee⟩
  | some q1 =>
    have hq1 := rdTake_len htk
    have hco2 : Hid (rdCall (rdTm f) c l = (rdArgs (rdTm f) q1).bind fun p => (rdTake 41 p.2).map fun r2 => (mkCall c p.1, r2)) := by
      show _ = _
      unfold rdCall
      rw [htk]
      rfl
    refine (take_yes b l q1 40 40 rfl htk _ S3.out.txr (by omega)).mono ?_
    clear htk
    rintro e w3 ⟨rfl, hk3, ht3⟩
    have S4 := Lib.hid (S3.out.go hk3 ht3)
    clear hk3 ht3 S3
    go_wp2_with fail
    refine (arguments_any f HI.out b q1 n a w3 S4.out.txr S4.out.ev hnb (by omega) (by omega)).mono ?_
    rintro e w4 ⟨⟨ts, r, o, vs, hra, hl2, hrl, rfl, hown, hnod, ht4⟩ | ⟨hra, rfl⟩, hk4⟩
    · have hco3 : Hid (rdCall (rdTm f) c l = (rdTake 41 r).map fun r2 => (mkCall c ts, r2)) := by
        show _ = _
        rw [hco2.out, hra]
        rfl
      have S5 := Lib.hid (S4.out.go hk4 ht4)
      have hB := S4.out.siz
      have hblt3 : b < w3.heap.size := by omega
      have m1 := S5.out.var.cell 1
      have f1 := S5.out.var.frozen 1
      simp only [List.getElem?_cons_zero, List.getElem?_cons_succ] at m1
      obtain ⟨OA, OC, rfl⟩ := own_slice' hown
      have Hown := Lib.hid hown
      have Hnod := Lib.hid hnod
      clear hk4 ht4 S4 hra hco2 hown hnod
      go_wp2_with fail
      obtain ⟨u2, hu2⟩ : ∃ u, u = w4.setCell ⟨w.heap.size + 1, 1, none⟩ (.slice OA ts.length OC) := ⟨_, rfl⟩
      rw [← hu2]
      have S6 : Hid (Rd2 167 b n a w u2 [.string ⟨#[]⟩, .slice none 0 0] [.string (str [c]), .slice OA ts.length OC] r) := by rw [hu2]; exact S5.out.setv 1 _
      have Hown2 : Hid (u2.ownsRow w3.heap.size 93 1 (.slice OA ts.length OC) ts.length vs) := by rw [hu2]; exact own_same Hown.out (set_same w4 (by dsimp only; omega) _)
      have Hnod2 : Hid (NodesAt u2 w3.heap.size ts vs) := by rw [hu2]; exact Hnod.out.same (set_same w4 (by dsimp only; omega) _)
      clear hu2 S5 m1 f1 Hown Hnod
      cases htk : rdTake 41 r with
      | none =>
        have hno : Hid (rdCall (rdTm f) c l = none) := by show _ = _; rw [hco3.out, htk]; rfl
        refine (take_no b r 41 41 rfl htk n a _ S6.out.txr S6.out.ev).mono ?_
        clear htk
        rintro e w5 ⟨rfl, rfl⟩
        go_wp2
        exact ⟨rfl, .inr ⟨hno.out, rfl⟩, S6.out.kee⟩
      | some q2 =>
        have hfin : Hid (rdCall (rdTm f) c l = some (mkCall c ts, q2)) := by show _ = _; rw [hco3.out, htk]; rfl
        refine (take_yes b r q2 41 41 rfl htk _ S6.out.txr (by omega)).mono ?_
        clear htk
        rintro e w5 ⟨rfl, hk5, ht5⟩
        have S7 := Lib.hid (S6.out.go hk5 ht5)
        have Hown3 := Lib.hid (own_same Hown2.out (hk5.same hblt3))
        have Hnod3 := Lib.hid (Hnod2.out.same (hk5.same hblt3))
        have m0 := S7.out.var.cell 0
        have m1 := S7.out.var.cell 1
        have f0 := S7.out.var.frozen 0
        have f1 := S7.out.var.frozen 1
        have p0 := S7.out.res.cell 0
        have p1 := S7.out.res.cell 1
        have e0 := S7.out.res.frozen 0
        have e1 := S7.out.res.frozen 1
        simp only [List.getElem?_cons_zero, List.getElem?_cons_succ] at m0 m1 p0 p1
        clear hk5 ht5 S6 Hown2 Hnod2 hco3
        go_wp2
        obtain ⟨u5, hu5⟩ : ∃ u, u = (w5.setCell ⟨w.heap.size, 0, none⟩ (.string (str [c]))).setCell ⟨w.heap.size, 1, none⟩ (.slice OA ts.length OC) := ⟨_, rfl⟩
        rw [← hu5]
        have S8 : Hid (Rd2 167 b n a w u5 [.string (str [c]), .slice OA ts.length OC] [.string (str [c]), .slice OA ts.length OC] q2) := by rw [hu5]; exact (S7.out.setr 0 _).setr 1 _
        have Hown4 : Hid (u5.ownsRow w3.heap.size 93 1 (.slice OA ts.length OC) ts.length vs) := by rw [hu5]; exact own_same (own_same Hown3.out (set_same w5 (by dsimp only; omega) _)) (set_same _ (by dsimp only; omega) _)
        have Hnod4 : Hid (NodesAt u5 w3.heap.size ts vs) := by rw [hu5]; exact (Hnod3.out.same (set_same w5 (by dsimp only; omega) _)).same (set_same _ (by dsimp only; omega) _)
        have d0 := S8.out.res.cell 0
        have d1 := S8.out.res.cell 1
        simp only [List.getElem?_cons_zero, List.getElem?_cons_succ] at d0 d1
        clear hu5
        refine bodyPost_ret (v := .agg #[.string (str [c]), .slice OA ts.length OC]) (by simp [results, Tryz.results160, go_sem, d0, d1]) rfl ?_
        exact ⟨.inl ⟨_, q2, _, hfin.out, rfl, (NodeAt.mk hl2 Hown4.out Hnod4.out).base (by omega), S8.out.txr⟩, S8.out.kee⟩
    · have hno : Hid (rdCall (rdTm f) c l = none) := by show _ = _; rw [hco2.out, hra]; rfl
      have HK := Lib.hid (S4.out.kee.trans hk4)
      clear hk4 hra
      go_wp2
      exact ⟨rfl, .inr ⟨hno.out, rfl⟩, HK.out⟩

set_option maxRecDepth 100000 in
set_option maxHeartbeats 4000000 in
theorem term_reads : ∀ f, TermReads f := by
  intro f
  induction f with
  | zero =>
    intro b l n a w h hv hnb hf hm
    obtain rfl : l = [] := List.eq_nil_of_length_eq_zero (by omega)
    have c0 := h.cell
    have e0 : str [] = (⟨#[]⟩ : ByteArray) := rfl
    rw [e0] at c0
    have HL := Lib.hid (literal_any b [] n a w h hv hnb hm)
    have hno : Hid (rdTm 0 [] = none) := rdTm_nil 0
    clear h hv
    go_enter Tryz.func138, Tryz.ntmps138
    go_wp2_with fail
    refine HL.out.mono ?_
    rintro e w1 ⟨⟨k, v, r, hr, _⟩ | ⟨hr, rfl⟩, hk1⟩
    · cases hr
    · have HK := Lib.hid hk1
      clear hk1 hr
      go_wp2
      exact ⟨rfl, .inr ⟨hno.out, rfl⟩, HK.out⟩
  | succ f IH =>
    intro b l n a w h hv hnb hf hm
    cases l with
    | nil =>
      have c0 := h.cell
      have e0 : str [] = (⟨#[]⟩ : ByteArray) := rfl
      rw [e0] at c0
      have HL := Lib.hid (literal_any b [] n a w h hv hnb hm)
      have hno : Hid (rdTm (f + 1) [] = none) := rdTm_nil _
      clear h hv IH
      go_enter Tryz.func138, Tryz.ntmps138
      go_wp2_with fail
      refine HL.out.mono ?_
      rintro e w1 ⟨⟨k, v, r, hr, _⟩ | ⟨hr, rfl⟩, hk1⟩
      · cases hr
      · have HK := Lib.hid hk1
        clear hk1 hr
        go_wp2
        exact ⟨rfl, .inr ⟨hno.out, rfl⟩, HK.out⟩
    | cons c l =>
      have c0 := h.cell
      have h1 : (str (c :: l)).toList = c :: l := str_toList _
      have h3 := str_pos c l
      have h4 := str_head1 c l
      have h6 : (str (c :: l)).size = l.length + 1 := by rw [str_size]; rfl
      rw [h6] at h3
      simp only [List.length_cons] at hf hm
      cases hN : isN c with
      | false =>
        have HL := Lib.hid (literal_any b (c :: l) n a w h hv hnb (by simpa using hm))
        have hrd := Lib.hid (rdTm_lit f l hN)
        clear h hv IH
        go_enter Tryz.func138, Tryz.ntmps138
        go_wp2_with (go_at_call 143; refine (isFn_any c _).mono ?_; rintro e w1 ⟨rfl, rfl⟩; rw [hN])
        refine HL.out.mono ?_
        rintro e w1 ⟨⟨k, v, r, hr, rfl, htx⟩ | ⟨hr, rfl⟩, hk1⟩
        · have HK := Lib.hid hk1
          have HT := Lib.hid htx
          have hfin : Hid (rdTm (f + 1) (c :: l) = some (.lit k v, r)) := by show _ = _; rw [hrd.out, hr]
          clear hk1 hr htx
          go_wp2
          go_ret
          exact ⟨.inl ⟨_, r, _, hfin.out, rfl, rfl, HT.out⟩, HK.out⟩
        · have HK := Lib.hid hk1
          have hfin : Hid (rdTm (f + 1) (c :: l) = none) := by show _ = _; rw [hrd.out, hr]
          clear hk1 hr
          go_wp2
          exact ⟨rfl, .inr ⟨hfin.out, rfl⟩, HK.out⟩
      | true =>
        have HL := Lib.hid (call_any f IH b c l hN n a w h hv hnb (by omega) (by omega))
        have hrd := Lib.hid (rdTm_name f l hN)
        clear h hv IH
        go_enter Tryz.func138, Tryz.ntmps138
        go_wp2_with (go_at_call 143; refine (isFn_any c _).mono ?_; rintro e w1 ⟨rfl, rfl⟩; rw [hN])
        refine HL.out.mono ?_
        rintro e w1 ⟨⟨t, r, o, hr, rfl, hnod, htx⟩ | ⟨hr, rfl⟩, hk1⟩
        · have HK := Lib.hid hk1
          have HT := Lib.hid htx
          have HN := Lib.hid hnod
          have hfin : Hid (rdTm (f + 1) (c :: l) = some (t, r)) := by show _ = _; rw [hrd.out, hr]
          clear hk1 hr htx hnod
          go_wp2
          go_ret
          exact ⟨.inl ⟨_, r, _, hfin.out, rfl, HN.out, HT.out⟩, HK.out⟩
        · have HK := Lib.hid hk1
          have hfin : Hid (rdTm (f + 1) (c :: l) = none) := by show _ = _; rw [hrd.out, hr]
          clear hk1 hr
          go_wp2
          exact ⟨rfl, .inr ⟨hfin.out, rfl⟩, HK.out⟩
end Go.Proofs.YtnmbjmocnafekaaGreatDoor

