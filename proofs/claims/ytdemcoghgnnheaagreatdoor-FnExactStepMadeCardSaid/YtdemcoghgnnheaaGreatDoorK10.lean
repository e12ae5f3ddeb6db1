/-
  The contracts of the program's reader where it stands in a larger structure: has, take, end, digit, literal.
  The contract of the program's HasValue.
  The program's explicit terms in memory; the contracts of kindIn, and of the reader's value, opening, madeOf.
  Who takes the parts of an explicit term that an iterator yields; a range over such an iterator, from the side of the loop.
-/
import Derived.Test.YtdemcoghgnnheaaGreatDoorK4
import Derived.Deep.RegionHeld3
import Derived.BigQuiet
import Derived.Shelf.Abstract
import Derived.Test.YtdemcoghgnnheaaGreatDoorK8
import Derived.RangeFuncSeq
import Derived.RangeFuncIn
import Derived.RangeFuncCalls
import Derived.RangeFuncLeaves
import Derived.RangeFuncBound
import Derived.RangeFuncNested
import Derived.OwnWalkIn
import Derived.TacticsInMore
namespace Go.Proofs.YtdemcoghgnnheaaGreatDoor
open Go.RowKit

/-- The reader in block b is before l. -/
def Mxr (MT : TypeId) (ml : List Value) (b : Nat) (l : List UInt8) (w : World) : Prop := Row w b MT (.string (str l) :: ml)
theorem Mxr.lt {MT : TypeId} {ml : List Value} {b : Nat} {l : List UInt8} {w : World} (h : Mxr MT ml b l w) : b < w.heap.size := Row.lt h
theorem Mxr.cell {MT : TypeId} {ml : List Value} {b : Nat} {l : List UInt8} {w : World} (h : Mxr MT ml b l w) : w.cell? ⟨b, 0, none⟩ = some (.string (str l)) := Row.cell h 0
theorem Mxr.frozen {MT : TypeId} {ml : List Value} {b : Nat} {l : List UInt8} {w : World} (h : Mxr MT ml b l w) : w.frozen? ⟨b, 0, none⟩ = false := Row.frozen h 0
theorem Mxr.below {MT : TypeId} {ml : List Value} {b : Nat} {l : List UInt8} {w w' : World} (h : Mxr MT ml b l w) (hb : Below w.heap.size w w') : Mxr MT ml b l w' := Row.below h hb (Row.lt h)
theorem Mxr.set {MT : TypeId} {ml : List Value} {b : Nat} {l : List UInt8} {w : World} (h : Mxr MT ml b l w) (r : List UInt8) : Mxr MT ml b r (w.setCell ⟨b, 0, none⟩ (.string (str r))) := Row.set_ h 0 _

set_option maxRecDepth 100000 in
set_option maxHeartbeats 1000000 in
theorem hasM_any {MT : TypeId} {ml : List Value} (b : Nat) (l : List UInt8) (s : UInt8) (z : Int) (hz : z = (s.toNat : Int)) (w : World) (h : Mxr MT ml b l w) :
    Calls Tryz.prog 131 #[.pointer (some ⟨b, 0, none⟩), .int .u8 z] w fun e w' => e = .returned (.bool (hasB s l)) ∧ w' = w := by
  have c0 := h.cell
  subst hz
  go_enter Tryz.func131, Tryz.ntmps131
  cases l with
  | nil =>
    have e0 : str [] = (⟨#[]⟩ : ByteArray) := rfl
    rw [e0] at c0
    go_wp2
    go_ret
    exact ⟨rfl, rfl⟩
  | cons c r =>
    have h1 : (str (c :: r)).toList = c :: r := str_toList _
    have h2 := str_first c r
    have h3 := str_pos c r
    have h4 := byte_eq c s
    clear h
    go_wp2
    go_ret
    exact ⟨rfl, rfl⟩

set_option maxRecDepth 100000 in
set_option maxHeartbeats 1000000 in
theorem endM_yes {MT : TypeId} {ml : List Value} (b : Nat) (w : World) (h : Mxr MT ml b [] w) :
    Calls Tryz.prog 95 #[.pointer (some ⟨b, 0, none⟩)] w fun e w' => e = .returned (.tuple #[]) ∧ w' = w := by
  have c0 := h.cell
  have e0 : str [] = (⟨#[]⟩ : ByteArray) := rfl
  rw [e0] at c0
  go_enter Tryz.func95, Tryz.ntmps95
  go_wp2
  go_end0
  exact ⟨rfl, rfl⟩
set_option maxRecDepth 100000 in
set_option maxHeartbeats 1000000 in
theorem endM_no {MT : TypeId} {ml : List Value} (b : Nat) (l : List UInt8) (hl : l ≠ []) (n : Nat) (a : Addr) (w : World) (h : Mxr MT ml b l w) (hv : Ev w n a) :
    Calls Tryz.prog 95 #[.pointer (some ⟨b, 0, none⟩)] w fun e w' => e = boom a ∧ w' = w := by
  have c0 := h.cell
  have c1 := hv.2
  obtain ⟨c, r, rfl⟩ : ∃ c r, l = c :: r := by
    cases l with
    | nil => exact absurd rfl hl
    | cons c r => exact ⟨c, r, rfl⟩
  have h1 : (str (c :: r)).toList = c :: r := str_toList _
  clear hl
  go_enter Tryz.func95, Tryz.ntmps95
  go_wp2
  exact ⟨rfl, rfl, rfl⟩

set_option maxRecDepth 100000 in
set_option maxHeartbeats 400000 in
theorem takeM_no {MT : TypeId} {ml : List Value} (b : Nat) (l : List UInt8) (s : UInt8) (z : Int) (hz : z = (s.toNat : Int)) (hl : rdTake s l = none) (n : Nat) (a : Addr) (w : World) (h : Mxr MT ml b l w) (hv : Ev w n a) :
    Calls Tryz.prog 171 #[.pointer (some ⟨b, 0, none⟩), .int .u8 z] w fun e w' => e = boom a ∧ w' = w := by
  have c1 := hv.2
  have Hh := hasM_any b l s z hz w h
  rw [hasB_no hl] at Hh
  have HH := Lib.hid Hh
  clear Hh hz hl h hv
  go_enter Tryz.func171, Tryz.ntmps171
  go_wp2_with fail
  refine HH.out.mono ?_
  rintro e w' ⟨rfl, rfl⟩
  go_wp2
  exact ⟨rfl, rfl, rfl⟩
set_option maxRecDepth 100000 in
set_option maxHeartbeats 400000 in
theorem takeM_yes {MT : TypeId} {ml : List Value} (b : Nat) (l r : List UInt8) (s : UInt8) (z : Int) (hz : z = (s.toNat : Int)) (hl : rdTake s l = some r) (w : World) (h : Mxr MT ml b l w) (hm : l.length ≤ 1048576) :
    Calls Tryz.prog 171 #[.pointer (some ⟨b, 0, none⟩), .int .u8 z] w fun e w' => e = .returned (.tuple #[]) ∧ Keep b w w' ∧ Mxr MT ml b r w' := by
  obtain ⟨hh, rfl⟩ := hasB_take hl
  have Hh := hasM_any b _ s z hz w h
  rw [hh] at Hh
  have HH := Lib.hid Hh
  have c0 := h.cell
  have f0 := h.frozen
  have HT := Lib.hid h
  have h5 := str_tail s r
  have h6 : (str (s :: r)).size = r.length + 1 := by rw [str_size]; rfl
  rw [h6] at h5
  simp only [List.length_cons] at hm
  clear h Hh hz hl hh
  go_enter Tryz.func171, Tryz.ntmps171
  go_wp2_with fail
  refine HH.out.mono ?_
  rintro e w' ⟨rfl, rfl⟩
  go_wp2
  go_end0
  refine ⟨rfl, (Keep.refl b _).setb _, ?_⟩
  first | rw [h5] | skip
  exact HT.out.set r
set_option maxRecDepth 100000 in
set_option maxHeartbeats 400000 in
theorem digitM_yes {MT : TypeId} {ml : List Value} (b : Nat) (c : UInt8) (r : List UInt8) (hd : isD c = true) (w : World) (h : Mxr MT ml b (c :: r) w) (hm : r.length + 1 ≤ 1048576) :
    Calls Tryz.prog 186 #[.pointer (some ⟨b, 0, none⟩)] w fun e w' => e = .returned (.int .i64 (valD c)) ∧ Keep b w w' ∧ Mxr MT ml b r w' := by
  have c0 := h.cell
  have f0 := h.frozen
  have HT := Lib.hid h
  have h1 : (str (c :: r)).toList = c :: r := str_toList _
  have h2 := str_first c r
  have h3 := str_pos c r
  have h5 := str_tail c r
  have h6 : (str (c :: r)).size = r.length + 1 := by rw [str_size]; rfl
  rw [h6] at h5 h3
  simp only [isD, Bool.and_eq_true, decide_eq_true_eq] at hd
  obtain ⟨d1, d2⟩ := hd
  have e1 : ¬ ((c.toNat : Nat) : Int) < 48 := by omega
  have e2 : ¬ (57 : Int) < ((c.toNat : Nat) : Int) := by omega
  clear h
  go_enter Tryz.func186, Tryz.ntmps186
  go_wp2
  go_ret
  exact ⟨rfl, (Keep.refl b _).setb _, HT.out.set r⟩
set_option maxRecDepth 100000 in
set_option maxHeartbeats 400000 in
theorem digitM_no {MT : TypeId} {ml : List Value} (b : Nat) (l : List UInt8) (hl : rdDigit l = none) (n : Nat) (a : Addr) (w : World) (h : Mxr MT ml b l w) (hv : Ev w n a) :
    Calls Tryz.prog 186 #[.pointer (some ⟨b, 0, none⟩)] w fun e w' => e = boom a ∧ w' = w := by
  have c0 := h.cell
  have v0 := hv.2
  clear h hv
  cases l with
  | nil =>
    have e0 : str [] = (⟨#[]⟩ : ByteArray) := rfl
    rw [e0] at c0
    clear hl
    go_enter Tryz.func186, Tryz.ntmps186
    go_wp2
    exact ⟨rfl, rfl, rfl⟩
  | cons c r =>
    have h1 : (str (c :: r)).toList = c :: r := str_toList _
    have h2 := str_first c r
    have h3 := str_pos c r
    have hd : isD c = false := by
      cases hc : isD c with
      | false => rfl
      | true => simp [rdDigit, hc] at hl
    simp only [isD, Bool.and_eq_false_iff, decide_eq_false_iff_not] at hd
    clear hl
    by_cases d1 : 48 ≤ c.toNat
    · have e1 : ¬ ((c.toNat : Nat) : Int) < 48 := by omega
      have e2 : (57 : Int) < ((c.toNat : Nat) : Int) := by omega
      clear hd
      go_enter Tryz.func186, Tryz.ntmps186
      go_wp2
      exact ⟨rfl, rfl, rfl⟩
    · have e1 : ((c.toNat : Nat) : Int) < 48 := by omega
      clear hd
      go_enter Tryz.func186, Tryz.ntmps186
      go_wp2
      exact ⟨rfl, rfl, rfl⟩

theorem Mxr.far' {MT : TypeId} {ml : List Value} {b : Nat} {l : List UInt8} {w : World} (h : Mxr MT ml b l w) {p : Addr} (hp : b ≠ p.block) (v : Value) : Mxr MT ml b l (w.setCell p v) := Row.far h hp v
/-- A call of the reader that has laid its result and its variable: two boxes of one kind. -/
structure Rm2 (MT : TypeId) (ml : List Value) (T : TypeId) (b n : Nat) (a : Addr) (w w' : World) (xs ys : List Value) (l : List UInt8) : Prop where
  blt : b < w.heap.size
  nb : n ≤ b
  siz : w.heap.size + 2 ≤ w'.heap.size
  res : Row w' w.heap.size T xs
  var : Row w' (w.heap.size + 1) T ys
  txr : Mxr MT ml b l w'
  kee : Keep b w w'
  ev : Ev w' n a
theorem Rm2.start {MT : TypeId} {ml : List Value} {T : TypeId} {b n : Nat} {a : Addr} {w : World} {l : List UInt8} (h : Mxr MT ml b l w) (hv : Ev w n a) (hnb : n ≤ b) (xs : List Value) : Rm2 MT ml T b n a w ((w.alloc (.cells xs.toArray T)).alloc (.cells xs.toArray T)) xs xs l := by
  have k : Keep b w ((w.alloc (.cells xs.toArray T)).alloc (.cells xs.toArray T)) := ((Keep.refl b w).of_below ((Below.refl _ _).alloc (Nat.le_refl _) _)).of_below ((Below.refl _ _).alloc (Nat.le_refl _) _)
  refine ⟨h.lt, hnb, by simp, (Row.new w T xs).alloc _, ?_, (h.below ((Below.refl _ _).alloc (Nat.le_refl _) _)).below ((Below.refl _ _).alloc (Nat.le_refl _) _), k, hv.keep k hnb⟩
  have hr := Row.new (w.alloc (.cells xs.toArray T)) T xs
  rw [World.size_alloc] at hr
  exact hr
theorem Rm2.go {MT : TypeId} {ml : List Value} {T : TypeId} {b n : Nat} {a : Addr} {w w' w'' : World} {xs ys : List Value} {l r : List UInt8} (h : Rm2 MT ml T b n a w w' xs ys l) (hk : Keep b w' w'') (ht : Mxr MT ml b r w'') : Rm2 MT ml T b n a w w'' xs ys r :=
  ⟨h.blt, h.nb, Nat.le_trans h.siz hk.size, h.res.kept' hk (by have := h.blt; omega), h.var.kept' hk (by have := h.blt; omega), ht, h.kee.trans hk, h.ev.keep hk h.nb⟩
theorem Rm2.setv {MT : TypeId} {ml : List Value} {T : TypeId} {b n : Nat} {a : Addr} {w w' : World} {xs ys : List Value} {l : List UInt8} (h : Rm2 MT ml T b n a w w' xs ys l) (i : Nat) (v : Value) : Rm2 MT ml T b n a w (w'.setCell ⟨w.heap.size + 1, i, none⟩ v) xs (ys.set i v) l :=
  ⟨h.blt, h.nb, by have := h.siz; simp [World.setCell]; omega, h.res.far (by dsimp only; omega) _, h.var.set_ i _, h.txr.far' (by have := h.blt; dsimp only; omega) _, h.kee.seto' (by dsimp only; omega) _, h.ev.far' (by have := h.blt; have := h.nb; dsimp only; omega) _⟩
theorem Rm2.setr {MT : TypeId} {ml : List Value} {T : TypeId} {b n : Nat} {a : Addr} {w w' : World} {xs ys : List Value} {l : List UInt8} (h : Rm2 MT ml T b n a w w' xs ys l) (i : Nat) (v : Value) : Rm2 MT ml T b n a w (w'.setCell ⟨w.heap.size, i, none⟩ v) (xs.set i v) ys l :=
  ⟨h.blt, h.nb, by have := h.siz; simp [World.setCell]; omega, h.res.set_ i _, h.var.far (by dsimp only; omega) _, h.txr.far' (by have := h.blt; dsimp only; omega) _, h.kee.seto' (by dsimp only; omega) _, h.ev.far' (by have := h.blt; have := h.nb; dsimp only; omega) _⟩

/-- What reading a literal comes to. -/
def LitPostM (MT : TypeId) (ml : List Value) (b : Nat) (l : List UInt8) (a : Addr) (w : World) (e : Ending) (w' : World) : Prop :=
  ((∃ k v r, rdLit l = some (.lit k v, r) ∧ e = .returned (.agg #[.int .i64 k, .int .i64 v]) ∧ Mxr MT ml b r w') ∨ (rdLit l = none ∧ e = boom a)) ∧ Keep b w w'

set_option maxRecDepth 100000 in
set_option maxHeartbeats 4000000 in
theorem literalM_any {MT : TypeId} {ml : List Value} (b : Nat) (l : List UInt8) (n : Nat) (a : Addr) (w : World) (h : Mxr MT ml b l w) (hv : Ev w n a) (hnb : n ≤ b) (hm : l.length ≤ 1048576) :
    Calls Tryz.prog 154 #[.pointer (some ⟨b, 0, none⟩)] w fun e w' => LitPostM MT ml b l a w e w' := by
  have hblt := h.lt
  have S0 : Hid (Rm2 MT ml 89 b n a w ((w.alloc (.cells #[.int .i64 0, .int .i64 0] 89)).alloc (.cells #[.int .i64 0, .int .i64 0] 89)) [.int .i64 0, .int .i64 0] [.int .i64 0, .int .i64 0] l) := Rm2.start h hv hnb [.int .i64 0, .int .i64 0]
  clear h hv
  go_enter Tryz.func154, Tryz.ntmps154
  go_wp2_with fail
  cases hd1 : rdDigit l with
  | none =>
    have hno : Hid (rdLit l = none) := by show rdLit l = none; simp [rdLit, hd1]
    refine (digitM_no b l hd1 n a _ S0.out.txr S0.out.ev).mono ?_
    clear hd1
    rintro e w1 ⟨rfl, rfl⟩
    go_wp2
    exact ⟨rfl, .inr ⟨hno.out, rfl⟩, S0.out.kee⟩
  | some p =>
    obtain ⟨z1, r1⟩ := p
    obtain ⟨c1, rfl, hc1, rfl⟩ := rdDigit_cons hd1
    have hco1 : Hid (rdLit (c1 :: r1) = (rdTake 58 r1).bind fun r => (rdDigit r).map fun b => (.lit (valD c1) b.1, b.2)) := by
      show rdLit (c1 :: r1) = _
      simp [rdLit, hd1]
    simp only [List.length_cons] at hm
    clear hd1
    refine (digitM_yes b c1 r1 hc1 _ S0.out.txr (by omega)).mono ?_
    rintro e w1 ⟨rfl, hk1, ht1⟩
    have S1 := Lib.hid (S0.out.go hk1 ht1)
    have m0 := S1.out.var.cell 0
    have f0 := S1.out.var.frozen 0
    simp only [List.getElem?_cons_zero] at m0
    clear hk1 ht1 S0
    go_wp2_with fail
    obtain ⟨u1, hu1⟩ : ∃ u, u = w1.setCell ⟨w.heap.size + 1, 0, none⟩ (.int .i64 (valD c1)) := ⟨_, rfl⟩
    rw [← hu1]
    have S2 : Hid (Rm2 MT ml 89 b n a w u1 [.int .i64 0, .int .i64 0] [.int .i64 (valD c1), .int .i64 0] r1) := by rw [hu1]; exact S1.out.setv 0 _
    clear hu1 S1 m0 f0
    cases htk : rdTake 58 r1 with
    | none =>
      have hno : Hid (rdLit (c1 :: r1) = none) := by show _ = _; rw [hco1.out, htk]; rfl
      refine (takeM_no b r1 58 58 rfl htk n a _ S2.out.txr S2.out.ev).mono ?_
      clear htk
      rintro e w2 ⟨rfl, rfl⟩
      go_wp2
      exact ⟨rfl, .inr ⟨hno.out, rfl⟩, S2.out.kee⟩
    | some q1 =>
      have hq1 := rdTake_len htk
      have hco2 : Hid (rdLit (c1 :: r1) = (rdDigit q1).map fun b => (.lit (valD c1) b.1, b.2)) := by
        show _ = _
        rw [hco1.out, htk]
        rfl
      refine (takeM_yes b r1 q1 58 58 rfl htk _ S2.out.txr (by omega)).mono ?_
      clear htk hco1
      rintro e w2 ⟨rfl, hk2, ht2⟩
      have S3 := Lib.hid (S2.out.go hk2 ht2)
      clear hk2 ht2 S2
      go_wp2_with fail
      cases hd2 : rdDigit q1 with
      | none =>
        have hno : Hid (rdLit (c1 :: r1) = none) := by show _ = _; rw [hco2.out, hd2]; rfl
        refine (digitM_no b q1 hd2 n a _ S3.out.txr S3.out.ev).mono ?_
        clear hd2
        rintro e w3 ⟨rfl, rfl⟩
        go_wp2
        exact ⟨rfl, .inr ⟨hno.out, rfl⟩, S3.out.kee⟩
      | some p =>
        obtain ⟨z2, r2⟩ := p
        obtain ⟨c2, rfl, hc2, rfl⟩ := rdDigit_cons hd2
        have hfin : Hid (rdLit (c1 :: r1) = some (.lit (valD c1) (valD c2), r2)) := by
          show _ = _
          rw [hco2.out, hd2]
          rfl
        simp only [List.length_cons] at hq1
        clear hd2 hco2
        refine (digitM_yes b c2 r2 hc2 _ S3.out.txr (by omega)).mono ?_
        rintro e w3 ⟨rfl, hk3, ht3⟩
        have S4 := Lib.hid (S3.out.go hk3 ht3)
        have m0 := S4.out.var.cell 0
        have m1 := S4.out.var.cell 1
        have f0 := S4.out.var.frozen 0
        have f1 := S4.out.var.frozen 1
        have p0 := S4.out.res.cell 0
        have p1 := S4.out.res.cell 1
        have e0 := S4.out.res.frozen 0
        have e1 := S4.out.res.frozen 1
        simp only [List.getElem?_cons_zero, List.getElem?_cons_succ] at m0 m1 p0 p1
        clear hk3 ht3 S3
        go_wp2
        obtain ⟨u5, hu5⟩ : ∃ u, u = ((w3.setCell ⟨w.heap.size + 1, 1, none⟩ (.int .i64 (valD c2))).setCell ⟨w.heap.size, 0, none⟩ (.int .i64 (valD c1))).setCell ⟨w.heap.size, 1, none⟩ (.int .i64 (valD c2)) := ⟨_, rfl⟩
        rw [← hu5]
        have S5 : Hid (Rm2 MT ml 89 b n a w u5 [.int .i64 (valD c1), .int .i64 (valD c2)] [.int .i64 (valD c1), .int .i64 (valD c2)] r2) := by rw [hu5]; exact ((S4.out.setv 1 _).setr 0 _).setr 1 _
        have d0 := S5.out.res.cell 0
        have d1 := S5.out.res.cell 1
        simp only [List.getElem?_cons_zero, List.getElem?_cons_succ] at d0 d1
        clear hu5
        refine bodyPost_ret (v := .agg #[.int .i64 (valD c1), .int .i64 (valD c2)]) (by simp [results, Tryz.results154, go_sem, d0, d1]) rfl ?_
        exact ⟨.inl ⟨valD c1, valD c2, r2, hfin.out, rfl, S5.out.txr⟩, S5.out.kee⟩

end Go.Proofs.YtdemcoghgnnheaaGreatDoor

namespace Go.Proofs.YtdemcoghgnnheaaGreatDoor
open Go.RowKit

set_option maxRecDepth 100000 in
set_option maxHeartbeats 1000000 in
theorem implHas_any (lo hi : Nat) (sv cv : Value) (t : Ty) (k v : Int) (w : World) (hv : TyAt w lo hi sv cv t) (hB : hi ≤ w.heap.size) :
    Calls Tryz.prog 123 #[.agg #[sv, cv], .int .i64 k, .int .i64 v] w fun e w' => e = .returned (.bool (hasV t k v)) ∧ Below w.heap.size w w' := by
  obtain ⟨A, cap, rfl, hl1, hm1, hi1⟩ := hv.1.form
  obtain ⟨B, bap, rfl, hl2, hm2, _⟩ := hv.2.form
  have h3 : Below w.heap.size w (w.alloc (.cells #[.slice A t.sizes.length cap, .slice B t.cos.length bap] 34)) := by go_grown
  have hv3 := Lib.hid (hv.below h3 hB)
  have Hi1 := Lib.hid hi1
  clear hv hi1
  go_enter Tryz.func123, Tryz.ntmps123
  go_wp2_with fail
  refine (implValid_any lo hi _ _ t _ hv3.out (by simp; omega)).mono ?_
  rintro e w1 ⟨rfl, hb1⟩
  have H1 := Lib.hid (box2 (hb1.mono (by simp)))
  obtain ⟨q0, q1, hl, _⟩ := box2 (hb1.mono (by simp))
  clear hb1
  by_cases hok : tyOk t = true
  · have hfin : Hid (hasV t k v = hasV0 t.sizes k v) := by show hasV t k v = _; unfold hasV; rw [hok, Bool.true_and]
    rw [hok]
    by_cases ha : 0 ≤ k ∧ k < t.sizes.length
    · have hA := ixB_yes ha.1 ha.2
      have hlt : k.toNat < t.sizes.length := by omega
      have hfin2 := Lib.hid (hasV0_yes (v := v) hA hlt)
      obtain ⟨b, off, rfl, _, _, c0, _⟩ := (Hi1.out.below H1.out.2.2.2 hB).at_ hlt
      have hk0 := ha.1
      have hk1 := ha.2
      clear ha
      go_wp2_with (go_at_call 158; refine (isIndex_any _ _ _).mono ?_; rintro e w' ⟨rfl, rfl⟩)
      go_ret
      exact ⟨ret_bool (by rw [hfin.out, hfin2.out]), H1.out.2.2.2⟩
    · have hA := ixB_no ha
      have hfin2 := Lib.hid (hasV0_no (v := v) hA)
      clear ha
      go_wp2_with (go_at_call 158; refine (isIndex_any _ _ _).mono ?_; rintro e w' ⟨rfl, rfl⟩)
      go_ret
      exact ⟨ret_bool (by rw [hfin.out, hfin2.out]), H1.out.2.2.2⟩
  · have hokf : tyOk t = false := by simpa using hok
    have hfin : Hid (hasV t k v = false) := by show hasV t k v = _; unfold hasV; rw [hokf, Bool.false_and]
    rw [hokf]
    clear hok
    go_wp2
    go_ret
    exact ⟨ret_bool hfin.out.symm, H1.out.2.2.2⟩
end Go.Proofs.YtdemcoghgnnheaaGreatDoor

namespace Go.Proofs.YtdemcoghgnnheaaGreatDoor
open Go.RowKit Go.Shelf

/-- A value stands for an explicit term: its rows lie in blocks from B on. -/
def MNodeAt (w : World) (B : Nat) : Mk → Value → Prop
  | .lit k v, o => o = .iface 89 (.agg #[.int .i64 k, .int .i64 v])
  | .co i m, o => ∃ v, o = .iface 193 (.agg #[.int .i64 i, v]) ∧ MNodeAt w B m v
  | .a0 i, o => ∃ ps, o = .iface 202 (.agg #[.int .i64 i, ps]) ∧ w.ownsRow B 66 1 ps 0 []
  | .a1 i m, o => ∃ ps v, o = .iface 202 (.agg #[.int .i64 i, ps]) ∧ w.ownsRow B 66 1 ps 1 [v] ∧ MNodeAt w B m v
  | .a2 i m p, o => ∃ ps v v2, o = .iface 202 (.agg #[.int .i64 i, ps]) ∧ w.ownsRow B 66 1 ps 2 [v, v2] ∧ MNodeAt w B m v ∧ MNodeAt w B p v2
def MNodesAt (w : World) (B : Nat) : List Mk → List Value → Prop
  | [], [] => True
  | m :: ms, v :: vs => MNodeAt w B m v ∧ MNodesAt w B ms vs
  | _, _ => False
theorem own_same7 {w w' : World} {N : Nat} {t : TypeId} {v : Value} {n : Nat} {xs : List Value} (h : w.ownsRow N t 1 v n xs) (hs : ∀ g, N ≤ g → g < w.heap.size → w'.heap[g]? = w.heap[g]?) : w'.ownsRow N t 1 v n xs := by
  obtain ⟨h1, h2 | ⟨g, cap, cur, e, hg, hh, r⟩⟩ := h
  · exact ⟨h1, .inl h2⟩
  · refine ⟨h1, .inr ⟨g, cap, cur, e, hg, (hs g hg ?_).trans hh, r⟩⟩
    rcases Nat.lt_or_ge g w.heap.size with h' | h'
    · exact h'
    · rw [Array.getElem?_eq_none h'] at hh; cases hh
theorem MNodeAt.same {w w' : World} {B : Nat} (hs : ∀ g, B ≤ g → g < w.heap.size → w'.heap[g]? = w.heap[g]?) : ∀ {m : Mk} {o : Value}, MNodeAt w B m o → MNodeAt w' B m o
  | .lit _ _, _, h => h
  | .co _ _, _, ⟨v, e, h⟩ => ⟨v, e, h.same hs⟩
  | .a0 _, _, ⟨ps, e, h⟩ => ⟨ps, e, own_same7 h hs⟩
  | .a1 _ _, _, ⟨ps, v, e, h, g⟩ => ⟨ps, v, e, own_same7 h hs, g.same hs⟩
  | .a2 _ _ _, _, ⟨ps, v, v2, e, h, g, g2⟩ => ⟨ps, v, v2, e, own_same7 h hs, g.same hs, g2.same hs⟩
theorem MNodeAt.base {w : World} {B C : Nat} (hC : C ≤ B) : ∀ {m : Mk} {o : Value}, MNodeAt w B m o → MNodeAt w C m o
  | .lit _ _, _, h => h
  | .co _ _, _, ⟨v, e, h⟩ => ⟨v, e, h.base hC⟩
  | .a0 _, _, ⟨ps, e, h⟩ => ⟨ps, e, ownsRow_base h hC⟩
  | .a1 _ _, _, ⟨ps, v, e, h, g⟩ => ⟨ps, v, e, ownsRow_base h hC, g.base hC⟩
  | .a2 _ _ _, _, ⟨ps, v, v2, e, h, g, g2⟩ => ⟨ps, v, v2, e, ownsRow_base h hC, g.base hC, g2.base hC⟩
theorem MNodesAt.same {w w' : World} {B : Nat} (hs : ∀ g, B ≤ g → g < w.heap.size → w'.heap[g]? = w.heap[g]?) : ∀ {ms : List Mk} {vs : List Value}, MNodesAt w B ms vs → MNodesAt w' B ms vs
  | [], [], _ => trivial
  | _ :: _, _ :: _, ⟨h, g⟩ => ⟨h.same hs, g.same hs⟩
theorem MNodesAt.base {w : World} {B C : Nat} (hC : C ≤ B) : ∀ {ms : List Mk} {vs : List Value}, MNodesAt w B ms vs → MNodesAt w C ms vs
  | [], [], _ => trivial
  | _ :: _, _ :: _, ⟨h, g⟩ => ⟨h.base hC, g.base hC⟩
theorem MNodesAt.snoc {w : World} {B : Nat} {m : Mk} {v : Value} (ht : MNodeAt w B m v) : ∀ {ms : List Mk} {vs : List Value}, MNodesAt w B ms vs → MNodesAt w B (ms ++ [m]) (vs ++ [v])
  | [], [], _ => ⟨ht, trivial⟩
  | _ :: _, _ :: _, ⟨h, g⟩ => ⟨h, g.snoc ht⟩
theorem MNodesAt.len {w : World} {B : Nat} : ∀ {ms : List Mk} {vs : List Value}, MNodesAt w B ms vs → vs.length = ms.length
  | [], [], _ => rfl
  | _ :: _, _ :: _, ⟨_, g⟩ => by simp [g.len]
theorem MNodeAt.mk {w : World} {B : Nat} {i : Nat} {ps : Value} {ms : List Mk} {vs : List Value} (h2 : ms.length ≤ 2) (hr : w.ownsRow B 66 1 ps ms.length vs) (hn : MNodesAt w B ms vs) : MNodeAt w B (mkA i ms) (.iface 202 (.agg #[.int .i64 i, ps])) := by
  match ms, vs, h2, hr, hn with
  | [], [], _, hr, _ => exact ⟨ps, rfl, hr⟩
  | [m], [v], _, hr, hn => exact ⟨ps, v, rfl, hr, hn.1⟩
  | [m, p], [v, v2], _, hr, hn => exact ⟨ps, v, v2, rfl, hr, hn.1, hn.2.1⟩
theorem MNodeAt.form {w : World} {B : Nat} : ∀ {m : Mk} {o : Value}, MNodeAt w B m o → ∃ T x, o = .iface T x
  | .lit _ _, _, h => ⟨_, _, h⟩
  | .co _ _, _, ⟨_, e, _⟩ => ⟨_, _, e⟩
  | .a0 _, _, ⟨_, e, _⟩ => ⟨_, _, e⟩
  | .a1 _ _, _, ⟨_, _, e, _⟩ => ⟨_, _, e⟩
  | .a2 _ _ _, _, ⟨_, _, _, e, _⟩ => ⟨_, _, e⟩

set_option maxRecDepth 100000 in
set_option maxHeartbeats 1000000 in
theorem kindLit_any (k v : Int) (sv cv fv : Value) (w : World) :
    Calls Tryz.prog 272 #[.agg #[.int .i64 k, .int .i64 v], .agg #[sv, cv, fv]] w fun e w' => e = .returned (.int .i64 k) ∧ Below w.heap.size w w' := by
  have HB : Hid (Below w.heap.size w ((w.alloc (.cells #[.int .i64 k, .int .i64 v] 89)).alloc (.cells #[sv, cv, fv] 37))) := ((Below.refl _ _).alloc (Nat.le_refl _) _).alloc (by simp) _
  have r0 := (Row.new w 89 [.int .i64 k, .int .i64 v]).alloc (.cells #[sv, cv, fv] 37)
  have m0 := r0.cell 0
  simp only [List.getElem?_cons_zero] at m0
  clear r0
  go_enter Tryz.func272, Tryz.ntmps272
  go_wp2
  go_ret
  exact ⟨rfl, HB.out⟩
set_option maxRecDepth 100000 in
set_option maxHeartbeats 1000000 in
theorem kindCo_any (lo hi : Nat) (i : Nat) (o sv cv fv : Value) (y : Sy) (w : World) (hv : SyAt w lo hi sv cv fv y) (hB : hi ≤ w.heap.size) (hi' : i < y.ty.cos.length) :
    Calls Tryz.prog 282 #[.agg #[.int .i64 i, o], .agg #[sv, cv, fv]] w fun e w' => e = .returned (.int .i64 y.ty.cos[i].dst) ∧ Below w.heap.size w w' := by
  obtain ⟨A2, cap2, rfl, _, _, _⟩ := hv.1.2.form
  have hb : Below w.heap.size w ((w.alloc (.cells #[.int .i64 i, o] 193)).alloc (.cells #[sv, .slice A2 y.ty.cos.length cap2, fv] 37)) := ((Below.refl _ _).alloc (Nat.le_refl _) _).alloc (by simp) _
  obtain ⟨b4, off4, A3, cap3, rfl, _, _, _, k1, _, _, _, _, _, _⟩ := (hv.below hb hB).1.2.at_ hi'
  have r0 := (Row.new w 193 [.int .i64 i, o]).alloc (.cells #[sv, .slice (some ⟨b4, off4, none⟩) y.ty.cos.length cap2, fv] 37)
  have r1 := Row.new (w.alloc (.cells #[.int .i64 i, o] 193)) 37 [sv, .slice (some ⟨b4, off4, none⟩) y.ty.cos.length cap2, fv]
  rw [World.size_alloc] at r1
  have m0 := r0.cell 0
  have m1 := r1.cell 1
  simp only [List.getElem?_cons_zero, List.getElem?_cons_succ] at m0 m1
  have HB := Lib.hid hb
  clear r0 r1 hb hv
  go_enter Tryz.func282, Tryz.ntmps282
  go_wp2
  go_ret
  exact ⟨rfl, HB.out⟩
set_option maxRecDepth 100000 in
set_option maxHeartbeats 1000000 in
theorem kindAp_any (lo hi : Nat) (i : Nat) (o sv cv fv : Value) (y : Sy) (w : World) (hv : SyAt w lo hi sv cv fv y) (hB : hi ≤ w.heap.size) (hi' : i < y.fs.length) :
    Calls Tryz.prog 287 #[.agg #[.int .i64 i, o], .agg #[sv, cv, fv]] w fun e w' => e = .returned (.int .i64 y.fs[i].res) ∧ Below w.heap.size w w' := by
  obtain ⟨A2, cap2, rfl, _, _, _⟩ := hv.2.form
  have hb : Below w.heap.size w ((w.alloc (.cells #[.int .i64 i, o] 202)).alloc (.cells #[sv, cv, .slice A2 y.fs.length cap2] 37)) := ((Below.refl _ _).alloc (Nat.le_refl _) _).alloc (by simp) _
  obtain ⟨b4, off4, A3, cap3, A4, cap4, rfl, _, _, _, _, k2, _, _⟩ := (hv.below hb hB).2.at_ hi'
  have r0 := (Row.new w 202 [.int .i64 i, o]).alloc (.cells #[sv, cv, .slice (some ⟨b4, off4, none⟩) y.fs.length cap2] 37)
  have r1 := Row.new (w.alloc (.cells #[.int .i64 i, o] 202)) 37 [sv, cv, .slice (some ⟨b4, off4, none⟩) y.fs.length cap2]
  rw [World.size_alloc] at r1
  have m0 := r0.cell 0
  have m2 := r1.cell 2
  simp only [List.getElem?_cons_zero, List.getElem?_cons_succ] at m0 m2
  have HB := Lib.hid hb
  clear r0 r1 hb hv
  go_enter Tryz.func287, Tryz.ntmps287
  go_wp2
  go_ret
  exact ⟨rfl, HB.out⟩

/-- The type of a node, by the method that its type has. -/
theorem MNodeAt.kind {w : World} {B : Nat} {y : Sy} {m : Mk} {o : Value} (h : MNodeAt w B m o) (hok : MkOk y m) : ∃ T x f, o = .iface T x ∧ (∀ u : World, (Go.method 471 T x "loop.example/overloads/impl.kindIn").run Tryz.prog u = .ok (f, x) u) ∧ (∀ u : World, (Go.nilAhead 471 T x "loop.example/overloads/impl.kindIn").run Tryz.prog u = .ok (some false) u) ∧ (∀ (args : Array Value) (u : World), (callFunc f args).run Tryz.prog u = .ok (.enter f args) u) ∧
    ∀ (lo hi : Nat) (sv cv fv : Value) (u : World), SyAt u lo hi sv cv fv y → hi ≤ u.heap.size → Calls Tryz.prog f #[x, .agg #[sv, cv, fv]] u fun e w' => e = .returned (.int .i64 (kindM y m)) ∧ Below u.heap.size u w' := by
  cases m with
  | lit k v => exact ⟨_, _, 272, h, fun u => by kernel_rfl, fun u => by kernel_rfl, enters_of Tryz.func272 (by kernel_rfl) rfl, fun lo hi sv cv fv u hv hB => kindLit_any k v sv cv fv u⟩
  | co i m =>
    obtain ⟨v, e, _⟩ := h
    exact ⟨_, _, 282, e, fun u => by kernel_rfl, fun u => by kernel_rfl, enters_of Tryz.func282 (by kernel_rfl) rfl, fun lo hi sv cv fv u hv hB => by
      have h := kindCo_any lo hi i v sv cv fv y u hv hB hok.1
      rw [← getD_get (d := default) hok.1] at h
      exact h⟩
  | a0 i =>
    obtain ⟨ps, e, _⟩ := h
    exact ⟨_, _, 287, e, fun u => by kernel_rfl, fun u => by kernel_rfl, enters_of Tryz.func287 (by kernel_rfl) rfl, fun lo hi sv cv fv u hv hB => by
      have h := kindAp_any lo hi i ps sv cv fv y u hv hB hok.1
      rw [← getD_get (d := default) hok.1] at h
      exact h⟩
  | a1 i m =>
    obtain ⟨ps, v, e, _⟩ := h
    exact ⟨_, _, 287, e, fun u => by kernel_rfl, fun u => by kernel_rfl, enters_of Tryz.func287 (by kernel_rfl) rfl, fun lo hi sv cv fv u hv hB => by
      have h := kindAp_any lo hi i ps sv cv fv y u hv hB hok.1
      rw [← getD_get (d := default) hok.1] at h
      exact h⟩
  | a2 i m p =>
    obtain ⟨ps, v, v2, e, _⟩ := h
    exact ⟨_, _, 287, e, fun u => by kernel_rfl, fun u => by kernel_rfl, enters_of Tryz.func287 (by kernel_rfl) rfl, fun lo hi sv cv fv u hv hB => by
      have h := kindAp_any lo hi i ps sv cv fv y u hv hB hok.1
      rw [← getD_get (d := default) hok.1] at h
      exact h⟩

/-- The reader of explicit terms in block b, over a system that lies below it. -/
structure Mr (lo hi n : Nat) (a : Addr) (sv cv fv : Value) (y : Sy) (b : Nat) (l : List UInt8) (w : World) : Prop where
  row : Mxr 143 [sv, cv, fv] b l w
  sy : SyAt w lo hi sv cv fv y
  ev : Ev w n a
  hib : hi ≤ b
  nb : n ≤ b
section
variable {lo hi n : Nat} {a : Addr} {sv cv fv : Value} {y : Sy} {b : Nat} {l : List UInt8} {w : World}
theorem Mr.go {r : List UInt8} {w' : World} (h : Mr lo hi n a sv cv fv y b l w) (hk : Keep b w w') (ht : Mxr 143 [sv, cv, fv] b r w') : Mr lo hi n a sv cv fv y b r w' :=
  ⟨ht, h.sy.keep fun k _ hk' => hk.block (by have := h.row.lt; have := h.hib; omega) (by have := h.hib; omega), h.ev.keep hk h.nb, h.hib, h.nb⟩
theorem Mr.under {w' : World} (h : Mr lo hi n a sv cv fv y b l w) (hb : Below w.heap.size w w') : Mr lo hi n a sv cv fv y b l w' := h.go ((Keep.refl b w).of_below hb) (h.row.below hb)
theorem Mr.cells (h : Mr lo hi n a sv cv fv y b l w) : w.cell? ⟨b, 1, none⟩ = some sv ∧ w.cell? ⟨b, 2, none⟩ = some cv ∧ w.cell? ⟨b, 3, none⟩ = some fv := ⟨Row.cell h.row 1, Row.cell h.row 2, Row.cell h.row 3⟩
theorem Mr.lt (h : Mr lo hi n a sv cv fv y b l w) : b < w.heap.size := h.row.lt
end
end Go.Proofs.YtdemcoghgnnheaaGreatDoor

namespace Go.Proofs.YtdemcoghgnnheaaGreatDoor
open Go.RowKit

/-- Who takes what is yielded, of all the parts 'full': J s O w: the parts s have come; the iterator owns the blocks of O; the rounds keep these, and those of T. -/
structure Cli (y : Sy) (w0 : World) (B : Nat) (full : List Mk) (l : Nat) (T : Nat → Prop) (J Jx : List Mk → (Nat → Prop) → World → Prop) : Prop where
  step : ∀ s O A C, J s O A → Kept (fun k => ¬ O k) A C → J s (fun k => O k ∨ (A.heap.size ≤ k ∧ k < C.heap.size)) C
  give : ∀ s O O' A, J s O A → (∀ k, O' k → O k) → J s O' A
  stepx : ∀ s O A C, Jx s O A → Kept (fun k => ¬ O k) A C → Jx s (fun k => O k ∨ (A.heap.size ≤ k ∧ k < C.heap.size)) C
  givex : ∀ s O O' A, Jx s O A → (∀ k, O' k → O k) → Jx s O' A
  round : ∀ s m o O A, J s O A → MkOk y m → MNodeAt w0 B m o → Below w0.heap.size w0 A → (∃ t, full = s ++ m :: t) →
    ∀ n, YieldAt Fence.wide n Tryz.prog l #[o, .int .i64 (valM y m)] A fun e C => (e = .returned (.bool true) ∧ Kept (fun k => O k ∨ T k) A C ∧ J (s ++ [m]) O C) ∨ (e = .returned (.bool false) ∧ Kept O A C ∧ Jx (s ++ [m]) O C)

theorem kept_of {S : Nat → Prop} {w w' : World} (h : Below w.heap.size w w') : Kept S w w' := ⟨h.os, h.tape, h.output, h.size, fun k hk _ => h.block k hk⟩
theorem kept_sub {S S' : Nat → Prop} {w w' : World} (h : Kept S w w') (hs : ∀ k, k < w.heap.size → S' k → S k) : Kept S' w w' := ⟨h.os, h.tape, h.output, h.size, fun k hk hk' => h.block k hk (hs k hk hk')⟩
theorem kept_trans {S : Nat → Prop} {w w' w'' : World} (h : Kept S w w') (k : Kept S w' w'') : Kept S w w'' := ⟨k.os.trans h.os, k.tape.trans h.tape, k.output.trans h.output, Nat.le_trans h.size k.size, fun i hi hs => (k.block i (Nat.lt_of_lt_of_le hi h.size) hs).trans (h.block i hi hs)⟩
theorem kept_below {S : Nat → Prop} {b : Nat} {w w' : World} (h : Kept S w w') (hs : ∀ k, k < b → S k) (hb : b ≤ w.heap.size) : Below b w w' := ⟨h.os, h.tape, h.output, h.size, fun k hk => h.block k (by omega) (hs k hk)⟩
theorem puts8 {A : World} {l k : Nat} {o' : Obj} (h : k ≠ l) : (A.putObj l o').heap[k]? = A.heap[k]? := World.putObj_heap_other h
theorem kept_put {S : Nat → Prop} {A : World} {l : Nat} {o' : Obj} (h : ¬ S l) : Kept S A (A.putObj l o') := ⟨rfl, rfl, rfl, by simp, fun k _ hk => puts8 fun e => h (e ▸ hk)⟩

/-- What the body of a round must leave. -/
def bodyEnds2 (T : Nat → Prop) (d : Nat) (I : List Mk → (Nat → Prop) → World → Prop) (Ix : Code → List Mk → (Nat → Prop) → World → Prop) (s : List Mk) (O : Nat → Prop) (A : World) : Exit → Act → World → Prop
  | .normal, _, C => Kept (fun k => O k ∨ T k ∨ k = d ∨ k = d + 1) A C ∧ I s O C
  | .ret, _, C => Kept (fun k => O k ∨ k = d ∨ k = d + 1) A C ∧ Ix .ret s O C
  | .exit id, _, C => Kept (fun k => O k ∨ k = d ∨ k = d + 1) A C ∧ Ix (.exit id) s O C
  | _, _, _ => False

theorem range2_law {y : Sy} {w0 : World} {B : Nat} {n : Nat} {Q : Exit → Act → World → Prop} {a : Act} {w : World} {g : Operand} {p1 p2 : Tmp} {assign body : Code} (a₁ : Value → Value → Act)
    (hassign : ∀ (l : Nat) (v1 v2 : Value) (W : World) (m : Nat) (K : Act → World → Prop), K (a₁ v1 v2) W → assign.wpIn (Fence.wide.inRound l) m Tryz.prog (Exit.then K (fun _ _ _ => False)) { tmps := (a.tmps.setIfInBounds p1 v1).setIfInBounds p2 v2, defers := [] } W)
    {gf : Nat} {lb : Array Value} (hg : a.eval g = .func (.func gf) #[] lb)
    (eg : ∀ args w, (callFunc gf args).run Tryz.prog w = .ok (.enter gf args) w) (T : Nat → Prop) (hT : ∀ b, T b → b < w.heap.size) (ms : List Mk)
    (I : List Mk → (Nat → Prop) → World → Prop) (Ix : Code → List Mk → (Nat → Prop) → World → Prop)
    (hIstep : ∀ s O A C, I s O A → ¬ O w.heap.size → ¬ O (w.heap.size + 1) → w.heap.size + 1 < A.heap.size → Kept (fun k => ¬ O k) A C → I s (fun k => O k ∨ (A.heap.size ≤ k ∧ k < C.heap.size)) C)
    (hIgive : ∀ s O O' A, I s O A → (∀ k, O' k → O k) → I s O' A)
    (hIput : ∀ s O A k o', I s O A → w.heap.size ≤ k → k ≤ w.heap.size + 1 → I s O (A.putObj k o'))
    (hIxstep : ∀ c s O A C, Ix c s O A → ¬ O w.heap.size → ¬ O (w.heap.size + 1) → w.heap.size + 1 < A.heap.size → Kept (fun k => ¬ O k) A C → Ix c s (fun k => O k ∨ (A.heap.size ≤ k ∧ k < C.heap.size)) C)
    (hIxgive : ∀ c s O O' A, Ix c s O A → (∀ k, O' k → O k) → Ix c s O' A)
    (hIxput : ∀ c s O A k o', Ix c s O A → w.heap.size ≤ k → k ≤ w.heap.size + 1 → Ix c s O (A.putObj k o'))
    (hiter : ∀ l J Jx W1, Cli y w0 B ms l T J Jx → Below w.heap.size w W1 → J [] (fun _ => False) W1 →
      Calls Tryz.prog gf (#[.func (.yield l) #[] #[]] ++ lb) W1 fun e W' => (∃ v, e = .returned v) ∧ ((∃ O', J ms O' W') ∨ (∃ s' O', Jx s' O' W')))
    (h0 : ∀ W1, Below w.heap.size w W1 → W1.heap.size = w.heap.size + 2 → I [] (fun _ => False) W1)
    (hbody : ∀ l s p o O A m, I s O A → MkOk y p → MNodeAt w0 B p o → Below w0.heap.size w0 A → (∃ t, ms = s ++ p :: t) → ¬ O w.heap.size → ¬ O (w.heap.size + 1) → w.heap.size + 1 < A.heap.size →
      body.wpIn (Fence.wide.inRound l) m Tryz.prog (bodyEnds2 T w.heap.size I Ix (s ++ [p]) O A) (a₁ o (.int .i64 (valM y p))) A)
    (hw0 : w0.heap.size ≤ w.heap.size)
    (hdone : ∀ O' W', I ms O' W' → W'.heap[w.heap.size]? = some (.deferred (some [])) → Q .normal { a with defers := { target := .collected w.heap.size, args := #[] } :: a.defers } W')
    (hstop : ∀ c s' O' W', Ix c s' O' W' → W'.heap[w.heap.size]? = some (.deferred (some [])) → c.wpIn Fence.wide n Tryz.prog Q { a with defers := { target := .collected w.heap.size, args := #[] } :: a.defers } W') :
    (Code.rangeFunc g #[p1, p2] assign body).wpIn Fence.wide n Tryz.prog Q a w := by
  have hdd : Fence.wide.depth.isSome = true → 1 ≤ n := fun h => by simp [Fence.wide] at h
  refine wpIn_rangeFunc fun fn _ => ?_
  obtain ⟨rec, hrec⟩ : ∃ rec : LoopState → Option Code → Loop, rec = fun st pe => { state := st, pending := pe, fn, tmps := a.tmps, params := #[p1, p2], assign, body, defers := w.heap.size } := ⟨_, rfl⟩
  obtain ⟨W1, hW1⟩ : ∃ W1, W1 = (w.alloc (.deferred (some []))).alloc (.loop (rec .ready none)) := ⟨_, rfl⟩
  have hb1 : Below w.heap.size w W1 := by rw [hW1]; exact ((Below.refl _ _).alloc (Nat.le_refl _) _).alloc (by simp) _
  have hs1 : W1.heap.size = w.heap.size + 2 := by rw [hW1, World.size_alloc, World.size_alloc]
  have hl1 : W1.heap[w.heap.size + 1]? = some (.loop (rec .ready none)) := by
    rw [hW1]
    have := World.alloc_heap_new (w.alloc (.deferred (some []))) (.loop (rec .ready none))
    rwa [World.size_alloc] at this
  have hd1 : W1.heap[w.heap.size]? = some (.deferred (some [])) := by rw [hW1]; exact (Below.heap_alloc _ _ _ (by simp)).trans (World.alloc_heap_new w _)
  have hclient : Cli y w0 B ms (w.heap.size + 1) T
      (fun s O A => I s O A ∧ A.heap[w.heap.size + 1]? = some (.loop (rec .ready none)) ∧ A.heap[w.heap.size]? = some (.deferred (some [])) ∧ ¬ O w.heap.size ∧ ¬ O (w.heap.size + 1))
      (fun s O A => ∃ c, Ix c s O A ∧ A.heap[w.heap.size + 1]? = some (.loop (rec .done (some c))) ∧ A.heap[w.heap.size]? = some (.deferred (some [])) ∧ ¬ O w.heap.size ∧ ¬ O (w.heap.size + 1)) := by
    refine ⟨?_, ?_, ?_, ?_, ?_⟩
    · rintro s O A C ⟨hi, hl, hd, n0, n1⟩ hk
      have hla := (Array.getElem?_eq_some_iff.1 hl).1
      exact ⟨hIstep s O A C hi n0 n1 hla hk, (hk.block _ hla n1).trans hl, (hk.block _ (by omega) n0).trans hd, fun h => h.elim n0 (fun h => by omega), fun h => h.elim n1 (fun h => by omega)⟩
    · rintro s O O' A ⟨hi, hl, hd, n0, n1⟩ hsub
      exact ⟨hIgive s O O' A hi hsub, hl, hd, fun h => n0 (hsub _ h), fun h => n1 (hsub _ h)⟩
    · rintro s O A C ⟨c, hi, hl, hd, n0, n1⟩ hk
      have hla := (Array.getElem?_eq_some_iff.1 hl).1
      exact ⟨c, hIxstep c s O A C hi n0 n1 hla hk, (hk.block _ hla n1).trans hl, (hk.block _ (by omega) n0).trans hd, fun h => h.elim n0 (fun h => by omega), fun h => h.elim n1 (fun h => by omega)⟩
    · rintro s O O' A ⟨c, hi, hl, hd, n0, n1⟩ hsub
      exact ⟨c, hIxgive c s O O' A hi hsub, hl, hd, fun h => n0 (hsub _ h), fun h => n1 (hsub _ h)⟩
    · rintro s p o O A ⟨hi, hl, hd, n0, n1⟩ hok hnod hbel hlen m
      have hla := (Array.getElem?_eq_some_iff.1 hl).1
      have etmps : ((#[p1, p2] : Array Tmp).zip #[o, .int .i64 (valM y p)]).foldl (fun tmps (x : Tmp × Value) => tmps.setIfInBounds x.1 x.2) a.tmps = (a.tmps.setIfInBounds p1 o).setIfInBounds p2 (.int .i64 (valM y p)) := by simp
      have hy := run_yield (P := Tryz.prog) (args := #[o, .int .i64 (valM y p)]) hl (by rw [hrec]; rfl)
      rw [hrec] at hy
      refine ⟨fn, _, assign, body, hy, roundIn_of_wpIn trivial ?_⟩
      dsimp only
      rw [etmps]
      refine hassign _ o _ A m _ ⟨_, run_beginRound hl (by rw [hrec]), ?_⟩
      obtain ⟨A2, hA2⟩ : ∃ A2, A2 = A.putObj (w.heap.size + 1) (.loop { rec .ready none with state := .busy }) := ⟨_, rfl⟩
      rw [← hA2]
      have hsz : A2.heap.size = A.heap.size := by rw [hA2]; simp
      have hI2 : I s O A2 := by rw [hA2]; exact hIput s O A (w.heap.size + 1) _ hi (by omega) (Nat.le_refl _)
      have hl2 : A2.heap[w.heap.size + 1]? = some (.loop { rec .ready none with state := .busy }) := by rw [hA2]; exact World.putObj_heap_same hla
      have hd2 : A2.heap[w.heap.size]? = some (.deferred (some [])) := by rw [hA2]; exact (puts8 (by omega)).trans hd
      have hbel2 : Below w0.heap.size w0 A2 := by
        rw [hA2]
        exact ⟨hbel.os, hbel.tape, hbel.output, by have := hbel.size; simpa using this, fun k hk => (puts8 (by omega)).trans (hbel.block k hk)⟩
      have fin : ∀ (T' : Nat → Prop), (∀ b, T' b → b < w.heap.size) → ∀ (jump : Option Code) (C : World), Kept (fun k => O k ∨ T' k ∨ k = w.heap.size ∨ k = w.heap.size + 1) A2 C →
          (Instr.endRound (w.heap.size + 1) jump).run Tryz.prog C = .ok (.bool jump.isNone) (C.putObj (w.heap.size + 1) (.loop (rec (if jump.isNone then .ready else .done) jump))) ∧
          (C.putObj (w.heap.size + 1) (.loop (rec (if jump.isNone then .ready else .done) jump))).heap[w.heap.size + 1]? = some (.loop (rec (if jump.isNone then .ready else .done) jump)) ∧
          (C.putObj (w.heap.size + 1) (.loop (rec (if jump.isNone then .ready else .done) jump))).heap[w.heap.size]? = some (.deferred (some [])) ∧
          Kept (fun k => O k ∨ T' k) A (C.putObj (w.heap.size + 1) (.loop (rec (if jump.isNone then .ready else .done) jump))) := fun T' hT' jump C hh => by
        have hkA : Kept (fun k => O k ∨ T' k) A A2 := by
          rw [hA2]
          exact kept_put (fun h => h.elim n1 (fun h => by have := hT' _ h; omega))
        have hl3 := (hh.block (w.heap.size + 1) (by rw [hsz]; exact hla) (.inr (.inr (.inr rfl)))).trans hl2
        have hd3 := (hh.block w.heap.size (by rw [hsz]; omega) (.inr (.inr (.inl rfl)))).trans hd2
        have hlc := (Array.getElem?_eq_some_iff.1 hl3).1
        have he := run_endRound (P := Tryz.prog) jump hl3
        refine ⟨by rw [hrec] at he ⊢; exact he, World.putObj_heap_same hlc, (puts8 (by omega)).trans hd3, ?_⟩
        exact kept_trans (kept_trans hkA (kept_sub hh fun k _ hk => hk.elim .inl (fun h => .inr (.inl h)))) (kept_put (fun h => h.elim n1 (fun h => by have := hT' _ h; omega)))
      refine wpIn_mono (hbody (w.heap.size + 1) s p o O A2 m hI2 hok hnod hbel2 hlen n0 n1 (by rw [hsz]; exact hla)) ?_
      intro e a3 C hp
      cases e with
      | normal =>
        obtain ⟨hh, hi3⟩ := hp
        obtain ⟨he, h1, h2, h3⟩ := fin T hT none C hh
        exact ⟨_, _, he, .inl ⟨rfl, h3, hIput _ _ _ _ _ hi3 (by omega) (Nat.le_refl _), h1, h2, n0, n1⟩⟩
      | ret =>
        obtain ⟨hh, hi3⟩ := hp
        obtain ⟨he, h1, h2, h3⟩ := fin (fun _ => False) (fun _ h => h.elim) (some .ret) C (kept_sub hh fun k _ h => h.elim .inl (fun h => h.elim (fun h => h.elim) .inr))
        exact ⟨_, _, he, .inr ⟨rfl, kept_sub h3 fun k _ h => .inl h, .ret, hIxput _ _ _ _ _ _ hi3 (by omega) (Nat.le_refl _), h1, h2, n0, n1⟩⟩
      | exit id =>
        obtain ⟨hh, hi3⟩ := hp
        obtain ⟨he, h1, h2, h3⟩ := fin (fun _ => False) (fun _ h => h.elim) (some (.exit id)) C (kept_sub hh fun k _ h => h.elim .inl (fun h => h.elim (fun h => h.elim) .inr))
        exact ⟨_, _, he, .inr ⟨rfl, kept_sub h3 fun k _ h => .inl h, .exit id, hIxput _ _ _ _ _ _ hi3 (by omega) (Nat.le_refl _), h1, h2, n0, n1⟩⟩
      | goto t => exact hp.elim
      | panic ch => exact hp.elim
      | outgrown => exact hp.elim
  refine ⟨w.heap.size + 1, [{ target := .collected w.heap.size, args := #[] }], W1, { target := .fn (.func gf) lb, args := #[.func (.yield (w.heap.size + 1)) #[] #[]] }, W1, gf, #[.func (.yield (w.heap.size + 1)) #[] #[]] ++ lb, W1, ?_, ?_, fun _ _ => trivial, ?_, hdd, ?_⟩
  · rw [hW1, hrec]; exact run_enterLoop_outer _ _ _ _ _
  · simp only [resolve, hg]
    simp [go_sem]
  · simp [invoke, go_sem, eg]
  · refine (callsIn_wide.2 (hiter _ _ _ W1 hclient hb1 ⟨h0 W1 hb1 hs1, hl1, hd1, fun h => h, fun h => h⟩)).mono ?_
    rintro e W2 ⟨⟨v, rfl⟩, ⟨O', hi, hl, hd, _⟩ | ⟨s', O', c, hi, hl, hd, _⟩⟩
    · exact ⟨none, _, by have he := run_endLoop (P := Tryz.prog) hl (by rw [hrec]; simp); rw [hrec] at he; exact he, hdone O' _ (hIput _ _ _ _ _ hi (by omega) (Nat.le_refl _)) ((puts8 (by omega)).trans hd)⟩
    · exact ⟨some c, _, by have he := run_endLoop (P := Tryz.prog) hl (by rw [hrec]; simp); rw [hrec] at he; exact he, hstop c s' _ _ (hIxput _ _ _ _ _ _ hi (by omega) (Nat.le_refl _)) ((puts8 (by omega)).trans hd)⟩
end Go.Proofs.YtdemcoghgnnheaaGreatDoor

