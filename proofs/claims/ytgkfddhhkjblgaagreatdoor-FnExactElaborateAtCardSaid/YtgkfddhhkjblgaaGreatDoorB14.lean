/-
  Making the parts of a term explicit one after the other, as data; plain data only.
  The contract of the model's text of a number, for every number.
  Rows of strings in memory; the contracts of the law's szStringS, toStringS, eqStringS.
  A text cut at every sign: as data; the contract of the model's l13Cut.
  The contracts of the model's l6End and TermValid.
  The contracts of the model's l6Join, CallTerm.
-/
import Derived.Test.YtgkfddhhkjblgaaGreatDoorB13
import Derived.Test.YtgkfddhhkjblgaaGreatDoorB12
import Derived.Test.YtgkfddhhkjblgaaGreatDoorB1
import Derived.BigQuiet
import Derived.Test.YtgkfddhhkjblgaaGreatDoorB3
import Derived.Test.YtgkfddhhkjblgaaGreatDoorB9
namespace Go.Proofs.YtgkfddhhkjblgaaGreatDoor
open Go.RowKit

/-- Some terms are made explicit as these. -/
def Els (y : Sy) (ts : List Tm) (ms : List Mk) : Prop := ts.map (elM y) = ms.map Except.ok
theorem Els.nil (y : Sy) : Els y [] [] := rfl
theorem Els.len {y : Sy} {ts : List Tm} {ms : List Mk} (h : Els y ts ms) : ms.length = ts.length := by
  have := congrArg List.length h
  simpa using this.symm
theorem Els.snoc {y : Sy} {ts : List Tm} {ms : List Mk} {k : Nat} {m : Mk} (h : Els y (ts.take k) ms) (hk : k < ts.length) (hm : elM y ts[k] = .ok m) : Els y (ts.take (k + 1)) (ms ++ [m]) := by
  unfold Els at h ⊢
  rw [List.take_succ_eq_append_getElem hk, List.map_append, h, List.map_append]
  simp [hm]
theorem Els.mem {y : Sy} : ∀ {ts : List Tm} {ms : List Mk}, Els y ts ms → ∀ m ∈ ms, ∃ t ∈ ts, elM y t = .ok m
  | [], ms, h, m, hm => by
    have := h.len
    simp at this
    subst this
    cases hm
  | t :: ts, [], h, m, hm => by cases hm
  | t :: ts, p :: ms, h, m, hm => by
    unfold Els at h
    simp only [List.map_cons, List.cons.injEq] at h
    rcases List.mem_cons.1 hm with e | e
    · subst e; exact ⟨t, by simp, h.1⟩
    · obtain ⟨t', ht', e'⟩ := Els.mem (ts := ts) (ms := ms) h.2 m e
      exact ⟨t', by simp [ht'], e'⟩
theorem elM_call {y : Sy} {t : Tm} {a : UInt8} (hc : isCallT t = true) (hh : headT t = [a]) {ms : List Mk} (h : Els y (partsT t) ms) : elM y t = elCall y a ms := by
  cases t with
  | lit k v => cases hc
  | c0 n =>
    have hl := h.len
    simp [partsT] at hl
    subst hl
    simp [headT] at hh
    subst hh
    rfl
  | c1 n p =>
    simp [headT] at hh
    subst hh
    match ms, h with
    | [m], h =>
      unfold Els at h
      simp [partsT] at h
      simp [elM, h]
    | [], h => have := h.len; simp [partsT] at this
    | _ :: _ :: _, h => have := h.len; simp [partsT] at this
  | c2 n p q =>
    simp [headT] at hh
    subst hh
    match ms, h with
    | [m, m'], h =>
      unfold Els at h
      simp [partsT] at h
      simp [elM, h.1, h.2]
    | [], h => have := h.len; simp [partsT] at this
    | [_], h => have := h.len; simp [partsT] at this
    | _ :: _ :: _ :: _, h => have := h.len; simp [partsT] at this
theorem elM_fell {y : Sy} {t : Tm} {k : Nat} (hk : k < (partsT t).length) {ms : List Mk} (h : Els y ((partsT t).take k) ms) {e : ByteArray} (he : elM y (partsT t)[k] = .error e) : elM y t = .error e := by
  cases t with
  | lit k v => simp [partsT] at hk
  | c0 n => simp [partsT] at hk
  | c1 n p =>
    obtain rfl : k = 0 := by simp [partsT] at hk; omega
    have he' : elM y p = .error e := he
    simp [elM, he']
  | c2 n p q =>
    have hk2 : k = 0 ∨ k = 1 := by simp [partsT] at hk; omega
    rcases hk2 with rfl | rfl
    · have he' : elM y p = .error e := he
      simp [elM, he']
    · have he' : elM y q = .error e := he
      have hl := h.len
      match ms, h with
      | [m], h =>
        unfold Els at h
        simp [partsT] at h
        simp [elM, h, he']
      | [], h => simp [partsT] at hl
      | _ :: _ :: _, h => simp [partsT] at hl
/-- The texts of the arguments while they are wrapped: the first k of them are. -/
def wrapL (y : Sy) (args : List Int) (ms : List Mk) (k : Nat) : List (List UInt8) := ((coArgs y args ms 0).take k ++ ms.drop k).map mkT
theorem wrapL_len (y : Sy) (args : List Int) (ms : List Mk) {k : Nat} (hk : k ≤ ms.length) : (wrapL y args ms k).length = ms.length := by
  unfold wrapL
  simp [coArgs_len]
  omega
theorem coArgs_get (y : Sy) (args : List Int) : ∀ (ms : List Mk) (j k : Nat) (h : k < ms.length), (coArgs y args ms j)[k]? = some (coM (shortV y.ty (kindM y ms[k]) (args.getD (j + k) 0)) ms[k])
  | [], j, k, h => absurd h (by simp)
  | m :: ms, j, 0, h => by simp [coArgs]
  | m :: ms, j, k + 1, h => by
    rw [coArgs, List.getElem?_cons_succ, coArgs_get y args ms (j + 1) k (by simpa using h)]
    simp [Nat.add_assoc, Nat.add_comm 1 k]
theorem wrapL_zero (y : Sy) (args : List Int) (ms : List Mk) : wrapL y args ms 0 = ms.map mkT := by simp [wrapL]
theorem wrapL_all (y : Sy) (args : List Int) (ms : List Mk) : wrapL y args ms ms.length = (coArgs y args ms 0).map mkT := by
  unfold wrapL
  rw [List.take_of_length_le (by rw [coArgs_len]; omega)]
  simp
theorem wrapL_old (y : Sy) (args : List Int) (ms : List Mk) {k : Nat} (h : k < ms.length) : (wrapL y args ms k)[k]? = some (mkT ms[k]) := by
  unfold wrapL
  rw [List.getElem?_map, List.getElem?_append_right (by simp [coArgs_len]; omega)]
  simp [coArgs_len, Nat.min_eq_left (Nat.le_of_lt h), h]
theorem wrapL_set (y : Sy) (args : List Int) (ms : List Mk) {k : Nat} (h : k < ms.length) {L : List UInt8} (hL : L = mkT (coM (shortV y.ty (kindM y ms[k]) (args.getD k 0)) ms[k])) : (wrapL y args ms k).set k L = wrapL y args ms (k + 1) := by
  subst hL
  unfold wrapL
  have hg := coArgs_get y args ms 0 k h
  rw [Nat.zero_add] at hg
  obtain ⟨h1, h2⟩ := List.getElem?_eq_some_iff.1 hg
  rw [List.take_succ_eq_append_getElem h1, h2, List.drop_eq_getElem_cons h]
  rw [List.map_append, List.map_cons, List.set_append_right _ _ (by simp; omega)]
  simp [Nat.min_eq_left (Nat.le_of_lt h1)]
/-- A call's text, from those of its arguments. -/
theorem mkT_mkA (i : Nat) {ms : List Mk} (h : ms.length ≤ 2) : mkT (mkA i ms) = 64 :: callL (dg (i : Int)) (ms.map mkT) := by
  match ms, h with
  | [], _ => simp [mkA, mkT, callL, Lib.join]
  | [p], _ => simp [mkA, mkT, callL, Lib.join]
  | [p, q], _ => simp [mkA, mkT, callL, Lib.join]
end Go.Proofs.YtgkfddhhkjblgaaGreatDoor

namespace Go.Proofs.YtgkfddhhkjblgaaGreatDoor
open Go.RowKit

theorem decDigits_big {n : Nat} (h : ¬ n < 10) : Lib.decDigits n = Lib.decDigits (n / 10) ++ [UInt8.ofNat (48 + n % 10)] := by
  rw [Lib.decDigits, dif_neg h]

set_option maxRecDepth 100000 in
set_option maxHeartbeats 2000000 in
/-- A number that is not negative. -/
theorem specDec_nat (z : Nat) (hz : (z : Int) ≤ 9223372036854775807) (w : World) :
    Calls Tryz.prog 110 #[.int .i64 z] w fun e w' => e = .returned (.string (str (Lib.decDigits z))) ∧ Below w.heap.size w w' := by
  have c1 : decide ((z : Int) < -9223372036854775807) = false := by simp <;> omega
  have c2 : decide ((z : Int) < 0) = false := by simp <;> omega
  have hconv : ∀ (v : World) (d : Nat), d ≤ 9 → (convert 117 9 (.slice (some ⟨v.heap.size, 0, none⟩) 1 1)).run Tryz.prog (v.alloc (.cells #[.int .u8 (48 + (d : Int))] 5)) = .ok (.string (str [UInt8.ofNat (48 + d)])) (v.alloc (.cells #[.int .u8 (48 + (d : Int))] 5)) := fun v d hd =>
    run_convert_bytes_back (P := Tryz.prog) _ 117 9 5 ⟨v.heap.size, 0, none⟩ 1 [UInt8.ofNat (48 + d)] Tryz.underlying117 Tryz.underlying5 Tryz.underlying9 fun j hj => by
      obtain rfl : j = 0 := by simp at hj; omega
      have e : (([UInt8.ofNat (48 + d)] : List UInt8)[0].toNat : Int) = 48 + d := by
        show ((UInt8.ofNat (48 + d)).toNat : Int) = _
        rw [UInt8.toNat_ofNat']
        omega
      rw [e]
      simp [go_sem]
  have HC := Lib.hid hconv
  clear hconv
  go_enter Tryz.func110, Tryz.ntmps110
  go_wp2
  go_loopw [0, 3] (fun n o wr => ∃ (k : Nat) (r : List UInt8), n = .int .i64 k ∧ k ≤ z ∧ o = .string (str r) ∧ r.length ≤ 20 ∧ Hid (Lib.decDigits z = Lib.decDigits k ++ r) ∧ Hid (Below w.heap.size w wr)) (fun n _ _ => (intOf n).toNat)
  case atStart => exact ⟨z, [], rfl, Nat.le_refl _, rfl, by simp, by show _ = _; simp, Below.refl _ _⟩
  case round =>
    obtain ⟨k, r, rfl, hkz, rfl, hrl, hdg, hbr⟩ := hrel
    have hdl : (Lib.decDigits z).length ≤ 20 := by
      have := itoa_len (z := (z : Int)) (by omega)
      unfold Lib.itoa at this
      rw [if_neg (by omega), Int.toNat_natCast] at this
      omega
    have hsp : (Lib.decDigits z).length = (Lib.decDigits k).length + r.length := by rw [hdg.out]; simp
    have hszr := str_size r
    have n1 : ¬ 9223372036854775807 < 1 + r.length := by omega
    clear hdl hsp
    by_cases h9 : 9 < k
    · have c3 : decide ((9 : Int) < (k : Int)) = true := by simp <;> omega
      have e1 : Int.tmod (k : Int) 10 = ((k % 10 : Nat) : Int) := by rw [Int.tmod_eq_emod_of_nonneg (by omega)]; rfl
      have e2 : Int.tdiv (k : Int) 10 = ((k / 10 : Nat) : Int) := by rw [Int.tdiv_eq_ediv_of_nonneg (by omega)]; rfl
      have hc1 : (convert 117 9 (.slice (some ⟨wr.heap.size, 0, none⟩) 1 1)).run Tryz.prog (wr.alloc (.cells #[.int .u8 (48 + (k : Int) % 10)] 5)) = .ok (.string (str [UInt8.ofNat (48 + k % 10)])) (wr.alloc (.cells #[.int .u8 (48 + (k : Int) % 10)] 5)) := by
        have h := HC.out wr (k % 10) (by omega)
        rwa [show ((k % 10 : Nat) : Int) = (k : Int) % 10 by omega] at h
      have hs1 : (str [UInt8.ofNat (48 + k % 10)]).size = 1 := by rw [str_size]; rfl
      have sa : str [UInt8.ofNat (48 + k % 10)] ++ str r = str (UInt8.ofNat (48 + k % 10) :: r) := str_append _ _
      have hdg2 : Hid (Lib.decDigits z = Lib.decDigits (k / 10) ++ UInt8.ofNat (48 + k % 10) :: r) := by
        show _ = _
        rw [hdg.out, decDigits_big (n := k) (by omega)]
        simp
      have hlen2 : Hid ((UInt8.ofNat (48 + k % 10) :: r).length ≤ 20) := by
        show _ ≤ _
        have := itoa_len (z := (z : Int)) (by omega)
        unfold Lib.itoa at this
        rw [if_neg (by omega), Int.toNat_natCast, hdg2.out, List.length_append] at this
        omega
      have hb2 : Hid (Below w.heap.size w (wr.alloc (.cells #[.int .u8 (48 + (k : Int) % 10)] 5))) := hbr.out.alloc hbr.out.size _
      obtain ⟨d8, hd8⟩ : ∃ d, d = UInt8.ofNat (48 + k % 10) := ⟨_, rfl⟩
      rw [← hd8] at hc1 hs1 sa hdg2 hlen2
      clear hd8 hdg hbr
      go_wp2
      go_roundw
      case rel => exact ⟨k / 10, d8 :: r, by go_num, by omega, rfl, hlen2.out, hdg2.out, hb2.out⟩
      case measure => simp [intOf]; omega
    · have c3 : decide ((9 : Int) < (k : Int)) = false := by simp <;> omega
      have hc1 := HC.out wr k (by omega)
      have hs1 : (str [UInt8.ofNat (48 + k)]).size = 1 := by rw [str_size]; rfl
      have sa : str [UInt8.ofNat (48 + k)] ++ str r = str (UInt8.ofNat (48 + k) :: r) := str_append _ _
      have hdg2 : Hid (Lib.decDigits z = UInt8.ofNat (48 + k) :: r) := by
        show _ = _
        rw [hdg.out, Lib.decDigits_one (by omega)]
        rfl
      have hb2 : Hid (Below w.heap.size w (wr.alloc (.cells #[.int .u8 (48 + (k : Int))] 5))) := hbr.out.alloc hbr.out.size _
      obtain ⟨d8, hd8⟩ : ∃ d, d = UInt8.ofNat (48 + k) := ⟨_, rfl⟩
      rw [← hd8] at hc1 hs1 sa hdg2
      clear hd8 hdg hbr
      go_wp2
      go_ret
      exact ⟨by rw [hdg2.out]; rfl, hb2.out⟩

set_option maxRecDepth 100000 in
set_option maxHeartbeats 2000000 in
/-- Every number. -/
theorem specDec_all (z : Int) (hz : I64 z) (w : World) :
    Calls Tryz.prog 110 #[.int .i64 z] w fun e w' => e = .returned (.string (str (Lib.itoa z))) ∧ Below w.heap.size w w' := by
  by_cases hmin : z < -9223372036854775807
  · have ez : z = -9223372036854775808 := by have := hz.1; omega
    subst ez
    have hi : Hid (Lib.itoa (-9223372036854775808) = [45, 57, 50, 50, 51, 51, 55, 50, 48, 51, 54, 56, 53, 52, 55, 55, 53, 56, 48, 56]) := by
      show _ = _
      decide +kernel
    clear hz hmin
    go_enter Tryz.func110, Tryz.ntmps110
    go_wp2
    go_ret
    exact ⟨by rw [hi.out]; rfl, Below.refl _ _⟩
  · by_cases hneg : z < 0
    · obtain ⟨m, rfl⟩ : ∃ m : Nat, z = -(m : Int) := ⟨z.natAbs, by omega⟩
      have hi : Hid (Lib.itoa (-(m : Int)) = 45 :: Lib.decDigits m) := by
        show _ = _
        unfold Lib.itoa
        rw [if_pos hneg]
        congr 2
        omega
      have c1 : ¬ (9223372036854775807 : Int) < (m : Int) := by omega
      have c2 : 0 < m := by omega
      have hm : (m : Int) ≤ 9223372036854775807 := by omega
      have hdl := Lib.hid (itoa_len hz)
      have hl : (Lib.decDigits m).length ≤ 20 := by have := hdl.out; rw [hi.out] at this; simp at this; omega
      have n1 : ¬ 9223372036854775807 < 1 + (Lib.decDigits m).length := by omega
      have hszr := str_size (Lib.decDigits m)
      have sa : (⟨#[45]⟩ : ByteArray) ++ str (Lib.decDigits m) = str (45 :: Lib.decDigits m) := str_append [45] _
      have HD := Lib.hid (specDec_nat m hm)
      clear hz hmin hneg hl
      go_enter Tryz.func110, Tryz.ntmps110
      go_wp2_with fail
      refine (HD.out w).mono ?_
      rintro e w1 ⟨rfl, hb1⟩
      have HB1 := Lib.hid hb1
      clear hb1
      go_wp2
      go_ret
      exact ⟨by rw [hi.out]; rfl, HB1.out⟩
    · obtain ⟨m, rfl⟩ : ∃ m : Nat, z = (m : Int) := ⟨z.toNat, by omega⟩
      have e : Lib.itoa (m : Int) = Lib.decDigits m := by
        unfold Lib.itoa
        rw [if_neg hneg, Int.toNat_natCast]
      rw [e]
      exact specDec_nat m (by have := hz.2; omega) w

set_option maxRecDepth 100000 in
set_option maxHeartbeats 2000000 in
theorem specWrap_any (lo hi : Nat) (m : List UInt8) (v : Value) (zs : List Int) (w : World) (hv : IntsAt w lo hi v zs) (hB : hi ≤ w.heap.size) (hm : m.length ≤ 1048576) (hz : zs.length ≤ 1048576) :
    Calls Tryz.prog 85 #[.string (str m), v] w fun e w' => e = .returned (.string (str (wrT m zs))) ∧ Below w.heap.size w w' := by
  obtain ⟨A, cap, rfl, hl1, hm1, hi1⟩ := hv.form
  have Hi := Lib.hid hi1
  have Hwf : Hid (∀ z ∈ zs, I64 z) := by
    obtain ⟨_, _, _, _, _, h, _⟩ := hv
    exact h
  clear hi1 hv
  go_enter Tryz.func85, Tryz.ntmps85
  go_wp2
  go_loopw [0, 9] (fun t i wr => ∃ k : Nat, k ≤ zs.length ∧ i = .int .i64 k ∧ t = .string (str (wrT m (zs.take k))) ∧ Hid (Below w.heap.size w wr)) (fun _ i _ => zs.length - (intOf i).toNat)
  case atStart => exact ⟨0, Nat.zero_le _, rfl, rfl, Below.refl _ _⟩
  case round =>
    obtain ⟨k, hk, rfl, rfl, hbr⟩ := hrel
    by_cases hkl : k < zs.length
    · obtain ⟨b3, off3, rfl, _, _, c3, i3⟩ := (Hi.out.below hbr.out hB).at_ hkl
      have hil := itoa_len i3
      have hstep := Lib.hid (wrT_take m zs hkl)
      have hwl : (wrT m (zs.take k)).length ≤ m.length + 23 * k := by
        have := wrT_len (m := m) (w := zs.take k) (fun z hz => Hwf.out z (List.mem_of_mem_take hz))
        rw [List.length_take] at this
        omega
      have HD := Lib.hid (specDec_all zs[k] i3)
      obtain ⟨T, hT⟩ : ∃ T, T = wrT m (zs.take k) := ⟨_, rfl⟩
      obtain ⟨D, hD⟩ : ∃ D, D = Lib.itoa zs[k] := ⟨_, rfl⟩
      rw [← hT] at hwl ⊢
      rw [← hD] at hil HD
      have s1 : (⟨#[35]⟩ : ByteArray) ++ str D = str ([35] ++ D) := str_append [35] _
      have s2 : str ([35] ++ D) ++ (⟨#[40]⟩ : ByteArray) = str ([35] ++ D ++ [40]) := str_append _ [40]
      have s3 : str ([35] ++ D ++ [40]) ++ str T = str ([35] ++ D ++ [40] ++ T) := str_append _ _
      have s4 : str ([35] ++ D ++ [40] ++ T) ++ (⟨#[41]⟩ : ByteArray) = str ([35] ++ D ++ [40] ++ T ++ [41]) := str_append _ [41]
      have hfin : Hid ([35] ++ D ++ [40] ++ T ++ [41] = wrT m (zs.take (k + 1))) := by
        show _ = _
        rw [hstep.out, hT, hD]
        rfl
      obtain ⟨L1, l1⟩ : ∃ L, L = [35] ++ D := ⟨_, rfl⟩
      rw [← l1] at s1 s2 s3 s4 hfin
      obtain ⟨L2, l2⟩ : ∃ L, L = L1 ++ [40] := ⟨_, rfl⟩
      rw [← l2] at s2 s3 s4 hfin
      obtain ⟨L3, l3⟩ : ∃ L, L = L2 ++ T := ⟨_, rfl⟩
      rw [← l3] at s3 s4 hfin
      obtain ⟨L4, l4⟩ : ∃ L, L = L3 ++ [41] := ⟨_, rfl⟩
      rw [← l4] at s4 hfin
      have k1 : L1.length = 1 + D.length := by rw [l1]; simp; omega
      have k2 : L2.length = L1.length + 1 := by rw [l2]; simp
      have k3 : L3.length = L2.length + T.length := by rw [l3]; simp
      have n1 : ¬ 9223372036854775807 < 1 + (str D).size := by rw [str_size]; omega
      have n2 : ¬ 9223372036854775807 < (str L1).size + 1 := by rw [str_size]; omega
      have n3 : ¬ 9223372036854775807 < (str L2).size + (str T).size := by rw [str_size, str_size]; omega
      have n4 : ¬ 9223372036854775807 < (str L3).size + 1 := by rw [str_size]; omega
      clear l1 l2 l3 l4 k1 k2 k3 hT hD hstep i3 hwl hil
      go_wp2_with fail
      refine (HD.out wr).mono ?_
      rintro e w1 ⟨rfl, hb1⟩
      have HB1 := Lib.hid (hbr.out.trans (hb1.mono hbr.out.size))
      clear hb1 hbr
      go_wp2
      go_roundw
      case rel => exact ⟨k + 1, by omega, by go_num, by rw [hfin.out], HB1.out⟩
      case measure => simp [intOf]; omega
    · obtain rfl : k = zs.length := by omega
      rw [List.take_length]
      go_wp2
      go_ret
      exact ⟨rfl, hbr.out⟩
end Go.Proofs.YtgkfddhhkjblgaaGreatDoor

namespace Go.Proofs.YtgkfddhhkjblgaaGreatDoor
open Go.RowKit

/-- A slice reads as texts. -/
def StrsAt (w : World) (v : Value) (ps : List (List UInt8)) : Prop := ∃ A c, v = .slice A ps.length c ∧ ps.length ≤ c ∧ (0 < ps.length → ∃ g off, A = some ⟨g, off, none⟩ ∧ g < w.heap.size ∧ ∀ j, ∀ hj : j < ps.length, w.cell? ⟨g, off + j, none⟩ = some (.string (str ps[j])))
theorem StrsAt.below {w w' : World} {v : Value} {ps : List (List UInt8)} (h : StrsAt w v ps) (hb : Below w.heap.size w w') : StrsAt w' v ps := by
  obtain ⟨A, c, e, hc, h⟩ := h
  refine ⟨A, c, e, hc, fun h0 => ?_⟩
  obtain ⟨g, off, e2, hg, hcell⟩ := h h0
  exact ⟨g, off, e2, Nat.lt_of_lt_of_le hg hb.size, fun j hj => (World.cell?_of_block (w := w) (hb.block g hg)).trans (hcell j hj)⟩
def strVs (ps : List (List UInt8)) : List Value := ps.map fun p => Value.string (str p)
theorem strsAt_own {w : World} {N : Nat} {t : TypeId} {v : Value} {ps : List (List UInt8)} (h : w.ownsRow N t 1 v ps.length (strVs ps)) : StrsAt w v ps := by
  obtain ⟨_, ⟨rfl, e⟩ | ⟨g, cap, cur, rfl, hg, hh, hc1, hc2, hcs, htake⟩⟩ := h
  · exact ⟨none, 0, by rw [e], by omega, fun h0 => by omega⟩
  · refine ⟨some ⟨g, 0, none⟩, cap, rfl, hc1, fun h0 => ⟨g, 0, rfl, ?_, fun j hj => ?_⟩⟩
    · rcases Nat.lt_or_ge g w.heap.size with h' | h'
      · exact h'
      · rw [Array.getElem?_eq_none h'] at hh; cases hh
    · have e : w.cell? ⟨g, 0 + j, none⟩ = cur[j]? := by simp [World.cell?, hh]
      rw [e]
      have e2 : cur[j]? = (cur.toList.take (ps.length * 1))[j]? := by
        rw [List.getElem?_take_of_lt (by omega)]
        simp
      rw [e2, htake]
      simp [strVs, hj]
theorem str_tl (l : List UInt8) : (str l).toList = l := ByteArray.toList_mk l
/-- How much texts are. -/
def bulkS (ps : List (List UInt8)) : Nat := ps.length + (ps.map List.length).sum
theorem sum_take_le' : ∀ (l : List Nat) (k : Nat), (l.take k).sum ≤ l.sum
  | [], k => by simp
  | a :: l, 0 => by simp
  | a :: l, k + 1 => by have := sum_take_le' l k; simp only [List.take_succ_cons, List.sum_cons]; omega
theorem sumlen_take {ps : List (List UInt8)} {k : Nat} (hk : k < ps.length) : ((ps.map List.length).take (k + 1)).sum = ((ps.map List.length).take k).sum + ps[k].length := by
  rw [List.take_succ_eq_append_getElem (by simpa using hk), List.sum_append]
  simp

set_option maxRecDepth 100000 in
set_option maxHeartbeats 2000000 in
theorem eqStrs_any (v1 v2 : Value) (ps qs : List (List UInt8)) (w : World) (h1 : StrsAt w v1 ps) (h2 : StrsAt w v2 qs) (hn : ps.length ≤ 1048576) :
    Calls Tryz.prog 21 #[v1, v2] w fun e w' => e = .returned (.bool (decide (ps = qs))) ∧ Below w.heap.size w w' := by
  obtain ⟨A, c, rfl, hcap, hcells⟩ := h1
  obtain ⟨A2, c2, rfl, hcap2, hcells2⟩ := h2
  have HC := Lib.hid hcells
  have HC2 := Lib.hid hcells2
  clear hcells hcells2
  go_enter Tryz.func21, Tryz.ntmps21
  by_cases hlen : ps.length = qs.length
  · have n0 : ((ps.length : Int) != (qs.length : Int)) = false := by simp [hlen]
    go_wp2
    go_loopw [5] (fun i wr => ∃ k : Nat, k ≤ ps.length ∧ i = .int .i64 k ∧ Hid (∃ m, wr = w.drewN m) ∧ Hid (∀ j, ∀ (h1 : j < ps.length) (h2 : j < qs.length), j < k → ps[j] = qs[j])) (fun i _ => ps.length - (intOf i).toNat)
    case atStart => exact ⟨0, Nat.zero_le _, rfl, ⟨0, rfl⟩, fun j _ _ h => absurd h (by omega)⟩
    case round =>
      obtain ⟨k, hk, rfl, hwr, heq⟩ := hrel
      have hbw : Hid (Below w.heap.size w wr) := by obtain ⟨m, rfl⟩ := hwr.out; exact below_drewN (Below.refl _ _) m
      by_cases hkl : k < ps.length
      · obtain ⟨g, off, hA, hgw, hcs⟩ := HC.out (by omega)
        obtain ⟨g2, off2, hA2, hgw2, hcs2⟩ := HC2.out (by omega)
        subst hA; subst hA2
        have hck : wr.cell? ⟨g, off + k, none⟩ = some (.string (str ps[k])) := (World.cell?_of_block (w := w) (hbw.out.block g hgw)).trans (hcs k hkl)
        have hck2 : wr.cell? ⟨g2, off2 + k, none⟩ = some (.string (str (qs[k]'(by omega)))) := (World.cell?_of_block (w := w) (hbw.out.block g2 hgw2)).trans (hcs2 k (by omega))
        obtain ⟨p, hp⟩ : ∃ p, p = ps[k] := ⟨_, rfl⟩
        obtain ⟨q, hq⟩ : ∃ q, q = qs[k]'(by omega) := ⟨_, rfl⟩
        rw [← hp] at hck
        rw [← hq] at hck2
        have t1 := str_tl p
        have t2 := str_tl q
        have hk2 : (k : Int) < (qs.length : Int) := by omega
        by_cases hpq : p = q
        · have hnx : Hid (∀ j, ∀ (h1 : j < ps.length) (h2 : j < qs.length), j < k + 1 → ps[j] = qs[j]) := by
            intro j h1 h2 hj
            by_cases e : j = k
            · subst e; rw [← hp, ← hq, hpq]
            · exact heq.out j h1 h2 (by omega)
          have hne : (p == q) = true := by simpa using hpq
          have hne2 : (p != q) = false := by simp [bne, hne]
          subst hpq
          clear hcs hcs2 hp hq heq hbw
          go_wp2_with fail
          go_quiet (fail)
          go_wp2
          go_roundw
          case rel => exact ⟨k + 1, by omega, by go_num, (by show ∃ m, _ = _; obtain ⟨m, h⟩ := hwr.out; exact ⟨_, by rw [h]; exact World.drewN_drewN ..⟩), hnx.out⟩
          case measure => simp [intOf]; omega
        · have hno : Hid (¬ ps = qs) := by
            intro h
            apply hpq
            rw [hp, hq]
            subst h
            rfl
          have hne : (p == q) = false := by simpa using hpq
          have hne2 : (p != q) = true := by simp [bne, hne]
          clear hcs hcs2 hp hq heq hpq
          go_wp2_with fail
          go_quiet (fail)
          go_wp2
          go_ret
          exact ⟨ret_bool (by simpa using hno.out), below_drewN hbw.out _⟩
      · have hke : k = ps.length := by omega
        have hall : Hid (ps = qs) := List.ext_getElem hlen fun j h1 h2 => heq.out j h1 h2 (by omega)
        have hki : ¬ ((k : Int) < (ps.length : Int)) := by omega
        go_wp2
        go_ret
        exact ⟨ret_bool (by simpa using hall.out), hbw.out⟩
  · have n0 : ((ps.length : Int) != (qs.length : Int)) = true := by simp; omega
    have hne : Hid (¬ ps = qs) := fun h => hlen (by rw [h])
    go_wp2
    go_ret
    exact ⟨ret_bool (by simpa using hne.out), Below.refl _ _⟩
end Go.Proofs.YtgkfddhhkjblgaaGreatDoor

namespace Go.Proofs.YtgkfddhhkjblgaaGreatDoor
open Go.RowKit

/-- A text cut at every c. -/
def glue (p : List UInt8) : List (List UInt8) → List (List UInt8)
  | [] => [p]
  | h :: t => (p ++ h) :: t
def cutL (c : UInt8) : List UInt8 → List (List UInt8)
  | [] => [[]]
  | x :: l => if x = c then [] :: cutL c l else glue [x] (cutL c l)
theorem glue_nil {x : List (List UInt8)} (h : x ≠ []) : glue [] x = x := by
  cases x with
  | nil => exact absurd rfl h
  | cons h t => rfl
theorem glue_glue (p q : List UInt8) (x : List (List UInt8)) : glue p (glue q x) = glue (p ++ q) x := by
  cases x with
  | nil => rfl
  | cons h t => simp [glue, List.append_assoc]
theorem cutL_ne (c : UInt8) (l : List UInt8) : cutL c l ≠ [] := by
  cases l with
  | nil => simp [cutL]
  | cons x l =>
    simp only [cutL]
    split
    · simp
    · cases h : cutL c l <;> simp [glue]
/-- The piece from one place to another. -/
def sub (l : List UInt8) (f i : Nat) : List UInt8 := (l.drop f).take (i - f)
theorem sub_self (l : List UInt8) (i : Nat) : sub l i i = [] := by simp [sub]
theorem sub_succ {l : List UInt8} {f i : Nat} (hf : f ≤ i) (hi : i < l.length) : sub l f (i + 1) = sub l f i ++ [l[i]] := by
  unfold sub
  have e : i + 1 - f = (i - f) + 1 := by omega
  rw [e, List.take_succ_eq_append_getElem (by rw [List.length_drop]; omega)]
  congr 1
  simp
  congr 1
  omega
theorem str_sub (l : List UInt8) (f i : Nat) : (str l).extract f i = str (sub l f i) := by
  apply ByteArray.ext
  simp [str, sub, ByteArray.data_extract, List.extract_eq_take_drop]
/-- What the loop keeps, at place i, with the pieces that are done, and the place at which the last one begins. -/
def CutAt (c : UInt8) (l : List UInt8) (done : List (List UInt8)) (f i : Nat) : Prop := f ≤ i ∧ cutL c l = done ++ glue (sub l f i) (cutL c (l.drop i))
theorem CutAt.start (c : UInt8) (l : List UInt8) : CutAt c l [] 0 0 := ⟨Nat.le_refl _, by rw [sub_self, List.drop_zero, glue_nil (cutL_ne c l)]; rfl⟩
theorem CutAt.go {c : UInt8} {l : List UInt8} {done : List (List UInt8)} {f i : Nat} (h : CutAt c l done f i) (hi : i < l.length) (hne : l[i] ≠ c) : CutAt c l done f (i + 1) := by
  refine ⟨by have := h.1; omega, ?_⟩
  rw [h.2, List.drop_eq_getElem_cons hi, cutL, if_neg hne, glue_glue, sub_succ h.1 hi]
theorem CutAt.hit {c : UInt8} {l : List UInt8} {done : List (List UInt8)} {f i : Nat} (h : CutAt c l done f i) (hi : i < l.length) (he : l[i] = c) : CutAt c l (done ++ [sub l f i]) (i + 1) (i + 1) := by
  refine ⟨Nat.le_refl _, ?_⟩
  rw [h.2, List.drop_eq_getElem_cons hi, cutL, if_pos he, sub_self, glue_nil (cutL_ne _ _)]
  simp [glue]
theorem CutAt.last {c : UInt8} {l : List UInt8} {done : List (List UInt8)} {f : Nat} (h : CutAt c l done f l.length) : cutL c l = done ++ [sub l f l.length] := by
  rw [h.2, List.drop_length]
  simp [cutL, glue]
theorem cut_byte (l : List UInt8) (i : Nat) (_hi : i < l.length) (h : i < (str l).size) : (str l)[i]'h = l[i]'_hi := by
  show (str l).data[i] = l[i]
  simp [str]
  first | rfl | skip
theorem cut_eq (c s : UInt8) : ((c.toNat : Int) == (s.toNat : Int)) = decide (c = s) := by
  by_cases h : c = s
  · subst h; simp
  · have : ¬ (c.toNat : Int) = (s.toNat : Int) := fun e => h (UInt8.toNat_inj.1 (by omega))
    simp [h, this]

end Go.Proofs.YtgkfddhhkjblgaaGreatDoor

namespace Go.Proofs.YtgkfddhhkjblgaaGreatDoor
open Go.RowKit

theorem drop3 {L : List UInt8} {k : Nat} (h : k + 3 ≤ L.length) : ∃ a b c r, L.drop k = a :: b :: c :: r ∧ L.length = k + 3 + r.length ∧ (∀ h, (str L)[k]'h = a) ∧ (∀ h, (str L)[k + 1]'h = b) ∧ (∀ h, (str L)[k + 2]'h = c) ∧ L.drop (k + 3) = r ∧ L.drop (k + 2) = c :: r := by
  refine ⟨L[k], L[k + 1], L[k + 2], L.drop (k + 3), ?_, ?_, cut_byte L k (by omega), cut_byte L (k + 1) (by omega), cut_byte L (k + 2) (by omega), rfl, ?_⟩
  · rw [List.drop_eq_getElem_cons (by omega), List.drop_eq_getElem_cons (i := k + 1) (by omega), List.drop_eq_getElem_cons (i := k + 2) (by omega)]
  · rw [List.length_drop]; omega
  · rw [List.drop_eq_getElem_cons (i := k + 2) (by omega)]
theorem inB_D (c : UInt8) : inB (wrap64 (c.toNat : Int)) 48 57 = isD c := by
  have h := c.toNat_lt
  rw [show wrap64 (c.toNat : Int) = (c.toNat : Int) by unfold wrap64; omega]
  unfold inB isD
  rw [← Bool.decide_and]
  apply decide_eq_decide.2
  omega
theorem inB_N (c : UInt8) : inB (wrap64 (c.toNat : Int)) 102 107 = isN c := by
  have h := c.toNat_lt
  rw [show wrap64 (c.toNat : Int) = (c.toNat : Int) by unfold wrap64; omega]
  unfold inB isN
  rw [← Bool.decide_and]
  apply decide_eq_decide.2
  omega
theorem ret_eqInt {x y : Int} (h : x = y) : Ending.returned (.int .i64 x) = Ending.returned (.int .i64 y) := by rw [h]
theorem drop1 {L : List UInt8} {q : Nat} (h : q < L.length) : ∃ c r, L.drop q = c :: r ∧ (∀ h, (str L)[q]'h = c) ∧ L.drop (q + 1) = r :=
  ⟨L[q], L.drop (q + 1), List.drop_eq_getElem_cons h, cut_byte L q h, rfl⟩

set_option maxRecDepth 100000 in
set_option maxHeartbeats 4000000 in
theorem end6_any (L : List UInt8) (hL : L.length ≤ 1048576) : ∀ (f k : Nat) (w : World), k ≤ L.length → L.length ≤ k + f →
    Calls Tryz.prog 106 #[.string (str L), .int .i64 k] w fun e w' => e = .returned (.int .i64 (endZ L (endT f (L.drop k)))) ∧ w' = w := by
  intro f
  induction f with
  | zero =>
    intro k w hk hf
    have hsz := str_size L
    have hv : Hid (endZ L (endT 0 (L.drop k)) = -1) := by show _ = _; rw [endT_short (by rw [List.length_drop]; omega)]; rfl
    go_enter Tryz.func106, Tryz.ntmps106
    have h1 : (L.length : Int) < (k : Int) + 3 := by omega
    go_wp2
    go_ret
    exact ⟨ret_eqInt hv.out.symm, rfl⟩
  | succ f ih =>
    intro k w hk hf
    have hsz := str_size L
    have IH := Lib.hid ih
    clear ih
    by_cases hs : L.length < k + 3
    · have hv : Hid (endZ L (endT (f + 1) (L.drop k)) = -1) := by show _ = _; rw [endT_short (by rw [List.length_drop]; omega)]; rfl
      go_enter Tryz.func106, Tryz.ntmps106
      have h1 : (L.length : Int) < (k : Int) + 3 := by omega
      go_wp2
      go_ret
      exact ⟨ret_eqInt hv.out.symm, rfl⟩
    · obtain ⟨a, b, c, r, hd, hlen, b0, b1, b2, d3, d2⟩ := drop3 (L := L) (k := k) (by omega)
      have h1 : ¬ (L.length : Int) < (k : Int) + 3 := by omega
      have q58 : ((b.toNat : Int) == 58) = decide (b = 58) := cut_eq b 58
      by_cases hb : b = 58
      · subst hb
        have hv : Hid (endZ L (endT (f + 1) (L.drop k)) = if (isD a && isD c) = true then (k : Int) + 3 else -1) := by
          show _ = _
          rw [hd, endT_lit]
          split
          · show (L.length : Int) - (r.length : Int) = _
            omega
          · rfl
        clear hd d3 d2 q58
        cases ha : isD a with
        | false =>
          rw [ha] at hv
          go_enter Tryz.func106, Tryz.ntmps106
          go_wp2_with (go_at_call 45; refine (l1In_any _ _ _ _).mono ?_; rintro e w1 ⟨rfl, rfl⟩; first | rw [inB_D a, ha] | skip)
          go_ret
          exact ⟨ret_eqInt hv.out.symm, rfl⟩
        | true =>
          cases hc : isD c with
          | false =>
            rw [ha, hc] at hv
            go_enter Tryz.func106, Tryz.ntmps106
            go_wp2_with (go_at_call 45; refine (l1In_any _ _ _ _).mono ?_; rintro e w1 ⟨rfl, rfl⟩; first | rw [inB_D a, ha] | rw [inB_D c, hc])
            go_ret
            exact ⟨ret_eqInt hv.out.symm, rfl⟩
          | true =>
            rw [ha, hc] at hv
            go_enter Tryz.func106, Tryz.ntmps106
            go_wp2_with (go_at_call 45; refine (l1In_any _ _ _ _).mono ?_; rintro e w1 ⟨rfl, rfl⟩; first | rw [inB_D a, ha] | rw [inB_D c, hc])
            go_ret
            exact ⟨ret_eqInt hv.out.symm, rfl⟩
      · have hbf : decide (b = 58) = false := by simpa using hb
        rw [hbf] at q58
        have q40 : ((b.toNat : Int) == 40) = decide (b = 40) := cut_eq b 40
        cases hN : isN a with
        | false =>
          have hv : Hid (endZ L (endT (f + 1) (L.drop k)) = -1) := by show _ = _; rw [hd, endT_other a b _ hb (by simp [hN])]; rfl
          clear hd d3 d2 hb hbf q40
          go_enter Tryz.func106, Tryz.ntmps106
          go_wp2_with (go_at_call 45; refine (l1In_any _ _ _ _).mono ?_; rintro e w1 ⟨rfl, rfl⟩; rw [inB_N a, hN])
          go_ret
          exact ⟨ret_eqInt hv.out.symm, rfl⟩
        | true =>
          by_cases hb4 : b = 40
          · subst hb4
            have hca := Lib.hid (endT_call (f := f) a c r hN)
            rw [← hd] at hca
            have HD := Lib.hid d2
            have HD3 := Lib.hid d3
            clear hd d3 d2 hb hbf q40
            have q41 : ((c.toNat : Int) == 41) = decide (c = 41) := cut_eq c 41
            by_cases hc : c = 41
            · subst hc
              have hv : Hid (endZ L (endT (f + 1) (L.drop k)) = (k : Int) + 2 + 1) := by
                show _ = _
                rw [hca.out, if_pos rfl]
                show (L.length : Int) - (r.length : Int) = _
                omega
              clear q41 hca
              go_enter Tryz.func106, Tryz.ntmps106
              go_wp2_with (go_at_call 45; refine (l1In_any _ _ _ _).mono ?_; rintro e w1 ⟨rfl, rfl⟩; rw [inB_N a, hN])
              go_ret
              exact ⟨ret_eqInt hv.out.symm, rfl⟩
            · have hcf : decide (c = 41) = false := by simpa using hc
              rw [hcf] at q41
              have hstart : Hid (endT (f + 1) (L.drop k) = endArgs (rdTm f) 2 (L.drop (k + 2))) := by
                show _ = _
                rw [hca.out, if_neg hc, HD.out]
              clear hca hc hcf HD HD3
              go_enter Tryz.func106, Tryz.ntmps106
              go_wp2_with (first | (go_at_call 45; refine (l1In_any _ _ _ _).mono ?_; rintro e w1 ⟨rfl, rfl⟩; rw [inB_N a, hN]))
              clear b0 b1 b2 q58 q41 h1 hN
              go_loopw [1, 51] (fun v1 vm wr => ∃ (m q : Nat), m ≤ 2 ∧ k < q ∧ q ≤ L.length ∧ v1 = .int .i64 q ∧ vm = .int .i64 m ∧ wr = w ∧ Hid (endT (f + 1) (L.drop k) = endArgs (rdTm f) (2 - m) (L.drop q))) (fun _ vm _ => 2 - (intOf vm).toNat)
              case atStart => exact ⟨0, k + 2, by omega, by omega, by omega, by go_num, rfl, rfl, hstart.out⟩
              case round =>
                obtain ⟨m, q, hm, hq1, hq2, rfl, rfl, rfl, hrel2⟩ := hrel
                by_cases hm2 : m < 2
                · have IHq := Lib.hid (IH.out q wr hq2 (by omega))
                  have he : 2 - m = (1 - m) + 1 := by omega
                  rw [he] at hrel2
                  cases ho : rdTm f (L.drop q) with
                  | none =>
                    have hv : Hid (endZ L (endT (f + 1) (L.drop k)) = -1) := by show _ = _; rw [hrel2.out, endArgs, ho]; rfl
                    have hz : Hid (endZ L (endT f (L.drop q)) = -1) := by show _ = _; unfold endT; rw [ho]; rfl
                    clear hrel2 ho
                    rw [hz.out] at IHq
                    go_wp2_with (first | (go_at_call 106; refine IHq.out.mono ?_; rintro e w1 ⟨rfl, rfl⟩))
                    go_ret
                    exact ⟨ret_eqInt hv.out.symm, rfl⟩
                  | some p =>
                    obtain ⟨t, r2⟩ := p
                    have hse : endT f (L.drop q) = some r2 := by unfold endT; rw [ho]; rfl
                    obtain ⟨hl2, hdr⟩ := endT_suffix hse
                    rw [List.length_drop] at hl2 hdr
                    rw [List.drop_drop] at hdr
                    obtain ⟨q2, hq⟩ : ∃ q2, q2 + r2.length = L.length := ⟨L.length - r2.length, by omega⟩
                    have hz : Hid (endZ L (endT f (L.drop q)) = (q2 : Int)) := by
                      show _ = _
                      rw [hse]
                      show (L.length : Int) - (r2.length : Int) = _
                      omega
                    rw [show q + (L.length - q - r2.length) = q2 by omega] at hdr
                    rw [hz.out] at IHq
                    clear hse
                    cases r2 with
                    | nil =>
                      have hv : Hid (endZ L (endT (f + 1) (L.drop k)) = -1) := by show _ = _; rw [hrel2.out, endArgs, ho]; rfl
                      have hq3 : (L.length : Int) ≤ (q2 : Int) := by simp at hq; omega
                      clear hrel2 ho hdr hq hl2
                      go_wp2_with (first | (go_at_call 106; refine IHq.out.mono ?_; rintro e w1 ⟨rfl, rfl⟩))
                      go_ret
                      exact ⟨ret_eqInt hv.out.symm, rfl⟩
                    | cons d r3 =>
                      simp only [List.length_cons] at hq hl2
                      obtain ⟨d', r', hd', by0, hdr2⟩ := drop1 (L := L) (q := q2) (by omega)
                      rw [hdr] at hd'
                      injection hd' with hd1 hd2
                      subst hd1; subst hd2
                      have hq3 : ¬ (L.length : Int) ≤ (q2 : Int) := by omega
                      have hv0 : Hid (endT (f + 1) (L.drop k) = if d = 41 then some r3 else if d = 44 then endArgs (rdTm f) (1 - m) (L.drop (q2 + 1)) else none) := by show _ = _; rw [hrel2.out, endArgs, ho, hdr2]
                      have q41 : ((d.toNat : Int) == 41) = decide (d = 41) := cut_eq d 41
                      have q44 : ((d.toNat : Int) == 44) = decide (d = 44) := cut_eq d 44
                      clear hrel2 ho hdr hdr2
                      by_cases hd4 : d = 41
                      · subst hd4
                        have hv : Hid (endZ L (endT (f + 1) (L.drop k)) = (q2 : Int) + 1) := by
                          show _ = _
                          rw [hv0.out, if_pos rfl]
                          show (L.length : Int) - (r3.length : Int) = _
                          omega
                        clear hv0 q41 q44
                        go_wp2_with (first | (go_at_call 106; refine IHq.out.mono ?_; rintro e w1 ⟨rfl, rfl⟩))
                        go_ret
                        exact ⟨ret_eqInt hv.out.symm, rfl⟩
                      · have hdf : decide (d = 41) = false := by simpa using hd4
                        rw [hdf] at q41
                        have hv1 : Hid (endT (f + 1) (L.drop k) = if d = 44 then endArgs (rdTm f) (1 - m) (L.drop (q2 + 1)) else none) := by show _ = _; rw [hv0.out, if_neg hd4]
                        clear hv0 hd4 hdf
                        by_cases hd5 : d = 44
                        · have hdt : decide (d = 44) = true := by simpa using hd5
                          rw [hdt] at q44
                          have hv : Hid (endT (f + 1) (L.drop k) = endArgs (rdTm f) (2 - (m + 1)) (L.drop (q2 + 1))) := by show _ = _; rw [hv1.out, if_pos hd5, show 2 - (m + 1) = 1 - m by omega]
                          clear hv1 hd5 hdt
                          go_wp2_with (first | (go_at_call 106; refine IHq.out.mono ?_; rintro e w1 ⟨rfl, rfl⟩))
                          go_roundw
                          case rel => exact ⟨m + 1, q2 + 1, by omega, by omega, by omega, by go_num, by go_num, trivial, hv.out⟩
                          case measure => simp [intOf]; omega
                        · have hdt : decide (d = 44) = false := by simpa using hd5
                          rw [hdt] at q44
                          have hv : Hid (endZ L (endT (f + 1) (L.drop k)) = -1) := by show _ = _; rw [hv1.out, if_neg hd5]; rfl
                          clear hv1 hd5 hdt
                          go_wp2_with (first | (go_at_call 106; refine IHq.out.mono ?_; rintro e w1 ⟨rfl, rfl⟩))
                          go_ret
                          exact ⟨ret_eqInt hv.out.symm, rfl⟩
                · have hm3 : m = 2 := by omega
                  subst hm3
                  have hv : Hid (endZ L (endT (f + 1) (L.drop k)) = -1) := by show _ = _; rw [hrel2.out]; rfl
                  clear hrel2
                  go_wp2
                  go_ret
                  exact ⟨ret_eqInt hv.out.symm, rfl⟩
          · have hb4f : decide (b = 40) = false := by simpa using hb4
            rw [hb4f] at q40
            have hv : Hid (endZ L (endT (f + 1) (L.drop k)) = -1) := by show _ = _; rw [hd, endT_other a b _ hb (by simp [hN, hb4])]; rfl
            clear hd d3 d2 hb hbf hb4 hb4f
            go_enter Tryz.func106, Tryz.ntmps106
            go_wp2_with (go_at_call 45; refine (l1In_any _ _ _ _).mono ?_; rintro e w1 ⟨rfl, rfl⟩; rw [inB_N a, hN])
            go_ret
            exact ⟨ret_eqInt hv.out.symm, rfl⟩

theorem parseT_endZ {L : List UInt8} (h : L.length ≤ 60) : (endZ L (endT L.length L) == (L.length : Int)) = (parseT L).isSome := by
  rw [parseT_some]
  cases e : endT L.length L with
  | none =>
    simp [endZ]
  | some r =>
    have := (endT_suffix e).1
    simp only [endZ]
    by_cases hr : r = []
    · subst hr
      simp [h]
    · have : 0 < r.length := List.length_pos_iff.2 hr
      have e1 : decide (some r = some ([] : List UInt8)) = false := by simpa using hr
      rw [e1, Bool.and_false]
      simp
      omega

set_option maxRecDepth 100000 in
set_option maxHeartbeats 1000000 in
theorem specTermValid_any (L : List UInt8) (hL : L.length ≤ 1048576) (w : World) :
    Calls Tryz.prog 67 #[.string (str L)] w fun e w' => e = .returned (.bool (parseT L).isSome) ∧ w' = w := by
  have hsz := str_size L
  by_cases h : L.length ≤ 60
  · have h1 : (L.length : Int) ≤ 60 := by omega
    have hE := Lib.hid (end6_any L hL L.length 0 w (Nat.zero_le _) (by omega))
    have hp := Lib.hid (parseT_endZ h)
    clear h
    go_enter Tryz.func67, Tryz.ntmps67
    go_wp2_with (first | (go_at_call 106; refine hE.out.mono ?_; rintro e w1 ⟨rfl, rfl⟩))
    go_ret
    exact ⟨by rw [← hp.out]; rfl, rfl⟩
  · have h1 : ¬ (L.length : Int) ≤ 60 := by omega
    have hp : Hid (parseT L = none) := by show _ = _; unfold parseT; rw [if_neg h]
    clear h
    go_enter Tryz.func67, Tryz.ntmps67
    go_wp2
    go_ret
    exact ⟨by rw [hp.out]; rfl, rfl⟩
end Go.Proofs.YtgkfddhhkjblgaaGreatDoor

namespace Go.Proofs.YtgkfddhhkjblgaaGreatDoor
open Go.RowKit

abbrev optE (o : Option (List UInt8)) : Ending := .returned (.tuple #[.string (str (o.getD [])), .bool o.isSome])

set_option maxRecDepth 100000 in
set_option maxHeartbeats 1000000 in
theorem specTermValid_free (L : List UInt8) (w : World) :
    Calls Tryz.prog 67 #[.string (str L)] w fun e w' => e = .returned (.bool (parseT L).isSome) ∧ w' = w := by
  by_cases h : L.length ≤ 60
  · exact specTermValid_any L (by omega) w
  · have hsz := str_size L
    have h1 : ¬ (L.length : Int) ≤ 60 := by omega
    have hp : Hid (parseT L = none) := by show _ = _; unfold parseT; rw [if_neg h]
    clear h
    go_enter Tryz.func67, Tryz.ntmps67
    go_wp2
    go_ret
    exact ⟨by rw [hp.out]; rfl, rfl⟩

set_option maxRecDepth 100000 in
set_option maxHeartbeats 2000000 in
theorem l6Join_any (nm : List UInt8) (v : Value) (ps : List (List UInt8)) (w : World) (hv : StrsAt w v ps) (hn : nm.length ≤ 1048576) (hb : bulkS ps ≤ 1048576) :
    Calls Tryz.prog 109 #[.string (str nm), v] w fun e w' => e = .returned (.string (str (callL nm ps))) ∧ w' = w := by
  obtain ⟨A, c, rfl, hcap, hcells⟩ := hv
  have HC := Lib.hid hcells
  have hnp : ps.length + ((ps.map List.length).sum) ≤ 1048576 := hb
  have h0 : str nm ++ (⟨#[40]⟩ : ByteArray) = str (nm ++ [40]) := str_append _ _
  have n0 : ¬ 9223372036854775807 < (str nm).size + 1 := by rw [str_size]; omega
  have hst : Hid (nm ++ [40] = joinTo nm ps 0) := rfl
  obtain ⟨L0, hL0⟩ : ∃ L0, L0 = nm ++ [40] := ⟨_, rfl⟩
  rw [← hL0] at h0 hst
  clear hcells hL0 hb
  go_enter Tryz.func109, Tryz.ntmps109
  go_wp2
  clear h0 n0
  go_loopw [5, 12] (fun o i wr => ∃ k : Nat, k ≤ ps.length ∧ i = .int .i64 k ∧ wr = w ∧ ∃ Lk, o = .string (str Lk) ∧ Hid (Lk = joinTo nm ps k)) (fun _ i _ => ps.length - (intOf i).toNat)
  case atStart => exact ⟨0, Nat.zero_le _, rfl, rfl, _, rfl, hst.out⟩
  case round =>
    obtain ⟨k, hk, rfl, rfl, Lk, rfl, hLk⟩ := hrel
    have hjl := joinTo_len nm ps k hk
    rw [← hLk.out] at hjl
    by_cases hkl : k < ps.length
    · obtain ⟨g, off, hA, hgw, hcs⟩ := HC.out (by omega)
      subst hA
      have hck := hcs k hkl
      have hsum := sum_take_le' (ps.map List.length) (k + 1)
      rw [sumlen_take hkl] at hsum
      obtain ⟨q, hq⟩ : ∃ q, q = ps[k] := ⟨_, rfl⟩
      have hgd : ps.getD k [] = q := by rw [hq, List.getD_eq_getElem?_getD, List.getElem?_eq_getElem hkl]; rfl
      have hjs : Hid (joinTo nm ps (k + 1) = Lk ++ (if 0 < k then [44] else []) ++ q) := by show _ = _; rw [joinTo, hgd, hLk.out]
      rw [← hq] at hck hsum
      have s1 : str Lk ++ (⟨#[44]⟩ : ByteArray) = str (Lk ++ [44]) := str_append _ _
      have n1 : ¬ 9223372036854775807 < (str Lk).size + 1 := by rw [str_size]; omega
      have s2 : str (Lk ++ [44]) ++ str q = str (Lk ++ [44] ++ q) := str_append _ _
      have n2 : ¬ 9223372036854775807 < (str (Lk ++ [44])).size + (str q).size := by rw [str_size, str_size, List.length_append]; simp; omega
      have s3 : str Lk ++ str q = str (Lk ++ q) := str_append _ _
      have n3 : ¬ 9223372036854775807 < (str Lk).size + (str q).size := by rw [str_size, str_size]; omega
      obtain ⟨La, ha⟩ : ∃ La, La = Lk ++ [44] := ⟨_, rfl⟩
      rw [← ha] at s1 s2 n2
      obtain ⟨Lb, hb⟩ : ∃ Lb, Lb = La ++ q := ⟨_, rfl⟩
      rw [← hb] at s2
      obtain ⟨Lc, hc⟩ : ∃ Lc, Lc = Lk ++ q := ⟨_, rfl⟩
      rw [← hc] at s3
      by_cases h0 : 0 < k
      · have hnx : Hid (Lb = joinTo nm ps (k + 1)) := by show _ = _; rw [hjs.out, if_pos h0, hb, ha]
        have hk0 : (0 : Int) < (k : Int) := by omega
        clear hcs hq hgd ha hb hc s3 n3
        go_wp2
        go_roundw
        case rel => exact ⟨k + 1, by omega, by go_num, trivial, _, rfl, hnx.out⟩
        case measure => simp [intOf]; omega
      · have hnx : Hid (Lc = joinTo nm ps (k + 1)) := by show _ = _; rw [hjs.out, if_neg h0, hc]; simp
        have hk0 : ¬ (0 : Int) < (k : Int) := by omega
        clear hcs hq hgd ha hb hc s1 s2 n1 n2
        go_wp2
        go_roundw
        case rel => exact ⟨k + 1, by omega, by go_num, trivial, _, rfl, hnx.out⟩
        case measure => simp [intOf]; omega
    · have hke : k = ps.length := by omega
      have hfin : Hid (Lk ++ [41] = callL nm ps) := by show _ = _; rw [hLk.out, hke]; exact joinTo_all nm ps
      have hsum := sum_take_le' (ps.map List.length) k
      have s1 : str Lk ++ (⟨#[41]⟩ : ByteArray) = str (Lk ++ [41]) := str_append _ _
      have n1 : ¬ 9223372036854775807 < (str Lk).size + 1 := by rw [str_size]; omega
      obtain ⟨La, ha⟩ : ∃ La, La = Lk ++ [41] := ⟨_, rfl⟩
      rw [← ha] at s1 hfin
      have hki : ¬ ((k : Int) < (ps.length : Int)) := by omega
      clear ha
      go_wp2
      go_ret
      exact ⟨by rw [hfin.out]; rfl, rfl⟩

theorem allV_all {ps : List (List UInt8)} (h : ∀ j, ∀ hj : j < ps.length, (parseT ps[j]).isSome = true) : allV ps = true := by
  unfold allV
  rw [List.all_eq_true]
  intro p hp
  obtain ⟨j, hj, rfl⟩ := List.getElem_of_mem hp
  exact h j hj
theorem allV_not {ps : List (List UInt8)} {j : Nat} (hj : j < ps.length) (h : (parseT ps[j]).isSome = false) : allV ps = false := by
  unfold allV
  rw [List.all_eq_false]
  exact ⟨ps[j], List.getElem_mem hj, by rw [h]; simp⟩

end Go.Proofs.YtgkfddhhkjblgaaGreatDoor

