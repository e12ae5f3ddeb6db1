/-
  The contracts of strconv.Itoa and strings.Join at this program's numbers; of isDigit; of a literal's text.
  The error of reading texts stays where it is.
  The contracts of the program's callText, CallTerm.
  The contracts of the program's textsOf and of a call's text.
-/
import Derived.Test.YthldlbbkbbgdkaaGreatDoorK2
import Derived.Test.YthldlbbkbbgdkaaGreatDoorLay
import Derived.BigQuiet
import Derived.Test.YthldlbbkbbgdkaaGreatDoorK6
import Derived.Test.YthldlbbkbbgdkaaGreatDoorZ1
import Derived.Test.YthldlbbkbbgdkaaGreatDoorK3
namespace Go.Proofs.YthldlbbkbbgdkaaGreatDoor
open Go.RowKit

theorem layJ : Builder.Extra Tryz.prog lays156_ren := {
  sizeBuilder := by kernel_rfl
  liesBuilder := by kernel_rfl
  t5 := Tryz.underlying5
  a5 := Tryz.isAgg5
  z5 := Tryz.sizeOf5
  v5 := Tryz.zeroValue5
  infoByte := by kernel_rfl
  cellsByte := by kernel_rfl
  sizeByte := by kernel_rfl
  neB5 := by decide }
theorem itoa_dig (z : Int) (hz : Dig z) (w : World) :
    Calls Tryz.prog 116 #[.int .i64 z] w fun e w' => e = .returned (.string (str (dg z))) ∧ w' = w := by
  obtain ⟨h0, h9⟩ := hz
  obtain ⟨n, rfl⟩ : ∃ n : Nat, z = n := ⟨z.toNat, by omega⟩
  refine (Any.strconv_Itoa_small { lays171 with } n (by omega) w).mono ?_
  rintro e w' ⟨rfl, rfl⟩
  refine ⟨?_, rfl⟩
  rw [dg_dec (by omega)]
  rfl
/-- strings.Join, a comma between. -/
theorem join_comma (b c : Nat) (ps : List (List UInt8)) (w : World) (hcells : ∀ j, ∀ (hj : j < ps.length), w.cell? ⟨b, j, none⟩ = some (.string (str ps[j]))) (hb : b < w.heap.size) (hn : ps.length ≤ 1048576) (hc : ps.length ≤ c) (hl : (Lib.join ps [44]).length ≤ 1048576) :
    Calls Tryz.prog 254 #[.slice (some ⟨b, 0, none⟩) ps.length c, .string ⟨#[44]⟩] w fun e w' => e = .returned (.string (str (Lib.join ps [44]))) ∧ Below w.heap.size w w' := by
  have hm : (ps.map fun z => str z).map (·.data.toList) = ps := by
    rw [List.map_map]
    simp [str, Function.comp_def]
  have h := Any.strings_Join lays156 layJ b 0 c (ps.map fun z => str z) ⟨#[44]⟩ w (fun j x hx => by
    rw [List.getElem?_map] at hx
    obtain ⟨z, hz, rfl⟩ := Option.map_eq_some_iff.1 hx
    obtain ⟨hj, rfl⟩ := List.getElem?_eq_some_iff.1 hz
    rw [Nat.zero_add]
    exact hcells j hj) hb (by rw [List.length_map]; omega) (by rw [List.length_map]; exact hc) (by rw [hm]; show (Lib.join ps [44]).length ≤ _; omega)
  rw [List.length_map, hm] at h
  refine Calls.mono h ?_
  rintro e w' ⟨rfl, hb'⟩
  exact ⟨rfl, hb'⟩

set_option maxRecDepth 100000 in
set_option maxHeartbeats 1000000 in
theorem litText_any (k v : Int) (hk : Dig k) (hv : Dig v) (w : World) :
    Calls Tryz.prog 287 #[.agg #[.int .i64 k, .int .i64 v]] w fun e w' => e = .returned (.string (str (dg k ++ [58] ++ dg v))) ∧ Below w.heap.size w w' := by
  have HB := Lib.hid ((Below.refl w.heap.size w).alloc (Nat.le_refl _) (.cells #[.int .i64 k, .int .i64 v] 201))
  have r2 := Row.new w 201 [.int .i64 k, .int .i64 v]
  have m0 := r2.cell 0
  have m1 := r2.cell 1
  simp only [List.getElem?_cons_zero, List.getElem?_cons_succ] at m0 m1
  have s1 : str (dg k) ++ (⟨#[58]⟩ : ByteArray) = str (dg k ++ [58]) := str_append _ _
  have s2 : str (dg k ++ [58]) ++ str (dg v) = str (dg k ++ [58] ++ dg v) := str_append _ _
  obtain ⟨L2, l2⟩ : ∃ L, L = dg k ++ [58] := ⟨_, rfl⟩
  obtain ⟨L3, l3⟩ : ∃ L, L = L2 ++ dg v := ⟨_, rfl⟩
  rw [← l2] at s1 s2 ⊢
  rw [← l3] at s2 ⊢
  have n1 : ¬ 9223372036854775807 < (str (dg k)).size + 1 := by rw [str_size, show (dg k).length = 1 from rfl]; omega
  have n2 : ¬ 9223372036854775807 < (str L2).size + (str (dg v)).size := by rw [str_size, str_size, l2, show (dg v).length = 1 from rfl]; simp [dg]
  have HK := Lib.hid hk
  have HV := Lib.hid hv
  clear r2 hk hv l2 l3
  go_enter Tryz.func287, Tryz.ntmps287
  go_wp2_with fail
  go_quiet ((first | (go_at_call 116; exact quiet_eq ((itoa_dig k HK.out _).mono fun _ _ h => ⟨h.1, h.2.symm⟩)) | (go_at_call 116; exact quiet_eq ((itoa_dig v HV.out _).mono fun _ _ h => ⟨h.1, h.2.symm⟩))))
  go_wp2
  go_ret
  exact ⟨rfl, below_drewN HB.out _⟩
end Go.Proofs.YthldlbbkbbgdkaaGreatDoor

namespace Go.Proofs.YthldlbbkbbgdkaaGreatDoor
open Go.RowKit

theorem Ev.under {w w' : World} {n : Nat} {a : Addr} (h : Ev w n a) (hb : Below w.heap.size w w') : Ev w' n a :=
  ⟨h.1, (World.cell?_of_block (w := w) (hb.block _ (World.block_lt_of_cell? _ _ h.2))).trans h.2⟩
end Go.Proofs.YthldlbbkbbgdkaaGreatDoor

namespace Go.Proofs.YthldlbbkbbgdkaaGreatDoor
open Go.RowKit

theorem joinS_len : ∀ (ps : List (List UInt8)), (Lib.join ps [44]).length ≤ bulkS ps
  | [] => by simp [Lib.join]
  | [p] => by rw [Lib.join_one]; simp [bulkS]
  | p :: q :: r => by
    have ih := joinS_len (q :: r)
    have e1 : Lib.join (p :: q :: r) [44] = p ++ ([44] ++ Lib.join (q :: r) [44]) := by
      simp only [Lib.join_cons]
      rfl
    rw [e1]
    unfold bulkS at ih ⊢
    simp only [List.length_append, List.length_cons, List.length_nil, List.map_cons, List.sum_cons] at ih ⊢
    omega
theorem joinS_any (v : Value) (ps : List (List UInt8)) (w : World) (hv : StrsAt w v ps) (hb : bulkS ps ≤ 4194304) :
    Calls Tryz.prog 254 #[v, .string ⟨#[44]⟩] w fun e w' => e = .returned (.string (str (Lib.join ps [44]))) ∧ Below w.heap.size w w' := by
  obtain ⟨A, c, rfl, hcap, hcells⟩ := hv
  have hl := joinS_len ps
  have hnp : ps.length ≤ 4194304 := by unfold bulkS at hb; omega
  by_cases h0 : 0 < ps.length
  · obtain ⟨g, off, rfl, hg, hcs⟩ := hcells h0
    have hm : (ps.map fun z => str z).map (·.data.toList) = ps := by
      rw [List.map_map]
      simp [str, Function.comp_def]
    have h := Any.strings_Join lays156 layJ g off c (ps.map fun z => str z) ⟨#[44]⟩ w (fun j x hx => by
      rw [List.getElem?_map] at hx
      obtain ⟨z, hz, rfl⟩ := Option.map_eq_some_iff.1 hx
      obtain ⟨hj, rfl⟩ := List.getElem?_eq_some_iff.1 hz
      exact hcs j hj) hg (by rw [List.length_map]; omega) (by rw [List.length_map]; exact hcap) (by rw [hm]; show (Lib.join ps [44]).length ≤ _; omega)
    rw [List.length_map, hm] at h
    refine Calls.mono h ?_
    rintro e w' ⟨rfl, hb'⟩
    exact ⟨rfl, hb'⟩
  · have e : ps = [] := List.eq_nil_of_length_eq_zero (by omega)
    subst e
    refine (Any.strings_Join_none lays156 layJ A c ⟨#[44]⟩ w).mono ?_
    rintro e w' ⟨rfl, rfl⟩
    exact ⟨rfl, Below.refl _ _⟩

set_option maxRecDepth 100000 in
set_option maxHeartbeats 1000000 in
theorem callText_any (nm : List UInt8) (v : Value) (ps : List (List UInt8)) (w : World) (hv : StrsAt w v ps) (hn : nm.length ≤ 4194304) (hb : bulkS ps ≤ 4194304) :
    Calls Tryz.prog 275 #[.string (str nm), v] w fun e w' => e = .returned (.string (str (callL nm ps))) ∧ Below w.heap.size w w' := by
  have HJ := Lib.hid (joinS_any v ps w hv hb)
  have hl := joinS_len ps
  have hcl : Hid (callL nm ps = nm ++ [40] ++ Lib.join ps [44] ++ [41]) := rfl
  obtain ⟨X, hX⟩ : ∃ X, X = callL nm ps := ⟨_, rfl⟩
  obtain ⟨J, hJ⟩ : ∃ J, J = Lib.join ps [44] := ⟨_, rfl⟩
  rw [← hX, ← hJ] at hcl
  rw [← hX]
  rw [← hJ] at HJ hl
  obtain ⟨L1, h1⟩ : ∃ L, L = nm ++ [40] := ⟨_, rfl⟩
  obtain ⟨L2, h2⟩ : ∃ L, L = L1 ++ J := ⟨_, rfl⟩
  obtain ⟨L3, h3⟩ : ∃ L, L = L2 ++ [41] := ⟨_, rfl⟩
  have s1 : str nm ++ (⟨#[40]⟩ : ByteArray) = str L1 := by rw [h1]; exact str_append _ _
  have s2 : str L1 ++ str J = str L2 := by rw [h2]; exact str_append _ _
  have s3 : str L2 ++ (⟨#[41]⟩ : ByteArray) = str L3 := by rw [h3]; exact str_append _ _
  have k1 : L1.length = nm.length + 1 := by rw [h1]; simp
  have k2 : L2.length = L1.length + J.length := by rw [h2]; simp
  have n1 : ¬ 9223372036854775807 < (str nm).size + 1 := by rw [str_size]; omega
  have n2 : ¬ 9223372036854775807 < (str L1).size + (str J).size := by rw [str_size, str_size]; omega
  have n3 : ¬ 9223372036854775807 < (str L2).size + 1 := by rw [str_size]; omega
  have hX3 : Hid (L3 = X) := by show _ = _; rw [h3, h2, h1, hcl.out]
  clear h1 h2 h3 hX hJ hcl k1 k2 hl hv
  go_enter Tryz.func275, Tryz.ntmps275
  go_wp2_with fail
  refine HJ.out.mono ?_
  rintro e w1 ⟨rfl, hb1⟩
  have HB := Lib.hid hb1
  clear hb1
  go_wp2
  go_ret
  exact ⟨by rw [hX3.out]; rfl, HB.out⟩

set_option maxRecDepth 100000 in
set_option maxHeartbeats 4000000 in
theorem readTerm_long (l : List UInt8) (w : World) (h60 : ¬ l.length ≤ 60) (hm : l.length ≤ 9223372036854775807) :
    Calls Tryz.prog 78 #[.string (str l)] w fun e w' => ReadPost l w e w' := by
  have hsz := str_size l
  have h1 : (60 : Int) < (l.length : Int) := by omega
  have hp : Hid (parseT l = none) := by show _ = _; unfold parseT; rw [if_neg h60]
  go_enter_defers Tryz.func78, Tryz.ntmps78
  go_wp2
  simp [bodyPostD, Leaves, results, Tryz.results78, go_sem]
  exact ⟨.inr ⟨hp.out, rfl⟩, Below.refl _ _⟩
set_option maxRecDepth 100000 in
set_option maxHeartbeats 1000000 in
theorem implTermValid_free (l : List UInt8) (n : Nat) (a : Addr) (w : World) (hv : Ev w n a) (hn : n ≤ w.heap.size) (hm : l.length ≤ 9223372036854775807) :
    Calls Tryz.prog 39 #[.string (str l)] w fun e w' => e = .returned (.bool (parseT l).isSome) ∧ Below w.heap.size w w' := by
  by_cases h60 : l.length ≤ 60
  · exact implTermValid_any l n a w hv hn (by omega)
  · have HR := Lib.hid (readTerm_long l w h60 hm)
    clear hv
    go_enter Tryz.func39, Tryz.ntmps39
    go_wp2_with fail
    refine HR.out.mono ?_
    rintro e w1 ⟨⟨t, o, hp, rfl, _⟩ | ⟨hp, rfl⟩, hb⟩
    · have HP := Lib.hid hp
      have HB := Lib.hid hb
      clear hp hb
      go_wp2
      go_ret
      exact ⟨by rw [HP.out]; rfl, HB.out⟩
    · have HP := Lib.hid hp
      have HB := Lib.hid hb
      clear hp hb
      go_wp2
      go_ret
      exact ⟨by rw [HP.out]; rfl, HB.out⟩

end Go.Proofs.YthldlbbkbbgdkaaGreatDoor

namespace Go.Proofs.YthldlbbkbbgdkaaGreatDoor
open Go.RowKit

theorem call_tmT {t : Tm} (h : isCallT t = true) : callL (headT t) ((partsT t).map tmT) = tmT t := by
  cases t with
  | lit k v => cases h
  | c0 n => rfl
  | c1 n a => simp [callL, headT, partsT, tmT, Lib.join_one]
  | c2 n a b => simp [callL, headT, partsT, tmT, Lib.join_cons, Lib.joinTail]
theorem Det.change {N : Nat} {w0 u : World} {Vs Vs' xs : List Value} {f : Nat → Bool} (h : Det N w0 Vs f xs u) (hl : Vs'.length = Vs.length) (hv : ∀ k, f k = true → Vs'[k]? = Vs[k]?) : Det N w0 Vs' f xs u :=
  ⟨h.bel, h.len.trans hl.symm, fun k hk => (h.at_ k hk).trans (hv k hk).symm⟩
/-- What textsOf makes of nodes. -/
def TextsOk (q : Nat) : Prop := ∀ (ts : List Tm) (B : Nat) (ps : Value) (vs : List Value) (w : World), ts.length ≤ 2 → (∀ t ∈ ts, TmOk t ∧ (tmT t).length ≤ q) → q ≤ 1048576 → w.ownsRow B 86 1 ps ts.length vs → NodesAt w B ts vs →
  Calls Tryz.prog 66 #[ps] w fun e w' => ∃ v, e = .returned v ∧ w'.ownsRow w.heap.size 9 1 v ts.length (strVs (ts.map tmT)) ∧ Below w.heap.size w w'
theorem nodes_below {w w' : World} {B : Nat} {ps : Value} {n : Nat} {ts : List Tm} {vs : List Value} (h1 : w.ownsRow B 86 1 ps n vs) (h2 : NodesAt w B ts vs) (hb : Below w.heap.size w w') : w'.ownsRow B 86 1 ps n vs ∧ NodesAt w' B ts vs :=
  ⟨own_same h1 fun g _ hg => hb.block g hg, h2.same fun g _ hg => hb.block g hg⟩

set_option maxRecDepth 100000 in
set_option maxHeartbeats 4000000 in
theorem callText2_any (q : Nat) (IH : TextsOk q) (t : Tm) (B : Nat) (ps : Value) (vs : List Value) (w : World) (hc : isCallT t = true) (ho : TmOk t) (hq : (tmT t).length ≤ q + 1) (hqm : q ≤ 1048576) (hown : w.ownsRow B 86 1 ps (partsT t).length vs) (hnod : NodesAt w B (partsT t) vs) :
    Calls Tryz.prog 274 #[.agg #[.string (str (headT t)), ps]] w fun e w' => e = .returned (.string (str (tmT t))) ∧ Below w.heap.size w w' := by
  obtain ⟨PA, PC, rfl⟩ := own_slice' hown
  obtain ⟨nm, hnm⟩ : ∃ nm, nm = headT t := ⟨_, rfl⟩
  obtain ⟨n, hn⟩ : ∃ n, n = (partsT t).length := ⟨_, rfl⟩
  have HT : Hid (∀ u, Below w.heap.size w u → Calls Tryz.prog 66 #[.slice PA n PC] u fun e w' => ∃ v, e = .returned v ∧ StrsAt w' v ((partsT t).map tmT) ∧ Below u.heap.size u w') := fun u hb => by
    obtain ⟨h1, h2⟩ := nodes_below hown hnod hb
    rw [hn]
    refine (IH (partsT t) B _ vs u (partsT_two t) (fun p hp => ⟨partsT_ok ho hp, by have := partsT_len hp; omega⟩) hqm h1 h2).mono ?_
    rintro e w' ⟨v, rfl, ho2, hb2⟩
    exact ⟨v, rfl, strsAt_own (by rw [List.length_map]; exact ho2), hb2⟩
  have hbk : bulkS ((partsT t).map tmT) ≤ 4194304 := by
    have e := call_tmT hc
    have h1 : ((partsT t).map tmT).length ≤ 2 := by rw [List.length_map]; exact partsT_two t
    have h2 : (((partsT t).map tmT).map List.length).sum ≤ (tmT t).length := by
      cases t with
      | lit k v => cases hc
      | c0 n => simp [partsT]
      | c1 n a => simp [partsT, tmT]; omega
      | c2 n a b => simp [partsT, tmT]; omega
    unfold bulkS
    omega
  have HJ : Hid (∀ u v, StrsAt u v ((partsT t).map tmT) → Calls Tryz.prog 275 #[.string (str nm), v] u fun e w' => e = .returned (.string (str (tmT t))) ∧ Below u.heap.size u w') := fun u v hv => by
    have h := callText_any nm v ((partsT t).map tmT) u hv (by rw [hnm]; cases t <;> simp [headT]) hbk
    rw [hnm, call_tmT hc] at h
    rw [hnm]
    exact h
  obtain ⟨PS, hPS⟩ : ∃ PS, PS = (partsT t).map tmT := ⟨_, rfl⟩
  obtain ⟨X, hX⟩ : ∃ X, X = tmT t := ⟨_, rfl⟩
  rw [← hPS] at HT HJ
  rw [← hX] at HJ
  rw [← hX, ← hnm, ← hn]
  have HB := Lib.hid ((Below.refl w.heap.size w).alloc (Nat.le_refl _) (.cells #[.string (str nm), .slice PA n PC] 110))
  have r2 := Row.new w 110 [.string (str nm), .slice PA n PC]
  have R2 := Lib.hid r2
  clear hX hPS hnm hn hown hnod IH hbk hq ho hc r2 hqm
  go_enter Tryz.func274, Tryz.ntmps274
  go_wp2_with fail
  have Hcf : Hid (∀ u, Below (w.heap.size + 1) (w.alloc (.cells #[.string (str nm), .slice PA n PC] 110)) u → u.cell? ⟨w.heap.size, 0, none⟩ = some (.string (str nm)) ∧ u.cell? ⟨w.heap.size, 1, none⟩ = some (.slice PA n PC)) := fun u hb =>
    ⟨(hb.cell (p := ⟨w.heap.size, 0, none⟩) (by dsimp only; omega)).trans (R2.out.cell 0), (hb.cell (p := ⟨w.heap.size, 1, none⟩) (by dsimp only; omega)).trans (R2.out.cell 1)⟩
  refine wp_region_inv (by kernel_rfl) (fun dn a u => ∃ v7 x2 x3 x4 x5 x6 x7 x8, a = ⟨#[.agg #[.string (str nm), .slice PA n PC], .pointer (some ⟨w.heap.size, 0, none⟩), x2, x3, x4, x5, x6, x7, x8], []⟩ ∧ Det (w.heap.size + 1) (w.alloc (.cells #[.string (str nm), .slice PA n PC] 110)) [.pointer (some ⟨w.heap.size, 0, none⟩), .string (str nm), .pointer (some ⟨w.heap.size, 1, none⟩), .slice PA n PC, v7, .string (str X), .string (str X)] dn [x3, x4, x5, x6, x7, x8, x2] u ∧ (dn 4 = true → StrsAt u v7 PS)) (of_decide_eq_true (by kernel_rfl)) ⟨.nilIface, _, _, _, _, _, _, _, rfl, Det.start (by simp) (by rfl), fun h => by cases h⟩ ?_ ?_
  · rintro dn a u i o ho hfi hdep ⟨v7, x2, x3, x4, x5, x6, x7, x8, rfl, hF, hP⟩
    have hil : i < 7 := by have := (Array.getElem?_eq_some_iff.1 ho).1; simpa using this
    obtain ⟨p0, p1⟩ := Hcf.out u hF.bel
    obtain rfl | rfl | rfl | rfl | rfl | rfl | rfl : i = 0 ∨ i = 1 ∨ i = 2 ∨ i = 3 ∨ i = 4 ∨ i = 5 ∨ i = 6 := by omega
    all_goals
      obtain rfl := Option.some.inj ho
      refine wpOp_step ho fun K hK => ?_
      simp [Region.binds] at hdep
      clear ho
    · refine det_yes rfl ?_
      have HF := Lib.hid hF
      have HP := Lib.hid hP
      clear hF hP
      unfold Oper.wp
      go_simp
      exact hK _ _ ⟨v7, _, _, _, _, _, _, _, rfl, HF.out.same 0 rfl, fun h => HP.out (by simpa using h)⟩
    · obtain rfl := hF.get 0 (by simp [hdep]) rfl rfl
      refine det_yes rfl ?_
      have HF := Lib.hid hF
      have HP := Lib.hid hP
      clear hF hP
      unfold Oper.wp
      go_simp
      exact hK _ _ ⟨v7, _, _, _, _, _, _, _, rfl, HF.out.same 1 rfl, fun h => HP.out (by simpa using h)⟩
    · refine det_yes rfl ?_
      have HF := Lib.hid hF
      have HP := Lib.hid hP
      clear hF hP
      unfold Oper.wp
      go_simp
      exact hK _ _ ⟨v7, _, _, _, _, _, _, _, rfl, HF.out.same 2 rfl, fun h => HP.out (by simpa using h)⟩
    · obtain rfl := hF.get 2 (by simp [hdep]) rfl rfl
      refine det_yes rfl ?_
      have HF := Lib.hid hF
      have HP := Lib.hid hP
      clear hF hP
      unfold Oper.wp
      go_simp
      exact hK _ _ ⟨v7, _, _, _, _, _, _, _, rfl, HF.out.same 3 rfl, fun h => HP.out (by simpa using h)⟩
    · obtain rfl := hF.get 3 (by simp [hdep]) rfl rfl
      refine det_yes rfl ?_
      have HF := Lib.hid hF
      have hbu := HB.out.trans (hF.bel.mono (by omega))
      clear hF hP
      unfold Oper.wp
      go_simp
      refine (HT.out u hbu).mono ?_
      rintro e u2 ⟨v, rfl, hs, hb2⟩
      exact hK _ _ ⟨v, _, _, _, _, _, _, _, rfl, (HF.out.change (Vs' := [.pointer (some ⟨w.heap.size, 0, none⟩), .string (str nm), .pointer (some ⟨w.heap.size, 1, none⟩), .slice PA n PC, v, .string (str X), .string (str X)]) rfl (fun k hk => by
        match k, hk with
        | 0, _ => rfl
        | 1, _ => rfl
        | 2, _ => rfl
        | 3, _ => rfl
        | 4, hk => rw [hk] at hfi; cases hfi
        | 5, _ => rfl
        | 6, _ => rfl
        | k + 7, _ => rfl)).step 4 rfl (hb2.mono (by have h := HF.out.bel.size; rw [World.size_alloc] at h; omega)), fun _ => hs⟩
    · obtain rfl := hF.get 1 (by simp [hdep]) rfl rfl
      obtain rfl := hF.get 4 (by simp [hdep]) rfl rfl
      refine det_yes rfl ?_
      have hs := hP (by simp [hdep])
      have HF := Lib.hid hF
      have HS := Lib.hid hs
      clear hF hP hs
      unfold Oper.wp
      go_simp
      refine (HJ.out u _ HS.out).mono ?_
      rintro e u2 ⟨rfl, hb2⟩
      exact hK _ _ ⟨_, _, _, _, _, _, _, _, rfl, HF.out.step 5 rfl (hb2.mono (by have h := HF.out.bel.size; rw [World.size_alloc] at h; omega)), fun _ => HS.out.below hb2⟩
    · obtain rfl := hF.get 5 (by simp [hdep]) rfl rfl
      refine det_yes rfl ?_
      have HF := Lib.hid hF
      have HP := Lib.hid hP
      clear hF hP
      unfold Oper.wp
      go_simp
      exact hK _ _ ⟨v7, _, _, _, _, _, _, _, rfl, HF.out.same 6 rfl, fun h => HP.out (by simpa using h)⟩
  · rintro dn a u hall ⟨v7, x2, x3, x4, x5, x6, x7, x8, rfl, hF, _⟩
    have hall2 := hF.all (n := 7) rfl hall
    simp only [List.cons.injEq] at hall2
    obtain ⟨rfl, rfl, rfl, rfl, rfl, rfl, rfl, _⟩ := hall2
    have HB2 := Lib.hid (HB.out.trans (hF.bel.mono (by omega)))
    clear hF hall
    go_wp2
    go_ret
    exact ⟨rfl, HB2.out⟩

theorem below_own2 {w w' w'' : World} {N : Nat} {t : TypeId} {v : Value} {n : Nat} {xs : List Value} (hb : Below N w w') (ho : w'.ownsRow N t 1 v n xs) (hg : w'.grownBy w'' v.ownBlock) (hs : N ≤ w'.heap.size) : Below N w w'' :=
  hb.grown hg hs (fun j hj => by
    obtain ⟨_, ⟨e, _⟩ | ⟨g, cap3, cur, e, hg', _⟩⟩ := ho
    · rw [e] at hj; simp [Value.ownBlock] at hj
    · rw [e] at hj; simp [Value.ownBlock] at hj; omega)

set_option maxRecDepth 100000 in
set_option maxHeartbeats 4000000 in
theorem texts_ok : ∀ q, TextsOk q := by
  intro q
  induction q with
  | zero =>
    intro ts B ps vs w h2 hok hqm hown hnod
    cases ts with
    | cons t ts =>
      obtain ⟨ho, hl⟩ := hok t (by simp)
      have := tmT_len ho
      omega
    | nil =>
      obtain ⟨PA, PC, rfl⟩ := own_slice' hown
      clear hok hnod hown
      go_enter Tryz.func66, Tryz.ntmps66
      go_wp2
      go_loopw [3, 8] (fun o i wr => o = .slice none 0 0 ∧ i = .int .i64 0 ∧ wr = w) (fun _ _ _ => 0)
      case atStart => exact ⟨rfl, rfl, rfl⟩
      case round =>
        obtain ⟨rfl, rfl, rfl⟩ := hrel
        go_wp2
        go_ret
        exact ⟨_, rfl, ⟨by simp [strVs], .inl ⟨rfl, rfl⟩⟩, Below.refl _ _⟩
  | succ q ih =>
    intro ts B ps vs w h2 hok hqm hown hnod
    obtain ⟨i0, hi0, hz0, hz1, hz2⟩ := info_parts (show (Tryz.prog.info? 9).map (fun i => (i.zero, i.size, i.bytes)) = some (some (.string ⟨#[]⟩), 1, 16) by kernel_rfl)
    obtain ⟨PA, PC, rfl⟩ := own_slice' hown
    have IH := Lib.hid ih
    have Hown := Lib.hid hown
    have Hnod := Lib.hid hnod
    have Hok := Lib.hid hok
    clear ih hown hnod hok
    go_enter Tryz.func66, Tryz.ntmps66
    go_wp2
    go_loopw [3, 8] (fun o i wr => ∃ k : Nat, k ≤ ts.length ∧ i = .int .i64 k ∧ Hid (Below w.heap.size w wr) ∧ Hid (wr.ownsRow w.heap.size 9 1 o k (strVs ((ts.map tmT).take k)))) (fun _ i _ => ts.length - (intOf i).toNat)
    case atStart => exact ⟨0, Nat.zero_le _, rfl, Below.refl _ _, ⟨by simp [strVs], .inl ⟨rfl, rfl⟩⟩⟩
    case round =>
      obtain ⟨k, hk, rfl, hbr, hor⟩ := hrel
      have hbs := hbr.out.size
      by_cases hkl : k < ts.length
      · obtain ⟨g, hPA, _, hgw, _, hcells⟩ := own_cells Hown.out (by omega)
        obtain ⟨v, hv, hnv⟩ := Hnod.out.at k hkl
        have hck : wr.cell? ⟨g, k, none⟩ = some v := (World.cell?_of_block (w := w) (hbr.out.block g hgw)).trans ((hcells k hkl).trans hv)
        obtain ⟨hok1, hlen1⟩ := Hok.out ts[k] (List.getElem_mem hkl)
        have hnv2 := hnv.same (w' := wr) fun g _ hg => hbr.out.block g hg
        subst hPA
        have HW : Hid (strVs ((ts.map tmT).take (k + 1)) = strVs ((ts.map tmT).take k) ++ [.string (str (tmT ts[k]))]) := by
          show _ = _
          rw [List.take_succ_eq_append_getElem (by simpa using hkl)]
          unfold strVs
          rw [List.map_append, List.getElem_map]
          rfl
        obtain ⟨T, hT⟩ : ∃ T, T = tmT ts[k] := ⟨_, rfl⟩
        cases hcc : isCallT ts[k] with
        | false =>
          obtain ⟨kk, vv, htk, rfl⟩ := hnv2.lit hcc
          rw [htk] at hok1
          have HD := Lib.hid hok1
          have hTe : Hid (T = dg kk ++ [58] ++ dg vv) := by show _ = _; rw [hT, htk]; rfl
          have HL : Hid (Calls Tryz.prog 287 #[.agg #[.int .i64 kk, .int .i64 vv]] wr fun e w' => e = .returned (.string (str T)) ∧ Below wr.heap.size wr w') := by show Calls _ _ _ _ _; rw [hTe.out]; exact litText_any kk vv HD.out.1 HD.out.2 wr
          have hmeth : ∀ u : World, (Go.method 459 201 (.agg #[.int .i64 kk, .int .i64 vv]) "loop.example/overloads/impl.text").run Tryz.prog u = .ok (287, (.agg #[.int .i64 kk, .int .i64 vv])) u := fun u => by kernel_rfl
          rw [← hT] at HW
          clear hcells hv hnv hnv2 hok1 hlen1 htk hcc hT
          go_wp2_with fail
          refine HL.out.mono ?_
          rintro e w1 ⟨rfl, hb1⟩
          have HB1 := Lib.hid (hbr.out.trans (hb1.mono hbr.out.size))
          have hs1 := HB1.out.size
          have Hor1 := Lib.hid (own_same hor.out fun g _ hg => hb1.block g hg)
          clear hb1
          go_wp2_with (at_builtin; refine wpList_append_own _ rfl (.tmp 12) (.tmp 15) 58 rfl w.heap.size 9 i0 (.string ⟨#[]⟩) 1 16 Tryz.underlying58 hi0 hz0 hz1 hz2 rfl (by decide) _ _ _ rfl (Hor1.out.alloc _) ⟨w1.heap.size, 0, none⟩ 1 1 [.string (str T)] rfl rfl ?c1 ?c2 ?c3 ?c4 ?c5 ?_)
          case c1 =>
            intro j u hj
            match j, hj with
            | 0, hj => simp at hj; subst hj; simp [Addr.add]
          case c2 => intro u hu; simp at hu; subst hu; rfl
          case c3 => unfold maxLen; omega
          case c4 => omega
          case c5 => simp; omega
          intro v2 w2 hown2 hgrow _
          have Hb2 := Lib.hid (below_own2 (HB1.out.alloc hs1 _) (Hor1.out.alloc _) hgrow (by simp; omega))
          have Hown2 := Lib.hid hown2
          clear hown2 hgrow
          go_wp2
          go_roundw
          case rel => exact ⟨k + 1, by omega, by go_num, Hb2.out, ownsRow_cast Hown2.out rfl HW.out.symm⟩
          case measure => simp [intOf]; omega
        | true =>
          obtain ⟨ps, vs1, rfl, hown1, hnods1⟩ := hnv2.open hcc
          have HL := callText2_any q IH.out ts[k] B ps vs1 wr hcc hok1 hlen1 (by omega) hown1 hnods1
          rw [← hT] at HL
          have HL := Lib.hid HL
          obtain ⟨nm, hnm⟩ : ∃ nm, nm = headT ts[k] := ⟨_, rfl⟩
          rw [← hnm] at HL hck
          have hmeth : ∀ u : World, (Go.method 459 110 (.agg #[.string (str nm), ps]) "loop.example/overloads/impl.text").run Tryz.prog u = .ok (274, (.agg #[.string (str nm), ps])) u := fun u => by kernel_rfl
          rw [← hT] at HW
          clear hcells hv hnv hnv2 hok1 hlen1 hcc hT hown1 hnods1 hnm
          go_wp2_with fail
          refine HL.out.mono ?_
          rintro e w1 ⟨rfl, hb1⟩
          have HB1 := Lib.hid (hbr.out.trans (hb1.mono hbr.out.size))
          have hs1 := HB1.out.size
          have Hor1 := Lib.hid (own_same hor.out fun g _ hg => hb1.block g hg)
          clear hb1
          go_wp2_with (at_builtin; refine wpList_append_own _ rfl (.tmp 12) (.tmp 15) 58 rfl w.heap.size 9 i0 (.string ⟨#[]⟩) 1 16 Tryz.underlying58 hi0 hz0 hz1 hz2 rfl (by decide) _ _ _ rfl (Hor1.out.alloc _) ⟨w1.heap.size, 0, none⟩ 1 1 [.string (str T)] rfl rfl ?c1 ?c2 ?c3 ?c4 ?c5 ?_)
          case c1 =>
            intro j u hj
            match j, hj with
            | 0, hj => simp at hj; subst hj; simp [Addr.add]
          case c2 => intro u hu; simp at hu; subst hu; rfl
          case c3 => unfold maxLen; omega
          case c4 => omega
          case c5 => simp; omega
          intro v2 w2 hown2 hgrow _
          have Hb2 := Lib.hid (below_own2 (HB1.out.alloc hs1 _) (Hor1.out.alloc _) hgrow (by simp; omega))
          have Hown2 := Lib.hid hown2
          clear hown2 hgrow
          go_wp2
          go_roundw
          case rel => exact ⟨k + 1, by omega, by go_num, Hb2.out, ownsRow_cast Hown2.out rfl HW.out.symm⟩
          case measure => simp [intOf]; omega
      · have hke : k = ts.length := by omega
        have hki : ¬ ((k : Int) < (ts.length : Int)) := by omega
        rw [hke, List.take_of_length_le (by simp)] at hor
        go_wp2
        go_ret
        exact ⟨_, rfl, hor.out, hbr.out⟩
end Go.Proofs.YthldlbbkbbgdkaaGreatDoor

