/-
  The contract of the model's PutLiteral.
-/
import Derived.Test.YtcecljolnknapaaDoorPud
import Derived.Test.YtcecljolnknapaaDoorTxs
import Derived.Test.YtcecljolnknapaaDoorSe6
import Derived.Test.YtcecljolnknapaaDoorDet
import Derived.Laws.DeepStrings4
namespace Go.Proofs.YtcecljolnknapaaDoor
open Go.RowKit

def putF (L : List UInt8) (k v : Int) (p : Nat) : List UInt8 := L.take (p - 1) ++ (dg k ++ [58] ++ dg v) ++ L.drop (p + 2)
def okP (L : List UInt8) (k v : Int) : Bool := (parseT L).isSome && inDig k && inDig v
theorem putV_eq (L : List UInt8) (i k v : Int) : putV L i k v = if okP L k v = true then (findC i L 0 0).map (putF L k v) else none := rfl
theorem slice_low (s : ByteArray) (j : Nat) (hj : j ≤ s.size) (y : Int) (hy : y = j) (w : World) : (Instr.slice 9 (.string s) none (some (.int .i64 y)) none).run Tryd.prog w = .ok (.string (s.extract 0 j)) w := by
  subst hy
  simp [Instr.slice, Instr.sliceBounds, Instr.sliceBound, asIntOf, run_underlying Tryd.underlying9, hj]
theorem slice_high (s : ByteArray) (j : Nat) (hj : j ≤ s.size) (y : Int) (hy : y = j) (w : World) : (Instr.slice 9 (.string s) (some (.int .i64 y)) none none).run Tryd.prog w = .ok (.string (s.extract j s.size)) w := by
  subst hy
  simp [Instr.slice, Instr.sliceBounds, Instr.sliceBound, asIntOf, run_underlying Tryd.underlying9, hj]
theorem str_take (L : List UInt8) (j : Nat) : (str L).extract 0 j = str (L.take j) := by
  apply ByteArray.ext
  simp [str, ByteArray.data_extract, List.extract_eq_take_drop]
theorem str_drop (L : List UInt8) (j : Nat) : (str L).extract j (str L).size = str (L.drop j) := by
  apply ByteArray.ext
  rw [str_size]
  simp [str, ByteArray.data_extract, List.extract_eq_take_drop]
  rw [List.take_of_length_le (by rw [List.length_drop]; omega)]
abbrev putE (o : Option (List UInt8)) : Ending := .returned (.tuple #[.string (str (o.getD [])), .bool o.isSome])

set_option maxRecDepth 100000 in
set_option maxHeartbeats 8000000 in
theorem specPut_any (L : List UInt8) (hL : L.length ≤ 1048576) (i k v : Int) (w : World) :
    Calls Tryd.prog 37 #[.string (str L), .int .i64 i, .int .i64 k, .int .i64 v] w fun e w' => e = putE (putV L i k v) ∧ Below w.heap.size w w' := by
  have hsz := str_size L
  have hput := Lib.hid (putV_eq L i k v)
  obtain ⟨W, hW⟩ : ∃ W, W = putV L i k v := ⟨_, rfl⟩
  rw [← hW] at hput ⊢
  clear hW
  go_enter Tryd.func37, Tryd.ntmps37
  go_wp2_with fail
  go_loopw [10, 14] (fun s x wr => ∃ (n q : Nat), q ≤ L.length ∧ n ≤ q ∧ x = .int .i64 q ∧ s = .int .i64 n ∧ wr = w ∧ Hid (W = if okP L k v = true then (findC i (L.drop q) q n).map (putF L k v) else none)) (fun _ x _ => L.length - (intOf x).toNat)
  case atStart => exact ⟨0, 0, Nat.zero_le _, Nat.le_refl _, rfl, rfl, rfl, by show _ = _; rw [hput.out]; rfl⟩
  case round =>
    obtain ⟨n, q, hq, hnq, rfl, rfl, rfl, hrel2⟩ := hrel
    by_cases hql : q < L.length
    · obtain ⟨c, r, hdq, b0, hdr⟩ := drop1 (L := L) (q := q) hql
      have q58 : ((c.toNat : Int) == 58) = decide (c = 58) := cut_eq c 58
      rw [hdq] at hrel2
      by_cases hc : c = 58
      · have n58 : ((c.toNat : Int) != 58) = false := by subst hc; rfl
        rw [findC, if_pos hc] at hrel2
        clear q58
        by_cases hni : (n : Int) = i
        · have hni2 : ((n : Int) == i) = true := by simpa using hni
          have HT := Lib.hid (specTermValid_any L hL wr)
          rw [if_pos hni] at hrel2
          cases hT : (parseT L).isSome with
          | false =>
            have hnx : Hid (W = if okP L k v = true then (findC i (L.drop (q + 1)) (q + 1) ((n + 1 : Nat) : Int)).map (putF L k v) else none) := by show _ = _; rw [hrel2.out, show okP L k v = false by unfold okP; rw [hT]; rfl]; rfl
            rw [hT] at HT
            clear hrel2 hdq hdr hc hni hT
            go_wp2_with (first | (go_at_call 16; refine HT.out.mono ?_; rintro e w1 ⟨rfl, rfl⟩))
            go_roundw
            case rel => exact ⟨n + 1, q + 1, by omega, by omega, by go_num, by go_num, trivial, hnx.out⟩
            case measure => simp [intOf]; omega
          | true =>
            rw [hT] at HT
            cases hk : inB k 0 9 with
            | false =>
              have hnx : Hid (W = if okP L k v = true then (findC i (L.drop (q + 1)) (q + 1) ((n + 1 : Nat) : Int)).map (putF L k v) else none) := by show _ = _; rw [hrel2.out, show okP L k v = false by unfold okP; rw [show inDig k = false from hk]; simp]; rfl
              clear hrel2 hdq hdr hc hni hT
              go_wp2_with (first | (go_at_call 16; refine HT.out.mono ?_; rintro e w1 ⟨rfl, rfl⟩) | (go_at_call 62; refine (l1In_any _ _ _ _).mono ?_; rintro e w1 ⟨rfl, rfl⟩; rw [hk]))
              go_roundw
              case rel => exact ⟨n + 1, q + 1, by omega, by omega, by go_num, by go_num, trivial, hnx.out⟩
              case measure => simp [intOf]; omega
            | true =>
              cases hv : inB v 0 9 with
              | false =>
                have hnx : Hid (W = if okP L k v = true then (findC i (L.drop (q + 1)) (q + 1) ((n + 1 : Nat) : Int)).map (putF L k v) else none) := by show _ = _; rw [hrel2.out, show okP L k v = false by unfold okP; rw [show inDig v = false from hv]; simp]; rfl
                clear hrel2 hdq hdr hc hni hT
                go_wp2_with (first | (go_at_call 16; refine HT.out.mono ?_; rintro e w1 ⟨rfl, rfl⟩) | (go_at_call 62; refine (l1In_any _ _ _ _).mono ?_; rintro e w1 ⟨rfl, rfl⟩; first | rw [hk] | rw [hv]))
                go_roundw
                case rel => exact ⟨n + 1, q + 1, by omega, by omega, by go_num, by go_num, trivial, hnx.out⟩
                case measure => simp [intOf]; omega
              | true =>
                have hok : okP L k v = true := by unfold okP; rw [hT, show inDig k = true from hk, show inDig v = true from hv]; rfl
                have hWs : Hid (W = some (putF L k v q)) := by show _ = _; rw [hrel2.out, if_pos hok]; rfl
                have hqi : 1 ≤ q ∧ q + 2 ≤ L.length := by
                  obtain ⟨t, ht⟩ := Option.isSome_iff_exists.1 hT
                  obtain ⟨ho, e, _⟩ := parseT_tmT.1 ht
                  have h2 : L[q]? = some 58 := by
                    have h3 := congrArg (fun l => l[0]?) hdq
                    simp only [List.getElem?_drop, Nat.add_zero, List.getElem?_cons_zero] at h3
                    rw [h3, hc]
                  rw [e] at h2 ⊢
                  exact colon_in t ho q h2
                obtain ⟨hq1, hq2⟩ := hqi
                have hkd := Lib.hid (inDig_of (show inDig k = true from hk))
                have hvd := Lib.hid (inDig_of (show inDig v = true from hv))
                have hs1 : ∀ w : World, (Instr.slice 9 (.string (str L)) none (some (.int .i64 ((q : Int) - 1))) none).run Tryd.prog w = .ok (.string (str (L.take (q - 1)))) w := fun w => by rw [slice_low (str L) (q - 1) (by rw [hsz]; omega) ((q : Int) - 1) (by omega) w, str_take]
                have hs2 : ∀ w : World, (Instr.slice 9 (.string (str L)) (some (.int .i64 ((q : Int) + 2))) none none).run Tryd.prog w = .ok (.string (str (L.drop (q + 2)))) w := fun w => by rw [slice_high (str L) (q + 2) (by rw [hsz]; omega) ((q : Int) + 2) (by omega) w, str_drop]
                clear hrel2 hdq hdr hc hni hT hok
                go_wp2_with (first | (go_at_call 16; refine HT.out.mono ?_; rintro e w1 ⟨rfl, rfl⟩) | (go_at_call 62; refine (l1In_any _ _ _ _).mono ?_; rintro e w1 ⟨rfl, rfl⟩; first | rw [hk] | rw [hv]))
                obtain ⟨La, la⟩ : ∃ M, M = L.take (q - 1) := ⟨_, rfl⟩
                obtain ⟨Lz, lz⟩ : ∃ M, M = L.drop (q + 2) := ⟨_, rfl⟩
                rw [← la] at hs1
                rw [← lz] at hs2
                obtain ⟨L1, l1⟩ : ∃ M, M = La ++ dg k := ⟨_, rfl⟩
                obtain ⟨L2, l2⟩ : ∃ M, M = L1 ++ [58] := ⟨_, rfl⟩
                obtain ⟨L3, l3⟩ : ∃ M, M = L2 ++ dg v := ⟨_, rfl⟩
                obtain ⟨L4, l4⟩ : ∃ M, M = L3 ++ Lz := ⟨_, rfl⟩
                have e4 : Hid (putF L k v q = L4) := by
                  show putF L k v q = L4
                  rw [l4, l3, l2, l1, la, lz]
                  simp [putF, List.append_assoc]
                have ka : La.length ≤ L.length := by rw [la, List.length_take]; omega
                have kz : Lz.length ≤ L.length := by rw [lz, List.length_drop]; omega
                have k1 : L1.length = La.length + 1 := by rw [l1]; simp [dg]
                have k2 : L2.length = L1.length + 1 := by rw [l2]; simp
                have k3 : L3.length = L2.length + 1 := by rw [l3]; simp [dg]
                have s1 : str La ++ str (dg k) = str L1 := by rw [l1]; exact str_append _ _
                have s2 : str L1 ++ (⟨#[58]⟩ : ByteArray) = str L2 := by rw [l2]; exact str_append _ _
                have s3 : str L2 ++ str (dg v) = str L3 := by rw [l3]; exact str_append _ _
                have s4 : str L3 ++ str Lz = str L4 := by rw [l4]; exact str_append _ _
                have n1 : ¬ 9223372036854775807 < (str La).size + (str (dg k)).size := by rw [str_size, str_size, show (dg k).length = 1 from rfl]; omega
                have n2 : ¬ 9223372036854775807 < (str L1).size + 1 := by rw [str_size]; omega
                have n3 : ¬ 9223372036854775807 < (str L2).size + (str (dg v)).size := by rw [str_size, str_size, show (dg v).length = 1 from rfl]; omega
                have n4 : ¬ 9223372036854775807 < (str L3).size + (str Lz).size := by rw [str_size, str_size]; omega
                have wq1 : IntKind.i64.wrap ((q : Int) - 1) = (q : Int) - 1 := by rw [IntKind.wrap_i64]; omega
                have wq2 : IntKind.i64.wrap ((q : Int) + 2) = (q : Int) + 2 := by rw [IntKind.wrap_i64]; omega
                clear la lz l1 l2 l3 l4 ka kz k1 k2 k3 hk hv
                refine wp_region_inv (by kernel_rfl) (fun dn a u => ∃ x36 x37 x38 x39 x40 x41 x42 x43 x44 x45 x46 x47 x48 x49 x50 x51 x8 x9, a = ⟨#[.string (str L), .int .i64 i, .int .i64 k, .int .i64 v, undef, undef, undef, undef, x8, x9, .int .i64 n, .int .i64 q, .string (str L), .int .i64 L.length, .int .i64 q, .bool true, .int .i64 q, .string (str L), .int .i64 q, .int .u8 c.toNat, .bool false, .int .i64 n, .int .i64 i, .bool true, .bool true, .string (str L), .bool true, .bool true, .bool true, .int .i64 k, .bool true, .bool true, .bool true, .int .i64 v, .bool true, .bool true, x36, x37, x38, x39, x40, x41, x42, x43, x44, x45, x46, x47, x48, x49, x50, x51, u52, u53, u54], []⟩ ∧ Det (w1.heap.size) (w1) [.string (str L), .int .i64 q, .int .i64 ((q : Int) - 1), .string (str La), .int .i64 k, .string (str (dg k)), .string (str L1), .string (str L2), .int .i64 v, .string (str (dg v)), .string (str L3), .string (str L), .int .i64 q, .int .i64 ((q : Int) + 2), .string (str Lz), .string (str L4), .string (str L4), .bool true] dn [x36, x37, x38, x39, x40, x41, x42, x43, x44, x45, x46, x47, x48, x49, x50, x51, x8, x9] u) (of_decide_eq_true (by kernel_rfl)) ⟨_, _, _, _, _, _, _, _, _, _, _, _, _, _, _, _, _, _, rfl, Det.start (Nat.le_refl _) (by rfl)⟩ ?_ ?_
                · rintro dn a u i o ho hfi hdep ⟨x36, x37, x38, x39, x40, x41, x42, x43, x44, x45, x46, x47, x48, x49, x50, x51, x8, x9, rfl, hF⟩
                  have hil : i < 18 := by have := (Array.getElem?_eq_some_iff.1 ho).1; simpa using this
                  obtain rfl | rfl | rfl | rfl | rfl | rfl | rfl | rfl | rfl | rfl | rfl | rfl | rfl | rfl | rfl | rfl | rfl | rfl : i = 0 ∨ i = 1 ∨ i = 2 ∨ i = 3 ∨ i = 4 ∨ i = 5 ∨ i = 6 ∨ i = 7 ∨ i = 8 ∨ i = 9 ∨ i = 10 ∨ i = 11 ∨ i = 12 ∨ i = 13 ∨ i = 14 ∨ i = 15 ∨ i = 16 ∨ i = 17 := by omega
                  all_goals
                    obtain rfl := Option.some.inj ho
                    refine wpOp_step ho fun K hK => ?_
                    simp [Region.binds] at hdep
                    clear ho
                  · refine det_yes rfl ?_
                    have HF := Lib.hid hF
                    clear hF
                    unfold Oper.wp
                    go_simp
                    exact hK _ _ ⟨_, _, _, _, _, _, _, _, _, _, _, _, _, _, _, _, _, _, rfl, HF.out.same 0 rfl⟩
                  · refine det_yes rfl ?_
                    have HF := Lib.hid hF
                    clear hF
                    unfold Oper.wp
                    go_simp
                    exact hK _ _ ⟨_, _, _, _, _, _, _, _, _, _, _, _, _, _, _, _, _, _, rfl, HF.out.same 1 rfl⟩
                  · obtain rfl := hF.get 1 (by simp [hdep]) rfl rfl
                    refine det_yes rfl ?_
                    have HF := Lib.hid hF
                    clear hF
                    unfold Oper.wp
                    go_simp
                    exact hK _ _ ⟨_, _, _, _, _, _, _, _, _, _, _, _, _, _, _, _, _, _, rfl, HF.out.same 2 rfl⟩
                  · obtain rfl := hF.get 0 (by simp [hdep]) rfl rfl
                    obtain rfl := hF.get 2 (by simp [hdep]) rfl rfl
                    refine det_yes rfl ?_
                    have HF := Lib.hid hF
                    clear hF
                    unfold Oper.wp
                    go_simp
                    exact hK _ _ ⟨_, _, _, _, _, _, _, _, _, _, _, _, _, _, _, _, _, _, rfl, HF.out.same 3 rfl⟩
                  · refine det_yes rfl ?_
                    have HF := Lib.hid hF
                    clear hF
                    unfold Oper.wp
                    go_simp
                    exact hK _ _ ⟨_, _, _, _, _, _, _, _, _, _, _, _, _, _, _, _, _, _, rfl, HF.out.same 4 rfl⟩
                  · obtain rfl := hF.get 4 (by simp [hdep]) rfl rfl
                    refine det_yes rfl ?_
                    have HF := Lib.hid hF
                    clear hF
                    unfold Oper.wp
                    go_simp
                    refine (specDec_any _ hkd.out u).mono ?_
                    rintro e u2 ⟨rfl, hb2⟩
                    exact hK _ _ ⟨_, _, _, _, _, _, _, _, _, _, _, _, _, _, _, _, _, _, rfl, HF.out.step 5 rfl (hb2.mono (by have h := HF.out.bel.size; (try simp only [World.size_alloc] at h); omega))⟩
                  · obtain rfl := hF.get 3 (by simp [hdep]) rfl rfl
                    obtain rfl := hF.get 5 (by simp [hdep]) rfl rfl
                    refine det_yes rfl ?_
                    have HF := Lib.hid hF
                    clear hF
                    unfold Oper.wp
                    go_simp
                    exact hK _ _ ⟨_, _, _, _, _, _, _, _, _, _, _, _, _, _, _, _, _, _, rfl, HF.out.same 6 rfl⟩
                  · obtain rfl := hF.get 6 (by simp [hdep]) rfl rfl
                    refine det_yes rfl ?_
                    have HF := Lib.hid hF
                    clear hF
                    unfold Oper.wp
                    go_simp
                    exact hK _ _ ⟨_, _, _, _, _, _, _, _, _, _, _, _, _, _, _, _, _, _, rfl, HF.out.same 7 rfl⟩
                  · refine det_yes rfl ?_
                    have HF := Lib.hid hF
                    clear hF
                    unfold Oper.wp
                    go_simp
                    exact hK _ _ ⟨_, _, _, _, _, _, _, _, _, _, _, _, _, _, _, _, _, _, rfl, HF.out.same 8 rfl⟩
                  · obtain rfl := hF.get 8 (by simp [hdep]) rfl rfl
                    refine det_yes rfl ?_
                    have HF := Lib.hid hF
                    clear hF
                    unfold Oper.wp
                    go_simp
                    refine (specDec_any _ hvd.out u).mono ?_
                    rintro e u2 ⟨rfl, hb2⟩
                    exact hK _ _ ⟨_, _, _, _, _, _, _, _, _, _, _, _, _, _, _, _, _, _, rfl, HF.out.step 9 rfl (hb2.mono (by have h := HF.out.bel.size; (try simp only [World.size_alloc] at h); omega))⟩
                  · obtain rfl := hF.get 7 (by simp [hdep]) rfl rfl
                    obtain rfl := hF.get 9 (by simp [hdep]) rfl rfl
                    refine det_yes rfl ?_
                    have HF := Lib.hid hF
                    clear hF
                    unfold Oper.wp
                    go_simp
                    exact hK _ _ ⟨_, _, _, _, _, _, _, _, _, _, _, _, _, _, _, _, _, _, rfl, HF.out.same 10 rfl⟩
                  · refine det_yes rfl ?_
                    have HF := Lib.hid hF
                    clear hF
                    unfold Oper.wp
                    go_simp
                    exact hK _ _ ⟨_, _, _, _, _, _, _, _, _, _, _, _, _, _, _, _, _, _, rfl, HF.out.same 11 rfl⟩
                  · refine det_yes rfl ?_
                    have HF := Lib.hid hF
                    clear hF
                    unfold Oper.wp
                    go_simp
                    exact hK _ _ ⟨_, _, _, _, _, _, _, _, _, _, _, _, _, _, _, _, _, _, rfl, HF.out.same 12 rfl⟩
                  · obtain rfl := hF.get 12 (by simp [hdep]) rfl rfl
                    refine det_yes rfl ?_
                    have HF := Lib.hid hF
                    clear hF
                    unfold Oper.wp
                    go_simp
                    exact hK _ _ ⟨_, _, _, _, _, _, _, _, _, _, _, _, _, _, _, _, _, _, rfl, HF.out.same 13 rfl⟩
                  · obtain rfl := hF.get 11 (by simp [hdep]) rfl rfl
                    obtain rfl := hF.get 13 (by simp [hdep]) rfl rfl
                    refine det_yes rfl ?_
                    have HF := Lib.hid hF
                    clear hF
                    unfold Oper.wp
                    go_simp
                    exact hK _ _ ⟨_, _, _, _, _, _, _, _, _, _, _, _, _, _, _, _, _, _, rfl, HF.out.same 14 rfl⟩
                  · obtain rfl := hF.get 10 (by simp [hdep]) rfl rfl
                    obtain rfl := hF.get 14 (by simp [hdep]) rfl rfl
                    refine det_yes rfl ?_
                    have HF := Lib.hid hF
                    clear hF
                    unfold Oper.wp
                    go_simp
                    exact hK _ _ ⟨_, _, _, _, _, _, _, _, _, _, _, _, _, _, _, _, _, _, rfl, HF.out.same 15 rfl⟩
                  · obtain rfl := hF.get 15 (by simp [hdep]) rfl rfl
                    refine det_yes rfl ?_
                    have HF := Lib.hid hF
                    clear hF
                    unfold Oper.wp
                    go_simp
                    exact hK _ _ ⟨_, _, _, _, _, _, _, _, _, _, _, _, _, _, _, _, _, _, rfl, HF.out.same 16 rfl⟩
                  · refine det_yes rfl ?_
                    have HF := Lib.hid hF
                    clear hF
                    unfold Oper.wp
                    go_simp
                    exact hK _ _ ⟨_, _, _, _, _, _, _, _, _, _, _, _, _, _, _, _, _, _, rfl, HF.out.same 17 rfl⟩
                · rintro dn a u hall ⟨x36, x37, x38, x39, x40, x41, x42, x43, x44, x45, x46, x47, x48, x49, x50, x51, x8, x9, rfl, hF⟩
                  have hall2 := hF.all (n := 18) rfl hall
                  simp only [List.cons.injEq] at hall2
                  obtain ⟨rfl, rfl, rfl, rfl, rfl, rfl, rfl, rfl, rfl, rfl, rfl, rfl, rfl, rfl, rfl, rfl, rfl, rfl, _⟩ := hall2
                  have HB := Lib.hid hF.bel
                  clear hF hall s1 s2 s3 s4 n1 n2 n3 n4 hs1 hs2
                  go_wp2
                  refine bodyPost_ret (v := .tuple #[.string (str L4), .bool true]) (by simp [results, Tryd.results37, go_sem]) rfl ?_
                  exact ⟨by rw [hWs.out, e4.out]; rfl, HB.out⟩
        · have hni2 : ((n : Int) == i) = false := by simpa using hni
          have hnx : Hid (W = if okP L k v = true then (findC i (L.drop (q + 1)) (q + 1) ((n + 1 : Nat) : Int)).map (putF L k v) else none) := by show _ = _; rw [hrel2.out, if_neg hni, hdr]; rfl
          clear hrel2 hdq hdr hc hni
          go_wp2
          go_roundw
          case rel => exact ⟨n + 1, q + 1, by omega, by omega, by go_num, by go_num, trivial, hnx.out⟩
          case measure => simp [intOf]; omega
      · have n58 : ((c.toNat : Int) != 58) = true := by simp only [bne, q58, show decide (c = 58) = false by simpa using hc]; rfl
        have hnx : Hid (W = if okP L k v = true then (findC i (L.drop (q + 1)) (q + 1) (n : Int)).map (putF L k v) else none) := by show _ = _; rw [hrel2.out, findC, if_neg hc, hdr]
        clear hrel2 hdq hdr hc q58
        go_wp2
        go_roundw
        case rel => exact ⟨n, q + 1, by omega, by omega, by go_num, by go_num, trivial, hnx.out⟩
        case measure => simp [intOf]; omega
    · have hke : q = L.length := by omega
      have hWn : Hid (W = none) := by show _ = _; rw [hrel2.out, hke, List.drop_length]; simp [findC]
      have hki : ¬ ((q : Int) < (L.length : Int)) := by omega
      clear hrel2
      go_wp2
      refine bodyPost_ret (v := .tuple #[.string ⟨#[]⟩, .bool false]) (by simp [results, Tryd.results37, go_sem]) rfl ?_
      exact ⟨by rw [hWn.out]; rfl, Below.refl _ _⟩
end Go.Proofs.YtcecljolnknapaaDoor
