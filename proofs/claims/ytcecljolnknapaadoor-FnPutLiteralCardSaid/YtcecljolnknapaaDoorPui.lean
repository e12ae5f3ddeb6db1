/-
  The contract of the program's PutLiteral.
-/
import Derived.Test.YtcecljolnknapaaDoorPut
import Derived.Test.YtcecljolnknapaaDoorTrs
import Derived.Test.YtcecljolnknapaaDoorTxj
import Derived.Test.YtcecljolnknapaaDoorTrx
import Derived.Laws.RangeString
import Derived.Lib.OthersKept
namespace Go.Proofs.YtcecljolnknapaaDoor
open Go.RowKit Go.Lib

theorem isDigit_any (z : Int) (w : World) : Calls Tryd.prog 64 #[.int .i64 z] w fun e w' => e = .returned (.bool (inDig z)) ∧ w = w' := by
  by_cases h1 : 0 ≤ z
  · by_cases h2 : z ≤ 9
    · have hv : Hid (inDig z = true) := by show _ = _; simp [inDig, h1, h2]
      go_enter Tryd.func64, Tryd.ntmps64
      go_wp2
      go_ret
      exact ⟨by rw [hv.out]; rfl, rfl⟩
    · have hv : Hid (inDig z = false) := by show _ = _; simp [inDig, h2]
      go_enter Tryd.func64, Tryd.ntmps64
      go_wp2
      go_ret
      exact ⟨by rw [hv.out]; rfl, rfl⟩
  · have hv : Hid (inDig z = false) := by show _ = _; simp [inDig, h1]
    go_enter Tryd.func64, Tryd.ntmps64
    go_wp2
    go_ret
    exact ⟨by rw [hv.out]; rfl, rfl⟩
def iterPos (b : Nat) (w : World) : Nat := match w.heap[b]? with
  | some (.stringIter _ p) => p
  | _ => 0

set_option maxRecDepth 100000 in
set_option maxHeartbeats 8000000 in
theorem implPut_any (L : List UInt8) (hL : L.length ≤ 1048576) (i k v : Int) (nE : Nat) (a : Addr) (w : World) (hE : Ev w nE a) (hn : nE ≤ w.heap.size) :
    Calls Tryd.prog 38 #[.string (str L), .int .i64 i, .int .i64 k, .int .i64 v] w fun e w' => e = putE (putV L i k v) ∧ Below w.heap.size w w' := by
  have hsz := str_size L
  have hput := Lib.hid (putV_eq L i k v)
  obtain ⟨W, hW⟩ : ∃ W, W = putV L i k v := ⟨_, rfl⟩
  rw [← hW] at hput ⊢
  have HT := Lib.hid (implTermValid_any L nE a w hE hn hL)
  clear hW hE
  go_enter Tryd.func38, Tryd.ntmps38
  go_wp2_with fail
  refine HT.out.mono ?_
  rintro e w1 ⟨rfl, hb1⟩
  have HB1 := Lib.hid hb1
  clear hb1 HT
  cases hok : okP L k v with
  | false =>
    have hWn : Hid (W = none) := by show _ = _; rw [hput.out, hok]; rfl
    unfold okP at hok
    cases hT : (parseT L).isSome with
    | false =>
      clear hput hok
      go_wp2
      refine bodyPost_ret (v := .tuple #[.string ⟨#[]⟩, .bool false]) (by simp [results, Tryd.results38, go_sem]) rfl ?_
      exact ⟨by rw [hWn.out]; rfl, HB1.out⟩
    | true =>
      cases hk : inDig k with
      | false =>
        clear hput hok
        go_wp2_with (first | (go_at_call 64; refine (isDigit_any _ _).mono ?_; rintro e w2 ⟨rfl, rfl⟩; first | rw [hk] | rw [hv]))
        refine bodyPost_ret (v := .tuple #[.string ⟨#[]⟩, .bool false]) (by simp [results, Tryd.results38, go_sem]) rfl ?_
        exact ⟨by rw [hWn.out]; rfl, HB1.out⟩
      | true =>
        cases hv : inDig v with
        | true => rw [hT, hk, hv] at hok; cases hok
        | false =>
          clear hput hok
          go_wp2_with (first | (go_at_call 64; refine (isDigit_any _ _).mono ?_; rintro e w2 ⟨rfl, rfl⟩; first | rw [hk] | rw [hv]))
          refine bodyPost_ret (v := .tuple #[.string ⟨#[]⟩, .bool false]) (by simp [results, Tryd.results38, go_sem]) rfl ?_
          exact ⟨by rw [hWn.out]; rfl, HB1.out⟩
  | true =>
    rw [hok, if_pos rfl] at hput
    unfold okP at hok
    simp only [Bool.and_eq_true] at hok
    obtain ⟨⟨hT, hk⟩, hv⟩ := hok
    have hcol : Hid (∀ q, L[q]? = some 58 → 1 ≤ q ∧ q + 2 ≤ L.length) := by
      obtain ⟨t, ht⟩ := Option.isSome_iff_exists.1 hT
      obtain ⟨ho, e, _⟩ := parseT_tmT.1 ht
      show ∀ q, _
      rw [e]
      exact colon_in t ho
    have hasc : Hid (∀ c ∈ L, c.toNat < 128) := by
      obtain ⟨t, ht⟩ := Option.isSome_iff_exists.1 hT
      obtain ⟨ho, e, _⟩ := parseT_tmT.1 ht
      show ∀ c ∈ L, _
      rw [e]
      exact ascii_T t ho
    have hkd := Lib.hid (inDig_of hk)
    have hvd := Lib.hid (inDig_of hv)
    have HB2 : Hid (Below w.heap.size w (w1.iter (str L) 0)) := HB1.out.alloc HB1.out.size _
    have HI2 : Hid ((w1.iter (str L) 0).heap[w1.heap.size]? = some (.stringIter (str L) 0)) := World.iter_heap w1 (str L) 0
    have hs1 := HB1.out.size
    go_wp2_with (first | (go_at_call 64; refine (isDigit_any _ _).mono ?_; rintro e w2 ⟨rfl, rfl⟩; first | rw [hk] | rw [hv]))
    clear hT hk hv
    go_loopw [10] (fun s wr => ∃ (n q : Nat), q ≤ L.length ∧ n ≤ q ∧ s = .int .i64 n ∧ Hid (Below w.heap.size w wr) ∧ Hid (wr.heap[w1.heap.size]? = some (.stringIter (str L) q)) ∧ Hid (W = (findC i (L.drop q) q n).map (putF L k v))) (fun _ wr => L.length - iterPos w1.heap.size wr)
    case atStart => exact ⟨0, 0, Nat.zero_le _, Nat.le_refl _, rfl, HB2.out, HI2.out, hput.out⟩
    case round =>
      clear HB2 HI2 hput
      obtain ⟨n, q, hq, hnq, rfl, hbr, hit, hrel2⟩ := hrel
      have hpos : Hid (iterPos w1.heap.size wr = q) := by show iterPos w1.heap.size wr = q; unfold iterPos; rw [hit.out]
      have hbs := hbr.out.size
      by_cases hql : q < L.length
      · obtain ⟨c, r, hdq, b0, hdr⟩ := drop1 (L := L) (q := q) hql
        have hcq : L[q]? = some c := by
          have h3 := congrArg (fun l => l[0]?) hdq
          simpa [List.getElem?_drop] using h3
        have hc128 := hasc.out c (List.mem_of_getElem? hcq)
        have hnext : ∀ ty, (Instr.next (.pointer (some ⟨w1.heap.size, 0, none⟩)) true ty).run Tryd.prog wr = .ok (.tuple #[.bool true, .int .i64 q, .int .i32 c.toNat]) (wr.iterAt w1.heap.size (str L) (q + 1)) := fun ty => by
          have h := run_next_ascii_at (P := Tryd.prog) wr w1.heap.size (str L) q ty hit.out (by rw [hsz]; exact hql) (by rw [b0]; exact hc128)
          rw [b0] at h
          exact h
        obtain ⟨wn, hwn⟩ : ∃ wn, wn = wr.iterAt w1.heap.size (str L) (q + 1) := ⟨_, rfl⟩
        rw [← hwn] at hnext
        have hbn : Hid (Below w.heap.size w wn) := by rw [hwn]; exact below_iterAt hbr.out hs1 _ _
        have hin : Hid (wn.heap[w1.heap.size]? = some (.stringIter (str L) (q + 1))) := by rw [hwn]; exact iterAt_heap _ _ _ _ _ hit.out
        have hpn : Hid (L.length - iterPos w1.heap.size wn < L.length - iterPos w1.heap.size wr) := by
          show L.length - iterPos w1.heap.size wn < L.length - iterPos w1.heap.size wr
          rw [hpos.out, show iterPos w1.heap.size wn = q + 1 by unfold iterPos; rw [hin.out]]
          omega
        have q58 : ((c.toNat : Int) == 58) = decide (c = 58) := cut_eq c 58
        rw [hdq] at hrel2
        clear hwn hdq hc128 hit hpos
        by_cases hc : c = 58
        · have n58 : ((c.toNat : Int) != 58) = false := by subst hc; rfl
          rw [findC, if_pos hc] at hrel2
          obtain ⟨hq1, hq2⟩ := hcol.out q (by rw [hcq, hc])
          clear q58 hcq
          by_cases hni : (n : Int) = i
          · have hni2 : ((n : Int) == i) = true := by simpa using hni
            rw [if_pos hni] at hrel2
            have hWs : Hid (W = some (putF L k v q)) := by show _ = _; rw [hrel2.out]; rfl
            have hs1 : ∀ w : World, (Instr.slice 9 (.string (str L)) none (some (.int .i64 ((q : Int) - 1))) none).run Tryd.prog w = .ok (.string (str (L.take (q - 1)))) w := fun w => by rw [slice_low (str L) (q - 1) (by rw [hsz]; omega) ((q : Int) - 1) (by omega) w, str_take]
            have hs2 : ∀ w : World, (Instr.slice 9 (.string (str L)) (some (.int .i64 ((q : Int) + 2))) none none).run Tryd.prog w = .ok (.string (str (L.drop (q + 2)))) w := fun w => by rw [slice_high (str L) (q + 2) (by rw [hsz]; omega) ((q : Int) + 2) (by omega) w, str_drop]
            clear hrel2 hdr hc hni
            go_wp2_with fail
            obtain ⟨La, la⟩ : ∃ M, M = L.take (q - 1) := ⟨_, rfl⟩
            obtain ⟨Lz, lz⟩ : ∃ M, M = L.drop (q + 2) := ⟨_, rfl⟩
            rw [← la] at hs1
            rw [← lz] at hs2
            obtain ⟨Lm, lm⟩ : ∃ M, M = dg k ++ [58] ++ dg v := ⟨_, rfl⟩
            have HLT : Hid (∀ u : World, Calls Tryd.prog 65 #[.agg #[.int .i64 k, .int .i64 v]] u fun e w' => e = .returned (.string (str Lm)) ∧ Below u.heap.size u w') := fun u => by rw [lm]; exact litText_any k v hkd.out hvd.out u
            obtain ⟨L1, l1⟩ : ∃ M, M = La ++ Lm := ⟨_, rfl⟩
            obtain ⟨L4, l4⟩ : ∃ M, M = L1 ++ Lz := ⟨_, rfl⟩
            have e4 : Hid (putF L k v q = L4) := by
              show putF L k v q = L4
              rw [l4, l1, la, lz, lm]
              rfl
            have ka : La.length ≤ L.length := by rw [la, List.length_take]; omega
            have kz : Lz.length ≤ L.length := by rw [lz, List.length_drop]; omega
            have k1 : L1.length = La.length + 3 := by rw [l1, lm]; simp [dg]
            have s1 : str La ++ str Lm = str L1 := by rw [l1]; exact str_append _ _
            have s4 : str L1 ++ str Lz = str L4 := by rw [l4]; exact str_append _ _
            have n1 : ¬ 9223372036854775807 < (str La).size + (str Lm).size := by rw [str_size, str_size, show Lm.length = 3 by rw [lm]; rfl]; omega
            have n4 : ¬ 9223372036854775807 < (str L1).size + (str Lz).size := by rw [str_size, str_size]; omega
            have wq1 : IntKind.i64.wrap ((q : Int) - 1) = (q : Int) - 1 := by rw [IntKind.wrap_i64]; omega
            have wq2 : IntKind.i64.wrap ((q : Int) + 2) = (q : Int) + 2 := by rw [IntKind.wrap_i64]; omega
            clear la lz lm l1 l4 ka kz k1 hnext
            refine wp_region_inv (by kernel_rfl) (fun dn a u => ∃ x37 x38 x39 x40 x41 x42 x43 x44 x45 x46 x47 x48 x49 x50 x8 x9, a = ⟨#[.string (str L), .int .i64 i, .int .i64 k, .int .i64 v, undef, undef, undef, undef, x8, x9, .int .i64 n, .int .i64 q, .int .i32 c.toNat, .string (str L), .bool true, .bool false, .bool false, .int .i64 k, .bool true, .bool false, .bool false, .bool false, .int .i64 v, .bool true, .bool false, .bool false, .string (str L), .pointer (some ⟨w1.heap.size, 0, none⟩), .tuple #[.bool true, .int .i64 q, .int .i32 c.toNat], .bool true, .int .i64 q, .int .i32 c.toNat, .int .i32 c.toNat, .bool false, .int .i64 n, .int .i64 i, .bool true, x37, x38, x39, x40, x41, x42, x43, x44, x45, x46, x47, x48, x49, x50, u51, u52], []⟩ ∧ Det (wn.heap.size) (wn) [.string (str L), .int .i64 q, .int .i64 ((q : Int) - 1), .string (str La), .int .i64 k, .int .i64 v, .agg #[.int .i64 k, .int .i64 v], .string (str Lm), .string (str L1), .string (str L), .int .i64 q, .int .i64 ((q : Int) + 2), .string (str Lz), .string (str L4), .string (str L4), .bool true] dn [x37, x38, x39, x40, x41, x42, x43, x44, x45, x46, x47, x48, x49, x50, x8, x9] u) (of_decide_eq_true (by kernel_rfl)) ⟨_, _, _, _, _, _, _, _, _, _, _, _, _, _, _, _, rfl, Det.start (Nat.le_refl _) (by rfl)⟩ ?_ ?_
            · rintro dn a u i o ho hfi hdep ⟨x37, x38, x39, x40, x41, x42, x43, x44, x45, x46, x47, x48, x49, x50, x8, x9, rfl, hF⟩
              have hil : i < 16 := by have := (Array.getElem?_eq_some_iff.1 ho).1; simpa using this
              obtain rfl | rfl | rfl | rfl | rfl | rfl | rfl | rfl | rfl | rfl | rfl | rfl | rfl | rfl | rfl | rfl : i = 0 ∨ i = 1 ∨ i = 2 ∨ i = 3 ∨ i = 4 ∨ i = 5 ∨ i = 6 ∨ i = 7 ∨ i = 8 ∨ i = 9 ∨ i = 10 ∨ i = 11 ∨ i = 12 ∨ i = 13 ∨ i = 14 ∨ i = 15 := by omega
              all_goals
                obtain rfl := Option.some.inj ho
                refine wpOp_step ho fun K hK => ?_
                simp [Region.binds] at hdep
                clear ho
              · refine det_yes rfl ?_
                have HF := Lib.hid hF
                clear hF
                unfold Oper.wp
                go_simp
                exact hK _ _ ⟨_, _, _, _, _, _, _, _, _, _, _, _, _, _, _, _, rfl, HF.out.same 0 rfl⟩
              · refine det_yes rfl ?_
                have HF := Lib.hid hF
                clear hF
                unfold Oper.wp
                go_simp
                exact hK _ _ ⟨_, _, _, _, _, _, _, _, _, _, _, _, _, _, _, _, rfl, HF.out.same 1 rfl⟩
              · obtain rfl := hF.get 1 (by simp [hdep]) rfl rfl
                refine det_yes rfl ?_
                have HF := Lib.hid hF
                clear hF
                unfold Oper.wp
                go_simp
                exact hK _ _ ⟨_, _, _, _, _, _, _, _, _, _, _, _, _, _, _, _, rfl, HF.out.same 2 rfl⟩
              · obtain rfl := hF.get 0 (by simp [hdep]) rfl rfl
                obtain rfl := hF.get 2 (by simp [hdep]) rfl rfl
                refine det_yes rfl ?_
                have HF := Lib.hid hF
                clear hF
                unfold Oper.wp
                go_simp
                exact hK _ _ ⟨_, _, _, _, _, _, _, _, _, _, _, _, _, _, _, _, rfl, HF.out.same 3 rfl⟩
              · refine det_yes rfl ?_
                have HF := Lib.hid hF
                clear hF
                unfold Oper.wp
                go_simp
                exact hK _ _ ⟨_, _, _, _, _, _, _, _, _, _, _, _, _, _, _, _, rfl, HF.out.same 4 rfl⟩
              · refine det_yes rfl ?_
                have HF := Lib.hid hF
                clear hF
                unfold Oper.wp
                go_simp
                exact hK _ _ ⟨_, _, _, _, _, _, _, _, _, _, _, _, _, _, _, _, rfl, HF.out.same 5 rfl⟩
              · obtain rfl := hF.get 4 (by simp [hdep]) rfl rfl
                obtain rfl := hF.get 5 (by simp [hdep]) rfl rfl
                refine det_yes rfl ?_
                have HF := Lib.hid hF
                clear hF
                unfold Oper.wp
                go_simp
                exact hK _ _ ⟨_, _, _, _, _, _, _, _, _, _, _, _, _, _, _, _, rfl, HF.out.same 6 rfl⟩
              · obtain rfl := hF.get 6 (by simp [hdep]) rfl rfl
                refine det_yes rfl ?_
                have HF := Lib.hid hF
                clear hF
                unfold Oper.wp
                go_simp
                refine (HLT.out u).mono ?_
                rintro e u2 ⟨rfl, hb2⟩
                exact hK _ _ ⟨_, _, _, _, _, _, _, _, _, _, _, _, _, _, _, _, rfl, HF.out.step 7 rfl (hb2.mono (by have h := HF.out.bel.size; (try simp only [World.size_alloc] at h); omega))⟩
              · obtain rfl := hF.get 3 (by simp [hdep]) rfl rfl
                obtain rfl := hF.get 7 (by simp [hdep]) rfl rfl
                refine det_yes rfl ?_
                have HF := Lib.hid hF
                clear hF
                unfold Oper.wp
                go_simp
                exact hK _ _ ⟨_, _, _, _, _, _, _, _, _, _, _, _, _, _, _, _, rfl, HF.out.same 8 rfl⟩
              · refine det_yes rfl ?_
                have HF := Lib.hid hF
                clear hF
                unfold Oper.wp
                go_simp
                exact hK _ _ ⟨_, _, _, _, _, _, _, _, _, _, _, _, _, _, _, _, rfl, HF.out.same 9 rfl⟩
              · refine det_yes rfl ?_
                have HF := Lib.hid hF
                clear hF
                unfold Oper.wp
                go_simp
                exact hK _ _ ⟨_, _, _, _, _, _, _, _, _, _, _, _, _, _, _, _, rfl, HF.out.same 10 rfl⟩
              · obtain rfl := hF.get 10 (by simp [hdep]) rfl rfl
                refine det_yes rfl ?_
                have HF := Lib.hid hF
                clear hF
                unfold Oper.wp
                go_simp
                exact hK _ _ ⟨_, _, _, _, _, _, _, _, _, _, _, _, _, _, _, _, rfl, HF.out.same 11 rfl⟩
              · obtain rfl := hF.get 9 (by simp [hdep]) rfl rfl
                obtain rfl := hF.get 11 (by simp [hdep]) rfl rfl
                refine det_yes rfl ?_
                have HF := Lib.hid hF
                clear hF
                unfold Oper.wp
                go_simp
                exact hK _ _ ⟨_, _, _, _, _, _, _, _, _, _, _, _, _, _, _, _, rfl, HF.out.same 12 rfl⟩
              · obtain rfl := hF.get 8 (by simp [hdep]) rfl rfl
                obtain rfl := hF.get 12 (by simp [hdep]) rfl rfl
                refine det_yes rfl ?_
                have HF := Lib.hid hF
                clear hF
                unfold Oper.wp
                go_simp
                exact hK _ _ ⟨_, _, _, _, _, _, _, _, _, _, _, _, _, _, _, _, rfl, HF.out.same 13 rfl⟩
              · obtain rfl := hF.get 13 (by simp [hdep]) rfl rfl
                refine det_yes rfl ?_
                have HF := Lib.hid hF
                clear hF
                unfold Oper.wp
                go_simp
                exact hK _ _ ⟨_, _, _, _, _, _, _, _, _, _, _, _, _, _, _, _, rfl, HF.out.same 14 rfl⟩
              · refine det_yes rfl ?_
                have HF := Lib.hid hF
                clear hF
                unfold Oper.wp
                go_simp
                exact hK _ _ ⟨_, _, _, _, _, _, _, _, _, _, _, _, _, _, _, _, rfl, HF.out.same 15 rfl⟩
            · rintro dn a u hall ⟨x37, x38, x39, x40, x41, x42, x43, x44, x45, x46, x47, x48, x49, x50, x8, x9, rfl, hF⟩
              have hall2 := hF.all (n := 16) rfl hall
              simp only [List.cons.injEq] at hall2
              obtain ⟨rfl, rfl, rfl, rfl, rfl, rfl, rfl, rfl, rfl, rfl, rfl, rfl, rfl, rfl, rfl, rfl, _⟩ := hall2
              have HB := Lib.hid (hbn.out.trans (hF.bel.mono hbn.out.size))
              clear hF hall s1 s4 n1 n4 hs1 hs2
              go_wp2
              refine bodyPost_ret (v := .tuple #[.string (str L4), .bool true]) (by simp [results, Tryd.results38, go_sem]) rfl ?_
              exact ⟨by rw [hWs.out, e4.out]; rfl, HB.out⟩
          · have hni2 : ((n : Int) == i) = false := by simpa using hni
            have hnx : Hid (W = (findC i (L.drop (q + 1)) (q + 1) ((n + 1 : Nat) : Int)).map (putF L k v)) := by show _ = _; rw [hrel2.out, if_neg hni, hdr]; rfl
            clear hrel2 hdr hc hni
            go_wp2
            go_roundw
            case rel => exact ⟨n + 1, q + 1, by omega, by omega, by go_num, hbn.out, hin.out, hnx.out⟩
            case measure => exact hpn.out
        · have n58 : ((c.toNat : Int) != 58) = true := by simp only [bne, q58, show decide (c = 58) = false by simpa using hc]; rfl
          have hnx : Hid (W = (findC i (L.drop (q + 1)) (q + 1) (n : Int)).map (putF L k v)) := by show _ = _; rw [hrel2.out, findC, if_neg hc, hdr]
          clear hrel2 hdr hc q58 hcq
          go_wp2
          go_roundw
          case rel => exact ⟨n, q + 1, by omega, by omega, rfl, hbn.out, hin.out, hnx.out⟩
          case measure => exact hpn.out
      · have hke : q = L.length := by omega
        have hWn : Hid (W = none) := by show _ = _; rw [hrel2.out, hke, List.drop_length]; rfl
        have hnext : ∀ ty, (Instr.next (.pointer (some ⟨w1.heap.size, 0, none⟩)) true ty).run Tryd.prog wr = .ok (.tuple #[.bool false]) wr := fun ty => run_next_end_at (P := Tryd.prog) wr w1.heap.size (str L) q ty hit.out (by rw [hsz]; omega)
        clear hrel2 hit hpos
        go_wp2
        refine bodyPost_ret (v := .tuple #[.string ⟨#[]⟩, .bool false]) (by simp [results, Tryd.results38, go_sem]) rfl ?_
        exact ⟨by rw [hWn.out]; rfl, hbr.out⟩
end Go.Proofs.YtcecljolnknapaaDoor
