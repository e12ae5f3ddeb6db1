/-
  The contracts of the program's textsOf and of a call's text.
  The contract of a term node's text, by method.
  The contract of the program's HasValue.
  The contract of NamedOf, the program's.
-/
import Derived.Test.YtnmbjmocnafekaaGreatDoorE24
import Derived.Test.YtnmbjmocnafekaaGreatDoorE21
import Derived.Test.YtnmbjmocnafekaaGreatDoorE7
import Derived.Test.YtnmbjmocnafekaaGreatDoorE15
import Derived.Test.YtnmbjmocnafekaaGreatDoorE14
import Derived.Test.YtnmbjmocnafekaaGreatDoorE10
namespace Go.Proofs.YtnmbjmocnafekaaGreatDoor
open Go.RowKit

theorem call_tmT {t : Tm} (h : isCallT t = true) : callL (headT t) ((partsT t).map tmT) = tmT t := by
  cases t with
  | lit k v => cases h
  | c0 n => rfl
  | c1 n a => simp [callL, headT, partsT, tmT, Lib.join_one]
  | c2 n a b => simp [callL, headT, partsT, tmT, Lib.join_cons, Lib.joinTail]
theorem Det.change {N : Nat} {w0 u : World} {Vs Vs' xs : List Value} {f : Nat → Bool} (h : Det N w0 Vs f xs u) (hl : Vs'.length = Vs.length) (hv : ∀ k, f k = true → Vs'[k]? = Vs[k]?) : Det N w0 Vs' f xs u :=
  ⟨h.bel, h.len.trans hl.symm, fun k hk => (h.at_ k hk).trans (hv k hk).symm⟩
/-- What textsOf makes of nodes. -/
def TextsOk (q : Nat) : Prop := ∀ (ts : List Tm) (B : Nat) (ps : Value) (vs : List Value) (w : World), ts.length ≤ 2 → (∀ t ∈ ts, TmOk t ∧ (tmT t).length ≤ q) → q ≤ 1048576 → w.ownsRow B 93 1 ps ts.length vs → NodesAt w B ts vs →
  Calls Tryz.prog 285 #[ps] w fun e w' => ∃ v, e = .returned v ∧ w'.ownsRow w.heap.size 9 1 v ts.length (strVs (ts.map tmT)) ∧ Below w.heap.size w w'
theorem nodes_below {w w' : World} {B : Nat} {ps : Value} {n : Nat} {ts : List Tm} {vs : List Value} (h1 : w.ownsRow B 93 1 ps n vs) (h2 : NodesAt w B ts vs) (hb : Below w.heap.size w w') : w'.ownsRow B 93 1 ps n vs ∧ NodesAt w' B ts vs :=
  ⟨own_same h1 fun g _ hg => hb.block g hg, h2.same fun g _ hg => hb.block g hg⟩

set_option maxRecDepth 100000 in
set_option maxHeartbeats 4000000 in
theorem callText2_any (q : Nat) (IH : TextsOk q) (t : Tm) (B : Nat) (ps : Value) (vs : List Value) (w : World) (hc : isCallT t = true) (ho : TmOk t) (hq : (tmT t).length ≤ q + 1) (hqm : q ≤ 1048576) (hown : w.ownsRow B 93 1 ps (partsT t).length vs) (hnod : NodesAt w B (partsT t) vs) :
    Calls Tryz.prog 283 #[.agg #[.string (str (headT t)), ps]] w fun e w' => e = .returned (.string (str (tmT t))) ∧ Below w.heap.size w w' := by
  obtain ⟨PA, PC, rfl⟩ := own_slice' hown
  obtain ⟨nm, hnm⟩ : ∃ nm, nm = headT t := ⟨_, rfl⟩
  obtain ⟨n, hn⟩ : ∃ n, n = (partsT t).length := ⟨_, rfl⟩
  have HT : Hid (∀ u, Below w.heap.size w u → Calls Tryz.prog 285 #[.slice PA n PC] u fun e w' => ∃ v, e = .returned v ∧ StrsAt w' v ((partsT t).map tmT) ∧ Below u.heap.size u w') := fun u hb => by
    obtain ⟨h1, h2⟩ := nodes_below hown hnod hb
    rw [hn]
    refine (IH (partsT t) B _ vs u (partsT_two t) (fun p hp => ⟨partsT_ok ho hp, by have := partsT_len hp; omega⟩) hqm h1 h2).mono ?_
    rintro e w' ⟨v, rfl, ho2, hb2⟩
    exact ⟨v, rfl, strsAt_own (by rw [List.length_map]; exact ho2), hb2⟩
  have hbk : bulkS ((partsT t).map tmT) ≤ 4194304 := by
    have e := call_tmT hc
    have h1 : ((partsT t).map tmT).length ≤ 2 := by rw [List.length_map]; exact partsT_two t
    have h2 : (((partsT t).map tmT).map List.length).sum ≤ (tmT t).length := by
      cases t with
      | lit k v => cases hc
      | c0 n => simp [partsT]
      | c1 n a => simp [partsT, tmT]; omega
      | c2 n a b => simp [partsT, tmT]; omega
    unfold bulkS
    omega
  have HJ : Hid (∀ u v, StrsAt u v ((partsT t).map tmT) → Calls Tryz.prog 284 #[.string (str nm), v] u fun e w' => e = .returned (.string (str (tmT t))) ∧ Below u.heap.size u w') := fun u v hv => by
    have h := callText_any nm v ((partsT t).map tmT) u hv (by rw [hnm]; cases t <;> simp [headT]) hbk
    rw [hnm, call_tmT hc] at h
    rw [hnm]
    exact h
  obtain ⟨PS, hPS⟩ : ∃ PS, PS = (partsT t).map tmT := ⟨_, rfl⟩
  obtain ⟨X, hX⟩ : ∃ X, X = tmT t := ⟨_, rfl⟩
  rw [← hPS] at HT HJ
  rw [← hX] at HJ
  rw [← hX, ← hnm, ← hn]
  have HB := Lib.hid ((Below.refl w.heap.size w).alloc (Nat.le_refl _) (.cells #[.string (str nm), .slice PA n PC] 167))
  have r2 := Row.new w 167 [.string (str nm), .slice PA n PC]
  have R2 := Lib.hid r2
  clear hX hPS hnm hn hown hnod IH hbk hq ho hc r2 hqm
  go_enter Tryz.func283, Tryz.ntmps283
  go_wp2_with fail
  have Hcf : Hid (∀ u, Below (w.heap.size + 1) (w.alloc (.cells #[.string (str nm), .slice PA n PC] 167)) u → u.cell? ⟨w.heap.size, 0, none⟩ = some (.string (str nm)) ∧ u.cell? ⟨w.heap.size, 1, none⟩ = some (.slice PA n PC)) := fun u hb =>
    ⟨(hb.cell (p := ⟨w.heap.size, 0, none⟩) (by dsimp only; omega)).trans (R2.out.cell 0), (hb.cell (p := ⟨w.heap.size, 1, none⟩) (by dsimp only; omega)).trans (R2.out.cell 1)⟩
  refine wp_region_inv (by kernel_rfl) (fun dn a u => ∃ v7 x2 x3 x4 x5 x6 x7 x8, a = ⟨#[.agg #[.string (str nm), .slice PA n PC], .pointer (some ⟨w.heap.size, 0, none⟩), x2, x3, x4, x5, x6, x7, x8], []⟩ ∧ Det (w.heap.size + 1) (w.alloc (.cells #[.string (str nm), .slice PA n PC] 167)) [.pointer (some ⟨w.heap.size, 0, none⟩), .string (str nm), .pointer (some ⟨w.heap.size, 1, none⟩), .slice PA n PC, v7, .string (str X), .string (str X)] dn [x3, x4, x5, x6, x7, x8, x2] u ∧ (dn 4 = true → StrsAt u v7 PS)) (of_decide_eq_true (by kernel_rfl)) ⟨.nilIface, _, _, _, _, _, _, _, rfl, Det.start (by simp) (by rfl), fun h => by cases h⟩ ?_ ?_
  · rintro dn a u i o ho hfi hdep ⟨v7, x2, x3, x4, x5, x6, x7, x8, rfl, hF, hP⟩
    have hil : i < 7 := by have := (Array.getElem?_eq_some_iff.1 ho).1; simpa using this
    obtain ⟨p0, p1⟩ := Hcf.out u hF.bel
    obtain rfl | rfl | rfl | rfl | rfl | rfl | rfl : i = 0 ∨ i = 1 ∨ i = 2 ∨ i = 3 ∨ i = 4 ∨ i = 5 ∨ i = 6 := by omega
    all_goals
      obtain rfl := Option.some.inj ho
      refine wpOp_step ho fun K hK => ?_
      simp [Region.binds] at hdep
      clear ho
    · refine det_yes rfl ?_
      have HF := Lib.hid hF
      have HP := Lib.hid hP
      clear hF hP
      unfold Oper.wp
      go_simp
      exact hK _ _ ⟨v7, _, _, _, _, _, _, _, rfl, HF.out.same 0 rfl, fun h => HP.out (by simpa using h)⟩
    · obtain rfl := hF.get 0 (by simp [hdep]) rfl rfl
      refine det_yes rfl ?_
      have HF := Lib.hid hF
      have HP := Lib.hid hP
      clear hF hP
      unfold Oper.wp
      go_simp
      exact hK _ _ ⟨v7, _, _, _, _, _, _, _, rfl, HF.out.same 1 rfl, fun h => HP.out (by simpa using h)⟩
    · refine det_yes rfl ?_
      have HF := Lib.hid hF
      have HP := Lib.hid hP
      clear hF hP
      unfold Oper.wp
      go_simp
      exact hK _ _ ⟨v7, _, _, _, _, _, _, _, rfl, HF.out.same 2 rfl, fun h => HP.out (by simpa using h)⟩
    · obtain rfl := hF.get 2 (by simp [hdep]) rfl rfl
      refine det_yes rfl ?_
      have HF := Lib.hid hF
      have HP := Lib.hid hP
      clear hF hP
      unfold Oper.wp
      go_simp
      exact hK _ _ ⟨v7, _, _, _, _, _, _, _, rfl, HF.out.same 3 rfl, fun h => HP.out (by simpa using h)⟩
    · obtain rfl := hF.get 3 (by simp [hdep]) rfl rfl
      refine det_yes rfl ?_
      have HF := Lib.hid hF
      have hbu := HB.out.trans (hF.bel.mono (by omega))
      clear hF hP
      unfold Oper.wp
      go_simp
      refine (HT.out u hbu).mono ?_
      rintro e u2 ⟨v, rfl, hs, hb2⟩
      exact hK _ _ ⟨v, _, _, _, _, _, _, _, rfl, (HF.out.change (Vs' := [.pointer (some ⟨w.heap.size, 0, none⟩), .string (str nm), .pointer (some ⟨w.heap.size, 1, none⟩), .slice PA n PC, v, .string (str X), .string (str X)]) rfl (fun k hk => by
        match k, hk with
        | 0, _ => rfl
        | 1, _ => rfl
        | 2, _ => rfl
        | 3, _ => rfl
        | 4, hk => rw [hk] at hfi; cases hfi
        | 5, _ => rfl
        | 6, _ => rfl
        | k + 7, _ => rfl)).step 4 rfl (hb2.mono (by have h := HF.out.bel.size; rw [World.size_alloc] at h; omega)), fun _ => hs⟩
    · obtain rfl := hF.get 1 (by simp [hdep]) rfl rfl
      obtain rfl := hF.get 4 (by simp [hdep]) rfl rfl
      refine det_yes rfl ?_
      have hs := hP (by simp [hdep])
      have HF := Lib.hid hF
      have HS := Lib.hid hs
      clear hF hP hs
      unfold Oper.wp
      go_simp
      refine (HJ.out u _ HS.out).mono ?_
      rintro e u2 ⟨rfl, hb2⟩
      exact hK _ _ ⟨_, _, _, _, _, _, _, _, rfl, HF.out.step 5 rfl (hb2.mono (by have h := HF.out.bel.size; rw [World.size_alloc] at h; omega)), fun _ => HS.out.below hb2⟩
    · obtain rfl := hF.get 5 (by simp [hdep]) rfl rfl
      refine det_yes rfl ?_
      have HF := Lib.hid hF
      have HP := Lib.hid hP
      clear hF hP
      unfold Oper.wp
      go_simp
      exact hK _ _ ⟨v7, _, _, _, _, _, _, _, rfl, HF.out.same 6 rfl, fun h => HP.out (by simpa using h)⟩
  · rintro dn a u hall ⟨v7, x2, x3, x4, x5, x6, x7, x8, rfl, hF, _⟩
    have hall2 := hF.all (n := 7) rfl hall
    simp only [List.cons.injEq] at hall2
    obtain ⟨rfl, rfl, rfl, rfl, rfl, rfl, rfl, _⟩ := hall2
    have HB2 := Lib.hid (HB.out.trans (hF.bel.mono (by omega)))
    clear hF hall
    go_wp2
    go_ret
    exact ⟨rfl, HB2.out⟩

theorem below_own2 {w w' w'' : World} {N : Nat} {t : TypeId} {v : Value} {n : Nat} {xs : List Value} (hb : Below N w w') (ho : w'.ownsRow N t 1 v n xs) (hg : w'.grownBy w'' v.ownBlock) (hs : N ≤ w'.heap.size) : Below N w w'' :=
  hb.grown hg hs (fun j hj => by
    obtain ⟨_, ⟨e, _⟩ | ⟨g, cap3, cur, e, hg', _⟩⟩ := ho
    · rw [e] at hj; simp [Value.ownBlock] at hj
    · rw [e] at hj; simp [Value.ownBlock] at hj; omega)

set_option maxRecDepth 100000 in
set_option maxHeartbeats 4000000 in
theorem texts_ok : ∀ q, TextsOk q := by
  intro q
  induction q with
  | zero =>
    intro ts B ps vs w h2 hok hqm hown hnod
    cases ts with
    | cons t ts =>
      obtain ⟨ho, hl⟩ := hok t (by simp)
      have := tmT_len ho
      omega
    | nil =>
      obtain ⟨PA, PC, rfl⟩ := own_slice' hown
      clear hok hnod hown
      go_enter Tryz.func285, Tryz.ntmps285
      go_wp2
      go_loopw [3, 8] (fun o i wr => o = .slice none 0 0 ∧ i = .int .i64 0 ∧ wr = w) (fun _ _ _ => 0)
      case atStart => exact ⟨rfl, rfl, rfl⟩
      case round =>
        obtain ⟨rfl, rfl, rfl⟩ := hrel
        go_wp2
        go_ret
        exact ⟨_, rfl, ⟨by simp [strVs], .inl ⟨rfl, rfl⟩⟩, Below.refl _ _⟩
  | succ q ih =>
    intro ts B ps vs w h2 hok hqm hown hnod
    obtain ⟨i0, hi0, hz0, hz1, hz2⟩ := info_parts (show (Tryz.prog.info? 9).map (fun i => (i.zero, i.size, i.bytes)) = some (some (.string ⟨#[]⟩), 1, 16) by kernel_rfl)
    obtain ⟨PA, PC, rfl⟩ := own_slice' hown
    have IH := Lib.hid ih
    have Hown := Lib.hid hown
    have Hnod := Lib.hid hnod
    have Hok := Lib.hid hok
    clear ih hown hnod hok
    go_enter Tryz.func285, Tryz.ntmps285
    go_wp2
    go_loopw [3, 8] (fun o i wr => ∃ k : Nat, k ≤ ts.length ∧ i = .int .i64 k ∧ Hid (Below w.heap.size w wr) ∧ Hid (wr.ownsRow w.heap.size 9 1 o k (strVs ((ts.map tmT).take k)))) (fun _ i _ => ts.length - (intOf i).toNat)
    case atStart => exact ⟨0, Nat.zero_le _, rfl, Below.refl _ _, ⟨by simp [strVs], .inl ⟨rfl, rfl⟩⟩⟩
    case round =>
      obtain ⟨k, hk, rfl, hbr, hor⟩ := hrel
      have hbs := hbr.out.size
      by_cases hkl : k < ts.length
      · obtain ⟨g, hPA, _, hgw, _, hcells⟩ := own_cells Hown.out (by omega)
        obtain ⟨v, hv, hnv⟩ := Hnod.out.at k hkl
        have hck : wr.cell? ⟨g, k, none⟩ = some v := (World.cell?_of_block (w := w) (hbr.out.block g hgw)).trans ((hcells k hkl).trans hv)
        obtain ⟨hok1, hlen1⟩ := Hok.out ts[k] (List.getElem_mem hkl)
        have hnv2 := hnv.same (w' := wr) fun g _ hg => hbr.out.block g hg
        subst hPA
        have HW : Hid (strVs ((ts.map tmT).take (k + 1)) = strVs ((ts.map tmT).take k) ++ [.string (str (tmT ts[k]))]) := by
          show _ = _
          rw [List.take_succ_eq_append_getElem (by simpa using hkl)]
          unfold strVs
          rw [List.map_append, List.getElem_map]
          rfl
        obtain ⟨T, hT⟩ : ∃ T, T = tmT ts[k] := ⟨_, rfl⟩
        cases hcc : isCallT ts[k] with
        | false =>
          obtain ⟨kk, vv, htk, rfl⟩ := hnv2.lit hcc
          rw [htk] at hok1
          have HD := Lib.hid hok1
          have hTe : Hid (T = dg kk ++ [58] ++ dg vv) := by show _ = _; rw [hT, htk]; rfl
          have HL : Hid (Calls Tryz.prog 281 #[.agg #[.int .i64 kk, .int .i64 vv]] wr fun e w' => e = .returned (.string (str T)) ∧ Below wr.heap.size wr w') := by show Calls _ _ _ _ _; rw [hTe.out]; exact litText_any kk vv HD.out.1 HD.out.2 wr
          have hmeth : ∀ u : World, (Go.method 475 164 (.agg #[.int .i64 kk, .int .i64 vv]) "loop.example/overloads/impl.text").run Tryz.prog u = .ok (281, (.agg #[.int .i64 kk, .int .i64 vv])) u := fun u => by kernel_rfl
          rw [← hT] at HW
          clear hcells hv hnv hnv2 hok1 hlen1 htk hcc hT
          go_wp2_with fail
          refine HL.out.mono ?_
          rintro e w1 ⟨rfl, hb1⟩
          have HB1 := Lib.hid (hbr.out.trans (hb1.mono hbr.out.size))
          have hs1 := HB1.out.size
          have Hor1 := Lib.hid (own_same hor.out fun g _ hg => hb1.block g hg)
          clear hb1
          go_wp2_with (at_builtin; refine wpList_append_own _ rfl (.tmp 12) (.tmp 15) 47 rfl w.heap.size 9 i0 (.string ⟨#[]⟩) 1 16 Tryz.underlying47 hi0 hz0 hz1 hz2 rfl (by decide) _ _ _ rfl (Hor1.out.alloc _) ⟨w1.heap.size, 0, none⟩ 1 1 [.string (str T)] rfl rfl ?c1 ?c2 ?c3 ?c4 ?c5 ?_)
          case c1 =>
            intro j u hj
            match j, hj with
            | 0, hj => simp at hj; subst hj; simp [Addr.add]
          case c2 => intro u hu; simp at hu; subst hu; rfl
          case c3 => unfold maxLen; omega
          case c4 => omega
          case c5 => simp; omega
          intro v2 w2 hown2 hgrow _
          have Hb2 := Lib.hid (below_own2 (HB1.out.alloc hs1 _) (Hor1.out.alloc _) hgrow (by simp; omega))
          have Hown2 := Lib.hid hown2
          clear hown2 hgrow
          go_wp2
          go_roundw
          case rel => exact ⟨k + 1, by omega, by go_num, Hb2.out, ownsRow_cast Hown2.out rfl HW.out.symm⟩
          case measure => simp [intOf]; omega
        | true =>
          obtain ⟨ps, vs1, rfl, hown1, hnods1⟩ := hnv2.open hcc
          have HL := callText2_any q IH.out ts[k] B ps vs1 wr hcc hok1 hlen1 (by omega) hown1 hnods1
          rw [← hT] at HL
          have HL := Lib.hid HL
          obtain ⟨nm, hnm⟩ : ∃ nm, nm = headT ts[k] := ⟨_, rfl⟩
          rw [← hnm] at HL hck
          have hmeth : ∀ u : World, (Go.method 475 167 (.agg #[.string (str nm), ps]) "loop.example/overloads/impl.text").run Tryz.prog u = .ok (283, (.agg #[.string (str nm), ps])) u := fun u => by kernel_rfl
          rw [← hT] at HW
          clear hcells hv hnv hnv2 hok1 hlen1 hcc hT hown1 hnods1 hnm
          go_wp2_with fail
          refine HL.out.mono ?_
          rintro e w1 ⟨rfl, hb1⟩
          have HB1 := Lib.hid (hbr.out.trans (hb1.mono hbr.out.size))
          have hs1 := HB1.out.size
          have Hor1 := Lib.hid (own_same hor.out fun g _ hg => hb1.block g hg)
          clear hb1
          go_wp2_with (at_builtin; refine wpList_append_own _ rfl (.tmp 12) (.tmp 15) 47 rfl w.heap.size 9 i0 (.string ⟨#[]⟩) 1 16 Tryz.underlying47 hi0 hz0 hz1 hz2 rfl (by decide) _ _ _ rfl (Hor1.out.alloc _) ⟨w1.heap.size, 0, none⟩ 1 1 [.string (str T)] rfl rfl ?c1 ?c2 ?c3 ?c4 ?c5 ?_)
          case c1 =>
            intro j u hj
            match j, hj with
            | 0, hj => simp at hj; subst hj; simp [Addr.add]
          case c2 => intro u hu; simp at hu; subst hu; rfl
          case c3 => unfold maxLen; omega
          case c4 => omega
          case c5 => simp; omega
          intro v2 w2 hown2 hgrow _
          have Hb2 := Lib.hid (below_own2 (HB1.out.alloc hs1 _) (Hor1.out.alloc _) hgrow (by simp; omega))
          have Hown2 := Lib.hid hown2
          clear hown2 hgrow
          go_wp2
          go_roundw
          case rel => exact ⟨k + 1, by omega, by go_num, Hb2.out, ownsRow_cast Hown2.out rfl HW.out.symm⟩
          case measure => simp [intOf]; omega
      · have hke : k = ts.length := by omega
        have hki : ¬ ((k : Int) < (ts.length : Int)) := by omega
        rw [hke, List.take_of_length_le (by simp)] at hor
        go_wp2
        go_ret
        exact ⟨_, rfl, hor.out, hbr.out⟩
end Go.Proofs.YtnmbjmocnafekaaGreatDoor

namespace Go.Proofs.YtnmbjmocnafekaaGreatDoor
open Go.RowKit Go.Shelf

/-- The text of a term node, by the method that its type has. -/
theorem NodeAt.textN {w : World} {B : Nat} {t : Tm} {o : Value} (h : NodeAt w B t o) (hok : TmOk t) (hl : (tmT t).length ≤ 1048576) : ∃ T x f, o = .iface T x ∧ ((∀ u : World, (Go.method 475 T x "loop.example/overloads/impl.text").run Tryz.prog u = .ok (f, x) u) ∧ (∀ u : World, (Go.nilAhead 475 T x "loop.example/overloads/impl.text").run Tryz.prog u = .ok (some false) u) ∧ (∀ (args : Array Value) (u : World), (callFunc f args).run Tryz.prog u = .ok (.enter f args) u)) ∧
    Calls Tryz.prog f #[x] w fun e w' => e = .returned (.string (str (tmT t))) ∧ Below w.heap.size w w' := by
  cases hc : isCallT t with
  | false =>
    obtain ⟨k, v, rfl, rfl⟩ := h.lit hc
    exact ⟨_, _, 281, rfl, ⟨fun u => by kernel_rfl, fun u => by kernel_rfl, enters_of Tryz.func281 (by kernel_rfl) rfl⟩, litText_any k v hok.1 hok.2 w⟩
  | true =>
    obtain ⟨ps, vs, rfl, hown, hnods⟩ := h.open hc
    exact ⟨_, _, 283, rfl, ⟨fun u => by kernel_rfl, fun u => by kernel_rfl, enters_of Tryz.func283 (by kernel_rfl) rfl⟩, callText2_any (tmT t).length (texts_ok _) t B ps vs w hc hok (by omega) hl hown hnods⟩
end Go.Proofs.YtnmbjmocnafekaaGreatDoor

namespace Go.Proofs.YtnmbjmocnafekaaGreatDoor
open Go.RowKit

set_option maxRecDepth 100000 in
set_option maxHeartbeats 1000000 in
theorem implHas_any (lo hi : Nat) (sv cv : Value) (t : Ty) (k v : Int) (w : World) (hv : TyAt w lo hi sv cv t) (hB : hi ≤ w.heap.size) :
    Calls Tryz.prog 97 #[.agg #[sv, cv], .int .i64 k, .int .i64 v] w fun e w' => e = .returned (.bool (hasV t k v)) ∧ Below w.heap.size w w' := by
  obtain ⟨A, cap, rfl, hl1, hm1, hi1⟩ := hv.1.form
  obtain ⟨B, bap, rfl, hl2, hm2, _⟩ := hv.2.form
  have h3 : Below w.heap.size w (w.alloc (.cells #[.slice A t.sizes.length cap, .slice B t.cos.length bap] 33)) := by go_grown
  have hv3 := Lib.hid (hv.below h3 hB)
  have Hi1 := Lib.hid hi1
  clear hv hi1
  go_enter Tryz.func97, Tryz.ntmps97
  go_wp2_with fail
  refine (implValid_any lo hi _ _ t _ hv3.out (by simp; omega)).mono ?_
  rintro e w1 ⟨rfl, hb1⟩
  have H1 := Lib.hid (box2 (hb1.mono (by simp)))
  obtain ⟨q0, q1, hl, _⟩ := box2 (hb1.mono (by simp))
  clear hb1
  by_cases hok : tyOk t = true
  · have hfin : Hid (hasV t k v = hasV0 t.sizes k v) := by show hasV t k v = _; unfold hasV; rw [hok, Bool.true_and]
    rw [hok]
    by_cases ha : 0 ≤ k ∧ k < t.sizes.length
    · have hA := ixB_yes ha.1 ha.2
      have hlt : k.toNat < t.sizes.length := by omega
      have hfin2 := Lib.hid (hasV0_yes (v := v) hA hlt)
      obtain ⟨b, off, rfl, _, _, c0, _⟩ := (Hi1.out.below H1.out.2.2.2 hB).at_ hlt
      have hk0 := ha.1
      have hk1 := ha.2
      clear ha
      go_wp2_with (go_at_call 93; refine (isIndex_any _ _ _).mono ?_; rintro e w' ⟨rfl, rfl⟩)
      go_ret
      exact ⟨ret_bool (by rw [hfin.out, hfin2.out]), H1.out.2.2.2⟩
    · have hA := ixB_no ha
      have hfin2 := Lib.hid (hasV0_no (v := v) hA)
      clear ha
      go_wp2_with (go_at_call 93; refine (isIndex_any _ _ _).mono ?_; rintro e w' ⟨rfl, rfl⟩)
      go_ret
      exact ⟨ret_bool (by rw [hfin.out, hfin2.out]), H1.out.2.2.2⟩
  · have hokf : tyOk t = false := by simpa using hok
    have hfin : Hid (hasV t k v = false) := by show hasV t k v = _; unfold hasV; rw [hokf, Bool.false_and]
    rw [hokf]
    clear hok
    go_wp2
    go_ret
    exact ⟨ret_bool hfin.out.symm, H1.out.2.2.2⟩
end Go.Proofs.YtnmbjmocnafekaaGreatDoor

namespace Go.Proofs.YtnmbjmocnafekaaGreatDoor
open Go.RowKit Go.Maps

set_option maxRecDepth 100000 in
set_option maxHeartbeats 4000000 in
theorem implNamed_any (lo hi : Nat) (sv cv fv : Value) (y : Sy) (nm : ByteArray) (a : Int) (w : World) (hv : SyAt w lo hi sv cv fv y) (hB : hi ≤ w.heap.size) (hbk : y.bulk ≤ 1048576) (hnm : nm.size ≤ maxLen) :
    Calls Tryz.prog 99 #[.agg #[sv, cv, fv], .string nm, .int .i64 a] w fun e w' => ∃ v, e = .returned v ∧ Below w.heap.size w w' ∧ w'.ownsRow w.heap.size 3 1 v (namedV y nm a).length ((namedV y nm a).map (Value.int .i64)) := by
  obtain ⟨A, cap, rfl, hl1, hm1, hi1⟩ := hv.1.1.form
  obtain ⟨B, bap, rfl, hl2, hm2, hc1⟩ := hv.1.2.form
  obtain ⟨F, fap, rfl, hl3, hm3, hf1⟩ := hv.2.form
  unfold maxLen at hm3
  obtain ⟨i0, hi0, hz0, hz1, hz2⟩ := info_parts Tryz.infoInt
  have hn : y.fs.length ≤ 1048576 := by unfold Sy.bulk at hbk; omega
  have h3 : Below w.heap.size w (w.alloc (.cells #[.slice A y.ty.sizes.length cap, .slice B y.ty.cos.length bap, .slice F y.fs.length fap] 36)) := by go_grown
  have H1 := Lib.hid (Below.refl (w.heap.size + 1) (w.alloc (.cells #[.slice A y.ty.sizes.length cap, .slice B y.ty.cos.length bap, .slice F y.fs.length fap] 36)))
  have Hv := Lib.hid hv
  have Hf := Lib.hid hf1
  have Hnm := Lib.hid hnm
  clear hi1 hc1 hf1 hv hnm
  go_enter Tryz.func99, Tryz.ntmps99
  go_wp2_with fail
  refine (implSysValid_any lo hi _ _ _ y _ (Hv.out.below h3 hB) (by simp; omega)).mono ?_
  rintro e w1 ⟨rfl, hb1⟩
  have H2 := Lib.hid (H1.out.trans (hb1.mono (by simp)))
  obtain ⟨q0, q1, q2, hl, hB1⟩ := box3 H2.out
  have HB1 := Lib.hid hB1
  clear hb1 h3 hB1 H1
  by_cases hs : syB y = true
  case neg =>
    have hsf : syB y = false := by simpa using hs
    have hfin : Hid (namedV y nm a = []) := by show _ = _; unfold namedV; rw [if_neg hs]
    rw [hsf]
    clear hs
    go_wp2
    go_ret
    refine ⟨_, rfl, HB1.out, ?_⟩
    rw [hfin.out]
    exact World.ownsRow_nil _ _ _ _
  have hfin : Hid (namedV y nm a = nmT y.fs nm a y.fs.length) := by show _ = _; unfold namedV; rw [if_pos hs]
  rw [hs]
  clear hs
  go_wp2_with fail
  refine (indicesByName_any lo hi _ y.fs w1 (Hf.out.below HB1.out hB) (by omega) hn).mono ?_
  rintro e w3 ⟨D, rfl, hb3, hgrp, hown⟩
  have q2' := (hb3.cell (p := ⟨w.heap.size, 2, none⟩) hl).trans q2
  obtain ⟨v, zs, hlk0, hat, hoi, _, _⟩ := groups_look hown lawStr Tryz.underlying195 zeroInts (by unfold maxLen; omega) (kN_key Hnm.out)
  have hlk := hlk0 w3 rfl
  have hzs := hgrp.look Hnm.out hoi hat
  have hzi := ints_of_owns hoi
  obtain ⟨Z, zap, rfl, hlz, hmz, hz1'⟩ := hzi.form
  have Hzi := Lib.hid hz1'
  have Hzs := Lib.hid hzs
  have HB3 := Lib.hid (HB1.out.trans (hb3.mono HB1.out.size))
  have hl3 : w.heap.size < w3.heap.size := Nat.lt_of_lt_of_le hl hb3.size
  have Q2 := Lib.hid q2'
  have hzl : zs.length ≤ y.fs.length := by rw [hzs]; exact idxs_len _ _ _
  unfold maxLen at hmz
  clear hb3 hgrp hown hlk0 hat hoi hzi hz1' hzs q0 q1 q2 q2'
  go_wp2
  clear hlk
  go_loopw [7, 19] (fun l i wr => ∃ j : Nat, j ≤ zs.length ∧ i = .int .i64 j ∧ Hid (Below w3.heap.size w3 wr) ∧ Hid (wr.ownsRow w3.heap.size 3 1 l (withA y.fs a (zs.take j)).length ((withA y.fs a (zs.take j)).map (Value.int .i64)))) (fun _ i _ => zs.length - (intOf i).toNat)
  case atStart => exact ⟨0, Nat.zero_le _, rfl, Below.refl _ _, World.ownsRow_nil _ _ _ _⟩
  case round =>
    obtain ⟨j, hj, rfl, hb, hown⟩ := hrel
    have hbs := hb.out.size
    have HbW : Hid (Below w.heap.size w wr) := HB3.out.trans (hb.out.mono HB3.out.size)
    by_cases hlt : j < zs.length
    · obtain ⟨gz, oz, rfl, _, _, cz, _⟩ := (Hzi.out.below hb.out (Nat.le_refl _)).at_ hlt
      obtain ⟨i, hi', hni, ei⟩ := idxs_mem.1 (show zs[j] ∈ idxs y.fs y.fs.length nm by rw [← Hzs.out]; exact List.getElem_mem hlt)
      rw [ei] at cz
      have Hei := Lib.hid ei
      have p2 := (hb.out.cell (p := ⟨w.heap.size, 2, none⟩) hl3).trans Q2.out
      have hlw : w.heap.size < wr.heap.size := by omega
      obtain ⟨b, off, A1, cap1, A2, cap2, rfl, hlo, hhi, c0, c1, c2, c3, _, _, _, _, _⟩ := (Hf.out.below HbW.out hB).at_ hi'
      have hiI : (i : Int) < (y.fs.length : Int) := by omega
      have hle : (withA y.fs a (zs.take j)).length ≤ j := Nat.le_trans (withA_le _ _ _) (by rw [List.length_take]; omega)
      have hbw : b < wr.heap.size := by have := HbW.out.size; omega
      have Hg : Hid ((y.fs.getD zs[j].toNat default).args = y.fs[i].args) := by show _ = _; rw [Hei.out, Int.toNat_natCast, getD_of hi']
      clear ei hni c0 c2 c3
      by_cases hq : ((y.fs[i].args.length : Nat) : Int) = a
      · have hh := Lib.hid (withA_hit (fs := y.fs) (a := a) hlt (by rw [Hg.out]; exact hq))
        have htest : ((y.fs[i].args.length : Int) == a) = true := by simpa using hq
        clear hq
        go_wp2_with (at_builtin; refine wpList_append_own _ rfl (.tmp 32) (.tmp 34) 22 rfl w3.heap.size 3 i0 (.int .i64 0) 1 8 Tryz.underlying22 hi0 hz0 hz1 hz2 rfl (by decide) _ _ _ rfl (hown.out.alloc _) ⟨wr.heap.size, 0, none⟩ 1 1 [.int .i64 i] rfl rfl ?c1 ?c2 ?c3 ?c4 ?c5 ?_)
        case c1 =>
          intro n u hi
          match n, hi with
          | 0, hi => simp at hi; subst hi; simp [Addr.add]
        case c2 => intro u hu; simp at hu; subst hu; rfl
        case c3 => unfold maxLen; omega
        case c4 => omega
        case c5 => simp; omega
        intro v' w2 hown2 hgrow _
        have hb2 : Below w3.heap.size w3 w2 := (hb.out.alloc (by omega) _).grown hgrow (by simp; omega) (fun k hk => by
          obtain ⟨_, ⟨e, _⟩ | ⟨g, cap3, cur, e, hg, _⟩⟩ := hown.out
          · rw [e] at hk; simp [Value.ownBlock] at hk
          · rw [e] at hk; simp [Value.ownBlock] at hk; omega)
        have Hb2 := Lib.hid hb2
        have Hown2 := Lib.hid hown2
        clear hown2 hgrow hb2
        go_wp2
        go_roundw
        case rel => exact ⟨j + 1, by omega, by go_num, Hb2.out, ownsRow_cast Hown2.out (by rw [hh.out]; simp) (by rw [hh.out, Hei.out]; simp)⟩
        case measure => simp [intOf]; omega
      · have hh := Lib.hid (withA_miss (fs := y.fs) (a := a) hlt (by rw [Hg.out]; exact hq))
        have htest : ((y.fs[i].args.length : Int) == a) = false := by simpa using hq
        clear hq
        go_wp2
        go_roundw
        case rel => exact ⟨j + 1, by omega, by go_num, hb.out, by rw [hh.out]; exact hown.out⟩
        case measure => simp [intOf]; omega
    · obtain rfl : j = zs.length := by omega
      go_wp2
      go_ret
      refine ⟨_, rfl, HbW.out, ?_⟩
      have e : namedV y nm a = withA y.fs a (zs.take zs.length) := by rw [List.take_length, Hzs.out, withA_idxs, hfin.out]
      rw [e]
      exact ownsRow_base hown.out (by omega)
end Go.Proofs.YtnmbjmocnafekaaGreatDoor

