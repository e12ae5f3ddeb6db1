/-
  The contracts of the program's MadeType, coercionsIn, CoercionsIn.
-/
import Derived.Test.YthldlbbkbbgdkaaGreatDoorQmry
namespace Go.Proofs.YthldlbbkbbgdkaaGreatDoor
open Go.RowKit

def isApM : Mk → Bool
  | .a0 _ => true
  | .a1 _ _ => true
  | .a2 _ _ _ => true
  | _ => false
def partsM : Mk → List Mk
  | .a1 _ m => [m]
  | .a2 _ m p => [m, p]
  | _ => []
def ixM : Mk → Nat
  | .a0 i => i
  | .a1 i _ => i
  | .a2 i _ _ => i
  | _ => 0
theorem MNodeAt.open {w : World} {B : Nat} {m : Mk} {o : Value} (h : MNodeAt w B m o) (ha : isApM m = true) : ∃ ps vs, o = .iface 176 (.agg #[.int .i64 (ixM m), ps]) ∧ w.ownsRow B 82 1 ps (partsM m).length vs ∧ MNodesAt w B (partsM m) vs := by
  match m, ha, h with
  | .a0 i, _, ⟨ps, e, h⟩ => exact ⟨ps, [], e, h, trivial⟩
  | .a1 i m, _, ⟨ps, v, e, h, g⟩ => exact ⟨ps, [v], e, h, g, trivial⟩
  | .a2 i m p, _, ⟨ps, v, v2, e, h, g, g2⟩ => exact ⟨ps, [v, v2], e, h, g, g2, trivial⟩
theorem partsM_two (m : Mk) : (partsM m).length ≤ 2 := by cases m <;> simp [partsM]
theorem partsM_len {m p : Mk} (h : p ∈ partsM m) : (mkT p).length + 3 ≤ (mkT m).length := by
  match m, h with
  | .a1 i m, h => simp [partsM] at h; subst h; simp [mkT, dg]
  | .a2 i m q, h =>
    simp [partsM] at h
    rcases h with h | h
    · subst h; simp [mkT, dg] <;> omega
    · subst h; simp [mkT, dg] <;> omega
theorem coN_sum {m : Mk} (ha : isApM m = true) : coN m = ((partsM m).map coN).sum := by
  match m, ha with
  | .a0 i, _ => rfl
  | .a1 i m, _ => simp [coN, partsM]
  | .a2 i m p, _ => simp [coN, partsM]
theorem MNodesAt.at {w : World} {B : Nat} : ∀ {ts : List Mk} {vs : List Value}, MNodesAt w B ts vs → ∀ i, ∀ (h1 : i < ts.length), ∃ v, vs[i]? = some v ∧ MNodeAt w B ts[i] v
  | t :: ts, v :: vs, ⟨h, g⟩, i, h1 => by
    cases i with
    | zero => exact ⟨v, rfl, h⟩
    | succ i => exact g.at i (by simpa using h1)
theorem sum_le9 : ∀ (l : List Nat) (k : Nat), (l.take k).sum ≤ l.sum
  | [], k => by simp
  | a :: l, 0 => by simp
  | a :: l, k + 1 => by have := sum_le9 l k; simp only [List.take_succ_cons, List.sum_cons]; omega
theorem own_lt0 {w : World} {N : Nat} {t : TypeId} {v : Value} {n : Nat} {xs : List Value} (h : w.ownsRow N t 1 v n xs) : ∃ A c, v = .slice A n c := by
  obtain ⟨_, ⟨rfl, rfl⟩ | ⟨g, cap3, cur, rfl, _⟩⟩ := h
  · exact ⟨_, _, rfl⟩
  · exact ⟨_, _, rfl⟩

theorem asKK (x : Value) (w : World) : (Instr.typeAssert (.iface 173 x) 82 173 true).run Tryz.prog w = .ok (.tuple #[x, .bool true]) w := by
  simp [Instr.typeAssert, run_underlying Tryz.underlying173]
theorem asLK (x : Value) (w : World) : (Instr.typeAssert (.iface 201 x) 82 173 true).run Tryz.prog w = .ok (.tuple #[.agg #[.int .i64 0, .nilIface], .bool false]) w := by
  simp [Instr.typeAssert, run_underlying Tryz.underlying173, Tryz.zeroValue173]
theorem asAK (x : Value) (w : World) : (Instr.typeAssert (.iface 176 x) 82 173 true).run Tryz.prog w = .ok (.tuple #[.agg #[.int .i64 0, .nilIface], .bool false]) w := by
  simp [Instr.typeAssert, run_underlying Tryz.underlying173, Tryz.zeroValue173]
theorem asAA (x : Value) (w : World) : (Instr.typeAssert (.iface 176 x) 82 176 true).run Tryz.prog w = .ok (.tuple #[x, .bool true]) w := by
  simp [Instr.typeAssert, run_underlying Tryz.underlying176]
theorem asLA (x : Value) (w : World) : (Instr.typeAssert (.iface 201 x) 82 176 true).run Tryz.prog w = .ok (.tuple #[.agg #[.int .i64 0, .slice none 0 0], .bool false]) w := by
  simp [Instr.typeAssert, run_underlying Tryz.underlying176, Tryz.zeroValue176]

set_option maxRecDepth 100000 in
set_option maxHeartbeats 4000000 in
theorem coIn_any : ∀ (q : Nat) (m : Mk) (B : Nat) (o : Value) (w : World), (mkT m).length ≤ q → (mkT m).length ≤ 1048576 → MNodeAt w B m o →
    Calls Tryz.prog 64 #[o] w fun e w' => e = .returned (.int .i64 (coN m)) ∧ Below w.heap.size w w' := by
  intro q
  induction q with
  | zero =>
    intro m B o w hq
    exact absurd hq (by cases m <;> simp [mkT, dg])
  | succ q ih =>
    intro m B o w hq hm hnod
    have IH := Lib.hid ih
    clear ih
    have fK := asKK
    have fL := asLK
    have fA := asAK
    have gA := asAA
    have gL := asLA
    cases hc : isApM m with
    | false =>
      match m, hc, hnod with
      | .lit k v, _, hnod =>
        have e : o = .iface 201 (.agg #[.int .i64 k, .int .i64 v]) := hnod
        subst e
        clear hnod
        go_enter Tryz.func64, Tryz.ntmps64
        go_wp2
        go_ret
        exact ⟨rfl, Below.refl _ _⟩
      | .co i m, _, ⟨v, e, hv⟩ =>
        subst e
        have hlen : (mkT m).length + 3 ≤ (mkT (.co i m)).length := by simp [mkT, dg]
        have hcn := coN_le m
        have hb0 : Below w.heap.size w (w.alloc (.cells #[.int .i64 i, v] 173)) := (Below.refl _ _).alloc (Nat.le_refl _) _
        have HC := Lib.hid (IH.out m B v (w.alloc (.cells #[.int .i64 i, v] 173)) (by omega) (by omega) (hv.same fun g _ hg => hb0.block g hg))
        have HB0 := Lib.hid hb0
        obtain ⟨T, x, rfl⟩ := hv.form
        have m1 := (Row.new w 173 [.int .i64 i, .iface T x]).cell 1
        simp only [List.getElem?_cons_zero, List.getElem?_cons_succ] at m1
        obtain ⟨c, hc⟩ : ∃ c, c = coN m := ⟨_, rfl⟩
        have hfin : Hid (coN (.co i m) = 1 + c) := by show _ = _; rw [hc]; rfl
        rw [← hc] at HC hcn
        clear hv hb0 hc IH
        go_enter Tryz.func64, Tryz.ntmps64
        go_wp2_with fail
        refine HC.out.mono ?_
        rintro e w2 ⟨rfl, hb2⟩
        have HB2 := Lib.hid (HB0.out.trans (hb2.mono HB0.out.size))
        clear hb2
        go_wp2
        go_ret
        exact ⟨by rw [hfin.out]; go_num, HB2.out⟩
    | true =>
      obtain ⟨ps, vs, rfl, hown, hnods⟩ := hnod.open hc
      obtain ⟨PA, PC, rfl⟩ := own_lt0 hown
      obtain ⟨ts, hts⟩ : ∃ ts, ts = partsM m := ⟨_, rfl⟩
      have hall : Hid (∀ p ∈ ts, (mkT p).length + 3 ≤ (mkT m).length) := fun p hp => partsM_len (by rw [← hts]; exact hp)
      have hlen2 : ts.length ≤ 2 := by rw [hts]; exact partsM_two m
      have hdat : Hid (coN m = (ts.map coN).sum) := by show _ = _; rw [coN_sum hc, hts]
      rw [← hts] at hown hnods ⊢
      have Hown := Lib.hid hown
      have Hnods := Lib.hid hnods
      have hb0 : Below w.heap.size w (w.alloc (.cells #[.int .i64 (ixM m), .slice PA ts.length PC] 176)) := (Below.refl _ _).alloc (Nat.le_refl _) _
      have HB0 := Lib.hid hb0
      have r2 := Row.new w 176 [.int .i64 (ixM m), .slice PA ts.length PC]
      have m1 := r2.cell 1
      simp only [List.getElem?_cons_zero, List.getElem?_cons_succ] at m1
      clear hown hnods hnod hc hb0 r2 hts
      go_enter Tryz.func64, Tryz.ntmps64
      go_wp2_with fail
      go_loopw [5, 23] (fun s i wr => ∃ k : Nat, k ≤ ts.length ∧ i = .int .i64 k ∧ s = .int .i64 ((((ts.map coN).take k).sum : Nat) : Int) ∧ Hid (Below w.heap.size w wr)) (fun _ i _ => ts.length - (intOf i).toNat)
      case atStart => exact ⟨0, Nat.zero_le _, rfl, by simp, HB0.out⟩
      case round =>
        obtain ⟨k, hk, rfl, rfl, hbr⟩ := hrel
        by_cases hkl : k < ts.length
        · obtain ⟨g, hPA, hcell⟩ := own_at7 Hown.out k hkl
          obtain ⟨v, hv, hnv⟩ := Hnods.out.at k hkl
          have hgw : g < w.heap.size := World.block_lt_of_cell? _ _ (hcell.trans hv)
          have hck : wr.cell? ⟨g, k, none⟩ = some v := (World.cell?_of_block (w := w) (hbr.out.block g hgw)).trans (hcell.trans hv)
          obtain ⟨T, x, rfl⟩ := hnv.form
          have hpl := hall.out ts[k] (List.getElem_mem hkl)
          have hsl := coN_le ts[k]
          have HC := Lib.hid (IH.out ts[k] B _ wr (by omega) (by omega) (hnv.same fun g _ hg => hbr.out.block g hg))
          have htk : Hid (((ts.map coN).take (k + 1)).sum = ((ts.map coN).take k).sum + coN ts[k]) := by show _ = _; rw [sum_take (by simpa using hkl)]; simp
          have hacc : ((ts.map coN).take k).sum ≤ 1048576 := by have h1 := coN_le m; rw [hdat.out] at h1; have h2 := sum_le9 (ts.map coN) k; omega
          subst hPA
          obtain ⟨acc, ha⟩ : ∃ acc : Nat, acc = ((ts.map coN).take k).sum := ⟨_, rfl⟩
          rw [← ha] at htk hacc ⊢
          obtain ⟨sk, hsk⟩ : ∃ sk, sk = coN ts[k] := ⟨_, rfl⟩
          rw [← hsk] at HC htk hsl
          clear hcell hv hnv ha hsk
          go_wp2_with (first | (go_at_call 64; refine HC.out.mono ?_; rintro e w2 ⟨rfl, hb2⟩; have HB2 := Lib.hid (hbr.out.trans (hb2.mono hbr.out.size)); clear hb2))
          go_roundw
          case rel => exact ⟨k + 1, by omega, by go_num, by rw [htk.out]; go_num, HB2.out⟩
          case measure => simp [intOf]; omega
        · have hke : k = ts.length := by omega
          subst hke
          have hbnd := coN_le m
          have hki : ¬ ((ts.length : Int) < (ts.length : Int)) := by omega
          obtain ⟨acc, ha⟩ : ∃ acc : Nat, acc = (ts.map coN).sum := ⟨_, rfl⟩
          have hfin : Hid (coN m = (ts.map coN).sum) := hdat
          rw [show ((ts.map coN).take ts.length).sum = (ts.map coN).sum by rw [List.take_of_length_le (by simp)]]
          rw [← ha] at hfin ⊢
          rw [hfin.out] at hbnd
          clear ha hki
          go_wp2
          go_ret
          exact ⟨by rw [hfin.out]; rfl, hbr.out⟩

set_option maxRecDepth 100000 in
set_option maxHeartbeats 4000000 in
theorem implCoIn_any (lo hi n : Nat) (a : Addr) (sv cv fv : Value) (y : Sy) (L : List UInt8) (w : World) (hv : SyAt w lo hi sv cv fv y) (hB : hi ≤ w.heap.size) (he : Ev w n a) (hn : n ≤ w.heap.size) (hm : L.length ≤ 1048576) :
    Calls Tryz.prog 26 #[.agg #[sv, cv, fv], .string (str L)] w fun e w' => e = .returned (.int .i64 (cnM y L)) ∧ Below w.heap.size w w' := by
  obtain ⟨A1, cap1, rfl, _, _, _⟩ := hv.1.1.form
  obtain ⟨A2, cap2, rfl, _, _, _⟩ := hv.1.2.form
  obtain ⟨A3, cap3, rfl, _, _, _⟩ := hv.2.form
  have hb1 : Below w.heap.size w (w.alloc (.cells #[.slice A1 y.ty.sizes.length cap1, .slice A2 y.ty.cos.length cap2, .slice A3 y.fs.length cap3] 37)) := (Below.refl _ _).alloc (Nat.le_refl _) _
  have HR := Lib.hid (readMade_any lo hi n a _ _ _ y L _ (hv.below hb1 hB) (by rw [World.size_alloc]; omega) (he.keep (b := w.heap.size) ((Keep.refl _ _).of_below hb1) hn) (by rw [World.size_alloc]; omega) hm)
  have HR1 := Row.new w 37 [.slice A1 y.ty.sizes.length cap1, .slice A2 y.ty.cos.length cap2, .slice A3 y.fs.length cap3]
  have p0 := HR1.cell 0
  have p1 := HR1.cell 1
  have p2 := HR1.cell 2
  simp only [List.getElem?_cons_zero, List.getElem?_cons_succ] at p0 p1 p2
  have HB1 := Lib.hid hb1
  clear hv hb1 HR1 he
  go_enter Tryz.func26, Tryz.ntmps26
  go_wp2_with fail
  refine HR.out.mono ?_
  rintro e w2 ⟨⟨m, o, hr, hok, rfl, hno⟩ | ⟨hr, rfl⟩, hb2⟩
  · have HB2 := Lib.hid (HB1.out.trans (hb2.mono HB1.out.size))
    have E4 := Lib.hid (vals_some hr).2.2.2.1
    have hlm := readM_len hr
    have HC := Lib.hid (coIn_any (mkT m).length m _ o w2 (Nat.le_refl _) (by omega) hno)
    obtain ⟨T, x, rfl⟩ := hno.form
    clear hr hok hno hb2 HR HB1
    go_wp2_with fail
    refine HC.out.mono ?_
    rintro e w3 ⟨rfl, hb3⟩
    have HB3 := Lib.hid (HB2.out.trans (hb3.mono HB2.out.size))
    clear hb3
    go_wp2
    go_ret
    exact ⟨by rw [E4.out]; rfl, HB3.out⟩
  · have HB2 := Lib.hid (HB1.out.trans (hb2.mono HB1.out.size))
    have E4 := Lib.hid (vals_none hr).2.2.2.1
    clear hr hb2 HR HB1
    go_wp2
    go_ret
    exact ⟨by rw [E4.out]; rfl, HB2.out⟩

set_option maxRecDepth 100000 in
set_option maxHeartbeats 4000000 in
theorem implMade_any (lo hi n : Nat) (a : Addr) (sv cv fv : Value) (y : Sy) (L : List UInt8) (w : World) (hv : SyAt w lo hi sv cv fv y) (hB : hi ≤ w.heap.size) (he : Ev w n a) (hn : n ≤ w.heap.size) (hm : L.length ≤ 1048576) :
    Calls Tryz.prog 24 #[.agg #[sv, cv, fv], .string (str L)] w fun e w' => e = .returned (.tuple #[.int .i64 (kdM y L), .bool (okM y L)]) ∧ Below w.heap.size w w' := by
  obtain ⟨A1, cap1, rfl, _, _, _⟩ := hv.1.1.form
  obtain ⟨A2, cap2, rfl, _, _, _⟩ := hv.1.2.form
  obtain ⟨A3, cap3, rfl, _, _, _⟩ := hv.2.form
  have hb1 : Below w.heap.size w (w.alloc (.cells #[.slice A1 y.ty.sizes.length cap1, .slice A2 y.ty.cos.length cap2, .slice A3 y.fs.length cap3] 37)) := (Below.refl _ _).alloc (Nat.le_refl _) _
  have HR := Lib.hid (readMade_any lo hi n a _ _ _ y L _ (hv.below hb1 hB) (by rw [World.size_alloc]; omega) (he.keep (b := w.heap.size) ((Keep.refl _ _).of_below hb1) hn) (by rw [World.size_alloc]; omega) hm)
  have hR1 := Row.new w 37 [.slice A1 y.ty.sizes.length cap1, .slice A2 y.ty.cos.length cap2, .slice A3 y.fs.length cap3]
  have HR1 := Lib.hid hR1
  have p0 := hR1.cell 0
  have p1 := hR1.cell 1
  have p2 := hR1.cell 2
  simp only [List.getElem?_cons_zero, List.getElem?_cons_succ] at p0 p1 p2
  have HB1 := Lib.hid hb1
  have HV := Lib.hid hv
  clear hv hb1 hR1 he
  go_enter Tryz.func24, Tryz.ntmps24
  go_wp2_with fail
  refine HR.out.mono ?_
  clear p0 p1 p2
  rintro e w2 ⟨⟨m, o, hr, hok, rfl, hno⟩ | ⟨hr, rfl⟩, hb2⟩
  · have HB2 := Lib.hid (HB1.out.trans (hb2.mono HB1.out.size))
    have R2 := HR1.out.keep (hb2.block _ (by rw [World.size_alloc]; omega))
    have q0 := R2.cell 0
    have q1 := R2.cell 1
    have q2 := R2.cell 2
    simp only [List.getElem?_cons_zero, List.getElem?_cons_succ] at q0 q1 q2
    obtain ⟨e1, e2, _⟩ := vals_some hr
    have E1 := Lib.hid e1
    have E2 := Lib.hid e2
    obtain ⟨T, x, fid, rfl, hmeth, hnil, hent, hkd⟩ := hno.kind hok
    have HC := Lib.hid (hkd lo hi _ _ _ w2 (HV.out.below HB2.out hB) (Nat.le_trans hB HB2.out.size))
    clear hr hok hno hb2 HR HB1 e1 e2 R2 hkd
    go_wp2_with fail
    refine HC.out.mono ?_
    rintro e w3 ⟨rfl, hb3⟩
    have HB3 := Lib.hid (HB2.out.trans (hb3.mono HB2.out.size))
    clear hb3
    go_wp2
    try rw [Exit.noGoto_ret]
    refine bodyPost_ret (v := .tuple #[.int .i64 (kindM y m), .bool true]) (by simp [results, Tryz.results24, go_sem]) rfl ?_
    exact ⟨by rw [E1.out, E2.out], HB3.out⟩
  · have HB2 := Lib.hid (HB1.out.trans (hb2.mono HB1.out.size))
    obtain ⟨e1, e2, _⟩ := vals_none hr
    have E1 := Lib.hid e1
    have E2 := Lib.hid e2
    clear hr hb2 HR HB1 e1 e2
    go_wp2
    try rw [Exit.noGoto_ret]
    refine bodyPost_ret (v := .tuple #[.int .i64 (-1), .bool false]) (by simp [results, Tryz.results24, go_sem]) rfl ?_
    exact ⟨by rw [E1.out, E2.out], HB2.out⟩
end Go.Proofs.YthldlbbkbbgdkaaGreatDoor

