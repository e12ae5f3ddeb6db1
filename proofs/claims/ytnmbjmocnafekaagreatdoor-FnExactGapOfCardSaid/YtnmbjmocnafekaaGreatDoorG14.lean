/-
  The contract of the program's readTerm, whose deferred call recovers.
  The program's type assertions on nodes.
  The contracts of the program's TermValid, readCall, HeadOf, LiteralOf, sizeOf, SizeOf, depthOf, DepthOf.
  The program's iterator over all calls: names, and types of arguments.
-/
import Derived.Test.YtnmbjmocnafekaaGreatDoorG13
import Derived.Defers
import Derived.Recover
import Derived.BigQuiet
import Derived.Test.YtnmbjmocnafekaaGreatDoorG9
import Derived.Test.YtnmbjmocnafekaaGreatDoorG11
namespace Go.Proofs.YtnmbjmocnafekaaGreatDoor
open Go.RowKit

theorem catch_panicking (u : TypeId) (pv : Value) (older : List PanicEntry) (w : World) :
    CallsD Tryz.prog 137 #[] (.panicking ({ v := .iface u pv, recovered := false } :: older)) w fun e u' w' =>
      e = .returned (.tuple #[]) ∧ u' = .panicking ({ v := .iface u pv, recovered := true } :: older) ∧ w' = w := by
  refine callsD_of_wpS Tryz.func137 rfl fun c₀ cs hu => ?_
  apply wpS_region
  simp [wpOpsS, go_sem, recoverD, hu, Tryz.ntmps137, bodyPostS, results, Tryz.results137]
theorem catch_idle (w : World) :
    CallsD Tryz.prog 137 #[] .returning w fun e u' w' => e = .returned (.tuple #[]) ∧ u' = .returning ∧ w' = w := by
  refine callsD_of_wpS Tryz.func137 rfl fun c₀ cs hu => ?_
  apply wpS_region
  cases c₀
  simp_all [wpOpsS, go_sem, recoverD, Tryz.ntmps137, bodyPostS, results, Tryz.results137]

theorem parseT_yes {l : List UInt8} {t : Tm} (h : l.length ≤ 60) (e : rdTm l.length l = some (t, [])) : parseT l = some t := by unfold parseT; rw [if_pos h, e]
theorem parseT_rest {l r : List UInt8} {t : Tm} (hr : r ≠ []) (e : rdTm l.length l = some (t, r)) : parseT l = none := by
  unfold parseT
  split
  · rw [e]
    cases r with
    | nil => exact absurd rfl hr
    | cons c r => rfl
  · rfl
theorem parseT_no {l : List UInt8} (e : rdTm l.length l = none) : parseT l = none := by unfold parseT; rw [e]; split <;> rfl

/-- What reading a whole text comes to. -/
def ReadPost (l : List UInt8) (w : World) (e : Ending) (w' : World) : Prop :=
  ((∃ t o, parseT l = some t ∧ e = .returned (.tuple #[o, .bool true]) ∧ NodeAt w' w.heap.size t o) ∨ (parseT l = none ∧ e = .returned (.tuple #[.nilIface, .bool false]))) ∧ Below w.heap.size w w'

set_option maxRecDepth 100000 in
set_option maxHeartbeats 4000000 in
theorem readTerm_any (l : List UInt8) (n : Nat) (a : Addr) (w : World) (hv : Ev w n a) (hn : n ≤ w.heap.size) (hm : l.length ≤ 1048576) :
    Calls Tryz.prog 96 #[.string (str l)] w fun e w' => ReadPost l w e w' := by
  have hsz := str_size l
  by_cases h60 : l.length ≤ 60
  · have h1 : ¬ (60 : Int) < (l.length : Int) := by omega
    have hb1 : Below w.heap.size w (w.alloc (.cells #[.string (str l)] 235)) := (Below.refl _ _).alloc (Nat.le_refl _) _
    have HB1 := Lib.hid hb1
    have HT : Hid (Txr w.heap.size l (w.alloc (.cells #[.string (str l)] 235))) := Row.new w 235 [.string (str l)]
    have HV : Hid (Ev (w.alloc (.cells #[.string (str l)] 235)) n a) := hv.keep (b := w.heap.size) ((Keep.refl _ _).of_below hb1) hn
    clear hb1 hv
    go_enter_defers Tryz.func96, Tryz.ntmps96
    go_wp2_with fail
    refine (term_reads l.length w.heap.size l n a _ HT.out HV.out hn (Nat.le_refl _) hm).mono ?_
    rintro e w1 ⟨⟨t, r, o, hr, rfl, hnod, htx⟩ | ⟨hr, rfl⟩, hk1⟩
    · have HB : Hid (Below w.heap.size w w1) := HB1.out.trans (hk1.below (Nat.le_refl _) (by rw [World.size_alloc]; omega))
      have HN : Hid (NodeAt w1 w.heap.size t o) := hnod.base (by rw [World.size_alloc]; omega)
      have HV1 := Lib.hid (HV.out.keep hk1 hn)
      have HX := Lib.hid htx
      clear hk1 hnod htx HB1 HT HV
      cases r with
      | nil =>
        have hp := Lib.hid (parseT_yes h60 hr)
        clear hr
        go_wp2_with fail
        refine (end_yes w.heap.size w1 HX.out).mono ?_
        rintro e w2 ⟨rfl, rfl⟩
        go_wp2
        refine leaves_cons (f := 137) (args := #[]) (by simp) (by simp [go_sem]) ?_
        refine (catch_idle _).mono ?_
        rintro e u' w'' ⟨rfl, rfl, rfl⟩
        simp [Leaves, settle, results, Tryz.results96, go_sem]
        exact ⟨.inl ⟨t, o, hp.out, rfl, HN.out⟩, HB.out⟩
      | cons c r =>
        have hp := Lib.hid (parseT_rest (by simp) hr)
        clear hr
        go_wp2_with fail
        refine (end_no w.heap.size (c :: r) (by simp) n a w1 HX.out HV1.out).mono ?_
        rintro e w2 ⟨rfl, rfl⟩
        go_wp2
        refine leaves_cons (f := 137) (args := #[]) (by simp) (by simp [go_sem]) ?_
        refine (catch_panicking _ _ _ _).mono ?_
        rintro e u' w'' ⟨rfl, rfl, rfl⟩
        simp [Leaves, settle, results, Tryz.results96, go_sem]
        exact ⟨.inr ⟨hp.out, rfl⟩, HB.out⟩
    · have HB : Hid (Below w.heap.size w w1) := HB1.out.trans (hk1.below (Nat.le_refl _) (by rw [World.size_alloc]; omega))
      have hp := Lib.hid (parseT_no hr)
      clear hk1 hr HB1 HT HV
      go_wp2
      refine leaves_cons (f := 137) (args := #[]) (by simp) (by simp [go_sem]) ?_
      refine (catch_panicking _ _ _ _).mono ?_
      rintro e u' w'' ⟨rfl, rfl, rfl⟩
      simp [Leaves, settle, results, Tryz.results96, go_sem]
      exact ⟨.inr ⟨hp.out, rfl⟩, HB.out⟩
  · have h1 : (60 : Int) < (l.length : Int) := by omega
    have hp : Hid (parseT l = none) := by show _ = _; unfold parseT; rw [if_neg h60]
    clear hv
    go_enter_defers Tryz.func96, Tryz.ntmps96
    go_wp2
    simp [bodyPostD, Leaves, results, Tryz.results96, go_sem]
    exact ⟨.inr ⟨hp.out, rfl⟩, Below.refl _ _⟩
end Go.Proofs.YtnmbjmocnafekaaGreatDoor

namespace Go.Proofs.YtnmbjmocnafekaaGreatDoor
open Go.RowKit

theorem asCC (x : Value) (w : World) : (Instr.typeAssert (.iface 167 x) 93 167 true).run Tryz.prog w = .ok (.tuple #[x, .bool true]) w := by
  simp [Instr.typeAssert, run_underlying Tryz.underlying167]
theorem asLC (x : Value) (w : World) : (Instr.typeAssert (.iface 164 x) 93 167 true).run Tryz.prog w = .ok (.tuple #[.agg #[.string ⟨#[]⟩, .slice none 0 0], .bool false]) w := by
  simp [Instr.typeAssert, run_underlying Tryz.underlying167, Tryz.zeroValue167]
theorem asNC (w : World) : (Instr.typeAssert .nilIface 93 167 true).run Tryz.prog w = .ok (.tuple #[.agg #[.string ⟨#[]⟩, .slice none 0 0], .bool false]) w := by
  simp [Instr.typeAssert, run_underlying Tryz.underlying167, Tryz.zeroValue167]
theorem asLL (x : Value) (w : World) : (Instr.typeAssert (.iface 164 x) 93 164 true).run Tryz.prog w = .ok (.tuple #[x, .bool true]) w := by
  simp [Instr.typeAssert, run_underlying Tryz.underlying164]
theorem asCL (x : Value) (w : World) : (Instr.typeAssert (.iface 167 x) 93 164 true).run Tryz.prog w = .ok (.tuple #[.agg #[.int .i64 0, .int .i64 0], .bool false]) w := by
  simp [Instr.typeAssert, run_underlying Tryz.underlying164, Tryz.zeroValue164]
theorem asNL (w : World) : (Instr.typeAssert .nilIface 93 164 true).run Tryz.prog w = .ok (.tuple #[.agg #[.int .i64 0, .int .i64 0], .bool false]) w := by
  simp [Instr.typeAssert, run_underlying Tryz.underlying164, Tryz.zeroValue164]
end Go.Proofs.YtnmbjmocnafekaaGreatDoor

namespace Go.Proofs.YtnmbjmocnafekaaGreatDoor
open Go.RowKit

/-- A call's node, open. -/
theorem NodeAt.open {w : World} {B : Nat} {t : Tm} {o : Value} (h : NodeAt w B t o) (hc : isCallT t = true) : ∃ ps vs, o = .iface 167 (.agg #[.string (str (headT t)), ps]) ∧ w.ownsRow B 93 1 ps (partsT t).length vs ∧ NodesAt w B (partsT t) vs := by
  cases t with
  | lit k v => cases hc
  | c0 n => obtain ⟨ps, e, h⟩ := h; exact ⟨ps, [], e, h, trivial⟩
  | c1 n a => obtain ⟨ps, v, e, h, g⟩ := h; exact ⟨ps, [v], e, h, g, trivial⟩
  | c2 n a b => obtain ⟨ps, v, v2, e, h, g, g2⟩ := h; exact ⟨ps, [v, v2], e, h, g, g2, trivial⟩
theorem NodeAt.lit {w : World} {B : Nat} {t : Tm} {o : Value} (h : NodeAt w B t o) (hc : isCallT t = false) : ∃ k v, t = .lit k v ∧ o = .iface 164 (.agg #[.int .i64 k, .int .i64 v]) := by
  cases t with
  | lit k v => exact ⟨k, v, rfl, h⟩
  | c0 n => cases hc
  | c1 n a => cases hc
  | c2 n a b => cases hc
theorem NodesAt.at {w : World} {B : Nat} : ∀ {ts : List Tm} {vs : List Value}, NodesAt w B ts vs → ∀ i, ∀ (h1 : i < ts.length), ∃ v, vs[i]? = some v ∧ NodeAt w B ts[i] v
  | t :: ts, v :: vs, ⟨h, g⟩, i, h1 => by
    cases i with
    | zero => exact ⟨v, rfl, h⟩
    | succ i => exact g.at i (by simpa using h1)
/-- What a row gives a walk. -/
theorem own_cells {w : World} {N : Nat} {t : TypeId} {A : Option Addr} {n n' cap : Nat} {xs : List Value} (h : w.ownsRow N t 1 (.slice A n' cap) n xs) (h0 : 0 < n) : ∃ g, A = some ⟨g, 0, none⟩ ∧ N ≤ g ∧ g < w.heap.size ∧ n ≤ cap ∧ ∀ j, j < n → w.cell? ⟨g, j, none⟩ = xs[j]? := by
  obtain ⟨_, ⟨_, e⟩ | ⟨g, cap', cur, e, hg, hh, hc1, hc2, hcs, htake⟩⟩ := h
  · omega
  · injection e with e1 e2 e3
    subst e1; subst e2; subst e3
    refine ⟨g, rfl, hg, ?_, hc1, fun j hj => ?_⟩
    · rcases Nat.lt_or_ge g w.heap.size with h' | h'
      · exact h'
      · rw [Array.getElem?_eq_none h'] at hh; cases hh
    · have e : w.cell? ⟨g, j, none⟩ = cur[j]? := by simp [World.cell?, hh]
      rw [e]
      have e2 : cur[j]? = (cur.toList.take (n' * 1))[j]? := by
        rw [List.getElem?_take_of_lt (by omega)]
        simp
      rw [e2, htake]

/-- What reading a text as a call comes to. -/
def headP (l : List UInt8) : List UInt8 := match parseT l with
  | some t => headT t
  | none => []
theorem headP_some {l : List UInt8} {t : Tm} (h : parseT l = some t) : headP l = headT t := by unfold headP; rw [h]
theorem headP_none {l : List UInt8} (h : parseT l = none) : headP l = [] := by unfold headP; rw [h]
def callP (l : List UInt8) : Bool := match parseT l with
  | some t => isCallT t
  | none => false
theorem callP_some {l : List UInt8} {t : Tm} (h : parseT l = some t) : callP l = isCallT t := by unfold callP; rw [h]
theorem callP_none {l : List UInt8} (h : parseT l = none) : callP l = false := by unfold callP; rw [h]
def RcPost (l : List UInt8) (w : World) (e : Ending) (w' : World) : Prop :=
  (∃ ps vs ts, ts = ((parseT l).map partsT).getD [] ∧ e = .returned (.tuple #[.agg #[.string (str (headP l)), ps], .bool (callP l)]) ∧ w'.ownsRow w.heap.size 93 1 ps ts.length vs ∧ NodesAt w' w.heap.size ts vs) ∧ Below w.heap.size w w'
end Go.Proofs.YtnmbjmocnafekaaGreatDoor

namespace Go.Proofs.YtnmbjmocnafekaaGreatDoor
open Go.RowKit
attribute [local go_sem] Oper.semAt_some

/-- All calls of functions of one name, and all calls. -/
def kindsL (t : Nat) (nm : List UInt8) (n : Nat) : List (List UInt8 × List Int) := (rowsL (List.replicate n (t : Int))).map fun ks => (nm, ks)
def callsN (t : Nat) (nm : List UInt8) : List (List UInt8 × List Int) := ((List.range 3).map (kindsL t nm)).flatten
def callsL (t : Nat) (names : List (List UInt8)) : List (List UInt8 × List Int) := (names.map (callsN t)).flatten
/-- A call that is yielded: a name, and a row of memory of its own. -/
def CallG (base : Nat) (p : List UInt8 × List Int) (O : Nat → Prop) (A : World) (vs : Array Value) : Prop :=
  ∃ v, vs = #[.string (str p.1), v] ∧ A.ownsRow base 3 1 v p.2.length (p.2.map (Value.int .i64)) ∧ (∀ z ∈ p.2, I64 z) ∧ ∀ b, v.ownBlock = some b → ¬ O b
theorem CallG.put {base : Nat} {p : List UInt8 × List Int} {O : Nat → Prop} {A : World} {vs : Array Value} {k : Nat} {o' : Obj} {lp : Loop} (h : CallG base p O A vs) (hlp : A.heap[k]? = some (.loop lp)) : CallG base p O (A.putObj k o') vs := by
  obtain ⟨v, h1, h3, h4, h5⟩ := h
  exact ⟨v, h1, owns_putL h3 hlp, h4, h5⟩
theorem CallG.size {base : Nat} {p : List UInt8 × List Int} {O : Nat → Prop} {A : World} {vs : Array Value} (h : CallG base p O A vs) : vs.size = 2 := by
  obtain ⟨v, rfl, _⟩ := h
  rfl
theorem repeat_any (g : Nat) (t : Int) (n : Nat) (hn : n < 3) (w : World) (hg : g < w.heap.size) (hc : w.cell? ⟨g, 0, none⟩ = some (.int .i64 t)) (h64 : I64 t) :
    Calls Tryz.prog 117 #[.slice (some ⟨g, 0, none⟩) 1 1, .int .i64 ((n : Nat) : Int)] w fun e w' => ∃ A c, e = .returned (.slice A n c) ∧ Below w.heap.size w w' ∧ IntsIn w' (fun b => w.heap.size ≤ b ∧ b < w'.heap.size) (.slice A n c) (List.replicate n t) := by
  have h3 : n = 0 ∨ n = 1 ∨ n = 2 := by omega
  rcases h3 with rfl | rfl | rfl
  · refine (repeat_zero g t w).mono ?_
    rintro e w' ⟨rfl, hb⟩
    exact ⟨_, _, rfl, hb, _, 0, rfl, Nat.le_refl _, by unfold maxLen; omega, fun z hz => (by cases hz), fun h => absurd h (by simp)⟩
  · refine (repeat_one g t w hg hc).mono ?_
    rintro e w' ⟨rfl, hb, hr⟩
    refine ⟨_, _, rfl, hb, _, 1, rfl, Nat.le_refl _, by unfold maxLen; omega, fun z hz => (by simp at hz; subst hz; exact h64), fun _ => ⟨w.heap.size, 0, rfl, ⟨Nat.le_refl _, hr.lt⟩, fun k hk => ?_⟩⟩
    obtain rfl : k = 0 := by simp at hk; omega
    exact hr.cell 0
  · refine (repeat_two g t w hg hc).mono ?_
    rintro e w' ⟨rfl, hb, hr⟩
    refine ⟨_, _, rfl, hb, _, 2, rfl, Nat.le_refl _, by unfold maxLen; omega, fun z hz => (by simp [List.replicate] at hz; subst hz; exact h64), fun _ => ⟨w.heap.size, 0, rfl, ⟨Nat.le_refl _, hr.lt⟩, fun k hk => ?_⟩⟩
    have hk2 : k = 0 ∨ k = 1 := by simp at hk; omega
    rcases hk2 with rfl | rfl
    · exact hr.cell 0
    · exact hr.cell 1

set_option maxRecDepth 100000 in
set_option maxHeartbeats 1000000 in
theorem calls_any (A1 A2 A3 : Option Addr) (n1 n2 n3 c1 c2 c3 : Nat) (w : World) :
    Calls Tryz.prog 74 #[.agg #[.slice A1 n1 c1, .slice A2 n2 c2, .slice A3 n3 c3]] w fun e w' => e = .returned (.func (.func 112) #[] #[.pointer (some ⟨w.heap.size, 0, none⟩)]) ∧ w.alloc (.cells #[.slice A1 n1 c1, .slice A2 n2 c2, .slice A3 n3 c3] 36) = w' := by
  have hmf : ∀ (fn : Fn) (first cap : Array Value) (w : World), (Instr.makeFunc fn first cap).run Tryz.prog w = .ok (.func fn first cap) w := fun _ _ _ _ => rfl
  go_enter Tryz.func74, Tryz.ntmps74
  go_wp2
  go_ret
  exact ⟨rfl, rfl⟩

set_option maxRecDepth 100000 in
set_option maxHeartbeats 4000000 in
theorem callsIter_any (lo hi : Nat) (sv cv fv : Value) (y : Sy) (hy : SyOk y) (_hbk : y.bulk ≤ 1048576) (l : Nat) (T : Nat → Prop) (J Jx : List (List UInt8 × List Int) → (Nat → Prop) → World → Prop) (p1 : Nat) (w : World) (hC : CliG (CallG w.heap.size) (callsL y.ty.sizes.length (namesY y)) l T J Jx) (hT1 : T p1) (hTw : ∀ k, T k → k < w.heap.size) (hp1 : Row w p1 36 [sv, cv, fv]) (hv : SyAt w lo hi sv cv fv y) (hB : hi ≤ w.heap.size) (hJ : J [] (fun _ => False) w) :
    Calls Tryz.prog 112 #[.func (.yield l) #[] #[], .pointer (some ⟨p1, 0, none⟩)] w fun e w' => (∃ v, e = .returned v) ∧ ((∃ O', J (callsL y.ty.sizes.length (namesY y)) O' w') ∨ (∃ s' O', Jx s' O' w')) := by
  obtain ⟨A1, cap1, rfl, _, _, _⟩ := hv.1.1.form
  obtain ⟨A2, cap2, rfl, _, _, _⟩ := hv.1.2.form
  obtain ⟨A3, cap3, rfl, _, _, _⟩ := hv.2.form
  have hnl := namesY_len y
  obtain ⟨names, hnames⟩ : ∃ ns, ns = namesY y := ⟨_, rfl⟩
  rw [← hnames] at hC hnl ⊢
  have HNE := Lib.hid hnames
  clear hnames
  have hs5 := (sizesOk_of (tyOk_sizes hy.ty)).2.1
  have hfew := hy.few
  have hnm : ∀ i, ∀ (hi : i < y.fs.length), y.fs[i].name.size ≤ maxLen := fun i hi => by
    obtain ⟨b, e, _⟩ := (hy.each i hi).name
    rw [e]
    show (1 : Nat) ≤ maxLen
    unfold maxLen
    omega
  have HC := Lib.hid hC
  have HTw := Lib.hid hTw
  have HP1 := Lib.hid hp1
  have HJ := Lib.hid hJ
  obtain ⟨W1, hW1⟩ : ∃ u, u = w.alloc (.cells #[.func (.yield l) #[] #[]] 119) := ⟨_, rfl⟩
  have hb1 : Below w.heap.size w W1 := by rw [hW1]; exact (Below.refl _ _).alloc (Nat.le_refl _) _
  have h1s : W1.heap.size = w.heap.size + 1 := by rw [hW1]; simp
  have r1 : Row W1 w.heap.size 119 [.func (.yield l) #[] #[]] := by rw [hW1]; exact Row.new _ _ _
  have hp1' := hp1.below hb1 hp1.lt
  have q2 := hp1'.cell 2
  simp only [List.getElem?_cons_zero, List.getElem?_cons_succ] at q2
  have HIX := Lib.hid (indicesByName_any lo hi _ y.fs W1 (hv.below hb1 hB).2 (by omega) (by omega))
  have HB1 := Lib.hid hb1
  have HR1 := Lib.hid r1
  have HNM := Lib.hid hnm
  rw [hW1] at q2
  clear hC hTw hp1 hJ hb1 r1 hp1' hv hnm
  refine (callsIn_wide (n := 9)).1 ?_
  refine callsIn_of_wp_marks Tryz.func112 rfl trivial (wpIn_wide.2 ?_) rfl
  simp only [Tryz.ntmps112, List.size_toArray, List.length_cons, List.length_nil, Nat.reduceAdd, Nat.reduceSub, Array.replicate_succ, Array.replicate_zero, List.push_toArray, List.append_toArray, List.nil_append, List.cons_append]
  go_wp2_with fail
  rw [← hW1]
  refine HIX.out.mono ?_
  clear hW1 HIX q2
  rintro e w2 ⟨D, rfl, hb2, hG, hog⟩
  have hs2 := hb2.size
  rw [h1s] at hog
  have HSO := Lib.hid (sortedS_any y _ _ _ D w2 hG HNM.out hog (by omega))
  have HKY := Lib.hid (keysS_any (w.heap.size + 1) w2)
  have HB2 : Hid (Below w.heap.size w w2) := HB1.out.trans (hb2.mono (by omega))
  have HR2 : Hid (Row w2 w.heap.size 119 [.func (.yield l) #[] #[]]) := HR1.out.below hb2 (by omega)
  clear hb2 hG hog HR1
  go_wp2_with fail
  refine HKY.out.mono ?_
  rintro e wk ⟨rfl, rfl⟩
  clear HKY
  go_wp2_with fail
  refine HSO.out.mono ?_
  clear HSO
  rintro e w3 ⟨v, rfl, hb3, hown⟩
  have hs3 := hb3.size
  rw [World.size_alloc] at hs3
  have HB3 : Hid (Below w.heap.size w w3) := (HB2.out.alloc (by omega) _).trans (hb3.mono (by omega))
  have HR3 : Hid (Row w3 w.heap.size 119 [.func (.yield l) #[] #[]]) := (HR2.out.alloc _).below hb3 (by omega)
  rw [← HNE.out] at hown
  obtain ⟨NA, NC, rfl⟩ := owns_form hown
  have hncell : ∀ q, ∀ (hq : q < names.length), ∃ g, NA = some ⟨g, 0, none⟩ ∧ w2.heap.size < g ∧ g < w3.heap.size ∧ w3.cell? ⟨g, q, none⟩ = some (.string (str names[q])) := fun q hq => by
    obtain ⟨g, e, h1, h2, _, hcs⟩ := own_cells hown (by omega)
    exact ⟨g, e, by omega, h2, (hcs q hq).trans (by simp [hq])⟩
  have HNC := Lib.hid hncell
  have HSt : Hid (StG T J w w.heap.size 119 (.func (.yield l) #[] #[]) [] (fun b => w.heap.size ≤ b ∧ b < w3.heap.size) [] w3) :=
    ⟨HC.out.give _ _ _ _ (HC.out.step _ _ _ _ HJ.out (kept_of HB3.out)) (fun b hb => .inr hb), fun b hb => hb, kept_of HB3.out, HR3.out, ⟨Nat.le_refl _, by omega⟩, List.nodup_nil, fun d hd => (by cases hd)⟩
  clear hb3 hown hncell HB2 HR2
  go_wp2_with fail
  obtain ⟨REL, hREL⟩ : ∃ REL : Act → World → Prop, (fun a' wr => ∃ (i : Nat) (ix u4 u5 u14 u15 u16 u17 u18 u19 u20 u21 u22 u23 u24 u25 u26 u27 u34 u35 : Value) (s : List (List UInt8 × List Int)) (O : Nat → Prop) (dl : List Nat), i ≤ names.length ∧ ix = .int .i64 ((i : Nat) : Int) ∧ s = ((names.take i).map (callsN y.ty.sizes.length)).flatten ∧ Hid (StG T J w w.heap.size 119 (.func (.yield l) #[] #[]) s O dl wr) ∧ Hid (∀ q, ∀ (hq : q < names.length), ∃ g, NA = some ⟨g, 0, none⟩ ∧ O g ∧ wr.cell? ⟨g, q, none⟩ = some (.string (str names[q]))) ∧ a' = { tmps := #[.func (.yield l) #[] #[], .pointer (some ⟨p1, 0, none⟩), .pointer (some ⟨w.heap.size, 0, none⟩), undef, u4, u5, undef, .pointer (some ⟨p1, 2, none⟩), .slice A3 y.fs.length cap3, .map (some (w.heap.size + 1)), .func (.func 148) #[] #[.pointer (some ⟨w2.heap.size, 0, none⟩)], .slice NA names.length NC, .int .i64 ((names.length : Nat) : Int), ix, u14, u15, u16, u17, u18, u19, u20, u21, u22, u23, u24, u25, u26, u27, undef, undef, undef, undef, undef, undef, u34, u35], defers := mkD dl }) = REL := ⟨_, rfl⟩
  have HREL := Lib.hid hREL
  clear hREL
  refine wp_loop REL (fun a' _ => names.length - (intOf (a'.tmps.getD 13 undef)).toNat) ?_ ?_
  · rw [← HREL.out]
    exact ⟨0, _, undef, undef, undef, undef, undef, undef, undef, undef, undef, undef, undef, undef, undef, undef, undef, undef, undef, undef, [], _, [], Nat.zero_le _, rfl, by simp, HSt.out, fun q hq => by
      obtain ⟨g, e, h1, h2, h3⟩ := HNC.out q hq
      exact ⟨g, e, ⟨by omega, h2⟩, h3⟩, rfl⟩
  clear HSt HNC
  intro a' wr hrel
  rw [← HREL.out] at hrel
  obtain ⟨i, ix, u4, u5, u14, u15, u16, u17, u18, u19, u20, u21, u22, u23, u24, u25, u26, u27, u34, u35, s, O, dl, hi9, rfl, hs, hSt, hnb, rfl⟩ := hrel
  dsimp only
  obtain ⟨wa, rfl⟩ : ∃ u, u = wr := ⟨_, rfl⟩
  have hwr := hSt.out.kp.size
  by_cases hil : i < names.length
  · obtain ⟨ng, rfl, hng, hnc⟩ := hnb.out i hil
    have hiI : (i : Int) < (names.length : Int) := by omega
    obtain ⟨nm, hnm⟩ : ∃ nm, nm = names[i] := ⟨_, rfl⟩
    rw [← hnm] at hnc
    have Hnm := Lib.hid hnm
    have hb2 : Below wa.heap.size wa (wa.alloc (.cells #[.string (str nm)] 9)) := (Below.refl _ _).alloc (Nat.le_refl _) _
    have hSt1 := hSt.out.mine HC.out hb2
    have HSt1 := Lib.hid hSt1
    obtain ⟨nb, hnbe⟩ : ∃ b, b = wa.heap.size := ⟨_, rfl⟩
    have HRN : Hid (Row (wa.alloc (.cells #[.string (str nm)] 9)) nb 9 [.string (str nm)]) := by show Row _ _ _ _; rw [hnbe]; exact Row.new _ _ _
    have HNB1 : Hid (∀ q, ∀ (hq : q < names.length), ∃ g, some (⟨ng, 0, none⟩ : Addr) = some ⟨g, 0, none⟩ ∧ (O g ∨ (wa.heap.size ≤ g ∧ g < (wa.alloc (.cells #[.string (str nm)] 9)).heap.size)) ∧ (wa.alloc (.cells #[.string (str nm)] 9)).cell? ⟨g, q, none⟩ = some (.string (str names[q]))) := fun q hq => by
      obtain ⟨g, e, h1, h2⟩ := hnb.out q hq
      exact ⟨g, e, .inl h1, (World.cell?_of_block (w := wa) (hb2.block g (hSt.out.lo g h1).2)).trans h2⟩
    have HOB : Hid (O nb ∨ (wa.heap.size ≤ nb ∧ nb < (wa.alloc (.cells #[.string (str nm)] 9)).heap.size)) := .inr (by rw [hnbe]; simp)
    clear hSt1 hb2 hnm
    go_wp2_with fail
    rw [← hnbe]
    obtain ⟨REL2, hREL⟩ : ∃ REL : Act → World → Prop, (fun a' wr => ∃ (n : Nat) (nx u5 u18 u19 u20 u21 u22 u23 u24 u25 u26 u27 u34 : Value) (s2 : List (List UInt8 × List Int)) (O : Nat → Prop) (dl : List Nat), n ≤ 3 ∧ nx = .int .i64 ((n : Nat) : Int) ∧ s2 = s ++ ((List.range n).map (kindsL y.ty.sizes.length nm)).flatten ∧ Hid (StG T J w w.heap.size 119 (.func (.yield l) #[] #[]) s2 O dl wr) ∧ Hid (∀ q, ∀ (hq : q < names.length), ∃ g, some (⟨ng, 0, none⟩ : Addr) = some ⟨g, 0, none⟩ ∧ O g ∧ wr.cell? ⟨g, q, none⟩ = some (.string (str names[q]))) ∧ Hid (O nb ∧ Row wr nb 9 [.string (str nm)]) ∧ a' = { tmps := #[.func (.yield l) #[] #[], .pointer (some ⟨p1, 0, none⟩), .pointer (some ⟨w.heap.size, 0, none⟩), undef, .pointer (some ⟨nb, 0, none⟩), u5, undef, .pointer (some ⟨p1, 2, none⟩), .slice A3 y.fs.length cap3, .map (some (w.heap.size + 1)), .func (.func 148) #[] #[.pointer (some ⟨w2.heap.size, 0, none⟩)], .slice (some ⟨ng, 0, none⟩) names.length NC, .int .i64 ((names.length : Nat) : Int), .int .i64 ((i : Nat) : Int), .bool true, .pointer (some ⟨ng, i, none⟩), .string (str nm), nx, u18, u19, u20, u21, u22, u23, u24, u25, u26, u27, undef, undef, undef, undef, undef, undef, u34, u35], defers := mkD dl }) = REL := ⟨_, rfl⟩
    have HREL2 := Lib.hid hREL
    clear hREL
    refine wp_loop REL2 (fun a' _ => 3 - (intOf (a'.tmps.getD 17 undef)).toNat) ?_ ?_
    · rw [← HREL2.out]
      exact ⟨0, _, _, _, _, _, _, _, _, _, _, _, _, _, s, _, dl, Nat.zero_le _, rfl, by simp, HSt1.out, HNB1.out, ⟨HOB.out, HRN.out⟩, rfl⟩
    clear HSt1 HNB1 HOB HRN hSt hnb hnc hng hnbe
    intro a' wr hrel
    rw [← HREL2.out] at hrel
    obtain ⟨n, nx, u5, u18, u19, u20, u21, u22, u23, u24, u25, u26, u27, u34, s2, O, dl, hn9, rfl, hs2, hSt, hnb, hrn, rfl⟩ := hrel
    dsimp only
    obtain ⟨wm, rfl⟩ : ∃ u, u = wr := ⟨_, rfl⟩
    have hwm := hSt.out.kp.size
    by_cases hn3 : n < 3
    · have hnI : (n : Int) < 3 := by omega
      have hr1 : Row wm p1 36 [.slice A1 y.ty.sizes.length cap1, .slice A2 y.ty.cos.length cap2, .slice A3 y.fs.length cap3] := HP1.out.keep (hSt.out.kp.block p1 (HTw.out p1 hT1) hT1)
      have q0 := hr1.cell 0
      simp only [List.getElem?_cons_zero] at q0
      have hal : Below wm.heap.size wm (wm.alloc (.cells #[.int .i64 ((y.ty.sizes.length : Nat) : Int)] 3)) := (Below.refl _ _).alloc (Nat.le_refl _) _
      have HRP := Lib.hid (repeat_any wm.heap.size ((y.ty.sizes.length : Nat) : Int) n hn3 (wm.alloc (.cells #[.int .i64 ((y.ty.sizes.length : Nat) : Int)] 3)) (by simp) ((Row.new wm 3 [.int .i64 ((y.ty.sizes.length : Nat) : Int)]).cell 0) (by unfold I64; omega))
      have HAL := Lib.hid hal
      clear hal hr1
      go_wp2_with fail
      refine HRP.out.mono ?_
      clear HRP q0
      rintro e wq ⟨RA, RC, rfl, hbq, hrq⟩
      have hsq := hbq.size
      rw [World.size_alloc] at hsq hrq
      have hbmq : Below wm.heap.size wm wq := HAL.out.trans (hbq.mono (by simp))
      have HNA := Lib.hid (numberRows_any RA n RC wq)
      obtain ⟨W2, hW2⟩ : ∃ u, u = wq.alloc (.cells #[.slice RA n RC] 22) := ⟨_, rfl⟩
      have hd2 : W2.heap.size = wq.heap.size + 1 := by rw [hW2]; simp
      have hqW : Below wq.heap.size wq W2 := by rw [hW2]; exact (Below.refl _ _).alloc (Nat.le_refl _) _
      have hb2 : Below wm.heap.size wm W2 := hbmq.trans (hqW.mono (by omega))
      have r9 : Row W2 wq.heap.size 22 [.slice RA n RC] := by rw [hW2]; exact Row.new _ _ _
      have hlim : IntsIn W2 (fun b => wm.heap.size + 1 ≤ b ∧ b < wq.heap.size) (.slice RA n RC) (List.replicate n ((y.ty.sizes.length : Nat) : Int)) := hrq.keep fun b hb => hqW.block b hb.2
      have hSt2 := hSt.out.mine HC.out hb2
      obtain ⟨O2, hO2⟩ : ∃ O2 : Nat → Prop, O2 = fun b => O b ∨ (wm.heap.size ≤ b ∧ b < W2.heap.size) := ⟨_, rfl⟩
      rw [← hO2] at hSt2
      have HO2 : Hid (∀ b, O2 b ↔ O b ∨ (wm.heap.size ≤ b ∧ b < W2.heap.size)) := fun b => by rw [hO2]
      have HSt2 := Lib.hid hSt2
      have HR9 := Lib.hid r9
      have HB2 := Lib.hid hb2
      have HLM := Lib.hid hlim
      have HRN2 : Hid (Row W2 nb 9 [.string (str nm)]) := hrn.out.2.below hb2 hrn.out.2.lt
      have HON : Hid (O2 nb) := (HO2.out nb).2 (.inl hrn.out.1)
      clear hSt2 r9 hb2 hO2 hlim hrq hbq hbmq hqW HAL
      go_wp2_with fail
      refine HNA.out.mono ?_
      rintro e wx ⟨rfl, rfl⟩
      clear HNA
      go_wp2_with fail
      rw [← hW2]
      clear hW2
      have hTd : ∀ b, (T b ∨ O2 b) → b < W2.heap.size := fun b hb => hb.elim (fun h => by have := HTw.out b h; omega) (fun h => (HSt2.out.lo b h).2)
      refine wpIn_wide.1 (rangeG_law (n := 9) (R := RowG (W2.heap.size + 2)) (fun vs => { tmps := #[.func (.yield l) #[] #[], .pointer (some ⟨p1, 0, none⟩), .pointer (some ⟨w.heap.size, 0, none⟩), undef, .pointer (some ⟨nb, 0, none⟩), .int .i64 ((n : Nat) : Int), vs.getD 0 undef, .pointer (some ⟨p1, 2, none⟩), .slice A3 y.fs.length cap3, .map (some (w.heap.size + 1)), .func (.func 148) #[] #[.pointer (some ⟨w2.heap.size, 0, none⟩)], .slice (some ⟨ng, 0, none⟩) names.length NC, .int .i64 ((names.length : Nat) : Int), .int .i64 ((i : Nat) : Int), .bool true, .pointer (some ⟨ng, i, none⟩), .string (str nm), .int .i64 ((n : Nat) : Int), .bool true, .int .i64 ((n : Nat) : Int), .pointer (some ⟨p1, 0, none⟩), .pointer (some ⟨p1, 0, none⟩), .slice A1 y.ty.sizes.length cap1, .int .i64 ((y.ty.sizes.length : Nat) : Int), .slice (some ⟨wm.heap.size, 0, none⟩) 1 1, .int .i64 ((n : Nat) : Int), .slice RA n RC, .func (.func 149) #[] #[.pointer (some ⟨wq.heap.size, 0, none⟩)], vs.getD 0 undef, undef, undef, undef, undef, undef, u34, u35], defers := [] }) (fun m O A vs k o' lp h hl => h.put hl) (fun m O A vs h => h.size) ?asg (gf := 149) (lb := #[.pointer (some ⟨wq.heap.size, 0, none⟩)]) rfl (enters_of Tryz.func149 (by kernel_rfl) rfl) (fun b => T b ∨ O2 b) hTd (rowsL (List.replicate n ((y.ty.sizes.length : Nat) : Int))) (InG T J (fun r : List Int => (nm, r)) s2 O2 W2.heap.size W2) (fun c _ => InXG Jx O2 W2.heap.size W2 c)
        (fun s' O' A' C' h _ _ _ hk => h.step HC.out hTd hk) (fun s' O' O'' A' h hs => h.give HC.out hs) (fun s' O' A' k' o' h h1 h2 => h.put HC.out hTd o' h1 h2) (fun c s' O' A' C' h _ _ hz hk => h.step HC.out hTd hz hk) (fun c s' O' O'' A' h hs => h.give HC.out hs) (fun c s' O' A' k' o' h h1 h2 => h.put HC.out hTd o' h1 h2)
        ?iter (fun W1 hb1 hs1 => InG.start HC.out rfl HSt2.out.j hb1 hs1) ?body ?done ?stop)
      case asg =>
        rintro l' m9 O9 vs W m' K ⟨v, rfl, -⟩ hK
        gi_wp2
        exact hK
      case iter =>
        intro l' J' Jx' W1 hcl hb1 hW1s hJ1
        have hs1 := hb1.size
        refine nrows_any _ (by simp; omega) (fun z hz => ?_) l' (fun b => T b ∨ O2 b) J' Jx' wq.heap.size (.slice RA n RC) W1 (hcl.sub fun m O A vs h => h.low (by omega)) (.inr ((HO2.out _).2 (.inr (by omega)))) (fun b hb => by have := hTd b hb; omega) (HR9.out.below hb1 (by omega)) ?_ hJ1
        · have e := (List.mem_replicate.1 hz).2
          subst e
          omega
        · exact (HLM.out.keep fun b hb => hb1.block b (by omega)).more fun b hb => .inr ((HO2.out b).2 (.inr (by omega)))
      case body =>
        rintro l' s' p vs O' A' m' hI ⟨v, rfl, hvn, hvo, hv64, hvO⟩ ⟨tt, htt⟩ n0 n1 hz
        have hdd : ∀ k : Nat, ((Fence.wide.inRound l').depth.isSome = true → 1 ≤ k) := fun k h => by simp [Fence.wide, Fence.inRound] at h
        have r3 : Row A' w.heap.size 119 [.func (.yield l) #[] #[]] := HSt2.out.row.keep (hI.kp.block _ HSt2.out.row.lt (.inr HSt2.out.o3))
        have rn : Row A' nb 9 [.string (str nm)] := HRN2.out.keep (hI.kp.block _ HRN2.out.lt (.inr HON.out))
        have c3 := r3.cell 0
        have cn := rn.cell 0
        simp only [List.getElem?_cons_zero] at c3 cn
        have hfull : ∃ t, callsL y.ty.sizes.length names = (s2 ++ s'.map fun r : List Int => (nm, r)) ++ (nm, p) :: t := by
          obtain ⟨t1, ht1⟩ := flat_at (kindsL y.ty.sizes.length nm) hn3
          refine ⟨(tt.map fun r : List Int => (nm, r)) ++ (t1 ++ ((names.drop (i + 1)).map (callsN y.ty.sizes.length)).flatten), ?_⟩
          have e1 : kindsL y.ty.sizes.length nm n = (s'.map fun r : List Int => (nm, r)) ++ ((nm, p) :: (tt.map fun r : List Int => (nm, r))) := by
            unfold kindsL
            rw [htt]
            simp
          have e2 : callsL y.ty.sizes.length names = ((names.take i).map (callsN y.ty.sizes.length)).flatten ++ (callsN y.ty.sizes.length nm ++ ((names.drop (i + 1)).map (callsN y.ty.sizes.length)).flatten) := by
            unfold callsL
            have e : names = names.take i ++ names[i] :: names.drop (i + 1) := by rw [List.getElem_cons_drop, List.take_append_drop]
            rw [← Hnm.out] at e
            have h : ((names.map (callsN y.ty.sizes.length)).flatten) = (((names.take i ++ nm :: names.drop (i + 1)).map (callsN y.ty.sizes.length)).flatten) := by rw [← e]
            rw [h]
            simp only [List.map_append, List.map_cons, List.flatten_append, List.flatten_cons]
          rw [e2, show callsN y.ty.sizes.length nm = ((List.range 3).map (kindsL y.ty.sizes.length nm)).flatten from rfl, ht1, e1, hs2, hs]
          simp
        have hRd := HC.out.round (s2 ++ s'.map fun r : List Int => (nm, r)) (nm, p) #[.string (str nm), v] _ A' (hI.ready HC.out (Below.refl _ _)) ⟨v, rfl, ownsRow_lower hvo (by have := HSt2.out.kp.size; omega), hv64, fun b hb => ?_⟩ hfull (m' - 1)
        · obtain ⟨fn, tmps, assign, body, hy, hR⟩ := hRd
          have HII := Lib.hid hI
          clear hI r3 rn hvo hvn hv64 hvO htt hfull n0 n1
          rw [show (#[v] : Array Value).getD 0 undef = v from rfl]
          gi_wp2
          refine ⟨hdd _, RoundIn.mono (F := Fence.wide.inRound l') hR ?_⟩
          rintro e C (⟨rfl, hkC, hjC⟩ | ⟨rfl, hkC, hjC⟩)
          · have hN := HII.out.next (Below.refl _ _) hkC hjC
            have HNN := Lib.hid hN
            clear hN hkC hjC hy hR c3 cn
            gi_wp2
            exact ⟨HNN.out.2, HNN.out.1⟩
          · have hN := HII.out.nextX (Below.refl _ _) hkC hjC
            have HNN := Lib.hid hN
            clear hN hkC hjC hy hR c3 cn
            gi_wp2
            exact ⟨HNN.out.2, HNN.out.1⟩
        · have h1 := (owns_lt hvo b hb).1
          intro h
          rcases h with h | h | h | h
          · have := (HSt2.out.lo b h).2; omega
          · exact hvO b hb h
          · omega
          · omega
      case done =>
        intro O9 W' hI hdef
        have hkW : Kept (fun b => O b ∨ T b) wm W' := kept_trans (kept_of HB2.out) (kept_sub hI.kp fun b _ hS => hS.elim (fun h => .inr ((HO2.out b).2 (.inl h))) .inl)
        have hSt3 := (hSt.out.move (O' := (fun b => O2 b ∨ O9 b ∨ b = W2.heap.size ∨ b = W2.heap.size + 1)) hkW (fun b h => .inl ((HO2.out b).2 (.inl h))) (fun b h => by
          have hz := hI.sz
          rcases h with h | h | h | h
          · have := HSt2.out.lo b h; omega
          · have := hI.lo b h; omega
          · omega
          · omega) hI.j).mark (d := W2.heap.size) (.inr (.inr (.inl rfl))) (fun h => by have := (hSt.out.lo _ (hSt.out.df _ h).1).2; omega) hdef
        have HSt3 := Lib.hid hSt3
        have HNB3 : Hid (∀ q, ∀ (hq : q < names.length), ∃ g, some (⟨ng, 0, none⟩ : Addr) = some ⟨g, 0, none⟩ ∧ (fun b => O2 b ∨ O9 b ∨ b = W2.heap.size ∨ b = W2.heap.size + 1) g ∧ W'.cell? ⟨g, q, none⟩ = some (.string (str names[q]))) := fun q hq => by
          obtain ⟨g, e, h1, h2⟩ := hnb.out q hq
          exact ⟨g, e, .inl ((HO2.out g).2 (.inl h1)), (World.cell?_of_block (w := wm) (hkW.block g (hSt.out.lo g h1).2 (.inl h1))).trans h2⟩
        have HRN3 : Hid ((fun b => O2 b ∨ O9 b ∨ b = W2.heap.size ∨ b = W2.heap.size + 1) nb ∧ Row W' nb 9 [.string (str nm)]) := ⟨.inl HON.out, hrn.out.2.keep (hkW.block nb hrn.out.2.lt (.inl hrn.out.1))⟩
        have hs' : s2 ++ (rowsL (List.replicate n ((y.ty.sizes.length : Nat) : Int))).map (fun r : List Int => (nm, r)) = s ++ ((List.range (n + 1)).map (kindsL y.ty.sizes.length nm)).flatten := by
          rw [flat_next, hs2, List.append_assoc]
          rfl
        have Hs' := Lib.hid hs'
        clear hkW hSt3 hI hdef hSt hs' hs2 hnb hrn
        go_wp2
        refine ⟨by rw [← HREL2.out]; exact ⟨n + 1, _, _, _, _, _, _, _, _, _, _, _, _, _, _, _, W2.heap.size :: dl, by omega, by go_num, Hs'.out, HSt3.out, HNB3.out, HRN3.out, by rw [hd2]; rfl⟩, ?_⟩
        simp [intOf]
        omega
      case stop =>
        intro c s9 O9 W' hX hdef
        obtain rfl := hX.ret
        have hkW : Kept O wm W' := kept_trans (kept_of HB2.out) (kept_sub hX.kp fun b _ h => (HO2.out b).2 (.inl h))
        have HFin : Hid (FinG J Jx (callsL y.ty.sizes.length names) (fun b => O2 b ∨ O9 b ∨ b = W2.heap.size ∨ b = W2.heap.size + 1) W') := by
          obtain ⟨s3, hj⟩ := hX.j
          exact .inr ⟨s3, _, fun b h => h, hj⟩
        have Hnd : Hid ((W2.heap.size :: dl).Nodup) := List.nodup_cons.2 ⟨fun h => by have := (hSt.out.lo _ (hSt.out.df _ h).1).2; omega, hSt.out.nd⟩
        have Hdf : Hid (∀ d ∈ W2.heap.size :: dl, (fun b => O2 b ∨ O9 b ∨ b = W2.heap.size ∨ b = W2.heap.size + 1) d ∧ W'.heap[d]? = some (.deferred (some []))) := fun d hd => by
          rcases List.mem_cons.1 hd with e | e
          · subst e; exact ⟨.inr (.inr (.inl rfl)), hdef⟩
          · have h := hSt.out.df d e
            exact ⟨.inl ((HO2.out d).2 (.inl h.1)), (hkW.block d (hSt.out.lo d h.1).2 h.1).trans h.2⟩
        clear hX hdef hkW hSt hs hs2 hnb hrn hd2 HR9 HSt2 HLM HRN2 HON
        refine wpIn_wide.2 ?_
        go_wp2
        exact leavesG (F := Fence.wide) (n := 9) (fun b => O2 b ∨ O9 b ∨ b = W2.heap.size ∨ b = W2.heap.size + 1) (fun u d hd hG => hG.put HC.out hd _) (fun u hG => ⟨_, results_none rfl _ _ _, ⟨_, rfl⟩, hG.out⟩) (W2.heap.size :: dl) W' Hnd.out Hdf.out HFin.out
    · obtain rfl : n = 3 := by omega
      have hs' : s2 = ((names.take (i + 1)).map (callsN y.ty.sizes.length)).flatten := by
        have e : ((names.take (i + 1)).map (callsN y.ty.sizes.length)).flatten = ((names.take i).map (callsN y.ty.sizes.length)).flatten ++ callsN y.ty.sizes.length nm := by
          rw [List.take_succ_eq_append_getElem hil, List.map_append, List.flatten_append, ← Hnm.out]
          simp
        rw [e, hs2, hs]
        rfl
      have Hs' := Lib.hid hs'
      clear hs' hs2 hs
      go_wp2
      refine ⟨by rw [← HREL.out]; exact ⟨i + 1, _, _, _, _, _, _, _, _, _, _, _, _, _, _, _, _, _, _, _, s2, O, dl, by omega, by go_num, Hs'.out, hSt.out, hnb.out, rfl⟩, ?_⟩
      simp [intOf]
      omega
  · have hie : i = names.length := by omega
    have HFin : Hid (FinG J Jx (callsL y.ty.sizes.length names) O wa) := .inl ⟨O, fun _ h => h, by
      have e : callsL y.ty.sizes.length names = s := by rw [hs, hie, List.take_length]; rfl
      rw [e]
      exact hSt.out.j⟩
    have hiI : ¬ (i : Int) < (names.length : Int) := by omega
    clear hs hnb
    go_wp2
    exact leavesG (F := Fence.wide) (n := 9) O (fun u d hd hG => hG.put HC.out hd _) (fun u hG => ⟨_, results_none rfl _ _ _, ⟨_, rfl⟩, hG.out⟩) dl wa hSt.out.nd hSt.out.df HFin.out
end Go.Proofs.YtnmbjmocnafekaaGreatDoor

