/-
  The contract of the program's explicitCall, where that of explicit is given for its arguments.
-/
import Derived.Test.YtgkfddhhkjblgaaGreatDoorB19
import Derived.Test.YtgkfddhhkjblgaaGreatDoorB20
import Derived.Test.YtgkfddhhkjblgaaGreatDoorB25
import Derived.Test.YtgkfddhhkjblgaaGreatDoorB27
import Derived.Test.YtgkfddhhkjblgaaGreatDoorB28
import Derived.Test.YtgkfddhhkjblgaaGreatDoorB17
import Derived.Test.YtgkfddhhkjblgaaGreatDoorB18
namespace Go.Proofs.YtgkfddhhkjblgaaGreatDoor
open Go.RowKit Go.Shelf

/-- What is made of a term, or the error for why nothing is. -/
def ExPost (y : Sy) (t : Tm) (A : List Addr) (wd : Addr → ByteArray) (w : World) (e : Ending) (w' : World) : Prop :=
  ((∃ m o, elM y t = .ok m ∧ e = .returned (.tuple #[o, .nilIface]) ∧ MNodeAt w' w.heap.size m o) ∨ (∃ a e0, elM y t = .error (wd a) ∧ e = .returned (.tuple #[.nilIface, e0]) ∧ ErCh a e0 ∧ a ∈ A)) ∧ Below w.heap.size w w'
/-- A node that was made in blocks of its own, none of them one of F. -/
def NIn (w : World) (B : Nat) (F : Nat → Prop) (m : Mk) (v : Value) : Prop :=
  ∃ wa Bm, B ≤ Bm ∧ MNodeAt wa Bm m v ∧ wa.heap.size ≤ w.heap.size ∧ ∀ j, Bm ≤ j → j < wa.heap.size → w.heap[j]? = wa.heap[j]? ∧ ¬ F j
def NIns (w : World) (B : Nat) (F : Nat → Prop) : List Mk → List Value → Prop
  | [], [] => True
  | m :: ms, v :: vs => NIn w B F m v ∧ NIns w B F ms vs
  | _, _ => False
theorem NIn.node {w : World} {B : Nat} {F : Nat → Prop} {m : Mk} {v : Value} (h : NIn w B F m v) : MNodeAt w B m v := by
  obtain ⟨wa, Bm, hB, hn, _, hs⟩ := h
  exact (hn.same fun g hg hw => (hs g hg hw).1).base hB
theorem NIn.keep {w w' : World} {B : Nat} {F F' : Nat → Prop} {m : Mk} {v : Value} (h : NIn w B F m v) (hsz : w.heap.size ≤ w'.heap.size) (hk : ∀ j, B ≤ j → j < w.heap.size → ¬ F j → w'.heap[j]? = w.heap[j]?) (hF : ∀ j, j < w.heap.size → F' j → F j) : NIn w' B F' m v := by
  obtain ⟨wa, Bm, hB, hn, hw, hs⟩ := h
  refine ⟨wa, Bm, hB, hn, by omega, fun j hj hj2 => ?_⟩
  obtain ⟨h1, h2⟩ := hs j hj hj2
  exact ⟨(hk j (by omega) (by omega) h2).trans h1, fun h => h2 (hF j (by omega) h)⟩
theorem NIns.keep {w w' : World} {B : Nat} {F F' : Nat → Prop} (hsz : w.heap.size ≤ w'.heap.size) (hk : ∀ j, B ≤ j → j < w.heap.size → ¬ F j → w'.heap[j]? = w.heap[j]?) (hF : ∀ j, j < w.heap.size → F' j → F j) : ∀ {ms : List Mk} {vs : List Value}, NIns w B F ms vs → NIns w' B F' ms vs
  | [], [], _ => trivial
  | _ :: _, _ :: _, ⟨h, g⟩ => ⟨h.keep hsz hk hF, g.keep hsz hk hF⟩
theorem NIns.snoc {w : World} {B : Nat} {F : Nat → Prop} {m : Mk} {v : Value} (ht : NIn w B F m v) : ∀ {ms : List Mk} {vs : List Value}, NIns w B F ms vs → NIns w B F (ms ++ [m]) (vs ++ [v])
  | [], [], _ => ⟨ht, trivial⟩
  | _ :: _, _ :: _, ⟨h, g⟩ => ⟨h, g.snoc ht⟩
theorem NIns.nodes {w : World} {B : Nat} {F : Nat → Prop} : ∀ {ms : List Mk} {vs : List Value}, NIns w B F ms vs → MNodesAt w B ms vs
  | [], [], _ => trivial
  | _ :: _, _ :: _, ⟨h, g⟩ => ⟨h.node, g.nodes⟩
theorem NIns.at_ {w : World} {B : Nat} {F : Nat → Prop} : ∀ {ms : List Mk} {vs : List Value}, NIns w B F ms vs → ∀ k, ∀ (h : k < ms.length), ∃ v, vs[k]? = some v ∧ NIn w B F ms[k] v
  | _ :: _, v :: _, ⟨h, _⟩, 0, _ => ⟨v, rfl, h⟩
  | _ :: ms, _ :: vs, ⟨_, g⟩, k + 1, hk => by
    obtain ⟨v, h1, h2⟩ := g.at_ k (by simpa using hk)
    exact ⟨v, by simpa using h1, by simpa using h2⟩
theorem NIns.set_ {w : World} {B : Nat} {F : Nat → Prop} {m : Mk} {v : Value} (ht : NIn w B F m v) : ∀ {ms : List Mk} {vs : List Value} (k : Nat), NIns w B F ms vs → NIns w B F (ms.set k m) (vs.set k v)
  | [], [], _, _ => trivial
  | _ :: _, _ :: _, 0, ⟨_, g⟩ => ⟨ht, g⟩
  | _ :: _, _ :: _, k + 1, ⟨h, g⟩ => ⟨h, g.set_ ht k⟩
theorem NIns.len {w : World} {B : Nat} {F : Nat → Prop} : ∀ {ms : List Mk} {vs : List Value}, NIns w B F ms vs → vs.length = ms.length
  | [], [], _ => rfl
  | _ :: _, _ :: _, ⟨_, g⟩ => by simp [g.len]
/-- The blocks of two slices. -/
def FB (p q : Value) (j : Nat) : Prop := p.ownBlock = some j ∨ q.ownBlock = some j
theorem NIns.push {w w' : World} {B N : Nat} {p p' q : Value} {e : TypeId} {n : Nat} {xs : List Value} {x : Value} {ms : List Mk} {vs : List Value} (h : NIns w B (FB p q) ms vs) (hp : Pushed w w' N e p p' n xs x) : NIns w' B (FB p' q) ms vs := by
  refine h.keep hp.grown.size (fun j _ h2 h3 => hp.grown.block j h2 fun e => h3 (.inl e.symm)) fun j h2 h3 => ?_
  rcases h3 with h3 | h3
  · rcases hp.at_ with e1 | ⟨g', e1, h1, _⟩
    · exact .inl (e1 ▸ h3)
    · rw [e1] at h3
      injection h3 with h3
      omega
  · exact .inr h3
theorem FB.swap {p q : Value} : FB p q = FB q p := by funext j; unfold FB; exact propext ⟨fun h => h.symm, fun h => h.symm⟩
theorem NIns.below {w w' : World} {B : Nat} {F : Nat → Prop} {ms : List Mk} {vs : List Value} (h : NIns w B F ms vs) (hb : Below w.heap.size w w') : NIns w' B F ms vs := h.keep hb.size (fun j _ h2 _ => hb.block j h2) fun _ _ h => h
theorem Er5.errs {w : World} {n : Nat} {aU aN aW aM aL : Addr} (h : Er5 w n aU aN aW aM aL) : Errs w n aN aM := by
  have hn := h.nd
  simp only [List.nodup_cons, List.mem_cons, List.not_mem_nil, or_false, not_or] at hn
  exact ⟨⟨h.low.2.1, h.low.2.2.2.1⟩, h.gN, h.gM, hn.2.1.2.1, (h.bl aN (by simp)).1, (h.bl aM (by simp)).1, (h.bl aN (by simp)).2, (h.bl aM (by simp)).2⟩

/-- What holds while a region calls twice, and the first one's result lies in the world behind it. -/
def W12 (b : World) (Q : World → Prop) : Nat → World → Prop
  | 0, u => Below b.heap.size b u
  | 1, u => Below b.heap.size b u ∧ Q u
  | _ + 2, u => Below b.heap.size b u
theorem W12.low {b u : World} {Q : World → Prop} : ∀ {j : Nat}, W12 b Q j u → Below b.heap.size b u
  | 0, h => h
  | 1, h => h.1
  | _ + 2, h => h
/-- The arguments while they are wrapped: the first k of them are. -/
def wrapM (y : Sy) (args : List Int) (ms : List Mk) (k : Nat) : List Mk := (coArgs y args ms 0).take k ++ ms.drop k
theorem wrapM_len (y : Sy) (args : List Int) (ms : List Mk) {k : Nat} (hk : k ≤ ms.length) : (wrapM y args ms k).length = ms.length := by
  unfold wrapM
  simp [coArgs_len]
  omega
theorem wrapM_zero (y : Sy) (args : List Int) (ms : List Mk) : wrapM y args ms 0 = ms := by simp [wrapM]
theorem wrapM_all (y : Sy) (args : List Int) (ms : List Mk) : wrapM y args ms ms.length = coArgs y args ms 0 := by
  unfold wrapM
  rw [List.take_of_length_le (by rw [coArgs_len]; omega)]
  simp
theorem wrapM_old (y : Sy) (args : List Int) (ms : List Mk) {k : Nat} (h : k < ms.length) : (wrapM y args ms k)[k]? = some ms[k] := by
  unfold wrapM
  rw [List.getElem?_append_right (by simp [coArgs_len]; omega)]
  simp [coArgs_len, Nat.min_eq_left (Nat.le_of_lt h), h]
theorem wrapM_set (y : Sy) (args : List Int) (ms : List Mk) {k : Nat} (h : k < ms.length) {m : Mk} (hm : m = coM (shortV y.ty (kindM y ms[k]) (args.getD k 0)) ms[k]) : (wrapM y args ms k).set k m = wrapM y args ms (k + 1) := by
  subst hm
  unfold wrapM
  have hg := coArgs_get y args ms 0 k h
  rw [Nat.zero_add] at hg
  obtain ⟨h1, h2⟩ := List.getElem?_eq_some_iff.1 hg
  rw [List.take_succ_eq_append_getElem h1, h2, List.drop_eq_getElem_cons h]
  rw [List.set_append_right _ _ (by simp; omega)]
  simp [Nat.min_eq_left (Nat.le_of_lt h1)]
  rw [List.drop_eq_getElem_cons h]
  rfl
/-- A row with so many cells in block g is a row of the call's own. -/
def OwnBack (N : Nat) (t : TypeId) (g cap n c : Nat) : Prop := ∀ (w : World) (cs ys : List Value), cs.length = c → Row w g t cs → cs.take n = ys → w.ownsRow N t 1 (.slice (some ⟨g, 0, none⟩) n cap) n ys
theorem own_row9 {w : World} {N : Nat} {t : TypeId} {A : Option Addr} {n cap : Nat} {xs : List Value} (h : w.ownsRow N t 1 (.slice A n cap) n xs) : ∃ g, N ≤ g ∧ (0 < n → A = some ⟨g, 0, none⟩ ∧ g < w.heap.size ∧ n ≤ cap ∧ ∃ cs, Row w g t cs ∧ cs.take n = xs ∧ OwnBack N t g cap n cs.length ∧ w.ownsRow N t 1 (.slice A n cap) n xs) := by
  have h0 := h
  obtain ⟨hl, ⟨e1, e2⟩ | ⟨g, cap', cur, e1, hg, hh, hc1, hc2, hcs, ht⟩⟩ := h
  · exact ⟨N, Nat.le_refl _, fun h0 => by subst e2; simp at hl; omega⟩
  · injection e1 with e1 e2 e3
    subst e1; subst e3
    refine ⟨g, hg, fun _ => ⟨rfl, ?_, hc1, cur.toList, ?_, by simpa using ht, fun w' cs ys hcl hr hy => ?_, h0⟩⟩
    · rcases Nat.lt_or_ge g w.heap.size with h' | h'
      · exact h'
      · rw [Array.getElem?_eq_none h'] at hh; cases hh
    · unfold Row
      simpa using hh
    · have hsz : cs.length = cur.size := by simpa using hcl
      subst hy
      refine ⟨?_, .inr ⟨g, cap, cs.toArray, rfl, hg, hr, hc1, hc2, by simp [hsz, hcs], by simp⟩⟩
      simp
      omega

set_option maxRecDepth 100000 in
set_option maxHeartbeats 1000000 in
theorem explicitCall_any (lo hi n : Nat) (aU aN aW aM aL : Addr) (sv cv fv : Value) (y : Sy) (hy : SyOk y) (hbk : y.bulk ≤ 1048576) (t : Tm) (hc : isCallT t = true) (hok : TmOk t) (a : UInt8) (hh : headT t = [a]) (ps : Value) (vs : List Value) (B0 : Nat) (w : World)
    (IH0 : ∀ k, ∀ (hk : k < (partsT t).length) v, vs[k]? = some v → ∀ u, Below w.heap.size w u → Calls Tryz.prog 77 #[.agg #[sv, cv, fv], v] u fun e w' => ExPost y (partsT t)[k] [aU, aN, aW, aM, aL] (wordV aN aW aM aL) u e w')
    (hv : SyAt w lo hi sv cv fv y) (hB : hi ≤ w.heap.size) (hown : w.ownsRow B0 85 1 ps (partsT t).length vs) (hvl : vs.length = (partsT t).length) (hE : Er5 w n aU aN aW aM aL) (hn : n ≤ w.heap.size) :
    Calls Tryz.prog 118 #[.agg #[sv, cv, fv], .agg #[.string (str [a]), ps]] w fun e w' => ExPost y t [aU, aN, aW, aM, aL] (wordV aN aW aM aL) w e w' := by
  obtain ⟨A1, cap1, rfl, _, _, _⟩ := hv.1.1.form
  obtain ⟨A2, cap2, rfl, _, _, _⟩ := hv.1.2.form
  obtain ⟨A3, cap3, rfl, _, hm3, _⟩ := hv.2.form
  obtain ⟨PA, PC, rfl⟩ := own_slice' hown
  obtain ⟨i0, hi0, hz0, hz1, hz2⟩ := info_parts (show (Tryz.prog.info? 62).map (fun i => (i.zero, i.size, i.bytes)) = some (some .nilIface, 1, 16) by kernel_rfl)
  obtain ⟨j0, hj0, hy0, hy1, hy2⟩ := info_parts (show (Tryz.prog.info? 3).map (fun i => (i.zero, i.size, i.bytes)) = some (some (.int .i64 0), 1, 8) by kernel_rfl)
  obtain ⟨ts, hts⟩ : ∃ ts, ts = partsT t := ⟨_, rfl⟩
  have hlen2 : ts.length ≤ 2 := by rw [hts]; exact partsT_two t
  have hall : Hid (∀ p ∈ ts, TmOk p) := fun p hp => partsT_ok hok (by rw [← hts]; exact hp)
  have HCALL : Hid (∀ ms, Els y ts ms → elM y t = elCall y a ms) := fun ms h => elM_call hc hh (by rw [← hts]; exact h)
  have HFELL : Hid (∀ k, ∀ (hk : k < ts.length) ms e, Els y (ts.take k) ms → elM y ts[k] = .error e → elM y t = .error e) := fun k hk ms e h1 h2 => by
    subst hts
    exact elM_fell hk h1 h2
  have IH : Hid (∀ k, ∀ (hk : k < ts.length) v, vs[k]? = some v → ∀ u, Below w.heap.size w u → Calls Tryz.prog 77 #[.agg #[.slice A1 y.ty.sizes.length cap1, .slice A2 y.ty.cos.length cap2, .slice A3 y.fs.length cap3], v] u fun e w' => ExPost y ts[k] [aU, aN, aW, aM, aL] (wordV aN aW aM aL) u e w') := by
    intro k hk v
    subst hts
    exact IH0 k hk v
  rw [← hts] at hown hvl ⊢
  have HOWN := Lib.hid hown
  have HV := Lib.hid hv
  have HE := Lib.hid hE
  obtain ⟨W0, hW0⟩ : ∃ u, u = (w.alloc (.cells #[.slice A1 y.ty.sizes.length cap1, .slice A2 y.ty.cos.length cap2, .slice A3 y.fs.length cap3] 37)).alloc (.cells #[.string (str [a]), .slice PA ts.length PC] 148) := ⟨_, rfl⟩
  have HB0 : Hid (Below w.heap.size w W0) := by show Below _ _ _; rw [hW0]; exact ((Below.refl _ _).alloc (Nat.le_refl _) _).alloc (by simp) _
  have hW0s : W0.heap.size = w.heap.size + 2 := by rw [hW0]; simp
  have HR0 : Hid (Row W0 w.heap.size 37 [.slice A1 y.ty.sizes.length cap1, .slice A2 y.ty.cos.length cap2, .slice A3 y.fs.length cap3]) := by show Row _ _ _ _; rw [hW0]; exact (Row.new _ _ _).alloc _
  have HR1 : Hid (Row W0 (w.heap.size + 1) 148 [.string (str [a]), .slice PA ts.length PC]) := by
    show Row _ _ _ _
    rw [hW0]
    have h := Row.new (w.alloc (.cells #[.slice A1 y.ty.sizes.length cap1, .slice A2 y.ty.cos.length cap2, .slice A3 y.fs.length cap3] 37)) 148 [.string (str [a]), .slice PA ts.length PC]
    rwa [World.size_alloc] at h
  have m1 := HR1.out.cell 1
  simp only [List.getElem?_cons_zero, List.getElem?_cons_succ] at m1
  clear hv hE hown IH0 hc hh hts
  go_enter Tryz.func118, Tryz.ntmps118
  rw [hW0] at m1
  go_wp2_with fail
  rw [← hW0]
  clear hW0 m1
  go_loopw [6, 7, 21] (fun p kv i wr => ∃ (ms : List Mk) (os : List Value), ms.length ≤ ts.length ∧ i = .int .i64 (ms.length : Nat) ∧ W0.heap.size ≤ wr.heap.size ∧ Hid (Els y (ts.take ms.length) ms) ∧ Hid (Below (w.heap.size + 2) W0 wr) ∧
    Hid (wr.ownsRow (w.heap.size + 2) 62 1 p ms.length os) ∧ Hid (wr.ownsRow (w.heap.size + 2) 3 1 kv ms.length (kindVs y ms)) ∧ Hid (NIns wr (w.heap.size + 2) (FB p kv) ms os) ∧ Hid (∀ g, p.ownBlock = some g → kv.ownBlock ≠ some g)) (fun _ _ i _ => ts.length - (intOf i).toNat)
  case atStart =>
    refine ⟨[], [], Nat.zero_le _, rfl, Nat.le_refl _, Els.nil y, Below.refl _ _, World.ownsRow_nil _ _ _ _, World.ownsRow_nil _ _ _ _, trivial, ?_⟩
    intro g hg
    simp [Value.ownBlock] at hg
  case round =>
    obtain ⟨ms, os, hk, rfl, hsr, hels, hxr, hpr, hcr, hnr, hne⟩ := hrel
    obtain ⟨PA2, PC2, rfl⟩ := own_slice' hpr.out
    obtain ⟨KA, KC, rfl⟩ := own_slice' hcr.out
    have hrx := HR0.out.below hxr.out (by omega)
    have q0 := hrx.cell 0
    have q1 := hrx.cell 1
    have q2 := hrx.cell 2
    simp only [List.getElem?_cons_zero, List.getElem?_cons_succ] at q0 q1 q2
    have hbw : Below w.heap.size w wr := HB0.out.trans (hxr.out.mono (by omega))
    by_cases hkl : ms.length < ts.length
    · obtain ⟨g, hPA, hg3, hgw, _, hcells⟩ := own_cells HOWN.out (by omega)
      obtain ⟨v, hvk⟩ : ∃ v, vs[ms.length]? = some v := ⟨vs[ms.length]'(by omega), List.getElem?_eq_getElem (by omega)⟩
      have hck : wr.cell? ⟨g, ms.length, none⟩ = some v := (World.cell?_of_block (w := w) (hbw.block g hgw)).trans ((hcells ms.length hkl).trans hvk)
      subst hPA
      have HC := Lib.hid (IH.out ms.length hkl v hvk wr hbw)
      have HBW := Lib.hid hbw
      clear hcells hvk hbw
      go_wp2_with fail
      refine HC.out.mono ?_
      clear HC hck q0 q1 q2
      rintro e w2 ⟨⟨m, o, hel, rfl, hno⟩ | ⟨ae, e0, hel, rfl, hch, hae⟩, hb2⟩
      · have HELS : Hid (Els y (ts.take (ms.length + 1)) (ms ++ [m])) := hels.out.snoc hkl hel
        have hmok := elM_ok hy (hall.out _ (List.getElem_mem hkl)) hel
        have hint : Hid (kindVs y ms ++ [Value.int .i64 (kindM y m)] = kindVs y (ms ++ [m])) := by show _ = _; simp [kindVs]
        have hs2 := hb2.size
        have HX2 : Hid (Below (w.heap.size + 2) W0 w2) := hxr.out.trans (hb2.mono (by omega))
        have HP2 : Hid (w2.ownsRow (w.heap.size + 2) 62 1 (.slice PA2 ms.length PC2) ms.length os) := ownsRow_below hpr.out hb2 (Nat.le_refl _)
        have HC2 : Hid (w2.ownsRow (w.heap.size + 2) 3 1 (.slice KA ms.length KC) ms.length (kindVs y ms)) := ownsRow_below hcr.out hb2 (Nat.le_refl _)
        have HN2 : Hid (NIns w2 (w.heap.size + 2) (FB (.slice PA2 ms.length PC2) (.slice KA ms.length KC)) (ms ++ [m]) (os ++ [o])) := by
          refine (hnr.out.below hb2).snoc ⟨w2, wr.heap.size, by omega, hno, Nat.le_refl _, fun j hj _ => ⟨rfl, fun hF => ?_⟩⟩
          rcases hF with hF | hF
          · have := (owns_lt hpr.out j hF).2; omega
          · have := (owns_lt hcr.out j hF).2; omega
        obtain ⟨T, x, fid, rfl, hmeth, hnil, hent, hkd⟩ := hno.kind hmok
        obtain ⟨Z, hZ⟩ : ∃ Z, Z = kindM y m := ⟨_, rfl⟩
        rw [← hZ] at hint hkd
        have HKD := Lib.hid hkd
        clear hb2 hpr hcr hxr hnr hels hel hno hmok hkd hZ
        go_wp2_with (at_builtin; refine wpList_push rfl (.tmp 34) (.tmp 36) 77 rfl i0 .nilIface 16 Tryz.underlying77 hi0 hz0 hz1 hz2 rfl rfl (HP2.out.alloc _) ⟨w2.heap.size, 0, none⟩ 1 (.iface T x) rfl (by simp [go_sem]) rfl (by unfold maxLen; omega) (by omega) (by simp; omega) ?_)
        intro p3 w3 hpu
        have hal : Below w2.heap.size w2 (w2.alloc (.cells #[.iface T x] 62)) := (Below.refl _ _).alloc (Nat.le_refl _) _
        have hs3 : w2.heap.size + 1 ≤ w3.heap.size := by have := hpu.grown.size; simpa using this
        have HX3 : Hid (Below (w.heap.size + 2) W0 w3) := hpu.below (HP2.out.alloc _) (HX2.out.trans (hal.mono (by omega))) (by simp; omega)
        have HC3 : Hid (w3.ownsRow (w.heap.size + 2) 3 1 (.slice KA ms.length KC) ms.length (kindVs y ms)) := hpu.other (HC2.out.alloc _) hne.out
        have HP3 : Hid (w3.ownsRow (w.heap.size + 2) 62 1 p3 (ms.length + 1) (os ++ [.iface T x])) := hpu.own
        have HN3 : Hid (NIns w3 (w.heap.size + 2) (FB p3 (.slice KA ms.length KC)) (ms ++ [m]) (os ++ [.iface T x])) := (HN2.out.below hal).push hpu
        have HD3 : Hid (∀ g, p3.ownBlock = some g → (Value.slice KA ms.length KC).ownBlock ≠ some g) := hpu.apart (HC2.out.alloc _) hne.out
        have hr3 := HR0.out.below HX3.out (by omega)
        have q0 := hr3.cell 0
        have q1 := hr3.cell 1
        have q2 := hr3.cell 2
        simp only [List.getElem?_cons_zero, List.getElem?_cons_succ] at q0 q1 q2
        have HC := Lib.hid (HKD.out lo hi _ _ _ w3 (HV.out.below (HB0.out.trans (HX3.out.mono (by omega))) hB) (by omega))
        clear hpu hal HX2 HP2 HC2 HN2 hne hr3
        go_wp2_with fail
        refine HC.out.mono ?_
        clear HC q0 q1 q2
        rintro e w4 ⟨rfl, hb4⟩
        have hs4 := hb4.size
        have HX4 : Hid (Below (w.heap.size + 2) W0 w4) := HX3.out.trans (hb4.mono (by omega))
        have HP4 : Hid (w4.ownsRow (w.heap.size + 2) 62 1 p3 (ms.length + 1) (os ++ [.iface T x])) := ownsRow_below HP3.out hb4 (Nat.le_refl _)
        have HC4 : Hid (w4.ownsRow (w.heap.size + 2) 3 1 (.slice KA ms.length KC) ms.length (kindVs y ms)) := ownsRow_below HC3.out hb4 (Nat.le_refl _)
        have HN4 := Lib.hid (HN3.out.below hb4)
        have HD4 : Hid (∀ g, (Value.slice KA ms.length KC).ownBlock = some g → p3.ownBlock ≠ some g) := fun g h1 h2 => HD3.out g h2 h1
        clear hb4 HX3 HP3 HC3 HN3 HD3
        go_wp2_with (at_builtin; refine wpList_push rfl (.tmp 38) (.tmp 42) 22 rfl j0 (.int .i64 0) 8 Tryz.underlying22 hj0 hy0 hy1 hy2 rfl rfl (HC4.out.alloc _) ⟨w4.heap.size, 0, none⟩ 1 (.int .i64 Z) rfl (by simp [go_sem]) rfl (by unfold maxLen; omega) (by omega) (by simp; omega) ?_)
        intro p5 w5 hpu
        have hal : Below w4.heap.size w4 (w4.alloc (.cells #[.int .i64 Z] 3)) := (Below.refl _ _).alloc (Nat.le_refl _) _
        have hs5 : w4.heap.size + 1 ≤ w5.heap.size := by have := hpu.grown.size; simpa using this
        have HX5 : Hid (Below (w.heap.size + 2) W0 w5) := hpu.below (HC4.out.alloc _) (HX4.out.trans (hal.mono (by omega))) (by simp; omega)
        have HP5 : Hid (w5.ownsRow (w.heap.size + 2) 62 1 p3 (ms.length + 1) (os ++ [.iface T x])) := hpu.other (HP4.out.alloc _) HD4.out
        have HC5 : Hid (w5.ownsRow (w.heap.size + 2) 3 1 p5 (ms.length + 1) (kindVs y ms ++ [Value.int .i64 Z])) := hpu.own
        have HN5 : Hid (NIns w5 (w.heap.size + 2) (FB p3 p5) (ms ++ [m]) (os ++ [.iface T x])) := by
          have h := HN4.out.below hal
          rw [FB.swap] at h
          have h2 := h.push hpu
          rw [FB.swap] at h2
          exact h2
        have HD5 : Hid (∀ g, p3.ownBlock = some g → p5.ownBlock ≠ some g) := fun g h1 h2 => hpu.apart (HP4.out.alloc _) HD4.out g h2 h1
        clear hpu hal HX4 HP4 HC4 HN4 HD4
        go_wp2
        go_roundw
        case rel =>
          refine ⟨ms ++ [m], os ++ [.iface T x], by simp; omega, by rw [List.length_append]; go_num, by omega, by rw [List.length_append]; exact HELS, HX5, ?_, ?_, HN5, HD5⟩
          · show World.ownsRow _ _ _ _ _ _ _
            rw [List.length_append]
            exact HP5.out
          · show World.ownsRow _ _ _ _ _ _ _
            rw [← hint.out, List.length_append]
            exact HC5.out
        case measure => simp [intOf]; omega
      · have HFIN := Lib.hid (HFELL.out ms.length hkl ms _ hels.out hel)
        have HB2 : Hid (Below w.heap.size w w2) := HBW.out.trans (hb2.mono HBW.out.size)
        have HCH := Lib.hid hch
        obtain ⟨T, x, rfl⟩ := hch.form
        clear hb2 hch hel
        go_wp2
        try rw [Exit.noGoto_ret]
        refine bodyPost_ret (v := .tuple #[.nilIface, .iface T x]) (by simp [results, Tryz.results118, go_sem]) rfl ?_
        exact ⟨.inr ⟨ae, _, HFIN.out, rfl, HCH.out, hae⟩, HB2.out⟩
    · have hkl2 : ms.length = ts.length := by omega
      rw [hkl2, List.take_length] at hels
      have HOKS : Hid (∀ m ∈ ms, MkOk y m) := fun m hmm => by
        obtain ⟨t', ht', e'⟩ := hels.out.mem m hmm
        exact elM_ok hy (hall.out t' ht') e'
      have HEL := Lib.hid (HCALL.out ms hels.out)
      have HKS : Hid (IntsAt wr (w.heap.size + 2) wr.heap.size (.slice KA ms.length KC) (ms.map (kindM y))) := by
        have h := hcr.out
        unfold kindVs at h
        rw [show ms.length = (ms.map (kindM y)).length by simp] at h ⊢
        exact ownsRow.intsAt h (fun z hz => by
          obtain ⟨m, hm1, rfl⟩ := List.mem_map.1 hz
          have h1 := kindM_in hy (HOKS.out m hm1)
          have h5 := (sizesOk_of (tyOk_sizes hy.ty)).2.1
          unfold I64
          omega) (Nat.le_refl _) (Nat.le_refl _)
      have n2 : ms.length ≤ 2 := by omega
      obtain ⟨L, hL⟩ : ∃ L, L = applicV y (str [a]) (ms.map (kindM y)) := ⟨_, rfl⟩
      have HAPL : Hid (∀ u : World, Below wr.heap.size wr u → Calls Tryz.prog 139 #[.agg #[.slice A1 y.ty.sizes.length cap1, .slice A2 y.ty.cos.length cap2, .slice A3 y.fs.length cap3], .string (str [a]), .slice KA ms.length KC] u fun e w' => ∃ v, e = .returned v ∧ Below u.heap.size u w' ∧ w'.ownsRow u.heap.size 3 1 v L.length (L.map (Value.int .i64))) := fun u hu => by
        rw [hL]
        exact implApplic_any lo hi (w.heap.size + 2) wr.heap.size _ _ _ _ y (str [a]) (ms.map (kindM y)) u (HV.out.below (hbw.trans (hu.mono (by omega))) hB) (HKS.out.below hu (Nat.le_refl _)) (Nat.le_trans (by omega) hu.size) hu.size hbk (by rw [str_size]; unfold maxLen; simp)
      have hLwf : ∀ z ∈ L, I64 z := by rw [hL]; exact applicV_wf y _ _ hbk
      have HCHO : Hid (∀ (v : Value) (lo' : Nat) (u : World), Below wr.heap.size wr u → u.ownsRow lo' 3 1 v L.length (L.map (Value.int .i64)) → Calls Tryz.prog 138 #[.iface 211 (.agg #[.slice A1 y.ty.sizes.length cap1, .slice A2 y.ty.cos.length cap2, .slice A3 y.fs.length cap3]), v] u fun e w' => e = .returned (.tuple #[.int .i64 (pickI (ltB y) L), errOf aN aM (pickW (ltB y) L)]) ∧ Below u.heap.size u w') := fun v lo' u hu ho =>
        chooseB_any lo' u.heap.size n lo hi _ _ _ y (str [a]) v L aN aM u (HV.out.below (hbw.trans (hu.mono (by omega))) hB) (Nat.le_trans (by omega) hu.size) (fun _ => hy) (by rw [hL]; exact namedIn_applic y _ _) (ownsRow.intsAt ho hLwf (Nat.le_refl _) (Nat.le_refl _)) (Nat.le_refl _) (HE.out.below (hbw.trans (hu.mono (by omega))) hn).errs (Nat.le_trans (by omega) hu.size)
      have HBW := Lib.hid hbw
      have hl0 := hrx.lt
      have K1 : Hid (wr.cell? ⟨w.heap.size, 0, none⟩ = some (.slice A1 y.ty.sizes.length cap1) ∧ wr.cell? ⟨w.heap.size, 1, none⟩ = some (.slice A2 y.ty.cos.length cap2) ∧ wr.cell? ⟨w.heap.size, 2, none⟩ = some (.slice A3 y.fs.length cap3) ∧ wr.cell? ⟨w.heap.size + 1, 0, none⟩ = some (.string (str [a]))) := ⟨q0, q1, q2, ((HR1.out.below hxr.out (by omega)).cell 0).trans rfl⟩
      clear hkl2 hels q0 q1 q2 hrx hbw hLwf
      by_cases hw1 : pickW (ltB y) L = wOne
      · rw [hL] at hw1
        obtain ⟨i, hpi, hif, hap, hel⟩ := elCall_one hw1
        rw [← hL] at hpi hw1
        obtain ⟨fb, foff, B1, cb1, B2, cb2, rfl, hfb1, hfb2, -, k1, -, -, -, -, -, -, hfa⟩ := HV.out.2.at_ hif
        rw [hpi, hw1, errOf_one] at HCHO
        have HFIN := Lib.hid (HEL.out.trans hel)
        have HAP := Lib.hid hap
        clear hpi hw1 hL hel hap HEL
        go_upto_region 12 with fail
        have HLD : Hid (∀ u, Below wr.heap.size wr u → u.cell? ⟨w.heap.size, 0, none⟩ = some (.slice A1 y.ty.sizes.length cap1) ∧ u.cell? ⟨w.heap.size, 1, none⟩ = some (.slice A2 y.ty.cos.length cap2) ∧ u.cell? ⟨w.heap.size, 2, none⟩ = some (.slice (some ⟨fb, foff, none⟩) y.fs.length cap3) ∧ u.cell? ⟨w.heap.size + 1, 0, none⟩ = some (.string (str [a]))) := fun u hu => ⟨(hu.cell (p := ⟨w.heap.size, 0, none⟩) (by dsimp only; omega)).trans K1.out.1, (hu.cell (p := ⟨w.heap.size, 1, none⟩) (by dsimp only; omega)).trans K1.out.2.1, (hu.cell (p := ⟨w.heap.size, 2, none⟩) (by dsimp only; omega)).trans K1.out.2.2.1, (hu.cell (p := ⟨w.heap.size + 1, 0, none⟩) (by dsimp only; omega)).trans K1.out.2.2.2⟩
        have HST : Hid (Below wr.heap.size wr wr.drew) := (Below.refl _ _).drew
        refine wp_region_inv (by kernel_rfl) (fun dn ac u => ∃ x46 x47 x48 x49 x50 x51 x52 x53 x54 x45 x55 x56 x12 x13, ac = ⟨List.toArray (.agg #[.slice A1 y.ty.sizes.length cap1, .slice A2 y.ty.cos.length cap2, .slice (some ⟨fb, foff, none⟩) y.fs.length cap3] :: .agg #[.string (str [a]), .slice PA ts.length PC] :: .pointer (some ⟨w.heap.size, 0, none⟩) :: .pointer (some ⟨w.heap.size + 1, 0, none⟩) :: u4 :: u5 :: .slice PA2 ms.length PC2 :: .slice KA ms.length KC :: undef :: u9 :: u10 :: u11 :: x12 :: x13 :: undef :: undef :: undef :: undef :: .pointer (some ⟨w.heap.size + 1, 1, none⟩) :: .slice PA ts.length PC :: .int .i64 ((ts.length : Nat) : Int) :: .int .i64 ((ms.length : Nat) : Int) :: .bool false :: u23 :: u24 :: u25 :: u26 :: u27 :: u28 :: u29 :: u30 :: u31 :: u32 :: u33 :: u34 :: u35 :: u36 :: u37 :: u38 :: u39 :: u40 :: u41 :: u42 :: u43 :: u44 :: x45 :: x46 :: x47 :: x48 :: x49 :: x50 :: x51 :: x52 :: x53 :: x54 :: x55 :: x56 :: undef :: undef :: undef :: undef :: undef :: undef :: undef :: undef :: undef :: undef :: undef :: undef :: undef :: undef :: undef :: undef :: undef :: undef :: undef :: undef :: undef :: undef :: undef :: undef :: undef :: undef :: undef :: undef :: undef :: undef :: undef :: undef :: undef :: undef :: undef :: undef :: undef :: undef :: undef :: undef :: []), []⟩ ∧ DetQ [fun v : Value => v = .agg #[.slice A1 y.ty.sizes.length cap1, .slice A2 y.ty.cos.length cap2, .slice (some ⟨fb, foff, none⟩) y.fs.length cap3], fun v : Value => v = .agg #[.slice A1 y.ty.sizes.length cap1, .slice A2 y.ty.cos.length cap2, .slice (some ⟨fb, foff, none⟩) y.fs.length cap3], fun v : Value => v = .iface 211 (.agg #[.slice A1 y.ty.sizes.length cap1, .slice A2 y.ty.cos.length cap2, .slice (some ⟨fb, foff, none⟩) y.fs.length cap3]), fun v : Value => v = .agg #[.slice A1 y.ty.sizes.length cap1, .slice A2 y.ty.cos.length cap2, .slice (some ⟨fb, foff, none⟩) y.fs.length cap3], fun v : Value => v = .pointer (some ⟨w.heap.size + 1, 0, none⟩), fun v : Value => v = .string (str [a]), fun v : Value => v = .slice KA ms.length KC, fun v : Value => True, fun v : Value => v = .tuple #[.int .i64 ((i : Nat) : Int), .nilIface], fun v : Value => v = .tuple #[.int .i64 ((i : Nat) : Int), .nilIface], fun v : Value => v = .int .i64 ((i : Nat) : Int), fun v : Value => v = .nilIface, fun v : Value => v = .int .i64 ((i : Nat) : Int), fun v : Value => v = .nilIface] dn [x46, x47, x48, x49, x50, x51, x52, x53, x54, x45, x55, x56, x12, x13] ∧ Ch dn [7, 8] (W12 wr (fun u => ∃ lo1, u.ownsRow lo1 3 1 x53 L.length (L.map (Value.int .i64)))) u ∧ True) (of_decide_eq_true (by kernel_rfl)) ⟨_, _, _, _, _, _, _, _, _, _, _, _, _, _, rfl, DetQ.start (by rfl), Ch.start HST.out, trivial⟩ ?_ ?_
        · rintro dn ac u i8 op8 hop hfi hdep ⟨x46, x47, x48, x49, x50, x51, x52, x53, x54, x45, x55, x56, x12, x13, rfl, hD, hC, -⟩
          have hil : i8 < 14 := by have := (Array.getElem?_eq_some_iff.1 hop).1; simpa using this
          obtain rfl | rfl | rfl | rfl | rfl | rfl | rfl | rfl | rfl | rfl | rfl | rfl | rfl | rfl : i8 = 0 ∨ i8 = 1 ∨ i8 = 2 ∨ i8 = 3 ∨ i8 = 4 ∨ i8 = 5 ∨ i8 = 6 ∨ i8 = 7 ∨ i8 = 8 ∨ i8 = 9 ∨ i8 = 10 ∨ i8 = 11 ∨ i8 = 12 ∨ i8 = 13 := by omega
          all_goals
            obtain rfl := Option.some.inj hop
            refine wpOp_step hop fun K hK => ?_
            simp [Region.binds] at hdep
            clear hop
          · obtain ⟨j8, hj8, -, hW⟩ := hC.ex
            have hbu := W12.low hW
            clear hW
            obtain ⟨d1, d2, d3, -⟩ := HLD.out u hbu
            refine det_yes rfl ?_
            have HD := Lib.hid hD
            have HC := Lib.hid hC
            clear hD hC
            unfold Oper.wp
            go_simp
            exact hK _ _ ⟨_, _, _, _, _, _, _, _, _, _, _, _, _, _, rfl, HD.out.step 0 rfl rfl, HC.out.other 0 (by decide), trivial⟩
          · obtain rfl : x46 = .agg #[.slice A1 y.ty.sizes.length cap1, .slice A2 y.ty.cos.length cap2, .slice (some ⟨fb, foff, none⟩) y.fs.length cap3] := hD.get (P := fun v : Value => v = .agg #[.slice A1 y.ty.sizes.length cap1, .slice A2 y.ty.cos.length cap2, .slice (some ⟨fb, foff, none⟩) y.fs.length cap3]) 0 (by simp [hdep]) rfl rfl
            refine det_yes rfl ?_
            have HD := Lib.hid hD
            have HC := Lib.hid hC
            clear hD hC
            unfold Oper.wp
            go_simp
            exact hK _ _ ⟨_, _, _, _, _, _, _, _, _, _, _, _, _, _, rfl, HD.out.step 1 rfl rfl, HC.out.other 1 (by decide), trivial⟩
          · obtain rfl : x47 = .agg #[.slice A1 y.ty.sizes.length cap1, .slice A2 y.ty.cos.length cap2, .slice (some ⟨fb, foff, none⟩) y.fs.length cap3] := hD.get (P := fun v : Value => v = .agg #[.slice A1 y.ty.sizes.length cap1, .slice A2 y.ty.cos.length cap2, .slice (some ⟨fb, foff, none⟩) y.fs.length cap3]) 1 (by simp [hdep]) rfl rfl
            refine det_yes rfl ?_
            have HD := Lib.hid hD
            have HC := Lib.hid hC
            clear hD hC
            unfold Oper.wp
            go_simp
            exact hK _ _ ⟨_, _, _, _, _, _, _, _, _, _, _, _, _, _, rfl, HD.out.step 2 rfl rfl, HC.out.other 2 (by decide), trivial⟩
          · obtain ⟨j8, hj8, -, hW⟩ := hC.ex
            have hbu := W12.low hW
            clear hW
            obtain ⟨d1, d2, d3, -⟩ := HLD.out u hbu
            refine det_yes rfl ?_
            have HD := Lib.hid hD
            have HC := Lib.hid hC
            clear hD hC
            unfold Oper.wp
            go_simp
            exact hK _ _ ⟨_, _, _, _, _, _, _, _, _, _, _, _, _, _, rfl, HD.out.step 3 rfl rfl, HC.out.other 3 (by decide), trivial⟩
          · refine det_yes rfl ?_
            have HD := Lib.hid hD
            have HC := Lib.hid hC
            clear hD hC
            unfold Oper.wp
            go_simp
            exact hK _ _ ⟨_, _, _, _, _, _, _, _, _, _, _, _, _, _, rfl, HD.out.step 4 rfl rfl, HC.out.other 4 (by decide), trivial⟩
          · obtain rfl : x50 = .pointer (some ⟨w.heap.size + 1, 0, none⟩) := hD.get (P := fun v : Value => v = .pointer (some ⟨w.heap.size + 1, 0, none⟩)) 4 (by simp [hdep]) rfl rfl
            obtain ⟨j8, hj8, -, hW⟩ := hC.ex
            have hbu := W12.low hW
            clear hW
            have d1 := (HLD.out u hbu).2.2.2
            refine det_yes rfl ?_
            have HD := Lib.hid hD
            have HC := Lib.hid hC
            clear hD hC
            unfold Oper.wp
            go_simp
            exact hK _ _ ⟨_, _, _, _, _, _, _, _, _, _, _, _, _, _, rfl, HD.out.step 5 rfl rfl, HC.out.other 5 (by decide), trivial⟩
          · refine det_yes rfl ?_
            have HD := Lib.hid hD
            have HC := Lib.hid hC
            clear hD hC
            unfold Oper.wp
            go_simp
            exact hK _ _ ⟨_, _, _, _, _, _, _, _, _, _, _, _, _, _, rfl, HD.out.step 6 rfl rfl, HC.out.other 6 (by decide), trivial⟩
          · obtain rfl : x49 = .agg #[.slice A1 y.ty.sizes.length cap1, .slice A2 y.ty.cos.length cap2, .slice (some ⟨fb, foff, none⟩) y.fs.length cap3] := hD.get (P := fun v : Value => v = .agg #[.slice A1 y.ty.sizes.length cap1, .slice A2 y.ty.cos.length cap2, .slice (some ⟨fb, foff, none⟩) y.fs.length cap3]) 3 (by simp [hdep]) rfl rfl
            obtain rfl : x51 = .string (str [a]) := hD.get (P := fun v : Value => v = .string (str [a])) 5 (by simp [hdep]) rfl rfl
            obtain rfl : x52 = .slice KA ms.length KC := hD.get (P := fun v : Value => v = .slice KA ms.length KC) 6 (by simp [hdep]) rfl rfl
            have hW := hC.at_ 0 (by decide) hfi (by intro j9 e9 _; omega)
            refine det_yes rfl ?_
            have HD := Lib.hid hD
            have HC := Lib.hid hC
            clear hD hC
            have hbu := W12.low hW
            clear hW
            unfold Oper.wp
            go_simp
            refine (HAPL.out u hbu).mono ?_
            rintro e u2 ⟨v53, rfl, hb8, ho8⟩
            have HW2 : (W12 wr (fun u => ∃ lo1, u.ownsRow lo1 3 1 v53 L.length (L.map (Value.int .i64)))) 1 u2 := ⟨hbu.trans (hb8.mono hbu.size), u.heap.size, ho8⟩
            exact hK _ _ ⟨_, _, _, _, _, _, _, _, _, _, _, _, _, _, rfl, HD.out.step 7 rfl (by trivial), HC.out.next 0 (by decide) hfi (by intro j9 e9 _; omega) (by decide) HW2, trivial⟩
          · obtain rfl : x48 = .iface 211 (.agg #[.slice A1 y.ty.sizes.length cap1, .slice A2 y.ty.cos.length cap2, .slice (some ⟨fb, foff, none⟩) y.fs.length cap3]) := hD.get (P := fun v : Value => v = .iface 211 (.agg #[.slice A1 y.ty.sizes.length cap1, .slice A2 y.ty.cos.length cap2, .slice (some ⟨fb, foff, none⟩) y.fs.length cap3])) 2 (by simp [hdep]) rfl rfl
            have hW := hC.at_ 1 (by decide) hfi (by intro j9 e9 _; have f9 : j9 = 0 := (by omega); subst f9; simp [hdep])
            refine det_yes rfl ?_
            have HD := Lib.hid hD
            have HC := Lib.hid hC
            clear hD hC
            obtain ⟨hbu, lo1, ho1⟩ := hW
            unfold Oper.wp
            go_simp
            refine (HCHO.out _ lo1 u hbu ho1).mono ?_
            rintro e u2 ⟨rfl, hb8⟩
            have HW2 : (W12 wr (fun u => ∃ lo1, u.ownsRow lo1 3 1 x53 L.length (L.map (Value.int .i64)))) 2 u2 := hbu.trans (hb8.mono hbu.size)
            exact hK _ _ ⟨_, _, _, _, _, _, _, _, _, _, _, _, _, _, rfl, HD.out.step 8 rfl (by rfl), HC.out.next 1 (by decide) hfi (by intro j9 e9 _; have f9 : j9 = 0 := (by omega); subst f9; simp [hdep]) (by decide) HW2, trivial⟩
          · obtain rfl : x54 = .tuple #[.int .i64 ((i : Nat) : Int), .nilIface] := hD.get (P := fun v : Value => v = .tuple #[.int .i64 ((i : Nat) : Int), .nilIface]) 8 (by simp [hdep]) rfl rfl
            refine det_yes rfl ?_
            have HD := Lib.hid hD
            have HC := Lib.hid hC
            clear hD hC
            unfold Oper.wp
            go_simp
            exact hK _ _ ⟨_, _, _, _, _, _, _, _, _, _, _, _, _, _, rfl, HD.out.step 9 rfl rfl, HC.out.other 9 (by decide), trivial⟩
          · obtain rfl : x45 = .tuple #[.int .i64 ((i : Nat) : Int), .nilIface] := hD.get (P := fun v : Value => v = .tuple #[.int .i64 ((i : Nat) : Int), .nilIface]) 9 (by simp [hdep]) rfl rfl
            refine det_yes rfl ?_
            have HD := Lib.hid hD
            have HC := Lib.hid hC
            clear hD hC
            unfold Oper.wp
            go_simp
            exact hK _ _ ⟨_, _, _, _, _, _, _, _, _, _, _, _, _, _, rfl, HD.out.step 10 rfl rfl, HC.out.other 10 (by decide), trivial⟩
          · obtain rfl : x45 = .tuple #[.int .i64 ((i : Nat) : Int), .nilIface] := hD.get (P := fun v : Value => v = .tuple #[.int .i64 ((i : Nat) : Int), .nilIface]) 9 (by simp [hdep]) rfl rfl
            refine det_yes rfl ?_
            have HD := Lib.hid hD
            have HC := Lib.hid hC
            clear hD hC
            unfold Oper.wp
            go_simp
            exact hK _ _ ⟨_, _, _, _, _, _, _, _, _, _, _, _, _, _, rfl, HD.out.step 11 rfl rfl, HC.out.other 11 (by decide), trivial⟩
          · obtain rfl : x55 = .int .i64 ((i : Nat) : Int) := hD.get (P := fun v : Value => v = .int .i64 ((i : Nat) : Int)) 10 (by simp [hdep]) rfl rfl
            refine det_yes rfl ?_
            have HD := Lib.hid hD
            have HC := Lib.hid hC
            clear hD hC
            unfold Oper.wp
            go_simp
            exact hK _ _ ⟨_, _, _, _, _, _, _, _, _, _, _, _, _, _, rfl, HD.out.step 12 rfl rfl, HC.out.other 12 (by decide), trivial⟩
          · obtain rfl : x56 = .nilIface := hD.get (P := fun v : Value => v = .nilIface) 11 (by simp [hdep]) rfl rfl
            refine det_yes rfl ?_
            have HD := Lib.hid hD
            have HC := Lib.hid hC
            clear hD hC
            unfold Oper.wp
            go_simp
            exact hK _ _ ⟨_, _, _, _, _, _, _, _, _, _, _, _, _, _, rfl, HD.out.step 13 rfl rfl, HC.out.other 13 (by decide), trivial⟩
        · rintro dn ac u hall ⟨x46, x47, x48, x49, x50, x51, x52, x53, x54, x45, x55, x56, x12, x13, rfl, hD, hC, -⟩
          obtain rfl : x46 = .agg #[.slice A1 y.ty.sizes.length cap1, .slice A2 y.ty.cos.length cap2, .slice (some ⟨fb, foff, none⟩) y.fs.length cap3] := hD.get (P := fun v : Value => v = .agg #[.slice A1 y.ty.sizes.length cap1, .slice A2 y.ty.cos.length cap2, .slice (some ⟨fb, foff, none⟩) y.fs.length cap3]) 0 (hall 0 (by decide)) rfl rfl
          obtain rfl : x47 = .agg #[.slice A1 y.ty.sizes.length cap1, .slice A2 y.ty.cos.length cap2, .slice (some ⟨fb, foff, none⟩) y.fs.length cap3] := hD.get (P := fun v : Value => v = .agg #[.slice A1 y.ty.sizes.length cap1, .slice A2 y.ty.cos.length cap2, .slice (some ⟨fb, foff, none⟩) y.fs.length cap3]) 1 (hall 1 (by decide)) rfl rfl
          obtain rfl : x48 = .iface 211 (.agg #[.slice A1 y.ty.sizes.length cap1, .slice A2 y.ty.cos.length cap2, .slice (some ⟨fb, foff, none⟩) y.fs.length cap3]) := hD.get (P := fun v : Value => v = .iface 211 (.agg #[.slice A1 y.ty.sizes.length cap1, .slice A2 y.ty.cos.length cap2, .slice (some ⟨fb, foff, none⟩) y.fs.length cap3])) 2 (hall 2 (by decide)) rfl rfl
          obtain rfl : x49 = .agg #[.slice A1 y.ty.sizes.length cap1, .slice A2 y.ty.cos.length cap2, .slice (some ⟨fb, foff, none⟩) y.fs.length cap3] := hD.get (P := fun v : Value => v = .agg #[.slice A1 y.ty.sizes.length cap1, .slice A2 y.ty.cos.length cap2, .slice (some ⟨fb, foff, none⟩) y.fs.length cap3]) 3 (hall 3 (by decide)) rfl rfl
          obtain rfl : x50 = .pointer (some ⟨w.heap.size + 1, 0, none⟩) := hD.get (P := fun v : Value => v = .pointer (some ⟨w.heap.size + 1, 0, none⟩)) 4 (hall 4 (by decide)) rfl rfl
          obtain rfl : x51 = .string (str [a]) := hD.get (P := fun v : Value => v = .string (str [a])) 5 (hall 5 (by decide)) rfl rfl
          obtain rfl : x52 = .slice KA ms.length KC := hD.get (P := fun v : Value => v = .slice KA ms.length KC) 6 (hall 6 (by decide)) rfl rfl
          obtain rfl : x54 = .tuple #[.int .i64 ((i : Nat) : Int), .nilIface] := hD.get (P := fun v : Value => v = .tuple #[.int .i64 ((i : Nat) : Int), .nilIface]) 8 (hall 8 (by decide)) rfl rfl
          obtain rfl : x45 = .tuple #[.int .i64 ((i : Nat) : Int), .nilIface] := hD.get (P := fun v : Value => v = .tuple #[.int .i64 ((i : Nat) : Int), .nilIface]) 9 (hall 9 (by decide)) rfl rfl
          obtain rfl : x55 = .int .i64 ((i : Nat) : Int) := hD.get (P := fun v : Value => v = .int .i64 ((i : Nat) : Int)) 10 (hall 10 (by decide)) rfl rfl
          obtain rfl : x56 = .nilIface := hD.get (P := fun v : Value => v = .nilIface) 11 (hall 11 (by decide)) rfl rfl
          obtain rfl : x12 = .int .i64 ((i : Nat) : Int) := hD.get (P := fun v : Value => v = .int .i64 ((i : Nat) : Int)) 12 (hall 12 (by decide)) rfl rfl
          obtain rfl : x13 = .nilIface := hD.get (P := fun v : Value => v = .nilIface) 13 (hall 13 (by decide)) rfl rfl
          have hW := hC.all (by intro j9 h9; exact hall _ (by revert j9; decide))
          clear hall hD hC
          have HB8 : Hid (Below wr.heap.size wr u) := hW
          clear hW
          have HX8 : Hid (Below (w.heap.size + 2) W0 u) := hxr.out.trans (HB8.out.mono (by omega))
          have hs8 := HB8.out.size
          have HP8 : Hid (u.ownsRow (w.heap.size + 2) 62 1 (.slice PA2 ms.length PC2) ms.length os) := ownsRow_below hpr.out HB8.out (Nat.le_refl _)
          have HC8 : Hid (u.ownsRow (w.heap.size + 2) 3 1 (.slice KA ms.length KC) ms.length (kindVs y ms)) := ownsRow_below hcr.out HB8.out (Nat.le_refl _)
          have HN8 := Lib.hid (hnr.out.below HB8.out)
          obtain ⟨gp, hgp⟩ := own_row9 HP8.out
          obtain ⟨gk, hgk⟩ : ∃ gk, 0 < ms.length → KA = some ⟨gk, 0, none⟩ ∧ gk ≠ gp ∧ gk < u.heap.size ∧ ∀ j, ∀ (hj : j < ms.length), u.cell? ⟨gk, j, none⟩ = some (.int .i64 (kindM y ms[j])) := by
            by_cases h0 : 0 < ms.length
            · obtain ⟨g, hKA, hg3, hgw, hcp, hcells⟩ := own_cells HC8.out h0
              refine ⟨g, fun _ => ⟨hKA, ?_, hgw, fun j hj => (hcells j hj).trans (by simp [kindVs, hj])⟩⟩
              rintro rfl
              subst hKA
              exact hne.out g (by rw [(hgp.2 h0).1]; rfl) rfl
            · exact ⟨0, fun h => absurd h h0⟩
          have HGP := Lib.hid hgp
          have HGK := Lib.hid hgk
          have hi8 : i ≤ 9 := by have := hy.few; omega
          have hll := hgp.1
          have hargl : Hid (ms.length = y.fs[i].args.length) := by have h := HAP.out.1; rw [List.length_map] at h; exact h
          have c2 := (HR0.out.below HX8.out (by omega)).cell 2
          simp only [List.getElem?_cons_zero, List.getElem?_cons_succ] at c2
          have c3 : u.cell? ⟨fb, foff + i * 4 + 1, none⟩ = some (.slice B1 y.fs[i].args.length cb1) := (World.cell?_of_block (w := w) ((HX8.out.block fb (by omega)).trans (HB0.out.block fb (by omega)))).trans k1
          have hilt : (i : Int) < (y.fs.length : Int) := by omega
          clear hgp hgk HC8 hne K1 HLD HST hpr hcr HKS hnr
          go_wp2_with fail
          clear c2 c3
          go_loopw [67] (fun ix wx => ∃ k : Nat, k ≤ y.fs[i].args.length ∧ ix = .int .i64 k ∧ u.heap.size ≤ wx.heap.size ∧ Hid (Keep gp u wx) ∧ Hid (∃ os2, NIns wx (w.heap.size + 2) (FB (.slice PA2 ms.length PC2) (.slice KA ms.length KC)) (wrapM y y.fs[i].args ms k) os2 ∧ wx.ownsRow (w.heap.size + 2) 62 1 (.slice PA2 ms.length PC2) ms.length os2 ∧ (0 < ms.length → ∃ cs, Row wx gp 62 cs ∧ cs.take ms.length = os2 ∧ OwnBack (w.heap.size + 2) 62 gp PC2 ms.length cs.length))) (fun ix _ => y.fs[i].args.length - (intOf ix).toNat)
          case atStart =>
            refine ⟨0, Nat.zero_le _, rfl, Nat.le_refl _, Keep.refl _ _, os, by rw [wrapM_zero]; exact HN8.out, HP8.out, fun h0 => ?_⟩
            obtain ⟨-, -, -, cs, h1, h2, h3, -⟩ := HGP.out.2 h0
            exact ⟨cs, h1, h2, h3⟩
          case round =>
            obtain ⟨k, hk, rfl, hsx, hkx, hos⟩ := hrel
            obtain ⟨wx, rfl⟩ : ∃ wx, wx = wr := ⟨_, rfl⟩
            obtain ⟨os2, hni, hownx, hrw⟩ := hos.out
            by_cases hkl : k < y.fs[i].args.length
            · have hkm : k < ms.length := by rw [hargl.out]; exact hkl
              obtain ⟨ePA, hgpu, hcpP, -⟩ := HGP.out.2 (by omega)
              obtain ⟨eKA, hgkp, hgku, hkc⟩ := HGK.out (by omega)
              subst ePA
              subst eKA
              obtain ⟨cs, hrow, hcs, hback⟩ := hrw (by omega)
              obtain ⟨ab, ao, rfl, _, hab, d0, hAR64⟩ := hfa.2.2.2.2.1.at_ hkl
              have hcan := HAP.out.2 k (by simpa using hkm)
              rw [getD_of (by simpa using hkm), getD_of hkl, List.getElem_map] at hcan
              have hmk := HOKS.out ms[k] (List.getElem_mem hkm)
              obtain ⟨-, -, hdig⟩ := coM_ok (tyOk_few hy.ty) _ _ hmk (shortV_end hcan)
              obtain ⟨o, hok2, hnin⟩ : ∃ o, os2[k]? = some o ∧ NIn wx (w.heap.size + 2) (FB (.slice (some ⟨gp, 0, none⟩) ms.length PC2) (.slice (some ⟨gk, 0, none⟩) ms.length KC)) ms[k] o := by
                have hwl : k < (wrapM y y.fs[i].args ms k).length := by rw [wrapM_len y _ ms (by omega)]; exact hkm
                obtain ⟨o, h1, h2⟩ := hni.at_ k hwl
                have h3 := wrapM_old y y.fs[i].args ms hkm
                rw [List.getElem?_eq_getElem hwl] at h3
                injection h3 with h3
                rw [h3] at h2
                exact ⟨o, h1, h2⟩
              have hkd64 : I64 (kindM y ms[k]) := by
                have h1 := kindM_in hy hmk
                have h5 := (sizesOk_of (tyOk_sizes hy.ty)).2.1
                unfold I64
                omega
              have hkcs : k < cs.length := by
                have h1 := congrArg List.length hcs
                have h2 := hni.len
                rw [wrapM_len y _ ms (by omega)] at h2
                rw [List.length_take] at h1
                omega
              have hold : cs[k]? = some o := by
                have h1 : (cs.take ms.length)[k]? = cs[k]? := List.getElem?_take_of_lt hkm
                rw [← h1, hcs]
                exact hok2
              have hrx := (HR0.out.below HX8.out (by omega)).keep (hkx.out.block (k := w.heap.size) (by omega) (by omega))
              have hblk : ∀ b, b < w.heap.size → wx.heap[b]? = w.heap[b]? := fun b hb => (hkx.out.block (by omega) (by omega)).trans ((HX8.out.block b (by omega)).trans (HB0.out.block b hb))
              have e0 : wx.cell? ⟨ab, ao + k, none⟩ = some (.int .i64 y.fs[i].args[k]) := (World.cell?_of_block (w := w) (hblk ab (by omega))).trans d0
              have e1 : wx.cell? ⟨gk, k, none⟩ = some (.int .i64 (kindM y ms[k])) := (World.cell?_of_block (w := u) (hkx.out.block hgku hgkp)).trans (hkc k hkm)
              have K1 : Hid (wx.drew.cell? ⟨w.heap.size, 0, none⟩ = some (.slice A1 y.ty.sizes.length cap1) ∧ wx.drew.cell? ⟨w.heap.size, 1, none⟩ = some (.slice A2 y.ty.cos.length cap2) ∧ wx.drew.cell? ⟨gk, k, none⟩ = some (.int .i64 (kindM y ms[k]))) := ⟨hrx.cell 0, hrx.cell 1, e1⟩
              have HSW := Lib.hid (implShort_any lo hi _ _ y.ty (kindM y ms[k]) y.fs[i].args[k] wx.drew (HV.out.1.keep fun b _ hb => hblk b (by omega)) (by show hi ≤ wx.heap.size; omega) hkd64 hAR64)
              rw [hcan] at HSW
              obtain ⟨KD, hKD⟩ : ∃ KD, KD = kindM y ms[k] := ⟨_, rfl⟩
              obtain ⟨AR, hAR⟩ : ∃ AR, AR = y.fs[i].args[k] := ⟨_, rfl⟩
              obtain ⟨zs, hzs⟩ : ∃ zs, zs = shortV y.ty (kindM y ms[k]) y.fs[i].args[k] := ⟨_, rfl⟩
              have HWM : Hid ((wrapM y y.fs[i].args ms k).set k (coM zs ms[k]) = wrapM y y.fs[i].args ms (k + 1)) := wrapM_set y _ ms hkm (by rw [hzs, getD_of hkl])
              have hz5 : zs.length ≤ 1000 := by have := (shortV_wf y.ty (kindM y ms[k]) y.fs[i].args[k]).2; rw [hzs]; omega
              have hz64 : ∀ z ∈ zs, I64 z := by rw [hzs]; exact (shortV_wf y.ty (kindM y ms[k]) y.fs[i].args[k]).1
              rw [← hzs] at hdig HSW
              rw [← hKD] at e1 K1 HSW
              rw [← hAR] at e0 HSW
              have HDIG := Lib.hid hdig
              have Hrow := Lib.hid hrow
              have HOLD := Lib.hid hold
              have HNIN := Lib.hid hnin
              have HNI := Lib.hid hni
              have HCS := Lib.hid hcs
              have HBK := Lib.hid hback
              have hsz0 := hrx.lt
              have hgkx : gk < wx.heap.size := by omega
              have hkmI : (k : Int) < (ms.length : Int) := by omega
              clear hrow hold hnin hni hcs hownx hback hrw hos hdig hkd64 hAR64 hcan hmk hkc d0 hrx hblk hok2 hKD hAR hzs e1
              go_wp2_with fail
              go_region_held3 (fun w' => w'.cell? ⟨w.heap.size, 0, none⟩ = some (.slice A1 y.ty.sizes.length cap1) ∧ w'.cell? ⟨w.heap.size, 1, none⟩ = some (.slice A2 y.ty.cos.length cap2) ∧ w'.cell? ⟨gk, k, none⟩ = some (.int .i64 KD))
                (first | exact K1.out | exact K2.out)
                (first
                  | (go_at_call 86
                     refine HSW.out.mono ?_
                     rintro e w8 ⟨v, rfl, hb8, hown8⟩
                     obtain ⟨V, vap, rfl⟩ := owns_form hown8
                     have K2 : Hid (w8.cell? ⟨w.heap.size, 0, none⟩ = some (.slice A1 y.ty.sizes.length cap1) ∧ w8.cell? ⟨w.heap.size, 1, none⟩ = some (.slice A2 y.ty.cos.length cap2) ∧ w8.cell? ⟨gk, k, none⟩ = some (.int .i64 KD)) :=
                     ⟨(hb8.cell (p := ⟨w.heap.size, 0, none⟩) hsz0).trans K1.out.1, (hb8.cell (p := ⟨w.heap.size, 1, none⟩) hsz0).trans K1.out.2.1, (hb8.cell (p := ⟨gk, k, none⟩) hgkx).trans K1.out.2.2⟩
                     have Hb8 : Hid (Below wx.heap.size wx w8) := (Below.refl wx.heap.size wx).drew.trans hb8
                     have HO8 := Lib.hid hown8
                     clear hb8 hown8))
              have HKW : Hid (Keep gp u w8) := hkx.out.trans ((Keep.refl gp wx).of_below Hb8.out)
              have hr8 := Hrow.out.below Hb8.out Hrow.out.lt
              have hs9 := Hb8.out.size
              have HR8 := Lib.hid hr8
              have HNI8 := Lib.hid (HNI.out.below Hb8.out)
              obtain ⟨wa, Bm, hBm, hmn, hwa, hfix⟩ := HNIN.out.keep (F' := FB (.slice (some ⟨gp, 0, none⟩) ms.length PC2) (.slice (some ⟨gk, 0, none⟩) ms.length KC)) Hb8.out.size (fun j _ h2 _ => Hb8.out.block j h2) fun _ _ h => h
              obtain ⟨T, x, rfl⟩ := hmn.form
              have c7 := (hr8.cell k).trans HOLD.out
              have f7 := hr8.frozen k
              have HCB := Lib.hid (coercedBy_any wx.drew.heap.size w8.heap.size Bm ms[k] _ _ zs wa w8 hmn (ownsRow.intsAt HO8.out hz64 (Nat.le_refl _) (Nat.le_refl _)) HDIG.out hz5)
              have HFIX := Lib.hid hfix
              clear hr8 hmn hfix HO8 HNI HNIN HSW Hrow hkx K1 K2
              go_wp2_with fail
              refine HCB.out.mono ?_
              rintro e w9 ⟨⟨o2, rfl, hmo⟩, rfl⟩
              obtain ⟨T2, x2, rfl⟩ := hmo.form
              have HMO := Lib.hid hmo
              clear hmo HCB
              go_wp2
              have HKU : Hid (Keep gp w9 (w9.setCell ⟨gp, k, none⟩ (.iface T2 x2))) := W22.keep (j := 2) (v := .iface T2 x2) (a := ⟨gp, k, none⟩) (g := gp) rfl ⟨w9, Below.refl _ _, rfl⟩
              have HRU : Hid (Row (w9.setCell ⟨gp, k, none⟩ (.iface T2 x2)) gp 62 (cs.set k (.iface T2 x2))) := HR8.out.set_ k _
              clear c7 f7
              generalize w9.setCell ⟨gp, k, none⟩ (.iface T2 x2) = uu at HKU HRU ⊢
              have hsu := HKU.out.size
              go_roundw
              case rel =>
                have hFg : FB (.slice (some ⟨gp, 0, none⟩) ms.length PC2) (.slice (some ⟨gk, 0, none⟩) ms.length KC) gp := .inl rfl
                have hne2 : ∀ j, ¬ FB (.slice (some ⟨gp, 0, none⟩) ms.length PC2) (.slice (some ⟨gk, 0, none⟩) ms.length KC) j → j ≠ gp := fun j h e => h (e ▸ hFg)
                have htk : (cs.set k (.iface T2 x2)).take ms.length = os2.set k (.iface T2 x2) := by rw [List.take_set, HCS.out]
                refine ⟨k + 1, by omega, by go_num, by omega, HKW.out.trans HKU.out, os2.set k (.iface T2 x2), ?_, HBK.out _ _ _ (by simp) HRU.out htk, fun _ => ⟨_, HRU.out, htk, by rw [List.length_set]; exact HBK.out⟩⟩
                rw [← HWM.out]
                exact (HNI8.out.keep (F' := FB (.slice (some ⟨gp, 0, none⟩) ms.length PC2) (.slice (some ⟨gk, 0, none⟩) ms.length KC)) HKU.out.size (fun j _ h2 h3 => HKU.out.block h2 (hne2 j h3)) fun _ _ h => h).set_ ⟨wa, Bm, hBm, HMO.out, by omega, fun j h1 h2 => ⟨(HKU.out.block (by omega) (hne2 j (HFIX.out j h1 h2).2)).trans (HFIX.out j h1 h2).1, (HFIX.out j h1 h2).2⟩⟩ k
              case measure => simp [intOf]; omega
            · have hke : k = ms.length := by rw [hargl.out]; omega
              rw [hke, wrapM_all] at hni
              have hkki : ¬ ((k : Int) < (y.fs[i].args.length : Int)) := by omega
              have HBX : Hid (Below w.heap.size w wx) := ((HB0.out.trans (HX8.out.mono (by omega))).trans (hkx.out.below (by omega) (by omega)))
              have HND : Hid (MNodeAt wx (w.heap.size + 2) (mkA i (coArgs y y.fs[i].args ms 0)) (.iface 162 (.agg #[.int .i64 (i : Nat), .slice PA2 ms.length PC2]))) :=
                MNodeAt.mk (by rw [coArgs_len]; exact n2) (by rw [coArgs_len]; exact hownx) hni.nodes
              clear hni hownx hrw hos hke hkx
              go_wp2
              try rw [Exit.noGoto_ret]
              refine bodyPost_ret (v := .tuple #[.iface 162 (.agg #[.int .i64 (i : Nat), .slice PA2 ms.length PC2]), .nilIface]) (by simp [results, Tryz.results118, go_sem]) rfl ?_
              exact ⟨.inl ⟨_, _, HFIN.out, rfl, HND.out.base (by omega)⟩, HBX.out⟩
      · have hel := elCall_none (y := y) (nm := a) (ms := ms) (by rw [← hL]; exact hw1)
        have hwd := (pickW_words (ltB y) L).resolve_left hw1
        rw [← hL] at hel
        have HEL2 := Lib.hid (HEL.out.trans hel)
        obtain ⟨ae, hae, hev, hwv⟩ : ∃ ae, ae ∈ [aU, aN, aW, aM, aL] ∧ errOf aN aM (pickW (ltB y) L) = .iface 270 (.pointer (some ae)) ∧ wordV aN aW aM aL ae = pickW (ltB y) L := by
          have hnd := HE.out.nd
          simp only [List.nodup_cons, List.mem_cons, List.not_mem_nil, or_false, not_or] at hnd
          rcases hwd with h | h
          · rw [h]
            exact ⟨aN, by simp, rfl, by unfold wordV; simp; rfl⟩
          · rw [h]
            exact ⟨aM, by simp, rfl, by unfold wordV; simp [Ne.symm hnd.2.1.2.1, Ne.symm hnd.2.2.1.1]; rfl⟩
        rw [hev] at HCHO
        rw [← hwv] at HEL2
        generalize pickI (ltB y) L = PI at HCHO
        have HBX := HBW
        clear hel hwd hw1 HEL hpr hcr HKS hne hev hwv hnr hL
        go_upto_region 12 with fail
        have HLD : Hid (∀ u, Below wr.heap.size wr u → u.cell? ⟨w.heap.size, 0, none⟩ = some (.slice A1 y.ty.sizes.length cap1) ∧ u.cell? ⟨w.heap.size, 1, none⟩ = some (.slice A2 y.ty.cos.length cap2) ∧ u.cell? ⟨w.heap.size, 2, none⟩ = some (.slice A3 y.fs.length cap3) ∧ u.cell? ⟨w.heap.size + 1, 0, none⟩ = some (.string (str [a]))) := fun u hu => ⟨(hu.cell (p := ⟨w.heap.size, 0, none⟩) (by dsimp only; omega)).trans K1.out.1, (hu.cell (p := ⟨w.heap.size, 1, none⟩) (by dsimp only; omega)).trans K1.out.2.1, (hu.cell (p := ⟨w.heap.size, 2, none⟩) (by dsimp only; omega)).trans K1.out.2.2.1, (hu.cell (p := ⟨w.heap.size + 1, 0, none⟩) (by dsimp only; omega)).trans K1.out.2.2.2⟩
        have HST : Hid (Below wr.heap.size wr wr.drew) := (Below.refl _ _).drew
        refine wp_region_inv (by kernel_rfl) (fun dn ac u => ∃ x46 x47 x48 x49 x50 x51 x52 x53 x54 x45 x55 x56 x12 x13, ac = ⟨List.toArray (.agg #[.slice A1 y.ty.sizes.length cap1, .slice A2 y.ty.cos.length cap2, .slice A3 y.fs.length cap3] :: .agg #[.string (str [a]), .slice PA ts.length PC] :: .pointer (some ⟨w.heap.size, 0, none⟩) :: .pointer (some ⟨w.heap.size + 1, 0, none⟩) :: u4 :: u5 :: .slice PA2 ms.length PC2 :: .slice KA ms.length KC :: undef :: u9 :: u10 :: u11 :: x12 :: x13 :: undef :: undef :: undef :: undef :: .pointer (some ⟨w.heap.size + 1, 1, none⟩) :: .slice PA ts.length PC :: .int .i64 ((ts.length : Nat) : Int) :: .int .i64 ((ms.length : Nat) : Int) :: .bool false :: u23 :: u24 :: u25 :: u26 :: u27 :: u28 :: u29 :: u30 :: u31 :: u32 :: u33 :: u34 :: u35 :: u36 :: u37 :: u38 :: u39 :: u40 :: u41 :: u42 :: u43 :: u44 :: x45 :: x46 :: x47 :: x48 :: x49 :: x50 :: x51 :: x52 :: x53 :: x54 :: x55 :: x56 :: undef :: undef :: undef :: undef :: undef :: undef :: undef :: undef :: undef :: undef :: undef :: undef :: undef :: undef :: undef :: undef :: undef :: undef :: undef :: undef :: undef :: undef :: undef :: undef :: undef :: undef :: undef :: undef :: undef :: undef :: undef :: undef :: undef :: undef :: undef :: undef :: undef :: undef :: undef :: undef :: []), []⟩ ∧ DetQ [fun v : Value => v = .agg #[.slice A1 y.ty.sizes.length cap1, .slice A2 y.ty.cos.length cap2, .slice A3 y.fs.length cap3], fun v : Value => v = .agg #[.slice A1 y.ty.sizes.length cap1, .slice A2 y.ty.cos.length cap2, .slice A3 y.fs.length cap3], fun v : Value => v = .iface 211 (.agg #[.slice A1 y.ty.sizes.length cap1, .slice A2 y.ty.cos.length cap2, .slice A3 y.fs.length cap3]), fun v : Value => v = .agg #[.slice A1 y.ty.sizes.length cap1, .slice A2 y.ty.cos.length cap2, .slice A3 y.fs.length cap3], fun v : Value => v = .pointer (some ⟨w.heap.size + 1, 0, none⟩), fun v : Value => v = .string (str [a]), fun v : Value => v = .slice KA ms.length KC, fun v : Value => True, fun v : Value => v = .tuple #[.int .i64 PI, .iface 270 (.pointer (some ae))], fun v : Value => v = .tuple #[.int .i64 PI, .iface 270 (.pointer (some ae))], fun v : Value => v = .int .i64 PI, fun v : Value => v = .iface 270 (.pointer (some ae)), fun v : Value => v = .int .i64 PI, fun v : Value => v = .iface 270 (.pointer (some ae))] dn [x46, x47, x48, x49, x50, x51, x52, x53, x54, x45, x55, x56, x12, x13] ∧ Ch dn [7, 8] (W12 wr (fun u => ∃ lo1, u.ownsRow lo1 3 1 x53 L.length (L.map (Value.int .i64)))) u ∧ True) (of_decide_eq_true (by kernel_rfl)) ⟨_, _, _, _, _, _, _, _, _, _, _, _, _, _, rfl, DetQ.start (by rfl), Ch.start HST.out, trivial⟩ ?_ ?_
        · rintro dn ac u i8 op8 hop hfi hdep ⟨x46, x47, x48, x49, x50, x51, x52, x53, x54, x45, x55, x56, x12, x13, rfl, hD, hC, -⟩
          have hil : i8 < 14 := by have := (Array.getElem?_eq_some_iff.1 hop).1; simpa using this
          obtain rfl | rfl | rfl | rfl | rfl | rfl | rfl | rfl | rfl | rfl | rfl | rfl | rfl | rfl : i8 = 0 ∨ i8 = 1 ∨ i8 = 2 ∨ i8 = 3 ∨ i8 = 4 ∨ i8 = 5 ∨ i8 = 6 ∨ i8 = 7 ∨ i8 = 8 ∨ i8 = 9 ∨ i8 = 10 ∨ i8 = 11 ∨ i8 = 12 ∨ i8 = 13 := by omega
          all_goals
            obtain rfl := Option.some.inj hop
            refine wpOp_step hop fun K hK => ?_
            simp [Region.binds] at hdep
            clear hop
          · obtain ⟨j8, hj8, -, hW⟩ := hC.ex
            have hbu := W12.low hW
            clear hW
            obtain ⟨d1, d2, d3, -⟩ := HLD.out u hbu
            refine det_yes rfl ?_
            have HD := Lib.hid hD
            have HC := Lib.hid hC
            clear hD hC
            unfold Oper.wp
            go_simp
            exact hK _ _ ⟨_, _, _, _, _, _, _, _, _, _, _, _, _, _, rfl, HD.out.step 0 rfl rfl, HC.out.other 0 (by decide), trivial⟩
          · obtain rfl : x46 = .agg #[.slice A1 y.ty.sizes.length cap1, .slice A2 y.ty.cos.length cap2, .slice A3 y.fs.length cap3] := hD.get (P := fun v : Value => v = .agg #[.slice A1 y.ty.sizes.length cap1, .slice A2 y.ty.cos.length cap2, .slice A3 y.fs.length cap3]) 0 (by simp [hdep]) rfl rfl
            refine det_yes rfl ?_
            have HD := Lib.hid hD
            have HC := Lib.hid hC
            clear hD hC
            unfold Oper.wp
            go_simp
            exact hK _ _ ⟨_, _, _, _, _, _, _, _, _, _, _, _, _, _, rfl, HD.out.step 1 rfl rfl, HC.out.other 1 (by decide), trivial⟩
          · obtain rfl : x47 = .agg #[.slice A1 y.ty.sizes.length cap1, .slice A2 y.ty.cos.length cap2, .slice A3 y.fs.length cap3] := hD.get (P := fun v : Value => v = .agg #[.slice A1 y.ty.sizes.length cap1, .slice A2 y.ty.cos.length cap2, .slice A3 y.fs.length cap3]) 1 (by simp [hdep]) rfl rfl
            refine det_yes rfl ?_
            have HD := Lib.hid hD
            have HC := Lib.hid hC
            clear hD hC
            unfold Oper.wp
            go_simp
            exact hK _ _ ⟨_, _, _, _, _, _, _, _, _, _, _, _, _, _, rfl, HD.out.step 2 rfl rfl, HC.out.other 2 (by decide), trivial⟩
          · obtain ⟨j8, hj8, -, hW⟩ := hC.ex
            have hbu := W12.low hW
            clear hW
            obtain ⟨d1, d2, d3, -⟩ := HLD.out u hbu
            refine det_yes rfl ?_
            have HD := Lib.hid hD
            have HC := Lib.hid hC
            clear hD hC
            unfold Oper.wp
            go_simp
            exact hK _ _ ⟨_, _, _, _, _, _, _, _, _, _, _, _, _, _, rfl, HD.out.step 3 rfl rfl, HC.out.other 3 (by decide), trivial⟩
          · refine det_yes rfl ?_
            have HD := Lib.hid hD
            have HC := Lib.hid hC
            clear hD hC
            unfold Oper.wp
            go_simp
            exact hK _ _ ⟨_, _, _, _, _, _, _, _, _, _, _, _, _, _, rfl, HD.out.step 4 rfl rfl, HC.out.other 4 (by decide), trivial⟩
          · obtain rfl : x50 = .pointer (some ⟨w.heap.size + 1, 0, none⟩) := hD.get (P := fun v : Value => v = .pointer (some ⟨w.heap.size + 1, 0, none⟩)) 4 (by simp [hdep]) rfl rfl
            obtain ⟨j8, hj8, -, hW⟩ := hC.ex
            have hbu := W12.low hW
            clear hW
            have d1 := (HLD.out u hbu).2.2.2
            refine det_yes rfl ?_
            have HD := Lib.hid hD
            have HC := Lib.hid hC
            clear hD hC
            unfold Oper.wp
            go_simp
            exact hK _ _ ⟨_, _, _, _, _, _, _, _, _, _, _, _, _, _, rfl, HD.out.step 5 rfl rfl, HC.out.other 5 (by decide), trivial⟩
          · refine det_yes rfl ?_
            have HD := Lib.hid hD
            have HC := Lib.hid hC
            clear hD hC
            unfold Oper.wp
            go_simp
            exact hK _ _ ⟨_, _, _, _, _, _, _, _, _, _, _, _, _, _, rfl, HD.out.step 6 rfl rfl, HC.out.other 6 (by decide), trivial⟩
          · obtain rfl : x49 = .agg #[.slice A1 y.ty.sizes.length cap1, .slice A2 y.ty.cos.length cap2, .slice A3 y.fs.length cap3] := hD.get (P := fun v : Value => v = .agg #[.slice A1 y.ty.sizes.length cap1, .slice A2 y.ty.cos.length cap2, .slice A3 y.fs.length cap3]) 3 (by simp [hdep]) rfl rfl
            obtain rfl : x51 = .string (str [a]) := hD.get (P := fun v : Value => v = .string (str [a])) 5 (by simp [hdep]) rfl rfl
            obtain rfl : x52 = .slice KA ms.length KC := hD.get (P := fun v : Value => v = .slice KA ms.length KC) 6 (by simp [hdep]) rfl rfl
            have hW := hC.at_ 0 (by decide) hfi (by intro j9 e9 _; omega)
            refine det_yes rfl ?_
            have HD := Lib.hid hD
            have HC := Lib.hid hC
            clear hD hC
            have hbu := W12.low hW
            clear hW
            unfold Oper.wp
            go_simp
            refine (HAPL.out u hbu).mono ?_
            rintro e u2 ⟨v53, rfl, hb8, ho8⟩
            have HW2 : (W12 wr (fun u => ∃ lo1, u.ownsRow lo1 3 1 v53 L.length (L.map (Value.int .i64)))) 1 u2 := ⟨hbu.trans (hb8.mono hbu.size), u.heap.size, ho8⟩
            exact hK _ _ ⟨_, _, _, _, _, _, _, _, _, _, _, _, _, _, rfl, HD.out.step 7 rfl (by trivial), HC.out.next 0 (by decide) hfi (by intro j9 e9 _; omega) (by decide) HW2, trivial⟩
          · obtain rfl : x48 = .iface 211 (.agg #[.slice A1 y.ty.sizes.length cap1, .slice A2 y.ty.cos.length cap2, .slice A3 y.fs.length cap3]) := hD.get (P := fun v : Value => v = .iface 211 (.agg #[.slice A1 y.ty.sizes.length cap1, .slice A2 y.ty.cos.length cap2, .slice A3 y.fs.length cap3])) 2 (by simp [hdep]) rfl rfl
            have hW := hC.at_ 1 (by decide) hfi (by intro j9 e9 _; have f9 : j9 = 0 := (by omega); subst f9; simp [hdep])
            refine det_yes rfl ?_
            have HD := Lib.hid hD
            have HC := Lib.hid hC
            clear hD hC
            obtain ⟨hbu, lo1, ho1⟩ := hW
            unfold Oper.wp
            go_simp
            refine (HCHO.out _ lo1 u hbu ho1).mono ?_
            rintro e u2 ⟨rfl, hb8⟩
            have HW2 : (W12 wr (fun u => ∃ lo1, u.ownsRow lo1 3 1 x53 L.length (L.map (Value.int .i64)))) 2 u2 := hbu.trans (hb8.mono hbu.size)
            exact hK _ _ ⟨_, _, _, _, _, _, _, _, _, _, _, _, _, _, rfl, HD.out.step 8 rfl (by rfl), HC.out.next 1 (by decide) hfi (by intro j9 e9 _; have f9 : j9 = 0 := (by omega); subst f9; simp [hdep]) (by decide) HW2, trivial⟩
          · obtain rfl : x54 = .tuple #[.int .i64 PI, .iface 270 (.pointer (some ae))] := hD.get (P := fun v : Value => v = .tuple #[.int .i64 PI, .iface 270 (.pointer (some ae))]) 8 (by simp [hdep]) rfl rfl
            refine det_yes rfl ?_
            have HD := Lib.hid hD
            have HC := Lib.hid hC
            clear hD hC
            unfold Oper.wp
            go_simp
            exact hK _ _ ⟨_, _, _, _, _, _, _, _, _, _, _, _, _, _, rfl, HD.out.step 9 rfl rfl, HC.out.other 9 (by decide), trivial⟩
          · obtain rfl : x45 = .tuple #[.int .i64 PI, .iface 270 (.pointer (some ae))] := hD.get (P := fun v : Value => v = .tuple #[.int .i64 PI, .iface 270 (.pointer (some ae))]) 9 (by simp [hdep]) rfl rfl
            refine det_yes rfl ?_
            have HD := Lib.hid hD
            have HC := Lib.hid hC
            clear hD hC
            unfold Oper.wp
            go_simp
            exact hK _ _ ⟨_, _, _, _, _, _, _, _, _, _, _, _, _, _, rfl, HD.out.step 10 rfl rfl, HC.out.other 10 (by decide), trivial⟩
          · obtain rfl : x45 = .tuple #[.int .i64 PI, .iface 270 (.pointer (some ae))] := hD.get (P := fun v : Value => v = .tuple #[.int .i64 PI, .iface 270 (.pointer (some ae))]) 9 (by simp [hdep]) rfl rfl
            refine det_yes rfl ?_
            have HD := Lib.hid hD
            have HC := Lib.hid hC
            clear hD hC
            unfold Oper.wp
            go_simp
            exact hK _ _ ⟨_, _, _, _, _, _, _, _, _, _, _, _, _, _, rfl, HD.out.step 11 rfl rfl, HC.out.other 11 (by decide), trivial⟩
          · obtain rfl : x55 = .int .i64 PI := hD.get (P := fun v : Value => v = .int .i64 PI) 10 (by simp [hdep]) rfl rfl
            refine det_yes rfl ?_
            have HD := Lib.hid hD
            have HC := Lib.hid hC
            clear hD hC
            unfold Oper.wp
            go_simp
            exact hK _ _ ⟨_, _, _, _, _, _, _, _, _, _, _, _, _, _, rfl, HD.out.step 12 rfl rfl, HC.out.other 12 (by decide), trivial⟩
          · obtain rfl : x56 = .iface 270 (.pointer (some ae)) := hD.get (P := fun v : Value => v = .iface 270 (.pointer (some ae))) 11 (by simp [hdep]) rfl rfl
            refine det_yes rfl ?_
            have HD := Lib.hid hD
            have HC := Lib.hid hC
            clear hD hC
            unfold Oper.wp
            go_simp
            exact hK _ _ ⟨_, _, _, _, _, _, _, _, _, _, _, _, _, _, rfl, HD.out.step 13 rfl rfl, HC.out.other 13 (by decide), trivial⟩
        · rintro dn ac u hall ⟨x46, x47, x48, x49, x50, x51, x52, x53, x54, x45, x55, x56, x12, x13, rfl, hD, hC, -⟩
          obtain rfl : x46 = .agg #[.slice A1 y.ty.sizes.length cap1, .slice A2 y.ty.cos.length cap2, .slice A3 y.fs.length cap3] := hD.get (P := fun v : Value => v = .agg #[.slice A1 y.ty.sizes.length cap1, .slice A2 y.ty.cos.length cap2, .slice A3 y.fs.length cap3]) 0 (hall 0 (by decide)) rfl rfl
          obtain rfl : x47 = .agg #[.slice A1 y.ty.sizes.length cap1, .slice A2 y.ty.cos.length cap2, .slice A3 y.fs.length cap3] := hD.get (P := fun v : Value => v = .agg #[.slice A1 y.ty.sizes.length cap1, .slice A2 y.ty.cos.length cap2, .slice A3 y.fs.length cap3]) 1 (hall 1 (by decide)) rfl rfl
          obtain rfl : x48 = .iface 211 (.agg #[.slice A1 y.ty.sizes.length cap1, .slice A2 y.ty.cos.length cap2, .slice A3 y.fs.length cap3]) := hD.get (P := fun v : Value => v = .iface 211 (.agg #[.slice A1 y.ty.sizes.length cap1, .slice A2 y.ty.cos.length cap2, .slice A3 y.fs.length cap3])) 2 (hall 2 (by decide)) rfl rfl
          obtain rfl : x49 = .agg #[.slice A1 y.ty.sizes.length cap1, .slice A2 y.ty.cos.length cap2, .slice A3 y.fs.length cap3] := hD.get (P := fun v : Value => v = .agg #[.slice A1 y.ty.sizes.length cap1, .slice A2 y.ty.cos.length cap2, .slice A3 y.fs.length cap3]) 3 (hall 3 (by decide)) rfl rfl
          obtain rfl : x50 = .pointer (some ⟨w.heap.size + 1, 0, none⟩) := hD.get (P := fun v : Value => v = .pointer (some ⟨w.heap.size + 1, 0, none⟩)) 4 (hall 4 (by decide)) rfl rfl
          obtain rfl : x51 = .string (str [a]) := hD.get (P := fun v : Value => v = .string (str [a])) 5 (hall 5 (by decide)) rfl rfl
          obtain rfl : x52 = .slice KA ms.length KC := hD.get (P := fun v : Value => v = .slice KA ms.length KC) 6 (hall 6 (by decide)) rfl rfl
          obtain rfl : x54 = .tuple #[.int .i64 PI, .iface 270 (.pointer (some ae))] := hD.get (P := fun v : Value => v = .tuple #[.int .i64 PI, .iface 270 (.pointer (some ae))]) 8 (hall 8 (by decide)) rfl rfl
          obtain rfl : x45 = .tuple #[.int .i64 PI, .iface 270 (.pointer (some ae))] := hD.get (P := fun v : Value => v = .tuple #[.int .i64 PI, .iface 270 (.pointer (some ae))]) 9 (hall 9 (by decide)) rfl rfl
          obtain rfl : x55 = .int .i64 PI := hD.get (P := fun v : Value => v = .int .i64 PI) 10 (hall 10 (by decide)) rfl rfl
          obtain rfl : x56 = .iface 270 (.pointer (some ae)) := hD.get (P := fun v : Value => v = .iface 270 (.pointer (some ae))) 11 (hall 11 (by decide)) rfl rfl
          obtain rfl : x12 = .int .i64 PI := hD.get (P := fun v : Value => v = .int .i64 PI) 12 (hall 12 (by decide)) rfl rfl
          obtain rfl : x13 = .iface 270 (.pointer (some ae)) := hD.get (P := fun v : Value => v = .iface 270 (.pointer (some ae))) 13 (hall 13 (by decide)) rfl rfl
          have hW := hC.all (by intro j9 h9; exact hall _ (by revert j9; decide))
          clear hall hD hC
          have HB8 : Hid (Below wr.heap.size wr u) := hW
          clear hW
          go_wp2
          try rw [Exit.noGoto_ret]
          refine bodyPost_ret (v := .tuple #[.nilIface, .iface 270 (.pointer (some ae))]) (by simp [results, Tryz.results118, go_sem]) rfl ?_
          exact ⟨.inr ⟨ae, _, HEL2.out, rfl, .base, hae⟩, HBX.out.trans (HB8.out.mono HBX.out.size)⟩
end Go.Proofs.YtgkfddhhkjblgaaGreatDoor

