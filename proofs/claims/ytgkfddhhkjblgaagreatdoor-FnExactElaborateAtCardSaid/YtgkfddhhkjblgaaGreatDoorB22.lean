/-
  The contract of the model's reader of explicit terms: call.
-/
import Derived.Test.YtgkfddhhkjblgaaGreatDoorB21
import Derived.Test.YtgkfddhhkjblgaaGreatDoorB4
import Derived.Test.YtgkfddhhkjblgaaGreatDoorB14
import Derived.Test.YtgkfddhhkjblgaaGreatDoorB8
namespace Go.Proofs.YtgkfddhhkjblgaaGreatDoor
open Go.RowKit

/-- What lies neither in the block b nor in the row of the value c stays. -/
structure K2 (b : Nat) (c : Value) (w w' : World) : Prop where
  os : w'.os = w.os
  tape : w'.tape = w.tape
  output : w'.output = w.output
  size : w.heap.size ≤ w'.heap.size
  block : ∀ k, k < w.heap.size → k ≠ b → c.ownBlock ≠ some k → w'.heap[k]? = w.heap[k]?
/-- The row of c' is that of c, or a new one. -/
def Own2 (c c' : Value) (w w' : World) : Prop := c'.ownBlock = c.ownBlock ∨ ∃ g, c'.ownBlock = some g ∧ w.heap.size ≤ g ∧ g < w'.heap.size
theorem K2.refl (b : Nat) (c : Value) (w : World) : K2 b c w w := ⟨rfl, rfl, rfl, Nat.le_refl _, fun _ _ _ _ => rfl⟩
theorem K2.keep {b : Nat} {c : Value} {w w' w'' : World} (h : K2 b c w w') (k : Keep b w' w'') : K2 b c w w'' :=
  ⟨k.grown.os.trans h.os, k.grown.tape.trans h.tape, k.grown.output.trans h.output, Nat.le_trans h.size k.size, fun j hj hb hc => (k.block (Nat.lt_of_lt_of_le hj h.size) hb).trans (h.block j hj hb hc)⟩
theorem K2.trans {b : Nat} {c c' : Value} {w w' w'' : World} (h : K2 b c w w') (ho : Own2 c c' w w') (k : K2 b c' w' w'') : K2 b c w w'' :=
  ⟨k.os.trans h.os, k.tape.trans h.tape, k.output.trans h.output, Nat.le_trans h.size k.size, fun j hj hb hc => (k.block j (Nat.lt_of_lt_of_le hj h.size) hb (by
    rcases ho with e | ⟨g, e, hg, _⟩
    · rw [e]; exact hc
    · rw [e]; intro h'; injection h' with h'; omega)).trans (h.block j hj hb hc)⟩
theorem Own2.refl (c : Value) (w w' : World) : Own2 c c w w' := .inl rfl
theorem Own2.trans {c c' c'' : Value} {w w' w'' : World} (h : Own2 c c' w w') (hs : w.heap.size ≤ w'.heap.size) (k : Own2 c' c'' w' w'') (hs2 : w'.heap.size ≤ w''.heap.size) : Own2 c c'' w w'' := by
  rcases k with e | ⟨g, e, hg, hg2⟩
  · rcases h with e' | ⟨g, e', hg, hg2⟩
    · exact .inl (e.trans e')
    · exact .inr ⟨g, e.trans e', hg, by omega⟩
  · exact .inr ⟨g, e, by omega, hg2⟩
theorem Own2.grow {c c' : Value} {w w' w'' : World} (h : Own2 c c' w w') (hs : w'.heap.size ≤ w''.heap.size) : Own2 c c' w w'' := by
  rcases h with e | ⟨g, e, hg, hg2⟩
  · exact .inl e
  · exact .inr ⟨g, e, hg, by omega⟩
theorem K2.below {b B : Nat} {c : Value} {w w' : World} (h : K2 b c w w') (hb : B ≤ b) (hc : ∀ g, c.ownBlock = some g → B ≤ g) (hB : B ≤ w.heap.size) : Below B w w' :=
  ⟨h.os, h.tape, h.output, h.size, fun k hk => h.block k (by omega) (by omega) fun e => by have := hc k e; omega⟩

theorem K2.grown {b : Nat} {c : Value} {w w' w'' : World} (h : K2 b c w w') (g : w'.grownBy w'' c.ownBlock) : K2 b c w w'' :=
  ⟨g.os.trans h.os, g.tape.trans h.tape, g.output.trans h.output, Nat.le_trans h.size g.size, fun j hj hb hc => (g.block j (Nat.lt_of_lt_of_le hj h.size) fun e => hc e.symm).trans (h.block j hj hb hc)⟩
theorem K2.under {b : Nat} {c : Value} {w w' w'' : World} (h : K2 b c w w') (k : Below w'.heap.size w' w'') : K2 b c w w'' :=
  ⟨k.os.trans h.os, k.tape.trans h.tape, k.output.trans h.output, Nat.le_trans h.size k.size, fun j hj hb hc => (k.block j (Nat.lt_of_lt_of_le hj h.size)).trans (h.block j hj hb hc)⟩
theorem drop_suffix {L m r : List UInt8} {q : Nat} (h : L.drop q = m ++ r) : L.drop (L.length - r.length) = r ∧ r.length + m.length + q ≤ max L.length q := by
  have hl : (L.drop q).length = m.length + r.length := by rw [h]; simp
  rw [List.length_drop] at hl
  refine ⟨?_, by omega⟩
  rcases Nat.lt_or_ge q L.length with hq | hq
  · have e : L.length - r.length = q + m.length := by omega
    rw [e, ← List.drop_drop, h]
    simp
  · have h1 : m.length = 0 ∧ r.length = 0 := by omega
    have e : r = [] := List.eq_nil_of_length_eq_zero h1.2
    rw [e]
    simp
theorem own_lt {w : World} {N : Nat} {t : TypeId} {v : Value} {n : Nat} {xs : List Value} (h : w.ownsRow N t 1 v n xs) : ∀ g, v.ownBlock = some g → N ≤ g ∧ g < w.heap.size := by
  obtain ⟨_, ⟨e, _⟩ | ⟨g, cap3, cur, e, hg, hh, _⟩⟩ := h
  · intro g' hg'
    rw [e] at hg'
    cases hg'
  · intro g' hg'
    rw [e] at hg'
    simp [Value.ownBlock] at hg'
    subst hg'
    refine ⟨hg, ?_⟩
    rcases Nat.lt_or_ge g w.heap.size with h' | h'
    · exact h'
    · rw [Array.getElem?_eq_none h'] at hh; cases hh
theorem own_slice7 {w : World} {N : Nat} {t : TypeId} {v : Value} {n : Nat} {xs : List Value} (h : w.ownsRow N t 1 v n xs) : ∃ A c, v = .slice A n c := by
  obtain ⟨_, ⟨rfl, rfl⟩ | ⟨g, cap3, cur, rfl, _⟩⟩ := h
  · exact ⟨_, _, rfl⟩
  · exact ⟨_, _, rfl⟩
theorem own_k2 {w w' : World} {N b : Nat} {c v : Value} {t : TypeId} {n : Nat} {xs : List Value} (h : w.ownsRow N t 1 v n xs) (hk : K2 b c w w') (hb : b < N) (hc : ∀ g, v.ownBlock = some g → c.ownBlock ≠ some g) : w'.ownsRow N t 1 v n xs := by
  obtain ⟨h1, h2 | ⟨g, cap, cur, e, hg, hh, r⟩⟩ := h
  · exact ⟨h1, .inl h2⟩
  · refine ⟨h1, .inr ⟨g, cap, cur, e, hg, (hk.block g ?_ (by omega) (hc g (by rw [e]; rfl))).trans hh, r⟩⟩
    rcases Nat.lt_or_ge g w.heap.size with h' | h'
    · exact h'
    · rw [Array.getElem?_eq_none h'] at hh; cases hh
theorem Row.k2 {w w' : World} {b g : Nat} {c : Value} {t : TypeId} {xs : List Value} (h : Row w g t xs) (hk : K2 b c w w') (hb : g ≠ b) (hc : c.ownBlock ≠ some g) : Row w' g t xs := h.keep (hk.block g h.lt hb hc)
theorem call_tmM {t : Tm} (h : isCallT t = true) : callL (headT t) ((partsT t).map tmT) = tmT t := by
  cases t with
  | lit k v => cases h
  | c0 n => rfl
  | c1 n a => simp [callL, headT, partsT, tmT, Lib.join_one]
  | c2 n a b => simp [callL, headT, partsT, tmT, Lib.join_cons, Lib.joinTail]
theorem mkCall_is (n : UInt8) (ts : List Tm) : isCallT (mkCall n ts) = true := by
  match ts with
  | [] => rfl
  | [_] => rfl
  | _ :: _ :: _ => rfl
theorem headT_mk (n : UInt8) {ts : List Tm} (h : ts.length ≤ 2) : headT (mkCall n ts) = [n] := by
  match ts, h with
  | [], _ => rfl
  | [_], _ => rfl
  | [_, _], _ => rfl
theorem rdIx_len {n : Nat} {l r : List UInt8} {i : Nat} (h : rdIx n l = some (i, r)) : r.length + 1 = l.length := by
  have := (rdIx_eq h).2.2
  rw [this]
  simp [dg]
def txM (y : Sy) (m : Mk) : List UInt8 := tmT (erM y m)

/-- What the model's reader comes to, from where it stands; c holds what was called before. -/
def ReadPost7 (lo hi b : Nat) (sv cv fv : Value) (y : Sy) (L : List UInt8) (q : Nat) (used : Int) (c : Value) (cs : List Int) (o : Option (Mk × List UInt8)) (w : World) (e : Ending) (w' : World) : Prop :=
  ((∃ m r c', o = some (m, r) ∧ MkOk y m ∧ L.drop q = mkT m ++ r ∧ e = .returned (.tuple #[.string (str (tmT (erM y m))), .int .i64 (kindM y m)]) ∧ Sr lo hi b sv cv fv y L (L.length - r.length) false (used + (coN m : Int)) c' w' ∧ w'.ownsRow (b + 1) 3 1 c' (cs ++ fnM m).length ((cs ++ fnM m).map (Value.int .i64)) ∧ Own2 c c' w w') ∨
   (o = none ∧ ∃ s k used' c', e = .returned (.tuple #[.string s, .int .i64 k]) ∧ BadAt lo hi b sv cv fv y L used' c' w' ∧ Own2 c c' w w')) ∧ K2 b c w w'
def Reads7 (lo hi b : Nat) (sv cv fv : Value) (y : Sy) (L : List UInt8) (f : Nat) : Prop :=
  ∀ (q : Nat) (used : Int) (c : Value) (cs : List Int) (w : World), Sr lo hi b sv cv fv y L q false used c w → w.ownsRow (b + 1) 3 1 c cs.length (cs.map (Value.int .i64)) → q ≤ L.length → L.length - q ≤ f → 0 ≤ used → used ≤ q → cs.length ≤ q →
    Calls Tryz.prog 127 #[.pointer (some ⟨b, 0, none⟩)] w fun e w' => ReadPost7 lo hi b sv cv fv y L q used c cs (rdMk y f (L.drop q)) w e w'

set_option maxRecDepth 100000 in
set_option maxHeartbeats 1000000 in
/-- Where something was wrong before. -/
theorem term7_bad (lo hi b : Nat) (sv cv fv : Value) (y : Sy) (L : List UInt8) (used : Int) (cal : Value) (w : World) (h : BadAt lo hi b sv cv fv y L used cal w) (hL : L.length ≤ 400) :
    Calls Tryz.prog 127 #[.pointer (some ⟨b, 0, none⟩)] w fun e w' => e = .returned (.tuple #[.string ⟨#[]⟩, .int .i64 (-1)]) ∧ BadAt lo hi b sv cv fv y L used cal w' ∧ Keep b w w' := by
  obtain ⟨q, hq, h⟩ := h
  have HN : Hid (Calls Tryz.prog 144 #[.pointer (some ⟨b, 0, none⟩)] w fun e w' => (∃ x : Int, e = .returned (.int .u8 x)) ∧ BadAt lo hi b sv cv fv y L used cal w' ∧ Keep b w w') := by
    show Calls _ _ _ _ _
    cases hcr : L.drop q with
    | nil => exact (next_no lo hi b sv cv fv y L q true used cal w h (drop_nil_of hcr)).mono fun e w' ⟨he, hs, hk⟩ => ⟨⟨_, he⟩, ⟨q, hq, hs⟩, hk⟩
    | cons c r => exact (next_yes lo hi b sv cv fv y L q true used cal c r w h hL hcr).mono fun e w' ⟨he, hs, hk⟩ => ⟨⟨_, he⟩, ⟨q + 1, (drop_cons_of hcr).1, hs⟩, hk⟩
  clear h
  go_enter Tryz.func127, Tryz.ntmps127
  go_wp2_with fail
  refine HN.out.mono ?_
  rintro e w1 ⟨⟨x, rfl⟩, hb1, hk1⟩
  have HB1 := Lib.hid hb1
  have HK1 := Lib.hid hk1
  obtain ⟨q1, hq1, hs1⟩ := hb1
  obtain ⟨-, -, -, -, -, c5, -, -⟩ := hs1.cells
  clear hk1 hs1 HN
  go_wp2
  try rw [Exit.noGoto_ret]
  refine bodyPost_ret (v := .tuple #[.string ⟨#[]⟩, .int .i64 (-1)]) (by simp [results, Tryz.results127, go_sem]) rfl ?_
  exact ⟨rfl, HB1.out, HK1.out⟩

set_option maxRecDepth 100000 in
set_option maxHeartbeats 4000000 in
theorem call7_any (lo hi b : Nat) (sv cv fv : Value) (y : Sy) (hy : SyOk y) (L : List UInt8) (hL : L.length ≤ 400) (f : Nat) (IH : Reads7 lo hi b sv cv fv y L f) (q : Nat) (used : Int) (c : Value) (cs : List Int) (l : List UInt8) (w : World)
    (h : Sr lo hi b sv cv fv y L (q + 1) false used c w) (ho : w.ownsRow (b + 1) 3 1 c cs.length (cs.map (Value.int .i64))) (hd : L.drop q = 64 :: l) (hf : L.length - (q + 1) ≤ f) (hu0 : 0 ≤ used) (hu : used ≤ q) (hcs : cs.length ≤ q) :
    Calls Tryz.prog 147 #[.pointer (some ⟨b, 0, none⟩)] w fun e w' => ReadPost7 lo hi b sv cv fv y L q used c cs (rdApM (rdMk y f) y (L.drop q)) w e w' := by
  obtain ⟨hql, hdr, -⟩ := drop_cons_of hd
  obtain ⟨F, fap, rfl, hl3, hm3, _⟩ := h.sy.2.form
  obtain ⟨-, -, c2, -, -, -, -, -⟩ := h.cells
  have hbw := h.lt
  have HS := Lib.hid h
  have HO := Lib.hid ho
  have HI := Lib.hid IH
  have hn8 : y.fs.length ≤ 8 := hy.few
  have hco : Hid (rdApM (rdMk y f) y (L.drop q) = (rdIx y.fs.length l).bind fun p => (rdTake 40 p.2).bind fun r => (rdTo (rdMk y f) y (y.fs.getD p.1 default).args (y.fs.getD p.1 default).args.length r).bind fun q => (rdTake 41 q.2).map fun r => (mkA p.1 q.1, r)) := by
    show _ = _
    unfold rdApM rdOpen
    rw [hd, rdTake_cons]
    cases h1 : rdIx y.fs.length l with
    | none => simp [h1]
    | some p =>
      cases h2 : rdTake 40 p.2 with
      | none => simp [h1, h2]
      | some r => simp [h1, h2]
  have hd64 := Lib.hid hd
  clear h ho IH hd hl3 hm3
  go_enter Tryz.func147, Tryz.ntmps147
  go_wp2_with fail
  cases hix : rdIx y.fs.length l with
  | none =>
    have hno : Hid (rdApM (rdMk y f) y (L.drop q) = none) := by show _ = _; rw [hco.out, hix]; rfl
    refine (digit7_no lo hi b _ _ _ y L (q + 1) used c y.fs.length w HS.out hL (by omega) hn8 (by rw [hdr]; exact hix)).mono ?_
    clear hix hco
    rintro e w1 ⟨rfl, hb1, hk1⟩
    have HB1 : Hid (BadAt lo hi b sv cv (.slice F y.fs.length fap) y L used c w1) := hb1
    have HK1 := Lib.hid ((K2.refl b c w).keep hk1)
    clear hb1 hk1 HS
    go_wp2_with fail
    refine (take7_bad lo hi b _ _ _ y L used c 40 w1 HB1.out hL).mono ?_
    rintro e w2 ⟨rfl, hb2, hk2⟩
    have HK2 := Lib.hid (HK1.out.keep hk2)
    have HB2 := Lib.hid hb2
    obtain ⟨q2, hq2, hs2⟩ := hb2
    obtain ⟨-, -, -, -, -, c5, -, -⟩ := hs2.cells
    clear hk2 HK1 HB1 hs2
    go_wp2
    try rw [Exit.noGoto_ret]
    refine bodyPost_ret (v := .tuple #[.string ⟨#[]⟩, .int .i64 (-1)]) (by simp [results, Tryz.results147, go_sem]) rfl ?_
    exact ⟨.inr ⟨hno.out, _, _, used, c, rfl, HB2.out, Own2.refl _ _ _⟩, HK2.out⟩
  | some p =>
    obtain ⟨i, r1⟩ := p
    have hi9 := (rdIx_eq hix).2.1
    have hif := (rdIx_eq hix).1
    have hco1 : Hid (rdApM (rdMk y f) y (L.drop q) = (rdTake 40 r1).bind fun r => (rdTo (rdMk y f) y (y.fs.getD i default).args (y.fs.getD i default).args.length r).bind fun q => (rdTake 41 q.2).map fun r => (mkA i q.1, r)) := by show _ = _; rw [hco.out, hix]; rfl
    have hq2 : q + 2 ≤ L.length := by have h := congrArg List.length hdr; have h2 := rdIx_len hix; rw [List.length_drop] at h; omega
    refine (digit7_yes lo hi b _ _ _ y L (q + 1) used c y.fs.length i r1 w HS.out hL hn8 (by rw [hdr]; exact hix)).mono ?_
    clear hix hco
    rintro e w1 ⟨rfl, hs1, hd1, hk1⟩
    have HS1 := Lib.hid hs1
    have HK1 := Lib.hid ((K2.refl b c w).keep hk1)
    have HO1 := Lib.hid (own_keep HO.out hk1 (by omega))
    clear hs1 hk1 HS HO
    go_wp2_with fail
    cases htk : rdTake 40 r1 with
    | none =>
      have hno : Hid (rdApM (rdMk y f) y (L.drop q) = none) := by show _ = _; rw [hco1.out, htk]; rfl
      refine (take7_no lo hi b _ _ _ y L (q + 2) used c 40 40 rfl (by decide) w1 HS1.out hL hq2 (by rw [hd1]; exact htk)).mono ?_
      clear htk hco1
      rintro e w2 ⟨rfl, hb2, hk2⟩
      have HK2 := Lib.hid (HK1.out.keep hk2)
      have HB2 := Lib.hid hb2
      obtain ⟨q2, hq2, hs2⟩ := hb2
      obtain ⟨-, -, -, -, -, c5, -, -⟩ := hs2.cells
      clear hk2 HK1 HS1 hs2
      go_wp2
      try rw [Exit.noGoto_ret]
      refine bodyPost_ret (v := .tuple #[.string ⟨#[]⟩, .int .i64 (-1)]) (by simp [results, Tryz.results147, go_sem]) rfl ?_
      exact ⟨.inr ⟨hno.out, _, _, used, c, rfl, HB2.out, Own2.refl _ _ _⟩, HK2.out⟩
    | some r2 =>
      have hco2 : Hid (rdApM (rdMk y f) y (L.drop q) = (rdTo (rdMk y f) y (y.fs.getD i default).args (y.fs.getD i default).args.length r2).bind fun q => (rdTake 41 q.2).map fun r => (mkA i q.1, r)) := by show _ = _; rw [hco1.out, htk]; rfl
      refine (take7_yes lo hi b _ _ _ y L (q + 2) used c 40 40 rfl r2 w1 HS1.out hL (by rw [hd1]; exact htk)).mono ?_
      clear htk hco1
      rintro e w2 ⟨rfl, hs2, hd2, hq2, hk2⟩
      obtain ⟨-, -, -, -, -, c5, -, c7⟩ := hs2.cells
      have f7 := hs2.frozen 7
      have hblt := hs2.lt
      have HS2 := Lib.hid hs2
      have HK2 := Lib.hid (HK1.out.keep hk2)
      have HO2 := Lib.hid (own_keep HO1.out hk2 (by omega))
      obtain ⟨i0, hi0, hz0, hz1, hz2⟩ := info_parts (show (Tryz.prog.info? 3).map (fun i => (i.zero, i.size, i.bytes)) = some (some (.int .i64 0), 1, 8) by kernel_rfl)
      clear hs2 hk2 HS1 HK1 HO1
      go_wp2_with (at_builtin; refine wpList_push rfl (.tmp 29) (.tmp 31) 22 rfl i0 (.int .i64 0) 8 Tryz.underlying22 hi0 hz0 hz1 hz2 rfl rfl (HO2.out.alloc _) ⟨w2.heap.size, 0, none⟩ 1 (.int .i64 i) rfl (by simp [go_sem]) rfl (by unfold maxLen; omega) (by omega) (by simp; omega) ?_)
      intro c3 w3 hpu
      obtain ⟨g3, cap3, rfl⟩ := hpu.form
      have hown2 := HO2.out
      have hcge := fun g hg => (own_lt hown2 g hg).1
      have hclt := fun g hg => (own_lt hown2 g hg).2
      have hs3 : w2.heap.size + 1 ≤ w3.heap.size := by have := hpu.grown.size; simpa using this
      have HS3 : Hid (Sr lo hi b sv cv (.slice F y.fs.length fap) y L (q + 3) false used c w3) := HS2.out.keep fun k hk => (hpu.grown.block k (by simp; omega) fun e => by have := hcge k e.symm; omega).trans ((Below.refl _ _).alloc (Nat.le_refl _) (.cells #[.int .i64 i] 3) |>.block k (by omega))
      have c7' := HS3.out.cells.2.2.2.2.2.2.2
      have f7' := HS3.out.frozen 7
      have HK3 : Hid (K2 b c w w3) := (HK2.out.under ((Below.refl _ _).alloc (Nat.le_refl _) _)).grown hpu.grown
      have HO3 := Lib.hid hpu.own
      have Hat3 : Hid (Own2 c (.slice (some ⟨g3, 0, none⟩) (cs.length + 1) cap3) w w3) := by
        rcases hpu.at_ with e | ⟨g, e, h1, h2⟩
        · exact .inl e
        · exact .inr ⟨g, e, by have := HK2.out.size; simp at h1; omega, h2⟩
      have HCge : Hid (∀ g, c.ownBlock = some g → b + 1 ≤ g) := hcge
      clear hpu c5 c7 f7 hown2 hcge hclt HS2 HK2 HO2
      obtain ⟨u4, hu4⟩ : ∃ u, u = w3.setCell ⟨b, 7, none⟩ (.slice (some ⟨g3, 0, none⟩) (cs.length + 1) cap3) := ⟨_, rfl⟩
      have HS4 : Hid (Sr lo hi b sv cv (.slice F y.fs.length fap) y L (q + 3) false used (.slice (some ⟨g3, 0, none⟩) (cs.length + 1) cap3) u4) := by rw [hu4]; exact HS3.out.setCal _
      have HK4 : Hid (K2 b c w u4) := by rw [hu4]; exact HK3.out.keep (Keep.set7 b 7 _ _)
      have HO4 : Hid (u4.ownsRow (b + 1) 3 1 (.slice (some ⟨g3, 0, none⟩) (cs.length + 1) cap3) (cs.length + 1) (cs.map (Value.int .i64) ++ [.int .i64 i])) := by rw [hu4]; exact own_keep HO3.out (Keep.set7 b 7 _ _) (by omega)
      have hs4 : u4.heap.size = w3.heap.size := by rw [hu4]; simp [World.setCell]
      have Hat4 : Hid (Own2 c (.slice (some ⟨g3, 0, none⟩) (cs.length + 1) cap3) w u4) := Hat3.out.grow (by omega)
      clear HS3 HK3 HO3 Hat3
      obtain ⟨fb, foff, A1, cap1, A2, cap2, rfl, hfb1, hfb2, k0, k1, k2, k3, _, hm1, _, _, hfa⟩ := HS4.out.sy.2.at_ hif
      have c2 := HS4.out.cells.2.2.1
      rw [hu4] at k0 k1 k2 k3 c2
      unfold maxLen at hm1
      have hgd : y.fs.getD i default = y.fs[i] := getD_get hif
      have hnm := (nmOf_name hy hif).1
      rw [hnm] at k0
      rw [hgd] at hco2
      have hfew := (hy.each i hif).few
      obtain ⟨B, hB⟩ : ∃ B, B = w3.heap.size := ⟨_, rfl⟩
      have hIA := Lib.hid hfa.2.2.2.2.1
      clear hfa hnm hgd
      go_wp2_with fail
      rw [← hu4]
      obtain ⟨u5, hu5⟩ : ∃ u, u = (u4.alloc (.cells #[.string (str [nmOf y i]), .slice A1 y.fs[i].args.length cap1, .int .i64 y.fs[i].res, .slice A2 y.fs[i].table.length cap2] 106)).alloc (.cells #[] 9) := ⟨_, rfl⟩
      rw [← hu5, ← hB]
      have hb5 : Below u4.heap.size u4 u5 := by rw [hu5]; exact ((Below.refl _ _).alloc (Nat.le_refl _) _).alloc (by simp) _
      have HR5 : Hid (Row u5 B 106 [.string (str [nmOf y i]), .slice A1 y.fs[i].args.length cap1, .int .i64 y.fs[i].res, .slice A2 y.fs[i].table.length cap2]) := by
        show Row _ _ _ _
        rw [hu5, hB, ← hs4]
        exact (Row.new u4 _ _).alloc _
      have HP5 : Hid (u5.ownsRow (B + 1) 9 1 (.slice (some ⟨B + 1, 0, none⟩) 0 0) 0 []) := by
        show World.ownsRow _ _ _ _ _ _ _
        rw [hu5, hB, ← hs4]
        have h := World.ownsRow_lit (e := 9) (base := u4.heap.size + 1) (size := 1) (u4.alloc (.cells #[.string (str [nmOf y i]), .slice A1 y.fs[i].args.length cap1, .int .i64 y.fs[i].res, .slice A2 y.fs[i].table.length cap2] 106)) #[] 0 (by simp) (by unfold maxLen; omega) rfl
        simpa using h
      have HS5 : Hid (Sr lo hi b sv cv (.slice (some ⟨fb, foff, none⟩) y.fs.length fap) y L (q + 3) false used (.slice (some ⟨g3, 0, none⟩) (cs.length + 1) cap3) u5) := HS4.out.keep fun k hk => hb5.block k (by have := HS4.out.lt; omega)
      have HO5 : Hid (u5.ownsRow (b + 1) 3 1 (.slice (some ⟨g3, 0, none⟩) (cs.length + 1) cap3) (cs.length + 1) (cs.map (Value.int .i64) ++ [.int .i64 i])) := ownsRow_below HO4.out hb5 (Nat.le_refl _)
      have HK5 := Lib.hid (HK4.out.under hb5)
      have Hat5 := Lib.hid (Hat4.out.grow hb5.size)
      have hg3 : g3 < B := by have := (own_lt HO4.out g3 rfl).2; omega
      have HIA : Hid (∀ u : World, K2 b c w u → IntsAt u lo hi (.slice A1 y.fs[i].args.length cap1) y.fs[i].args) := fun u hu => hIA.out.keep fun k _ hk => by
        have hhb := HS4.out.hib
        have hcg := Hid.out HCge k
        exact (hu.block k (by omega) (by omega) fun e => by have := hcg e; omega).trans (HK4.out.block k (by omega) (by omega) fun e => by have := hcg e; omega).symm
      have hq3 : L.length - r2.length = q + 3 := by
        have h := congrArg List.length hd2
        rw [List.length_drop] at h
        omega
      have hr2 : r2.length + q + 3 ≤ L.length := by omega
      have HBw : Hid (b + 1 ≤ B ∧ w.heap.size ≤ B) := by show _ ∧ _; have := HK5.out.size; have := HK4.out.size; omega
      obtain ⟨j0, hj0, hy0, hy1, hy2⟩ := info_parts (show (Tryz.prog.info? 9).map (fun i => (i.zero, i.size, i.bytes)) = some (some (.string ⟨#[]⟩), 1, 16) by kernel_rfl)
      clear hb5 hIA HS4 HO4 HK4 Hat4 hu5 hu4 hs4 hB k0 k1 k2 k3 c2 c7' f7' hi0 hz0 hz1 hz2
      go_loopw [6, 47] (fun ps ix wr => ∃ (k : Nat) (ms : List Mk) (r3 : List UInt8) (used2 : Int) (c2 : Value) (cs2 : List Int), k ≤ y.fs[i].args.length ∧ ix = .int .i64 k ∧ Hid (ms.length = k) ∧ r3.length + q + 3 ≤ L.length ∧ 0 ≤ used2 ∧ used2 ≤ ((L.length - r3.length : Nat) : Int) ∧ cs2.length ≤ L.length - r3.length ∧ c2.ownBlock ≠ some B ∧ Hid (rdTo (rdMk y f) y y.fs[i].args k r2 = some (ms, r3)) ∧ Hid (L.drop (L.length - r3.length) = r3) ∧ Hid (used2 = used + (((ms.map coN).sum : Nat) : Int)) ∧ Hid (cs2 = cs ++ (i : Int) :: (ms.map fnM).flatten) ∧ Hid (∀ m ∈ ms, MkOk y m ∧ (mkT m).length ≤ 400) ∧ Hid (Sr lo hi b sv cv (.slice (some ⟨fb, foff, none⟩) y.fs.length fap) y L (L.length - r3.length) false used2 c2 wr) ∧ Hid (wr.ownsRow (b + 1) 3 1 c2 cs2.length (cs2.map (Value.int .i64))) ∧ Hid (Own2 c c2 w wr) ∧ Hid (K2 b c w wr) ∧ Hid (Row wr B 106 [.string (str [nmOf y i]), .slice A1 y.fs[i].args.length cap1, .int .i64 y.fs[i].res, .slice A2 y.fs[i].table.length cap2]) ∧ Hid (wr.ownsRow (B + 1) 9 1 ps ms.length (strVs (ms.map (txM y)))) ∧ Hid (∀ g, ps.ownBlock = some g → c2.ownBlock ≠ some g)) (fun _ ix _ => y.fs[i].args.length - (intOf ix).toNat)
      case atStart =>
        have q1 : used ≤ ((L.length - r2.length : Nat) : Int) := by rw [hq3]; omega
        have q2 : (cs ++ [(i : Int)]).length ≤ L.length - r2.length := by rw [hq3]; simp; omega
        have q3 : (Value.slice (some ⟨g3, 0, none⟩) (cs.length + 1) cap3).ownBlock ≠ some B := by
          show some g3 ≠ some B
          intro e; injection e with e; omega
        have q4 : L.drop (L.length - r2.length) = r2 := by rw [hq3]; exact hd2
        have q5 : used = used + ((((([] : List Mk)).map coN).sum : Nat) : Int) := by simp
        have q6 : cs ++ [(i : Int)] = cs ++ (i : Int) :: (([] : List Mk).map fnM).flatten := by simp
        have q7 : ∀ m ∈ ([] : List Mk), MkOk y m ∧ (mkT m).length ≤ 400 := fun m hm => by cases hm
        have q8 : Sr lo hi b sv cv (.slice (some ⟨fb, foff, none⟩) y.fs.length fap) y L (L.length - r2.length) false used (.slice (some ⟨g3, 0, none⟩) (cs.length + 1) cap3) u5 := by rw [hq3]; exact HS5.out
        have q9 : u5.ownsRow (b + 1) 3 1 (.slice (some ⟨g3, 0, none⟩) (cs.length + 1) cap3) (cs ++ [(i : Int)]).length ((cs ++ [(i : Int)]).map (Value.int .i64)) := by simpa using HO5.out
        have q10 : ∀ g, (Value.slice (some ⟨B + 1, 0, none⟩) 0 0).ownBlock = some g → (Value.slice (some ⟨g3, 0, none⟩) (cs.length + 1) cap3).ownBlock ≠ some g := fun g hg => by
          have e1 : B + 1 = g := by simpa [Value.ownBlock] using hg
          show some g3 ≠ some g
          intro e; injection e with e; omega
        exact ⟨0, [], r2, used, .slice (some ⟨g3, 0, none⟩) (cs.length + 1) cap3, cs ++ [(i : Int)], Nat.zero_le _, rfl, rfl, hr2, hu0, q1, q2, q3, rfl, q4, q5, q6, q7, q8, q9, Hat5.out, HK5.out, HR5.out, HP5.out, q10⟩
      case round =>
        obtain ⟨k, ms, r3, used2, c2, cs2, hk, rfl, hml, hr3, hu2, hu3, hcs2, hcB, hrd0, hdr3, hus, hcss, hmsok, HSr, HOr, Hatr, HKr, HRr, HPr, HNEr⟩ := hrel
        clear HS5 HO5 HK5 Hat5 HR5 HP5
        have hwr := HKr.out.size
        have hblr := HSr.out.lt
        have hBl := HRr.out.lt
        obtain ⟨PA, PC, rfl⟩ := own_slice7 HPr.out
        by_cases hkl : k < y.fs[i].args.length
        · obtain ⟨b3, off3, rfl, _, _, a3, i3⟩ := (HIA.out _ HKr.out).at_ hkl
          by_cases hk0 : k = 0
          · subst hk0
            have hrd : Hid (rdTo (rdMk y f) y y.fs[i].args (0 + 1) r2 = (rdOf (rdMk y f) y y.fs[i].args[0] r3).map fun q => (ms ++ [q.1], q.2)) := by
              show _ = _
              rw [rdTo, hrd0.out, getD_get hkl]
              simp
            have hdr4 := hdr3
            rw [Nat.add_zero] at a3
            clear i3 hrd0
            go_wp2_with fail
            refine (HI.out (L.length - r3.length) used2 c2 cs2 wr HSr.out HOr.out (by omega) (by omega) hu2 (by omega) (by omega)).mono ?_
            rintro e w6 ⟨⟨m, r5, c6, hm, hok, htx, rfl, hs6, ho6, hat6⟩ | ⟨hm, s6, k6, u6, c6, rfl, hb6, hat6⟩, hk6⟩
            · rw [hdr4.out] at hm
              have hsuf := drop_suffix htx
              have hln : (mkT m).length + r5.length = r3.length := by
                have h1 := congrArg List.length htx
                rw [List.length_drop, List.length_append] at h1
                omega
              have hcl := coN_le m
              have hfl := fnM_le m
              have HK6 := Lib.hid (HKr.out.trans Hatr.out hk6)
              have hs6w := hk6.size
              have Hat6 := Lib.hid (Hatr.out.trans HKr.out.size hat6 hs6w)
              have HS6 := Lib.hid hs6
              have HO6 := Lib.hid ho6
              have HR6 := Lib.hid (Row.k2 HRr.out hk6 (by have := HBw.out; omega) hcB)
              have HP6 := Lib.hid (own_k2 HPr.out hk6 (by have := HBw.out; omega) HNEr.out)
              have hcB6 : c6.ownBlock ≠ some B := by
                have hBl := HRr.out.lt
                rcases hat6 with e | ⟨g, e, hg, _⟩
                · rw [e]; exact hcB
                · rw [e]; intro h'; injection h' with h'; omega
              have HNE6 : Hid (∀ g, (Value.slice PA ms.length PC).ownBlock = some g → c6.ownBlock ≠ some g) := fun g hg => by
                have hgl := (own_lt HPr.out g hg).2
                rcases hat6 with e | ⟨g', e, hg', _⟩
                · rw [e]; exact HNEr.out g hg
                · rw [e]; intro h'; injection h' with h'; omega
              obtain ⟨-, -, -, -, -, c5, -, -⟩ := hs6.cells
              have f5 := hs6.frozen 5
              have hrd1 : Hid (rdTo (rdMk y f) y y.fs[i].args (0 + 1) r2 = if kindM y m = y.fs[i].args[0] then some (ms ++ [m], r5) else none) := by
                show _ = _
                rw [hrd.out]
                unfold rdOf
                rw [hm]
                simp only [Option.bind_some]
                split <;> rfl
              clear hk6 hat6 hs6 ho6 hm hrd
              by_cases hkind : kindM y m = y.fs[i].args[0]
              · have hrd2 : Hid (rdTo (rdMk y f) y y.fs[i].args (0 + 1) r2 = some (ms ++ [m], r5)) := by show _ = _; rw [hrd1.out, if_pos hkind]
                have Htx : Hid (str (txM y m) = str (tmT (erM y m))) := rfl
                have HOK := Lib.hid hok
                have Hsuf := Lib.hid hsuf.1
                clear hrd1 hok htx hsuf
                have hm2 : ms.length ≤ 2 := by have := hml.out; omega
                have hBl6 : B < w6.heap.size := HR6.out.lt
                go_wp2_with (at_builtin; refine wpList_push rfl (.tmp 73) (.tmp 75) 45 rfl j0 (.string ⟨#[]⟩) 16 Tryz.underlying45 hj0 hy0 hy1 hy2 rfl rfl (HP6.out.alloc _) ⟨w6.heap.size, 0, none⟩ 1 (.string (str (tmT (erM y m)))) rfl (by simp [go_sem]) rfl (by unfold maxLen; omega) (by omega) (by simp; omega) ?_)
                intro ps7 w7 hpu
                obtain ⟨g7, cap7, rfl⟩ := hpu.form
                have hmk := hml.out
                have hpge : ∀ g, (Value.slice PA ms.length PC).ownBlock = some g → B + 1 ≤ g ∧ g < w6.heap.size := own_lt HP6.out
                have hs7 : w6.heap.size + 1 ≤ w7.heap.size := by have := hpu.grown.size; simpa using this
                have hk7 : ∀ j, j < w6.heap.size → (∀ g, (Value.slice PA ms.length PC).ownBlock = some g → j ≠ g) → w7.heap[j]? = w6.heap[j]? := fun j hj hn =>
                  (hpu.grown.block j (by simp; omega) fun e => hn j e.symm rfl).trans (((Below.refl w6.heap.size w6).alloc (Nat.le_refl _) _).block j hj)
                have hb7 : Below (B + 1) w6 w7 := ⟨hpu.grown.os, hpu.grown.tape, hpu.grown.output, by omega, fun j hj => hk7 j (by have := HR6.out.lt; omega) fun g hg => by have := (hpge g hg).1; omega⟩
                have HK7 : Hid (K2 b c w w7) := ⟨hb7.os.trans HK6.out.os, hb7.tape.trans HK6.out.tape, hb7.output.trans HK6.out.output, by have := HK6.out.size; omega, fun j hj hb hc => (hb7.block j (by have := HBw.out; omega)).trans (HK6.out.block j hj hb hc)⟩
                have HS7 : Hid (Sr lo hi b sv cv (.slice (some ⟨fb, foff, none⟩) y.fs.length fap) y L (L.length - r5.length) false (used2 + (coN m : Int)) c6 w7) := HS6.out.keep fun j hj => hb7.block j (by have := HBw.out; omega)
                have HO7 : Hid (w7.ownsRow (b + 1) 3 1 c6 (cs2 ++ fnM m).length ((cs2 ++ fnM m).map (Value.int .i64))) := by
                  obtain ⟨h1, h2 | ⟨g, cap, cur, e, hg, hh, hr⟩⟩ := HO6.out
                  · exact ⟨h1, .inl h2⟩
                  · refine ⟨h1, .inr ⟨g, cap, cur, e, hg, (hk7 g ?_ fun g' hg' e' => ?_).trans hh, hr⟩⟩
                    · rcases Nat.lt_or_ge g w6.heap.size with h' | h'
                      · exact h'
                      · rw [Array.getElem?_eq_none h'] at hh; cases hh
                    · exact HNE6.out g' hg' (by rw [e, e']; rfl)
                have HR7 : Hid (Row w7 B 106 [.string (str [nmOf y i]), .slice (some ⟨b3, off3, none⟩) y.fs[i].args.length cap1, .int .i64 y.fs[i].res, .slice A2 y.fs[i].table.length cap2]) := HR6.out.below hb7 (by omega)
                have Hat7 : Hid (Own2 c c6 w w7) := Hat6.out.grow (by omega)
                have HP7 : Hid (w7.ownsRow (B + 1) 9 1 (.slice (some ⟨g7, 0, none⟩) (ms.length + 1) cap7) (ms ++ [m]).length (strVs ((ms ++ [m]).map (txM y)))) := by
                  have h := hpu.own
                  refine ownsRow_cast h (by simp) ?_
                  simp [strVs, txM]
                have HNE7 : Hid (∀ g, (Value.slice (some ⟨g7, 0, none⟩) (ms.length + 1) cap7).ownBlock = some g → c6.ownBlock ≠ some g) := fun g hg => by
                  rcases hpu.at_ with e | ⟨g', e, hg', _⟩
                  · rw [e] at hg; exact HNE6.out g hg
                  · rw [e] at hg
                    injection hg with hg
                    subst hg
                    intro e2
                    have := (own_lt HO6.out _ e2).2
                    simp at hg'
                    omega
                have e7 : (((ms.length + 1 : Nat)) : Int) = (ms.length : Int) + 1 := by omega
                have q5 : Hid (used2 + (coN m : Int) = used + ((((ms ++ [m]).map coN).sum : Nat) : Int)) := by show _ = _; rw [hus.out]; simp; omega
                have q6 : Hid (cs2 ++ fnM m = cs ++ (i : Int) :: ((ms ++ [m]).map fnM).flatten) := by show _ = _; rw [hcss.out]; simp
                have q7 : Hid (∀ m' ∈ ms ++ [m], MkOk y m' ∧ (mkT m').length ≤ 400) := fun m' hm' => by
                  rcases List.mem_append.1 hm' with h | h
                  · exact hmsok.out m' h
                  · simp at h; subst h; exact ⟨HOK.out, by omega⟩
                have q8 : Hid ((ms ++ [m]).length = 0 + 1) := by show _ = _; simp [hmk]
                have q9 : Hid ((cs2 ++ fnM m).length ≤ L.length - r5.length) := by show _ ≤ _; simp; omega
                have q10 : Hid (used2 + (coN m : Int) ≤ ((L.length - r5.length : Nat) : Int)) := by show _ ≤ _; omega
                have q11 : Hid ((0 : Int) ≤ used2 + (coN m : Int)) := by show _ ≤ _; omega
                clear hpu hpge hk7 hb7 HS6 HO6 HR6 HP6 HNE6 Hat6 HK6 hmk e7
                go_wp2
                go_roundw
                case rel => exact ⟨0 + 1, ms ++ [m], r5, used2 + (coN m : Int), c6, cs2 ++ fnM m, by omega, by go_num, q8.out, by omega, q11.out, q10.out, q9.out, hcB6, hrd2.out, Hsuf.out, q5.out, q6.out, q7.out, HS7.out, HO7.out, Hat7.out, HK7.out, HR7.out, by refine ownsRow_cast HP7.out rfl rfl, HNE7.out⟩
                case measure => simp [intOf]; omega
              · have hkne : (kindM y m != y.fs[i].args[0]) = true := by simp [hkind]
                have hno : Hid (rdApM (rdMk y f) y (L.drop q) = none) := by
                  show _ = _
                  rw [hco2.out, rdTo_none (k := 0 + 1) (by rw [hrd1.out, if_neg hkind]) _ (by omega)]
                  rfl
                clear hrd1 hok htx hsuf
                go_wp2
                try rw [Exit.noGoto_ret]
                refine bodyPost_ret (v := .tuple #[.string ⟨#[]⟩, .int .i64 (-1)]) (by simp [results, Tryz.results147, go_sem]) rfl ?_
                exact ⟨.inr ⟨hno.out, _, _, _, c6, rfl, ⟨_, Nat.sub_le _ _, HS6.out.setBad true⟩, Hat6.out.grow (by simp [World.setCell])⟩, HK6.out.keep (Keep.set7 b 5 _ _)⟩
            · rw [hdr4.out] at hm
              have HK6 := Lib.hid (HKr.out.trans Hatr.out hk6)
              have Hat6 := Lib.hid (Hatr.out.trans HKr.out.size hat6 hk6.size)
              have hno : Hid (rdApM (rdMk y f) y (L.drop q) = none) := by
                show _ = _
                rw [hco2.out, rdTo_none (k := 0 + 1) (by rw [hrd.out]; unfold rdOf; rw [hm]; rfl) _ (by omega)]
                rfl
              obtain ⟨q6, hq6, hs6⟩ := hb6
              obtain ⟨-, -, -, -, -, c5, -, -⟩ := hs6.cells
              have f5 := hs6.frozen 5
              have HS6 := Lib.hid hs6
              clear hk6 hat6 hs6 hm hrd
              go_wp2
              try rw [Exit.noGoto_ret]
              refine bodyPost_ret (v := .tuple #[.string ⟨#[]⟩, .int .i64 (-1)]) (by simp [results, Tryz.results147, go_sem]) rfl ?_
              exact ⟨.inr ⟨hno.out, _, _, _, c6, rfl, ⟨q6, hq6, HS6.out.setBad true⟩, Hat6.out.grow (by simp [World.setCell])⟩, HK6.out.keep (Keep.set7 b 5 _ _)⟩
          · have hkz : (0 : Int) < (k : Int) := by omega
            clear i3
            go_wp2_with fail
            cases htk : rdTake 44 r3 with
            | none =>
              have hno : Hid (rdApM (rdMk y f) y (L.drop q) = none) := by
                show _ = _
                rw [hco2.out, rdTo_none (k := k + 1) (by rw [rdTo, hrd0.out]; simp [hk0, htk]) _ (by omega)]
                rfl
              refine (take7_no lo hi b _ _ _ y L (L.length - r3.length) used2 c2 44 44 rfl (by decide) wr HSr.out hL (Nat.sub_le _ _) (by rw [hdr3.out]; exact htk)).mono ?_
              clear htk hrd0
              rintro e w5 ⟨rfl, hb5, hk5⟩
              have HB5 := Lib.hid hb5
              have HK5 := Lib.hid (HKr.out.keep hk5)
              have Hat5 := Lib.hid (Hatr.out.grow hk5.size)
              clear hb5 hk5 HSr HOr
              go_wp2_with fail
              refine (term7_bad lo hi b _ _ _ y L used2 c2 w5 HB5.out hL).mono ?_
              rintro e w6 ⟨rfl, hb6, hk6⟩
              have HK6 := Lib.hid (HK5.out.keep hk6)
              have Hat6 := Lib.hid (Hat5.out.grow hk6.size)
              obtain ⟨q6, hq6, hs6⟩ := hb6
              obtain ⟨-, -, -, -, -, c5, -, -⟩ := hs6.cells
              have f5 := hs6.frozen 5
              have HS6 := Lib.hid hs6
              clear hk6 hs6 HK5 HB5
              go_wp2
              try rw [Exit.noGoto_ret]
              refine bodyPost_ret (v := .tuple #[.string ⟨#[]⟩, .int .i64 (-1)]) (by simp [results, Tryz.results147, go_sem]) rfl ?_
              exact ⟨.inr ⟨hno.out, _, _, _, c2, rfl, ⟨q6, hq6, HS6.out.setBad true⟩, Hat6.out.grow (by simp [World.setCell])⟩, HK6.out.keep (Keep.set7 b 5 _ _)⟩
            | some r4 =>
              have hl4 := rdTake_len htk
              have hrd : Hid (rdTo (rdMk y f) y y.fs[i].args (k + 1) r2 = (rdOf (rdMk y f) y y.fs[i].args[k] r4).map fun q => (ms ++ [q.1], q.2)) := by
                show _ = _
                rw [rdTo, hrd0.out, getD_get hkl]
                simp [hk0, htk]
              refine (take7_yes lo hi b _ _ _ y L (L.length - r3.length) used2 c2 44 44 rfl r4 wr HSr.out hL (by rw [hdr3.out]; exact htk)).mono ?_
              clear htk hrd0
              rintro e wa ⟨rfl, hsa, hda, hqa, hka⟩
              have eqa : L.length - r3.length + 1 = L.length - r4.length := by omega
              rw [eqa] at hsa hda
              have HSa := Lib.hid hsa
              have hdr4 := Lib.hid hda
              have HOa := Lib.hid (own_keep HOr.out hka (by omega))
              have HKa := Lib.hid (HKr.out.keep hka)
              have Hata := Lib.hid (Hatr.out.grow hka.size)
              have HRa := Lib.hid (HRr.out.keep (hka.block hBl (by have := HBw.out; omega)))
              have HPa := Lib.hid (own_keep HPr.out hka (by have := HBw.out; omega))
              have hwa := HKa.out.size
              clear hsa hda hka HSr HOr HKr Hatr HRr HPr eqa
              go_wp2_with fail
              refine (HI.out (L.length - r4.length) used2 c2 cs2 wa HSa.out HOa.out (by omega) (by omega) hu2 (by omega) (by omega)).mono ?_
              rintro e w6 ⟨⟨m, r5, c6, hm, hok, htx, rfl, hs6, ho6, hat6⟩ | ⟨hm, s6, k6, u6, c6, rfl, hb6, hat6⟩, hk6⟩
              · rw [hdr4.out] at hm
                have hsuf := drop_suffix htx
                have hln : (mkT m).length + r5.length = r4.length := by
                  have h1 := congrArg List.length htx
                  rw [List.length_drop, List.length_append] at h1
                  omega
                have hcl := coN_le m
                have hfl := fnM_le m
                have HK6 := Lib.hid (HKa.out.trans Hata.out hk6)
                have hs6w := hk6.size
                have Hat6 := Lib.hid (Hata.out.trans HKa.out.size hat6 hs6w)
                have HS6 := Lib.hid hs6
                have HO6 := Lib.hid ho6
                have HR6 := Lib.hid (Row.k2 HRa.out hk6 (by have := HBw.out; omega) hcB)
                have HP6 := Lib.hid (own_k2 HPa.out hk6 (by have := HBw.out; omega) HNEr.out)
                have hcB6 : c6.ownBlock ≠ some B := by
                  have hBl := HRa.out.lt
                  rcases hat6 with e | ⟨g, e, hg, _⟩
                  · rw [e]; exact hcB
                  · rw [e]; intro h'; injection h' with h'; omega
                have HNE6 : Hid (∀ g, (Value.slice PA ms.length PC).ownBlock = some g → c6.ownBlock ≠ some g) := fun g hg => by
                  have hgl := (own_lt HPa.out g hg).2
                  rcases hat6 with e | ⟨g', e, hg', _⟩
                  · rw [e]; exact HNEr.out g hg
                  · rw [e]; intro h'; injection h' with h'; omega
                obtain ⟨-, -, -, -, -, c5, -, -⟩ := hs6.cells
                have f5 := hs6.frozen 5
                have hrd1 : Hid (rdTo (rdMk y f) y y.fs[i].args (k + 1) r2 = if kindM y m = y.fs[i].args[k] then some (ms ++ [m], r5) else none) := by
                  show _ = _
                  rw [hrd.out]
                  unfold rdOf
                  rw [hm]
                  simp only [Option.bind_some]
                  split <;> rfl
                clear hk6 hat6 hs6 ho6 hm hrd
                by_cases hkind : kindM y m = y.fs[i].args[k]
                · have hrd2 : Hid (rdTo (rdMk y f) y y.fs[i].args (k + 1) r2 = some (ms ++ [m], r5)) := by show _ = _; rw [hrd1.out, if_pos hkind]
                  have Htx : Hid (str (txM y m) = str (tmT (erM y m))) := rfl
                  have HOK := Lib.hid hok
                  have Hsuf := Lib.hid hsuf.1
                  clear hrd1 hok htx hsuf
                  have hm2 : ms.length ≤ 2 := by have := hml.out; omega
                  have hBl6 : B < w6.heap.size := HR6.out.lt
                  go_wp2_with (at_builtin; refine wpList_push rfl (.tmp 73) (.tmp 75) 45 rfl j0 (.string ⟨#[]⟩) 16 Tryz.underlying45 hj0 hy0 hy1 hy2 rfl rfl (HP6.out.alloc _) ⟨w6.heap.size, 0, none⟩ 1 (.string (str (tmT (erM y m)))) rfl (by simp [go_sem]) rfl (by unfold maxLen; omega) (by omega) (by simp; omega) ?_)
                  intro ps7 w7 hpu
                  obtain ⟨g7, cap7, rfl⟩ := hpu.form
                  have hmk := hml.out
                  have hpge : ∀ g, (Value.slice PA ms.length PC).ownBlock = some g → B + 1 ≤ g ∧ g < w6.heap.size := own_lt HP6.out
                  have hs7 : w6.heap.size + 1 ≤ w7.heap.size := by have := hpu.grown.size; simpa using this
                  have hk7 : ∀ j, j < w6.heap.size → (∀ g, (Value.slice PA ms.length PC).ownBlock = some g → j ≠ g) → w7.heap[j]? = w6.heap[j]? := fun j hj hn =>
                    (hpu.grown.block j (by simp; omega) fun e => hn j e.symm rfl).trans (((Below.refl w6.heap.size w6).alloc (Nat.le_refl _) _).block j hj)
                  have hb7 : Below (B + 1) w6 w7 := ⟨hpu.grown.os, hpu.grown.tape, hpu.grown.output, by omega, fun j hj => hk7 j (by have := HR6.out.lt; omega) fun g hg => by have := (hpge g hg).1; omega⟩
                  have HK7 : Hid (K2 b c w w7) := ⟨hb7.os.trans HK6.out.os, hb7.tape.trans HK6.out.tape, hb7.output.trans HK6.out.output, by have := HK6.out.size; omega, fun j hj hb hc => (hb7.block j (by have := HBw.out; omega)).trans (HK6.out.block j hj hb hc)⟩
                  have HS7 : Hid (Sr lo hi b sv cv (.slice (some ⟨fb, foff, none⟩) y.fs.length fap) y L (L.length - r5.length) false (used2 + (coN m : Int)) c6 w7) := HS6.out.keep fun j hj => hb7.block j (by have := HBw.out; omega)
                  have HO7 : Hid (w7.ownsRow (b + 1) 3 1 c6 (cs2 ++ fnM m).length ((cs2 ++ fnM m).map (Value.int .i64))) := by
                    obtain ⟨h1, h2 | ⟨g, cap, cur, e, hg, hh, hr⟩⟩ := HO6.out
                    · exact ⟨h1, .inl h2⟩
                    · refine ⟨h1, .inr ⟨g, cap, cur, e, hg, (hk7 g ?_ fun g' hg' e' => ?_).trans hh, hr⟩⟩
                      · rcases Nat.lt_or_ge g w6.heap.size with h' | h'
                        · exact h'
                        · rw [Array.getElem?_eq_none h'] at hh; cases hh
                      · exact HNE6.out g' hg' (by rw [e, e']; rfl)
                  have HR7 : Hid (Row w7 B 106 [.string (str [nmOf y i]), .slice (some ⟨b3, off3, none⟩) y.fs[i].args.length cap1, .int .i64 y.fs[i].res, .slice A2 y.fs[i].table.length cap2]) := HR6.out.below hb7 (by omega)
                  have Hat7 : Hid (Own2 c c6 w w7) := Hat6.out.grow (by omega)
                  have HP7 : Hid (w7.ownsRow (B + 1) 9 1 (.slice (some ⟨g7, 0, none⟩) (ms.length + 1) cap7) (ms ++ [m]).length (strVs ((ms ++ [m]).map (txM y)))) := by
                    have h := hpu.own
                    refine ownsRow_cast h (by simp) ?_
                    simp [strVs, txM]
                  have HNE7 : Hid (∀ g, (Value.slice (some ⟨g7, 0, none⟩) (ms.length + 1) cap7).ownBlock = some g → c6.ownBlock ≠ some g) := fun g hg => by
                    rcases hpu.at_ with e | ⟨g', e, hg', _⟩
                    · rw [e] at hg; exact HNE6.out g hg
                    · rw [e] at hg
                      injection hg with hg
                      subst hg
                      intro e2
                      have := (own_lt HO6.out _ e2).2
                      simp at hg'
                      omega
                  have e7 : (((ms.length + 1 : Nat)) : Int) = (ms.length : Int) + 1 := by omega
                  have q5 : Hid (used2 + (coN m : Int) = used + ((((ms ++ [m]).map coN).sum : Nat) : Int)) := by show _ = _; rw [hus.out]; simp; omega
                  have q6 : Hid (cs2 ++ fnM m = cs ++ (i : Int) :: ((ms ++ [m]).map fnM).flatten) := by show _ = _; rw [hcss.out]; simp
                  have q7 : Hid (∀ m' ∈ ms ++ [m], MkOk y m' ∧ (mkT m').length ≤ 400) := fun m' hm' => by
                    rcases List.mem_append.1 hm' with h | h
                    · exact hmsok.out m' h
                    · simp at h; subst h; exact ⟨HOK.out, by omega⟩
                  have q8 : Hid ((ms ++ [m]).length = k + 1) := by show _ = _; simp [hmk]
                  have q9 : Hid ((cs2 ++ fnM m).length ≤ L.length - r5.length) := by show _ ≤ _; simp; omega
                  have q10 : Hid (used2 + (coN m : Int) ≤ ((L.length - r5.length : Nat) : Int)) := by show _ ≤ _; omega
                  have q11 : Hid ((0 : Int) ≤ used2 + (coN m : Int)) := by show _ ≤ _; omega
                  clear hpu hpge hk7 hb7 HS6 HO6 HR6 HP6 HNE6 Hat6 HK6 hmk e7
                  go_wp2
                  go_roundw
                  case rel => exact ⟨k + 1, ms ++ [m], r5, used2 + (coN m : Int), c6, cs2 ++ fnM m, by omega, by go_num, q8.out, by omega, q11.out, q10.out, q9.out, hcB6, hrd2.out, Hsuf.out, q5.out, q6.out, q7.out, HS7.out, HO7.out, Hat7.out, HK7.out, HR7.out, by refine ownsRow_cast HP7.out rfl rfl, HNE7.out⟩
                  case measure => simp [intOf]; omega
                · have hkne : (kindM y m != y.fs[i].args[k]) = true := by simp [hkind]
                  have hno : Hid (rdApM (rdMk y f) y (L.drop q) = none) := by
                    show _ = _
                    rw [hco2.out, rdTo_none (k := k + 1) (by rw [hrd1.out, if_neg hkind]) _ (by omega)]
                    rfl
                  clear hrd1 hok htx hsuf
                  go_wp2
                  try rw [Exit.noGoto_ret]
                  refine bodyPost_ret (v := .tuple #[.string ⟨#[]⟩, .int .i64 (-1)]) (by simp [results, Tryz.results147, go_sem]) rfl ?_
                  exact ⟨.inr ⟨hno.out, _, _, _, c6, rfl, ⟨_, Nat.sub_le _ _, HS6.out.setBad true⟩, Hat6.out.grow (by simp [World.setCell])⟩, HK6.out.keep (Keep.set7 b 5 _ _)⟩
              · rw [hdr4.out] at hm
                have HK6 := Lib.hid (HKa.out.trans Hata.out hk6)
                have Hat6 := Lib.hid (Hata.out.trans HKa.out.size hat6 hk6.size)
                have hno : Hid (rdApM (rdMk y f) y (L.drop q) = none) := by
                  show _ = _
                  rw [hco2.out, rdTo_none (k := k + 1) (by rw [hrd.out]; unfold rdOf; rw [hm]; rfl) _ (by omega)]
                  rfl
                obtain ⟨q6, hq6, hs6⟩ := hb6
                obtain ⟨-, -, -, -, -, c5, -, -⟩ := hs6.cells
                have f5 := hs6.frozen 5
                have HS6 := Lib.hid hs6
                clear hk6 hat6 hs6 hm hrd
                go_wp2
                try rw [Exit.noGoto_ret]
                refine bodyPost_ret (v := .tuple #[.string ⟨#[]⟩, .int .i64 (-1)]) (by simp [results, Tryz.results147, go_sem]) rfl ?_
                exact ⟨.inr ⟨hno.out, _, _, _, c6, rfl, ⟨q6, hq6, HS6.out.setBad true⟩, Hat6.out.grow (by simp [World.setCell])⟩, HK6.out.keep (Keep.set7 b 5 _ _)⟩
        · obtain rfl : k = y.fs[i].args.length := by omega
          have hnm : Hid (tmT (erM y (mkA i ms)) = callL [nmOf y i] (ms.map (txM y))) := by
            show _ = _
            have hm2 : ms.length ≤ 2 := by have := hml.out; omega
            rw [erM_mkA y i ms hm2]
            have h := call_tmM (t := mkCall (nmOf y i) (ms.map (erM y))) (mkCall_is _ _)
            rw [headT_mk _ (by simpa using hm2), partsT_mk _ (by simpa using hm2), List.map_map] at h
            exact h.symm
          have HST : Hid (∀ u : World, Below wr.heap.size wr u → StrsAt u (.slice PA ms.length PC) (ms.map (txM y))) := fun u hu => by
            have h := HPr.out
            rw [show ms.length = (ms.map (txM y)).length by simp] at h ⊢
            exact (strsAt_own h).below hu
          have hbulk : Hid (bulkS (ms.map (txM y)) ≤ 1048576) := by
            show _ ≤ _
            have hm2 : ms.length ≤ 2 := by have := hml.out; omega
            have hall := hmsok.out
            unfold bulkS
            match ms, hm2, hall with
            | [], _, _ => simp
            | [m], _, hall =>
              have h1 := (hall m (by simp)).2
              have h2 := mkT_er y m
              simp [txM]
              omega
            | [m, p], _, hall =>
              have h1 := (hall m (by simp)).2
              have h2 := mkT_er y m
              have h3 := (hall p (by simp)).2
              have h4 := mkT_er y p
              simp [txM]
              omega
          clear hkl
          go_wp2_with fail
          cases htk : rdTake 41 r3 with
          | none =>
            have hno : Hid (rdApM (rdMk y f) y (L.drop q) = none) := by show _ = _; rw [hco2.out, hrd0.out]; simp [htk]
            refine (take7_no lo hi b _ _ _ y L (L.length - r3.length) used2 c2 41 41 rfl (by decide) wr HSr.out hL (Nat.sub_le _ _) (by rw [hdr3.out]; exact htk)).mono ?_
            clear htk hrd0
            rintro e w5 ⟨rfl, hb5, hk5⟩
            have HB5 := Lib.hid hb5
            have HK5 := Lib.hid (HKr.out.keep hk5)
            have Hat5 := Lib.hid (Hatr.out.grow hk5.size)
            have r5 := HRr.out.keep (hk5.block hBl (by have := HBw.out; omega))
            have HST5 : Hid (∀ n, StrsAt (w5.drewN n) (.slice PA ms.length PC) (ms.map (txM y))) := fun n => by
              have h := HPr.out
              have h2 := own_keep h hk5 (by have := HBw.out; omega)
              rw [show ms.length = (ms.map (txM y)).length by simp] at h2 ⊢
              exact (strsAt_own h2).below (below_drewN (Below.refl _ _) _)
            have m0 := r5.cell 0
            have m2 := r5.cell 2
            simp only [List.getElem?_cons_zero, List.getElem?_cons_succ] at m0 m2
            clear hb5 hk5 HSr HOr r5
            go_wp2_with fail
            go_quiet ((first | (go_at_call 109; exact quiet_eq ((l6Join_any [nmOf y i] _ _ _ (HST5.out _) (by simp) hbulk.out).mono fun _ _ h => ⟨h.1, h.2.symm⟩))))
            go_wp2
            try rw [Exit.noGoto_ret]
            refine bodyPost_ret (v := .tuple #[.string (str (callL [nmOf y i] (ms.map (txM y)))), .int .i64 y.fs[i].res]) (by simp [results, Tryz.results147, go_sem]) rfl ?_
            exact ⟨.inr ⟨hno.out, _, _, _, c2, rfl, by obtain ⟨q6, hq6, hs6⟩ := HB5.out; exact ⟨q6, hq6, hs6.keep fun _ _ => rfl⟩, Hat5.out⟩, HK5.out.under (below_drewN (Below.refl _ _) _)⟩
          | some r4 =>
            have hfin : Hid (rdApM (rdMk y f) y (L.drop q) = some (mkA i ms, r4)) := by show _ = _; rw [hco2.out, hrd0.out]; simp [htk]
            have hl4 := rdTake_len htk
            refine (take7_yes lo hi b _ _ _ y L (L.length - r3.length) used2 c2 41 41 rfl r4 wr HSr.out hL (by rw [hdr3.out]; exact htk)).mono ?_
            clear htk hrd0
            rintro e w5 ⟨rfl, hs5, hd5, hq5, hk5⟩
            have eqa : L.length - r3.length + 1 = L.length - r4.length := by omega
            rw [eqa] at hs5
            have HS5 := Lib.hid hs5
            have HO5 := Lib.hid (own_keep HOr.out hk5 (by omega))
            have HK5 := Lib.hid (HKr.out.keep hk5)
            have Hat5 := Lib.hid (Hatr.out.grow hk5.size)
            have r5 := HRr.out.keep (hk5.block hBl (by have := HBw.out; omega))
            have HST5 : Hid (∀ n, StrsAt (w5.drewN n) (.slice PA ms.length PC) (ms.map (txM y))) := fun n => by
              have h := HPr.out
              have h2 := own_keep h hk5 (by have := HBw.out; omega)
              rw [show ms.length = (ms.map (txM y)).length by simp] at h2 ⊢
              exact (strsAt_own h2).below (below_drewN (Below.refl _ _) _)
            have m0 := r5.cell 0
            have m2 := r5.cell 2
            simp only [List.getElem?_cons_zero, List.getElem?_cons_succ] at m0 m2
            have hm2 : ms.length ≤ 2 := by have := hml.out; omega
            have hall : Hid (MkOk y (mkA i ms) ∧ L.drop q = mkT (mkA i ms) ++ r4) := by
              have h := hfin.out
              rw [← rdMk_ap y f (by rw [hd64.out]; rfl) (by rw [hd64.out]; rfl)] at h
              exact rdMk_eq y hy (f + 1) h
            have hk1 : Hid (kindM y (mkA i ms) = y.fs[i].res) := by show _ = _; rw [kindM_mkA, getD_get hif]
            have hc1 : Hid (used2 = used + (coN (mkA i ms) : Int)) := by show _ = _; rw [hus.out, coN_mkA i ms hm2]
            have hf1 : Hid (cs2 = cs ++ fnM (mkA i ms)) := by show _ = _; rw [hcss.out, fnM_mkA i ms hm2]
            clear hs5 hk5 HSr HOr r5 hm2
            go_wp2_with fail
            go_quiet ((first | (go_at_call 109; exact quiet_eq ((l6Join_any [nmOf y i] _ _ _ (HST5.out _) (by simp) hbulk.out).mono fun _ _ h => ⟨h.1, h.2.symm⟩))))
            go_wp2
            try rw [Exit.noGoto_ret]
            refine bodyPost_ret (v := .tuple #[.string (str (callL [nmOf y i] (ms.map (txM y)))), .int .i64 y.fs[i].res]) (by simp [results, Tryz.results147, go_sem]) rfl ?_
            refine ⟨.inl ⟨mkA i ms, r4, c2, hfin.out, hall.out.1, hall.out.2, by rw [hnm.out, hk1.out], ?_, ?_, Hat5.out⟩, HK5.out.under (below_drewN (Below.refl _ _) _)⟩
            · rw [← hc1.out]; exact HS5.out.keep fun _ _ => rfl
            · rw [← hf1.out]; exact ownsRow_below HO5.out (below_drewN (Below.refl _ _) _) (Nat.le_refl _)
end Go.Proofs.YtgkfddhhkjblgaaGreatDoor

