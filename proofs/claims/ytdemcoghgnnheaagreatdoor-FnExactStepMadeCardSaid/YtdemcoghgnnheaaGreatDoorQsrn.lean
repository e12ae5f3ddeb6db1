/-
  The model's runner of explicit terms in memory: its state, and what it reads.
-/
import Derived.Test.YtdemcoghgnnheaaGreatDoorK6
import Derived.Test.YtdemcoghgnnheaaGreatDoorK8
import Derived.Test.YtdemcoghgnnheaaGreatDoorK9
namespace Go.Proofs.YtdemcoghgnnheaaGreatDoor
open Go.RowKit

/-- The model's runner stands in block b, over a system that lies below it. -/
structure Rr (lo hi b : Nat) (sv cv fv : Value) (y : Sy) (L : List UInt8) (q : Nat) (c : Value) (w : World) : Prop where
  row : Row w b 84 [sv, cv, fv, .string (str L), .int .i64 q, c]
  sy : SyAt w lo hi sv cv fv y
  hib : hi ≤ b
section
variable {lo hi b : Nat} {sv cv fv : Value} {y : Sy} {L : List UInt8} {q : Nat} {c : Value} {w : World}
theorem Rr.lt (h : Rr lo hi b sv cv fv y L q c w) : b < w.heap.size := h.row.lt
theorem Rr.setAt (h : Rr lo hi b sv cv fv y L q c w) (q' : Nat) : Rr lo hi b sv cv fv y L q' c (w.setCell ⟨b, 4, none⟩ (.int .i64 q')) :=
  ⟨h.row.set_ 4 _, h.sy.keep fun k _ hk => Below.heap_setCell _ _ _ _ (by have := h.hib; dsimp only; omega), h.hib⟩
theorem Rr.setSteps (h : Rr lo hi b sv cv fv y L q c w) (v : Value) : Rr lo hi b sv cv fv y L q v (w.setCell ⟨b, 5, none⟩ v) :=
  ⟨h.row.set_ 5 _, h.sy.keep fun k _ hk => Below.heap_setCell _ _ _ _ (by have := h.hib; dsimp only; omega), h.hib⟩
theorem Rr.keep {w' : World} (h : Rr lo hi b sv cv fv y L q c w) (hk : ∀ k, k ≤ b → w'.heap[k]? = w.heap[k]?) : Rr lo hi b sv cv fv y L q c w' :=
  ⟨h.row.keep (hk b (Nat.le_refl _)), h.sy.keep fun k _ hk' => hk k (by have := h.hib; omega), h.hib⟩
theorem Rr.same {w' : World} (h : Rr lo hi b sv cv fv y L q c w) (e : w'.heap = w.heap) : Rr lo hi b sv cv fv y L q c w' := h.keep fun k _ => by rw [e]
theorem Rr.cells (h : Rr lo hi b sv cv fv y L q c w) : w.cell? ⟨b, 0, none⟩ = some sv ∧ w.cell? ⟨b, 1, none⟩ = some cv ∧ w.cell? ⟨b, 2, none⟩ = some fv ∧ w.cell? ⟨b, 3, none⟩ = some (.string (str L)) ∧ w.cell? ⟨b, 4, none⟩ = some (.int .i64 q) ∧ w.cell? ⟨b, 5, none⟩ = some c :=
  ⟨h.row.cell 0, h.row.cell 1, h.row.cell 2, h.row.cell 3, h.row.cell 4, h.row.cell 5⟩
theorem Rr.frozen (h : Rr lo hi b sv cv fv y L q c w) (i : Nat) : w.frozen? ⟨b, i, none⟩ = false := h.row.frozen i
theorem Rr.at_ (h : Rr lo hi b sv cv fv y L q c w) {q' : Nat} (e : q = q') : Rr lo hi b sv cv fv y L q' c w := by rw [← e]; exact h
end
theorem Rr.go3 {lo hi b : Nat} {sv cv fv : Value} {y : Sy} {L : List UInt8} {q : Nat} {c : Value} {w : World} (h : Rr lo hi b sv cv fv y L q c w) (n : Nat) : Rr lo hi b sv cv fv y L (q + 3) c ((w.drewN n).setCell ⟨b, 4, none⟩ (.int .i64 ((q : Int) + 3))) := by
  have e1 : ((q : Int) + 3) = ((q + 3 : Nat) : Int) := by omega
  rw [e1]
  exact (h.same (w' := w.drewN n) rfl).setAt (q + 3)
theorem Rr.go1 {lo hi b : Nat} {sv cv fv : Value} {y : Sy} {L : List UInt8} {q : Nat} {c : Value} {w : World} (h : Rr lo hi b sv cv fv y L q c w) : Rr lo hi b sv cv fv y L (q + 1) c (w.setCell ⟨b, 4, none⟩ (.int .i64 ((q : Int) + 1))) := by
  have e1 : ((q : Int) + 1) = ((q + 1 : Nat) : Int) := by omega
  rw [e1]
  exact h.setAt (q + 1)
theorem dg_one {k : Int} (h : Dig k) : ∃ c : UInt8, dg k = [c] ∧ (c.toNat : Int) = 48 + k := ⟨UInt8.ofNat (48 + k.toNat), rfl, by unfold Dig at h; rw [UInt8.toNat_ofNat']; omega⟩
theorem bytes3 {L r : List UInt8} {q : Nat} {c0 c1 c2 : UInt8} (h : L.drop q = c0 :: c1 :: c2 :: r) : q + 3 ≤ L.length ∧ (∀ h, (str L)[q]'h = c0) ∧ (∀ h, (str L)[q + 1]'h = c1) ∧ (∀ h, (str L)[q + 2]'h = c2) ∧ L.drop (q + 3) = r := by
  obtain ⟨_, h1, e0⟩ := drop_cons_of h
  obtain ⟨_, h2, e1⟩ := drop_cons_of h1
  obtain ⟨h4, h3, e2⟩ := drop_cons_of h2
  exact ⟨by omega, e0, e1, e2, h3⟩

/-- What holds of the world while nothing has turned it, and behind that. -/
def WOne8 (w1 : World) (P : World → Prop) : Nat → World → Prop
  | 0, u => ∃ n : Nat, u = w1.drewN n
  | _ + 1, u => P u
/-- What the model's runner comes to, from where it stands. -/
def RunPost (lo hi b : Nat) (sv cv fv : Value) (y : Sy) (L : List UInt8) (q : Nat) (c : Value) (cs : List Int) (m : Mk) (w : World) (e : Ending) (w' : World) : Prop :=
  e = .returned (.int .i64 (valM y m)) ∧ (∃ c', Rr lo hi b sv cv fv y L (q + (mkT m).length) c' w' ∧ w'.ownsRow (b + 1) 3 1 c' (cs ++ stM y m).length ((cs ++ stM y m).map (Value.int .i64)) ∧ Own2 c c' w w') ∧ K2 b c w w'
def Runs8 (lo hi b : Nat) (sv cv fv : Value) (y : Sy) (L : List UInt8) (f : Nat) : Prop :=
  ∀ (m : Mk) (q : Nat) (r : List UInt8) (c : Value) (cs : List Int) (w : World), (mkT m).length ≤ f → MkOk y m → Rr lo hi b sv cv fv y L q c w → w.ownsRow (b + 1) 3 1 c cs.length (cs.map (Value.int .i64)) → L.drop q = mkT m ++ r → cs.length ≤ q →
    Calls Tryz.prog 56 #[.pointer (some ⟨b, 0, none⟩)] w fun e w' => RunPost lo hi b sv cv fv y L q c cs m w e w'

/-- Whether it is a call; the function that it calls. -/
def apM8 : Mk → Bool
  | .lit _ _ => false
  | .co _ _ => false
  | _ => true
def fxM8 : Mk → Nat
  | .a0 i => i
  | .a1 i _ => i
  | .a2 i _ _ => i
  | _ => 0
def argT8 : List Mk → List UInt8
  | [] => []
  | [a] => mkT a
  | a :: b :: ms => mkT a ++ 44 :: argT8 (b :: ms)
/-- What is left of the text of the arguments behind the first k of them. -/
def remT8 (ms : List Mk) : Nat → List UInt8
  | 0 => argT8 ms
  | k + 1 => if k + 1 < ms.length then 44 :: argT8 (ms.drop (k + 1)) else []
theorem mkT_ap8 {m : Mk} (h : apM8 m = true) : mkT m = 64 :: (dg (fxM8 m : Int) ++ 40 :: (argT8 (inM m) ++ [41])) := by
  cases m with
  | lit k v => cases h
  | co i m => cases h
  | a0 i => simp [mkT, fxM8, inM, argT8]
  | a1 i m => simp [mkT, fxM8, inM, argT8]
  | a2 i m p => simp [mkT, fxM8, inM, argT8]
theorem remT_first {ms : List Mk} (h2 : ms.length ≤ 2) (h : 0 < ms.length) : remT8 ms 0 = mkT ms[0] ++ remT8 ms 1 := by
  match ms, h2, h with
  | [a], _, _ => simp [remT8, argT8]
  | [a, b], _, _ => simp [remT8, argT8]
theorem remT_next {ms : List Mk} (h2 : ms.length ≤ 2) {k : Nat} (h0 : ¬ k = 0) (h : k < ms.length) : remT8 ms k = 44 :: (mkT ms[k] ++ remT8 ms (k + 1)) := by
  match ms, h2, h with
  | [a], _, h => simp at h; omega
  | [a, b], _, h =>
    have e : k = 1 := by simp at h; omega
    subst e
    simp [remT8, argT8]
theorem remT_end {ms : List Mk} (h2 : ms.length ≤ 2) : remT8 ms ms.length = [] := by
  match ms, h2 with
  | [], _ => rfl
  | [a], _ => rfl
  | [a, b], _ => rfl
theorem val_ap8 {y : Sy} {m : Mk} (h : apM8 m = true) : valM y m = fcallV y (fxM8 m) ((inM m).map (valM y)) := by cases m <;> first | rfl | cases h
theorem inT8 {y : Sy} (hy : SyOk y) {m : Mk} (h : apM8 m = true) (hok : MkOk y m) : fxM8 m ≤ 9 ∧ ∃ hi : fxM8 m < y.fs.length, InT (tsOf y.ty.sizes y.fs[fxM8 m].args) ((inM m).map (valM y)) := by
  cases m with
  | lit k v => cases h
  | co i m => cases h
  | a0 i => exact ⟨hok.2.1, inT_ok hy (ms := []) (by simp) hok⟩
  | a1 i m => exact ⟨hok.2.1, inT_ok hy (ms := [m]) (by simp) hok⟩
  | a2 i m p => exact ⟨hok.2.1, inT_ok hy (ms := [m, p]) (by simp) hok⟩
theorem stM_in (y : Sy) (m : Mk) : stM y m = ((inM m).map (stM y)).flatten ++ [valM y m] := by
  cases m <;> simp [stM, itM, inM]
theorem stM_len (y : Sy) (m : Mk) : (stM y m).length ≤ (mkT m).length := by
  have h := itM_len m
  simpa [stM] using h
theorem fxT_len {m p : Mk} (h : p ∈ inM m) : (mkT p).length + 3 ≤ (mkT m).length := inM_len h

set_option maxRecDepth 100000 in
set_option maxHeartbeats 4000000 in
theorem runAp8 (lo hi b : Nat) (sv cv fv : Value) (y : Sy) (hy : SyOk y) (L : List UInt8) (hL : L.length ≤ 400) (f : Nat) (IH : Runs8 lo hi b sv cv fv y L f) (m : Mk) (ha : apM8 m = true) (q : Nat) (r : List UInt8) (c : Value) (cs : List Int) (w : World) (hf : (mkT m).length ≤ f + 1) (hok : MkOk y m) (h : Rr lo hi b sv cv fv y L q c w) (ho : w.ownsRow (b + 1) 3 1 c cs.length (cs.map (Value.int .i64))) (hd : L.drop q = mkT m ++ r) (hcs : cs.length ≤ q) :
    Calls Tryz.prog 56 #[.pointer (some ⟨b, 0, none⟩)] w fun e w' => RunPost lo hi b sv cv fv y L q c cs m w e w' := by
  obtain ⟨SA, scap, rfl, _, _, _⟩ := h.sy.1.1.form
  obtain ⟨CA0, ccap, rfl, _, _, _⟩ := h.sy.1.2.form
  obtain ⟨FA0, fap, rfl, _, _, _⟩ := h.sy.2.form
  obtain ⟨hi9, hi', hin⟩ := inT8 hy ha hok
  obtain ⟨ms, hms⟩ : ∃ ms, ms = inM m := ⟨_, rfl⟩
  have h2 : ms.length ≤ 2 := by rw [hms]; exact inM_two m
  have HOKS : Hid (∀ p ∈ ms, MkOk y p ∧ (mkT p).length + 3 ≤ (mkT m).length) := fun p hp => ⟨inM_ok hok (by rw [← hms]; exact hp), inM_len (by rw [← hms]; exact hp)⟩
  have HVAL := Lib.hid (val_ap8 (y := y) ha)
  have HST := Lib.hid (stM_in y m)
  have HTX := Lib.hid (mkT_ap8 ha)
  rw [← hms] at HVAL HST HTX hin
  obtain ⟨i, hi8⟩ : ∃ i, i = fxM8 m := ⟨_, rfl⟩
  rw [← hi8] at HVAL HTX hi9
  have hix : i < y.fs.length := by rw [hi8]; exact hi'
  have hin2 : InT (tsOf y.ty.sizes y.fs[i].args) (ms.map (valM y)) := by simpa [hi8] using hin
  have HIN := Lib.hid hin2
  have hnn : y.fs[i].args.length = ms.length := by
    have := hin2.1
    rw [tsOf_len] at this
    simpa using this.symm
  have HFB := Lib.hid (hasFB_yes hy hix)
  have HI := Lib.hid IH
  have HO := Lib.hid ho
  have hsz := str_size L
  obtain ⟨-, -, -, c3, c4, -⟩ := h.cells
  have f4 := h.frozen 4
  have HS := Lib.hid h
  obtain ⟨i0, hi0, hz0, hz1, hz2⟩ := info_parts (show (Tryz.prog.info? 3).map (fun i => (i.zero, i.size, i.bytes)) = some (some (.int .i64 0), 1, 8) by kernel_rfl)
  obtain ⟨ci, ei, ni⟩ := dg_one (k := (i : Int)) (by unfold Dig; omega)
  have hd' : L.drop q = 64 :: ci :: 40 :: (argT8 ms ++ 41 :: r) := by rw [hd, HTX.out, ei]; simp
  obtain ⟨h3, e0, e1, e2, hdr⟩ := bytes3 hd'
  have e58 : ((64 : UInt8).toNat : Int) = 64 := rfl
  have HLN : Hid ((mkT m).length = (argT8 ms).length + 4) := by show _ = _; rw [HTX.out, ei]; simp
  have hi48 : (48 + (i : Int) - 48 : Int) = i := by omega
  have HDR := Lib.hid hdr
  clear ho h IH hd hd' e2 hdr hin hin2 hok ha hms hi8 hi'
  go_enter Tryz.func56, Tryz.ntmps56
  go_wp2_with fail
  go_quiet (fail)
  generalize nq = n1 at *
  go_wp2_with fail
  go_quiet (fail)
  generalize nq = n2 at *
  go_upto_region 11 with fail
  obtain ⟨u1, hu1⟩ : ∃ u, u = (w.drewN (n1 + n2)).setCell ⟨b, 4, none⟩ (.int .i64 ((q : Int) + 3)) := ⟨_, rfl⟩
  rw [← hu1]
  have HR1 : Hid (Rr lo hi b (.slice SA y.ty.sizes.length scap) (.slice CA0 y.ty.cos.length ccap) (.slice FA0 y.fs.length fap) y L (q + 3) c u1) := by show Rr _ _ _ _ _ _ _ _ _ _ _; rw [hu1]; exact HS.out.go3 _
  have HK1 : Hid (K2 b c w u1) := by show K2 _ _ _ _; rw [hu1]; exact (K2.refl b c w).keep (Keep.drewN _ (Keep.set7 b 4 _ _))
  have HO1 : Hid (u1.ownsRow (b + 1) 3 1 c cs.length (cs.map (Value.int .i64))) := by show World.ownsRow _ _ _ _ _ _ _; rw [hu1]; exact own_keep HO.out (Keep.drewN _ (Keep.set7 b 4 _ _)) (by omega)
  clear hu1 c3 c4 f4 HO HS e0 e1 e58 ni hi48
  obtain ⟨B, hB⟩ : ∃ B, B = u1.heap.size := ⟨_, rfl⟩
  obtain ⟨u2, hu2⟩ : ∃ u, u = u1.alloc (.cells #[] 3) := ⟨_, rfl⟩
  have hb2 : Below u1.heap.size u1 u2 := by rw [hu2]; exact (Below.refl _ _).alloc (Nat.le_refl _) _
  have HR2 : Hid (Rr lo hi b (.slice SA y.ty.sizes.length scap) (.slice CA0 y.ty.cos.length ccap) (.slice FA0 y.fs.length fap) y L (q + 3) c u2) := HR1.out.keep fun k hk => hb2.block k (by have := HR1.out.lt; omega)
  have HK2 := Lib.hid (HK1.out.under hb2)
  have HO2 : Hid (u2.ownsRow (b + 1) 3 1 c cs.length (cs.map (Value.int .i64))) := ownsRow_below HO1.out hb2 (Nat.le_refl _)
  have HP2 : Hid (u2.ownsRow B 3 1 (.slice (some ⟨B, 0, none⟩) 0 0) 0 []) := by
    show World.ownsRow _ _ _ _ _ _ _
    rw [hu2, hB]
    have h := World.ownsRow_lit (e := 3) (base := u1.heap.size) (size := 1) u1 #[] 0 (by simp) (by unfold maxLen; omega) rfl
    simpa using h
  have hcB : ∀ g, c.ownBlock = some g → g < B := fun g hg => by have := (own_lt HO1.out g hg).2; omega
  have hbB : b < B := by have := HR1.out.lt; omega
  have hwB : w.heap.size ≤ B := by have := HK1.out.size; omega
  have hB2 : B ≤ u2.heap.size := by have := hb2.size; omega
  obtain ⟨fb, foff, A1, cap1, A2, cap2, rfl, hfb1, hfb2, k0, k1, k2, k3, _, hm1, _, _, hfa⟩ := HR2.out.sy.2.at_ hix
  rw [hnn] at k1
  have c2 := HR2.out.cells.2.2.1
  have hil : (i : Int) < (y.fs.length : Int) := by omega
  rw [hu2] at k1 c2
  clear k0 k2 k3 hfa hm1 hb2
  go_wp2_with fail
  rw [← hu2, ← hB]
  clear hu2 k1 c2 HR1 HK1 HO1
  have hlen0 := HLN.out
  have hpos0 : q + 3 + (argT8 ms).length + 1 = q + (mkT m).length := by omega
  have Hpos0 := Lib.hid hpos0
  have hq400 : q + 3 + (argT8 ms).length + 1 ≤ 400 := by
    have h1 := congrArg List.length HDR.out
    rw [List.length_drop, List.length_append, List.length_cons] at h1
    omega
  clear hB hpos0 hlen0
  go_loopw [6, 86] (fun p ix wr => ∃ (k : Nat) (c2 : Value) (cs2 : List Int) (pos : Nat), k ≤ ms.length ∧ ix = .int .i64 k ∧ pos + (remT8 ms k).length + 1 ≤ 400 ∧ cs2.length ≤ pos ∧ B ≤ wr.heap.size ∧ Hid (L.drop pos = remT8 ms k ++ 41 :: r) ∧ Hid (pos + (remT8 ms k).length + 1 = q + (mkT m).length) ∧ Hid (cs2 = cs ++ ((ms.take k).map (stM y)).flatten) ∧ Hid (Rr lo hi b (.slice SA y.ty.sizes.length scap) (.slice CA0 y.ty.cos.length ccap) (.slice (some ⟨fb, foff, none⟩) y.fs.length fap) y L pos c2 wr) ∧ Hid (wr.ownsRow (b + 1) 3 1 c2 cs2.length (cs2.map (Value.int .i64))) ∧ Hid (Own2 c c2 w wr) ∧ Hid (K2 b c w wr) ∧ Hid (wr.ownsRow B 3 1 p k (((ms.take k).map (valM y)).map (Value.int .i64))) ∧ Hid (∀ g, p.ownBlock = some g → c2.ownBlock ≠ some g)) (fun _ ix _ => ms.length - (intOf ix).toNat)
  case atStart => exact ⟨0, c, cs, q + 3, Nat.zero_le _, rfl, hq400, by omega, (by omega), HDR.out, Hpos0.out, (by show cs = _; simp), HR2.out, HO2.out, Own2.refl _ _ _, HK2.out, HP2.out, fun g hg => by
    have e1 : B = g := by simpa [Value.ownBlock] using hg
    intro e; have := hcB g e; omega⟩
  case round =>
    obtain ⟨k, c2, cs2, pos, hk, rfl, hpos, hcs2, hBr, hdr, hpl, hcss, HRr, HOr, Hatr, HKr, HPr, HNEr⟩ := hrel
    clear HR2 HK2 HO2 HP2 HDR Hpos0
    have hwr := HKr.out.size
    obtain ⟨PA, PC, rfl⟩ := own_slice7 HPr.out
    have hblr := HRr.out.lt
    by_cases hkl : k < ms.length
    · have hpokl := HOKS.out ms[k] (List.getElem_mem hkl)
      have hsl := stM_len y ms[k]
      by_cases hk0 : k = 0
      · subst hk0
        have hrm : remT8 ms 0 = mkT ms[0] ++ remT8 ms (0 + 1) := remT_first h2 hkl
        rw [hrm] at hdr hpos hpl
        have HRX := HRr
        have HOX := HOr
        have HAX := Hatr
        have HKX := HKr
        have HPX := HPr
        have HDX : Hid (L.drop pos = (mkT ms[0] ++ remT8 ms (0 + 1)) ++ 41 :: r) := by show _ = _; exact hdr.out
        have hpos2 := hpos
        rw [List.length_append] at hpos2
        have HRN := Lib.hid (HI.out ms[0] pos (remT8 ms (0 + 1) ++ 41 :: r) c2 cs2 wr (by omega) hpokl.1 HRX.out HOX.out (by rw [HDX.out, List.append_assoc]) (by omega))
        have HPL := hpl
        obtain ⟨vk, hvk⟩ : ∃ vk, vk = valM y ms[0] := ⟨_, rfl⟩
        have Hvk := Lib.hid hvk
        clear hrm hdr hpos hpl hvk
        go_wp2_with fail
        refine HRN.out.mono ?_
        rintro e w3 ⟨rfl, ⟨c3, hr3, ho3, ha3⟩, hk3⟩
        rw [← Hvk.out]
        have hs3 := hk3.size
        have hxs : wr.heap.size ≤ (wr).heap.size := Nat.le_refl _
        have hpg := own_lt HPX.out
        have hp3 : w3.ownsRow B 3 1 (.slice PA 0 PC) 0 (((ms.take 0).map (valM y)).map (Value.int .i64)) := own_k2 HPX.out hk3 hbB (fun g hg => HNEr.out g hg)
        obtain ⟨XS, hXS⟩ : ∃ XS, XS = ((ms.take 0).map (valM y)).map (Value.int .i64) := ⟨_, rfl⟩
        rw [← hXS] at hp3
        have HP3 := Lib.hid hp3
        have HXS := Lib.hid hXS
        have hne3 : ∀ g, (Value.slice PA 0 PC).ownBlock = some g → c3.ownBlock ≠ some g := fun g hg => by
          rcases ha3 with e | ⟨g3, e, h1, h2⟩
          · rw [e]; exact HNEr.out g hg
          · rw [e]; intro e2; injection e2 with e2; have := (hpg g hg).2; omega
        have hc3 := own_lt ho3
        have HNE3 := Lib.hid hne3
        have HR3 := Lib.hid hr3
        have HO3 := Lib.hid ho3
        have HA3 : Hid (Own2 c c3 w w3) := Own2.trans HAX.out HKX.out.size ha3 hs3
        have HK3 : Hid (K2 b c w w3) := HKX.out.trans HAX.out hk3
        have HPG := Lib.hid hpg
        have HC3 := Lib.hid hc3
        have hb3 := hr3.lt
        have hB3 : B ≤ w3.heap.size := by omega
        clear hr3 ho3 ha3 hk3 hp3 hXS hne3 hpg hc3 HRN HRX HOX HAX HKX HPX
        go_wp2_with (at_builtin; refine wpList_push rfl (.tmp 98) (.tmp 101) 22 rfl i0 (.int .i64 0) 8 Tryz.underlying22 hi0 hz0 hz1 hz2 rfl rfl (HP3.out.alloc _) ⟨w3.heap.size, 0, none⟩ 1 (.int .i64 vk) rfl (by simp [go_sem]) rfl (by unfold maxLen; omega) (by omega) (by simp; omega) ?_)
        intro v5 w5 hpu
        obtain ⟨g5, cap5, rfl⟩ := hpu.form
        have hs5 : w3.heap.size + 1 ≤ w5.heap.size := by have := hpu.grown.size; simpa using this
        have hblk : ∀ j, j < w3.heap.size → (Value.slice PA 0 PC).ownBlock ≠ some j → w5.heap[j]? = w3.heap[j]? := fun j hj hne => (hpu.grown.block j (by rw [World.size_alloc]; omega) fun e => hne e.symm).trans (((Below.refl _ _).alloc (Nat.le_refl _) (.cells #[.int .i64 vk] 3)).block j hj)
        have hlow : ∀ j, j < B → w5.heap[j]? = w3.heap[j]? := fun j hj => hblk j (by omega) fun e => by have := (HPG.out j e).1; omega
        have HR5 : Hid (Rr lo hi b (.slice SA y.ty.sizes.length scap) (.slice CA0 y.ty.cos.length ccap) (.slice (some ⟨fb, foff, none⟩) y.fs.length fap) y L (pos + (mkT ms[0]).length) c3 w5) := HR3.out.keep fun j hj => hlow j (by omega)
        have HO5 : Hid (w5.ownsRow (b + 1) 3 1 c3 (cs2 ++ stM y ms[0]).length ((cs2 ++ stM y ms[0]).map (Value.int .i64))) := ownsRow_keep1 HO3.out fun g hg => hblk g (HC3.out g hg).2 fun e => HNE3.out g e hg
        have HA5 : Hid (Own2 c c3 w w5) := HA3.out.grow (by omega)
        have HK5 : Hid (K2 b c w w5) := ⟨hpu.grown.os.trans HK3.out.os, hpu.grown.tape.trans HK3.out.tape, hpu.grown.output.trans HK3.out.output, by have := HK3.out.size; omega, fun j hj hb hc => (hlow j (by omega)).trans (HK3.out.block j hj hb hc)⟩
        have HP5 : Hid (w5.ownsRow B 3 1 (.slice (some ⟨g5, 0, none⟩) (0 + 1) cap5) (0 + 1) (((ms.take (0 + 1)).map (valM y)).map (Value.int .i64))) := by
          have h := hpu.own
          rw [HXS.out] at h
          show World.ownsRow _ _ _ _ _ _ _
          rw [List.take_succ_eq_append_getElem hkl, List.map_append, List.map_append]
          simpa [Hvk.out] using h
        have HNE5 : Hid (∀ g, (Value.slice (some ⟨g5, 0, none⟩) (0 + 1) cap5).ownBlock = some g → c3.ownBlock ≠ some g) := fun g hg => by
          rcases hpu.at_ with e | ⟨g3, e, h1, h2⟩
          · exact HNE3.out g (by rw [← e]; exact hg)
          · rw [e] at hg
            injection hg with hg
            subst hg
            rw [World.size_alloc] at h1
            intro e2; have := (HC3.out _ e2).2; omega
        have Hcs3 : Hid (cs2 ++ stM y ms[0] = cs ++ ((ms.take (0 + 1)).map (stM y)).flatten) := by
          show _ = _
          rw [hcss.out, List.append_assoc, List.take_succ_eq_append_getElem hkl, List.map_append, List.flatten_append]
          simp only [List.map_cons, List.map_nil, List.flatten_cons, List.flatten_nil, List.append_nil]
        have Hdr3 : Hid (L.drop (pos + (mkT ms[0]).length) = remT8 ms (0 + 1) ++ 41 :: r) := by
          show _ = _
          rw [← List.drop_drop, HDX.out, List.append_assoc, List.drop_left]
        clear hpu hblk hlow HP3 HR3 HO3 HA3 HK3
        go_wp2
        go_roundw
        case rel => exact ⟨0 + 1, c3, cs2 ++ stM y ms[0], pos + (mkT ms[0]).length, by omega, by go_num, by omega, (by rw [List.length_append]; omega), (by omega), Hdr3.out, (by show _ = _; have h := HPL.out; rw [List.length_append] at h; omega), Hcs3.out, HR5.out, HO5.out, HA5.out, HK5.out, HP5.out, HNE5.out⟩
        case measure => simp [intOf]; omega
      · have hrm := remT_next h2 hk0 hkl
        rw [hrm] at hdr hpos hpl
        have hk0I : (0 : Int) < (k : Int) := by omega
        have c4 := HRr.out.cells.2.2.2.2.1
        have f4 := HRr.out.frozen 4
        have hpos1 := hpos
        rw [List.length_cons] at hpos1
        have HRX : Hid (Rr lo hi b (.slice SA y.ty.sizes.length scap) (.slice CA0 y.ty.cos.length ccap) (.slice (some ⟨fb, foff, none⟩) y.fs.length fap) y L (pos + 1) c2 (wr.setCell ⟨b, 4, none⟩ (.int .i64 ((pos : Int) + 1)))) := HRr.out.go1
        have HOX : Hid ((wr.setCell ⟨b, 4, none⟩ (.int .i64 ((pos : Int) + 1))).ownsRow (b + 1) 3 1 c2 cs2.length (cs2.map (Value.int .i64))) := own_keep HOr.out (Keep.set7 b 4 _ _) (by omega)
        have HAX : Hid (Own2 c c2 w (wr.setCell ⟨b, 4, none⟩ (.int .i64 ((pos : Int) + 1)))) := Hatr.out.grow (by simp [World.setCell])
        have HKX : Hid (K2 b c w (wr.setCell ⟨b, 4, none⟩ (.int .i64 ((pos : Int) + 1)))) := HKr.out.keep (Keep.set7 b 4 _ _)
        have HPX : Hid ((wr.setCell ⟨b, 4, none⟩ (.int .i64 ((pos : Int) + 1))).ownsRow B 3 1 (.slice PA k PC) k (((ms.take k).map (valM y)).map (Value.int .i64))) := own_keep HPr.out (Keep.set7 b 4 _ _) (by omega)
        have HDX : Hid (L.drop (pos + 1) = (mkT ms[k] ++ remT8 ms (k + 1)) ++ 41 :: r) := by show _ = _; rw [← List.drop_drop, hdr.out]; rfl
        have hpos2 := hpos
        rw [List.length_cons, List.length_append] at hpos2
        have HRN := Lib.hid (HI.out ms[k] (pos + 1) (remT8 ms (k + 1) ++ 41 :: r) c2 cs2 (wr.setCell ⟨b, 4, none⟩ (.int .i64 ((pos : Int) + 1))) (by omega) hpokl.1 HRX.out HOX.out (by rw [HDX.out, List.append_assoc]) (by omega))
        have HPL := hpl
        obtain ⟨vk, hvk⟩ : ∃ vk, vk = valM y ms[k] := ⟨_, rfl⟩
        have Hvk := Lib.hid hvk
        clear hrm hdr hpos hpl hvk
        go_wp2_with fail
        refine HRN.out.mono ?_
        rintro e w3 ⟨rfl, ⟨c3, hr3, ho3, ha3⟩, hk3⟩
        rw [← Hvk.out]
        have hs3 := hk3.size
        have hxs : wr.heap.size ≤ ((wr.setCell ⟨b, 4, none⟩ (.int .i64 ((pos : Int) + 1)))).heap.size := by simp [World.setCell]
        have hpg := own_lt HPX.out
        have hp3 : w3.ownsRow B 3 1 (.slice PA k PC) k (((ms.take k).map (valM y)).map (Value.int .i64)) := own_k2 HPX.out hk3 hbB (fun g hg => HNEr.out g hg)
        obtain ⟨XS, hXS⟩ : ∃ XS, XS = ((ms.take k).map (valM y)).map (Value.int .i64) := ⟨_, rfl⟩
        rw [← hXS] at hp3
        have HP3 := Lib.hid hp3
        have HXS := Lib.hid hXS
        have hne3 : ∀ g, (Value.slice PA k PC).ownBlock = some g → c3.ownBlock ≠ some g := fun g hg => by
          rcases ha3 with e | ⟨g3, e, h1, h2⟩
          · rw [e]; exact HNEr.out g hg
          · rw [e]; intro e2; injection e2 with e2; have := (hpg g hg).2; omega
        have hc3 := own_lt ho3
        have HNE3 := Lib.hid hne3
        have HR3 := Lib.hid hr3
        have HO3 := Lib.hid ho3
        have HA3 : Hid (Own2 c c3 w w3) := Own2.trans HAX.out HKX.out.size ha3 hs3
        have HK3 : Hid (K2 b c w w3) := HKX.out.trans HAX.out hk3
        have HPG := Lib.hid hpg
        have HC3 := Lib.hid hc3
        have hb3 := hr3.lt
        have hB3 : B ≤ w3.heap.size := by omega
        clear hr3 ho3 ha3 hk3 hp3 hXS hne3 hpg hc3 HRN HRX HOX HAX HKX HPX c4 f4
        go_wp2_with (at_builtin; refine wpList_push rfl (.tmp 98) (.tmp 101) 22 rfl i0 (.int .i64 0) 8 Tryz.underlying22 hi0 hz0 hz1 hz2 rfl rfl (HP3.out.alloc _) ⟨w3.heap.size, 0, none⟩ 1 (.int .i64 vk) rfl (by simp [go_sem]) rfl (by unfold maxLen; omega) (by omega) (by simp; omega) ?_)
        intro v5 w5 hpu
        obtain ⟨g5, cap5, rfl⟩ := hpu.form
        have hs5 : w3.heap.size + 1 ≤ w5.heap.size := by have := hpu.grown.size; simpa using this
        have hblk : ∀ j, j < w3.heap.size → (Value.slice PA k PC).ownBlock ≠ some j → w5.heap[j]? = w3.heap[j]? := fun j hj hne => (hpu.grown.block j (by rw [World.size_alloc]; omega) fun e => hne e.symm).trans (((Below.refl _ _).alloc (Nat.le_refl _) (.cells #[.int .i64 vk] 3)).block j hj)
        have hlow : ∀ j, j < B → w5.heap[j]? = w3.heap[j]? := fun j hj => hblk j (by omega) fun e => by have := (HPG.out j e).1; omega
        have HR5 : Hid (Rr lo hi b (.slice SA y.ty.sizes.length scap) (.slice CA0 y.ty.cos.length ccap) (.slice (some ⟨fb, foff, none⟩) y.fs.length fap) y L ((pos + 1) + (mkT ms[k]).length) c3 w5) := HR3.out.keep fun j hj => hlow j (by omega)
        have HO5 : Hid (w5.ownsRow (b + 1) 3 1 c3 (cs2 ++ stM y ms[k]).length ((cs2 ++ stM y ms[k]).map (Value.int .i64))) := ownsRow_keep1 HO3.out fun g hg => hblk g (HC3.out g hg).2 fun e => HNE3.out g e hg
        have HA5 : Hid (Own2 c c3 w w5) := HA3.out.grow (by omega)
        have HK5 : Hid (K2 b c w w5) := ⟨hpu.grown.os.trans HK3.out.os, hpu.grown.tape.trans HK3.out.tape, hpu.grown.output.trans HK3.out.output, by have := HK3.out.size; omega, fun j hj hb hc => (hlow j (by omega)).trans (HK3.out.block j hj hb hc)⟩
        have HP5 : Hid (w5.ownsRow B 3 1 (.slice (some ⟨g5, 0, none⟩) (k + 1) cap5) (k + 1) (((ms.take (k + 1)).map (valM y)).map (Value.int .i64))) := by
          have h := hpu.own
          rw [HXS.out] at h
          show World.ownsRow _ _ _ _ _ _ _
          rw [List.take_succ_eq_append_getElem hkl, List.map_append, List.map_append]
          simpa [Hvk.out] using h
        have HNE5 : Hid (∀ g, (Value.slice (some ⟨g5, 0, none⟩) (k + 1) cap5).ownBlock = some g → c3.ownBlock ≠ some g) := fun g hg => by
          rcases hpu.at_ with e | ⟨g3, e, h1, h2⟩
          · exact HNE3.out g (by rw [← e]; exact hg)
          · rw [e] at hg
            injection hg with hg
            subst hg
            rw [World.size_alloc] at h1
            intro e2; have := (HC3.out _ e2).2; omega
        have Hcs3 : Hid (cs2 ++ stM y ms[k] = cs ++ ((ms.take (k + 1)).map (stM y)).flatten) := by
          show _ = _
          rw [hcss.out, List.append_assoc, List.take_succ_eq_append_getElem hkl, List.map_append, List.flatten_append]
          simp only [List.map_cons, List.map_nil, List.flatten_cons, List.flatten_nil, List.append_nil]
        have Hdr3 : Hid (L.drop ((pos + 1) + (mkT ms[k]).length) = remT8 ms (k + 1) ++ 41 :: r) := by
          show _ = _
          rw [← List.drop_drop, HDX.out, List.append_assoc, List.drop_left]
        clear hpu hblk hlow HP3 HR3 HO3 HA3 HK3
        go_wp2
        go_roundw
        case rel => exact ⟨k + 1, c3, cs2 ++ stM y ms[k], (pos + 1) + (mkT ms[k]).length, by omega, by go_num, by omega, (by rw [List.length_append]; omega), (by omega), Hdr3.out, (by show _ = _; have h := HPL.out; rw [List.length_cons, List.length_append] at h; omega), Hcs3.out, HR5.out, HO5.out, HA5.out, HK5.out, HP5.out, HNE5.out⟩
        case measure => simp [intOf]; omega
    · obtain rfl : k = ms.length := by omega
      have hpb : pos ≤ 400 := by omega
      have hrm := remT_end h2
      rw [hrm] at hdr hpos hpl
      have HDE := hdr
      have c4 := HRr.out.cells.2.2.2.2.1
      have f4 := HRr.out.frozen 4
      have HRX : Hid (Rr lo hi b (.slice SA y.ty.sizes.length scap) (.slice CA0 y.ty.cos.length ccap) (.slice (some ⟨fb, foff, none⟩) y.fs.length fap) y L (pos + 1) c2 (wr.setCell ⟨b, 4, none⟩ (.int .i64 ((pos : Int) + 1)))) := HRr.out.go1
      have HOX : Hid ((wr.setCell ⟨b, 4, none⟩ (.int .i64 ((pos : Int) + 1))).ownsRow (b + 1) 3 1 c2 cs2.length (cs2.map (Value.int .i64))) := own_keep HOr.out (Keep.set7 b 4 _ _) (by omega)
      have HAX : Hid (Own2 c c2 w (wr.setCell ⟨b, 4, none⟩ (.int .i64 ((pos : Int) + 1)))) := Hatr.out.grow (by simp [World.setCell])
      have HKX : Hid (K2 b c w (wr.setCell ⟨b, 4, none⟩ (.int .i64 ((pos : Int) + 1)))) := HKr.out.keep (Keep.set7 b 4 _ _)
      have HPX : Hid ((wr.setCell ⟨b, 4, none⟩ (.int .i64 ((pos : Int) + 1))).ownsRow B 3 1 (.slice PA ms.length PC) ms.length ((ms.map (valM y)).map (Value.int .i64))) := by
        have h := HPr.out
        rw [List.take_length] at h
        exact own_keep h (Keep.set7 b 4 _ _) (by omega)
      obtain ⟨x0, x1, x2, -, -, -⟩ := HRr.out.cells
      have hvs : ∀ z ∈ ms.map (valM y), I64 z := fun z hz => by
        obtain ⟨p, hp, rfl⟩ := List.mem_map.1 hz
        exact (valM_small hy (HOKS.out p hp).1).2.2
      have hiv := ownsRow.intsAt (lo := 0) (hi := (wr.setCell ⟨b, 4, none⟩ (.int .i64 ((pos : Int) + 1))).heap.size) (show World.ownsRow _ B 3 1 (.slice PA ms.length PC) (ms.map (valM y)).length _ by rw [List.length_map]; exact HPX.out) hvs (Nat.zero_le _) (Nat.le_refl _)
      have hibx := HRX.out.hib
      have hbx := HRX.out.lt
      have HCL := Lib.hid (l4Call_any lo hi 0 _ _ _ _ _ y i (ms.map (valM y)) _ HRX.out.sy hiv (by omega) (Nat.le_refl _) HFB.out (by simpa using hix) (by simpa using HIN.out))
      have HPE := hpl
      clear hrm hdr hpos hpl hvs hiv HPX
      have hki : ¬ ((ms.length : Int) < (ms.length : Int)) := by omega
      go_wp2_with fail
      refine HCL.out.mono ?_
      rintro e u9 ⟨rfl, hb9⟩
      have hsx := hb9.size
      have HRU : Hid (Rr lo hi b (.slice SA y.ty.sizes.length scap) (.slice CA0 y.ty.cos.length ccap) (.slice (some ⟨fb, foff, none⟩) y.fs.length fap) y L (pos + 1) c2 u9) := HRX.out.keep fun j hj => hb9.block j (by omega)
      have HKU : Hid (K2 b c w u9) := HKX.out.under hb9
      obtain ⟨cl, hcl⟩ : ∃ cl, cl = cs2 := ⟨_, rfl⟩
      have HOU : Hid (u9.ownsRow (b + 1) 3 1 c2 cl.length (cl.map (Value.int .i64))) := by show World.ownsRow _ _ _ _ _ _ _; rw [hcl]; exact ownsRow_below HOX.out hb9 (Nat.le_refl _)
      have HAU : Hid (Own2 c c2 w u9) := HAX.out.grow hsx
      have hcll : cl.length ≤ 1000000 := by rw [hcl]; omega
      have Hcl := Lib.hid hcl
      obtain ⟨Z, hZ⟩ : ∃ Z, Z = fcallV y i (ms.map (valM y)) := ⟨_, rfl⟩
      rw [← hZ]
      have HZV : Hid (Z = valM y m) := by show _ = _; rw [hZ, HVAL.out]
      clear hb9 HRX HOX HAX HKX HCL x0 x1 x2 c4 f4 hcl hZ
      have hown := HOU.out
      obtain ⟨CA, CC, rfl⟩ := own_slice7 hown
      have hcge := fun g hg => (own_lt hown g hg).1
      have hclt := fun g hg => (own_lt hown g hg).2
      have c5 := HRU.out.cells.2.2.2.2.2
      have hblt := HRU.out.lt
      go_wp2_with (at_builtin; refine wpList_push rfl (.tmp 122) (.tmp 124) 22 rfl i0 (.int .i64 0) 8 Tryz.underlying22 hi0 hz0 hz1 hz2 rfl rfl (HOU.out.alloc _) ⟨u9.heap.size, 0, none⟩ 1 (.int .i64 Z) rfl (by simp [go_sem]) rfl (by unfold maxLen; omega) (by omega) (by simp; omega) ?_)
      intro c9 w9 hpu
      obtain ⟨g9, cap9, rfl⟩ := hpu.form
      have hs9 : u9.heap.size + 1 ≤ w9.heap.size := by have := hpu.grown.size; simpa using this
      have HR9 : Hid (Rr lo hi b (.slice SA y.ty.sizes.length scap) (.slice CA0 y.ty.cos.length ccap) (.slice (some ⟨fb, foff, none⟩) y.fs.length fap) y L (pos + 1) (.slice CA cl.length CC) w9) := HRU.out.keep fun k hk => (hpu.grown.block k (by simp; omega) fun e => by have := hcge k e.symm; omega).trans ((Below.refl _ _).alloc (Nat.le_refl _) (.cells #[.int .i64 Z] 3) |>.block k (by omega))
      have d5 := HR9.out.cells.2.2.2.2.2
      have f5 := HR9.out.frozen 5
      have HK9 : Hid (K2 b c w w9) := HKU.out.trans HAU.out ((((K2.refl b (.slice CA cl.length CC) u9).under ((Below.refl _ _).alloc (Nat.le_refl _) _))).grown hpu.grown)
      have HA9 : Hid (Own2 c (.slice (some ⟨g9, 0, none⟩) (cl.length + 1) cap9) w w9) := by
        refine Own2.trans HAU.out HKU.out.size ?_ (by omega)
        rcases hpu.at_ with e | ⟨g, e, h1, h2⟩
        · exact .inl e
        · exact .inr ⟨g, e, by simp at h1; omega, h2⟩
      have HO9 := Lib.hid hpu.own
      clear hpu c5 hown hcge hclt
      go_wp2
      go_ret
      have e9 : cl ++ [Z] = cs ++ stM y m := by rw [Hcl.out, HZV.out, hcss.out, HST.out, List.take_length, List.append_assoc]
      refine ⟨ret_int HZV.out, ⟨.slice (some ⟨g9, 0, none⟩) (cl.length + 1) cap9, (HR9.out.setSteps _).at_ (by have h := HPE.out; simp at h; omega), ?_, HA9.out.grow (by simp [World.setCell])⟩, HK9.out.keep (Keep.set7 b 5 _ _)⟩
      rw [← e9, List.length_append]
      have h9 : w9.ownsRow (b + 1) 3 1 (.slice (some ⟨g9, 0, none⟩) (cl.length + 1) cap9) (cl.length + 1) ((cl ++ [Z]).map (Value.int .i64)) := by rw [List.map_append]; exact HO9.out
      exact own_keep h9 (Keep.set7 b 5 _ _) (by omega)
set_option maxRecDepth 100000 in
set_option maxHeartbeats 4000000 in
theorem runs8 (lo hi b : Nat) (sv cv fv : Value) (y : Sy) (hy : SyOk y) (L : List UInt8) (hL : L.length ≤ 400) : ∀ f, Runs8 lo hi b sv cv fv y L f := by
  intro f
  induction f with
  | zero => intro m q r c cs w h; exact absurd h (by cases m <;> simp [mkT, dg])
  | succ f IH =>
    intro m q r c cs w hf hok h ho hd hcs
    have HI := Lib.hid IH
    have HO := Lib.hid ho
    have hsz := str_size L
    obtain ⟨-, -, -, c3, c4, -⟩ := h.cells
    have f4 := h.frozen 4
    have HS := Lib.hid h
    obtain ⟨i0, hi0, hz0, hz1, hz2⟩ := info_parts (show (Tryz.prog.info? 3).map (fun i => (i.zero, i.size, i.bytes)) = some (some (.int .i64 0), 1, 8) by kernel_rfl)
    match m, hf, hok, hd with
    | .lit k v, hf, hok, hd =>
      obtain ⟨ck, ek, nk⟩ := dg_one hok.1
      obtain ⟨cv', ev, nv⟩ := dg_one hok.2.1
      have hk := hok.1
      have hvd := hok.2.1
      unfold Dig at hk hvd
      have hd' : L.drop q = ck :: 58 :: cv' :: r := by rw [hd]; simp [mkT, ek, ev]
      obtain ⟨h3, e0, e1, e2, hdr⟩ := bytes3 hd'
      have e58 : ((58 : UInt8).toNat : Int) = 58 := rfl
      have n35 : ((48 + k : Int) == 35) = false := by simp; omega
      have n64 : ((48 + k : Int) == 64) = false := by simp; omega
      have m35 : ¬ (48 + k : Int) = 35 := by omega
      have m64 : ¬ (48 + k : Int) = 64 := by omega
      have HLN : Hid ((mkT (.lit k v)).length = 3) := by show _ = _; simp [mkT, ek, ev]
      clear ho h IH hd hd' hdr
      go_enter Tryz.func56, Tryz.ntmps56
      go_wp2_with fail
      go_quiet (fail)
      generalize nq = n1 at *
      go_wp2_with fail
      go_quiet (fail)
      generalize nq = n2 at *
      go_wp2_with fail
      obtain ⟨u1, hu1⟩ : ∃ u, u = (w.drewN (n1 + n2)).setCell ⟨b, 4, none⟩ (.int .i64 ((q : Int) + 3)) := ⟨_, rfl⟩
      rw [← hu1]
      have HR1 : Hid (Rr lo hi b sv cv fv y L (q + 3) c u1) := by show Rr _ _ _ _ _ _ _ _ _ _ _; rw [hu1]; exact HS.out.go3 _
      have HK1 : Hid (K2 b c w u1) := by show K2 _ _ _ _; rw [hu1]; exact (K2.refl b c w).keep (Keep.drewN _ (Keep.set7 b 4 _ _))
      have HO1 : Hid (u1.ownsRow (b + 1) 3 1 c cs.length (cs.map (Value.int .i64))) := by show World.ownsRow _ _ _ _ _ _ _; rw [hu1]; exact own_keep HO.out (Keep.drewN _ (Keep.set7 b 4 _ _)) (by omega)
      have d3 := HR1.out.cells.2.2.2.1
      have d4 : u1.cell? ⟨b, 4, none⟩ = some (.int .i64 ((q : Int) + 3)) := HR1.out.cells.2.2.2.2.1
      have hwr : IntKind.i64.wrap ((q : Int) + 3 - 1) = (q : Int) + 2 := by rw [wrapIn _ (by omega) (by omega)]; omega
      have hv48 : (48 + v - 48 : Int) = v := by omega
      have htn : ((q : Int) + 2).toNat = q + 2 := by omega
      have hnl : ¬ L.length ≤ q + 2 := by omega
      have hn0 : (0 : Int) ≤ (q : Int) + 2 := by omega
      clear hu1 c3 c4 f4 HO HS
      go_quiet (fail)
      generalize nq = n3 at *
      obtain ⟨u2, hu2⟩ : ∃ u, u = u1.drewN n3 := ⟨_, rfl⟩
      obtain ⟨cc, hcc⟩ : ∃ cc, cc = c := ⟨_, rfl⟩
      have HRU : Hid (Rr lo hi b sv cv fv y L (q + 3) cc u2) := by show Rr _ _ _ _ _ _ _ _ _ _ _; rw [hu2, hcc]; exact HR1.out.same rfl
      have HKU : Hid (K2 b c w u2) := by show K2 _ _ _ _; rw [hu2]; exact HK1.out.under (below_drewN (Below.refl _ _) _)
      have HOU : Hid (u2.ownsRow (b + 1) 3 1 cc cs.length (cs.map (Value.int .i64))) := by show World.ownsRow _ _ _ _ _ _ _; rw [hu2, hcc]; exact HO1.out
      rw [← hu2]
      clear hu2 d3 d4 HR1 HK1 HO1 n35 n64 m35 m64
      have HAU : Hid (Own2 c cc w u2) := by show Own2 _ _ _ _; rw [hcc]; exact Own2.refl _ _ _
      clear hcc
      have hown := HOU.out
      obtain ⟨CA, CC, rfl⟩ := own_slice7 hown
      have hcge := fun g hg => (own_lt hown g hg).1
      have hclt := fun g hg => (own_lt hown g hg).2
      have c5 := HRU.out.cells.2.2.2.2.2
      
      have hblt := HRU.out.lt
      go_wp2_with (at_builtin; refine wpList_push rfl (.tmp 122) (.tmp 124) 22 rfl i0 (.int .i64 0) 8 Tryz.underlying22 hi0 hz0 hz1 hz2 rfl rfl (HOU.out.alloc _) ⟨u2.heap.size, 0, none⟩ 1 (.int .i64 v) rfl (by simp [go_sem]) rfl (by unfold maxLen; omega) (by omega) (by simp; omega) ?_)
      intro c9 w9 hpu
      obtain ⟨g9, cap9, rfl⟩ := hpu.form
      have hs9 : u2.heap.size + 1 ≤ w9.heap.size := by have := hpu.grown.size; simpa using this
      have HR9 : Hid (Rr lo hi b sv cv fv y L (q + 3) (.slice CA cs.length CC) w9) := HRU.out.keep fun k hk => (hpu.grown.block k (by simp; omega) fun e => by have := hcge k e.symm; omega).trans ((Below.refl _ _).alloc (Nat.le_refl _) (.cells #[.int .i64 v] 3) |>.block k (by omega))
      have d5 := HR9.out.cells.2.2.2.2.2
      have f5 := HR9.out.frozen 5
      have HK9 : Hid (K2 b c w w9) := HKU.out.trans HAU.out ((((K2.refl b (.slice CA cs.length CC) u2).under ((Below.refl _ _).alloc (Nat.le_refl _) _))).grown hpu.grown)
      have HA9 : Hid (Own2 c (.slice (some ⟨g9, 0, none⟩) (cs.length + 1) cap9) w w9) := by
        refine Own2.trans HAU.out HKU.out.size ?_ (by omega)
        rcases hpu.at_ with e | ⟨g, e, h1, h2⟩
        · exact .inl e
        · exact .inr ⟨g, e, by simp at h1; omega, h2⟩
      have HO9 := Lib.hid hpu.own
      clear hpu c5 hown hcge hclt
      go_wp2
      go_ret
      have e9 : cs ++ [v] = cs ++ stM y (.lit k v) := rfl
      refine ⟨rfl, ⟨.slice (some ⟨g9, 0, none⟩) (cs.length + 1) cap9, (HR9.out.setSteps _).at_ (by rw [HLN.out]), ?_, HA9.out.grow (by simp [World.setCell])⟩, HK9.out.keep (Keep.set7 b 5 _ _)⟩
      rw [← e9, List.length_append]
      have h9 : w9.ownsRow (b + 1) 3 1 (.slice (some ⟨g9, 0, none⟩) (cs.length + 1) cap9) (cs.length + 1) ((cs ++ [v]).map (Value.int .i64)) := by rw [List.map_append]; exact HO9.out
      exact own_keep h9 (Keep.set7 b 5 _ _) (by omega)
    | .co i m, hf, hok, hd =>
      have hi9 := hok.2.1
      have hi' := hok.1
      obtain ⟨ci, ei, ni⟩ := dg_one (k := (i : Int)) (by unfold Dig; omega)
      have hd' : L.drop q = 35 :: ci :: 40 :: (mkT m ++ 41 :: r) := by rw [hd]; simp [mkT, ei]
      obtain ⟨h3, e0, e1, e2, hdr⟩ := bytes3 hd'
      have e58 : ((35 : UInt8).toNat : Int) = 35 := rfl
      have HLN : Hid ((mkT (.co i m)).length = (mkT m).length + 4) := by show _ = _; simp [mkT, ei]
      have hi48 : (48 + (i : Int) - 48 : Int) = i := by omega
      have HDR := Lib.hid hdr
      clear ho h IH hd hd' e2 hdr
      go_enter Tryz.func56, Tryz.ntmps56
      go_wp2_with fail
      go_quiet (fail)
      generalize nq = n1 at *
      go_wp2_with fail
      go_quiet (fail)
      generalize nq = n2 at *
      go_upto_region 8 with fail
      obtain ⟨u1, hu1⟩ : ∃ u, u = (w.drewN (n1 + n2)).setCell ⟨b, 4, none⟩ (.int .i64 ((q : Int) + 3)) := ⟨_, rfl⟩
      rw [← hu1]
      have HR1 : Hid (Rr lo hi b sv cv fv y L (q + 3) c u1) := by show Rr _ _ _ _ _ _ _ _ _ _ _; rw [hu1]; exact HS.out.go3 _
      have HK1 : Hid (K2 b c w u1) := by show K2 _ _ _ _; rw [hu1]; exact (K2.refl b c w).keep (Keep.drewN _ (Keep.set7 b 4 _ _))
      have HO1 : Hid (u1.ownsRow (b + 1) 3 1 c cs.length (cs.map (Value.int .i64))) := by show World.ownsRow _ _ _ _ _ _ _; rw [hu1]; exact own_keep HO.out (Keep.drewN _ (Keep.set7 b 4 _ _)) (by omega)
      clear hu1 c3 c4 f4 HO HS e0 e1 e58 ni hi48
      obtain ⟨V, hV⟩ : ∃ V, V = valM y m := ⟨_, rfl⟩
      have hco := coOk_of (tyOk_at hy.ty hi')
      have hsrcv := hasV0_iff.1 (valM_ok hy hok.2.2.1)
      rw [hok.2.2.2, getD_get hi', ← hV] at hsrcv
      have hV0 : 0 ≤ V := hsrcv.2.2.1
      have hV1 : V < (y.ty.cos[i].map.length : Int) := by omega
      have hVn : V.toNat < y.ty.cos[i].map.length := by omega
      have HVAL : Hid (valM y (.co i m) = y.ty.cos[i].map[V.toNat]) := by
        show lookOf (y.ty.cos.getD i default).map (valM y m) = _
        rw [getD_get hi', ← hV, lookOf, if_pos ⟨hV0, hV1⟩, getD_get hVn]
      obtain ⟨CA0, cap2, rfl, _, _, _⟩ := HR1.out.sy.1.2.form
      obtain ⟨b4, off4, A4, cap4, rfl, _, hb4, k0, k1, k2, _, _, _, _, hz⟩ := HR1.out.sy.1.2.at_ hi'
      obtain ⟨b5, o5, rfl, _, hb5, z0, _⟩ := hz.at_ hVn
      have hib := HR1.out.hib
      have hil : (i : Int) < (y.ty.cos.length : Int) := by omega
      have HRN : Hid (∀ n : Nat, Calls Tryz.prog 56 #[.pointer (some ⟨b, 0, none⟩)] (u1.drewN n) fun e w' => e = .returned (.int .i64 V) ∧ RunPost lo hi b sv (.slice (some ⟨b4, off4, none⟩) y.ty.cos.length cap2) fv y L (q + 3) c cs m u1 (.returned (.int .i64 V)) w') := fun n => by
        have hlm := HLN.out
        refine (HI.out m (q + 3) (41 :: r) c cs (u1.drewN n) (by omega) hok.2.2.1 (HR1.out.same rfl) HO1.out HDR.out (by omega)).mono ?_
        rintro e w' ⟨rfl, ⟨c8, hr8, ho8, ha8⟩, hk8⟩
        exact ⟨by rw [hV], by rw [hV], ⟨c8, hr8, ho8, ha8⟩, ⟨hk8.os, hk8.tape, hk8.output, hk8.size, hk8.block⟩⟩
      have HLD : Hid (∀ (j : Nat) (u : World), j ≤ 1 → (WOne8 u1 (fun u => RunPost lo hi b sv (.slice (some ⟨b4, off4, none⟩) y.ty.cos.length cap2) fv y L (q + 3) c cs m u1 (.returned (.int .i64 V)) u)) j u → u.cell? ⟨b, 1, none⟩ = some (.slice (some ⟨b4, off4, none⟩) y.ty.cos.length cap2) ∧ u.cell? ⟨b4, off4 + i * 3 + 2, none⟩ = some (.slice (some ⟨b5, o5, none⟩) y.ty.cos[i].map.length cap4) ∧ u.cell? ⟨b5, o5 + V.toNat, none⟩ = some (.int .i64 y.ty.cos[i].map[V.toNat])) := fun j u hj hW => by
        match j, hj, hW with
        | 0, _, hW =>
          obtain ⟨n8, rfl⟩ := hW
          exact ⟨HR1.out.cells.2.1, k2, z0⟩
        | 1, _, hW =>
          obtain ⟨-, ⟨c8, hr8, ho8, ha8⟩, hk8⟩ := hW
          have hcg := fun g hg => (own_lt HO1.out g hg).1
          have hblk : ∀ g, g < b → u.heap[g]? = u1.heap[g]? := fun g hg => hk8.block g (by have := HR1.out.lt; omega) (by omega) fun e => by have := hcg g e; omega
          exact ⟨hr8.cells.2.1, (World.cell?_of_block (w := u1) (hblk b4 (by omega))).trans k2, (World.cell?_of_block (w := u1) (hblk b5 (by omega))).trans z0⟩
      clear k0 k1 k2 hz z0 hco hsrcv hV
      refine wp_region_inv (by kernel_rfl) (fun dn ac u => ∃ x52 x53 x54 x55 x56 x57 x58 x59 x60 x61 x62 x63 x64 x65 x5, ac = ⟨List.toArray (.pointer (some ⟨b, 0, none⟩) :: undef :: .int .i64 0 :: .int .u8 35 :: .int .i64 i :: x5 :: undef :: undef :: .pointer (some ⟨b, 0, none⟩) :: .pointer (some ⟨b, 0, none⟩) :: .pointer (some ⟨b, 3, none⟩) :: .string (str L) :: .pointer (some ⟨b, 0, none⟩) :: .pointer (some ⟨b, 0, none⟩) :: .pointer (some ⟨b, 4, none⟩) :: .int .i64 q :: .int .u8 35 :: .pointer (some ⟨b, 0, none⟩) :: .pointer (some ⟨b, 0, none⟩) :: .pointer (some ⟨b, 3, none⟩) :: .string (str L) :: .pointer (some ⟨b, 0, none⟩) :: .pointer (some ⟨b, 0, none⟩) :: .pointer (some ⟨b, 4, none⟩) :: .int .i64 q :: .int .i64 ((q : Int) + 1) :: .int .u8 (48 + (i : Int)) :: .int .i64 (48 + (i : Int)) :: .int .i64 i :: .pointer (some ⟨b, 0, none⟩) :: .pointer (some ⟨b, 0, none⟩) :: .pointer (some ⟨b, 0, none⟩) :: .pointer (some ⟨b, 4, none⟩) :: .int .i64 q :: .int .i64 ((q : Int) + 3) :: .pointer (some ⟨b, 0, none⟩) :: .pointer (some ⟨b, 4, none⟩) :: .int .u8 35 :: undef :: undef :: undef :: undef :: undef :: undef :: undef :: undef :: undef :: undef :: undef :: undef :: .bool true :: .bool true :: x52 :: x53 :: x54 :: x55 :: x56 :: x57 :: x58 :: x59 :: x60 :: x61 :: x62 :: x63 :: x64 :: x65 :: undef :: undef :: undef :: undef :: undef :: undef :: undef :: undef :: undef :: undef :: undef :: undef :: undef :: undef :: undef :: undef :: undef :: undef :: undef :: undef :: undef :: undef :: undef :: undef :: undef :: undef :: undef :: undef :: undef :: undef :: undef :: undef :: undef :: undef :: undef :: undef :: undef :: undef :: undef :: undef :: undef :: undef :: undef :: undef :: undef :: undef :: undef :: undef :: undef :: undef :: undef :: undef :: undef :: undef :: undef :: undef :: undef :: undef :: undef :: undef :: undef :: undef :: undef :: []), []⟩ ∧ DetQ [fun v : Value => v = .pointer (some ⟨b, 0, none⟩), fun v : Value => v = .pointer (some ⟨b, 0, none⟩), fun v : Value => v = .pointer (some ⟨b, 0, none⟩), fun v : Value => v = .pointer (some ⟨b, 0, none⟩), fun v : Value => v = .pointer (some ⟨b, 1, none⟩), fun v : Value => v = .slice (some ⟨b4, off4, none⟩) y.ty.cos.length cap2, fun v : Value => v = .int .i64 i, fun v : Value => v = .pointer (some ⟨b4, off4 + i * 3, none⟩), fun v : Value => v = .pointer (some ⟨b4, off4 + i * 3 + 2, none⟩), fun v : Value => v = .slice (some ⟨b5, o5, none⟩) y.ty.cos[i].map.length cap4, fun v : Value => v = .pointer (some ⟨b, 0, none⟩), fun v : Value => v = .int .i64 V, fun v : Value => v = .pointer (some ⟨b5, o5 + V.toNat, none⟩), fun v : Value => v = .int .i64 y.ty.cos[i].map[V.toNat], fun v : Value => v = .int .i64 y.ty.cos[i].map[V.toNat]] dn [x52, x53, x54, x55, x56, x57, x58, x59, x60, x61, x62, x63, x64, x65, x5] ∧ Ch dn [11] (WOne8 u1 (fun u => RunPost lo hi b sv (.slice (some ⟨b4, off4, none⟩) y.ty.cos.length cap2) fv y L (q + 3) c cs m u1 (.returned (.int .i64 V)) u)) u ∧ True) (of_decide_eq_true (by kernel_rfl)) ⟨_, _, _, _, _, _, _, _, _, _, _, _, _, _, _, rfl, DetQ.start (by rfl), Ch.start ⟨1, rfl⟩, trivial⟩ ?_ ?_
      · rintro dn ac u i8 op8 hop hfi hdep ⟨x52, x53, x54, x55, x56, x57, x58, x59, x60, x61, x62, x63, x64, x65, x5, rfl, hD, hC, -⟩
        have hil : i8 < 15 := by have := (Array.getElem?_eq_some_iff.1 hop).1; simpa using this
        obtain rfl | rfl | rfl | rfl | rfl | rfl | rfl | rfl | rfl | rfl | rfl | rfl | rfl | rfl | rfl : i8 = 0 ∨ i8 = 1 ∨ i8 = 2 ∨ i8 = 3 ∨ i8 = 4 ∨ i8 = 5 ∨ i8 = 6 ∨ i8 = 7 ∨ i8 = 8 ∨ i8 = 9 ∨ i8 = 10 ∨ i8 = 11 ∨ i8 = 12 ∨ i8 = 13 ∨ i8 = 14 := by omega
        all_goals
          obtain rfl := Option.some.inj hop
          refine wpOp_step hop fun K hK => ?_
          simp [Region.binds] at hdep
          clear hop
        · refine det_yes rfl ?_
          have HD := Lib.hid hD
          have HC := Lib.hid hC
          clear hD hC
          unfold Oper.wp
          go_simp
          exact hK _ _ ⟨_, _, _, _, _, _, _, _, _, _, _, _, _, _, _, rfl, HD.out.step 0 rfl rfl, HC.out.other 0 (by decide), trivial⟩
        · obtain rfl : x52 = .pointer (some ⟨b, 0, none⟩) := hD.get (P := fun v : Value => v = .pointer (some ⟨b, 0, none⟩)) 0 (by simp [hdep]) rfl rfl
          refine det_yes rfl ?_
          have HD := Lib.hid hD
          have HC := Lib.hid hC
          clear hD hC
          unfold Oper.wp
          go_simp
          exact hK _ _ ⟨_, _, _, _, _, _, _, _, _, _, _, _, _, _, _, rfl, HD.out.step 1 rfl rfl, HC.out.other 1 (by decide), trivial⟩
        · obtain rfl : x53 = .pointer (some ⟨b, 0, none⟩) := hD.get (P := fun v : Value => v = .pointer (some ⟨b, 0, none⟩)) 1 (by simp [hdep]) rfl rfl
          refine det_yes rfl ?_
          have HD := Lib.hid hD
          have HC := Lib.hid hC
          clear hD hC
          unfold Oper.wp
          go_simp
          exact hK _ _ ⟨_, _, _, _, _, _, _, _, _, _, _, _, _, _, _, rfl, HD.out.step 2 rfl rfl, HC.out.other 2 (by decide), trivial⟩
        · obtain rfl : x54 = .pointer (some ⟨b, 0, none⟩) := hD.get (P := fun v : Value => v = .pointer (some ⟨b, 0, none⟩)) 2 (by simp [hdep]) rfl rfl
          refine det_yes rfl ?_
          have HD := Lib.hid hD
          have HC := Lib.hid hC
          clear hD hC
          unfold Oper.wp
          go_simp
          exact hK _ _ ⟨_, _, _, _, _, _, _, _, _, _, _, _, _, _, _, rfl, HD.out.step 3 rfl rfl, HC.out.other 3 (by decide), trivial⟩
        · obtain rfl : x55 = .pointer (some ⟨b, 0, none⟩) := hD.get (P := fun v : Value => v = .pointer (some ⟨b, 0, none⟩)) 3 (by simp [hdep]) rfl rfl
          refine det_yes rfl ?_
          have HD := Lib.hid hD
          have HC := Lib.hid hC
          clear hD hC
          unfold Oper.wp
          go_simp
          exact hK _ _ ⟨_, _, _, _, _, _, _, _, _, _, _, _, _, _, _, rfl, HD.out.step 4 rfl rfl, HC.out.other 4 (by decide), trivial⟩
        · obtain rfl : x56 = .pointer (some ⟨b, 1, none⟩) := hD.get (P := fun v : Value => v = .pointer (some ⟨b, 1, none⟩)) 4 (by simp [hdep]) rfl rfl
          obtain ⟨j8, hj8, -, hW⟩ := hC.ex
          have d1 := (HLD.out j8 u hj8 hW).1
          clear hW
          refine det_yes rfl ?_
          have HD := Lib.hid hD
          have HC := Lib.hid hC
          clear hD hC
          unfold Oper.wp
          go_simp
          exact hK _ _ ⟨_, _, _, _, _, _, _, _, _, _, _, _, _, _, _, rfl, HD.out.step 5 rfl rfl, HC.out.other 5 (by decide), trivial⟩
        · refine det_yes rfl ?_
          have HD := Lib.hid hD
          have HC := Lib.hid hC
          clear hD hC
          unfold Oper.wp
          go_simp
          exact hK _ _ ⟨_, _, _, _, _, _, _, _, _, _, _, _, _, _, _, rfl, HD.out.step 6 rfl rfl, HC.out.other 6 (by decide), trivial⟩
        · obtain rfl : x57 = .slice (some ⟨b4, off4, none⟩) y.ty.cos.length cap2 := hD.get (P := fun v : Value => v = .slice (some ⟨b4, off4, none⟩) y.ty.cos.length cap2) 5 (by simp [hdep]) rfl rfl
          obtain rfl : x58 = .int .i64 i := hD.get (P := fun v : Value => v = .int .i64 i) 6 (by simp [hdep]) rfl rfl
          refine det_yes rfl ?_
          have HD := Lib.hid hD
          have HC := Lib.hid hC
          clear hD hC
          unfold Oper.wp
          go_simp
          exact hK _ _ ⟨_, _, _, _, _, _, _, _, _, _, _, _, _, _, _, rfl, HD.out.step 7 rfl rfl, HC.out.other 7 (by decide), trivial⟩
        · obtain rfl : x59 = .pointer (some ⟨b4, off4 + i * 3, none⟩) := hD.get (P := fun v : Value => v = .pointer (some ⟨b4, off4 + i * 3, none⟩)) 7 (by simp [hdep]) rfl rfl
          refine det_yes rfl ?_
          have HD := Lib.hid hD
          have HC := Lib.hid hC
          clear hD hC
          unfold Oper.wp
          go_simp
          exact hK _ _ ⟨_, _, _, _, _, _, _, _, _, _, _, _, _, _, _, rfl, HD.out.step 8 rfl rfl, HC.out.other 8 (by decide), trivial⟩
        · obtain rfl : x60 = .pointer (some ⟨b4, off4 + i * 3 + 2, none⟩) := hD.get (P := fun v : Value => v = .pointer (some ⟨b4, off4 + i * 3 + 2, none⟩)) 8 (by simp [hdep]) rfl rfl
          obtain ⟨j8, hj8, -, hW⟩ := hC.ex
          have d1 := (HLD.out j8 u hj8 hW).2.1
          clear hW
          refine det_yes rfl ?_
          have HD := Lib.hid hD
          have HC := Lib.hid hC
          clear hD hC
          unfold Oper.wp
          go_simp
          exact hK _ _ ⟨_, _, _, _, _, _, _, _, _, _, _, _, _, _, _, rfl, HD.out.step 9 rfl rfl, HC.out.other 9 (by decide), trivial⟩
        · refine det_yes rfl ?_
          have HD := Lib.hid hD
          have HC := Lib.hid hC
          clear hD hC
          unfold Oper.wp
          go_simp
          exact hK _ _ ⟨_, _, _, _, _, _, _, _, _, _, _, _, _, _, _, rfl, HD.out.step 10 rfl rfl, HC.out.other 10 (by decide), trivial⟩
        · obtain rfl : x62 = .pointer (some ⟨b, 0, none⟩) := hD.get (P := fun v : Value => v = .pointer (some ⟨b, 0, none⟩)) 10 (by simp [hdep]) rfl rfl
          have hW := hC.at_ 0 (by decide) hfi (by intro j9 e9 _; omega)
          refine det_yes rfl ?_
          have HD := Lib.hid hD
          have HC := Lib.hid hC
          clear hD hC
          obtain ⟨n8, rfl⟩ := hW
          unfold Oper.wp
          go_simp
          refine (HRN.out n8).mono ?_
          rintro e u2 ⟨rfl, hp8⟩
          have HW2 : (WOne8 u1 (fun u => RunPost lo hi b sv (.slice (some ⟨b4, off4, none⟩) y.ty.cos.length cap2) fv y L (q + 3) c cs m u1 (.returned (.int .i64 V)) u)) 1 u2 := hp8
          exact hK _ _ ⟨_, _, _, _, _, _, _, _, _, _, _, _, _, _, _, rfl, HD.out.step 11 rfl (by rfl), HC.out.next 0 (by decide) hfi (by intro j9 e9 _; omega) (by decide) HW2, trivial⟩
        · obtain rfl : x61 = .slice (some ⟨b5, o5, none⟩) y.ty.cos[i].map.length cap4 := hD.get (P := fun v : Value => v = .slice (some ⟨b5, o5, none⟩) y.ty.cos[i].map.length cap4) 9 (by simp [hdep]) rfl rfl
          obtain rfl : x63 = .int .i64 V := hD.get (P := fun v : Value => v = .int .i64 V) 11 (by simp [hdep]) rfl rfl
          refine det_yes rfl ?_
          have HD := Lib.hid hD
          have HC := Lib.hid hC
          clear hD hC
          unfold Oper.wp
          go_simp
          exact hK _ _ ⟨_, _, _, _, _, _, _, _, _, _, _, _, _, _, _, rfl, HD.out.step 12 rfl rfl, HC.out.other 12 (by decide), trivial⟩
        · obtain rfl : x64 = .pointer (some ⟨b5, o5 + V.toNat, none⟩) := hD.get (P := fun v : Value => v = .pointer (some ⟨b5, o5 + V.toNat, none⟩)) 12 (by simp [hdep]) rfl rfl
          obtain ⟨j8, hj8, -, hW⟩ := hC.ex
          have d1 := (HLD.out j8 u hj8 hW).2.2
          clear hW
          refine det_yes rfl ?_
          have HD := Lib.hid hD
          have HC := Lib.hid hC
          clear hD hC
          unfold Oper.wp
          go_simp
          exact hK _ _ ⟨_, _, _, _, _, _, _, _, _, _, _, _, _, _, _, rfl, HD.out.step 13 rfl rfl, HC.out.other 13 (by decide), trivial⟩
        · obtain rfl : x65 = .int .i64 y.ty.cos[i].map[V.toNat] := hD.get (P := fun v : Value => v = .int .i64 y.ty.cos[i].map[V.toNat]) 13 (by simp [hdep]) rfl rfl
          refine det_yes rfl ?_
          have HD := Lib.hid hD
          have HC := Lib.hid hC
          clear hD hC
          unfold Oper.wp
          go_simp
          exact hK _ _ ⟨_, _, _, _, _, _, _, _, _, _, _, _, _, _, _, rfl, HD.out.step 14 rfl rfl, HC.out.other 14 (by decide), trivial⟩
      · rintro dn ac u hall ⟨x52, x53, x54, x55, x56, x57, x58, x59, x60, x61, x62, x63, x64, x65, x5, rfl, hD, hC, -⟩
        obtain rfl : x52 = .pointer (some ⟨b, 0, none⟩) := hD.get (P := fun v : Value => v = .pointer (some ⟨b, 0, none⟩)) 0 (hall 0 (by decide)) rfl rfl
        obtain rfl : x53 = .pointer (some ⟨b, 0, none⟩) := hD.get (P := fun v : Value => v = .pointer (some ⟨b, 0, none⟩)) 1 (hall 1 (by decide)) rfl rfl
        obtain rfl : x54 = .pointer (some ⟨b, 0, none⟩) := hD.get (P := fun v : Value => v = .pointer (some ⟨b, 0, none⟩)) 2 (hall 2 (by decide)) rfl rfl
        obtain rfl : x55 = .pointer (some ⟨b, 0, none⟩) := hD.get (P := fun v : Value => v = .pointer (some ⟨b, 0, none⟩)) 3 (hall 3 (by decide)) rfl rfl
        obtain rfl : x56 = .pointer (some ⟨b, 1, none⟩) := hD.get (P := fun v : Value => v = .pointer (some ⟨b, 1, none⟩)) 4 (hall 4 (by decide)) rfl rfl
        obtain rfl : x57 = .slice (some ⟨b4, off4, none⟩) y.ty.cos.length cap2 := hD.get (P := fun v : Value => v = .slice (some ⟨b4, off4, none⟩) y.ty.cos.length cap2) 5 (hall 5 (by decide)) rfl rfl
        obtain rfl : x58 = .int .i64 i := hD.get (P := fun v : Value => v = .int .i64 i) 6 (hall 6 (by decide)) rfl rfl
        obtain rfl : x59 = .pointer (some ⟨b4, off4 + i * 3, none⟩) := hD.get (P := fun v : Value => v = .pointer (some ⟨b4, off4 + i * 3, none⟩)) 7 (hall 7 (by decide)) rfl rfl
        obtain rfl : x60 = .pointer (some ⟨b4, off4 + i * 3 + 2, none⟩) := hD.get (P := fun v : Value => v = .pointer (some ⟨b4, off4 + i * 3 + 2, none⟩)) 8 (hall 8 (by decide)) rfl rfl
        obtain rfl : x61 = .slice (some ⟨b5, o5, none⟩) y.ty.cos[i].map.length cap4 := hD.get (P := fun v : Value => v = .slice (some ⟨b5, o5, none⟩) y.ty.cos[i].map.length cap4) 9 (hall 9 (by decide)) rfl rfl
        obtain rfl : x62 = .pointer (some ⟨b, 0, none⟩) := hD.get (P := fun v : Value => v = .pointer (some ⟨b, 0, none⟩)) 10 (hall 10 (by decide)) rfl rfl
        obtain rfl : x63 = .int .i64 V := hD.get (P := fun v : Value => v = .int .i64 V) 11 (hall 11 (by decide)) rfl rfl
        obtain rfl : x64 = .pointer (some ⟨b5, o5 + V.toNat, none⟩) := hD.get (P := fun v : Value => v = .pointer (some ⟨b5, o5 + V.toNat, none⟩)) 12 (hall 12 (by decide)) rfl rfl
        obtain rfl : x65 = .int .i64 y.ty.cos[i].map[V.toNat] := hD.get (P := fun v : Value => v = .int .i64 y.ty.cos[i].map[V.toNat]) 13 (hall 13 (by decide)) rfl rfl
        obtain rfl : x5 = .int .i64 y.ty.cos[i].map[V.toNat] := hD.get (P := fun v : Value => v = .int .i64 y.ty.cos[i].map[V.toNat]) 14 (hall 14 (by decide)) rfl rfl
        have hW := hC.all (by intro j9 h9; exact hall _ (by revert j9; decide))
        clear hall hD hC
        obtain ⟨-, ⟨c8, hr8, ho8, ha8⟩, hk8⟩ := hW
        obtain ⟨qn, hqn⟩ : ∃ qn, qn = q + 3 + (mkT m).length := ⟨_, rfl⟩
        rw [← hqn] at hr8
        have c4 := hr8.cells.2.2.2.2.1
        have f4 := hr8.frozen 4
        have HR8 := Lib.hid hr8
        have HK8 := Lib.hid (HK1.out.trans (Own2.refl c w u1) hk8)
        have HA8 : Hid (Own2 c c8 w u) := Own2.trans (Own2.refl c w u1) HK1.out.size ha8 hk8.size
        have HO8 := Lib.hid ho8
        have Hqn := Lib.hid hqn
        have hqb : qn ≤ 400 := by
          have h1 := congrArg List.length HDR.out
          rw [List.length_drop, List.length_append, List.length_cons] at h1
          omega
        clear hr8 ho8 ha8 hk8 hqn HRN HLD HK1 HO1 HR1
        go_upto_region 21 with fail
        obtain ⟨u9, hu9⟩ : ∃ u9, u9 = u.setCell ⟨b, 4, none⟩ (.int .i64 ((qn : Int) + 1)) := ⟨_, rfl⟩
        rw [← hu9]
        obtain ⟨cl, hcl⟩ : ∃ cl, cl = cs ++ stM y m := ⟨_, rfl⟩
        rw [← hcl] at HO8
        have HRU : Hid (Rr lo hi b sv (.slice (some ⟨b4, off4, none⟩) y.ty.cos.length cap2) fv y L (qn + 1) c8 u9) := by show Rr _ _ _ _ _ _ _ _ _ _ _; rw [hu9]; exact HR8.out.go1
        have HKU : Hid (K2 b c w u9) := by show K2 _ _ _ _; rw [hu9]; exact HK8.out.keep (Keep.set7 b 4 _ _)
        have HOU : Hid (u9.ownsRow (b + 1) 3 1 c8 cl.length (cl.map (Value.int .i64))) := by show World.ownsRow _ _ _ _ _ _ _; rw [hu9]; exact own_keep HO8.out (Keep.set7 b 4 _ _) (by omega)
        have HAU : Hid (Own2 c c8 w u9) := by show Own2 _ _ _ _; rw [hu9]; exact HA8.out.grow (by simp [World.setCell])
        have hcll : cl.length ≤ 1000000 := by
          rw [hcl, List.length_append]
          have h1 := itM_len m
          have h2 : (stM y m).length = (itM m).length := by simp [stM]
          have h3 := HLN.out
          have h4 := Hqn.out
          omega
        have Hcl := Lib.hid hcl
        clear hu9 HR8 HK8 HA8 HO8 hcl c4 f4
        obtain ⟨Z, hZ⟩ : ∃ Z, Z = y.ty.cos[i].map[V.toNat] := ⟨_, rfl⟩
        rw [← hZ]
        have HZV : Hid (Z = valM y (.co i m)) := by show _ = _; rw [hZ, HVAL.out]
        clear hZ
        have hown := HOU.out
        obtain ⟨CA, CC, rfl⟩ := own_slice7 hown
        have hcge := fun g hg => (own_lt hown g hg).1
        have hclt := fun g hg => (own_lt hown g hg).2
        have c5 := HRU.out.cells.2.2.2.2.2
        have hblt := HRU.out.lt
        go_wp2_with (at_builtin; refine wpList_push rfl (.tmp 122) (.tmp 124) 22 rfl i0 (.int .i64 0) 8 Tryz.underlying22 hi0 hz0 hz1 hz2 rfl rfl (HOU.out.alloc _) ⟨u9.heap.size, 0, none⟩ 1 (.int .i64 Z) rfl (by simp [go_sem]) rfl (by unfold maxLen; omega) (by omega) (by simp; omega) ?_)
        intro c9 w9 hpu
        obtain ⟨g9, cap9, rfl⟩ := hpu.form
        have hs9 : u9.heap.size + 1 ≤ w9.heap.size := by have := hpu.grown.size; simpa using this
        have HR9 : Hid (Rr lo hi b sv (.slice (some ⟨b4, off4, none⟩) y.ty.cos.length cap2) fv y L (qn + 1) (.slice CA cl.length CC) w9) := HRU.out.keep fun k hk => (hpu.grown.block k (by simp; omega) fun e => by have := hcge k e.symm; omega).trans ((Below.refl _ _).alloc (Nat.le_refl _) (.cells #[.int .i64 Z] 3) |>.block k (by omega))
        have d5 := HR9.out.cells.2.2.2.2.2
        have f5 := HR9.out.frozen 5
        have HK9 : Hid (K2 b c w w9) := HKU.out.trans HAU.out ((((K2.refl b (.slice CA cl.length CC) u9).under ((Below.refl _ _).alloc (Nat.le_refl _) _))).grown hpu.grown)
        have HA9 : Hid (Own2 c (.slice (some ⟨g9, 0, none⟩) (cl.length + 1) cap9) w w9) := by
          refine Own2.trans HAU.out HKU.out.size ?_ (by omega)
          rcases hpu.at_ with e | ⟨g, e, h1, h2⟩
          · exact .inl e
          · exact .inr ⟨g, e, by simp at h1; omega, h2⟩
        have HO9 := Lib.hid hpu.own
        clear hpu c5 hown hcge hclt
        go_wp2
        go_ret
        have e9 : cl ++ [Z] = cs ++ stM y (.co i m) := by rw [Hcl.out, HZV.out]; simp only [stM, itM, List.map_append, List.append_assoc]; rfl
        refine ⟨ret_int HZV.out, ⟨.slice (some ⟨g9, 0, none⟩) (cl.length + 1) cap9, (HR9.out.setSteps _).at_ (by rw [HLN.out, Hqn.out]; omega), ?_, HA9.out.grow (by simp [World.setCell])⟩, HK9.out.keep (Keep.set7 b 5 _ _)⟩
        rw [← e9, List.length_append]
        have h9 : w9.ownsRow (b + 1) 3 1 (.slice (some ⟨g9, 0, none⟩) (cl.length + 1) cap9) (cl.length + 1) ((cl ++ [Z]).map (Value.int .i64)) := by rw [List.map_append]; exact HO9.out
        exact own_keep h9 (Keep.set7 b 5 _ _) (by omega)
    | .a0 i, hf, hok, hd => exact runAp8 lo hi b sv cv fv y hy L hL f HI.out (.a0 i) rfl q r c cs w hf hok h ho hd hcs
    | .a1 i m, hf, hok, hd => exact runAp8 lo hi b sv cv fv y hy L hL f HI.out (.a1 i m) rfl q r c cs w hf hok h ho hd hcs
    | .a2 i m p, hf, hok, hd => exact runAp8 lo hi b sv cv fv y hy L hL f HI.out (.a2 i m p) rfl q r c cs w hf hok h ho hd hcs
end Go.Proofs.YtdemcoghgnnheaaGreatDoor

