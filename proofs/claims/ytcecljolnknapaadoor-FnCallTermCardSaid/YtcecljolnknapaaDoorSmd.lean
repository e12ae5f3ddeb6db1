/-
  The contracts of the model's of, l6Some.
-/
import Derived.Test.YtcecljolnknapaaDoorDrw
import Derived.Test.YtcecljolnknapaaDoorStd
import Derived.Test.YtcecljolnknapaaDoorRinv
import Derived.Laws.DeepStrings4
namespace Go.Proofs.YtcecljolnknapaaDoor
open Go.RowKit

/-- What the slots hold of a region that draws its order, each by a predicate. -/
structure DetP (Ps : List (Value → Prop)) (f : Nat → Bool) (xs : List Value) : Prop where
  len : xs.length = Ps.length
  at_ : ∀ k x P, f k = true → xs[k]? = some x → Ps[k]? = some P → P x
theorem DetP.start {Ps : List (Value → Prop)} {xs : List Value} (h : xs.length = Ps.length) : DetP Ps (fun _ => false) xs := ⟨h, fun _ _ _ h => by cases h⟩
theorem DetP.step {Ps : List (Value → Prop)} {f : Nat → Bool} {xs : List Value} (h : DetP Ps f xs) (i : Nat) {v : Value} {P : Value → Prop} (hP : Ps[i]? = some P) (hv : P v) : DetP Ps (fun k => decide (k = i) || f k) (xs.set i v) := by
  refine ⟨by rw [List.length_set]; exact h.len, fun k x Q hk hx hQ => ?_⟩
  by_cases e : k = i
  · subst e
    have hl : k < xs.length := by rw [h.len]; exact (List.getElem?_eq_some_iff.1 hP).1
    rw [List.getElem?_set_self hl] at hx
    injection hx with hx
    subst hx
    rw [hP] at hQ
    injection hQ with hQ
    subst hQ
    exact hv
  · rw [List.getElem?_set_ne (fun e' => e e'.symm)] at hx
    exact h.at_ k x Q (by simpa [e] using hk) hx hQ
theorem DetP.get {Ps : List (Value → Prop)} {f : Nat → Bool} {xs : List Value} (h : DetP Ps f xs) (k : Nat) (hk : f k = true) {x : Value} {P : Value → Prop} (hx : xs[k]? = some x) (hP : Ps[k]? = some P) : P x := h.at_ k x P hk hx hP

theorem det_yes' {c : Bool} {A B : Prop} (h : c = true) (ha : A) : if c = true then A else B := by rw [if_pos h]; exact ha
/-- A slice of short texts that is no part of the source. -/
def Shorts (w : World) (N : Nat) (v : Value) : Prop := ∃ g, N ≤ g ∧ v = .slice (some ⟨g, 0, none⟩) 8 8 ∧ ∀ j, j < 8 → ∃ M : List UInt8, M.length ≤ 2 ∧ w.cell? ⟨g, j, none⟩ = some (.string (str M))
theorem Shorts.keep {w w' : World} {N b : Nat} {v : Value} (h : Shorts w N v) (hk : Keep b w w') (hb : b < N) : Shorts w' N v := by
  obtain ⟨g, hg, e, hc⟩ := h
  refine ⟨g, hg, e, fun j hj => ?_⟩
  obtain ⟨M, hM, hcell⟩ := hc j hj
  have hl := World.block_lt_of_cell? _ _ hcell
  exact ⟨M, hM, (World.cell?_of_block (w := w) (a := ⟨g, j, none⟩) (hk.block hl (by dsimp only; omega))).trans hcell⟩

set_option maxRecDepth 100000 in
set_option maxHeartbeats 1000000 in
theorem of_any (b B N : Nat) (v : Value) (w : World) (h : RdAt w b B) (hB : B ≤ 999999) (hv : Shorts w N v) (hb : b < N) :
    Calls Tryd.prog 68 #[.pointer (some ⟨b, 0, none⟩), v] w fun e w' => ∃ M : List UInt8, e = .returned (.string (str M)) ∧ M.length ≤ 2 ∧ RdAt w' b (B + 1) ∧ Keep b w w' := by
  have HV := Lib.hid hv
  have HR := Lib.hid h
  obtain ⟨g, hg, rfl, _⟩ := hv
  clear h
  go_enter Tryd.func68, Tryd.ntmps68
  go_wp2_with fail
  refine (pick_any b B 8 w HR.out (by omega) (by omega)).mono ?_
  rintro e w1 ⟨x, rfl, hx, _, hr, hgr, _⟩
  have hx8 := hx (by omega)
  have hk : Keep b w w1 := ⟨hgr⟩
  obtain ⟨g', _, e1, hc⟩ := HV.out.keep hk hb
  injection e1 with e1 _ _
  injection e1 with e1
  injection e1 with e1
  subst e1
  obtain ⟨M, hM, hcell⟩ := hc x (by omega)
  have HK := Lib.hid hk
  have HR1 := Lib.hid hr
  clear hx hr hgr hk hc
  go_wp2
  go_ret
  exact ⟨M, rfl, hM, HR1.out, HK.out⟩

def c5 (f : Nat → Bool) : Nat := (if f 5 = true then 1 else 0) + (if f 10 = true then 1 else 0)
theorem c5_other (f : Nat → Bool) (i : Nat) (h5 : i ≠ 5) (h10 : i ≠ 10) : c5 (fun k => decide (k = i) || f k) = c5 f := by
  have e5 : (decide (5 = i) || f 5) = f 5 := by rw [show decide (5 = i) = false by simp; omega]; rfl
  have e10 : (decide (10 = i) || f 10) = f 10 := by rw [show decide (10 = i) = false by simp; omega]; rfl
  show (if (decide (5 = i) || f 5) = true then 1 else 0) + (if (decide (10 = i) || f 10) = true then 1 else 0) = _
  rw [e5, e10]
  rfl
theorem c5_five (f : Nat → Bool) (h : f 5 = false) : c5 (fun k => decide (k = 5) || f k) = c5 f + 1 := by
  unfold c5
  simp [h]
  omega
theorem c5_ten (f : Nat → Bool) (h : f 10 = false) : c5 (fun k => decide (k = 10) || f k) = c5 f + 1 := by
  unfold c5
  simp [h]
theorem c5_le (f : Nat → Bool) : c5 f ≤ 2 := by unfold c5; split <;> split <;> omega
theorem sliceLow (s : ByteArray) (j : Nat) (hj : j ≤ s.size) (w : World) : (Instr.slice 9 (.string s) none (some (.int .i64 (j : Int))) none).run Tryd.prog w = .ok (.string (s.extract 0 j)) w := by
  simp [Instr.slice, Instr.sliceBounds, Instr.sliceBound, asIntOf, run_underlying Tryd.underlying9, hj]
theorem sliceHigh (s : ByteArray) (j : Nat) (hj : j ≤ s.size) (w : World) : (Instr.slice 9 (.string s) (some (.int .i64 (j : Int))) none none).run Tryd.prog w = .ok (.string (s.extract j s.size)) w := by
  simp [Instr.slice, Instr.sliceBounds, Instr.sliceBound, asIntOf, run_underlying Tryd.underlying9, hj]
theorem strTake (L : List UInt8) (j : Nat) : (str L).extract 0 j = str (L.take j) := by
  apply ByteArray.ext
  simp [str, ByteArray.data_extract, List.extract_eq_take_drop]
theorem strDrop (L : List UInt8) (j : Nat) : (str L).extract j (str L).size = str (L.drop j) := by
  apply ByteArray.ext
  rw [str_size]
  simp [str, ByteArray.data_extract, List.extract_eq_take_drop]
  rw [List.take_of_length_le (by rw [List.length_drop]; omega)]

set_option maxRecDepth 100000 in
set_option maxHeartbeats 4000000 in
theorem some_any (b B : Nat) (w : World) (h : RdAt w b B) (hB : B ≤ 800000) :
    Calls Tryd.prog 66 #[.pointer (some ⟨b, 0, none⟩)] w fun e w' => ∃ M : List UInt8, e = .returned (.string (str M)) ∧ M.length ≤ 122 ∧ RdAt w' b (B + 200) ∧ Keep b w w' := by
  have HR := Lib.hid h
  have hblt := h.lt
  clear h
  go_enter Tryd.func66, Tryd.ntmps66
  go_wp2_with fail
  refine (pick_any b B 4 w HR.out (by omega) (by omega)).mono ?_
  rintro e w1 ⟨d, rfl, hd, _, hr, hg, _⟩
  have hd := hd (by omega)
  have R1 := Lib.hid hr
  have K1 : Hid (Keep b w w1) := ⟨hg⟩
  clear hr hg HR
  have hcd : cntD d ≤ 120 := by unfold cntD; have : 2 ^ d ≤ 2 ^ 3 := Nat.pow_le_pow_right (by decide) (by omega); omega
  have hld : lenD d ≤ 60 := by unfold lenD; have : 2 ^ d ≤ 2 ^ 3 := Nat.pow_le_pow_right (by decide) (by omega); omega
  go_wp2_with fail
  refine (draw_any b 3 (by decide) (by decide) d (B + 1) w1 (by omega) (by omega) R1.out).mono ?_
  rintro e w2 ⟨s, rfl, hs3, hsl, hr, hk⟩
  have R2 := Lib.hid (hr.more (B' := B + 130) (by omega))
  have K2 := Lib.hid (K1.out.trans hk)
  have hsz := str_size s
  clear hr hk R1 K1
  go_wp2_with fail
  refine (pick_any b (B + 130) 10 w2 R2.out (by omega) (by omega)).mono ?_
  rintro e w3 ⟨x, rfl, hx, _, hr, hg, _⟩
  have hx := hx (by omega)
  have R3 := Lib.hid hr
  have K3 : Hid (Keep b w w3) := K2.out.trans ⟨hg⟩
  clear hr hg R2 K2
  by_cases hx0 : (0 : Int) < (x : Int)
  · go_wp2
    go_ret
    exact ⟨s, rfl, by omega, R3.out.more (by omega), K3.out⟩
  · go_wp2_with fail
    refine (pick_any b (B + 130 + 1) (s.length : Int) w3 R3.out (by omega) (by omega)).mono ?_
    rintro e w4 ⟨k, rfl, hk, _, hr, hg, _⟩
    have hk := hk (by omega)
    have R4 := Lib.hid hr
    have K4 : Hid (Keep b w w4) := K3.out.trans ⟨hg⟩
    clear hr hg R3 K3
    have hs4 := K4.out.size
    have hs1 : ∀ w : World, (Instr.slice 9 (.string (str s)) none (some (.int .i64 (k : Int))) none).run Tryd.prog w = .ok (.string (str (s.take k))) w := fun w => by rw [sliceLow (str s) k (by rw [hsz]; omega) w, strTake]
    have hs2 : Hid (∀ (z : Nat) (w : World), z ≤ s.length → (Instr.slice 9 (.string (str s)) (some (.int .i64 (z : Int))) none none).run Tryd.prog w = .ok (.string (str (s.drop z))) w) := fun z w hz => by rw [sliceHigh (str s) z (by rw [hsz]; exact hz) w, strDrop]
    go_wp2_with fail
    obtain ⟨T, hT⟩ : ∃ T, T = s.take k := ⟨_, rfl⟩
    have hTl : T.length ≤ 60 := by rw [hT, List.length_take]; omega
    rw [← hT] at hs1
    clear hT
    have R4d : Hid (RdAt w4.drew b (B + 132)) := (R4.out.more (by omega)).under ((Below.refl _ _).drew)
    refine wp_region_inv (by kernel_rfl) (fun dn a u => ∃ x2 x17 x18 x19 x20 x21 x22 x23 x24 x25 x26 x27 x28 x29 x30, a = ⟨#[.pointer (some ⟨b, 0, none⟩), undef, x2, .string (str s), .int .i64 k, .pointer (some ⟨b, 0, none⟩), .pointer (some ⟨b, 0, none⟩), .int .i64 d, .string (str s), .pointer (some ⟨b, 0, none⟩), .int .i64 x, .bool false, undef, .pointer (some ⟨b, 0, none⟩), .string (str s), .int .i64 s.length, .int .i64 k, x17, x18, x19, x20, x21, x22, x23, x24, x25, x26, x27, x28, x29, x30], []⟩ ∧ DetP [fun v : Value => v = .string (str s), fun v => v = .int .i64 (k : Int), fun v => v = .string (str T), fun v => v = .pointer (some ⟨b, 0, none⟩), fun _ => True, fun v => ∃ M : List UInt8, M.length ≤ 2 ∧ v = .string (str M), fun v => ∃ M : List UInt8, M.length ≤ 62 ∧ v = .string (str M), fun v => v = .string (str s), fun v => v = .int .i64 (k : Int), fun v => v = .pointer (some ⟨b, 0, none⟩), fun v => ∃ y : Nat, y ≤ 1 ∧ v = .int .i64 (y : Int), fun v => ∃ z : Nat, z ≤ k + 1 ∧ v = .int .i64 (z : Int), fun v => ∃ M : List UInt8, M.length ≤ 60 ∧ v = .string (str M), fun v => ∃ M : List UInt8, M.length ≤ 122 ∧ v = .string (str M), fun v => ∃ M : List UInt8, M.length ≤ 122 ∧ v = .string (str M)] dn [x17, x18, x19, x20, x21, x22, x23, x24, x25, x26, x27, x28, x29, x30, x2] ∧ RdAt u b (B + 132 + c5 dn) ∧ Keep b w4 u ∧ (dn 4 = true → Shorts u w4.heap.size x21)) (of_decide_eq_true (by kernel_rfl)) ⟨.string ⟨#[]⟩, undef, undef, undef, undef, undef, undef, undef, undef, undef, undef, undef, undef, undef, undef, rfl, DetP.start rfl, by rw [show c5 (fun _ => false) = 0 from rfl]; exact R4d.out, Keep.of_below (Keep.refl b w4) (Below.refl _ _).drew, fun h => by cases h⟩ ?_ ?_
    · rintro dn a u i o ho hfi hdep ⟨x2, x17, x18, x19, x20, x21, x22, x23, x24, x25, x26, x27, x28, x29, x30, rfl, hD, hR, hKp, hS⟩
      have hil : i < 15 := by have := (Array.getElem?_eq_some_iff.1 ho).1; simpa using this
      obtain rfl | rfl | rfl | rfl | rfl | rfl | rfl | rfl | rfl | rfl | rfl | rfl | rfl | rfl | rfl : i = 0 ∨ i = 1 ∨ i = 2 ∨ i = 3 ∨ i = 4 ∨ i = 5 ∨ i = 6 ∨ i = 7 ∨ i = 8 ∨ i = 9 ∨ i = 10 ∨ i = 11 ∨ i = 12 ∨ i = 13 ∨ i = 14 := by omega
      all_goals
        obtain rfl := Option.some.inj ho
        refine wpOp_step ho fun K hK => ?_
        simp [Region.binds] at hdep
        clear ho
      · refine det_yes' rfl ?_
        have HD := Lib.hid hD
        have HR := Lib.hid hR
        have HK := Lib.hid hKp
        have HS := Lib.hid hS
        clear hD hR hKp hS
        unfold Oper.wp
        go_simp
        exact hK _ _ ⟨_, _, _, _, _, _, _, _, _, _, _, _, _, _, _, rfl, HD.out.step 0 rfl (rfl), by rw [c5_other _ 0 (by decide) (by decide)]; exact HR.out, HK.out, fun h => HS.out (by simpa using h)⟩
      · refine det_yes' rfl ?_
        have HD := Lib.hid hD
        have HR := Lib.hid hR
        have HK := Lib.hid hKp
        have HS := Lib.hid hS
        clear hD hR hKp hS
        unfold Oper.wp
        go_simp
        exact hK _ _ ⟨_, _, _, _, _, _, _, _, _, _, _, _, _, _, _, rfl, HD.out.step 1 rfl (rfl), by rw [c5_other _ 1 (by decide) (by decide)]; exact HR.out, HK.out, fun h => HS.out (by simpa using h)⟩
      · obtain rfl : x17 = .string (str s) := hD.get (P := fun v => v = .string (str s)) 0 (by simp [hdep]) rfl rfl
        obtain rfl : x18 = .int .i64 (k : Int) := hD.get (P := fun v => v = .int .i64 (k : Int)) 1 (by simp [hdep]) rfl rfl
        refine det_yes' rfl ?_
        have HD := Lib.hid hD
        have HR := Lib.hid hR
        have HK := Lib.hid hKp
        have HS := Lib.hid hS
        clear hD hR hKp hS
        unfold Oper.wp
        go_simp
        exact hK _ _ ⟨_, _, _, _, _, _, _, _, _, _, _, _, _, _, _, rfl, HD.out.step 2 rfl (rfl), by rw [c5_other _ 2 (by decide) (by decide)]; exact HR.out, HK.out, fun h => HS.out (by simpa using h)⟩
      · refine det_yes' rfl ?_
        have HD := Lib.hid hD
        have HR := Lib.hid hR
        have HK := Lib.hid hKp
        have HS := Lib.hid hS
        clear hD hR hKp hS
        unfold Oper.wp
        go_simp
        exact hK _ _ ⟨_, _, _, _, _, _, _, _, _, _, _, _, _, _, _, rfl, HD.out.step 3 rfl (rfl), by rw [c5_other _ 3 (by decide) (by decide)]; exact HR.out, HK.out, fun h => HS.out (by simpa using h)⟩
      · refine det_yes' rfl ?_
        have hus := hKp.size
        have HD := Lib.hid hD
        have HR := Lib.hid hR
        have HK := Lib.hid hKp
        have HS := Lib.hid hS
        clear hD hR hKp hS
        unfold Oper.wp
        go_simp
        have hal : Below u.heap.size u (u.alloc (.cells #[.string ⟨#[]⟩, .string ⟨#[48]⟩, .string ⟨#[58]⟩, .string ⟨#[40]⟩, .string ⟨#[41]⟩, .string ⟨#[44]⟩, .string ⟨#[102, 40]⟩, .string ⟨#[101]⟩] 9)) := (Below.refl _ _).alloc (Nat.le_refl _) _
        exact hK _ _ ⟨_, _, _, _, _, _, _, _, _, _, _, _, _, _, _, rfl, HD.out.step 4 rfl trivial, by rw [c5_other _ 4 (by decide) (by decide)]; exact HR.out.under hal, HK.out.of_below hal, fun _ => ⟨u.heap.size, hus, rfl, fun j hj => by
                  have hrow := Row.new u 9 [.string ⟨#[]⟩, .string ⟨#[48]⟩, .string ⟨#[58]⟩, .string ⟨#[40]⟩, .string ⟨#[41]⟩, .string ⟨#[44]⟩, .string ⟨#[102, 40]⟩, .string ⟨#[101]⟩]
                  match j, hj with
                  | 0, _ => exact ⟨[], by simp, hrow.cell 0⟩
                  | 1, _ => exact ⟨[48], by simp, hrow.cell 1⟩
                  | 2, _ => exact ⟨[58], by simp, hrow.cell 2⟩
                  | 3, _ => exact ⟨[40], by simp, hrow.cell 3⟩
                  | 4, _ => exact ⟨[41], by simp, hrow.cell 4⟩
                  | 5, _ => exact ⟨[44], by simp, hrow.cell 5⟩
                  | 6, _ => exact ⟨[102, 40], by simp, hrow.cell 6⟩
                  | 7, _ => exact ⟨[101], by simp, hrow.cell 7⟩⟩⟩
      · obtain rfl : x20 = .pointer (some ⟨b, 0, none⟩) := hD.get (P := fun v => v = .pointer (some ⟨b, 0, none⟩)) 3 (by simp [hdep]) rfl rfl
        have hs := Lib.hid (hS (by simp [hdep]))
        refine det_yes' rfl ?_
        have hc := c5_le dn
        have HD := Lib.hid hD
        have HR := Lib.hid hR
        have HK := Lib.hid hKp
        have HS := Lib.hid hS
        clear hD hR hKp hS
        unfold Oper.wp
        go_simp
        refine (of_any b (B + 132 + c5 dn) w4.heap.size _ u HR.out (by omega) hs.out (by omega)).mono ?_
        rintro e u2 ⟨M, rfl, hM, hr, hk2⟩
        exact hK _ _ ⟨_, _, _, _, _, _, _, _, _, _, _, _, _, _, _, rfl, HD.out.step 5 rfl ⟨M, hM, rfl⟩, by rw [c5_five _ hfi, ← Nat.add_assoc]; exact hr, HK.out.trans hk2, fun _ => hs.out.keep hk2 (by omega)⟩
      · obtain rfl : x19 = .string (str T) := hD.get (P := fun v => v = .string (str T)) 2 (by simp [hdep]) rfl rfl
        obtain ⟨M, hM, rfl⟩ : ∃ M : List UInt8, M.length ≤ 2 ∧ x22 = .string (str M) := hD.get 5 (by simp [hdep]) rfl rfl
        refine det_yes' rfl ?_
        obtain ⟨La, la⟩ : ∃ L, L = T ++ M := ⟨_, rfl⟩
        have s1 : str T ++ str M = str La := by rw [la]; exact str_append _ _
        have n1 : ¬ 9223372036854775807 < (str T).size + (str M).size := by rw [str_size, str_size]; omega
        have la2 : La.length ≤ 62 := by rw [la, List.length_append]; omega
        clear la
        have HD := Lib.hid hD
        have HR := Lib.hid hR
        have HK := Lib.hid hKp
        have HS := Lib.hid hS
        clear hD hR hKp hS
        unfold Oper.wp
        go_simp
        exact hK _ _ ⟨_, _, _, _, _, _, _, _, _, _, _, _, _, _, _, rfl, HD.out.step 6 rfl (⟨La, la2, rfl⟩), by rw [c5_other _ 6 (by decide) (by decide)]; exact HR.out, HK.out, fun h => HS.out (by simpa using h)⟩
      · refine det_yes' rfl ?_
        have HD := Lib.hid hD
        have HR := Lib.hid hR
        have HK := Lib.hid hKp
        have HS := Lib.hid hS
        clear hD hR hKp hS
        unfold Oper.wp
        go_simp
        exact hK _ _ ⟨_, _, _, _, _, _, _, _, _, _, _, _, _, _, _, rfl, HD.out.step 7 rfl (rfl), by rw [c5_other _ 7 (by decide) (by decide)]; exact HR.out, HK.out, fun h => HS.out (by simpa using h)⟩
      · refine det_yes' rfl ?_
        have HD := Lib.hid hD
        have HR := Lib.hid hR
        have HK := Lib.hid hKp
        have HS := Lib.hid hS
        clear hD hR hKp hS
        unfold Oper.wp
        go_simp
        exact hK _ _ ⟨_, _, _, _, _, _, _, _, _, _, _, _, _, _, _, rfl, HD.out.step 8 rfl (rfl), by rw [c5_other _ 8 (by decide) (by decide)]; exact HR.out, HK.out, fun h => HS.out (by simpa using h)⟩
      · refine det_yes' rfl ?_
        have HD := Lib.hid hD
        have HR := Lib.hid hR
        have HK := Lib.hid hKp
        have HS := Lib.hid hS
        clear hD hR hKp hS
        unfold Oper.wp
        go_simp
        exact hK _ _ ⟨_, _, _, _, _, _, _, _, _, _, _, _, _, _, _, rfl, HD.out.step 9 rfl (rfl), by rw [c5_other _ 9 (by decide) (by decide)]; exact HR.out, HK.out, fun h => HS.out (by simpa using h)⟩
      · obtain rfl : x26 = .pointer (some ⟨b, 0, none⟩) := hD.get (P := fun v => v = .pointer (some ⟨b, 0, none⟩)) 9 (by simp [hdep]) rfl rfl
        refine det_yes' rfl ?_
        have hc := c5_le dn
        have HD := Lib.hid hD
        have HR := Lib.hid hR
        have HK := Lib.hid hKp
        have HS := Lib.hid hS
        clear hD hR hKp hS
        unfold Oper.wp
        go_simp
        refine (pick_any b (B + 132 + c5 dn) 2 u HR.out (by omega) (by omega)).mono ?_
        rintro e u2 ⟨y, rfl, hy, _, hr, hg2, _⟩
        have hy := hy (by omega)
        have hk2 : Keep b u u2 := ⟨hg2⟩
        exact hK _ _ ⟨_, _, _, _, _, _, _, _, _, _, _, _, _, _, _, rfl, HD.out.step 10 rfl ⟨y, by omega, rfl⟩, by rw [c5_ten _ hfi, ← Nat.add_assoc]; exact hr, HK.out.trans hk2, fun h => (HS.out (by simpa using h)).keep hk2 (by omega)⟩
      · obtain rfl : x25 = .int .i64 (k : Int) := hD.get (P := fun v => v = .int .i64 (k : Int)) 8 (by simp [hdep]) rfl rfl
        obtain ⟨y, hy, rfl⟩ : ∃ y : Nat, y ≤ 1 ∧ x27 = .int .i64 (y : Int) := hD.get 10 (by simp [hdep]) rfl rfl
        refine det_yes' rfl ?_
        have hw : IntKind.i64.wrap ((k : Int) + (y : Int)) = (k : Int) + (y : Int) := by rw [IntKind.wrap_i64]; omega
        have HD := Lib.hid hD
        have HR := Lib.hid hR
        have HK := Lib.hid hKp
        have HS := Lib.hid hS
        clear hD hR hKp hS
        unfold Oper.wp
        go_simp
        exact hK _ _ ⟨_, _, _, _, _, _, _, _, _, _, _, _, _, _, _, rfl, HD.out.step 11 rfl (⟨k + y, by omega, by simp⟩), by rw [c5_other _ 11 (by decide) (by decide)]; exact HR.out, HK.out, fun h => HS.out (by simpa using h)⟩
      · obtain rfl : x24 = .string (str s) := hD.get (P := fun v => v = .string (str s)) 7 (by simp [hdep]) rfl rfl
        obtain ⟨z, hz, rfl⟩ : ∃ z : Nat, z ≤ k + 1 ∧ x28 = .int .i64 (z : Int) := hD.get 11 (by simp [hdep]) rfl rfl
        refine det_yes' rfl ?_
        have hsl2 := fun w => hs2.out z w (by omega)
        have HD := Lib.hid hD
        have HR := Lib.hid hR
        have HK := Lib.hid hKp
        have HS := Lib.hid hS
        clear hD hR hKp hS
        unfold Oper.wp
        go_simp
        exact hK _ _ ⟨_, _, _, _, _, _, _, _, _, _, _, _, _, _, _, rfl, HD.out.step 12 rfl (⟨s.drop z, by rw [List.length_drop]; omega, rfl⟩), by rw [c5_other _ 12 (by decide) (by decide)]; exact HR.out, HK.out, fun h => HS.out (by simpa using h)⟩
      · obtain ⟨M, hM, rfl⟩ : ∃ M : List UInt8, M.length ≤ 62 ∧ x23 = .string (str M) := hD.get 6 (by simp [hdep]) rfl rfl
        obtain ⟨M2, hM2, rfl⟩ : ∃ M2 : List UInt8, M2.length ≤ 60 ∧ x29 = .string (str M2) := hD.get 12 (by simp [hdep]) rfl rfl
        refine det_yes' rfl ?_
        obtain ⟨La, la⟩ : ∃ L, L = M ++ M2 := ⟨_, rfl⟩
        have s1 : str M ++ str M2 = str La := by rw [la]; exact str_append _ _
        have n1 : ¬ 9223372036854775807 < (str M).size + (str M2).size := by rw [str_size, str_size]; omega
        have la2 : La.length ≤ 122 := by rw [la, List.length_append]; omega
        clear la
        have HD := Lib.hid hD
        have HR := Lib.hid hR
        have HK := Lib.hid hKp
        have HS := Lib.hid hS
        clear hD hR hKp hS
        unfold Oper.wp
        go_simp
        exact hK _ _ ⟨_, _, _, _, _, _, _, _, _, _, _, _, _, _, _, rfl, HD.out.step 13 rfl (⟨La, la2, rfl⟩), by rw [c5_other _ 13 (by decide) (by decide)]; exact HR.out, HK.out, fun h => HS.out (by simpa using h)⟩
      · obtain ⟨M, hM, rfl⟩ : ∃ M : List UInt8, M.length ≤ 122 ∧ x30 = .string (str M) := hD.get 13 (by simp [hdep]) rfl rfl
        refine det_yes' rfl ?_
        have HD := Lib.hid hD
        have HR := Lib.hid hR
        have HK := Lib.hid hKp
        have HS := Lib.hid hS
        clear hD hR hKp hS
        unfold Oper.wp
        go_simp
        exact hK _ _ ⟨_, _, _, _, _, _, _, _, _, _, _, _, _, _, _, rfl, HD.out.step 14 rfl (⟨M, hM, rfl⟩), by rw [c5_other _ 14 (by decide) (by decide)]; exact HR.out, HK.out, fun h => HS.out (by simpa using h)⟩
    · rintro dn a u hall ⟨x2, x17, x18, x19, x20, x21, x22, x23, x24, x25, x26, x27, x28, x29, x30, rfl, hD, hR, hKp, _⟩
      obtain ⟨M, hM, rfl⟩ : ∃ M : List UInt8, M.length ≤ 122 ∧ x2 = .string (str M) := hD.get 14 (hall 14 (by decide)) rfl rfl
      have hc := c5_le dn
      have HR5 := Lib.hid (hR.more (B' := B + 200) (by omega))
      have HK5 := Lib.hid (K4.out.trans hKp)
      clear hD hR hKp hall hc
      go_wp2
      go_ret
      exact ⟨M, rfl, hM, HR5.out, HK5.out⟩
end Go.Proofs.YtcecljolnknapaaDoor
