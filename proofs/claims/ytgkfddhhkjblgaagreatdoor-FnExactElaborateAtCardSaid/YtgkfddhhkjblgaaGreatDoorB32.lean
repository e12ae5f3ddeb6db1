/-
  The contracts of the program's elaboratedAt, ElaborateAt.
-/
import Derived.Test.YtgkfddhhkjblgaaGreatDoorB30
namespace Go.Proofs.YtgkfddhhkjblgaaGreatDoor
open Go.RowKit Go.Shelf

/-- What is made of a text with a type, or the word for why nothing is. -/
noncomputable def elAZ (y : Sy) (L : List UInt8) (z : Int) : Except ByteArray Mk := match elZ y L with
  | .ok m => if canC y.ty (kindM y m) z = true then (if (mkT (coM (shortV y.ty (kindM y m) z) m)).length ≤ 400 then .ok (coM (shortV y.ty (kindM y m) z) m) else .error wLong) else .error wNone
  | .error wd => .error wd
noncomputable def elA (y : Sy) (L : List UInt8) (z : Int) : List UInt8 × ByteArray := match elAZ y L z with
  | .ok m => (mkT m, wOk)
  | .error wd => ([], wd)
def ElAPost (y : Sy) (L : List UInt8) (z : Int) (A : List Addr) (wd : Addr → ByteArray) (w : World) (e : Ending) (w' : World) : Prop :=
  ((∃ m o, elAZ y L z = .ok m ∧ MkOk y m ∧ e = .returned (.tuple #[o, .nilIface]) ∧ MNodeAt w' w.heap.size m o) ∨ (∃ a e0, elAZ y L z = .error (wd a) ∧ e = .returned (.tuple #[.nilIface, e0]) ∧ ErCh a e0 ∧ a ∈ A)) ∧ Below w.heap.size w w'
theorem elAZ_ok {y : Sy} {L : List UInt8} {z : Int} {m : Mk} (h : elAZ y L z = .ok m) : MkOk y m ∧ (mkT m).length ≤ 400 := by
  unfold elAZ at h
  split at h
  · rename_i m' hz
    obtain ⟨hy, hmok, hl⟩ := elZ_ok hz
    split at h
    · rename_i hc
      split at h
      · rename_i hl2
        injection h with h
        subst h
        exact ⟨(coM_ok (tyOk_few hy.ty) _ _ hmok (shortV_end hc)).1, hl2⟩
      · cases h
    · cases h
  · cases h
def idV : Value → Value
  | .tuple cs => .tuple cs
  | v => v
/-- The first of two results. -/
def fstT : Value → Value
  | .tuple #[v, _] => v
  | v => v
theorem fstT_t (v b : Value) : fstT (.tuple #[v, b]) = v := rfl
theorem idV_t (cs : Array Value) : idV (.tuple cs) = .tuple cs := rfl
/-- What holds in the region that calls kindIn, and then ShortestWay, whose result is x. -/
def W4 (b : World) (x : Value) (t : Bool) (N : List Value) : Nat → World → Prop
  | 0, u => Below b.heap.size b u
  | 1, u => Below b.heap.size b u
  | _ + 2, u => Below b.heap.size b u ∧ ∃ v N0, x = .tuple #[v, .bool t] ∧ u.ownsRow N0 3 1 v N.length N
theorem W4.low {b u : World} {x : Value} {t : Bool} {N : List Value} : ∀ {j : Nat}, W4 b x t N j u → Below b.heap.size b u
  | 0, h => h
  | 1, h => h
  | _ + 2, h => h.1
theorem DetQ.change {Ps Qs : List (Value → Prop)} {f : Nat → Bool} {xs : List Value} (h : DetQ Ps f xs) (hl : Qs.length = Ps.length) (he : ∀ k, f k = true → Qs[k]? = Ps[k]?) : DetQ Qs f xs :=
  ⟨h.len.trans hl.symm, fun k x P hk hx hP => h.at_ k x P hk hx ((he k hk) ▸ hP)⟩

set_option maxRecDepth 100000 in
set_option maxHeartbeats 1000000 in
theorem elabAt_any (lo hi n : Nat) (a aU aN aW aM aL : Addr) (sv cv fv : Value) (y : Sy) (hbk : y.bulk ≤ 1048576) (L : List UInt8) (z : Int) (hz64 : I64 z) (w : World) (hv : SyAt w lo hi sv cv fv y) (hB : hi ≤ w.heap.size) (he : Ev w n a) (hE : Er5 w n aU aN aW aM aL) (hn : n ≤ w.heap.size) (hm : L.length ≤ 1048576) :
    Calls Tryz.prog 48 #[.agg #[sv, cv, fv], .string (str L), .int .i64 z] w fun e w' => ElAPost y L z [aU, aN, aW, aM, aL] (wordV aN aW aM aL) w e w' := by
  obtain ⟨A1, cap1, rfl, _, _, _⟩ := hv.1.1.form
  obtain ⟨A2, cap2, rfl, _, _, _⟩ := hv.1.2.form
  obtain ⟨A3, cap3, rfl, _, _, _⟩ := hv.2.form
  have hb1 : Below w.heap.size w (w.alloc (.cells #[.slice A1 y.ty.sizes.length cap1, .slice A2 y.ty.cos.length cap2, .slice A3 y.fs.length cap3] 37)) := (Below.refl _ _).alloc (Nat.le_refl _) _
  have hs1 : w.heap.size < (w.alloc (.cells #[.slice A1 y.ty.sizes.length cap1, .slice A2 y.ty.cos.length cap2, .slice A3 y.fs.length cap3] 37)).heap.size := by rw [World.size_alloc]; omega
  have HC := Lib.hid (elaborated_any lo hi n a aU aN aW aM aL _ _ _ y hbk L _ (hv.below hb1 hB) (Nat.le_trans hB (Nat.le_of_lt hs1)) (he.keep (b := w.heap.size) ((Keep.refl _ _).of_below hb1) hn) (hE.below hb1 hn) (Nat.le_trans hn (Nat.le_of_lt hs1)) hm)
  have HR1 := Lib.hid (Row.new w 37 [.slice A1 y.ty.sizes.length cap1, .slice A2 y.ty.cos.length cap2, .slice A3 y.fs.length cap3])
  have p0 := HR1.out.cell 0
  have p1 := HR1.out.cell 1
  have p2 := HR1.out.cell 2
  simp only [List.getElem?_cons_zero, List.getElem?_cons_succ] at p0 p1 p2
  have HB1 := Lib.hid hb1
  have HV := Lib.hid hv
  have HE := Lib.hid hE
  have Hs1 := Lib.hid hs1
  have HZ64 := Lib.hid hz64
  clear hv hE he hb1 hs1 hz64
  go_enter Tryz.func48, Tryz.ntmps48
  go_wp2_with fail
  refine HC.out.mono ?_
  clear HC p0 p1 p2
  rintro e w2 ⟨⟨m, o, hz, rfl, hno⟩ | ⟨ae, e0, hz, rfl, hch, hae⟩, hb2⟩
  · have HB2 := Lib.hid (HB1.out.trans (hb2.mono (Nat.le_of_lt Hs1.out)))
    have hr2 := HR1.out.below hb2 Hs1.out
    have hwl : w.heap.size < w2.heap.size := Nat.lt_of_lt_of_le Hs1.out hb2.size
    obtain ⟨hy, hmok, hl4⟩ := elZ_ok hz
    have hki := kindM_in hy hmok
    have h5 := (sizesOk_of (tyOk_sizes hy.ty)).2.1
    have hk64 : I64 (kindM y m) := by unfold I64; omega
    have HAZ : Hid (elAZ y L z = if canC y.ty (kindM y m) z = true then (if (mkT (coM (shortV y.ty (kindM y m) z) m)).length ≤ 400 then .ok (coM (shortV y.ty (kindM y m) z) m) else .error wLong) else .error wNone) := by show _ = _; unfold elAZ; rw [hz]
    obtain ⟨T, x, fid, rfl, hmeth, hnil, hent, hkd⟩ := hno.kind hmok
    have HKD : Hid (∀ u : World, Below w2.heap.size w2 u → Calls Tryz.prog fid #[x, .agg #[.slice A1 y.ty.sizes.length cap1, .slice A2 y.ty.cos.length cap2, .slice A3 y.fs.length cap3]] u fun e w' => e = .returned (.int .i64 (kindM y m)) ∧ Below u.heap.size u w') := fun u hu => hkd lo hi _ _ _ u (HV.out.below (HB2.out.trans (hu.mono (Nat.le_of_lt hwl))) hB) (Nat.le_trans hB (HB2.out.trans (hu.mono (Nat.le_of_lt hwl))).size)
    have HSW : Hid (∀ u : World, Below w2.heap.size w2 u → Calls Tryz.prog 86 #[.agg #[.slice A1 y.ty.sizes.length cap1, .slice A2 y.ty.cos.length cap2], .int .i64 (kindM y m), .int .i64 z] u fun e w' => ∃ v, e = .returned (.tuple #[v, .bool (canC y.ty (kindM y m) z)]) ∧ Below u.heap.size u w' ∧ w'.ownsRow u.heap.size 3 1 v (shortV y.ty (kindM y m) z).length ((shortV y.ty (kindM y m) z).map (Value.int .i64))) := fun u hu =>
      implShort_any lo hi _ _ y.ty (kindM y m) z u (HV.out.below (HB2.out.trans (hu.mono (Nat.le_of_lt hwl))) hB).1 (Nat.le_trans hB (HB2.out.trans (hu.mono (Nat.le_of_lt hwl))).size) hk64 HZ64.out
    have HLD : Hid (∀ u : World, Below w2.heap.size w2 u → u.cell? ⟨w.heap.size, 0, none⟩ = some (.slice A1 y.ty.sizes.length cap1) ∧ u.cell? ⟨w.heap.size, 1, none⟩ = some (.slice A2 y.ty.cos.length cap2) ∧ u.cell? ⟨w.heap.size, 2, none⟩ = some (.slice A3 y.fs.length cap3)) := fun u hu => ⟨(hr2.below hu hwl).cell 0, (hr2.below hu hwl).cell 1, (hr2.below hu hwl).cell 2⟩
    have HST : Hid (Below w2.heap.size w2 w2.drew) := (Below.refl _ _).drew
    have HNO := Lib.hid hno
    have HMOK := Lib.hid hmok
    have HY := Lib.hid hy
    have Hwl := Lib.hid hwl
    obtain ⟨KD, hKD⟩ : ∃ k, k = kindM y m := ⟨_, rfl⟩
    rw [← hKD] at HKD HSW HAZ
    have HKD2 := Lib.hid hKD
    obtain ⟨zs, hzs⟩ : ∃ zs, zs = shortV y.ty KD z := ⟨_, rfl⟩
    rw [← hzs] at HSW HAZ
    have HZS := Lib.hid hzs
    obtain ⟨cb, hcb⟩ : ∃ b, b = canC y.ty KD z := ⟨_, rfl⟩
    rw [← hcb] at HSW HAZ
    have HCB := Lib.hid hcb
    have HL4 := Lib.hid hl4
    clear hb2 hr2 hz hno hmok hkd hy hki h5 hk64 hKD hzs hcb hl4
    go_upto_region 4 with fail
    refine wp_region_inv (by kernel_rfl) (fun dn ac u => ∃ x22 x23 x24 x25 x26 x27 x28 x21 x29 x30 x10 x11, ac = ⟨List.toArray (.agg #[.slice A1 y.ty.sizes.length cap1, .slice A2 y.ty.cos.length cap2, .slice A3 y.fs.length cap3] :: .string (str L) :: .int .i64 z :: .pointer (some ⟨w.heap.size, 0, none⟩) :: undef :: undef :: .nilIface :: .nilIface :: .iface T x :: .nilIface :: x10 :: x11 :: .tuple #[.iface T x, .nilIface] :: .agg #[.slice A1 y.ty.sizes.length cap1, .slice A2 y.ty.cos.length cap2, .slice A3 y.fs.length cap3] :: .string (str L) :: .tuple #[.iface T x, .nilIface] :: .iface T x :: .nilIface :: .nilIface :: .bool false :: undef :: x21 :: x22 :: x23 :: x24 :: x25 :: x26 :: x27 :: x28 :: x29 :: x30 :: undef :: undef :: undef :: undef :: undef :: undef :: undef :: undef :: undef :: []), []⟩ ∧ DetQ [fun v : Value => v = .pointer (some ⟨w.heap.size, 0, none⟩), fun v : Value => v = .agg #[.slice A1 y.ty.sizes.length cap1, .slice A2 y.ty.cos.length cap2], fun v : Value => v = .iface T x, fun v : Value => v = .agg #[.slice A1 y.ty.sizes.length cap1, .slice A2 y.ty.cos.length cap2, .slice A3 y.fs.length cap3], fun v : Value => v = .int .i64 KD, fun v : Value => v = .int .i64 z, fun v : Value => True, fun v : Value => v = idV x28, fun v : Value => v = fstT x28, fun v : Value => v = .bool cb, fun v : Value => v = fstT x28, fun v : Value => v = .bool cb] dn [x22, x23, x24, x25, x26, x27, x28, x21, x29, x30, x10, x11] ∧ Ch dn [4, 6] (W4 w2 x28 cb (zs.map (Value.int .i64))) u ∧ (dn 7 = true → dn 6 = true) ∧ (dn 8 = true → dn 6 = true) ∧ (dn 10 = true → dn 6 = true)) (of_decide_eq_true (by kernel_rfl)) ⟨_, _, _, _, _, _, _, _, _, _, _, _, rfl, DetQ.start (by rfl), Ch.start HST.out, (fun h => (by cases h)), (fun h => (by cases h)), (fun h => (by cases h))⟩ ?_ ?_
    · rintro dn ac u i8 op8 hop hfi hdep ⟨x22, x23, x24, x25, x26, x27, x28, x21, x29, x30, x10, x11, rfl, hD, hC, hc0, hc1, hc2⟩
      have hil : i8 < 12 := by have := (Array.getElem?_eq_some_iff.1 hop).1; simpa using this
      obtain rfl | rfl | rfl | rfl | rfl | rfl | rfl | rfl | rfl | rfl | rfl | rfl : i8 = 0 ∨ i8 = 1 ∨ i8 = 2 ∨ i8 = 3 ∨ i8 = 4 ∨ i8 = 5 ∨ i8 = 6 ∨ i8 = 7 ∨ i8 = 8 ∨ i8 = 9 ∨ i8 = 10 ∨ i8 = 11 := by omega
      all_goals
        obtain rfl := Option.some.inj hop
        refine wpOp_step hop fun K hK => ?_
        simp [Region.binds] at hdep
        clear hop
      · refine det_yes rfl ?_
        have HD := Lib.hid hD
        have HC := Lib.hid hC
        clear hD hC
        unfold Oper.wp
        go_simp
        exact hK _ _ ⟨_, _, _, _, _, _, _, _, _, _, _, _, rfl, HD.out.step 0 rfl rfl, HC.out.other 0 (by decide), (fun h => (by have h2 := hc0; have h3 := hfi; simp at h h2 ⊢; first | done | exact h2 h | exact Or.inr (h2 h) | simp [hdep] | (rcases h with h | h; · simp_all; · exact Or.inr (h2 h)) | simp_all)), (fun h => (by have h2 := hc1; have h3 := hfi; simp at h h2 ⊢; first | done | exact h2 h | exact Or.inr (h2 h) | simp [hdep] | (rcases h with h | h; · simp_all; · exact Or.inr (h2 h)) | simp_all)), (fun h => (by have h2 := hc2; have h3 := hfi; simp at h h2 ⊢; first | done | exact h2 h | exact Or.inr (h2 h) | simp [hdep] | (rcases h with h | h; · simp_all; · exact Or.inr (h2 h)) | simp_all))⟩
      · obtain rfl : x22 = .pointer (some ⟨w.heap.size, 0, none⟩) := hD.get (P := fun v : Value => v = .pointer (some ⟨w.heap.size, 0, none⟩)) 0 (by simp [hdep]) rfl rfl
        obtain ⟨j8, hj8, -, hW⟩ := hC.ex
        have hbu := W4.low hW
        clear hW
        obtain ⟨d1, d2, d3⟩ := HLD.out u hbu
        refine det_yes rfl ?_
        have HD := Lib.hid hD
        have HC := Lib.hid hC
        clear hD hC
        unfold Oper.wp
        go_simp
        exact hK _ _ ⟨_, _, _, _, _, _, _, _, _, _, _, _, rfl, HD.out.step 1 rfl rfl, HC.out.other 1 (by decide), (fun h => (by have h2 := hc0; have h3 := hfi; simp at h h2 ⊢; first | done | exact h2 h | exact Or.inr (h2 h) | simp [hdep] | (rcases h with h | h; · simp_all; · exact Or.inr (h2 h)) | simp_all)), (fun h => (by have h2 := hc1; have h3 := hfi; simp at h h2 ⊢; first | done | exact h2 h | exact Or.inr (h2 h) | simp [hdep] | (rcases h with h | h; · simp_all; · exact Or.inr (h2 h)) | simp_all)), (fun h => (by have h2 := hc2; have h3 := hfi; simp at h h2 ⊢; first | done | exact h2 h | exact Or.inr (h2 h) | simp [hdep] | (rcases h with h | h; · simp_all; · exact Or.inr (h2 h)) | simp_all))⟩
      · refine det_yes rfl ?_
        have HD := Lib.hid hD
        have HC := Lib.hid hC
        clear hD hC
        unfold Oper.wp
        go_simp
        exact hK _ _ ⟨_, _, _, _, _, _, _, _, _, _, _, _, rfl, HD.out.step 2 rfl rfl, HC.out.other 2 (by decide), (fun h => (by have h2 := hc0; have h3 := hfi; simp at h h2 ⊢; first | done | exact h2 h | exact Or.inr (h2 h) | simp [hdep] | (rcases h with h | h; · simp_all; · exact Or.inr (h2 h)) | simp_all)), (fun h => (by have h2 := hc1; have h3 := hfi; simp at h h2 ⊢; first | done | exact h2 h | exact Or.inr (h2 h) | simp [hdep] | (rcases h with h | h; · simp_all; · exact Or.inr (h2 h)) | simp_all)), (fun h => (by have h2 := hc2; have h3 := hfi; simp at h h2 ⊢; first | done | exact h2 h | exact Or.inr (h2 h) | simp [hdep] | (rcases h with h | h; · simp_all; · exact Or.inr (h2 h)) | simp_all))⟩
      · obtain ⟨j8, hj8, -, hW⟩ := hC.ex
        have hbu := W4.low hW
        clear hW
        obtain ⟨d1, d2, d3⟩ := HLD.out u hbu
        refine det_yes rfl ?_
        have HD := Lib.hid hD
        have HC := Lib.hid hC
        clear hD hC
        unfold Oper.wp
        go_simp
        exact hK _ _ ⟨_, _, _, _, _, _, _, _, _, _, _, _, rfl, HD.out.step 3 rfl rfl, HC.out.other 3 (by decide), (fun h => (by have h2 := hc0; have h3 := hfi; simp at h h2 ⊢; first | done | exact h2 h | exact Or.inr (h2 h) | simp [hdep] | (rcases h with h | h; · simp_all; · exact Or.inr (h2 h)) | simp_all)), (fun h => (by have h2 := hc1; have h3 := hfi; simp at h h2 ⊢; first | done | exact h2 h | exact Or.inr (h2 h) | simp [hdep] | (rcases h with h | h; · simp_all; · exact Or.inr (h2 h)) | simp_all)), (fun h => (by have h2 := hc2; have h3 := hfi; simp at h h2 ⊢; first | done | exact h2 h | exact Or.inr (h2 h) | simp [hdep] | (rcases h with h | h; · simp_all; · exact Or.inr (h2 h)) | simp_all))⟩
      · obtain rfl : x24 = .iface T x := hD.get (P := fun v : Value => v = .iface T x) 2 (by simp [hdep]) rfl rfl
        obtain rfl : x25 = .agg #[.slice A1 y.ty.sizes.length cap1, .slice A2 y.ty.cos.length cap2, .slice A3 y.fs.length cap3] := hD.get (P := fun v : Value => v = .agg #[.slice A1 y.ty.sizes.length cap1, .slice A2 y.ty.cos.length cap2, .slice A3 y.fs.length cap3]) 3 (by simp [hdep]) rfl rfl
        have hW := hC.at_ 0 (by decide) hfi (by intro j9 e9 _; omega)
        refine det_yes rfl ?_
        have HD := Lib.hid hD
        have HC := Lib.hid hC
        clear hD hC
        have hbu := W4.low hW
        clear hW
        unfold Oper.wp
        go_simp
        refine (HKD.out u hbu).mono ?_
        rintro e u2 ⟨rfl, hb8⟩
        have HW2 : (W4 w2 x28 cb (zs.map (Value.int .i64))) 1 u2 := hbu.trans (hb8.mono hbu.size)
        exact hK _ _ ⟨_, _, _, _, _, _, _, _, _, _, _, _, rfl, HD.out.step 4 rfl (by rfl), HC.out.next 0 (by decide) hfi (by intro j9 e9 _; omega) (by decide) HW2, (fun h => (by have h2 := hc0; have h3 := hfi; simp at h h2 ⊢; first | done | exact h2 h | exact Or.inr (h2 h) | simp [hdep] | (rcases h with h | h; · simp_all; · exact Or.inr (h2 h)) | simp_all)), (fun h => (by have h2 := hc1; have h3 := hfi; simp at h h2 ⊢; first | done | exact h2 h | exact Or.inr (h2 h) | simp [hdep] | (rcases h with h | h; · simp_all; · exact Or.inr (h2 h)) | simp_all)), (fun h => (by have h2 := hc2; have h3 := hfi; simp at h h2 ⊢; first | done | exact h2 h | exact Or.inr (h2 h) | simp [hdep] | (rcases h with h | h; · simp_all; · exact Or.inr (h2 h)) | simp_all))⟩
      · refine det_yes rfl ?_
        have HD := Lib.hid hD
        have HC := Lib.hid hC
        clear hD hC
        unfold Oper.wp
        go_simp
        exact hK _ _ ⟨_, _, _, _, _, _, _, _, _, _, _, _, rfl, HD.out.step 5 rfl rfl, HC.out.other 5 (by decide), (fun h => (by have h2 := hc0; have h3 := hfi; simp at h h2 ⊢; first | done | exact h2 h | exact Or.inr (h2 h) | simp [hdep] | (rcases h with h | h; · simp_all; · exact Or.inr (h2 h)) | simp_all)), (fun h => (by have h2 := hc1; have h3 := hfi; simp at h h2 ⊢; first | done | exact h2 h | exact Or.inr (h2 h) | simp [hdep] | (rcases h with h | h; · simp_all; · exact Or.inr (h2 h)) | simp_all)), (fun h => (by have h2 := hc2; have h3 := hfi; simp at h h2 ⊢; first | done | exact h2 h | exact Or.inr (h2 h) | simp [hdep] | (rcases h with h | h; · simp_all; · exact Or.inr (h2 h)) | simp_all))⟩
      · obtain rfl : x23 = .agg #[.slice A1 y.ty.sizes.length cap1, .slice A2 y.ty.cos.length cap2] := hD.get (P := fun v : Value => v = .agg #[.slice A1 y.ty.sizes.length cap1, .slice A2 y.ty.cos.length cap2]) 1 (by simp [hdep]) rfl rfl
        obtain rfl : x26 = .int .i64 KD := hD.get (P := fun v : Value => v = .int .i64 KD) 4 (by simp [hdep]) rfl rfl
        obtain rfl : x27 = .int .i64 z := hD.get (P := fun v : Value => v = .int .i64 z) 5 (by simp [hdep]) rfl rfl
        have hW := hC.at_ 1 (by decide) hfi (by intro j9 e9 _; have f9 : j9 = 0 := (by omega); subst f9; simp [hdep])
        refine det_yes rfl ?_
        have HD := Lib.hid hD
        have HC := Lib.hid hC
        clear hD hC
        have hbu := W4.low hW
        clear hW
        have n7 : ∀ k, dn k = true → k ≠ 7 := by
          rintro k hk rfl
          have h9 := hc0 hk
          rw [hfi] at h9
          cases h9
        have n8 : ∀ k, dn k = true → k ≠ 8 := by
          rintro k hk rfl
          have h9 := hc1 hk
          rw [hfi] at h9
          cases h9
        have n10 : ∀ k, dn k = true → k ≠ 10 := by
          rintro k hk rfl
          have h9 := hc2 hk
          rw [hfi] at h9
          cases h9
        unfold Oper.wp
        go_simp
        refine (HSW.out u hbu).mono ?_
        rintro e u2 ⟨v28, rfl, hb8, ho8⟩
        have HW2 : (W4 w2 (.tuple #[v28, .bool cb]) cb (zs.map (Value.int .i64))) 2 u2 := ⟨hbu.trans (hb8.mono hbu.size), v28, u.heap.size, rfl, by simpa using ho8⟩
        have HD := Lib.hid (HD.out.change (Qs := [fun v : Value => v = .pointer (some ⟨w.heap.size, 0, none⟩), fun v : Value => v = .agg #[.slice A1 y.ty.sizes.length cap1, .slice A2 y.ty.cos.length cap2], fun v : Value => v = .iface T x, fun v : Value => v = .agg #[.slice A1 y.ty.sizes.length cap1, .slice A2 y.ty.cos.length cap2, .slice A3 y.fs.length cap3], fun v : Value => v = .int .i64 KD, fun v : Value => v = .int .i64 z, fun v : Value => True, fun v : Value => v = idV (.tuple #[v28, .bool cb]), fun v : Value => v = fstT (.tuple #[v28, .bool cb]), fun v : Value => v = .bool cb, fun v : Value => v = fstT (.tuple #[v28, .bool cb]), fun v : Value => v = .bool cb]) rfl (by
          intro k hk
          have h7 := n7 k hk
          have h8 := n8 k hk
          have h10 := n10 k hk
          rcases k with _ | _ | _ | _ | _ | _ | _ | _ | _ | _ | _ | _ | k
          all_goals first | rfl | exact absurd rfl h7 | exact absurd rfl h8 | exact absurd rfl h10))
        exact hK _ _ ⟨_, _, _, _, _, _, _, _, _, _, _, _, rfl, HD.out.step 6 rfl (by trivial), HC.out.next 1 (by decide) hfi (by intro j9 e9 _; have f9 : j9 = 0 := (by omega); subst f9; simp [hdep]) (by decide) HW2, (fun h => (by have h2 := hc0; have h3 := hfi; simp at h h2 ⊢; first | done | exact h2 h | exact Or.inr (h2 h) | simp [hdep] | (rcases h with h | h; · simp_all; · exact Or.inr (h2 h)) | simp_all)), (fun h => (by have h2 := hc1; have h3 := hfi; simp at h h2 ⊢; first | done | exact h2 h | exact Or.inr (h2 h) | simp [hdep] | (rcases h with h | h; · simp_all; · exact Or.inr (h2 h)) | simp_all)), (fun h => (by have h2 := hc2; have h3 := hfi; simp at h h2 ⊢; first | done | exact h2 h | exact Or.inr (h2 h) | simp [hdep] | (rcases h with h | h; · simp_all; · exact Or.inr (h2 h)) | simp_all))⟩
      · obtain ⟨j8, hj8, hd8, hW⟩ := hC.ex
        have hj2 : j8 = 2 := by
          have h9 := hd8 1 (by simp)
          have h6 : dn 6 = true := (by simp [hdep])
          have h61 : dn 6 = decide (1 < j8) := h9
          rw [h6] at h61
          have h62 := of_decide_eq_true h61.symm
          simp at hj8
          omega
        subst hj2
        obtain ⟨hbu, v29, N0, hx28, -⟩ := hW
        subst hx28
        dsimp only [idV]
        refine det_yes rfl ?_
        have HD := Lib.hid hD
        have HC := Lib.hid hC
        clear hD hC
        unfold Oper.wp
        go_simp
        exact hK _ _ ⟨_, _, _, _, _, _, _, _, _, _, _, _, rfl, HD.out.step 7 rfl rfl, HC.out.other 7 (by decide), (fun h => (by have h2 := hc0; have h3 := hfi; simp at h h2 ⊢; first | done | exact h2 h | exact Or.inr (h2 h) | simp [hdep] | (rcases h with h | h; · simp_all; · exact Or.inr (h2 h)) | simp_all)), (fun h => (by have h2 := hc1; have h3 := hfi; simp at h h2 ⊢; first | done | exact h2 h | exact Or.inr (h2 h) | simp [hdep] | (rcases h with h | h; · simp_all; · exact Or.inr (h2 h)) | simp_all)), (fun h => (by have h2 := hc2; have h3 := hfi; simp at h h2 ⊢; first | done | exact h2 h | exact Or.inr (h2 h) | simp [hdep] | (rcases h with h | h; · simp_all; · exact Or.inr (h2 h)) | simp_all))⟩
      · obtain rfl : x21 = idV x28 := hD.get (P := fun v : Value => v = idV x28) 7 (by simp [hdep]) rfl rfl
        obtain ⟨j8, hj8, hd8, hW⟩ := hC.ex
        have hj2 : j8 = 2 := by
          have h9 := hd8 1 (by simp)
          have h6 : dn 6 = true := hc0 (by simp [hdep])
          have h61 : dn 6 = decide (1 < j8) := h9
          rw [h6] at h61
          have h62 := of_decide_eq_true h61.symm
          simp at hj8
          omega
        subst hj2
        obtain ⟨hbu, v29, N0, hx28, -⟩ := hW
        subst hx28
        dsimp only [idV]
        refine det_yes rfl ?_
        have HD := Lib.hid hD
        have HC := Lib.hid hC
        clear hD hC
        unfold Oper.wp
        go_simp
        exact hK _ _ ⟨_, _, _, _, _, _, _, _, _, _, _, _, rfl, HD.out.step 8 rfl rfl, HC.out.other 8 (by decide), (fun h => (by have h2 := hc0; have h3 := hfi; simp at h h2 ⊢; first | done | exact h2 h | exact Or.inr (h2 h) | simp [hdep] | (rcases h with h | h; · simp_all; · exact Or.inr (h2 h)) | simp_all)), (fun h => (by have h2 := hc1; have h3 := hfi; simp at h h2 ⊢; first | done | exact h2 h | exact Or.inr (h2 h) | simp [hdep] | (rcases h with h | h; · simp_all; · exact Or.inr (h2 h)) | simp_all)), (fun h => (by have h2 := hc2; have h3 := hfi; simp at h h2 ⊢; first | done | exact h2 h | exact Or.inr (h2 h) | simp [hdep] | (rcases h with h | h; · simp_all; · exact Or.inr (h2 h)) | simp_all))⟩
      · obtain rfl : x21 = idV x28 := hD.get (P := fun v : Value => v = idV x28) 7 (by simp [hdep]) rfl rfl
        obtain ⟨j8, hj8, hd8, hW⟩ := hC.ex
        have hj2 : j8 = 2 := by
          have h9 := hd8 1 (by simp)
          have h6 : dn 6 = true := hc0 (by simp [hdep])
          have h61 : dn 6 = decide (1 < j8) := h9
          rw [h6] at h61
          have h62 := of_decide_eq_true h61.symm
          simp at hj8
          omega
        subst hj2
        obtain ⟨hbu, v29, N0, hx28, -⟩ := hW
        subst hx28
        dsimp only [idV]
        refine det_yes rfl ?_
        have HD := Lib.hid hD
        have HC := Lib.hid hC
        clear hD hC
        unfold Oper.wp
        go_simp
        exact hK _ _ ⟨_, _, _, _, _, _, _, _, _, _, _, _, rfl, HD.out.step 9 rfl rfl, HC.out.other 9 (by decide), (fun h => (by have h2 := hc0; have h3 := hfi; simp at h h2 ⊢; first | done | exact h2 h | exact Or.inr (h2 h) | simp [hdep] | (rcases h with h | h; · simp_all; · exact Or.inr (h2 h)) | simp_all)), (fun h => (by have h2 := hc1; have h3 := hfi; simp at h h2 ⊢; first | done | exact h2 h | exact Or.inr (h2 h) | simp [hdep] | (rcases h with h | h; · simp_all; · exact Or.inr (h2 h)) | simp_all)), (fun h => (by have h2 := hc2; have h3 := hfi; simp at h h2 ⊢; first | done | exact h2 h | exact Or.inr (h2 h) | simp [hdep] | (rcases h with h | h; · simp_all; · exact Or.inr (h2 h)) | simp_all))⟩
      · obtain rfl : x29 = fstT x28 := hD.get (P := fun v : Value => v = fstT x28) 8 (by simp [hdep]) rfl rfl
        refine det_yes rfl ?_
        have HD := Lib.hid hD
        have HC := Lib.hid hC
        clear hD hC
        unfold Oper.wp
        go_simp
        exact hK _ _ ⟨_, _, _, _, _, _, _, _, _, _, _, _, rfl, HD.out.step 10 rfl rfl, HC.out.other 10 (by decide), (fun h => (by have h2 := hc0; have h3 := hfi; simp at h h2 ⊢; first | done | exact h2 h | exact Or.inr (h2 h) | simp [hdep] | (rcases h with h | h; · simp_all; · exact Or.inr (h2 h)) | simp_all)), (fun h => (by have h2 := hc1; have h3 := hfi; simp at h h2 ⊢; first | done | exact h2 h | exact Or.inr (h2 h) | simp [hdep] | (rcases h with h | h; · simp_all; · exact Or.inr (h2 h)) | simp_all)), (fun h => (by have h2 := hc2; have h3 := hfi; simp at h h2 ⊢; first | done | exact h2 h | exact Or.inr (h2 h) | simp [hdep] | (rcases h with h | h; · simp_all; · exact Or.inr (h2 h)) | simp_all))⟩
      · obtain rfl : x30 = .bool cb := hD.get (P := fun v : Value => v = .bool cb) 9 (by simp [hdep]) rfl rfl
        refine det_yes rfl ?_
        have HD := Lib.hid hD
        have HC := Lib.hid hC
        clear hD hC
        unfold Oper.wp
        go_simp
        exact hK _ _ ⟨_, _, _, _, _, _, _, _, _, _, _, _, rfl, HD.out.step 11 rfl rfl, HC.out.other 11 (by decide), (fun h => (by have h2 := hc0; have h3 := hfi; simp at h h2 ⊢; first | done | exact h2 h | exact Or.inr (h2 h) | simp [hdep] | (rcases h with h | h; · simp_all; · exact Or.inr (h2 h)) | simp_all)), (fun h => (by have h2 := hc1; have h3 := hfi; simp at h h2 ⊢; first | done | exact h2 h | exact Or.inr (h2 h) | simp [hdep] | (rcases h with h | h; · simp_all; · exact Or.inr (h2 h)) | simp_all)), (fun h => (by have h2 := hc2; have h3 := hfi; simp at h h2 ⊢; first | done | exact h2 h | exact Or.inr (h2 h) | simp [hdep] | (rcases h with h | h; · simp_all; · exact Or.inr (h2 h)) | simp_all))⟩
    · rintro dn ac u hall ⟨x22, x23, x24, x25, x26, x27, x28, x21, x29, x30, x10, x11, rfl, hD, hC, hc0, hc1, hc2⟩
      obtain rfl : x22 = .pointer (some ⟨w.heap.size, 0, none⟩) := hD.get (P := fun v : Value => v = .pointer (some ⟨w.heap.size, 0, none⟩)) 0 (hall 0 (by decide)) rfl rfl
      obtain rfl : x23 = .agg #[.slice A1 y.ty.sizes.length cap1, .slice A2 y.ty.cos.length cap2] := hD.get (P := fun v : Value => v = .agg #[.slice A1 y.ty.sizes.length cap1, .slice A2 y.ty.cos.length cap2]) 1 (hall 1 (by decide)) rfl rfl
      obtain rfl : x24 = .iface T x := hD.get (P := fun v : Value => v = .iface T x) 2 (hall 2 (by decide)) rfl rfl
      obtain rfl : x25 = .agg #[.slice A1 y.ty.sizes.length cap1, .slice A2 y.ty.cos.length cap2, .slice A3 y.fs.length cap3] := hD.get (P := fun v : Value => v = .agg #[.slice A1 y.ty.sizes.length cap1, .slice A2 y.ty.cos.length cap2, .slice A3 y.fs.length cap3]) 3 (hall 3 (by decide)) rfl rfl
      obtain rfl : x26 = .int .i64 KD := hD.get (P := fun v : Value => v = .int .i64 KD) 4 (hall 4 (by decide)) rfl rfl
      obtain rfl : x27 = .int .i64 z := hD.get (P := fun v : Value => v = .int .i64 z) 5 (hall 5 (by decide)) rfl rfl
      obtain rfl : x21 = idV x28 := hD.get (P := fun v : Value => v = idV x28) 7 (hall 7 (by decide)) rfl rfl
      obtain rfl : x29 = fstT x28 := hD.get (P := fun v : Value => v = fstT x28) 8 (hall 8 (by decide)) rfl rfl
      obtain rfl : x30 = .bool cb := hD.get (P := fun v : Value => v = .bool cb) 9 (hall 9 (by decide)) rfl rfl
      obtain rfl : x10 = fstT x28 := hD.get (P := fun v : Value => v = fstT x28) 10 (hall 10 (by decide)) rfl rfl
      obtain rfl : x11 = .bool cb := hD.get (P := fun v : Value => v = .bool cb) 11 (hall 11 (by decide)) rfl rfl
      have hW := hC.all (by intro j9 h9; exact hall _ (by revert j9; decide))
      clear hall hD hC hc0 hc1 hc2
      obtain ⟨hbu, v8, N0, hx28, hown⟩ := hW
      subst hx28
      simp only [fstT_t, idV_t]
      have HBU := Lib.hid hbu
      have HOWN := Lib.hid hown
      have HB3 : Hid (Below w.heap.size w u) := HB2.out.trans (hbu.mono (Nat.le_of_lt Hwl.out))
      have hE3 := HE.out.below HB3.out hn
      have g0 := hE3.gW
      have HWW := Lib.hid (word_way hE3.nd)
      have HWL := Lib.hid (word_long hE3.nd)
      have HLG : Hid (Lg u n (.iface 270 (.pointer (some aL)))) := ⟨hE3.low.2.2.2.2, hE3.gL⟩
      obtain ⟨VA, VC, rfl⟩ := own_slice' hown
      clear hbu hown hE3 HKD HSW HLD HST
      cases cb with
      | false =>
        have HAZ2 : Hid (elAZ y L z = .error wNone) := by show _ = _; rw [HAZ.out]; rfl
        go_wp2_with fail
        go_quiet (fail)
        go_wp2
        try rw [Exit.noGoto_ret]
        refine bodyPost_ret (v := .tuple #[.nilIface, .iface 270 (.pointer (some aW))]) (by simp [results, Tryz.results48, go_sem]) rfl ?_
        exact ⟨.inr ⟨aW, _, by rw [HWW.out]; exact HAZ2.out, rfl, .base, by simp⟩, below_drewN HB3.out _⟩
      | true =>
        have hcc : canC y.ty (kindM y m) z = true := by rw [← HKD2.out]; exact HCB.out.symm
        have hze : zs = shortV y.ty (kindM y m) z := by rw [← HKD2.out]; exact HZS.out
        have hw5 := shortV_wf y.ty (kindM y m) z
        obtain ⟨hmok2, -, hdig⟩ := coM_ok (tyOk_few HY.out.ty) _ _ HMOK.out (shortV_end hcc)
        rw [← hze] at hmok2 hdig hw5
        have hl4 : (mkT (coM zs m)).length ≤ 80000 := by
          rw [coM_len]
          have h1 := hw5.2
          have h2 := HL4.out
          omega
        have hno3 : MNodeAt u w2.heap.size m (.iface T x) → True := fun _ => trivial
        have HNU : Hid (MNodeAt u w.heap.size m (.iface T x)) := (HNO.out.same fun g h1 h2 => HBU.out.block g h2).base (Nat.le_of_lt Hs1.out)
        have HCO := Lib.hid (coercedBy_any N0 u.heap.size w.heap.size m (.iface T x) _ zs u u HNU.out (by
          have h := HOWN.out
          rw [List.length_map] at h
          exact ownsRow.intsAt h hw5.1 (Nat.le_refl _) (Nat.le_refl _)) hdig (by have h1 := hw5.2; omega))
        have HM2 := Lib.hid hmok2
        have HL8 := Lib.hid hl4
        clear g0 hcc hze hw5 hmok2 hdig hl4 hno3
        go_wp2_with fail
        refine HCO.out.mono ?_
        rintro e w5 ⟨⟨o2, rfl, hmo⟩, rfl⟩
        obtain ⟨T2, x2, rfl⟩ := hmo.form
        have HWT := Lib.hid (within_any hmo HL8.out HM2.out w5 (Below.refl _ _) HLG.out (Nat.le_trans hn HB3.out.size))
        have HMO := Lib.hid hmo
        clear hmo HCO
        go_wp2_with fail
        refine HWT.out.mono ?_
        rintro e w6 ⟨rfl, hb6⟩
        have HB6 : Hid (Below w.heap.size w w6) := HB3.out.trans (hb6.mono HB3.out.size)
        by_cases h4 : (mkT (coM zs m)).length ≤ 400
        · have HAZ2 : Hid (elAZ y L z = .ok (coM zs m)) := by show _ = _; rw [HAZ.out, if_pos trivial, if_pos h4]
          have HN6 : Hid (MNodeAt w6 w.heap.size (coM zs m) (.iface T2 x2)) := HMO.out.same fun g _ h2 => hb6.block g h2
          rw [if_pos h4]
          clear hb6 HWT h4
          go_wp2
          try rw [Exit.noGoto_ret]
          refine bodyPost_ret (v := .tuple #[.iface T2 x2, .nilIface]) (by simp [results, Tryz.results48, go_sem]) rfl ?_
          exact ⟨.inl ⟨_, _, HAZ2.out, HM2.out, rfl, HN6.out⟩, HB6.out⟩
        · have HAZ2 : Hid (elAZ y L z = .error wLong) := by show _ = _; rw [HAZ.out, if_pos trivial, if_neg h4]
          rw [if_neg h4]
          clear hb6 HWT h4
          go_wp2
          try rw [Exit.noGoto_ret]
          refine bodyPost_ret (v := .tuple #[.nilIface, .iface 270 (.pointer (some aL))]) (by simp [results, Tryz.results48, go_sem]) rfl ?_
          exact ⟨.inr ⟨aL, _, by rw [HWL.out]; exact HAZ2.out, rfl, .base, by simp⟩, HB6.out⟩
  · have HB2 := Lib.hid (HB1.out.trans (hb2.mono (Nat.le_of_lt Hs1.out)))
    have HAZ : Hid (elAZ y L z = .error (wordV aN aW aM aL ae)) := by show _ = _; unfold elAZ; rw [hz]
    have HCH := Lib.hid hch
    obtain ⟨T, x, rfl⟩ := hch.form
    clear hb2 hch hz
    go_wp2
    try rw [Exit.noGoto_ret]
    refine bodyPost_ret (v := .tuple #[.nilIface, .iface T x]) (by simp [results, Tryz.results48, go_sem]) rfl ?_
    exact ⟨.inr ⟨ae, _, HAZ.out, rfl, HCH.out, hae⟩, HB2.out⟩
end Go.Proofs.YtgkfddhhkjblgaaGreatDoor

