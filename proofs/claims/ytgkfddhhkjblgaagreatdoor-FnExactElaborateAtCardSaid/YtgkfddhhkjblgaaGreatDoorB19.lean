/-
  The contract of the model's l7Make.
-/
import Derived.Test.YtgkfddhhkjblgaaGreatDoorB18
namespace Go.Proofs.YtgkfddhhkjblgaaGreatDoor
open Go.RowKit

theorem elRes_ok {y : Sy} {t : Tm} {m : Mk} (h : elM y t = .ok m) : elRes y t = .tuple #[.string (str (mkT m)), .int .i64 (kindM y m), .string wOk] := by unfold elRes; rw [h]
theorem elRes_error {y : Sy} {t : Tm} {e : ByteArray} (h : elM y t = .error e) : elRes y t = .tuple #[.string ⟨#[]⟩, .int .i64 (-1), .string e] := by unfold elRes; rw [h]

def kindVs (y : Sy) (ms : List Mk) : List Value := (ms.map (kindM y)).map (Value.int .i64)
section
variable {w w' : World} {base : Nat} {e : TypeId} {v v' : Value} {n : Nat} {xs : List Value} {x : Value}
theorem Pushed.apart (hp : Pushed w w' base e v v' n xs x) {u : Value} {N k : Nat} {t : TypeId} {ys : List Value} (ho : w.ownsRow N t 1 u k ys) (h : ∀ g, v.ownBlock = some g → u.ownBlock ≠ some g) : ∀ g, v'.ownBlock = some g → u.ownBlock ≠ some g := by
  intro g hg hu
  rcases hp.at_ with e1 | ⟨g', e1, h1, _⟩
  · exact h g (e1 ▸ hg) hu
  · rw [e1] at hg
    injection hg with hg
    have := (owns_lt ho g hu).2
    omega
theorem Pushed.other (hp : Pushed w w' base e v v' n xs x) {u : Value} {N k : Nat} {t : TypeId} {ys : List Value} (ho : w.ownsRow N t 1 u k ys) (h : ∀ g, v.ownBlock = some g → u.ownBlock ≠ some g) : w'.ownsRow N t 1 u k ys := by
  refine ho.kept hp.grown ?_
  cases hu : u.ownBlock with
  | none => exact .inl rfl
  | some g => exact .inr fun e => h g e.symm hu
theorem Pushed.mid (hp : Pushed w w' base e v v' n xs x) {u : World} {a b N : Nat} (hm : ∀ g, a ≤ g → g < N → w.heap[g]? = u.heap[g]?) (hN : N ≤ w.heap.size) (ha : AtB b N v) (hb : b < a) : ∀ g, a ≤ g → g < N → w'.heap[g]? = u.heap[g]? := by
  intro g h1 h2
  refine (hp.grown.block g (by omega) fun e => ?_).trans (hm g h1 h2)
  have := ha g e.symm
  omega
theorem Pushed.below (hp : Pushed w w' base e v v' n xs x) (ho : w.ownsRow base e 1 v n xs) {u : World} (hb : Below base u w) (hs : base ≤ w.heap.size) : Below base u w' :=
  hb.grown hp.grown hs fun j hj => (owns_lt ho j hj).1
end

theorem own_row8 {w : World} {N : Nat} {t : TypeId} {A : Option Addr} {n cap : Nat} {xs ys : List Value} (h : w.ownsRow N t 1 (.slice A n cap) n xs) (e : ys = xs) : ∃ g, N ≤ g ∧ (0 < n → A = some ⟨g, 0, none⟩ ∧ g < w.heap.size ∧ n ≤ cap ∧ ∃ cs, Row w g t cs ∧ cs.take n = ys) := by
  subst e
  obtain ⟨hl, ⟨e1, e2⟩ | ⟨g, cap', cur, e1, hg, hh, hc1, hc2, hcs, ht⟩⟩ := h
  · exact ⟨N, Nat.le_refl _, fun h0 => by subst e2; simp at hl; omega⟩
  · injection e1 with e1 e2 e3
    subst e1; subst e3
    refine ⟨g, hg, fun _ => ⟨rfl, ?_, hc1, cur.toList, ?_, by simpa using ht⟩⟩
    · rcases Nat.lt_or_ge g w.heap.size with h' | h'
      · exact h'
      · rw [Array.getElem?_eq_none h'] at hh; cases hh
    · unfold Row
      simpa using hh

theorem bulk2 {ps : List (List UInt8)} {N : Nat} (h2 : ps.length ≤ 2) (h : ∀ p ∈ ps, p.length ≤ N) : bulkS ps ≤ 2 + 2 * N := by
  match ps, h2, h with
  | [], _, _ => simp [bulkS]
  | [p], _, h =>
    have h1 := h p (by simp)
    simp [bulkS]
    omega
  | [p, q], _, h =>
    have h1 := h p (by simp)
    have h3 := h q (by simp)
    simp [bulkS]
    omega
theorem callL_len2 (i : Int) {ps : List (List UInt8)} {N : Nat} (h2 : ps.length ≤ 2) (h : ∀ p ∈ ps, p.length ≤ N) : (callL (dg i) ps).length ≤ 4 + 2 * N := by
  match ps, h2, h with
  | [], _, _ =>
    simp [callL, dg, Lib.join]
    omega
  | [p], _, h =>
    have h1 := h p (by simp)
    simp [callL, dg, Lib.join]
    omega
  | [p, q], _, h =>
    have h1 := h p (by simp)
    have h3 := h q (by simp)
    simp [callL, dg, Lib.join]
    omega
/-- What holds while a region calls, and then stores. -/
def W22 (b : World) (a : Addr) (v : Value) : Nat → World → Prop
  | 0, u => Below b.heap.size b u
  | 1, u => Below b.heap.size b u
  | _ + 2, u => ∃ u0, Below b.heap.size b u0 ∧ u = u0.setCell a v
theorem W22.low {b u : World} {a : Addr} {v : Value} : ∀ {j : Nat}, j ≤ 1 → W22 b a v j u → Below b.heap.size b u
  | 0, _, h => h
  | 1, _, h => h
  | _ + 2, hj, _ => absurd hj (by omega)
theorem W22.keep {b u : World} {a : Addr} {v : Value} {g : Nat} (hg : a.block = g) : ∀ {j : Nat}, W22 b a v j u → Keep g b u
  | 0, h => (Keep.refl g b).of_below h
  | 1, h => (Keep.refl g b).of_below h
  | _ + 2, ⟨u0, h, e⟩ => by
    subst e
    refine ((Keep.refl g b).of_below h).trans ⟨⟨rfl, rfl, rfl, by simp [World.setCell], fun j _ hb => Below.heap_setCell _ _ _ _ (fun e => hb ?_)⟩⟩
    rw [e, hg]

set_option maxRecDepth 100000 in
set_option maxHeartbeats 1000000 in
theorem l7Make_any (lo hi : Nat) (sv cv fv : Value) (y : Sy) (hy : SyOk y) (hbk : y.bulk ≤ 1048576) : ∀ (q : Nat) (t : Tm) (w : World), (tmT t).length ≤ q → (tmT t).length ≤ 60 → TmOk t → SyAt w lo hi sv cv fv y → hi ≤ w.heap.size →
    Calls Tryz.prog 37 #[.agg #[sv, cv, fv], .string (str (tmT t))] w fun e w' => e = .returned (elRes y t) ∧ Below w.heap.size w w' := by
  intro q
  induction q with
  | zero =>
    intro t w hq
    exact absurd hq (by cases t <;> simp [tmT])
  | succ q ih =>
    intro t w hq hm hok hv hB
    cases hc : isCallT t with
    | false =>
      cases t with
      | c0 n => cases hc
      | c1 n a => cases hc
      | c2 n a b => cases hc
      | lit k v => exact l7MakeLit_any lo hi sv cv fv y hy k v hok _ rfl w hv hB
    | true =>
      obtain ⟨A1, cap1, rfl, _, _, _⟩ := hv.1.1.form
      obtain ⟨A2, cap2, rfl, _, _, _⟩ := hv.1.2.form
      obtain ⟨A3, cap3, rfl, _, hm3, _⟩ := hv.2.form
      have IH := Lib.hid ih
      clear ih
      obtain ⟨a, c, r, hLe, hhd⟩ := tmT_second hok
      have hh := (hhd hc).1
      have hsz := str_size (tmT t)
      have hl3 : 2 < (tmT t).length := by rw [hLe]; simp
      have b1 : ∀ h, (str (tmT t))[1]'h = 40 := by rw [hLe, hc]; exact fun _ => rfl
      have hx1 : Hid ((str (tmT t)).extract 0 1 = str [a]) := by show _ = _; rw [str_take, hLe]; rfl
      obtain ⟨i0, hi0, hz0, hz1, hz2⟩ := info_parts (show (Tryz.prog.info? 9).map (fun i => (i.zero, i.size, i.bytes)) = some (some (.string ⟨#[]⟩), 1, 16) by kernel_rfl)
      obtain ⟨j0, hj0, hy0, hy1, hy2⟩ := info_parts (show (Tryz.prog.info? 3).map (fun i => (i.zero, i.size, i.bytes)) = some (some (.int .i64 0), 1, 8) by kernel_rfl)
      obtain ⟨wb, hwb⟩ : ∃ u, u = w.alloc (.cells #[.slice A1 y.ty.sizes.length cap1, .slice A2 y.ty.cos.length cap2, .slice A3 y.fs.length cap3] 37) := ⟨_, rfl⟩
      have HBX0 : Hid (Below w.heap.size w wb) := by show Below _ _ _; rw [hwb]; exact (Below.refl _ _).alloc (Nat.le_refl _) _
      have HRX : Hid (Row wb w.heap.size 37 [.slice A1 y.ty.sizes.length cap1, .slice A2 y.ty.cos.length cap2, .slice A3 y.fs.length cap3]) := by show Row _ _ _ _; rw [hwb]; exact Row.new _ _ _
      have hwbs : wb.heap.size = w.heap.size + 1 := by rw [hwb]; simp
      obtain ⟨W0, hW0⟩ : ∃ u, u = (wb.alloc (.cells #[] 9)).alloc (.cells #[] 3) := ⟨_, rfl⟩
      have HX0 : Hid (Below (w.heap.size + 1) wb W0) := by show Below _ _ _; rw [hW0, ← hwbs]; exact ((Below.refl _ _).alloc (Nat.le_refl _) _).alloc (by simp) _
      have hW0s : W0.heap.size = w.heap.size + 3 := by rw [hW0]; simp [hwbs]
      have HP0 : Hid (W0.ownsRow (w.heap.size + 1) 9 1 (.slice (some ⟨w.heap.size + 1, 0, none⟩) 0 0) 0 []) := by
        show World.ownsRow _ _ _ _ _ _ _
        rw [hW0, ← hwbs]
        exact World.ownsRow.alloc (World.ownsRow_lit wb #[] 0 (Nat.le_refl _) (by unfold maxLen; omega) rfl) _
      have HC0 : Hid (W0.ownsRow (w.heap.size + 1) 3 1 (.slice (some ⟨w.heap.size + 2, 0, none⟩) 0 0) 0 []) := by
        show World.ownsRow _ _ _ _ _ _ _
        have h := World.ownsRow_lit (e := 3) (base := w.heap.size + 1) (size := 1) (wb.alloc (.cells #[] 9)) #[] 0 (by simp [hwbs]) (by unfold maxLen; omega) rfl
        rw [hW0]
        rw [show (wb.alloc (.cells #[] 9)).heap.size = w.heap.size + 2 by simp [hwbs]] at h
        simpa using h
      have HV := Lib.hid hv
      have HPARTS := Lib.hid (l6Parts_any t hok hc W0 (by omega))
      obtain ⟨ts, hts⟩ : ∃ ts, ts = partsT t := ⟨_, rfl⟩
      have hall : Hid (∀ p ∈ ts, (tmT p).length + 3 ≤ (tmT t).length ∧ TmOk p) := fun p hp => ⟨partsT_len (by rw [← hts]; exact hp), partsT_ok hok (by rw [← hts]; exact hp)⟩
      have hlen2 : ts.length ≤ 2 := by rw [hts]; exact partsT_two t
      have HCALL : Hid (∀ ms, Els y ts ms → elM y t = elCall y a ms) := fun ms h => elM_call hc hh (by rw [← hts]; exact h)
      have HFELL : Hid (∀ k, ∀ (hk : k < ts.length) ms e, Els y (ts.take k) ms → elM y ts[k] = .error e → elM y t = .error e) := fun k hk ms e h1 h2 => by
        subst hts
        exact elM_fell hk h1 h2
      rw [← hts] at HPARTS
      obtain ⟨L, hL⟩ : ∃ L, L = tmT t := ⟨_, rfl⟩
      rw [← hL] at b1 hl3 hsz HPARTS hall hm hq hx1 ⊢
      clear hc hLe hts hL hhd hh hok hv
      go_enter Tryz.func37, Tryz.ntmps37
      go_wp2_with fail
      rw [← hwb, ← hW0]
      refine HPARTS.out.mono ?_
      clear hwb hW0
      rintro e w1 ⟨v, rfl, hb1, hown⟩
      obtain ⟨PA, PC, rfl⟩ := own_slice' hown
      have HX1 : Hid (Below (w.heap.size + 1) wb w1) := HX0.out.trans (hb1.mono (by omega))
      have hw1s := hb1.size
      have HP1 : Hid (w1.ownsRow (w.heap.size + 1) 9 1 (.slice (some ⟨w.heap.size + 1, 0, none⟩) 0 0) 0 []) := ownsRow_below HP0.out hb1 (Nat.le_refl _)
      have HC1 : Hid (w1.ownsRow (w.heap.size + 1) 3 1 (.slice (some ⟨w.heap.size + 2, 0, none⟩) 0 0) 0 []) := ownsRow_below HC0.out hb1 (Nat.le_refl _)
      have Hown := Lib.hid hown
      clear hown hb1 HX0 HP0 HC0 HPARTS
      go_wp2_with fail
      go_loopw [9, 10, 43] (fun p kv i wr => ∃ (k : Nat) (ms : List Mk), k ≤ ts.length ∧ i = .int .i64 k ∧ ms.length = k ∧ w1.heap.size ≤ wr.heap.size ∧ Hid (Els y (ts.take k) ms) ∧ Hid (Below (w.heap.size + 1) wb wr) ∧ Hid (∀ g, w.heap.size + 3 ≤ g → g < w1.heap.size → wr.heap[g]? = w1.heap[g]?) ∧
        Hid (wr.ownsRow (w.heap.size + 1) 9 1 p ms.length (strVs (ms.map mkT))) ∧ Hid (wr.ownsRow (w.heap.size + 1) 3 1 kv ms.length (kindVs y ms)) ∧ Hid (AtB (w.heap.size + 1) w1.heap.size p) ∧ Hid (AtB (w.heap.size + 2) w1.heap.size kv) ∧ Hid (∀ g, p.ownBlock = some g → kv.ownBlock ≠ some g)) (fun _ _ i _ => ts.length - (intOf i).toNat)
      case atStart =>
        refine ⟨0, [], Nat.zero_le _, rfl, rfl, Nat.le_refl _, Els.nil y, HX1.out, fun _ _ _ => rfl, HP1.out, HC1.out, ?_, ?_, ?_⟩
        · intro g hg
          simp only [Value.ownBlock, Option.some.injEq] at hg
          exact .inl hg.symm
        · intro g hg
          simp only [Value.ownBlock, Option.some.injEq] at hg
          exact .inl hg.symm
        · intro g hg
          simp only [Value.ownBlock, Option.some.injEq] at hg
          simp only [Value.ownBlock, ne_eq, Option.some.injEq]
          omega
      case round =>
        obtain ⟨k, ms, hk, rfl, hml, hsr, hels, hxr, hmid, hpr, hcr, hap, hac, hne⟩ := hrel
        subst hml
        obtain ⟨PA2, PC2, rfl⟩ := own_slice' hpr.out
        obtain ⟨KA, KC, rfl⟩ := own_slice' hcr.out
        clear HP1 HC1 HX1
        have hrx := HRX.out.below hxr.out (by omega)
        have q0 := hrx.cell 0
        have q1 := hrx.cell 1
        have q2 := hrx.cell 2
        simp only [List.getElem?_cons_zero, List.getElem?_cons_succ] at q0 q1 q2
        by_cases hkl : ms.length < ts.length
        · obtain ⟨g, hPA, hg3, hgw, _, hcells⟩ := own_cells Hown.out (by omega)
          have hck : wr.cell? ⟨g, ms.length, none⟩ = some (.string (str (tmT ts[ms.length]))) := (World.cell?_of_block (w := w1) (hmid.out g (by omega) hgw)).trans ((hcells ms.length hkl).trans (by simp [strV, hkl]))
          obtain ⟨hpl, hpo⟩ := hall.out ts[ms.length] (List.getElem_mem hkl)
          have HC := Lib.hid (IH.out ts[ms.length] wr (by omega) (by omega) hpo (HV.out.below (HBX0.out.trans (hxr.out.mono (Nat.le_succ _))) hB) (by omega))
          subst hPA
          cases hel : elM y ts[ms.length] with
          | error wd =>
            have hwd := elM_words hel
            have HFIN : Hid (elRes y t = .tuple #[.string ⟨#[]⟩, .int .i64 (-1), .string wd]) := elRes_error (HFELL.out ms.length hkl ms wd hels.out hel)
            rw [elRes_error hel] at HC
            generalize tmT ts[ms.length] = X at hck HC hpl
            clear hcells hel hpl hpo hpr hcr hap hac hne hmid
            go_wp2_with fail
            refine HC.out.mono ?_
            rintro e w2 ⟨rfl, hb2⟩
            have HB2 : Hid (Below w.heap.size w w2) := (HBX0.out.trans (hxr.out.mono (Nat.le_succ _))).trans (hb2.mono (by omega))
            clear hb2 q0 q1 q2 hrx hck HC
            rcases hwd with rfl | rfl | rfl
            · unfold wUnk
              go_wp2
              try rw [Exit.noGoto_ret]
              refine bodyPost_ret (v := .tuple #[.string ⟨#[]⟩, .int .i64 (-1), .string wUnk]) (by simp [results, Tryz.results37, go_sem, wUnk]) rfl ?_
              exact ⟨by rw [HFIN.out], HB2.out⟩
            · unfold wNone
              go_wp2
              try rw [Exit.noGoto_ret]
              refine bodyPost_ret (v := .tuple #[.string ⟨#[]⟩, .int .i64 (-1), .string wNone]) (by simp [results, Tryz.results37, go_sem, wNone]) rfl ?_
              exact ⟨by rw [HFIN.out], HB2.out⟩
            · unfold wMany
              go_wp2
              try rw [Exit.noGoto_ret]
              refine bodyPost_ret (v := .tuple #[.string ⟨#[]⟩, .int .i64 (-1), .string wMany]) (by simp [results, Tryz.results37, go_sem, wMany]) rfl ?_
              exact ⟨by rw [HFIN.out], HB2.out⟩
          | ok m =>
            have HELS : Hid (Els y (ts.take (ms.length + 1)) (ms ++ [m])) := hels.out.snoc hkl hel
            have hstr : Hid (strVs (ms.map mkT) ++ [Value.string (str (mkT m))] = strVs ((ms ++ [m]).map mkT)) := by show _ = _; simp [strVs]
            have hint : Hid (kindVs y ms ++ [Value.int .i64 (kindM y m)] = kindVs y (ms ++ [m])) := by show _ = _; simp [kindVs]
            rw [elRes_ok hel] at HC
            generalize tmT ts[ms.length] = X at hck HC hpl
            obtain ⟨M, hM⟩ : ∃ M, M = mkT m := ⟨_, rfl⟩
            rw [← hM] at HC hstr
            obtain ⟨Z, hZ⟩ : ∃ Z, Z = kindM y m := ⟨_, rfl⟩
            rw [← hZ] at HC hint
            clear hcells hel hpl hpo hM hZ
            unfold wOk at HC
            go_wp2_with fail
            refine HC.out.mono ?_
            rintro e w2 ⟨rfl, hb2⟩
            have hs2 := hb2.size
            have HX2 : Hid (Below (w.heap.size + 1) wb w2) := hxr.out.trans (hb2.mono (by omega))
            have HP2 : Hid (w2.ownsRow (w.heap.size + 1) 9 1 (.slice PA2 ms.length PC2) ms.length (strVs (ms.map mkT))) := ownsRow_below hpr.out hb2 (Nat.le_refl _)
            have HC2 : Hid (w2.ownsRow (w.heap.size + 1) 3 1 (.slice KA ms.length KC) ms.length (kindVs y ms)) := ownsRow_below hcr.out hb2 (Nat.le_refl _)
            have HM2 : Hid (∀ g, w.heap.size + 3 ≤ g → g < w1.heap.size → w2.heap[g]? = w1.heap[g]?) := fun g h1 h2 => (hb2.block g (by omega)).trans (hmid.out g h1 h2)
            clear hb2 q0 q1 q2 hrx hck HC hpr hcr hmid hxr hels
            go_wp2_with (at_builtin; refine wpList_push rfl (.tmp 57) (.tmp 59) 45 rfl i0 (.string ⟨#[]⟩) 16 Tryz.underlying45 hi0 hz0 hz1 hz2 rfl rfl (HP2.out.alloc _) ⟨w2.heap.size, 0, none⟩ 1 (.string (str M)) rfl (by simp [go_sem]) rfl (by unfold maxLen; omega) (by omega) (by simp; omega) ?_)
            intro p3 w3 hpu
            have hal : Below w2.heap.size w2 (w2.alloc (.cells #[.string (str M)] 9)) := (Below.refl _ _).alloc (Nat.le_refl _) _
            have hs3 : w2.heap.size + 1 ≤ w3.heap.size := by have := hpu.grown.size; simpa using this
            have HX3 : Hid (Below (w.heap.size + 1) wb w3) := hpu.below (HP2.out.alloc _) (HX2.out.trans (hal.mono (by omega))) (by simp; omega)
            have HC3 : Hid (w3.ownsRow (w.heap.size + 1) 3 1 (.slice KA ms.length KC) ms.length (kindVs y ms)) := hpu.other (HC2.out.alloc _) hne.out
            have HP3 : Hid (w3.ownsRow (w.heap.size + 1) 9 1 p3 (ms.length + 1) (strVs (ms.map mkT) ++ [Value.string (str M)])) := hpu.own
            have HA3 : Hid (AtB (w.heap.size + 1) w1.heap.size p3) := hap.out.push hpu (by simp; omega)
            have HN3 : Hid (∀ g, p3.ownBlock = some g → (Value.slice KA ms.length KC).ownBlock ≠ some g) := hpu.apart (HC2.out.alloc _) hne.out
            have HM3 : Hid (∀ g, w.heap.size + 3 ≤ g → g < w1.heap.size → w3.heap[g]? = w1.heap[g]?) := hpu.mid (a := w.heap.size + 3) (fun g h1 h2 => (hal.block g (by omega)).trans (HM2.out g h1 h2)) (by simp; omega) hap.out (by omega)
            clear hpu hal HX2 HP2 HC2 HM2 hap hne
            go_wp2_with (at_builtin; refine wpList_push rfl (.tmp 61) (.tmp 63) 22 rfl j0 (.int .i64 0) 8 Tryz.underlying22 hj0 hy0 hy1 hy2 rfl rfl (HC3.out.alloc _) ⟨w3.heap.size, 0, none⟩ 1 (.int .i64 Z) rfl (by simp [go_sem]) rfl (by unfold maxLen; omega) (by omega) (by simp; omega) ?_)
            intro p5 w5 hpu
            have hal : Below w3.heap.size w3 (w3.alloc (.cells #[.int .i64 Z] 3)) := (Below.refl _ _).alloc (Nat.le_refl _) _
            have hs5 : w3.heap.size + 1 ≤ w5.heap.size := by have := hpu.grown.size; simpa using this
            have HX5 : Hid (Below (w.heap.size + 1) wb w5) := hpu.below (HC3.out.alloc _) (HX3.out.trans (hal.mono (by omega))) (by simp; omega)
            have HN3' : ∀ g, (Value.slice KA ms.length KC).ownBlock = some g → p3.ownBlock ≠ some g := fun g h1 h2 => HN3.out g h2 h1
            have HP5 : Hid (w5.ownsRow (w.heap.size + 1) 9 1 p3 (ms.length + 1) (strVs (ms.map mkT) ++ [Value.string (str M)])) := hpu.other (HP3.out.alloc _) HN3'
            have HC5 : Hid (w5.ownsRow (w.heap.size + 1) 3 1 p5 (ms.length + 1) (kindVs y ms ++ [Value.int .i64 Z])) := hpu.own
            have HA5 : Hid (AtB (w.heap.size + 2) w1.heap.size p5) := hac.out.push hpu (by simp; omega)
            have HN5 : Hid (∀ g, p3.ownBlock = some g → p5.ownBlock ≠ some g) := fun g h1 h2 => hpu.apart (HP3.out.alloc _) HN3' g h2 h1
            have HM5 : Hid (∀ g, w.heap.size + 3 ≤ g → g < w1.heap.size → w5.heap[g]? = w1.heap[g]?) := hpu.mid (a := w.heap.size + 3) (fun g h1 h2 => (hal.block g (by omega)).trans (HM3.out g h1 h2)) (by simp; omega) hac.out (by omega)
            clear hpu hal HX3 HP3 HC3 HM3 hac HN3' HN3
            go_wp2
            go_roundw
            case rel =>
              refine ⟨ms.length + 1, ms ++ [m], by omega, by go_num, by simp, by omega, HELS, HX5, HM5, ?_, ?_, HA3, HA5, HN5⟩
              · show World.ownsRow _ _ _ _ _ _ _
                rw [← hstr.out, List.length_append]
                exact HP5.out
              · show World.ownsRow _ _ _ _ _ _ _
                rw [← hint.out, List.length_append]
                exact HC5.out
            case measure => simp [intOf]; omega
        · have hkl2 : ms.length = ts.length := by omega
          rw [hkl2, List.take_length] at hels
          have HOKS : Hid (∀ m ∈ ms, MkOk y m) := fun m hmm => by
            obtain ⟨t', ht', e'⟩ := hels.out.mem m hmm
            exact elM_ok hy (hall.out t' ht').2 e'
          have HEL := Lib.hid (HCALL.out ms hels.out)
          have HLENS : Hid (∀ m ∈ ms, (mkT m).length ≤ 1440) := fun m hmm => by
            obtain ⟨t', ht', e'⟩ := hels.out.mem m hmm
            have h1 := elM_len e'
            have h2 := (hall.out t' ht').1
            omega
          have HKS : Hid (IntsAt wr (w.heap.size + 1) wr.heap.size (.slice KA ms.length KC) (ms.map (kindM y))) := by
            have h := hcr.out
            unfold kindVs at h
            rw [show ms.length = (ms.map (kindM y)).length by simp] at h ⊢
            exact ownsRow.intsAt h (fun z hz => by
              obtain ⟨m, hm1, rfl⟩ := List.mem_map.1 hz
              have h1 := kindM_in hy (HOKS.out m hm1)
              have h5 := (sizesOk_of (tyOk_sizes hy.ty)).2.1
              unfold I64
              omega) (Nat.le_refl _) (Nat.le_refl _)
          have hkb := kinds_good hy HOKS.out
          have hsyr := HV.out.below (HBX0.out.trans (hxr.out.mono (Nat.le_succ _))) hB
          have hl1 := hrx.lt
          have K1 : Hid (wr.drew.cell? ⟨w.heap.size, 0, none⟩ = some (.slice A1 y.ty.sizes.length cap1) ∧ wr.drew.cell? ⟨w.heap.size, 1, none⟩ = some (.slice A2 y.ty.cos.length cap2) ∧ wr.drew.cell? ⟨w.heap.size, 2, none⟩ = some (.slice A3 y.fs.length cap3)) := ⟨q0, q1, q2⟩
          have HRS : Hid (∀ u : World, Below wr.heap.size wr u → Calls Tryz.prog 70 #[.agg #[.slice A1 y.ty.sizes.length cap1, .slice A2 y.ty.cos.length cap2, .slice A3 y.fs.length cap3], .string (str [a]), .slice KA ms.length KC] u fun e w' => e = .returned (.tuple #[.int .i64 (pickI (ltB y) (applicV y (str [a]) (ms.map (kindM y)))), .string (pickW (ltB y) (applicV y (str [a]) (ms.map (kindM y))))]) ∧ Below u.heap.size u w') := fun u hu => l5Resolve_any lo hi (w.heap.size + 1) wr.heap.size _ _ _ _ y (str [a]) (ms.map (kindM y)) u (hsyr.below hu (by omega)) (HKS.out.below hu (Nat.le_refl _)) (Nat.le_trans (by omega) hu.size) hu.size hbk hkb
          have hsl := fun u : World => slice_low (str L) 1 (by omega) 1 rfl u
          simp only [hx1.out] at hsl
          have n2 : ms.length ≤ 2 := by omega
          clear hkl2
          clear q0 q1 q2 hrx hac hap hmid hkb hsyr hels
          by_cases hw1 : pickW (ltB y) (applicV y (str [a]) (ms.map (kindM y))) = wOne
          · obtain ⟨i, hpi, hif, hap, hel⟩ := elCall_one hw1
            obtain ⟨fb, foff, B1, cb1, B2, cb2, rfl, hfb1, hfb2, -, k1, k2, -, -, -, -, -, hfa⟩ := HV.out.2.at_ hif
            rw [hpi, hw1] at HRS
            unfold wOne at HRS
            go_upto_region 16 with fail
            have HLD : Hid (∀ u, Below wr.heap.size wr u → u.cell? ⟨w.heap.size, 0, none⟩ = some (.slice A1 y.ty.sizes.length cap1) ∧ u.cell? ⟨w.heap.size, 1, none⟩ = some (.slice A2 y.ty.cos.length cap2) ∧ u.cell? ⟨w.heap.size, 2, none⟩ = some (.slice (some ⟨fb, foff, none⟩) y.fs.length cap3)) := fun u hu => ⟨(hu.cell (p := ⟨w.heap.size, 0, none⟩) hl1).trans K1.out.1, (hu.cell (p := ⟨w.heap.size, 1, none⟩) hl1).trans K1.out.2.1, (hu.cell (p := ⟨w.heap.size, 2, none⟩) hl1).trans K1.out.2.2⟩
            have HST : Hid (Below wr.heap.size wr wr.drew) := (Below.refl _ _).drew
            refine wp_region_inv (by kernel_rfl) (fun dn ac u => ∃ x67 x68 x69 x70 x71 x66 x72 x73 x16 x17, ac = ⟨List.toArray (.agg #[.slice A1 y.ty.sizes.length cap1, .slice A2 y.ty.cos.length cap2, .slice (some ⟨fb, foff, none⟩) y.fs.length cap3] :: .string (str L) :: .pointer (some ⟨w.heap.size, 0, none⟩) :: undef :: u4 :: u5 :: u6 :: undef :: undef :: .slice PA2 ms.length PC2 :: .slice KA ms.length KC :: undef :: u12 :: u13 :: u14 :: u15 :: x16 :: x17 :: undef :: .string (str L) :: .int .u8 40 :: .bool false :: undef :: undef :: undef :: undef :: undef :: undef :: undef :: undef :: undef :: undef :: undef :: undef :: undef :: undef :: undef :: undef :: .slice (some ⟨w.heap.size + 1, 0, none⟩) 0 0 :: .slice (some ⟨w.heap.size + 1 + 1, 0, none⟩) 0 0 :: .string (str L) :: .slice PA ts.length PC :: .int .i64 ((ts.length : Nat) : Int) :: .int .i64 ((ms.length : Nat) : Int) :: .bool false :: u45 :: u46 :: u47 :: u48 :: u49 :: u50 :: u51 :: u52 :: u53 :: u54 :: u55 :: u56 :: u57 :: u58 :: u59 :: u60 :: u61 :: u62 :: u63 :: u64 :: u65 :: x66 :: x67 :: x68 :: x69 :: x70 :: x71 :: x72 :: x73 :: undef :: undef :: undef :: undef :: undef :: undef :: undef :: undef :: undef :: undef :: undef :: undef :: undef :: undef :: undef :: undef :: undef :: undef :: undef :: undef :: undef :: undef :: undef :: undef :: undef :: undef :: undef :: undef :: undef :: undef :: undef :: undef :: undef :: undef :: undef :: undef :: undef :: undef :: undef :: undef :: []), []⟩ ∧ DetQ [fun v : Value => v = .agg #[.slice A1 y.ty.sizes.length cap1, .slice A2 y.ty.cos.length cap2, .slice (some ⟨fb, foff, none⟩) y.fs.length cap3], fun v : Value => v = .string (str L), fun v : Value => v = .string (str [a]), fun v : Value => v = .slice KA ms.length KC, fun v : Value => v = .tuple #[.int .i64 ((i : Nat) : Int), .string ⟨#[111, 110, 101]⟩], fun v : Value => v = .tuple #[.int .i64 ((i : Nat) : Int), .string ⟨#[111, 110, 101]⟩], fun v : Value => v = .int .i64 ((i : Nat) : Int), fun v : Value => v = .string ⟨#[111, 110, 101]⟩, fun v : Value => v = .int .i64 ((i : Nat) : Int), fun v : Value => v = .string ⟨#[111, 110, 101]⟩] dn [x67, x68, x69, x70, x71, x66, x72, x73, x16, x17] ∧ Ch dn [4] (fun _ u => Below wr.heap.size wr u) u ∧ True) (of_decide_eq_true (by kernel_rfl)) ⟨_, _, _, _, _, _, _, _, _, _, rfl, DetQ.start (by rfl), Ch.start HST.out, trivial⟩ ?_ ?_
            · rintro dn ac u i8 op8 hop hfi hdep ⟨x67, x68, x69, x70, x71, x66, x72, x73, x16, x17, rfl, hD, hC, -⟩
              have hil : i8 < 10 := by have := (Array.getElem?_eq_some_iff.1 hop).1; simpa using this
              obtain rfl | rfl | rfl | rfl | rfl | rfl | rfl | rfl | rfl | rfl : i8 = 0 ∨ i8 = 1 ∨ i8 = 2 ∨ i8 = 3 ∨ i8 = 4 ∨ i8 = 5 ∨ i8 = 6 ∨ i8 = 7 ∨ i8 = 8 ∨ i8 = 9 := by omega
              all_goals
                obtain rfl := Option.some.inj hop
                refine wpOp_step hop fun K hK => ?_
                simp [Region.binds] at hdep
                clear hop
              · obtain ⟨j8, hj8, -, hW⟩ := hC.ex
                have hbu : Below wr.heap.size wr u := hW
                clear hW
                obtain ⟨d1, d2, d3⟩ := HLD.out u hbu
                refine det_yes rfl ?_
                have HD := Lib.hid hD
                have HC := Lib.hid hC
                clear hD hC
                unfold Oper.wp
                go_simp
                exact hK _ _ ⟨_, _, _, _, _, _, _, _, _, _, rfl, HD.out.step 0 rfl rfl, HC.out.other 0 (by decide), trivial⟩
              · refine det_yes rfl ?_
                have HD := Lib.hid hD
                have HC := Lib.hid hC
                clear hD hC
                unfold Oper.wp
                go_simp
                exact hK _ _ ⟨_, _, _, _, _, _, _, _, _, _, rfl, HD.out.step 1 rfl rfl, HC.out.other 1 (by decide), trivial⟩
              · obtain rfl : x68 = .string (str L) := hD.get (P := fun v : Value => v = .string (str L)) 1 (by simp [hdep]) rfl rfl
                obtain ⟨j8, hj8, -, hW⟩ := hC.ex
                clear hW
                have d1 := hsl u
                refine det_yes rfl ?_
                have HD := Lib.hid hD
                have HC := Lib.hid hC
                clear hD hC
                unfold Oper.wp
                go_simp
                exact hK _ _ ⟨_, _, _, _, _, _, _, _, _, _, rfl, HD.out.step 2 rfl rfl, HC.out.other 2 (by decide), trivial⟩
              · refine det_yes rfl ?_
                have HD := Lib.hid hD
                have HC := Lib.hid hC
                clear hD hC
                unfold Oper.wp
                go_simp
                exact hK _ _ ⟨_, _, _, _, _, _, _, _, _, _, rfl, HD.out.step 3 rfl rfl, HC.out.other 3 (by decide), trivial⟩
              · obtain rfl : x67 = .agg #[.slice A1 y.ty.sizes.length cap1, .slice A2 y.ty.cos.length cap2, .slice (some ⟨fb, foff, none⟩) y.fs.length cap3] := hD.get (P := fun v : Value => v = .agg #[.slice A1 y.ty.sizes.length cap1, .slice A2 y.ty.cos.length cap2, .slice (some ⟨fb, foff, none⟩) y.fs.length cap3]) 0 (by simp [hdep]) rfl rfl
                obtain rfl : x69 = .string (str [a]) := hD.get (P := fun v : Value => v = .string (str [a])) 2 (by simp [hdep]) rfl rfl
                obtain rfl : x70 = .slice KA ms.length KC := hD.get (P := fun v : Value => v = .slice KA ms.length KC) 3 (by simp [hdep]) rfl rfl
                have hW := hC.at_ 0 (by decide) hfi (by intro j9 e9 _; omega)
                refine det_yes rfl ?_
                have HD := Lib.hid hD
                have HC := Lib.hid hC
                clear hD hC
                have hbu : Below wr.heap.size wr u := hW
                clear hW
                unfold Oper.wp
                go_simp
                refine (HRS.out u hbu).mono ?_
                rintro e u2 ⟨rfl, hb8⟩
                have HW2 : (fun _ u => Below wr.heap.size wr u) 1 u2 := hbu.trans (hb8.mono hbu.size)
                exact hK _ _ ⟨_, _, _, _, _, _, _, _, _, _, rfl, HD.out.step 4 rfl (by rfl), HC.out.next 0 (by decide) hfi (by intro j9 e9 _; omega) (by decide) HW2, trivial⟩
              · obtain rfl : x71 = .tuple #[.int .i64 ((i : Nat) : Int), .string ⟨#[111, 110, 101]⟩] := hD.get (P := fun v : Value => v = .tuple #[.int .i64 ((i : Nat) : Int), .string ⟨#[111, 110, 101]⟩]) 4 (by simp [hdep]) rfl rfl
                refine det_yes rfl ?_
                have HD := Lib.hid hD
                have HC := Lib.hid hC
                clear hD hC
                unfold Oper.wp
                go_simp
                exact hK _ _ ⟨_, _, _, _, _, _, _, _, _, _, rfl, HD.out.step 5 rfl rfl, HC.out.other 5 (by decide), trivial⟩
              · obtain rfl : x66 = .tuple #[.int .i64 ((i : Nat) : Int), .string ⟨#[111, 110, 101]⟩] := hD.get (P := fun v : Value => v = .tuple #[.int .i64 ((i : Nat) : Int), .string ⟨#[111, 110, 101]⟩]) 5 (by simp [hdep]) rfl rfl
                refine det_yes rfl ?_
                have HD := Lib.hid hD
                have HC := Lib.hid hC
                clear hD hC
                unfold Oper.wp
                go_simp
                exact hK _ _ ⟨_, _, _, _, _, _, _, _, _, _, rfl, HD.out.step 6 rfl rfl, HC.out.other 6 (by decide), trivial⟩
              · obtain rfl : x66 = .tuple #[.int .i64 ((i : Nat) : Int), .string ⟨#[111, 110, 101]⟩] := hD.get (P := fun v : Value => v = .tuple #[.int .i64 ((i : Nat) : Int), .string ⟨#[111, 110, 101]⟩]) 5 (by simp [hdep]) rfl rfl
                refine det_yes rfl ?_
                have HD := Lib.hid hD
                have HC := Lib.hid hC
                clear hD hC
                unfold Oper.wp
                go_simp
                exact hK _ _ ⟨_, _, _, _, _, _, _, _, _, _, rfl, HD.out.step 7 rfl rfl, HC.out.other 7 (by decide), trivial⟩
              · obtain rfl : x72 = .int .i64 ((i : Nat) : Int) := hD.get (P := fun v : Value => v = .int .i64 ((i : Nat) : Int)) 6 (by simp [hdep]) rfl rfl
                refine det_yes rfl ?_
                have HD := Lib.hid hD
                have HC := Lib.hid hC
                clear hD hC
                unfold Oper.wp
                go_simp
                exact hK _ _ ⟨_, _, _, _, _, _, _, _, _, _, rfl, HD.out.step 8 rfl rfl, HC.out.other 8 (by decide), trivial⟩
              · obtain rfl : x73 = .string ⟨#[111, 110, 101]⟩ := hD.get (P := fun v : Value => v = .string ⟨#[111, 110, 101]⟩) 7 (by simp [hdep]) rfl rfl
                refine det_yes rfl ?_
                have HD := Lib.hid hD
                have HC := Lib.hid hC
                clear hD hC
                unfold Oper.wp
                go_simp
                exact hK _ _ ⟨_, _, _, _, _, _, _, _, _, _, rfl, HD.out.step 9 rfl rfl, HC.out.other 9 (by decide), trivial⟩
            · rintro dn ac u hall ⟨x67, x68, x69, x70, x71, x66, x72, x73, x16, x17, rfl, hD, hC, -⟩
              obtain rfl : x67 = .agg #[.slice A1 y.ty.sizes.length cap1, .slice A2 y.ty.cos.length cap2, .slice (some ⟨fb, foff, none⟩) y.fs.length cap3] := hD.get (P := fun v : Value => v = .agg #[.slice A1 y.ty.sizes.length cap1, .slice A2 y.ty.cos.length cap2, .slice (some ⟨fb, foff, none⟩) y.fs.length cap3]) 0 (hall 0 (by decide)) rfl rfl
              obtain rfl : x68 = .string (str L) := hD.get (P := fun v : Value => v = .string (str L)) 1 (hall 1 (by decide)) rfl rfl
              obtain rfl : x69 = .string (str [a]) := hD.get (P := fun v : Value => v = .string (str [a])) 2 (hall 2 (by decide)) rfl rfl
              obtain rfl : x70 = .slice KA ms.length KC := hD.get (P := fun v : Value => v = .slice KA ms.length KC) 3 (hall 3 (by decide)) rfl rfl
              obtain rfl : x71 = .tuple #[.int .i64 ((i : Nat) : Int), .string ⟨#[111, 110, 101]⟩] := hD.get (P := fun v : Value => v = .tuple #[.int .i64 ((i : Nat) : Int), .string ⟨#[111, 110, 101]⟩]) 4 (hall 4 (by decide)) rfl rfl
              obtain rfl : x66 = .tuple #[.int .i64 ((i : Nat) : Int), .string ⟨#[111, 110, 101]⟩] := hD.get (P := fun v : Value => v = .tuple #[.int .i64 ((i : Nat) : Int), .string ⟨#[111, 110, 101]⟩]) 5 (hall 5 (by decide)) rfl rfl
              obtain rfl : x72 = .int .i64 ((i : Nat) : Int) := hD.get (P := fun v : Value => v = .int .i64 ((i : Nat) : Int)) 6 (hall 6 (by decide)) rfl rfl
              obtain rfl : x73 = .string ⟨#[111, 110, 101]⟩ := hD.get (P := fun v : Value => v = .string ⟨#[111, 110, 101]⟩) 7 (hall 7 (by decide)) rfl rfl
              obtain rfl : x16 = .int .i64 ((i : Nat) : Int) := hD.get (P := fun v : Value => v = .int .i64 ((i : Nat) : Int)) 8 (hall 8 (by decide)) rfl rfl
              obtain rfl : x17 = .string ⟨#[111, 110, 101]⟩ := hD.get (P := fun v : Value => v = .string ⟨#[111, 110, 101]⟩) 9 (hall 9 (by decide)) rfl rfl
              have hW := hC.all (by intro j9 h9; exact hall _ (by revert j9; decide))
              clear hall hD hC
              have HB8 : Hid (Below wr.heap.size wr u) := hW
              clear hW
              have HX8 : Hid (Below (w.heap.size + 1) wb u) := hxr.out.trans (HB8.out.mono (by omega))
              have hs8 := HB8.out.size
              have HP8 : Hid (u.ownsRow (w.heap.size + 1) 9 1 (.slice PA2 ms.length PC2) ms.length (strVs (ms.map mkT))) := ownsRow_below hpr.out HB8.out (Nat.le_refl _)
              have HC8 : Hid (u.ownsRow (w.heap.size + 1) 3 1 (.slice KA ms.length KC) ms.length (kindVs y ms)) := ownsRow_below hcr.out HB8.out (Nat.le_refl _)
              obtain ⟨gp, hgp⟩ : ∃ gp, w.heap.size + 1 ≤ gp ∧ (0 < ms.length → PA2 = some ⟨gp, 0, none⟩ ∧ gp < u.heap.size ∧ ms.length ≤ PC2 ∧ ∃ cs, Row u gp 9 cs ∧ cs.take ms.length = strVs (wrapL y y.fs[i].args ms 0)) := own_row8 (ys := strVs (wrapL y y.fs[i].args ms 0)) HP8.out (by rw [wrapL_zero])
              obtain ⟨gk, hgk⟩ : ∃ gk, 0 < ms.length → KA = some ⟨gk, 0, none⟩ ∧ gk ≠ gp ∧ gk < u.heap.size ∧ ∀ j, ∀ (hj : j < ms.length), u.cell? ⟨gk, j, none⟩ = some (.int .i64 (kindM y ms[j])) := by
                by_cases h0 : 0 < ms.length
                · obtain ⟨g, hKA, hg3, hgw, hcp, hcells⟩ := own_cells HC8.out h0
                  refine ⟨g, fun _ => ⟨hKA, ?_, hgw, fun j hj => (hcells j hj).trans (by simp [kindVs, hj])⟩⟩
                  rintro rfl
                  subst hKA
                  exact hne.out g (by rw [(hgp.2 h0).1]; rfl) rfl
                · exact ⟨0, fun h => absurd h h0⟩
              have HGP := Lib.hid hgp
              have HGK := Lib.hid hgk
              have HFIN : Hid (elRes y t = .tuple #[.string (str (64 :: callL (dg (i : Int)) ((coArgs y y.fs[i].args ms 0).map mkT))), .int .i64 y.fs[i].res, .string wOk]) := by
                show _ = _
                rw [elRes_ok (HEL.out.trans hel), mkT_mkA i (by rw [coArgs_len]; exact n2), kindM_mkA]
                simp [hif]
              have HAP := Lib.hid hap
              have hi8 : i ≤ 9 := by have := hy.few; omega
              have hll := hgp.1
              clear hgp hgk HP8 HC8 hne K1 HLD HST hsl HEL hel hpr hcr HKS
              go_wp2_with fail
              go_loopw [79] (fun ix wx => ∃ k : Nat, k ≤ ms.length ∧ ix = .int .i64 k ∧ u.heap.size ≤ wx.heap.size ∧ Hid (Keep gp u wx) ∧ Hid (0 < ms.length → ∃ cs, Row wx gp 9 cs ∧ cs.take ms.length = strVs (wrapL y y.fs[i].args ms k))) (fun ix _ => ms.length - (intOf ix).toNat)
              case atStart => exact ⟨0, Nat.zero_le _, rfl, Nat.le_refl _, Keep.refl _ _, fun h0 => (HGP.out.2 h0).2.2.2⟩
              case round =>
                obtain ⟨k, hk, rfl, hsx, hkx, hrw⟩ := hrel
                obtain ⟨wx, rfl⟩ : ∃ wx, wx = wr := ⟨_, rfl⟩
                by_cases hkl : k < ms.length
                · obtain ⟨ePA, hgpu, hcpP, -⟩ := HGP.out.2 (by omega)
                  obtain ⟨eKA, hgkp, hgku, hkc⟩ := HGK.out (by omega)
                  subst ePA
                  subst eKA
                  obtain ⟨cs, hrow, hcs⟩ := hrw.out (by omega)
                  have hkcs : k < cs.length := by
                    have h1 := congrArg List.length hcs
                    rw [List.length_take] at h1
                    simp [strVs, wrapL_len y y.fs[i].args ms hk] at h1
                    omega
                  have hargl := HAP.out.1
                  have hka : k < y.fs[i].args.length := by rw [← hargl]; simpa using hkl
                  obtain ⟨ab, ao, rfl, _, hab, d0, _⟩ := hfa.2.2.2.2.1.at_ hka
                  have hcan := HAP.out.2 k (by simpa using hkl)
                  rw [getD_of (by simpa using hkl), getD_of hka, List.getElem_map] at hcan
                  have htb : typesB y.ty (kindM y ms[k]) y.fs[i].args[k] = true := by
                    unfold canC at hcan
                    simp only [Bool.and_eq_true] at hcan
                    exact hcan.1
                  have hmk := HOKS.out ms[k] (List.getElem_mem hkl)
                  obtain ⟨-, -, hdig⟩ := coM_ok (tyOk_few hy.ty) _ _ hmk (shortV_end hcan)
                  have hnew : mkT (coM (shortV y.ty (kindM y ms[k]) y.fs[i].args[k]) ms[k]) = wrT (mkT ms[k]) (shortV y.ty (kindM y ms[k]) y.fs[i].args[k]) := coM_text _ _ hdig
                  have HSET : Hid ((wrapL y y.fs[i].args ms k).set k (wrT (mkT ms[k]) (shortV y.ty (kindM y ms[k]) y.fs[i].args[k])) = wrapL y y.fs[i].args ms (k + 1)) := wrapL_set y _ ms hkl (by rw [← hnew, getD_of hka])
                  have hold : cs[k]? = some (.string (str (mkT ms[k]))) := by
                    have h1 : (cs.take ms.length)[k]? = cs[k]? := List.getElem?_take_of_lt hkl
                    rw [← h1, hcs]
                    simp [strVs, wrapL_old y y.fs[i].args ms hkl]
                  have HLD : Hid (∀ v : World, Keep gp wx v → v.cell? ⟨w.heap.size, 0, none⟩ = some (.slice A1 y.ty.sizes.length cap1) ∧ v.cell? ⟨w.heap.size, 1, none⟩ = some (.slice A2 y.ty.cos.length cap2) ∧ v.cell? ⟨w.heap.size, 2, none⟩ = some (.slice (some ⟨fb, foff, none⟩) y.fs.length cap3) ∧
                      v.cell? ⟨gk, k, none⟩ = some (.int .i64 (kindM y ms[k])) ∧ v.cell? ⟨fb, foff + i * 4 + 1, none⟩ = some (.slice (some ⟨ab, ao, none⟩) y.fs[i].args.length cb1) ∧ v.cell? ⟨ab, ao + k, none⟩ = some (.int .i64 y.fs[i].args[k]) ∧ SyAt v lo hi (.slice A1 y.ty.sizes.length cap1) (.slice A2 y.ty.cos.length cap2) (.slice (some ⟨fb, foff, none⟩) y.fs.length cap3) y) := fun v hv8 => by
                    have hk8 := hkx.out.trans hv8
                    have hrx := (HRX.out.below HX8.out (by omega)).keep (hk8.block (k := w.heap.size) (by omega) (by omega))
                    have hblk : ∀ b, b < w.heap.size → v.heap[b]? = w.heap[b]? := fun b hb => (hk8.block (by omega) (by omega)).trans ((HX8.out.block b (by omega)).trans (HBX0.out.block b hb))
                    refine ⟨hrx.cell 0, hrx.cell 1, hrx.cell 2, (World.cell?_of_block (w := u) (hk8.block hgku hgkp)).trans (hkc k hkl), (World.cell?_of_block (w := w) (hblk fb (by omega))).trans k1, (World.cell?_of_block (w := w) (hblk ab (by omega))).trans d0, HV.out.keep fun b _ hb => hblk b (by omega)⟩
                  have Hrow := Lib.hid hrow
                  have Hcs := Lib.hid hcs
                  have hlM := HLENS.out ms[k] (List.getElem_mem hkl)
                  obtain ⟨TX, hTX⟩ : ∃ TX, TX = mkT ms[k] := ⟨_, rfl⟩
                  obtain ⟨KD, hKD⟩ : ∃ KD, KD = kindM y ms[k] := ⟨_, rfl⟩
                  obtain ⟨AR, hAR⟩ : ∃ AR, AR = y.fs[i].args[k] := ⟨_, rfl⟩
                  rw [← hTX] at hold hlM
                  rw [← hTX, ← hKD, ← hAR] at HSET
                  rw [← hKD, ← hAR] at HLD htb
                  have HOLD := Lib.hid hold
                  have HCO : Hid (∀ v : World, Below wx.heap.size wx v → Calls Tryz.prog 47 #[.agg #[.slice A1 y.ty.sizes.length cap1, .slice A2 y.ty.cos.length cap2, .slice (some ⟨fb, foff, none⟩) y.fs.length cap3], .string (str TX), .int .i64 KD, .int .i64 AR] v fun e w' => e = .returned (.string (str (wrT TX (shortV y.ty KD AR)))) ∧ Below v.heap.size v w') := fun v hv8 =>
                    l7Coerced_any lo hi _ _ _ y TX KD AR v (HLD.out v ((Keep.refl gp wx).of_below hv8)).2.2.2.2.2.2 (Nat.le_trans (by omega) hv8.size) htb (by omega)
                  obtain ⟨NW, hNW⟩ : ∃ NW, NW = wrT TX (shortV y.ty KD AR) := ⟨_, rfl⟩
                  rw [← hNW] at HCO HSET
                  have hilt : (i : Int) < (y.fs.length : Int) := by omega
                  have hklt : (k : Int) < (ms.length : Int) := by omega
                  have hkat : (k : Int) < (y.fs[i].args.length : Int) := by omega
                  clear hrow hcs hrw hTX hKD hAR hNW hcan hmk hdig hnew htb hargl d0 hkc hold
                  go_upto_region 22 with fail
                  have HST : Hid (Below wx.heap.size wx wx.drew) := (Below.refl _ _).drew
                  refine wp_region_inv (by kernel_rfl) (fun dn ac u => ∃ x82 x83 x84 x85 x86 x87 x88 x89 x90 x91 x92 x93 x94 x95 x96 x97 x98 x99 x100 x101 x102 x103 y22, ac = ⟨List.toArray (.agg #[.slice A1 y.ty.sizes.length cap1, .slice A2 y.ty.cos.length cap2, .slice (some ⟨fb, foff, none⟩) y.fs.length cap3] :: .string (str L) :: .pointer (some ⟨w.heap.size, 0, none⟩) :: undef :: u4 :: u5 :: u6 :: undef :: undef :: .slice (some ⟨gp, 0, none⟩) ms.length PC2 :: .slice (some ⟨gk, 0, none⟩) ms.length KC :: undef :: u12 :: u13 :: u14 :: u15 :: .int .i64 ((i : Nat) : Int) :: .string ⟨#[111, 110, 101]⟩ :: .int .i64 ((k : Nat) : Int) :: .string (str L) :: .int .u8 40 :: .bool false :: undef :: undef :: undef :: undef :: undef :: undef :: undef :: undef :: undef :: undef :: undef :: undef :: undef :: undef :: undef :: undef :: .slice (some ⟨w.heap.size + 1, 0, none⟩) 0 0 :: .slice (some ⟨w.heap.size + 1 + 1, 0, none⟩) 0 0 :: .string (str L) :: .slice PA ts.length PC :: .int .i64 ((ts.length : Nat) : Int) :: .int .i64 ((ms.length : Nat) : Int) :: .bool false :: u45 :: u46 :: u47 :: u48 :: u49 :: u50 :: u51 :: u52 :: u53 :: u54 :: u55 :: u56 :: u57 :: u58 :: u59 :: u60 :: u61 :: u62 :: u63 :: u64 :: u65 :: .tuple #[.int .i64 ((i : Nat) : Int), .string ⟨#[111, 110, 101]⟩] :: .agg #[.slice A1 y.ty.sizes.length cap1, .slice A2 y.ty.cos.length cap2, .slice (some ⟨fb, foff, none⟩) y.fs.length cap3] :: .string (str L) :: .string (str [a]) :: .slice (some ⟨gk, 0, none⟩) ms.length KC :: .tuple #[.int .i64 ((i : Nat) : Int), .string ⟨#[111, 110, 101]⟩] :: .int .i64 ((i : Nat) : Int) :: .string ⟨#[111, 110, 101]⟩ :: .string ⟨#[111, 110, 101]⟩ :: .bool false :: undef :: .slice (some ⟨gp, 0, none⟩) ms.length PC2 :: .int .i64 ((ms.length : Nat) : Int) :: .int .i64 ((k : Nat) : Int) :: .bool true :: .int .i64 ((k : Nat) : Int) :: x82 :: x83 :: x84 :: x85 :: x86 :: x87 :: x88 :: x89 :: x90 :: x91 :: x92 :: x93 :: x94 :: x95 :: x96 :: x97 :: x98 :: x99 :: x100 :: x101 :: x102 :: x103 :: u104 :: undef :: undef :: undef :: undef :: undef :: undef :: undef :: undef :: undef :: []), []⟩ ∧ DetQ [fun v : Value => v = .slice (some ⟨gp, 0, none⟩) ms.length PC2, fun v : Value => v = .int .i64 ((k : Nat) : Int), fun v : Value => v = .agg #[.slice A1 y.ty.sizes.length cap1, .slice A2 y.ty.cos.length cap2, .slice (some ⟨fb, foff, none⟩) y.fs.length cap3], fun v : Value => v = .slice (some ⟨gp, 0, none⟩) ms.length PC2, fun v : Value => v = .int .i64 ((k : Nat) : Int), fun v : Value => v = .pointer (some ⟨gp, k, none⟩), fun v : Value => v = .string (str TX), fun v : Value => v = .slice (some ⟨gk, 0, none⟩) ms.length KC, fun v : Value => v = .int .i64 ((k : Nat) : Int), fun v : Value => v = .pointer (some ⟨gk, k, none⟩), fun v : Value => v = .int .i64 KD, fun v : Value => v = .pointer (some ⟨w.heap.size, 2, none⟩), fun v : Value => v = .slice (some ⟨fb, foff, none⟩) y.fs.length cap3, fun v : Value => v = .int .i64 ((i : Nat) : Int), fun v : Value => v = .pointer (some ⟨fb, foff + i * 4, none⟩), fun v : Value => v = .pointer (some ⟨fb, foff + i * 4 + 1, none⟩), fun v : Value => v = .slice (some ⟨ab, ao, none⟩) y.fs[i].args.length cb1, fun v : Value => v = .int .i64 ((k : Nat) : Int), fun v : Value => v = .pointer (some ⟨ab, ao + k, none⟩), fun v : Value => v = .int .i64 AR, fun v : Value => v = .string (str NW), fun v : Value => v = .pointer (some ⟨gp, k, none⟩), fun v : Value => True] dn [x82, x83, x84, x85, x86, x87, x88, x89, x90, x91, x92, x93, x94, x95, x96, x97, x98, x99, x100, x101, x102, x103, y22] ∧ Ch dn [20, 22] (W22 wx ⟨gp, k, none⟩ (.string (str NW))) u ∧ (dn 22 = true → dn 6 = true)) (of_decide_eq_true (by kernel_rfl)) ⟨_, _, _, _, _, _, _, _, _, _, _, _, _, _, _, _, _, _, _, _, _, _, .bool true, rfl, DetQ.start (by rfl), Ch.start HST.out, (fun h => (by cases h))⟩ ?_ ?_
                  · rintro dn ac u i8 op8 hop hfi hdep ⟨x82, x83, x84, x85, x86, x87, x88, x89, x90, x91, x92, x93, x94, x95, x96, x97, x98, x99, x100, x101, x102, x103, y22, rfl, hD, hC, hc0⟩
                    have hil : i8 < 23 := by have := (Array.getElem?_eq_some_iff.1 hop).1; simpa using this
                    obtain rfl | rfl | rfl | rfl | rfl | rfl | rfl | rfl | rfl | rfl | rfl | rfl | rfl | rfl | rfl | rfl | rfl | rfl | rfl | rfl | rfl | rfl | rfl : i8 = 0 ∨ i8 = 1 ∨ i8 = 2 ∨ i8 = 3 ∨ i8 = 4 ∨ i8 = 5 ∨ i8 = 6 ∨ i8 = 7 ∨ i8 = 8 ∨ i8 = 9 ∨ i8 = 10 ∨ i8 = 11 ∨ i8 = 12 ∨ i8 = 13 ∨ i8 = 14 ∨ i8 = 15 ∨ i8 = 16 ∨ i8 = 17 ∨ i8 = 18 ∨ i8 = 19 ∨ i8 = 20 ∨ i8 = 21 ∨ i8 = 22 := by omega
                    all_goals
                      obtain rfl := Option.some.inj hop
                      refine wpOp_step hop fun K hK => ?_
                      simp [Region.binds] at hdep
                      clear hop
                    · refine det_yes rfl ?_
                      have HD := Lib.hid hD
                      have HC := Lib.hid hC
                      clear hD hC
                      unfold Oper.wp
                      go_simp
                      exact hK _ _ ⟨_, _, _, _, _, _, _, _, _, _, _, _, _, _, _, _, _, _, _, _, _, _, y22, rfl, HD.out.step 0 rfl rfl, HC.out.other 0 (by decide), (fun h => (by have h2 := hc0; have h3 := hfi; simp at h h2 ⊢; first | done | exact h2 h | exact Or.inr (h2 h) | simp [hdep] | (rcases h with h | h; · simp_all; · exact Or.inr (h2 h)) | simp_all))⟩
                    · refine det_yes rfl ?_
                      have HD := Lib.hid hD
                      have HC := Lib.hid hC
                      clear hD hC
                      unfold Oper.wp
                      go_simp
                      exact hK _ _ ⟨_, _, _, _, _, _, _, _, _, _, _, _, _, _, _, _, _, _, _, _, _, _, y22, rfl, HD.out.step 1 rfl rfl, HC.out.other 1 (by decide), (fun h => (by have h2 := hc0; have h3 := hfi; simp at h h2 ⊢; first | done | exact h2 h | exact Or.inr (h2 h) | simp [hdep] | (rcases h with h | h; · simp_all; · exact Or.inr (h2 h)) | simp_all))⟩
                    · obtain ⟨j8, hj8, -, hW⟩ := hC.ex
                      have hq := W22.keep (g := gp) rfl hW
                      clear hW
                      obtain ⟨d1, d2, d3, -⟩ := HLD.out u hq
                      refine det_yes rfl ?_
                      have HD := Lib.hid hD
                      have HC := Lib.hid hC
                      clear hD hC
                      unfold Oper.wp
                      go_simp
                      exact hK _ _ ⟨_, _, _, _, _, _, _, _, _, _, _, _, _, _, _, _, _, _, _, _, _, _, y22, rfl, HD.out.step 2 rfl rfl, HC.out.other 2 (by decide), (fun h => (by have h2 := hc0; have h3 := hfi; simp at h h2 ⊢; first | done | exact h2 h | exact Or.inr (h2 h) | simp [hdep] | (rcases h with h | h; · simp_all; · exact Or.inr (h2 h)) | simp_all))⟩
                    · refine det_yes rfl ?_
                      have HD := Lib.hid hD
                      have HC := Lib.hid hC
                      clear hD hC
                      unfold Oper.wp
                      go_simp
                      exact hK _ _ ⟨_, _, _, _, _, _, _, _, _, _, _, _, _, _, _, _, _, _, _, _, _, _, y22, rfl, HD.out.step 3 rfl rfl, HC.out.other 3 (by decide), (fun h => (by have h2 := hc0; have h3 := hfi; simp at h h2 ⊢; first | done | exact h2 h | exact Or.inr (h2 h) | simp [hdep] | (rcases h with h | h; · simp_all; · exact Or.inr (h2 h)) | simp_all))⟩
                    · refine det_yes rfl ?_
                      have HD := Lib.hid hD
                      have HC := Lib.hid hC
                      clear hD hC
                      unfold Oper.wp
                      go_simp
                      exact hK _ _ ⟨_, _, _, _, _, _, _, _, _, _, _, _, _, _, _, _, _, _, _, _, _, _, y22, rfl, HD.out.step 4 rfl rfl, HC.out.other 4 (by decide), (fun h => (by have h2 := hc0; have h3 := hfi; simp at h h2 ⊢; first | done | exact h2 h | exact Or.inr (h2 h) | simp [hdep] | (rcases h with h | h; · simp_all; · exact Or.inr (h2 h)) | simp_all))⟩
                    · obtain rfl : x85 = .slice (some ⟨gp, 0, none⟩) ms.length PC2 := hD.get (P := fun v : Value => v = .slice (some ⟨gp, 0, none⟩) ms.length PC2) 3 (by simp [hdep]) rfl rfl
                      obtain rfl : x86 = .int .i64 ((k : Nat) : Int) := hD.get (P := fun v : Value => v = .int .i64 ((k : Nat) : Int)) 4 (by simp [hdep]) rfl rfl
                      refine det_yes rfl ?_
                      have HD := Lib.hid hD
                      have HC := Lib.hid hC
                      clear hD hC
                      unfold Oper.wp
                      go_simp
                      exact hK _ _ ⟨_, _, _, _, _, _, _, _, _, _, _, _, _, _, _, _, _, _, _, _, _, _, y22, rfl, HD.out.step 5 rfl rfl, HC.out.other 5 (by decide), (fun h => (by have h2 := hc0; have h3 := hfi; simp at h h2 ⊢; first | done | exact h2 h | exact Or.inr (h2 h) | simp [hdep] | (rcases h with h | h; · simp_all; · exact Or.inr (h2 h)) | simp_all))⟩
                    · obtain rfl : x87 = .pointer (some ⟨gp, k, none⟩) := hD.get (P := fun v : Value => v = .pointer (some ⟨gp, k, none⟩)) 5 (by simp [hdep]) rfl rfl
                      have hn : dn 22 = false := by
                        cases h : dn 22 with
                        | false => rfl
                        | true => have h := hc0 h; rw [hfi] at h; cases h
                      obtain ⟨j8, hj8, hW⟩ := hC.early 1 (by decide) hn
                      have hbu := W22.low hj8 hW
                      clear hW
                      have d1 := ((Hrow.out.below hbu Hrow.out.lt).cell k).trans HOLD.out
                      refine det_yes rfl ?_
                      have HD := Lib.hid hD
                      have HC := Lib.hid hC
                      clear hD hC
                      unfold Oper.wp
                      go_simp
                      exact hK _ _ ⟨_, _, _, _, _, _, _, _, _, _, _, _, _, _, _, _, _, _, _, _, _, _, y22, rfl, HD.out.step 6 rfl rfl, HC.out.other 6 (by decide), (fun h => (by have h2 := hc0; have h3 := hfi; simp at h h2 ⊢; first | done | exact h2 h | exact Or.inr (h2 h) | simp [hdep] | (rcases h with h | h; · simp_all; · exact Or.inr (h2 h)) | simp_all))⟩
                    · refine det_yes rfl ?_
                      have HD := Lib.hid hD
                      have HC := Lib.hid hC
                      clear hD hC
                      unfold Oper.wp
                      go_simp
                      exact hK _ _ ⟨_, _, _, _, _, _, _, _, _, _, _, _, _, _, _, _, _, _, _, _, _, _, y22, rfl, HD.out.step 7 rfl rfl, HC.out.other 7 (by decide), (fun h => (by have h2 := hc0; have h3 := hfi; simp at h h2 ⊢; first | done | exact h2 h | exact Or.inr (h2 h) | simp [hdep] | (rcases h with h | h; · simp_all; · exact Or.inr (h2 h)) | simp_all))⟩
                    · refine det_yes rfl ?_
                      have HD := Lib.hid hD
                      have HC := Lib.hid hC
                      clear hD hC
                      unfold Oper.wp
                      go_simp
                      exact hK _ _ ⟨_, _, _, _, _, _, _, _, _, _, _, _, _, _, _, _, _, _, _, _, _, _, y22, rfl, HD.out.step 8 rfl rfl, HC.out.other 8 (by decide), (fun h => (by have h2 := hc0; have h3 := hfi; simp at h h2 ⊢; first | done | exact h2 h | exact Or.inr (h2 h) | simp [hdep] | (rcases h with h | h; · simp_all; · exact Or.inr (h2 h)) | simp_all))⟩
                    · obtain rfl : x89 = .slice (some ⟨gk, 0, none⟩) ms.length KC := hD.get (P := fun v : Value => v = .slice (some ⟨gk, 0, none⟩) ms.length KC) 7 (by simp [hdep]) rfl rfl
                      obtain rfl : x90 = .int .i64 ((k : Nat) : Int) := hD.get (P := fun v : Value => v = .int .i64 ((k : Nat) : Int)) 8 (by simp [hdep]) rfl rfl
                      refine det_yes rfl ?_
                      have HD := Lib.hid hD
                      have HC := Lib.hid hC
                      clear hD hC
                      unfold Oper.wp
                      go_simp
                      exact hK _ _ ⟨_, _, _, _, _, _, _, _, _, _, _, _, _, _, _, _, _, _, _, _, _, _, y22, rfl, HD.out.step 9 rfl rfl, HC.out.other 9 (by decide), (fun h => (by have h2 := hc0; have h3 := hfi; simp at h h2 ⊢; first | done | exact h2 h | exact Or.inr (h2 h) | simp [hdep] | (rcases h with h | h; · simp_all; · exact Or.inr (h2 h)) | simp_all))⟩
                    · obtain rfl : x91 = .pointer (some ⟨gk, k, none⟩) := hD.get (P := fun v : Value => v = .pointer (some ⟨gk, k, none⟩)) 9 (by simp [hdep]) rfl rfl
                      obtain ⟨j8, hj8, -, hW⟩ := hC.ex
                      have hq := W22.keep (g := gp) rfl hW
                      clear hW
                      have d1 := (HLD.out u hq).2.2.2.1
                      refine det_yes rfl ?_
                      have HD := Lib.hid hD
                      have HC := Lib.hid hC
                      clear hD hC
                      unfold Oper.wp
                      go_simp
                      exact hK _ _ ⟨_, _, _, _, _, _, _, _, _, _, _, _, _, _, _, _, _, _, _, _, _, _, y22, rfl, HD.out.step 10 rfl rfl, HC.out.other 10 (by decide), (fun h => (by have h2 := hc0; have h3 := hfi; simp at h h2 ⊢; first | done | exact h2 h | exact Or.inr (h2 h) | simp [hdep] | (rcases h with h | h; · simp_all; · exact Or.inr (h2 h)) | simp_all))⟩
                    · refine det_yes rfl ?_
                      have HD := Lib.hid hD
                      have HC := Lib.hid hC
                      clear hD hC
                      unfold Oper.wp
                      go_simp
                      exact hK _ _ ⟨_, _, _, _, _, _, _, _, _, _, _, _, _, _, _, _, _, _, _, _, _, _, y22, rfl, HD.out.step 11 rfl rfl, HC.out.other 11 (by decide), (fun h => (by have h2 := hc0; have h3 := hfi; simp at h h2 ⊢; first | done | exact h2 h | exact Or.inr (h2 h) | simp [hdep] | (rcases h with h | h; · simp_all; · exact Or.inr (h2 h)) | simp_all))⟩
                    · obtain rfl : x93 = .pointer (some ⟨w.heap.size, 2, none⟩) := hD.get (P := fun v : Value => v = .pointer (some ⟨w.heap.size, 2, none⟩)) 11 (by simp [hdep]) rfl rfl
                      obtain ⟨j8, hj8, -, hW⟩ := hC.ex
                      have hq := W22.keep (g := gp) rfl hW
                      clear hW
                      have d1 := (HLD.out u hq).2.2.1
                      refine det_yes rfl ?_
                      have HD := Lib.hid hD
                      have HC := Lib.hid hC
                      clear hD hC
                      unfold Oper.wp
                      go_simp
                      exact hK _ _ ⟨_, _, _, _, _, _, _, _, _, _, _, _, _, _, _, _, _, _, _, _, _, _, y22, rfl, HD.out.step 12 rfl rfl, HC.out.other 12 (by decide), (fun h => (by have h2 := hc0; have h3 := hfi; simp at h h2 ⊢; first | done | exact h2 h | exact Or.inr (h2 h) | simp [hdep] | (rcases h with h | h; · simp_all; · exact Or.inr (h2 h)) | simp_all))⟩
                    · refine det_yes rfl ?_
                      have HD := Lib.hid hD
                      have HC := Lib.hid hC
                      clear hD hC
                      unfold Oper.wp
                      go_simp
                      exact hK _ _ ⟨_, _, _, _, _, _, _, _, _, _, _, _, _, _, _, _, _, _, _, _, _, _, y22, rfl, HD.out.step 13 rfl rfl, HC.out.other 13 (by decide), (fun h => (by have h2 := hc0; have h3 := hfi; simp at h h2 ⊢; first | done | exact h2 h | exact Or.inr (h2 h) | simp [hdep] | (rcases h with h | h; · simp_all; · exact Or.inr (h2 h)) | simp_all))⟩
                    · obtain rfl : x94 = .slice (some ⟨fb, foff, none⟩) y.fs.length cap3 := hD.get (P := fun v : Value => v = .slice (some ⟨fb, foff, none⟩) y.fs.length cap3) 12 (by simp [hdep]) rfl rfl
                      obtain rfl : x95 = .int .i64 ((i : Nat) : Int) := hD.get (P := fun v : Value => v = .int .i64 ((i : Nat) : Int)) 13 (by simp [hdep]) rfl rfl
                      refine det_yes rfl ?_
                      have HD := Lib.hid hD
                      have HC := Lib.hid hC
                      clear hD hC
                      unfold Oper.wp
                      go_simp
                      exact hK _ _ ⟨_, _, _, _, _, _, _, _, _, _, _, _, _, _, _, _, _, _, _, _, _, _, y22, rfl, HD.out.step 14 rfl rfl, HC.out.other 14 (by decide), (fun h => (by have h2 := hc0; have h3 := hfi; simp at h h2 ⊢; first | done | exact h2 h | exact Or.inr (h2 h) | simp [hdep] | (rcases h with h | h; · simp_all; · exact Or.inr (h2 h)) | simp_all))⟩
                    · obtain rfl : x96 = .pointer (some ⟨fb, foff + i * 4, none⟩) := hD.get (P := fun v : Value => v = .pointer (some ⟨fb, foff + i * 4, none⟩)) 14 (by simp [hdep]) rfl rfl
                      refine det_yes rfl ?_
                      have HD := Lib.hid hD
                      have HC := Lib.hid hC
                      clear hD hC
                      unfold Oper.wp
                      go_simp
                      exact hK _ _ ⟨_, _, _, _, _, _, _, _, _, _, _, _, _, _, _, _, _, _, _, _, _, _, y22, rfl, HD.out.step 15 rfl rfl, HC.out.other 15 (by decide), (fun h => (by have h2 := hc0; have h3 := hfi; simp at h h2 ⊢; first | done | exact h2 h | exact Or.inr (h2 h) | simp [hdep] | (rcases h with h | h; · simp_all; · exact Or.inr (h2 h)) | simp_all))⟩
                    · obtain rfl : x97 = .pointer (some ⟨fb, foff + i * 4 + 1, none⟩) := hD.get (P := fun v : Value => v = .pointer (some ⟨fb, foff + i * 4 + 1, none⟩)) 15 (by simp [hdep]) rfl rfl
                      obtain ⟨j8, hj8, -, hW⟩ := hC.ex
                      have hq := W22.keep (g := gp) rfl hW
                      clear hW
                      have d1 := (HLD.out u hq).2.2.2.2.1
                      refine det_yes rfl ?_
                      have HD := Lib.hid hD
                      have HC := Lib.hid hC
                      clear hD hC
                      unfold Oper.wp
                      go_simp
                      exact hK _ _ ⟨_, _, _, _, _, _, _, _, _, _, _, _, _, _, _, _, _, _, _, _, _, _, y22, rfl, HD.out.step 16 rfl rfl, HC.out.other 16 (by decide), (fun h => (by have h2 := hc0; have h3 := hfi; simp at h h2 ⊢; first | done | exact h2 h | exact Or.inr (h2 h) | simp [hdep] | (rcases h with h | h; · simp_all; · exact Or.inr (h2 h)) | simp_all))⟩
                    · refine det_yes rfl ?_
                      have HD := Lib.hid hD
                      have HC := Lib.hid hC
                      clear hD hC
                      unfold Oper.wp
                      go_simp
                      exact hK _ _ ⟨_, _, _, _, _, _, _, _, _, _, _, _, _, _, _, _, _, _, _, _, _, _, y22, rfl, HD.out.step 17 rfl rfl, HC.out.other 17 (by decide), (fun h => (by have h2 := hc0; have h3 := hfi; simp at h h2 ⊢; first | done | exact h2 h | exact Or.inr (h2 h) | simp [hdep] | (rcases h with h | h; · simp_all; · exact Or.inr (h2 h)) | simp_all))⟩
                    · obtain rfl : x98 = .slice (some ⟨ab, ao, none⟩) y.fs[i].args.length cb1 := hD.get (P := fun v : Value => v = .slice (some ⟨ab, ao, none⟩) y.fs[i].args.length cb1) 16 (by simp [hdep]) rfl rfl
                      obtain rfl : x99 = .int .i64 ((k : Nat) : Int) := hD.get (P := fun v : Value => v = .int .i64 ((k : Nat) : Int)) 17 (by simp [hdep]) rfl rfl
                      refine det_yes rfl ?_
                      have HD := Lib.hid hD
                      have HC := Lib.hid hC
                      clear hD hC
                      unfold Oper.wp
                      go_simp
                      exact hK _ _ ⟨_, _, _, _, _, _, _, _, _, _, _, _, _, _, _, _, _, _, _, _, _, _, y22, rfl, HD.out.step 18 rfl rfl, HC.out.other 18 (by decide), (fun h => (by have h2 := hc0; have h3 := hfi; simp at h h2 ⊢; first | done | exact h2 h | exact Or.inr (h2 h) | simp [hdep] | (rcases h with h | h; · simp_all; · exact Or.inr (h2 h)) | simp_all))⟩
                    · obtain rfl : x100 = .pointer (some ⟨ab, ao + k, none⟩) := hD.get (P := fun v : Value => v = .pointer (some ⟨ab, ao + k, none⟩)) 18 (by simp [hdep]) rfl rfl
                      obtain ⟨j8, hj8, -, hW⟩ := hC.ex
                      have hq := W22.keep (g := gp) rfl hW
                      clear hW
                      have d1 := (HLD.out u hq).2.2.2.2.2.1
                      refine det_yes rfl ?_
                      have HD := Lib.hid hD
                      have HC := Lib.hid hC
                      clear hD hC
                      unfold Oper.wp
                      go_simp
                      exact hK _ _ ⟨_, _, _, _, _, _, _, _, _, _, _, _, _, _, _, _, _, _, _, _, _, _, y22, rfl, HD.out.step 19 rfl rfl, HC.out.other 19 (by decide), (fun h => (by have h2 := hc0; have h3 := hfi; simp at h h2 ⊢; first | done | exact h2 h | exact Or.inr (h2 h) | simp [hdep] | (rcases h with h | h; · simp_all; · exact Or.inr (h2 h)) | simp_all))⟩
                    · obtain rfl : x84 = .agg #[.slice A1 y.ty.sizes.length cap1, .slice A2 y.ty.cos.length cap2, .slice (some ⟨fb, foff, none⟩) y.fs.length cap3] := hD.get (P := fun v : Value => v = .agg #[.slice A1 y.ty.sizes.length cap1, .slice A2 y.ty.cos.length cap2, .slice (some ⟨fb, foff, none⟩) y.fs.length cap3]) 2 (by simp [hdep]) rfl rfl
                      obtain rfl : x88 = .string (str TX) := hD.get (P := fun v : Value => v = .string (str TX)) 6 (by simp [hdep]) rfl rfl
                      obtain rfl : x92 = .int .i64 KD := hD.get (P := fun v : Value => v = .int .i64 KD) 10 (by simp [hdep]) rfl rfl
                      obtain rfl : x101 = .int .i64 AR := hD.get (P := fun v : Value => v = .int .i64 AR) 19 (by simp [hdep]) rfl rfl
                      have hW := hC.at_ 0 (by decide) hfi (by intro j9 e9 _; omega)
                      refine det_yes rfl ?_
                      have HD := Lib.hid hD
                      have HC := Lib.hid hC
                      clear hD hC
                      have hbu : Below wx.heap.size wx u := hW
                      clear hW
                      unfold Oper.wp
                      go_simp
                      refine (HCO.out u hbu).mono ?_
                      rintro e u2 ⟨rfl, hb8⟩
                      have HW2 : (W22 wx ⟨gp, k, none⟩ (.string (str NW))) 1 u2 := hbu.trans (hb8.mono hbu.size)
                      exact hK _ _ ⟨_, _, _, _, _, _, _, _, _, _, _, _, _, _, _, _, _, _, _, _, _, _, y22, rfl, HD.out.step 20 rfl (by rfl), HC.out.next 0 (by decide) hfi (by intro j9 e9 _; omega) (by decide) HW2, (fun h => (by have h2 := hc0; have h3 := hfi; simp at h h2 ⊢; first | done | exact h2 h | exact Or.inr (h2 h) | simp [hdep] | (rcases h with h | h; · simp_all; · exact Or.inr (h2 h)) | simp_all))⟩
                    · obtain rfl : x82 = .slice (some ⟨gp, 0, none⟩) ms.length PC2 := hD.get (P := fun v : Value => v = .slice (some ⟨gp, 0, none⟩) ms.length PC2) 0 (by simp [hdep]) rfl rfl
                      obtain rfl : x83 = .int .i64 ((k : Nat) : Int) := hD.get (P := fun v : Value => v = .int .i64 ((k : Nat) : Int)) 1 (by simp [hdep]) rfl rfl
                      refine det_yes rfl ?_
                      have HD := Lib.hid hD
                      have HC := Lib.hid hC
                      clear hD hC
                      unfold Oper.wp
                      go_simp
                      exact hK _ _ ⟨_, _, _, _, _, _, _, _, _, _, _, _, _, _, _, _, _, _, _, _, _, _, y22, rfl, HD.out.step 21 rfl rfl, HC.out.other 21 (by decide), (fun h => (by have h2 := hc0; have h3 := hfi; simp at h h2 ⊢; first | done | exact h2 h | exact Or.inr (h2 h) | simp [hdep] | (rcases h with h | h; · simp_all; · exact Or.inr (h2 h)) | simp_all))⟩
                    · obtain rfl : x103 = .pointer (some ⟨gp, k, none⟩) := hD.get (P := fun v : Value => v = .pointer (some ⟨gp, k, none⟩)) 21 (by simp [hdep]) rfl rfl
                      obtain rfl : x102 = .string (str NW) := hD.get (P := fun v : Value => v = .string (str NW)) 20 (by simp [hdep]) rfl rfl
                      have hW := hC.at_ 1 (by decide) hfi (by intro j9 e9 _; have f9 : j9 = 0 := (by omega); subst f9; simp [hdep])
                      refine det_yes rfl ?_
                      have HD := Lib.hid hD
                      have HC := Lib.hid hC
                      clear hD hC
                      have hbu : Below wx.heap.size wx u := hW
                      have hr8 := Hrow.out.below hbu Hrow.out.lt
                      have c7 := (hr8.cell k).trans HOLD.out
                      have f7 := hr8.frozen k
                      have HW2 : (W22 wx ⟨gp, k, none⟩ (.string (str NW))) 2 (u.setCell ⟨gp, k, none⟩ (.string (str NW))) := ⟨u, hbu, rfl⟩
                      clear hW hr8
                      unfold Oper.wp
                      go_simp
                      exact hK _ _ ⟨_, _, _, _, _, _, _, _, _, _, _, _, _, _, _, _, _, _, _, _, _, _, .bool true, rfl, HD.out.step 22 rfl (by trivial), HC.out.next 1 (by decide) hfi (by intro j9 e9 _; have f9 : j9 = 0 := (by omega); subst f9; simp [hdep]) (by decide) HW2, (fun h => (by have h2 := hc0; have h3 := hfi; simp at h h2 ⊢; first | done | exact h2 h | exact Or.inr (h2 h) | simp [hdep] | (rcases h with h | h; · simp_all; · exact Or.inr (h2 h)) | simp_all))⟩
                  · rintro dn ac u hall ⟨x82, x83, x84, x85, x86, x87, x88, x89, x90, x91, x92, x93, x94, x95, x96, x97, x98, x99, x100, x101, x102, x103, y22, rfl, hD, hC, hc0⟩
                    obtain rfl : x82 = .slice (some ⟨gp, 0, none⟩) ms.length PC2 := hD.get (P := fun v : Value => v = .slice (some ⟨gp, 0, none⟩) ms.length PC2) 0 (hall 0 (by decide)) rfl rfl
                    obtain rfl : x83 = .int .i64 ((k : Nat) : Int) := hD.get (P := fun v : Value => v = .int .i64 ((k : Nat) : Int)) 1 (hall 1 (by decide)) rfl rfl
                    obtain rfl : x84 = .agg #[.slice A1 y.ty.sizes.length cap1, .slice A2 y.ty.cos.length cap2, .slice (some ⟨fb, foff, none⟩) y.fs.length cap3] := hD.get (P := fun v : Value => v = .agg #[.slice A1 y.ty.sizes.length cap1, .slice A2 y.ty.cos.length cap2, .slice (some ⟨fb, foff, none⟩) y.fs.length cap3]) 2 (hall 2 (by decide)) rfl rfl
                    obtain rfl : x85 = .slice (some ⟨gp, 0, none⟩) ms.length PC2 := hD.get (P := fun v : Value => v = .slice (some ⟨gp, 0, none⟩) ms.length PC2) 3 (hall 3 (by decide)) rfl rfl
                    obtain rfl : x86 = .int .i64 ((k : Nat) : Int) := hD.get (P := fun v : Value => v = .int .i64 ((k : Nat) : Int)) 4 (hall 4 (by decide)) rfl rfl
                    obtain rfl : x87 = .pointer (some ⟨gp, k, none⟩) := hD.get (P := fun v : Value => v = .pointer (some ⟨gp, k, none⟩)) 5 (hall 5 (by decide)) rfl rfl
                    obtain rfl : x88 = .string (str TX) := hD.get (P := fun v : Value => v = .string (str TX)) 6 (hall 6 (by decide)) rfl rfl
                    obtain rfl : x89 = .slice (some ⟨gk, 0, none⟩) ms.length KC := hD.get (P := fun v : Value => v = .slice (some ⟨gk, 0, none⟩) ms.length KC) 7 (hall 7 (by decide)) rfl rfl
                    obtain rfl : x90 = .int .i64 ((k : Nat) : Int) := hD.get (P := fun v : Value => v = .int .i64 ((k : Nat) : Int)) 8 (hall 8 (by decide)) rfl rfl
                    obtain rfl : x91 = .pointer (some ⟨gk, k, none⟩) := hD.get (P := fun v : Value => v = .pointer (some ⟨gk, k, none⟩)) 9 (hall 9 (by decide)) rfl rfl
                    obtain rfl : x92 = .int .i64 KD := hD.get (P := fun v : Value => v = .int .i64 KD) 10 (hall 10 (by decide)) rfl rfl
                    obtain rfl : x93 = .pointer (some ⟨w.heap.size, 2, none⟩) := hD.get (P := fun v : Value => v = .pointer (some ⟨w.heap.size, 2, none⟩)) 11 (hall 11 (by decide)) rfl rfl
                    obtain rfl : x94 = .slice (some ⟨fb, foff, none⟩) y.fs.length cap3 := hD.get (P := fun v : Value => v = .slice (some ⟨fb, foff, none⟩) y.fs.length cap3) 12 (hall 12 (by decide)) rfl rfl
                    obtain rfl : x95 = .int .i64 ((i : Nat) : Int) := hD.get (P := fun v : Value => v = .int .i64 ((i : Nat) : Int)) 13 (hall 13 (by decide)) rfl rfl
                    obtain rfl : x96 = .pointer (some ⟨fb, foff + i * 4, none⟩) := hD.get (P := fun v : Value => v = .pointer (some ⟨fb, foff + i * 4, none⟩)) 14 (hall 14 (by decide)) rfl rfl
                    obtain rfl : x97 = .pointer (some ⟨fb, foff + i * 4 + 1, none⟩) := hD.get (P := fun v : Value => v = .pointer (some ⟨fb, foff + i * 4 + 1, none⟩)) 15 (hall 15 (by decide)) rfl rfl
                    obtain rfl : x98 = .slice (some ⟨ab, ao, none⟩) y.fs[i].args.length cb1 := hD.get (P := fun v : Value => v = .slice (some ⟨ab, ao, none⟩) y.fs[i].args.length cb1) 16 (hall 16 (by decide)) rfl rfl
                    obtain rfl : x99 = .int .i64 ((k : Nat) : Int) := hD.get (P := fun v : Value => v = .int .i64 ((k : Nat) : Int)) 17 (hall 17 (by decide)) rfl rfl
                    obtain rfl : x100 = .pointer (some ⟨ab, ao + k, none⟩) := hD.get (P := fun v : Value => v = .pointer (some ⟨ab, ao + k, none⟩)) 18 (hall 18 (by decide)) rfl rfl
                    obtain rfl : x101 = .int .i64 AR := hD.get (P := fun v : Value => v = .int .i64 AR) 19 (hall 19 (by decide)) rfl rfl
                    obtain rfl : x102 = .string (str NW) := hD.get (P := fun v : Value => v = .string (str NW)) 20 (hall 20 (by decide)) rfl rfl
                    obtain rfl : x103 = .pointer (some ⟨gp, k, none⟩) := hD.get (P := fun v : Value => v = .pointer (some ⟨gp, k, none⟩)) 21 (hall 21 (by decide)) rfl rfl
                    have hW := hC.all (by intro j9 h9; exact hall _ (by revert j9; decide))
                    clear hall hD hC hc0
                    obtain ⟨u0, hbu, rfl⟩ := hW
                    have HKU : Hid (Keep gp wx (u0.setCell ⟨gp, k, none⟩ (.string (str NW)))) := W22.keep (j := 2) (v := .string (str NW)) (a := ⟨gp, k, none⟩) (g := gp) rfl ⟨u0, hbu, rfl⟩
                    have HRU : Hid (Row (u0.setCell ⟨gp, k, none⟩ (.string (str NW))) gp 9 (cs.set k (.string (str NW)))) := (Hrow.out.below hbu Hrow.out.lt).set_ k _
                    clear hbu
                    generalize u0.setCell ⟨gp, k, none⟩ (.string (str NW)) = u9 at HKU HRU ⊢
                    have hs9 := HKU.out.size
                    go_wp2
                    go_roundw
                    case rel =>
                      refine ⟨k + 1, by omega, by go_num, by omega, hkx.out.trans HKU.out, fun _ => ⟨_, HRU.out, ?_⟩⟩
                      rw [List.take_set, Hcs.out, ← HSET.out]
                      simp [strVs, List.map_set]
                    case measure => simp [intOf]; omega
                · obtain rfl : k = ms.length := by omega
                  rw [wrapL_all] at hrw
                  have hplen : ((coArgs y y.fs[i].args ms 0).map mkT).length = ms.length := by simp [coArgs_len]
                  have hpl : ∀ p ∈ (coArgs y y.fs[i].args ms 0).map mkT, p.length ≤ 1480 := fun p hp => by
                    obtain ⟨j, hj, rfl⟩ := List.getElem_of_mem hp
                    have hj2 : j < ms.length := by omega
                    have h1 := coArgs_get y y.fs[i].args ms 0 j hj2
                    obtain ⟨h2, h3⟩ := List.getElem?_eq_some_iff.1 h1
                    rw [List.getElem_map, h3, coM_len]
                    have h4 := HLENS.out ms[j] (List.getElem_mem hj2)
                    have h5 := (shortV_wf y.ty (kindM y ms[j]) (y.fs[i].args.getD (0 + j) 0)).2
                    omega
                  have hbulk := bulk2 (ps := (coArgs y y.fs[i].args ms 0).map mkT) (by omega) hpl
                  have hcall := callL_len2 (i : Int) (ps := (coArgs y y.fs[i].args ms 0).map mkT) (by omega) hpl
                  have HST2 : Hid (∀ v : World, Below wx.heap.size wx v → StrsAt v (.slice PA2 ms.length PC2) ((coArgs y y.fs[i].args ms 0).map mkT)) := fun v hv8 => by
                    refine ⟨PA2, PC2, by rw [hplen], ?_, fun h0 => ?_⟩
                    · by_cases h0 : 0 < ms.length
                      · rw [hplen]; exact (HGP.out.2 h0).2.2.1
                      · omega
                    · rw [hplen] at h0
                      obtain ⟨ePA, hgpu, hcpP, -⟩ := HGP.out.2 h0
                      obtain ⟨cs, hrow, hcs⟩ := hrw.out h0
                      refine ⟨gp, 0, ePA, Nat.lt_of_lt_of_le hrow.lt hv8.size, fun j hj => ?_⟩
                      rw [hplen] at hj
                      rw [Nat.zero_add, (hrow.below hv8 hrow.lt).cell j]
                      have h1 : (cs.take ms.length)[j]? = cs[j]? := List.getElem?_take_of_lt hj
                      rw [← h1, hcs]
                      simp [strVs, coArgs_len, hj]
                  have HLD : Hid (∀ v : World, Below wx.heap.size wx v → v.cell? ⟨w.heap.size, 2, none⟩ = some (.slice (some ⟨fb, foff, none⟩) y.fs.length cap3) ∧ v.cell? ⟨fb, foff + i * 4 + 2, none⟩ = some (.int .i64 y.fs[i].res)) := fun v hv8 => by
                    have hk8 := hkx.out.trans ((Keep.refl gp wx).of_below hv8)
                    have hrx := (HRX.out.below HX8.out (by omega)).keep (hk8.block (k := w.heap.size) (by omega) (by omega))
                    have hblk : ∀ b, b < w.heap.size → v.heap[b]? = w.heap[b]? := fun b hb => (hk8.block (by omega) (by omega)).trans ((HX8.out.block b (by omega)).trans (HBX0.out.block b hb))
                    exact ⟨hrx.cell 2, (World.cell?_of_block (w := w) (hblk fb (by omega))).trans k2⟩
                  obtain ⟨PSX, hPSX⟩ : ∃ P, P = (coArgs y y.fs[i].args ms 0).map mkT := ⟨_, rfl⟩
                  rw [← hPSX] at HFIN HST2 hbulk hcall
                  have HCD : Hid (∀ v : World, Below wx.heap.size wx v → Calls Tryz.prog 71 #[.int .i64 ((i : Nat) : Int), .slice PA2 ms.length PC2] v fun e w' => e = .returned (.string (str (64 :: callL (dg (i : Int)) PSX))) ∧ Below v.heap.size v w') := fun v hv8 =>
                    l7Called_any (i : Int) (by unfold Dig; omega) _ PSX v (fun w' hw' => HST2.out w' (hv8.trans (hw'.mono hv8.size))) (by omega) (by omega)
                  obtain ⟨RS, hRS⟩ : ∃ R, R = str (64 :: callL (dg (i : Int)) PSX) := ⟨_, rfl⟩
                  rw [← hRS] at HCD HFIN
                  obtain ⟨KR, hKR⟩ : ∃ R, R = y.fs[i].res := ⟨_, rfl⟩
                  rw [← hKR] at HLD HFIN
                  have HBW : Hid (Below w.heap.size w wx) := (HBX0.out.trans (HX8.out.mono (Nat.le_succ _))).trans (hkx.out.below (by omega) (by omega))
                  have hilt : (i : Int) < (y.fs.length : Int) := by omega
                  have HST : Hid (Below wx.heap.size wx wx.drew) := (Below.refl _ _).drew
                  clear hplen hpl hbulk hcall HST2 hPSX hRS hKR hrw hkx
                  go_upto_region 24 with fail
                  refine wp_region_inv (by kernel_rfl) (fun dn ac u => ∃ x105 x106 x107 x108 x109 x110 x111 x112 x113 x4 x5 x6, ac = ⟨List.toArray (.agg #[.slice A1 y.ty.sizes.length cap1, .slice A2 y.ty.cos.length cap2, .slice (some ⟨fb, foff, none⟩) y.fs.length cap3] :: .string (str L) :: .pointer (some ⟨w.heap.size, 0, none⟩) :: undef :: x4 :: x5 :: x6 :: undef :: undef :: .slice PA2 ms.length PC2 :: .slice KA ms.length KC :: undef :: u12 :: u13 :: u14 :: u15 :: .int .i64 ((i : Nat) : Int) :: .string ⟨#[111, 110, 101]⟩ :: u18 :: .string (str L) :: .int .u8 40 :: .bool false :: undef :: undef :: undef :: undef :: undef :: undef :: undef :: undef :: undef :: undef :: undef :: undef :: undef :: undef :: undef :: undef :: .slice (some ⟨w.heap.size + 1, 0, none⟩) 0 0 :: .slice (some ⟨w.heap.size + 1 + 1, 0, none⟩) 0 0 :: .string (str L) :: .slice PA ts.length PC :: .int .i64 ((ts.length : Nat) : Int) :: .int .i64 ((ms.length : Nat) : Int) :: .bool false :: u45 :: u46 :: u47 :: u48 :: u49 :: u50 :: u51 :: u52 :: u53 :: u54 :: u55 :: u56 :: u57 :: u58 :: u59 :: u60 :: u61 :: u62 :: u63 :: u64 :: u65 :: .tuple #[.int .i64 ((i : Nat) : Int), .string ⟨#[111, 110, 101]⟩] :: .agg #[.slice A1 y.ty.sizes.length cap1, .slice A2 y.ty.cos.length cap2, .slice (some ⟨fb, foff, none⟩) y.fs.length cap3] :: .string (str L) :: .string (str [a]) :: .slice KA ms.length KC :: .tuple #[.int .i64 ((i : Nat) : Int), .string ⟨#[111, 110, 101]⟩] :: .int .i64 ((i : Nat) : Int) :: .string ⟨#[111, 110, 101]⟩ :: .string ⟨#[111, 110, 101]⟩ :: .bool false :: undef :: .slice PA2 ms.length PC2 :: .int .i64 ((ms.length : Nat) : Int) :: .int .i64 ((ms.length : Nat) : Int) :: .bool false :: u81 :: u82 :: u83 :: u84 :: u85 :: u86 :: u87 :: u88 :: u89 :: u90 :: u91 :: u92 :: u93 :: u94 :: u95 :: u96 :: u97 :: u98 :: u99 :: u100 :: u101 :: u102 :: u103 :: u104 :: x105 :: x106 :: x107 :: x108 :: x109 :: x110 :: x111 :: x112 :: x113 :: []), []⟩ ∧ DetQ [fun v : Value => v = .int .i64 ((i : Nat) : Int), fun v : Value => v = .slice PA2 ms.length PC2, fun v : Value => v = .string RS, fun v : Value => v = .pointer (some ⟨w.heap.size, 2, none⟩), fun v : Value => v = .slice (some ⟨fb, foff, none⟩) y.fs.length cap3, fun v : Value => v = .int .i64 ((i : Nat) : Int), fun v : Value => v = .pointer (some ⟨fb, foff + i * 4, none⟩), fun v : Value => v = .pointer (some ⟨fb, foff + i * 4 + 2, none⟩), fun v : Value => v = .int .i64 KR, fun v : Value => v = .string RS, fun v : Value => v = .int .i64 KR, fun v : Value => v = .string ⟨#[111, 107]⟩] dn [x105, x106, x107, x108, x109, x110, x111, x112, x113, x4, x5, x6] ∧ Ch dn [2] (fun _ u => Below wx.heap.size wx u) u ∧ True) (of_decide_eq_true (by kernel_rfl)) ⟨_, _, _, _, _, _, _, _, _, _, _, _, rfl, DetQ.start (by rfl), Ch.start HST.out, trivial⟩ ?_ ?_
                  · rintro dn ac u i8 op8 hop hfi hdep ⟨x105, x106, x107, x108, x109, x110, x111, x112, x113, x4, x5, x6, rfl, hD, hC, -⟩
                    have hil : i8 < 12 := by have := (Array.getElem?_eq_some_iff.1 hop).1; simpa using this
                    obtain rfl | rfl | rfl | rfl | rfl | rfl | rfl | rfl | rfl | rfl | rfl | rfl : i8 = 0 ∨ i8 = 1 ∨ i8 = 2 ∨ i8 = 3 ∨ i8 = 4 ∨ i8 = 5 ∨ i8 = 6 ∨ i8 = 7 ∨ i8 = 8 ∨ i8 = 9 ∨ i8 = 10 ∨ i8 = 11 := by omega
                    all_goals
                      obtain rfl := Option.some.inj hop
                      refine wpOp_step hop fun K hK => ?_
                      simp [Region.binds] at hdep
                      clear hop
                    · refine det_yes rfl ?_
                      have HD := Lib.hid hD
                      have HC := Lib.hid hC
                      clear hD hC
                      unfold Oper.wp
                      go_simp
                      exact hK _ _ ⟨_, _, _, _, _, _, _, _, _, _, _, _, rfl, HD.out.step 0 rfl rfl, HC.out.other 0 (by decide), trivial⟩
                    · refine det_yes rfl ?_
                      have HD := Lib.hid hD
                      have HC := Lib.hid hC
                      clear hD hC
                      unfold Oper.wp
                      go_simp
                      exact hK _ _ ⟨_, _, _, _, _, _, _, _, _, _, _, _, rfl, HD.out.step 1 rfl rfl, HC.out.other 1 (by decide), trivial⟩
                    · obtain rfl : x105 = .int .i64 ((i : Nat) : Int) := hD.get (P := fun v : Value => v = .int .i64 ((i : Nat) : Int)) 0 (by simp [hdep]) rfl rfl
                      obtain rfl : x106 = .slice PA2 ms.length PC2 := hD.get (P := fun v : Value => v = .slice PA2 ms.length PC2) 1 (by simp [hdep]) rfl rfl
                      have hW := hC.at_ 0 (by decide) hfi (by intro j9 e9 _; omega)
                      refine det_yes rfl ?_
                      have HD := Lib.hid hD
                      have HC := Lib.hid hC
                      clear hD hC
                      have hbu : Below wx.heap.size wx u := hW
                      clear hW
                      unfold Oper.wp
                      go_simp
                      refine (HCD.out u hbu).mono ?_
                      rintro e u2 ⟨rfl, hb8⟩
                      have HW2 : (fun _ u => Below wx.heap.size wx u) 1 u2 := hbu.trans (hb8.mono hbu.size)
                      exact hK _ _ ⟨_, _, _, _, _, _, _, _, _, _, _, _, rfl, HD.out.step 2 rfl (by rfl), HC.out.next 0 (by decide) hfi (by intro j9 e9 _; omega) (by decide) HW2, trivial⟩
                    · refine det_yes rfl ?_
                      have HD := Lib.hid hD
                      have HC := Lib.hid hC
                      clear hD hC
                      unfold Oper.wp
                      go_simp
                      exact hK _ _ ⟨_, _, _, _, _, _, _, _, _, _, _, _, rfl, HD.out.step 3 rfl rfl, HC.out.other 3 (by decide), trivial⟩
                    · obtain rfl : x108 = .pointer (some ⟨w.heap.size, 2, none⟩) := hD.get (P := fun v : Value => v = .pointer (some ⟨w.heap.size, 2, none⟩)) 3 (by simp [hdep]) rfl rfl
                      obtain ⟨j8, hj8, -, hW⟩ := hC.ex
                      have hbu : Below wx.heap.size wx u := hW
                      clear hW
                      have d1 := (HLD.out u hbu).1
                      refine det_yes rfl ?_
                      have HD := Lib.hid hD
                      have HC := Lib.hid hC
                      clear hD hC
                      unfold Oper.wp
                      go_simp
                      exact hK _ _ ⟨_, _, _, _, _, _, _, _, _, _, _, _, rfl, HD.out.step 4 rfl rfl, HC.out.other 4 (by decide), trivial⟩
                    · refine det_yes rfl ?_
                      have HD := Lib.hid hD
                      have HC := Lib.hid hC
                      clear hD hC
                      unfold Oper.wp
                      go_simp
                      exact hK _ _ ⟨_, _, _, _, _, _, _, _, _, _, _, _, rfl, HD.out.step 5 rfl rfl, HC.out.other 5 (by decide), trivial⟩
                    · obtain rfl : x109 = .slice (some ⟨fb, foff, none⟩) y.fs.length cap3 := hD.get (P := fun v : Value => v = .slice (some ⟨fb, foff, none⟩) y.fs.length cap3) 4 (by simp [hdep]) rfl rfl
                      obtain rfl : x110 = .int .i64 ((i : Nat) : Int) := hD.get (P := fun v : Value => v = .int .i64 ((i : Nat) : Int)) 5 (by simp [hdep]) rfl rfl
                      refine det_yes rfl ?_
                      have HD := Lib.hid hD
                      have HC := Lib.hid hC
                      clear hD hC
                      unfold Oper.wp
                      go_simp
                      exact hK _ _ ⟨_, _, _, _, _, _, _, _, _, _, _, _, rfl, HD.out.step 6 rfl rfl, HC.out.other 6 (by decide), trivial⟩
                    · obtain rfl : x111 = .pointer (some ⟨fb, foff + i * 4, none⟩) := hD.get (P := fun v : Value => v = .pointer (some ⟨fb, foff + i * 4, none⟩)) 6 (by simp [hdep]) rfl rfl
                      refine det_yes rfl ?_
                      have HD := Lib.hid hD
                      have HC := Lib.hid hC
                      clear hD hC
                      unfold Oper.wp
                      go_simp
                      exact hK _ _ ⟨_, _, _, _, _, _, _, _, _, _, _, _, rfl, HD.out.step 7 rfl rfl, HC.out.other 7 (by decide), trivial⟩
                    · obtain rfl : x112 = .pointer (some ⟨fb, foff + i * 4 + 2, none⟩) := hD.get (P := fun v : Value => v = .pointer (some ⟨fb, foff + i * 4 + 2, none⟩)) 7 (by simp [hdep]) rfl rfl
                      obtain ⟨j8, hj8, -, hW⟩ := hC.ex
                      have hbu : Below wx.heap.size wx u := hW
                      clear hW
                      have d1 := (HLD.out u hbu).2
                      refine det_yes rfl ?_
                      have HD := Lib.hid hD
                      have HC := Lib.hid hC
                      clear hD hC
                      unfold Oper.wp
                      go_simp
                      exact hK _ _ ⟨_, _, _, _, _, _, _, _, _, _, _, _, rfl, HD.out.step 8 rfl rfl, HC.out.other 8 (by decide), trivial⟩
                    · obtain rfl : x107 = .string RS := hD.get (P := fun v : Value => v = .string RS) 2 (by simp [hdep]) rfl rfl
                      refine det_yes rfl ?_
                      have HD := Lib.hid hD
                      have HC := Lib.hid hC
                      clear hD hC
                      unfold Oper.wp
                      go_simp
                      exact hK _ _ ⟨_, _, _, _, _, _, _, _, _, _, _, _, rfl, HD.out.step 9 rfl rfl, HC.out.other 9 (by decide), trivial⟩
                    · obtain rfl : x113 = .int .i64 KR := hD.get (P := fun v : Value => v = .int .i64 KR) 8 (by simp [hdep]) rfl rfl
                      refine det_yes rfl ?_
                      have HD := Lib.hid hD
                      have HC := Lib.hid hC
                      clear hD hC
                      unfold Oper.wp
                      go_simp
                      exact hK _ _ ⟨_, _, _, _, _, _, _, _, _, _, _, _, rfl, HD.out.step 10 rfl rfl, HC.out.other 10 (by decide), trivial⟩
                    · refine det_yes rfl ?_
                      have HD := Lib.hid hD
                      have HC := Lib.hid hC
                      clear hD hC
                      unfold Oper.wp
                      go_simp
                      exact hK _ _ ⟨_, _, _, _, _, _, _, _, _, _, _, _, rfl, HD.out.step 11 rfl rfl, HC.out.other 11 (by decide), trivial⟩
                  · rintro dn ac u hall ⟨x105, x106, x107, x108, x109, x110, x111, x112, x113, x4, x5, x6, rfl, hD, hC, -⟩
                    obtain rfl : x105 = .int .i64 ((i : Nat) : Int) := hD.get (P := fun v : Value => v = .int .i64 ((i : Nat) : Int)) 0 (hall 0 (by decide)) rfl rfl
                    obtain rfl : x106 = .slice PA2 ms.length PC2 := hD.get (P := fun v : Value => v = .slice PA2 ms.length PC2) 1 (hall 1 (by decide)) rfl rfl
                    obtain rfl : x107 = .string RS := hD.get (P := fun v : Value => v = .string RS) 2 (hall 2 (by decide)) rfl rfl
                    obtain rfl : x108 = .pointer (some ⟨w.heap.size, 2, none⟩) := hD.get (P := fun v : Value => v = .pointer (some ⟨w.heap.size, 2, none⟩)) 3 (hall 3 (by decide)) rfl rfl
                    obtain rfl : x109 = .slice (some ⟨fb, foff, none⟩) y.fs.length cap3 := hD.get (P := fun v : Value => v = .slice (some ⟨fb, foff, none⟩) y.fs.length cap3) 4 (hall 4 (by decide)) rfl rfl
                    obtain rfl : x110 = .int .i64 ((i : Nat) : Int) := hD.get (P := fun v : Value => v = .int .i64 ((i : Nat) : Int)) 5 (hall 5 (by decide)) rfl rfl
                    obtain rfl : x111 = .pointer (some ⟨fb, foff + i * 4, none⟩) := hD.get (P := fun v : Value => v = .pointer (some ⟨fb, foff + i * 4, none⟩)) 6 (hall 6 (by decide)) rfl rfl
                    obtain rfl : x112 = .pointer (some ⟨fb, foff + i * 4 + 2, none⟩) := hD.get (P := fun v : Value => v = .pointer (some ⟨fb, foff + i * 4 + 2, none⟩)) 7 (hall 7 (by decide)) rfl rfl
                    obtain rfl : x113 = .int .i64 KR := hD.get (P := fun v : Value => v = .int .i64 KR) 8 (hall 8 (by decide)) rfl rfl
                    obtain rfl : x4 = .string RS := hD.get (P := fun v : Value => v = .string RS) 9 (hall 9 (by decide)) rfl rfl
                    obtain rfl : x5 = .int .i64 KR := hD.get (P := fun v : Value => v = .int .i64 KR) 10 (hall 10 (by decide)) rfl rfl
                    obtain rfl : x6 = .string ⟨#[111, 107]⟩ := hD.get (P := fun v : Value => v = .string ⟨#[111, 107]⟩) 11 (hall 11 (by decide)) rfl rfl
                    have hW := hC.all (by intro j9 h9; exact hall _ (by revert j9; decide))
                    clear hall hD hC
                    have HBU : Hid (Below wx.heap.size wx u) := hW
                    clear hW
                    go_wp2
                    try rw [Exit.noGoto_ret]
                    refine bodyPost_ret (v := .tuple #[.string RS, .int .i64 KR, .string wOk]) (by simp [results, Tryz.results37, go_sem, wOk]) rfl ?_
                    exact ⟨by rw [HFIN.out], HBW.out.trans (HBU.out.mono HBW.out.size)⟩
          · have hel := elCall_none (y := y) (nm := a) (ms := ms) hw1
            have HFIN := Lib.hid (elRes_error (HEL.out.trans hel))
            have hwd : pickW (ltB y) (applicV y (str [a]) (ms.map (kindM y))) = wNone ∨ pickW (ltB y) (applicV y (str [a]) (ms.map (kindM y))) = wMany := (pickW_words _ _).resolve_left hw1
            generalize pickI (ltB y) (applicV y (str [a]) (ms.map (kindM y))) = PI at HRS
            generalize pickW (ltB y) (applicV y (str [a]) (ms.map (kindM y))) = PW at HRS HFIN hwd
            clear hel hw1 HEL hpr hcr HKS hne
            have HBW : Hid (Below w.heap.size w wr) := HBX0.out.trans (hxr.out.mono (Nat.le_succ _))
            go_upto_region 16 with fail
            have HLD : Hid (∀ u, Below wr.heap.size wr u → u.cell? ⟨w.heap.size, 0, none⟩ = some (.slice A1 y.ty.sizes.length cap1) ∧ u.cell? ⟨w.heap.size, 1, none⟩ = some (.slice A2 y.ty.cos.length cap2) ∧ u.cell? ⟨w.heap.size, 2, none⟩ = some (.slice A3 y.fs.length cap3)) := fun u hu => ⟨(hu.cell (p := ⟨w.heap.size, 0, none⟩) hl1).trans K1.out.1, (hu.cell (p := ⟨w.heap.size, 1, none⟩) hl1).trans K1.out.2.1, (hu.cell (p := ⟨w.heap.size, 2, none⟩) hl1).trans K1.out.2.2⟩
            have HST : Hid (Below wr.heap.size wr wr.drew) := (Below.refl _ _).drew
            refine wp_region_inv (by kernel_rfl) (fun dn ac u => ∃ x67 x68 x69 x70 x71 x66 x72 x73 x16 x17, ac = ⟨List.toArray (.agg #[.slice A1 y.ty.sizes.length cap1, .slice A2 y.ty.cos.length cap2, .slice A3 y.fs.length cap3] :: .string (str L) :: .pointer (some ⟨w.heap.size, 0, none⟩) :: undef :: u4 :: u5 :: u6 :: undef :: undef :: .slice PA2 ms.length PC2 :: .slice KA ms.length KC :: undef :: u12 :: u13 :: u14 :: u15 :: x16 :: x17 :: undef :: .string (str L) :: .int .u8 40 :: .bool false :: undef :: undef :: undef :: undef :: undef :: undef :: undef :: undef :: undef :: undef :: undef :: undef :: undef :: undef :: undef :: undef :: .slice (some ⟨w.heap.size + 1, 0, none⟩) 0 0 :: .slice (some ⟨w.heap.size + 1 + 1, 0, none⟩) 0 0 :: .string (str L) :: .slice PA ts.length PC :: .int .i64 ((ts.length : Nat) : Int) :: .int .i64 ((ms.length : Nat) : Int) :: .bool false :: u45 :: u46 :: u47 :: u48 :: u49 :: u50 :: u51 :: u52 :: u53 :: u54 :: u55 :: u56 :: u57 :: u58 :: u59 :: u60 :: u61 :: u62 :: u63 :: u64 :: u65 :: x66 :: x67 :: x68 :: x69 :: x70 :: x71 :: x72 :: x73 :: undef :: undef :: undef :: undef :: undef :: undef :: undef :: undef :: undef :: undef :: undef :: undef :: undef :: undef :: undef :: undef :: undef :: undef :: undef :: undef :: undef :: undef :: undef :: undef :: undef :: undef :: undef :: undef :: undef :: undef :: undef :: undef :: undef :: undef :: undef :: undef :: undef :: undef :: undef :: undef :: []), []⟩ ∧ DetQ [fun v : Value => v = .agg #[.slice A1 y.ty.sizes.length cap1, .slice A2 y.ty.cos.length cap2, .slice A3 y.fs.length cap3], fun v : Value => v = .string (str L), fun v : Value => v = .string (str [a]), fun v : Value => v = .slice KA ms.length KC, fun v : Value => v = .tuple #[.int .i64 PI, .string PW], fun v : Value => v = .tuple #[.int .i64 PI, .string PW], fun v : Value => v = .int .i64 PI, fun v : Value => v = .string PW, fun v : Value => v = .int .i64 PI, fun v : Value => v = .string PW] dn [x67, x68, x69, x70, x71, x66, x72, x73, x16, x17] ∧ Ch dn [4] (fun _ u => Below wr.heap.size wr u) u ∧ True) (of_decide_eq_true (by kernel_rfl)) ⟨_, _, _, _, _, _, _, _, _, _, rfl, DetQ.start (by rfl), Ch.start HST.out, trivial⟩ ?_ ?_
            · rintro dn ac u i8 op8 hop hfi hdep ⟨x67, x68, x69, x70, x71, x66, x72, x73, x16, x17, rfl, hD, hC, -⟩
              have hil : i8 < 10 := by have := (Array.getElem?_eq_some_iff.1 hop).1; simpa using this
              obtain rfl | rfl | rfl | rfl | rfl | rfl | rfl | rfl | rfl | rfl : i8 = 0 ∨ i8 = 1 ∨ i8 = 2 ∨ i8 = 3 ∨ i8 = 4 ∨ i8 = 5 ∨ i8 = 6 ∨ i8 = 7 ∨ i8 = 8 ∨ i8 = 9 := by omega
              all_goals
                obtain rfl := Option.some.inj hop
                refine wpOp_step hop fun K hK => ?_
                simp [Region.binds] at hdep
                clear hop
              · obtain ⟨j8, hj8, -, hW⟩ := hC.ex
                have hbu : Below wr.heap.size wr u := hW
                clear hW
                obtain ⟨d1, d2, d3⟩ := HLD.out u hbu
                refine det_yes rfl ?_
                have HD := Lib.hid hD
                have HC := Lib.hid hC
                clear hD hC
                unfold Oper.wp
                go_simp
                exact hK _ _ ⟨_, _, _, _, _, _, _, _, _, _, rfl, HD.out.step 0 rfl rfl, HC.out.other 0 (by decide), trivial⟩
              · refine det_yes rfl ?_
                have HD := Lib.hid hD
                have HC := Lib.hid hC
                clear hD hC
                unfold Oper.wp
                go_simp
                exact hK _ _ ⟨_, _, _, _, _, _, _, _, _, _, rfl, HD.out.step 1 rfl rfl, HC.out.other 1 (by decide), trivial⟩
              · obtain rfl : x68 = .string (str L) := hD.get (P := fun v : Value => v = .string (str L)) 1 (by simp [hdep]) rfl rfl
                obtain ⟨j8, hj8, -, hW⟩ := hC.ex
                clear hW
                have d1 := hsl u
                refine det_yes rfl ?_
                have HD := Lib.hid hD
                have HC := Lib.hid hC
                clear hD hC
                unfold Oper.wp
                go_simp
                exact hK _ _ ⟨_, _, _, _, _, _, _, _, _, _, rfl, HD.out.step 2 rfl rfl, HC.out.other 2 (by decide), trivial⟩
              · refine det_yes rfl ?_
                have HD := Lib.hid hD
                have HC := Lib.hid hC
                clear hD hC
                unfold Oper.wp
                go_simp
                exact hK _ _ ⟨_, _, _, _, _, _, _, _, _, _, rfl, HD.out.step 3 rfl rfl, HC.out.other 3 (by decide), trivial⟩
              · obtain rfl : x67 = .agg #[.slice A1 y.ty.sizes.length cap1, .slice A2 y.ty.cos.length cap2, .slice A3 y.fs.length cap3] := hD.get (P := fun v : Value => v = .agg #[.slice A1 y.ty.sizes.length cap1, .slice A2 y.ty.cos.length cap2, .slice A3 y.fs.length cap3]) 0 (by simp [hdep]) rfl rfl
                obtain rfl : x69 = .string (str [a]) := hD.get (P := fun v : Value => v = .string (str [a])) 2 (by simp [hdep]) rfl rfl
                obtain rfl : x70 = .slice KA ms.length KC := hD.get (P := fun v : Value => v = .slice KA ms.length KC) 3 (by simp [hdep]) rfl rfl
                have hW := hC.at_ 0 (by decide) hfi (by intro j9 e9 _; omega)
                refine det_yes rfl ?_
                have HD := Lib.hid hD
                have HC := Lib.hid hC
                clear hD hC
                have hbu : Below wr.heap.size wr u := hW
                clear hW
                unfold Oper.wp
                go_simp
                refine (HRS.out u hbu).mono ?_
                rintro e u2 ⟨rfl, hb8⟩
                have HW2 : (fun _ u => Below wr.heap.size wr u) 1 u2 := hbu.trans (hb8.mono hbu.size)
                exact hK _ _ ⟨_, _, _, _, _, _, _, _, _, _, rfl, HD.out.step 4 rfl (by rfl), HC.out.next 0 (by decide) hfi (by intro j9 e9 _; omega) (by decide) HW2, trivial⟩
              · obtain rfl : x71 = .tuple #[.int .i64 PI, .string PW] := hD.get (P := fun v : Value => v = .tuple #[.int .i64 PI, .string PW]) 4 (by simp [hdep]) rfl rfl
                refine det_yes rfl ?_
                have HD := Lib.hid hD
                have HC := Lib.hid hC
                clear hD hC
                unfold Oper.wp
                go_simp
                exact hK _ _ ⟨_, _, _, _, _, _, _, _, _, _, rfl, HD.out.step 5 rfl rfl, HC.out.other 5 (by decide), trivial⟩
              · obtain rfl : x66 = .tuple #[.int .i64 PI, .string PW] := hD.get (P := fun v : Value => v = .tuple #[.int .i64 PI, .string PW]) 5 (by simp [hdep]) rfl rfl
                refine det_yes rfl ?_
                have HD := Lib.hid hD
                have HC := Lib.hid hC
                clear hD hC
                unfold Oper.wp
                go_simp
                exact hK _ _ ⟨_, _, _, _, _, _, _, _, _, _, rfl, HD.out.step 6 rfl rfl, HC.out.other 6 (by decide), trivial⟩
              · obtain rfl : x66 = .tuple #[.int .i64 PI, .string PW] := hD.get (P := fun v : Value => v = .tuple #[.int .i64 PI, .string PW]) 5 (by simp [hdep]) rfl rfl
                refine det_yes rfl ?_
                have HD := Lib.hid hD
                have HC := Lib.hid hC
                clear hD hC
                unfold Oper.wp
                go_simp
                exact hK _ _ ⟨_, _, _, _, _, _, _, _, _, _, rfl, HD.out.step 7 rfl rfl, HC.out.other 7 (by decide), trivial⟩
              · obtain rfl : x72 = .int .i64 PI := hD.get (P := fun v : Value => v = .int .i64 PI) 6 (by simp [hdep]) rfl rfl
                refine det_yes rfl ?_
                have HD := Lib.hid hD
                have HC := Lib.hid hC
                clear hD hC
                unfold Oper.wp
                go_simp
                exact hK _ _ ⟨_, _, _, _, _, _, _, _, _, _, rfl, HD.out.step 8 rfl rfl, HC.out.other 8 (by decide), trivial⟩
              · obtain rfl : x73 = .string PW := hD.get (P := fun v : Value => v = .string PW) 7 (by simp [hdep]) rfl rfl
                refine det_yes rfl ?_
                have HD := Lib.hid hD
                have HC := Lib.hid hC
                clear hD hC
                unfold Oper.wp
                go_simp
                exact hK _ _ ⟨_, _, _, _, _, _, _, _, _, _, rfl, HD.out.step 9 rfl rfl, HC.out.other 9 (by decide), trivial⟩
            · rintro dn ac u hall ⟨x67, x68, x69, x70, x71, x66, x72, x73, x16, x17, rfl, hD, hC, -⟩
              obtain rfl : x67 = .agg #[.slice A1 y.ty.sizes.length cap1, .slice A2 y.ty.cos.length cap2, .slice A3 y.fs.length cap3] := hD.get (P := fun v : Value => v = .agg #[.slice A1 y.ty.sizes.length cap1, .slice A2 y.ty.cos.length cap2, .slice A3 y.fs.length cap3]) 0 (hall 0 (by decide)) rfl rfl
              obtain rfl : x68 = .string (str L) := hD.get (P := fun v : Value => v = .string (str L)) 1 (hall 1 (by decide)) rfl rfl
              obtain rfl : x69 = .string (str [a]) := hD.get (P := fun v : Value => v = .string (str [a])) 2 (hall 2 (by decide)) rfl rfl
              obtain rfl : x70 = .slice KA ms.length KC := hD.get (P := fun v : Value => v = .slice KA ms.length KC) 3 (hall 3 (by decide)) rfl rfl
              obtain rfl : x71 = .tuple #[.int .i64 PI, .string PW] := hD.get (P := fun v : Value => v = .tuple #[.int .i64 PI, .string PW]) 4 (hall 4 (by decide)) rfl rfl
              obtain rfl : x66 = .tuple #[.int .i64 PI, .string PW] := hD.get (P := fun v : Value => v = .tuple #[.int .i64 PI, .string PW]) 5 (hall 5 (by decide)) rfl rfl
              obtain rfl : x72 = .int .i64 PI := hD.get (P := fun v : Value => v = .int .i64 PI) 6 (hall 6 (by decide)) rfl rfl
              obtain rfl : x73 = .string PW := hD.get (P := fun v : Value => v = .string PW) 7 (hall 7 (by decide)) rfl rfl
              obtain rfl : x16 = .int .i64 PI := hD.get (P := fun v : Value => v = .int .i64 PI) 8 (hall 8 (by decide)) rfl rfl
              obtain rfl : x17 = .string PW := hD.get (P := fun v : Value => v = .string PW) 9 (hall 9 (by decide)) rfl rfl
              have hW := hC.all (by intro j9 h9; exact hall _ (by revert j9; decide))
              clear hall hD hC
              have HBU : Hid (Below wr.heap.size wr u) := hW
              clear hW
              rcases hwd with rfl | rfl
              · unfold wNone
                go_wp2
                try rw [Exit.noGoto_ret]
                refine bodyPost_ret (v := .tuple #[.string ⟨#[]⟩, .int .i64 (-1), .string wNone]) (by simp [results, Tryz.results37, go_sem, wNone]) rfl ?_
                exact ⟨by rw [HFIN.out], HBW.out.trans (HBU.out.mono HBW.out.size)⟩
              · unfold wMany
                go_wp2
                try rw [Exit.noGoto_ret]
                refine bodyPost_ret (v := .tuple #[.string ⟨#[]⟩, .int .i64 (-1), .string wMany]) (by simp [results, Tryz.results37, go_sem, wMany]) rfl ?_
                exact ⟨by rw [HFIN.out], HBW.out.trans (HBU.out.mono HBW.out.size)⟩
end Go.Proofs.YtgkfddhhkjblgaaGreatDoor

