/-
  The contract of the model's l1Draw: some types of few numbers that fit.
-/
import Derived.Test.YtplpnammboofiaaQrdm
import Derived.Test.YtplpnammboofiaaJ4
namespace Go.Proofs.Ytplpnammboofiaa
open Go.RowKit

/-- What is known of drawn types. -/
def DrOk (t : Ty) : Prop := t.sizes.length ≤ 9 ∧ t.cos.length ≤ 9 ∧ ∀ c ∈ t.cos, c.map.length ≤ 9

theorem rdGrown_trans {w w2 w3 : World} {b : Nat} (h1 : w.grownBy w2 (some b)) (h2 : w2.grownBy w3 (some b)) : w.grownBy w3 (some b) :=
  ⟨h2.os.trans h1.os, h2.tape.trans h1.tape, h2.output.trans h1.output, Nat.le_trans h1.size h2.size, fun k hk hne => (h2.block k (Nat.lt_of_lt_of_le hk h1.size) hne).trans (h1.block k hk hne)⟩
theorem rdGrown_below {w w2 : World} {b : Nat} (h : Below w.heap.size w w2) : w.grownBy w2 (some b) := ⟨h.os, h.tape, h.output, h.size, fun k hk _ => h.block k hk⟩
/-- A world in which one old block is as it is later on. -/
theorem below_of_grown {w w' : World} {b : Nat} (hg : w.grownBy w' (some b)) (hb : b < w.heap.size) : ∃ u : World, u.heap.size = w.heap.size ∧ (∀ g, g ≠ b → u.heap[g]? = w.heap[g]?) ∧ Below w.heap.size u w' := by
  have hb' : b < w'.heap.size := Nat.lt_of_lt_of_le hb hg.size
  refine ⟨{ w with heap := w.heap.setIfInBounds b (w'.heap[b]'hb') }, by simp, fun g hne => ?_, ⟨hg.os, hg.tape, hg.output, by simpa using hg.size, fun k hk => ?_⟩⟩
  · show (w.heap.setIfInBounds b _)[g]? = _
    rw [Array.getElem?_setIfInBounds, if_neg (fun e => hne e.symm)]
  · show w'.heap[k]? = (w.heap.setIfInBounds b _)[k]?
    rw [Array.getElem?_setIfInBounds]
    by_cases e : b = k
    · subst e
      rw [if_pos rfl, if_pos hb, Array.getElem?_eq_getElem hb']
    · rw [if_neg e]
      exact hg.block k hk (fun h => e (by injection h with h; exact h.symm))

theorem int_own_ne {w : World} {base base' g n n' : Nat} {v v' : Value} {xs ys : List Value} (hr : w.ownsRow base' 3 1 v' n' xs) (ho : w.ownsRow base 28 3 v n ys) (h1 : v'.ownBlock = some g) : v.ownBlock ≠ some g := by
  intro e
  obtain ⟨_, ⟨rfl, _⟩ | ⟨g1, cap1, cur1, rfl, hb1, hh1, _⟩⟩ := hr
  · simp [Value.ownBlock] at h1
  obtain ⟨_, ⟨rfl, _⟩ | ⟨g', cap, cur, rfl, hb, hh, _⟩⟩ := ho
  · simp [Value.ownBlock] at e
  simp only [Value.ownBlock, Option.some.injEq] at e h1
  subst e
  subst h1
  rw [hh1] at hh
  simp only [Option.some.injEq, Obj.cells.injEq] at hh
  exact absurd hh.2.1 (by decide)

theorem CosOwned.keep_but {w w' : World} {base T : Nat} {l : Value} {f : Nat → Co} {k : Nat} {ys : List Value} (h : CosOwned w base l f k) (hT : Row w T 26 ys)
    (hs : w.heap.size ≤ w'.heap.size) (hk : ∀ g, base ≤ g → g < w.heap.size → g ≠ T → w'.heap[g]? = w.heap[g]?) : CosOwned w' base l f k := by
  obtain ⟨xs, m, mv, h1, h2⟩ := h
  have hm : ∀ i, i < k → 0 < (f i).map.length → m i ≠ T := fun i hi h0 e => by
    obtain ⟨A, cap, _, _, _, _, hr⟩ := h2.own i hi
    obtain ⟨_, rest, hr⟩ := hr h0
    rw [e] at hr
    unfold Row at hr hT
    rw [hT] at hr
    simp only [Option.some.injEq, Obj.cells.injEq] at hr
    exact absurd hr.2.1 (by decide)
  refine ⟨xs, m, mv, ownsRow_keep1 h1 fun g hg => hk g (owns_lt h1 g hg).1 (owns_lt h1 g hg).2 (fun e => row_own_ne hT h1 (by rw [hg, e])), ⟨h2.cells, fun i hi => (h2.own i hi).keep fun h0 => ?_, fun i hi h0 => ?_⟩⟩
  · have ha := h2.away i hi (by simpa using h0)
    exact hk _ ha.1 ha.2.1 (hm i hi (by simpa using h0))
  · obtain ⟨a, b, c, d⟩ := h2.away i hi h0
    exact ⟨a, Nat.lt_of_lt_of_le b hs, c, d⟩
theorem CosOwned.litAt (w : World) (base b : Nat) (f : Nat → Co) (hb : base ≤ b) (h : Row w b 28 []) : CosOwned w base (.slice (some ⟨b, 0, none⟩) 0 0) f 0 :=
  ⟨[], fun _ => 0, fun _ => .slice none 0 0, ⟨rfl, .inr ⟨b, 0, #[], rfl, hb, h, Nat.le_refl _, by unfold maxLen; omega, rfl, rfl⟩⟩, fun i hi => absurd hi (by omega), fun i hi => absurd hi (by omega), fun i hi => absurd hi (by omega)⟩

theorem MapsOf.congr' {w : World} {base : Nat} {row : Option Nat} {f f' : Nat → Co} {k : Nat} {xs : List Value} {m : Nat → Nat} {mv : Nat → Value} (h2 : MapsOf w base row f k xs m mv) (he : ∀ i, i < k → f i = f' i) : MapsOf w base row f' k xs m mv := by
  refine ⟨fun i hi => by rw [← he i hi]; exact h2.cells i hi, fun i hi => by rw [← he i hi]; exact h2.own i hi, fun i hi h0 => ?_⟩
  rw [← he i hi] at h0
  obtain ⟨a, b, c, d⟩ := h2.away i hi h0
  exact ⟨a, b, c, fun j hj hne h1 => d j hj hne (by rw [he j hj]; exact h1)⟩

set_option maxRecDepth 100000 in
set_option maxHeartbeats 4000000 in
theorem draw_any (b B : Nat) (w : World) (h : RdAt w b B) (hB : B ≤ 800000) :
    Calls Try.prog 73 #[.pointer (some ⟨b, 0, none⟩)] w fun e w' => ∃ sv cv t, e = .returned (.agg #[sv, cv]) ∧ RdAt w' b (B + 200) ∧ w.grownBy w' (some b) ∧ TyAt w' w.heap.size w'.heap.size sv cv t ∧ DrOk t ∧ 2 ≤ t.sizes.length ∧ (∀ z ∈ t.sizes, 1 ≤ z ∧ z ≤ 9) := by
  obtain ⟨i0, hi0, hz0, hz1, hz2⟩ := info_parts Try.infoInt
  obtain ⟨j0, hj0, hy0, hy1, hy2⟩ := info_parts infoCoercionW
  have hbl := h.lt
  obtain ⟨W1, hW1⟩ : ∃ u, u = ((w.alloc (.cells #[.slice none 0 0, .slice none 0 0] 26)).alloc (.cells #[] 28)).alloc (.cells #[.slice none 0 0, .slice (some ⟨w.heap.size + 1, 0, none⟩) 0 0] 26) := ⟨_, rfl⟩
  have hb1 : Below w.heap.size w W1 := by
    rw [hW1]
    exact (((Below.refl _ _).alloc (Nat.le_refl _) _).alloc (by simp) _).alloc (by simp; omega) _
  have hs1 : W1.heap.size = w.heap.size + 3 := by rw [hW1]; simp
  have hrr : Row W1 w.heap.size 26 [.slice none 0 0, .slice none 0 0] := by rw [hW1]; exact ((Row.new w 26 [.slice none 0 0, .slice none 0 0]).alloc _).alloc _
  have hre : Row W1 (w.heap.size + 1) 28 [] := by
    rw [hW1]
    have h := Row.new (w.alloc (.cells #[.slice none 0 0, .slice none 0 0] 26)) 28 []
    rw [World.size_alloc] at h
    exact h.alloc _
  have hrt : Row W1 (w.heap.size + 2) 26 [.slice none 0 0, .slice (some ⟨w.heap.size + 1, 0, none⟩) 0 0] := by
    rw [hW1]
    have h := Row.new ((w.alloc (.cells #[.slice none 0 0, .slice none 0 0] 26)).alloc (.cells #[] 28)) 26 [.slice none 0 0, .slice (some ⟨w.heap.size + 1, 0, none⟩) 0 0]
    rw [World.size_alloc, World.size_alloc] at h
    exact h
  have HRd1 := Lib.hid (h.keep (w' := W1) fun g hg => hb1.block g (by omega))
  have HG1 := Lib.hid (rdGrown_below (b := b) hb1)
  have HRR := Lib.hid hrr
  have HRE := Lib.hid hre
  have HRT := Lib.hid hrt
  have hs1a : w.heap.size + 3 ≤ W1.heap.size := by omega
  clear h hb1 hrr hre hrt hs1
  go_enter Try.func73, Try.ntmps73
  go_wp2_with fail
  rw [← hW1]
  clear hW1
  refine (pick_any b B 3 _ HRd1.out (by omega) (by omega)).mono ?_
  rintro e w2 ⟨x, rfl, hx, _, hrd2, hg2, hs2⟩
  have hx3 : (x : Int) < 3 := hx (by omega)
  have hbW : b < W1.heap.size := by omega
  have hk2 : ∀ g, w.heap.size ≤ g → g < W1.heap.size → w2.heap[g]? = W1.heap[g]? := fun g h1 h2 => hg2.block g h2 (fun e => by simp only [Option.some.injEq] at e; omega)
  have HRd2 := Lib.hid hrd2
  have HG2 := Lib.hid (rdGrown_trans HG1.out hg2)
  have HRR2 := Lib.hid (HRR.out.keep (hk2 _ (Nat.le_refl _) (by omega)))
  have HRE2 := Lib.hid (HRE.out.keep (hk2 _ (by omega) (by omega)))
  have HRT2 := Lib.hid (HRT.out.keep (hk2 _ (by omega) (by omega)))
  have hs2a : w.heap.size + 3 ≤ w2.heap.size := by omega
  have hwx : IntKind.i64.wrap (2 + (x : Int)) = 2 + (x : Int) := by rw [IntKind.wrap_i64]; omega
  clear hrd2 hg2 hs2 hx hk2 HRd1 HG1 HRR HRE HRT
  go_wp2
  go_loopw [10] (fun i wr => ∃ (j : Nat) (l : Value) (zs : List Int), j ≤ 2 + x ∧ i = .int .i64 j ∧ zs.length = j ∧ Hid (RdAt wr b (B + 1 + 2 * j)) ∧ Hid (w.grownBy wr (some b)) ∧ w.heap.size + 3 ≤ wr.heap.size ∧ Hid (Row wr w.heap.size 26 [.slice none 0 0, .slice none 0 0]) ∧ Hid (Row wr (w.heap.size + 1) 28 []) ∧ Hid (Row wr (w.heap.size + 2) 26 [l, .slice (some ⟨w.heap.size + 1, 0, none⟩) 0 0]) ∧ Hid (wr.ownsRow (w.heap.size + 3) 3 1 l j (zs.map (Value.int .i64))) ∧ Hid (∀ z ∈ zs, 1 ≤ z ∧ z ≤ 9)) (fun i _ => 2 + x - (intOf i).toNat)
  case atStart => exact ⟨0, .slice none 0 0, [], by omega, rfl, rfl, HRd2, HG2, hs2a, HRR2, HRE2, HRT2, Lib.hid (World.ownsRow_nil _ _ _ _), Lib.hid fun z hz => absurd hz (by simp)⟩
  case round =>
    obtain ⟨j, l, zs, hj, rfl, hzl, hrd, hg, hsz, hr8, hre, hr9, hown, hwf⟩ := hrel
    obtain ⟨LA, LC, rfl⟩ := owns_form hown.out
    have p0 := hr9.out.cell 0
    have p1 := hr9.out.cell 1
    have pl := hr9.out.lt
    simp only [List.getElem?_cons_zero, List.getElem?_cons_succ] at p0 p1
    have hwJ : IntKind.i64.wrap ((j : Int) + 1) = (j : Int) + 1 := by rw [IntKind.wrap_i64]; omega
    by_cases hlt : (j : Int) < 2 + (x : Int)
    · go_upto_region 4 with fail
      go_region_law (first
        | (refine step_append_lies _ (by rfl) (.tmp 13) (.tmp 20) 23 (by rfl) (w.heap.size + 3) 3 i0 _ 1 8 Try.underlying23 hi0 hz0 hz1 hz2 rfl (by omega) (.slice LA j LC) j (zs.map (Value.int .i64)) (by rfl) ((Hown3.out.alloc _).drew) ⟨w4.heap.size, 0, none⟩ 1 1 [.int .i64 (1 + (y : Int) + (y2 : Int))] (by rfl) (by rfl) (World.news_of_block (cs := #[.int .i64 (1 + (y : Int) + (y2 : Int))]) (t := 3) (fr := (0, 0)) (heap_alloc_new w4 _)) (by simp [Value.oneCell']) (by omega) (by unfold maxLen; omega) (by omega) (by (try simp); (try omega)) (w4.heap.size + 1) (by simp) ?_; intro g' cap3 w5 hown5 hgrow hat hlt5; have hC5 : w5.heap[w.heap.size + 2]? = w4.heap[w.heap.size + 2]? := (hgrow.block _ (by (try simp); (try omega)) (fun hc => by have := (owns_lt Hown3.out _ hc.symm).1; omega)).trans (Below.heap_alloc w4 _ _ (by omega)); have q0 := (Hr94.out.keep hC5).cell 0; have q0f := (Hr94.out.keep hC5).frozen 0; simp only [List.getElem?_cons_zero] at q0; have Hown5 := Lib.hid hown5; have Hk : Hid (∀ g, g < w4.heap.size → some g ≠ (Value.slice LA j LC).ownBlock → w5.heap[g]? = w4.heap[g]?) := (fun g h1 h2 => (hgrow.block g (by (try simp); (try omega)) h2).trans (Below.heap_alloc w4 _ g h1)); have HG : Hid (w5.os = w4.os ∧ w5.tape = w4.tape ∧ w5.output = w4.output ∧ w4.heap.size ≤ w5.heap.size) := (⟨hgrow.os, hgrow.tape, hgrow.output, (by have := hgrow.size; simp at this; omega)⟩); have HC5 := Lib.hid hC5; clear hown5 hgrow hat hC5)
        | (go_simp; go_at_call 36; (with_reducible show Calls _ _ #[_, .int .i64 3] _ _); refine (pick_any b (B + 1 + 2 * j) 3 wr.drew (hrd.out.keep fun _ _ => rfl) (by omega) (by omega)).mono ?_; rintro e w3 ⟨y, rfl, hy, _, hrd3, hg3, hs3⟩; have hsz3 : wr.heap.size ≤ w3.heap.size := Nat.le_of_eq hs3.symm; have hsz3' : w3.heap.size ≤ wr.heap.size := Nat.le_of_eq hs3; have hlR : w.heap.size + 2 < w3.heap.size := (by omega); have Hk3 : Hid (∀ g, g < wr.heap.size → g ≠ b → w3.heap[g]? = wr.heap[g]?) := (fun g h1 h2 => hg3.block g h1 (fun e => h2 (by simpa using e))); have Hr93 := Lib.hid (hr9.out.keep (Hk3.out _ pl (by omega))); have p03 := Hr93.out.cell 0; simp only [List.getElem?_cons_zero] at p03; have HG3 := Lib.hid (rdGrown_trans hg.out (show wr.grownBy w3 (some b) from ⟨hg3.os, hg3.tape, hg3.output, hg3.size, hg3.block⟩)); have Hrd3 := Lib.hid hrd3; have hyT : (y : Int) < 3 := hy (by omega); have hwy : IntKind.i64.wrap (1 + (y : Int)) = 1 + (y : Int) := (by rw [IntKind.wrap_i64]; omega); clear hrd3 hg3 hs3 hy)
        | (go_simp; go_at_call 36; (with_reducible show Calls _ _ #[_, .int .i64 2] _ _); refine (pick_any b (B + 1 + 2 * j + 1) 2 w3 Hrd3.out (by omega) (by omega)).mono ?_; rintro e w4 ⟨y2, rfl, hy2', _, hrd4, hg4, hs4⟩; have hsz4 : w3.heap.size ≤ w4.heap.size := Nat.le_of_eq hs4.symm; have hsz4' : w4.heap.size ≤ w3.heap.size := Nat.le_of_eq hs4; have hlR4 : w.heap.size + 2 < w4.heap.size := (by omega); have Hk4 : Hid (∀ g, g < wr.heap.size → g ≠ b → w4.heap[g]? = wr.heap[g]?) := (fun g h1 h2 => (hg4.block g (by omega) (fun e => h2 (by simpa using e))).trans (Hk3.out g h1 h2)); have Hr94 := Lib.hid (hr9.out.keep (Hk4.out _ pl (by omega))); have p04 := Hr94.out.cell 0; simp only [List.getElem?_cons_zero] at p04; have HG4 := Lib.hid (rdGrown_trans HG3.out hg4); have Hrd4 := Lib.hid hrd4; have hyT2 : (y2 : Int) < 2 := hy2' (by omega); have hwy2 : IntKind.i64.wrap (1 + (y : Int) + (y2 : Int)) = 1 + (y : Int) + (y2 : Int) := (by rw [IntKind.wrap_i64]; omega); have Hown3 := Lib.hid (ownsRow_keep1 hown.out fun g hg2' => Hk4.out g (owns_lt hown.out g hg2').2 (by have := (owns_lt hown.out g hg2').1; omega)); clear hrd4 hg4 hs4 hy2'))
      all_goals
        go_wp2
        go_roundw
        case rel =>
          have hset : ∀ g, g ≠ w.heap.size + 2 → (w5.setCell ⟨w.heap.size + 2, 0, none⟩ (.slice (some ⟨g', 0, none⟩) (j + 1) cap3)).heap[g]? = w5.heap[g]? := fun g hg => Below.heap_setCell _ _ _ _ (by dsimp only; omega)
          have hold : ∀ g, g < w.heap.size + 3 → w5.heap[g]? = w4.heap[g]? := fun g hg2 => Hk.out g (by omega) (fun e => by have := (owns_lt Hown3.out _ e.symm).1; omega)
          refine ⟨j + 1, .slice (some ⟨g', 0, none⟩) (j + 1) cap3, zs ++ [1 + (y : Int) + (y2 : Int)], by omega, by go_num, by simp [hzl], Lib.hid ((Hrd4.out.keep fun g hg2 => (hset g (by omega)).trans (hold g (by omega))).more (by omega)), Lib.hid ⟨HG.out.1.trans HG4.out.os, HG.out.2.1.trans HG4.out.tape, HG.out.2.2.1.trans HG4.out.output, by have := HG.out.2.2.2; simp [World.setCell]; omega, fun g hg2 hne => (hset g (by omega)).trans ((hold g (by omega)).trans (HG4.out.block g hg2 hne))⟩, by have := HG.out.2.2.2; simp [World.setCell]; omega, Lib.hid (hr8.out.keep ((hset _ (by omega)).trans ((hold _ (by omega)).trans (Hk4.out _ (by omega) (by omega))))), Lib.hid (hre.out.keep ((hset _ (by omega)).trans ((hold _ (by omega)).trans (Hk4.out _ (by omega) (by omega))))), Lib.hid ((Hr94.out.keep HC5.out).set_ 0 _), Lib.hid ?_, Lib.hid ?_⟩
          · rw [List.map_append]
            exact ownsRow_keep1 Hown5.out fun g hg2 => hset g (by have := (owns_lt Hown5.out g hg2).1; omega)
          · intro z hz2
            rcases List.mem_append.1 hz2 with h1 | h1
            · exact hwf.out z h1
            · simp at h1; rw [h1]; omega
        case measure => simp [intOf]; omega
    · obtain ⟨n, hn⟩ : ∃ n : Nat, n = j := ⟨_, rfl⟩
      subst hn
      have hn2 : 2 ≤ n := by omega
      have hn4 : n ≤ 4 := by omega
      go_wp2_with fail
      refine (pick_any b (B + 1 + 2 * n) 5 _ hrd.out (by omega) (by omega)).mono ?_
      rintro e w6 ⟨m5, rfl, hm5, _, hrd6, hg6, hs6⟩
      have hm : (m5 : Int) < 5 := hm5 (by omega)
      have hk6 : ∀ g, w.heap.size ≤ g → g < wr.heap.size → w6.heap[g]? = wr.heap[g]? := fun g h1 h2 => hg6.block g h2 (fun e => by simp only [Option.some.injEq] at e; omega)
      have HRd6 := Lib.hid (hrd6.more (B' := B + 20 + 20 * 0) (by omega))
      have HG6 := Lib.hid (rdGrown_trans hg.out hg6)
      have HRR6 := Lib.hid (hr8.out.keep (hk6 _ (Nat.le_refl _) (by omega)))
      have HRE6 := Lib.hid (hre.out.keep (hk6 _ (by omega) (by omega)))
      have HRT6 := Lib.hid (hr9.out.keep (hk6 _ (by omega) (by omega)))
      have HOW6 := Lib.hid (ownsRow_keep1 hown.out fun g hg2' => hk6 g (by have := (owns_lt hown.out g hg2').1; omega) (owns_lt hown.out g hg2').2)
      have hs6a : w.heap.size + 3 ≤ w6.heap.size := by omega
      have hwn : IntKind.i64.wrap ((n : Int) - 1) = (n : Int) - 1 := by rw [IntKind.wrap_i64]; omega
      clear hrd6 hg6 hs6 hm5 hk6 hrd hg hr8 hre hr9 hown p0 p1 pl HRd2 HG2 HRR2 HRE2 HRT2
      go_wp2
      go_loopw [4, 26] (fun _ i wq => ∃ (k : Nat) (lv : Value) (cos : List Co), k ≤ m5 ∧ i = .int .i64 k ∧ cos.length = k ∧ Hid (RdAt wq b (B + 20 + 20 * k)) ∧ Hid (w.grownBy wq (some b)) ∧ w.heap.size + 3 ≤ wq.heap.size ∧ Hid (Row wq w.heap.size 26 [.slice none 0 0, .slice none 0 0]) ∧ Hid (Row wq (w.heap.size + 2) 26 [.slice LA n LC, lv]) ∧ Hid (wq.ownsRow (w.heap.size + 3) 3 1 (.slice LA n LC) n (zs.map (Value.int .i64))) ∧ Hid (CosOwned wq (w.heap.size + 1) lv (fun i => cos.getD i default) k) ∧ Hid (∀ c ∈ cos, I64 c.src ∧ I64 c.dst ∧ (∀ z ∈ c.map, I64 z) ∧ c.map.length ≤ 9)) (fun _ i _ => m5 - (intOf i).toNat)
      case atStart => exact ⟨0, _, [], by omega, rfl, rfl, HRd6, HG6, hs6a, HRR6, HRT6, HOW6, Lib.hid (CosOwned.litAt _ _ _ _ (Nat.le_refl _) HRE6.out), Lib.hid fun c hc => absurd hc (by simp)⟩
      case round =>
        obtain ⟨k, lv, cos, hk, rfl, hcl, hrd, hg, hsz, hr8, hr9, hown, hco, hcw⟩ := hrel
        obtain ⟨xs, m, mv, how, hmo⟩ := hco.out
        obtain ⟨CA, CC, rfl⟩ := owns_form how
        have How := Lib.hid how
        have Hmo := Lib.hid hmo
        have p0 := hr9.out.cell 0
        have p1 := hr9.out.cell 1
        have pl := hr9.out.lt
        simp only [List.getElem?_cons_zero, List.getElem?_cons_succ] at p0 p1
        have hwJ : IntKind.i64.wrap ((k : Int) + 1) = (k : Int) + 1 := by rw [IntKind.wrap_i64]; omega
        clear how hmo hco
        by_cases hlt : (k : Int) < (m5 : Int)
        · go_wp2_with fail
          refine (pick_any b (B + 20 + 20 * k) ((n : Int) - 1) _ hrd.out (by omega) (by omega)).mono ?_
          rintro e w7 ⟨y, rfl, hy', _, hrd7, hg7, hs7⟩
          have hy : (y : Int) < (n : Int) - 1 := hy' (by omega)
          obtain ⟨q, hq⟩ : ∃ q : Nat, (q : Int) = 1 + (y : Int) := ⟨1 + y, by omega⟩
          have hwq : IntKind.i64.wrap (1 + (y : Int)) = (q : Int) := by rw [IntKind.wrap_i64]; omega
          have hqn : q < n := by omega
          have hq1 : 1 ≤ q := by omega
          have Hk7 : Hid (∀ g, g < wr.heap.size → g ≠ b → w7.heap[g]? = wr.heap[g]?) := fun g h1 h2 => hg7.block g h1 (fun e => h2 (by simpa using e))
          have HG7 := Lib.hid (hg7 : wr.grownBy w7 (some b))
          have Hrd7 := Lib.hid hrd7
          have hsz7 : wr.heap.size ≤ w7.heap.size := Nat.le_of_eq hs7.symm
          have hsz7' : w7.heap.size ≤ wr.heap.size := Nat.le_of_eq hs7
          have Hr97 := Lib.hid (hr9.out.keep (Hk7.out _ pl (by omega)))
          have p07 := Hr97.out.cell 0
          have p17 := Hr97.out.cell 1
          simp only [List.getElem?_cons_zero, List.getElem?_cons_succ] at p07 p17
          have hl7 : w.heap.size + 2 < w7.heap.size := by omega
          clear hrd7 hg7 hs7 hy'
          go_upto_region 9 with fail
          rw [← hq]
          clear hq hwq
          go_region_law (first
            | (refine step_append_lies _ (by rfl) (.tmp 36) (.tmp 45) 24 (by rfl) (w.heap.size + 1) 28 j0 _ 3 40 Try.underlying24 hj0 hy0 hy1 hy2 rfl (by omega) (.slice CA k CC) k xs (by rfl) ((How9.out.alloc _).drew) ⟨w9.heap.size, 0, none⟩ 1 1 [.int .i64 (y3 : Nat), .int .i64 (q : Nat), .slice ZA zs2.length ZC] (by rfl) (by rfl) (World.news_of_block (cs := #[.int .i64 (y3 : Nat), .int .i64 (q : Nat), .slice ZA zs2.length ZC]) (t := 28) (fr := (0, 0)) (heap_alloc_new w9 _)) (by simp [Value.oneCell']) (by omega) (by unfold maxLen; omega) (by omega) (by (try simp); (try omega)) (w9.heap.size + 1) (by simp) ?_; intro g' cap3 w10 hown10 hgrow hat hlt10; have hC10 : w10.heap[w.heap.size + 2]? = w9.heap[w.heap.size + 2]? := (hgrow.block _ (by (try simp); (try omega)) (fun hc => row_own_ne Hr99.out How9.out hc.symm)).trans (Below.heap_alloc w9 _ _ (by omega)); have q1 := (Hr99.out.keep hC10).cell 1; have q1f := (Hr99.out.keep hC10).frozen 1; simp only [List.getElem?_cons_zero, List.getElem?_cons_succ] at q1; have Hown10 := Lib.hid hown10; have Hgrow := Lib.hid hgrow; have Hat := Lib.hid hat; have HC10 := Lib.hid hC10; clear hown10 hgrow hat hC10)
            | (go_simp; go_at_call 36; refine (pick_any b (B + 20 + 20 * k + 1) (q : Int) w7.drew (Hrd7.out.keep fun _ _ => rfl) (by omega) (by omega)).mono ?_; rintro e w8 ⟨y3, rfl, hy3', _, hrd8, hg8, hs8⟩; have hsz8 : w7.heap.size ≤ w8.heap.size := Nat.le_of_eq hs8.symm; have hsz8' : w8.heap.size ≤ w7.heap.size := Nat.le_of_eq hs8; have hl8 : w.heap.size + 2 < w8.heap.size := (by omega); have HG8 := Lib.hid (rdGrown_trans HG7.out (show w7.grownBy w8 (some b) from ⟨hg8.os, hg8.tape, hg8.output, hg8.size, hg8.block⟩)); have Hk8 : Hid (∀ g, g < wr.heap.size → g ≠ b → w8.heap[g]? = wr.heap[g]?) := (fun g h1 h2 => HG8.out.block g h1 (fun e => h2 (by simpa using e))); have Hr98 := Lib.hid (hr9.out.keep (Hk8.out _ pl (by omega))); have p08 := Hr98.out.cell 0; have p18 := Hr98.out.cell 1; simp only [List.getElem?_cons_zero, List.getElem?_cons_succ] at p08 p18; have Hrd8 := Lib.hid hrd8; have hy3 : (y3 : Int) < (q : Int) := hy3' (by omega); have HI8 := Lib.hid (ownsRow.intsAt (lo := w.heap.size + 3) (hi := w8.heap.size) (show w8.ownsRow (w.heap.size + 3) 3 1 (.slice LA n LC) zs.length (zs.map (Value.int .i64)) from (by rw [hzl]; exact ownsRow_keep1 hown.out fun g hg2' => Hk8.out g (owns_lt hown.out g hg2').2 (by have := (owns_lt hown.out g hg2').1; omega))) (fun z hz => (by have := hwf.out z hz; unfold I64; omega)) (Nat.le_refl _) (Nat.le_refl _)); clear hrd8 hg8 hs8 hy3')
            | (go_simp; go_at_call 37; refine (drawMap_any b (B + 20 + 20 * k + 2) (w.heap.size + 3) w8.heap.size y3 q _ zs w8 Hrd8.out (by omega) HI8.out (by omega) (Nat.le_refl _) (by omega) (by omega) (fun z hz => hwf.out z hz) (by omega)).mono ?_; rintro e w9 ⟨z, zs2, rfl, hrd9, hg9, ⟨hz9, hzw⟩, hzl9⟩; obtain ⟨ZA, ZC, rfl⟩ := owns_form hz9; have hsz9 := hg9.size; have hl9 : w.heap.size + 2 < w9.heap.size := (by omega); have HG9 := Lib.hid (rdGrown_trans HG8.out hg9); have Hk9 : Hid (∀ g, g < wr.heap.size → g ≠ b → w9.heap[g]? = wr.heap[g]?) := (fun g h1 h2 => HG9.out.block g h1 (fun e => h2 (by simpa using e))); have Hr99 := Lib.hid (hr9.out.keep (Hk9.out _ pl (by omega))); have p09 := Hr99.out.cell 0; have p19 := Hr99.out.cell 1; simp only [List.getElem?_cons_zero, List.getElem?_cons_succ] at p09 p19; have Hrd9 := Lib.hid hrd9; have Hz9 := Lib.hid hz9; have Hzw := Lib.hid hzw; have How9 := Lib.hid (ownsRow_keep1 How.out fun g hg2' => Hk9.out g (owns_lt How.out g hg2').2 (by have := (owns_lt How.out g hg2').1; omega)); clear hrd9 hg9 hz9 hzw))
          all_goals
            obtain ⟨u, hus, hue, hub⟩ := below_of_grown HG9.out (by omega)
            obtain ⟨c, hc⟩ : ∃ c : Co, c = ⟨(y3 : Nat), (q : Nat), zs2⟩ := ⟨_, rfl⟩
            have hmo' := (Hmo.out.congr' (f' := fun i => (cos ++ [c]).getD i default) (fun i hi => by rw [List.getD_eq_getElem?_getD, List.getD_eq_getElem?_getD, List.getElem?_append_left (by omega)])).keep (w' := u) (Nat.le_of_eq hus.symm) (fun g h1 _ => hue g (by omega))
            have how' := ownsRow_keep1 How.out (w' := u) fun g hg2' => hue g (by have := (owns_lt How.out g hg2').1; omega)
            have hpush := CosOwned.push (w := u) (w2 := w9) (c := c) hmo' how' (by omega) (show (cos ++ [c]).getD k default = c by rw [List.getD_eq_getElem?_getD, List.getElem?_append_right (by omega), hcl]; simp) (by rw [hus]; exact hub) (by rw [hc]; exact ownsRow_lower Hz9.out (by omega)) Hgrow.out Hat.out (by rw [hc]; exact Hown10.out)
            have Hpush := Lib.hid hpush
            have hsz10 : w9.heap.size + 1 ≤ w10.heap.size := by have := Hgrow.out.size; simpa using this
            have Hk10 : Hid (∀ g, g < w9.heap.size → some g ≠ (Value.slice CA k CC).ownBlock → w10.heap[g]? = w9.heap[g]?) := fun g h1 h2 => (Hgrow.out.block g (by simp; omega) h2).trans (Below.heap_alloc w9 _ g h1)
            have HW9 : Hid (∀ c' ∈ cos ++ [c], I64 c'.src ∧ I64 c'.dst ∧ (∀ z ∈ c'.map, I64 z) ∧ c'.map.length ≤ 9) := fun c' hc' => by
              rcases List.mem_append.1 hc' with h1 | h1
              · exact hcw.out c' h1
              · simp only [List.mem_singleton] at h1
                rw [h1, hc]
                exact ⟨by show I64 (y3 : Int); unfold I64; omega, by show I64 (q : Int); unfold I64; omega, Hzw.out, hzl9⟩
            have hos : Hid (w10.os = w9.os ∧ w10.tape = w9.tape ∧ w10.output = w9.output) := ⟨Hgrow.out.os, Hgrow.out.tape, Hgrow.out.output⟩
            clear hpush hmo' how' hus hue hub hc
            go_wp2
            go_roundw
            case rel =>
              have hset : ∀ g, g ≠ w.heap.size + 2 → (w10.setCell ⟨w.heap.size + 2, 1, none⟩ (.slice (some ⟨g', 0, none⟩) (k + 1) cap3)).heap[g]? = w10.heap[g]? := fun g hg => Below.heap_setCell _ _ _ _ (by dsimp only; omega)
              have hold : ∀ g, g ≤ w.heap.size → w10.heap[g]? = w9.heap[g]? := fun g hg2 => Hk10.out g (by omega) (fun e => by have := (owns_lt How9.out _ e.symm).1; omega)
              refine ⟨k + 1, .slice (some ⟨g', 0, none⟩) (k + 1) cap3, cos ++ [c], by omega, by go_num, by simp [hcl], Lib.hid ((Hrd9.out.keep fun g hg2 => (hset g (by omega)).trans (hold g (by omega))).more (by omega)), Lib.hid ⟨hos.out.1.trans (HG9.out.os.trans hg.out.os), hos.out.2.1.trans (HG9.out.tape.trans hg.out.tape), hos.out.2.2.trans (HG9.out.output.trans hg.out.output), by simp [World.setCell]; omega, fun g hg2 hne => (hset g (by omega)).trans ((hold g (by omega)).trans ((HG9.out.block g (by omega) hne).trans (hg.out.block g hg2 hne)))⟩, by simp [World.setCell]; omega, Lib.hid (hr8.out.keep ((hset _ (by omega)).trans ((hold _ (by omega)).trans (Hk9.out _ (by omega) (by omega))))), Lib.hid ((Hr99.out.keep HC10.out).set_ 1 _), Lib.hid (ownsRow_keep1 hown.out fun g hg2' => ?_), Lib.hid (Hpush.out.keep_but (Hr99.out.keep HC10.out) (by simp [World.setCell]) fun g _ _ hne => hset g hne), HW9⟩
              have h1 := owns_lt hown.out g hg2'
              have h9 := ownsRow_keep1 hown.out (w' := w9) fun g hg2' => Hk9.out g (owns_lt hown.out g hg2').2 (by have := (owns_lt hown.out g hg2').1; omega)
              exact (hset g (by omega)).trans ((Hk10.out g (by omega) (fun e => int_own_ne h9 How9.out hg2' e.symm)).trans (Hk9.out g h1.2 (by omega)))
            case measure => simp [intOf]; omega
        · obtain ⟨n5, hn5⟩ : ∃ n5 : Nat, n5 = k := ⟨_, rfl⟩
          subst hn5
          have hr8' := hr8.out
          have q0 := hr8'.cell 0
          have q1 := hr8'.cell 1
          have qf0 := hr8'.frozen 0
          have qf1 := hr8'.frozen 1
          simp only [List.getElem?_cons_zero, List.getElem?_cons_succ] at q0 q1
          clear hr8'
          go_wp2
          refine bodyPost_ret (v := .agg #[.slice LA n LC, .slice CA n5 CC]) (by simp [results, Try.results73, go_sem, q0, q1]) rfl ?_
          have hset : ∀ g, g ≠ w.heap.size → ((wr.setCell ⟨w.heap.size, 0, none⟩ (.slice LA n LC)).setCell ⟨w.heap.size, 1, none⟩ (.slice CA n5 CC)).heap[g]? = wr.heap[g]? := fun g hg2 => (Below.heap_setCell _ _ _ _ (by dsimp only; omega)).trans (Below.heap_setCell _ _ _ _ (by dsimp only; omega))
          refine ⟨_, _, rfl, (hrd.out.keep fun g hg2 => hset g (by omega)).more (by omega), ⟨hg.out.os, hg.out.tape, hg.out.output, by simp [World.setCell]; omega, fun g hg2 hne => (hset g (by omega)).trans (hg.out.block g hg2 hne)⟩, ⟨zs, cos⟩, ⟨?_, ?_⟩, ⟨by show zs.length ≤ 9; omega, by show cos.length ≤ 9; omega, fun c hc => (hcw.out c hc).2.2.2⟩, by show 2 ≤ zs.length; omega, hwf.out⟩
          · refine ownsRow.intsAt (lo := w.heap.size) (show World.ownsRow _ (w.heap.size + 3) 3 1 (.slice LA n LC) zs.length (zs.map (Value.int .i64)) from by rw [hzl]; exact ownsRow_keep1 hown.out fun g hg2' => hset g (by have := (owns_lt hown.out g hg2').1; omega)) (fun z hz => by have := hwf.out z hz; unfold I64; omega) (by omega) (Nat.le_refl _)
          · have hc1 := (show CosOwned wr (w.heap.size + 1) (.slice CA n5 CC) (fun i => cos.getD i default) n5 from ⟨xs, m, mv, How.out, Hmo.out⟩).keep (w' := (wr.setCell ⟨w.heap.size, 0, none⟩ (.slice LA n LC)).setCell ⟨w.heap.size, 1, none⟩ (.slice CA n5 CC)) (by simp [World.setCell]) (fun g h1 _ => hset g (by omega))
            have hc2 := hc1.cosAt (lo := w.heap.size) (hi := ((wr.setCell ⟨w.heap.size, 0, none⟩ (.slice LA n LC)).setCell ⟨w.heap.size, 1, none⟩ (.slice CA n5 CC)).heap.size) (fun i hi => by
              have e : cos.getD i default = cos[i]'(by omega) := by rw [List.getD_eq_getElem?_getD, List.getElem?_eq_getElem (by omega)]; rfl
              rw [e]
              have := hcw.out _ (List.getElem_mem (h := (by omega : i < cos.length)))
              exact ⟨this.1, this.2.1, this.2.2.1⟩) (by omega) (Nat.le_refl _)
            have e2 : (List.range n5).map (fun i => cos.getD i default) = cos := by rw [← hcl]; exact range_getD cos
            rw [e2] at hc2
            exact hc2
end Go.Proofs.Ytplpnammboofiaa

