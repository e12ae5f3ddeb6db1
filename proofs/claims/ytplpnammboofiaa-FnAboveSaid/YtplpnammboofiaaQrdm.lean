/-
  The contract of l1DrawMap: a coercion whose map has some numbers that fit.
-/
import Derived.Test.YtplpnammboofiaaJ1
import Derived.Test.YtplpnammboofiaaJ3
namespace Go.Proofs.Ytplpnammboofiaa
open Go.RowKit

set_option maxRecDepth 100000 in
set_option maxHeartbeats 2000000 in
theorem drawMap_any (b B lo hi f t : Nat) (sv : Value) (ss : List Int) (w : World) (h : RdAt w b B) (hB : B ≤ 900000) (hz : IntsAt w lo hi sv ss) (hlo : b < lo) (hh : hi ≤ w.heap.size) (hf : f < ss.length) (ht : t < ss.length) (h5 : ∀ z ∈ ss, 1 ≤ z ∧ z ≤ 9) (_hl : ss.length ≤ 1000) :
    Calls Try.prog 37 #[.pointer (some ⟨b, 0, none⟩), sv, .int .i64 f, .int .i64 t] w fun e w' => ∃ (z : Value) (zs : List Int), e = .returned (.agg #[.int .i64 f, .int .i64 t, z]) ∧ RdAt w' b (B + 10) ∧ w.grownBy w' (some b) ∧ (w'.ownsRow w.heap.size 3 1 z zs.length (zs.map (Value.int .i64)) ∧ ∀ q ∈ zs, I64 q) ∧ zs.length ≤ 9 := by
  obtain ⟨A, cap, rfl, _, _, hz⟩ := hz.form
  obtain ⟨i0, hi0, hz0, hz1, hz2⟩ := info_parts Try.infoInt
  have hbl := h.lt
  have H := Lib.hid h
  have Hz := Lib.hid hz
  clear h hz
  go_enter Try.func37, Try.ntmps37
  go_wp2_with fail
  have hr8 := (Row.new w 28 [.int .i64 0, .int .i64 0, .slice none 0 0]).alloc (.cells #[.int .i64 f, .int .i64 t, .slice none 0 0] 28)
  have hr9 := Row.new (w.alloc (.cells #[.int .i64 0, .int .i64 0, .slice none 0 0] 28)) 28 [.int .i64 f, .int .i64 t, .slice none 0 0]
  rw [World.size_alloc] at hr9
  have hb2 : Below w.heap.size w ((w.alloc (.cells #[.int .i64 0, .int .i64 0, .slice none 0 0] 28)).alloc (.cells #[.int .i64 f, .int .i64 t, .slice none 0 0] 28)) := by go_grown
  refine (pick_any b B 3 _ (H.out.keep fun g hg => hb2.block g (by omega)) (by omega) (by omega)).mono ?_
  rintro e w1 ⟨x, rfl, _, _, hrd1, hg1, hs1⟩
  simp only [World.size_alloc] at hs1
  have R8 := Lib.hid (hr8.keep (hg1.block _ (by simp; omega) (fun e => by simp only [Option.some.injEq] at e; omega)))
  have R9 := Lib.hid (hr9.keep (hg1.block _ (by simp) (fun e => by simp only [Option.some.injEq] at e; omega)))
  have G1 : Hid (w.grownBy w1 (some b)) := ⟨hg1.os.trans hb2.os, hg1.tape.trans hb2.tape, hg1.output.trans hb2.output, by omega, fun g hg hne => (hg1.block g (by simp; omega) hne).trans (hb2.block g hg)⟩
  have Hrd1 := Lib.hid hrd1
  have hsz1 : w.heap.size + 2 ≤ w1.heap.size := by omega
  obtain ⟨zb, zo, rfl, hzb1, hzb2, ef, _⟩ := Hz.out.at_ hf
  have et : w.cell? ⟨zb, zo + t, none⟩ = some (.int .i64 ss[t]) := by
    obtain ⟨zb', zo', e', _, _, et, _⟩ := Hz.out.at_ ht
    cases e'
    exact et
  have cf := (World.cell?_of_block (a := ⟨zb, zo + f, none⟩) (G1.out.block zb (by omega) (fun e => by simp only [Option.some.injEq] at e; omega))).trans ef
  have hNf := h5 _ (List.getElem_mem hf)
  have hNt := h5 _ (List.getElem_mem ht)
  generalize ss[f] = F at *
  generalize ss[t] = T at *
  have Het := Lib.hid et
  clear hrd1 hg1 hs1 hr8 hr9 hb2 ef et h5
  by_cases hx : 0 < x
  · skip
    go_wp2_with fail
    go_loopw [22] (fun iv wr => ∃ (j : Nat) (l : Value) (zs : List Int), (j : Int) ≤ F ∧ iv = .int .i64 j ∧ zs.length = j ∧ Hid (RdAt wr b (B + 1 + j)) ∧ Hid (w.grownBy wr (some b)) ∧ w.heap.size + 2 ≤ wr.heap.size ∧ Hid (Row wr w.heap.size 28 [.int .i64 0, .int .i64 0, .slice none 0 0]) ∧ Hid (Row wr (w.heap.size + 1) 28 [.int .i64 f, .int .i64 t, l]) ∧ Hid (wr.ownsRow (w.heap.size + 2) 3 1 l j (zs.map (Value.int .i64))) ∧ Hid (∀ z ∈ zs, I64 z)) (fun iv _ => (F - intOf iv).toNat)
    case atStart => exact ⟨0, .slice none 0 0, [], by omega, rfl, rfl, Hrd1, G1, hsz1, R8, R9, Lib.hid (World.ownsRow_nil _ _ _ _), Lib.hid fun z hz => absurd hz (by simp)⟩
    case round =>
      obtain ⟨j, l, zs, hj, rfl, hzl, hrd, hg, hsz, hr8, hr9, hown, hwf⟩ := hrel
      obtain ⟨LA, LC, rfl⟩ := owns_form hown.out
      have p0 := hr9.out.cell 0
      have p1 := hr9.out.cell 1
      have p2 := hr9.out.cell 2
      have pl := hr9.out.lt
      simp only [List.getElem?_cons_zero, List.getElem?_cons_succ] at p0 p1 p2
      have ct := (World.cell?_of_block (a := ⟨zb, zo + t, none⟩) (hg.out.block zb (by omega) (fun e => by simp only [Option.some.injEq] at e; omega))).trans Het.out
      have hwT : IntKind.i64.wrap (T - 1) = T - 1 := by rw [IntKind.wrap_i64]; omega
      have hwJ : IntKind.i64.wrap ((j : Int) + 1) = (j : Int) + 1 := by rw [IntKind.wrap_i64]; omega
      by_cases hlt : (j : Int) < F
      · have Hown := Lib.hid hown.out
        obtain ⟨V, hV, hV64⟩ : ∃ V, (if T - 1 < (j : Int) then T - 1 else (j : Int)) = V ∧ I64 V := ⟨_, rfl, by unfold I64; split <;> omega⟩
        go_upto_region 7 with fail
        go_region_law (refine step_append_lies _ (by rfl) (.tmp 27) (.tmp 35) 23 (by rfl) (w.heap.size + 2) 3 i0 _ 1 8 Try.underlying23 hi0 hz0 hz1 hz2 rfl (by omega) (.slice LA j LC) j (zs.map (Value.int .i64)) (by rfl) ((Hown.out.alloc _).drew) ⟨wr.heap.size, 0, none⟩ 1 1 [.int .i64 V] (by rfl) (by rfl) (World.news_of_block (cs := #[.int .i64 V]) (t := 3) (fr := (0, 0)) (heap_alloc_new wr _)) (by simp [Value.oneCell']) (by omega) (by unfold maxLen; omega) (by omega) (by (try simp); (try omega)) (wr.heap.size + 1) (by simp) ?_; intro g' cap3 w3 hown3 hgrow hat hlt3; have hC3 : w3.heap[w.heap.size + 1]? = wr.heap[w.heap.size + 1]? := (hgrow.block _ (by (try simp); (try omega)) (fun hc => by have := (owns_lt Hown.out _ hc.symm).1; omega)).trans (Below.heap_alloc wr _ _ (by omega)); have q2 := (hr9.out.keep hC3).cell 2; have q2f := (hr9.out.keep hC3).frozen 2; simp only [List.getElem?_cons_zero, List.getElem?_cons_succ] at q2; have Hown3 := Lib.hid hown3; have Hk : Hid (∀ g, g < wr.heap.size → some g ≠ (Value.slice LA j LC).ownBlock → w3.heap[g]? = wr.heap[g]?) := (fun g h1 h2 => (hgrow.block g (by (try simp); (try omega)) h2).trans (Below.heap_alloc wr _ g h1)); have HG : Hid (w3.os = wr.os ∧ w3.tape = wr.tape ∧ w3.output = wr.output ∧ wr.heap.size ≤ w3.heap.size) := (⟨hgrow.os, hgrow.tape, hgrow.output, (by have := hgrow.size; simp at this; omega)⟩); have HC3 := Lib.hid hC3; clear hown3 hgrow hat hC3)
        all_goals
          go_wp2
          go_roundw
          case rel =>
            have hset : ∀ g, g ≠ w.heap.size + 1 → (w3.setCell ⟨w.heap.size + 1, 2, none⟩ (.slice (some ⟨g', 0, none⟩) (j + 1) cap3)).heap[g]? = w3.heap[g]? := fun g hg => Below.heap_setCell _ _ _ _ (by dsimp only; omega)
            have hold : ∀ g, g < w.heap.size + 1 → w3.heap[g]? = wr.heap[g]? := fun g hg2 => Hk.out g (by omega) (fun e => by have := (owns_lt Hown.out _ e.symm).1; omega)
            refine ⟨j + 1, .slice (some ⟨g', 0, none⟩) (j + 1) cap3, zs ++ [V], by omega, by go_num, by simp [hzl], Lib.hid ((hrd.out.keep fun g hg2 => (hset g (by omega)).trans (hold g (by omega))).more (by omega)), Lib.hid ⟨HG.out.1.trans hg.out.os, HG.out.2.1.trans hg.out.tape, HG.out.2.2.1.trans hg.out.output, by have := HG.out.2.2.2; simp [World.setCell]; omega, fun g hg2 hne => (hset g (by omega)).trans ((hold g (by omega)).trans (hg.out.block g hg2 hne))⟩, by have := HG.out.2.2.2; simp [World.setCell]; omega, Lib.hid ((hr8.out.keep (hold _ (by omega))).far (by dsimp only; omega) _), Lib.hid ((hr9.out.keep HC3.out).set_ 2 _), Lib.hid ?_, Lib.hid ?_⟩
            · rw [List.map_append]
              exact ownsRow_keep1 Hown3.out fun g hg2 => hset g (by have := (owns_lt Hown3.out g hg2).1; omega)
            · intro z hz2
              rcases List.mem_append.1 hz2 with h1 | h1
              · exact hwf.out z h1
              · simp at h1; rw [h1]; exact hV64
          case measure => simp [intOf]; omega
      · obtain rfl : (j : Int) = F := by omega
        have q0 := hr8.out.cell 0
        have q1 := hr8.out.cell 1
        have q2 := hr8.out.cell 2
        have qf0 := hr8.out.frozen 0
        have qf1 := hr8.out.frozen 1
        have qf2 := hr8.out.frozen 2
        simp only [List.getElem?_cons_zero, List.getElem?_cons_succ] at q0 q1 q2
        have Hown := Lib.hid hown.out
        go_wp2
        refine bodyPost_ret (v := .agg #[.int .i64 f, .int .i64 t, .slice LA j LC]) (by simp [results, Try.results37, go_sem, q0, q1, q2]) rfl ?_
        have hset : ∀ g, g ≠ w.heap.size → (((wr.setCell ⟨w.heap.size, 0, none⟩ (.int .i64 f)).setCell ⟨w.heap.size, 1, none⟩ (.int .i64 t)).setCell ⟨w.heap.size, 2, none⟩ (.slice LA j LC)).heap[g]? = wr.heap[g]? := fun g hg2 => (Below.heap_setCell _ _ _ _ (by dsimp only; omega)).trans ((Below.heap_setCell _ _ _ _ (by dsimp only; omega)).trans (Below.heap_setCell _ _ _ _ (by dsimp only; omega)))
        refine ⟨_, rfl, (hrd.out.keep fun g hg2 => hset g (by omega)).more (by omega), ⟨hg.out.os, hg.out.tape, hg.out.output, by simp [World.setCell]; omega, fun g hg2 hne => (hset g (by omega)).trans (hg.out.block g hg2 hne)⟩, zs, ?_, by omega⟩
        have ho : World.ownsRow (((wr.setCell ⟨w.heap.size, 0, none⟩ (.int .i64 f)).setCell ⟨w.heap.size, 1, none⟩ (.int .i64 t)).setCell ⟨w.heap.size, 2, none⟩ (.slice LA j LC)) (w.heap.size + 2) 3 1 (.slice LA j LC) zs.length (zs.map (Value.int .i64)) := by
          rw [hzl]
          exact ownsRow_keep1 Hown.out fun g hg2 => hset g (by have := (owns_lt Hown.out g hg2).1; omega)
        exact ⟨ownsRow_lower ho (by omega), hwf.out⟩
  · obtain rfl : x = 0 := by omega
    go_wp2_with fail
    go_loopw [22] (fun iv wr => ∃ (j : Nat) (l : Value) (zs : List Int), (j : Int) ≤ F ∧ iv = .int .i64 j ∧ zs.length = j ∧ Hid (RdAt wr b (B + 1 + j)) ∧ Hid (w.grownBy wr (some b)) ∧ w.heap.size + 2 ≤ wr.heap.size ∧ Hid (Row wr w.heap.size 28 [.int .i64 0, .int .i64 0, .slice none 0 0]) ∧ Hid (Row wr (w.heap.size + 1) 28 [.int .i64 f, .int .i64 t, l]) ∧ Hid (wr.ownsRow (w.heap.size + 2) 3 1 l j (zs.map (Value.int .i64))) ∧ Hid (∀ z ∈ zs, I64 z)) (fun iv _ => (F - intOf iv).toNat)
    case atStart => exact ⟨0, .slice none 0 0, [], by omega, rfl, rfl, Hrd1, G1, hsz1, R8, R9, Lib.hid (World.ownsRow_nil _ _ _ _), Lib.hid fun z hz => absurd hz (by simp)⟩
    case round =>
      obtain ⟨j, l, zs, hj, rfl, hzl, hrd, hg, hsz, hr8, hr9, hown, hwf⟩ := hrel
      obtain ⟨LA, LC, rfl⟩ := owns_form hown.out
      have p0 := hr9.out.cell 0
      have p1 := hr9.out.cell 1
      have p2 := hr9.out.cell 2
      have pl := hr9.out.lt
      simp only [List.getElem?_cons_zero, List.getElem?_cons_succ] at p0 p1 p2
      have ct := (World.cell?_of_block (a := ⟨zb, zo + t, none⟩) (hg.out.block zb (by omega) (fun e => by simp only [Option.some.injEq] at e; omega))).trans Het.out
      have hwT : IntKind.i64.wrap (T - 1) = T - 1 := by rw [IntKind.wrap_i64]; omega
      have hwJ : IntKind.i64.wrap ((j : Int) + 1) = (j : Int) + 1 := by rw [IntKind.wrap_i64]; omega
      by_cases hlt : (j : Int) < F
      · have Hown := Lib.hid hown.out
        go_upto_region 8 with fail
        go_region_law (first
          | (refine step_append_lies _ (by rfl) (.tmp 39) (.tmp 46) 23 (by rfl) (w.heap.size + 2) 3 i0 _ 1 8 Try.underlying23 hi0 hz0 hz1 hz2 rfl (by omega) (.slice LA j LC) j (zs.map (Value.int .i64)) (by rfl) ((Hown2.out.alloc _).drew) ⟨w2.heap.size, 0, none⟩ 1 1 [.int .i64 (y : Nat)] (by rfl) (by rfl) (World.news_of_block (cs := #[.int .i64 (y : Nat)]) (t := 3) (fr := (0, 0)) (heap_alloc_new w2 _)) (by simp [Value.oneCell']) (by omega) (by unfold maxLen; omega) (by omega) (by (try simp); (try omega)) (w2.heap.size + 1) (by simp) ?_; intro g' cap3 w3 hown3 hgrow hat hlt3; have hC3 : w3.heap[w.heap.size + 1]? = w2.heap[w.heap.size + 1]? := (hgrow.block _ (by (try simp); (try omega)) (fun hc => by have := (owns_lt Hown2.out _ hc.symm).1; omega)).trans (Below.heap_alloc w2 _ _ (by omega)); have q2 := (Hr92.out.keep hC3).cell 2; have q2f := (Hr92.out.keep hC3).frozen 2; simp only [List.getElem?_cons_zero, List.getElem?_cons_succ] at q2; have Hown3 := Lib.hid hown3; have Hk : Hid (∀ g, g < w2.heap.size → some g ≠ (Value.slice LA j LC).ownBlock → w3.heap[g]? = w2.heap[g]?) := (fun g h1 h2 => (hgrow.block g (by (try simp); (try omega)) h2).trans (Below.heap_alloc w2 _ g h1)); have HG : Hid (w3.os = w2.os ∧ w3.tape = w2.tape ∧ w3.output = w2.output ∧ w2.heap.size ≤ w3.heap.size) := (⟨hgrow.os, hgrow.tape, hgrow.output, (by have := hgrow.size; simp at this; omega)⟩); have HC3 := Lib.hid hC3; clear hown3 hgrow hat hC3)
          | (go_simp; go_at_call 36; refine (pick_any b (B + 1 + j) T wr.drew (hrd.out.keep fun _ _ => rfl) (by omega) (by omega)).mono ?_; rintro e w2 ⟨y, rfl, hy, _, hrd2, hg2, hs2⟩; have hsz2 : wr.heap.size ≤ w2.heap.size := Nat.le_of_eq hs2.symm; have hsz2' : w2.heap.size ≤ wr.heap.size := Nat.le_of_eq hs2; have hlR : w.heap.size + 1 < w2.heap.size := (by omega); have Hk2 : Hid (∀ g, g < wr.heap.size → g ≠ b → w2.heap[g]? = wr.heap[g]?) := (fun g h1 h2 => hg2.block g h1 (fun e => h2 (by simpa using e))); have Hr92 := Lib.hid (hr9.out.keep (Hk2.out _ pl (by omega))); have p2 := Hr92.out.cell 2; simp only [List.getElem?_cons_zero, List.getElem?_cons_succ] at p2; have Hown2 := Lib.hid (ownsRow_keep1 hown.out fun g hg2' => Hk2.out g (owns_lt hown.out g hg2').2 (by have := (owns_lt hown.out g hg2').1; omega)); have HG2 : Hid (w2.os = wr.os ∧ w2.tape = wr.tape ∧ w2.output = wr.output) := ⟨hg2.os, hg2.tape, hg2.output⟩; have Hrd2 := Lib.hid hrd2; have hyT : (y : Int) < T := hy (by omega); clear hrd2 hg2 hs2 hy))
        all_goals
          go_wp2
          go_roundw
          case rel =>
            have hset : ∀ g, g ≠ w.heap.size + 1 → (w3.setCell ⟨w.heap.size + 1, 2, none⟩ (.slice (some ⟨g', 0, none⟩) (j + 1) cap3)).heap[g]? = w3.heap[g]? := fun g hg => Below.heap_setCell _ _ _ _ (by dsimp only; omega)
            have hold : ∀ g, g < w.heap.size + 1 → w3.heap[g]? = w2.heap[g]? := fun g hg2 => Hk.out g (by omega) (fun e => by have := (owns_lt Hown2.out _ e.symm).1; omega)
            refine ⟨j + 1, .slice (some ⟨g', 0, none⟩) (j + 1) cap3, zs ++ [(y : Int)], by omega, by go_num, by simp [hzl], Lib.hid ((Hrd2.out.keep fun g hg2 => (hset g (by omega)).trans (hold g (by omega))).more (by omega)), Lib.hid ⟨HG.out.1.trans (HG2.out.1.trans hg.out.os), HG.out.2.1.trans (HG2.out.2.1.trans hg.out.tape), HG.out.2.2.1.trans (HG2.out.2.2.trans hg.out.output), by have := HG.out.2.2.2; simp [World.setCell]; omega, fun g hg2 hne => (hset g (by omega)).trans ((hold g (by omega)).trans ((Hk2.out g (by omega) (fun e => hne (by rw [e]))).trans (hg.out.block g hg2 hne)))⟩, by have := HG.out.2.2.2; simp [World.setCell]; omega, Lib.hid (((hr8.out.keep (Hk2.out _ (by omega) (by omega))).keep (hold _ (by omega))).far (by dsimp only; omega) _), Lib.hid ((Hr92.out.keep HC3.out).set_ 2 _), Lib.hid ?_, Lib.hid ?_⟩
            · rw [List.map_append]
              exact ownsRow_keep1 Hown3.out fun g hg2 => hset g (by have := (owns_lt Hown3.out g hg2).1; omega)
            · intro z hz2
              rcases List.mem_append.1 hz2 with h1 | h1
              · exact hwf.out z h1
              · simp at h1; rw [h1]; unfold I64; omega
          case measure => simp [intOf]; omega
      · obtain rfl : (j : Int) = F := by omega
        have q0 := hr8.out.cell 0
        have q1 := hr8.out.cell 1
        have q2 := hr8.out.cell 2
        have qf0 := hr8.out.frozen 0
        have qf1 := hr8.out.frozen 1
        have qf2 := hr8.out.frozen 2
        simp only [List.getElem?_cons_zero, List.getElem?_cons_succ] at q0 q1 q2
        have Hown := Lib.hid hown.out
        go_wp2
        refine bodyPost_ret (v := .agg #[.int .i64 f, .int .i64 t, .slice LA j LC]) (by simp [results, Try.results37, go_sem, q0, q1, q2]) rfl ?_
        have hset : ∀ g, g ≠ w.heap.size → (((wr.setCell ⟨w.heap.size, 0, none⟩ (.int .i64 f)).setCell ⟨w.heap.size, 1, none⟩ (.int .i64 t)).setCell ⟨w.heap.size, 2, none⟩ (.slice LA j LC)).heap[g]? = wr.heap[g]? := fun g hg2 => (Below.heap_setCell _ _ _ _ (by dsimp only; omega)).trans ((Below.heap_setCell _ _ _ _ (by dsimp only; omega)).trans (Below.heap_setCell _ _ _ _ (by dsimp only; omega)))
        refine ⟨_, rfl, (hrd.out.keep fun g hg2 => hset g (by omega)).more (by omega), ⟨hg.out.os, hg.out.tape, hg.out.output, by simp [World.setCell]; omega, fun g hg2 hne => (hset g (by omega)).trans (hg.out.block g hg2 hne)⟩, zs, ?_, by omega⟩
        have ho : World.ownsRow (((wr.setCell ⟨w.heap.size, 0, none⟩ (.int .i64 f)).setCell ⟨w.heap.size, 1, none⟩ (.int .i64 t)).setCell ⟨w.heap.size, 2, none⟩ (.slice LA j LC)) (w.heap.size + 2) 3 1 (.slice LA j LC) zs.length (zs.map (Value.int .i64)) := by
          rw [hzl]
          exact ownsRow_keep1 Hown.out fun g hg2 => hset g (by have := (owns_lt Hown.out g hg2).1; omega)
        exact ⟨ownsRow_lower ho (by omega), hwf.out⟩
end Go.Proofs.Ytplpnammboofiaa

