/-
  The contract of l1DrawMap: a coercion whose map has some numbers that fit.
  A region that draws its order, by an invariant over what has been done: one obligation for each operation.
  What holds in a region that builds types from a copied list of coercions and one more: by what has been done.
-/
import Derived.Test.YtabipfomcldkiaaH1
import Derived.Test.YtabipfomcldkiaaH3
import Derived.WalkKit
namespace Go.Proofs.Ytabipfomcldkiaa
open Go.RowKit

set_option maxRecDepth 100000 in
set_option maxHeartbeats 2000000 in
theorem drawMap_any (b B lo hi f t : Nat) (sv : Value) (ss : List Int) (w : World) (h : RdAt w b B) (hB : B ≤ 900000) (hz : IntsAt w lo hi sv ss) (hlo : b < lo) (hh : hi ≤ w.heap.size) (hf : f < ss.length) (ht : t < ss.length) (h5 : ∀ z ∈ ss, 1 ≤ z ∧ z ≤ 9) (_hl : ss.length ≤ 1000) :
    Calls Try.prog 53 #[.pointer (some ⟨b, 0, none⟩), sv, .int .i64 f, .int .i64 t] w fun e w' => ∃ (z : Value) (zs : List Int), e = .returned (.agg #[.int .i64 f, .int .i64 t, z]) ∧ RdAt w' b (B + 10) ∧ w.grownBy w' (some b) ∧ (w'.ownsRow w.heap.size 3 1 z zs.length (zs.map (Value.int .i64)) ∧ ∀ q ∈ zs, I64 q) ∧ zs.length ≤ 9 := by
  obtain ⟨A, cap, rfl, _, _, hz⟩ := hz.form
  obtain ⟨i0, hi0, hz0, hz1, hz2⟩ := info_parts Try.infoInt
  have hbl := h.lt
  have H := Lib.hid h
  have Hz := Lib.hid hz
  clear h hz
  go_enter Try.func53, Try.ntmps53
  go_wp2_with fail
  have hr8 := (Row.new w 32 [.int .i64 0, .int .i64 0, .slice none 0 0]).alloc (.cells #[.int .i64 f, .int .i64 t, .slice none 0 0] 32)
  have hr9 := Row.new (w.alloc (.cells #[.int .i64 0, .int .i64 0, .slice none 0 0] 32)) 32 [.int .i64 f, .int .i64 t, .slice none 0 0]
  rw [World.size_alloc] at hr9
  have hb2 : Below w.heap.size w ((w.alloc (.cells #[.int .i64 0, .int .i64 0, .slice none 0 0] 32)).alloc (.cells #[.int .i64 f, .int .i64 t, .slice none 0 0] 32)) := by go_grown
  refine (pick_any b B 3 _ (H.out.keep fun g hg => hb2.block g (by omega)) (by omega) (by omega)).mono ?_
  rintro e w1 ⟨x, rfl, _, _, hrd1, hg1, hs1⟩
  simp only [World.size_alloc] at hs1
  have R8 := Lib.hid (hr8.keep (hg1.block _ (by simp; omega) (fun e => by simp only [Option.some.injEq] at e; omega)))
  have R9 := Lib.hid (hr9.keep (hg1.block _ (by simp) (fun e => by simp only [Option.some.injEq] at e; omega)))
  have G1 : Hid (w.grownBy w1 (some b)) := ⟨hg1.os.trans hb2.os, hg1.tape.trans hb2.tape, hg1.output.trans hb2.output, by omega, fun g hg hne => (hg1.block g (by simp; omega) hne).trans (hb2.block g hg)⟩
  have Hrd1 := Lib.hid hrd1
  have hsz1 : w.heap.size + 2 ≤ w1.heap.size := by omega
  obtain ⟨zb, zo, rfl, hzb1, hzb2, ef, _⟩ := Hz.out.at_ hf
  have et : w.cell? ⟨zb, zo + t, none⟩ = some (.int .i64 ss[t]) := by
    obtain ⟨zb', zo', e', _, _, et, _⟩ := Hz.out.at_ ht
    cases e'
    exact et
  have cf := (World.cell?_of_block (a := ⟨zb, zo + f, none⟩) (G1.out.block zb (by omega) (fun e => by simp only [Option.some.injEq] at e; omega))).trans ef
  have hNf := h5 _ (List.getElem_mem hf)
  have hNt := h5 _ (List.getElem_mem ht)
  generalize ss[f] = F at *
  generalize ss[t] = T at *
  have Het := Lib.hid et
  clear hrd1 hg1 hs1 hr8 hr9 hb2 ef et h5
  by_cases hx : 0 < x
  · skip
    go_wp2_with fail
    go_loopw [22] (fun iv wr => ∃ (j : Nat) (l : Value) (zs : List Int), (j : Int) ≤ F ∧ iv = .int .i64 j ∧ zs.length = j ∧ Hid (RdAt wr b (B + 1 + j)) ∧ Hid (w.grownBy wr (some b)) ∧ w.heap.size + 2 ≤ wr.heap.size ∧ Hid (Row wr w.heap.size 32 [.int .i64 0, .int .i64 0, .slice none 0 0]) ∧ Hid (Row wr (w.heap.size + 1) 32 [.int .i64 f, .int .i64 t, l]) ∧ Hid (wr.ownsRow (w.heap.size + 2) 3 1 l j (zs.map (Value.int .i64))) ∧ Hid (∀ z ∈ zs, I64 z)) (fun iv _ => (F - intOf iv).toNat)
    case atStart => exact ⟨0, .slice none 0 0, [], by omega, rfl, rfl, Hrd1, G1, hsz1, R8, R9, Lib.hid (World.ownsRow_nil _ _ _ _), Lib.hid fun z hz => absurd hz (by simp)⟩
    case round =>
      obtain ⟨j, l, zs, hj, rfl, hzl, hrd, hg, hsz, hr8, hr9, hown, hwf⟩ := hrel
      obtain ⟨LA, LC, rfl⟩ := owns_form hown.out
      have p0 := hr9.out.cell 0
      have p1 := hr9.out.cell 1
      have p2 := hr9.out.cell 2
      have pl := hr9.out.lt
      simp only [List.getElem?_cons_zero, List.getElem?_cons_succ] at p0 p1 p2
      have ct := (World.cell?_of_block (a := ⟨zb, zo + t, none⟩) (hg.out.block zb (by omega) (fun e => by simp only [Option.some.injEq] at e; omega))).trans Het.out
      have hwT : IntKind.i64.wrap (T - 1) = T - 1 := by rw [IntKind.wrap_i64]; omega
      have hwJ : IntKind.i64.wrap ((j : Int) + 1) = (j : Int) + 1 := by rw [IntKind.wrap_i64]; omega
      by_cases hlt : (j : Int) < F
      · have Hown := Lib.hid hown.out
        obtain ⟨V, hV, hV64⟩ : ∃ V, (if T - 1 < (j : Int) then T - 1 else (j : Int)) = V ∧ I64 V := ⟨_, rfl, by unfold I64; split <;> omega⟩
        go_upto_region 7 with fail
        go_region_law (refine step_append_lies _ (by rfl) (.tmp 27) (.tmp 35) 23 (by rfl) (w.heap.size + 2) 3 i0 _ 1 8 Try.underlying23 hi0 hz0 hz1 hz2 rfl (by omega) (.slice LA j LC) j (zs.map (Value.int .i64)) (by rfl) ((Hown.out.alloc _).drew) ⟨wr.heap.size, 0, none⟩ 1 1 [.int .i64 V] (by rfl) (by rfl) (World.news_of_block (cs := #[.int .i64 V]) (t := 3) (fr := (0, 0)) (heap_alloc_new wr _)) (by simp [Value.oneCell']) (by omega) (by unfold maxLen; omega) (by omega) (by (try simp); (try omega)) (wr.heap.size + 1) (by simp) ?_; intro g' cap3 w3 hown3 hgrow hat hlt3; have hC3 : w3.heap[w.heap.size + 1]? = wr.heap[w.heap.size + 1]? := (hgrow.block _ (by (try simp); (try omega)) (fun hc => by have := (owns_lt Hown.out _ hc.symm).1; omega)).trans (Below.heap_alloc wr _ _ (by omega)); have q2 := (hr9.out.keep hC3).cell 2; have q2f := (hr9.out.keep hC3).frozen 2; simp only [List.getElem?_cons_zero, List.getElem?_cons_succ] at q2; have Hown3 := Lib.hid hown3; have Hk : Hid (∀ g, g < wr.heap.size → some g ≠ (Value.slice LA j LC).ownBlock → w3.heap[g]? = wr.heap[g]?) := (fun g h1 h2 => (hgrow.block g (by (try simp); (try omega)) h2).trans (Below.heap_alloc wr _ g h1)); have HG : Hid (w3.os = wr.os ∧ w3.tape = wr.tape ∧ w3.output = wr.output ∧ wr.heap.size ≤ w3.heap.size) := (⟨hgrow.os, hgrow.tape, hgrow.output, (by have := hgrow.size; simp at this; omega)⟩); have HC3 := Lib.hid hC3; clear hown3 hgrow hat hC3)
        all_goals
          go_wp2
          go_roundw
          case rel =>
            have hset : ∀ g, g ≠ w.heap.size + 1 → (w3.setCell ⟨w.heap.size + 1, 2, none⟩ (.slice (some ⟨g', 0, none⟩) (j + 1) cap3)).heap[g]? = w3.heap[g]? := fun g hg => Below.heap_setCell _ _ _ _ (by dsimp only; omega)
            have hold : ∀ g, g < w.heap.size + 1 → w3.heap[g]? = wr.heap[g]? := fun g hg2 => Hk.out g (by omega) (fun e => by have := (owns_lt Hown.out _ e.symm).1; omega)
            refine ⟨j + 1, .slice (some ⟨g', 0, none⟩) (j + 1) cap3, zs ++ [V], by omega, by go_num, by simp [hzl], Lib.hid ((hrd.out.keep fun g hg2 => (hset g (by omega)).trans (hold g (by omega))).more (by omega)), Lib.hid ⟨HG.out.1.trans hg.out.os, HG.out.2.1.trans hg.out.tape, HG.out.2.2.1.trans hg.out.output, by have := HG.out.2.2.2; simp [World.setCell]; omega, fun g hg2 hne => (hset g (by omega)).trans ((hold g (by omega)).trans (hg.out.block g hg2 hne))⟩, by have := HG.out.2.2.2; simp [World.setCell]; omega, Lib.hid ((hr8.out.keep (hold _ (by omega))).far (by dsimp only; omega) _), Lib.hid ((hr9.out.keep HC3.out).set_ 2 _), Lib.hid ?_, Lib.hid ?_⟩
            · rw [List.map_append]
              exact ownsRow_keep1 Hown3.out fun g hg2 => hset g (by have := (owns_lt Hown3.out g hg2).1; omega)
            · intro z hz2
              rcases List.mem_append.1 hz2 with h1 | h1
              · exact hwf.out z h1
              · simp at h1; rw [h1]; exact hV64
          case measure => simp [intOf]; omega
      · obtain rfl : (j : Int) = F := by omega
        have q0 := hr8.out.cell 0
        have q1 := hr8.out.cell 1
        have q2 := hr8.out.cell 2
        have qf0 := hr8.out.frozen 0
        have qf1 := hr8.out.frozen 1
        have qf2 := hr8.out.frozen 2
        simp only [List.getElem?_cons_zero, List.getElem?_cons_succ] at q0 q1 q2
        have Hown := Lib.hid hown.out
        go_wp2
        refine bodyPost_ret (v := .agg #[.int .i64 f, .int .i64 t, .slice LA j LC]) (by simp [results, Try.results53, go_sem, q0, q1, q2]) rfl ?_
        have hset : ∀ g, g ≠ w.heap.size → (((wr.setCell ⟨w.heap.size, 0, none⟩ (.int .i64 f)).setCell ⟨w.heap.size, 1, none⟩ (.int .i64 t)).setCell ⟨w.heap.size, 2, none⟩ (.slice LA j LC)).heap[g]? = wr.heap[g]? := fun g hg2 => (Below.heap_setCell _ _ _ _ (by dsimp only; omega)).trans ((Below.heap_setCell _ _ _ _ (by dsimp only; omega)).trans (Below.heap_setCell _ _ _ _ (by dsimp only; omega)))
        refine ⟨_, rfl, (hrd.out.keep fun g hg2 => hset g (by omega)).more (by omega), ⟨hg.out.os, hg.out.tape, hg.out.output, by simp [World.setCell]; omega, fun g hg2 hne => (hset g (by omega)).trans (hg.out.block g hg2 hne)⟩, zs, ?_, by omega⟩
        have ho : World.ownsRow (((wr.setCell ⟨w.heap.size, 0, none⟩ (.int .i64 f)).setCell ⟨w.heap.size, 1, none⟩ (.int .i64 t)).setCell ⟨w.heap.size, 2, none⟩ (.slice LA j LC)) (w.heap.size + 2) 3 1 (.slice LA j LC) zs.length (zs.map (Value.int .i64)) := by
          rw [hzl]
          exact ownsRow_keep1 Hown.out fun g hg2 => hset g (by have := (owns_lt Hown.out g hg2).1; omega)
        exact ⟨ownsRow_lower ho (by omega), hwf.out⟩
  · obtain rfl : x = 0 := by omega
    go_wp2_with fail
    go_loopw [22] (fun iv wr => ∃ (j : Nat) (l : Value) (zs : List Int), (j : Int) ≤ F ∧ iv = .int .i64 j ∧ zs.length = j ∧ Hid (RdAt wr b (B + 1 + j)) ∧ Hid (w.grownBy wr (some b)) ∧ w.heap.size + 2 ≤ wr.heap.size ∧ Hid (Row wr w.heap.size 32 [.int .i64 0, .int .i64 0, .slice none 0 0]) ∧ Hid (Row wr (w.heap.size + 1) 32 [.int .i64 f, .int .i64 t, l]) ∧ Hid (wr.ownsRow (w.heap.size + 2) 3 1 l j (zs.map (Value.int .i64))) ∧ Hid (∀ z ∈ zs, I64 z)) (fun iv _ => (F - intOf iv).toNat)
    case atStart => exact ⟨0, .slice none 0 0, [], by omega, rfl, rfl, Hrd1, G1, hsz1, R8, R9, Lib.hid (World.ownsRow_nil _ _ _ _), Lib.hid fun z hz => absurd hz (by simp)⟩
    case round =>
      obtain ⟨j, l, zs, hj, rfl, hzl, hrd, hg, hsz, hr8, hr9, hown, hwf⟩ := hrel
      obtain ⟨LA, LC, rfl⟩ := owns_form hown.out
      have p0 := hr9.out.cell 0
      have p1 := hr9.out.cell 1
      have p2 := hr9.out.cell 2
      have pl := hr9.out.lt
      simp only [List.getElem?_cons_zero, List.getElem?_cons_succ] at p0 p1 p2
      have ct := (World.cell?_of_block (a := ⟨zb, zo + t, none⟩) (hg.out.block zb (by omega) (fun e => by simp only [Option.some.injEq] at e; omega))).trans Het.out
      have hwT : IntKind.i64.wrap (T - 1) = T - 1 := by rw [IntKind.wrap_i64]; omega
      have hwJ : IntKind.i64.wrap ((j : Int) + 1) = (j : Int) + 1 := by rw [IntKind.wrap_i64]; omega
      by_cases hlt : (j : Int) < F
      · have Hown := Lib.hid hown.out
        go_upto_region 8 with fail
        go_region_law (first
          | (refine step_append_lies _ (by rfl) (.tmp 39) (.tmp 46) 23 (by rfl) (w.heap.size + 2) 3 i0 _ 1 8 Try.underlying23 hi0 hz0 hz1 hz2 rfl (by omega) (.slice LA j LC) j (zs.map (Value.int .i64)) (by rfl) ((Hown2.out.alloc _).drew) ⟨w2.heap.size, 0, none⟩ 1 1 [.int .i64 (y : Nat)] (by rfl) (by rfl) (World.news_of_block (cs := #[.int .i64 (y : Nat)]) (t := 3) (fr := (0, 0)) (heap_alloc_new w2 _)) (by simp [Value.oneCell']) (by omega) (by unfold maxLen; omega) (by omega) (by (try simp); (try omega)) (w2.heap.size + 1) (by simp) ?_; intro g' cap3 w3 hown3 hgrow hat hlt3; have hC3 : w3.heap[w.heap.size + 1]? = w2.heap[w.heap.size + 1]? := (hgrow.block _ (by (try simp); (try omega)) (fun hc => by have := (owns_lt Hown2.out _ hc.symm).1; omega)).trans (Below.heap_alloc w2 _ _ (by omega)); have q2 := (Hr92.out.keep hC3).cell 2; have q2f := (Hr92.out.keep hC3).frozen 2; simp only [List.getElem?_cons_zero, List.getElem?_cons_succ] at q2; have Hown3 := Lib.hid hown3; have Hk : Hid (∀ g, g < w2.heap.size → some g ≠ (Value.slice LA j LC).ownBlock → w3.heap[g]? = w2.heap[g]?) := (fun g h1 h2 => (hgrow.block g (by (try simp); (try omega)) h2).trans (Below.heap_alloc w2 _ g h1)); have HG : Hid (w3.os = w2.os ∧ w3.tape = w2.tape ∧ w3.output = w2.output ∧ w2.heap.size ≤ w3.heap.size) := (⟨hgrow.os, hgrow.tape, hgrow.output, (by have := hgrow.size; simp at this; omega)⟩); have HC3 := Lib.hid hC3; clear hown3 hgrow hat hC3)
          | (go_simp; go_at_call 52; refine (pick_any b (B + 1 + j) T wr.drew (hrd.out.keep fun _ _ => rfl) (by omega) (by omega)).mono ?_; rintro e w2 ⟨y, rfl, hy, _, hrd2, hg2, hs2⟩; have hsz2 : wr.heap.size ≤ w2.heap.size := Nat.le_of_eq hs2.symm; have hsz2' : w2.heap.size ≤ wr.heap.size := Nat.le_of_eq hs2; have hlR : w.heap.size + 1 < w2.heap.size := (by omega); have Hk2 : Hid (∀ g, g < wr.heap.size → g ≠ b → w2.heap[g]? = wr.heap[g]?) := (fun g h1 h2 => hg2.block g h1 (fun e => h2 (by simpa using e))); have Hr92 := Lib.hid (hr9.out.keep (Hk2.out _ pl (by omega))); have p2 := Hr92.out.cell 2; simp only [List.getElem?_cons_zero, List.getElem?_cons_succ] at p2; have Hown2 := Lib.hid (ownsRow_keep1 hown.out fun g hg2' => Hk2.out g (owns_lt hown.out g hg2').2 (by have := (owns_lt hown.out g hg2').1; omega)); have HG2 : Hid (w2.os = wr.os ∧ w2.tape = wr.tape ∧ w2.output = wr.output) := ⟨hg2.os, hg2.tape, hg2.output⟩; have Hrd2 := Lib.hid hrd2; have hyT : (y : Int) < T := hy (by omega); clear hrd2 hg2 hs2 hy))
        all_goals
          go_wp2
          go_roundw
          case rel =>
            have hset : ∀ g, g ≠ w.heap.size + 1 → (w3.setCell ⟨w.heap.size + 1, 2, none⟩ (.slice (some ⟨g', 0, none⟩) (j + 1) cap3)).heap[g]? = w3.heap[g]? := fun g hg => Below.heap_setCell _ _ _ _ (by dsimp only; omega)
            have hold : ∀ g, g < w.heap.size + 1 → w3.heap[g]? = w2.heap[g]? := fun g hg2 => Hk.out g (by omega) (fun e => by have := (owns_lt Hown2.out _ e.symm).1; omega)
            refine ⟨j + 1, .slice (some ⟨g', 0, none⟩) (j + 1) cap3, zs ++ [(y : Int)], by omega, by go_num, by simp [hzl], Lib.hid ((Hrd2.out.keep fun g hg2 => (hset g (by omega)).trans (hold g (by omega))).more (by omega)), Lib.hid ⟨HG.out.1.trans (HG2.out.1.trans hg.out.os), HG.out.2.1.trans (HG2.out.2.1.trans hg.out.tape), HG.out.2.2.1.trans (HG2.out.2.2.trans hg.out.output), by have := HG.out.2.2.2; simp [World.setCell]; omega, fun g hg2 hne => (hset g (by omega)).trans ((hold g (by omega)).trans ((Hk2.out g (by omega) (fun e => hne (by rw [e]))).trans (hg.out.block g hg2 hne)))⟩, by have := HG.out.2.2.2; simp [World.setCell]; omega, Lib.hid (((hr8.out.keep (Hk2.out _ (by omega) (by omega))).keep (hold _ (by omega))).far (by dsimp only; omega) _), Lib.hid ((Hr92.out.keep HC3.out).set_ 2 _), Lib.hid ?_, Lib.hid ?_⟩
            · rw [List.map_append]
              exact ownsRow_keep1 Hown3.out fun g hg2 => hset g (by have := (owns_lt Hown3.out g hg2).1; omega)
            · intro z hz2
              rcases List.mem_append.1 hz2 with h1 | h1
              · exact hwf.out z h1
              · simp at h1; rw [h1]; unfold I64; omega
          case measure => simp [intOf]; omega
      · obtain rfl : (j : Int) = F := by omega
        have q0 := hr8.out.cell 0
        have q1 := hr8.out.cell 1
        have q2 := hr8.out.cell 2
        have qf0 := hr8.out.frozen 0
        have qf1 := hr8.out.frozen 1
        have qf2 := hr8.out.frozen 2
        simp only [List.getElem?_cons_zero, List.getElem?_cons_succ] at q0 q1 q2
        have Hown := Lib.hid hown.out
        go_wp2
        refine bodyPost_ret (v := .agg #[.int .i64 f, .int .i64 t, .slice LA j LC]) (by simp [results, Try.results53, go_sem, q0, q1, q2]) rfl ?_
        have hset : ∀ g, g ≠ w.heap.size → (((wr.setCell ⟨w.heap.size, 0, none⟩ (.int .i64 f)).setCell ⟨w.heap.size, 1, none⟩ (.int .i64 t)).setCell ⟨w.heap.size, 2, none⟩ (.slice LA j LC)).heap[g]? = wr.heap[g]? := fun g hg2 => (Below.heap_setCell _ _ _ _ (by dsimp only; omega)).trans ((Below.heap_setCell _ _ _ _ (by dsimp only; omega)).trans (Below.heap_setCell _ _ _ _ (by dsimp only; omega)))
        refine ⟨_, rfl, (hrd.out.keep fun g hg2 => hset g (by omega)).more (by omega), ⟨hg.out.os, hg.out.tape, hg.out.output, by simp [World.setCell]; omega, fun g hg2 hne => (hset g (by omega)).trans (hg.out.block g hg2 hne)⟩, zs, ?_, by omega⟩
        have ho : World.ownsRow (((wr.setCell ⟨w.heap.size, 0, none⟩ (.int .i64 f)).setCell ⟨w.heap.size, 1, none⟩ (.int .i64 t)).setCell ⟨w.heap.size, 2, none⟩ (.slice LA j LC)) (w.heap.size + 2) 3 1 (.slice LA j LC) zs.length (zs.map (Value.int .i64)) := by
          rw [hzl]
          exact ownsRow_keep1 Hown.out fun g hg2 => hset g (by have := (owns_lt Hown.out g hg2).1; omega)
        exact ⟨ownsRow_lower ho (by omega), hwf.out⟩
end Go.Proofs.Ytabipfomcldkiaa

namespace Go.Proofs.Ytabipfomcldkiaa
open Go.RowKit

section
variable {P : Program} {ops : Array Oper} {Q : Exit → Act → World → Prop}

def openCount : List Bool → Nat
  | [] => 0
  | b :: bs => (if b then 0 else 1) + openCount bs
theorem openCount_set : ∀ (l : List Bool) (i : Nat), l[i]? = some false → openCount (l.set i true) + 1 = openCount l := by
  intro l
  induction l with
  | nil => intro i h; simp at h
  | cons b bs ih =>
    intro i h
    cases i with
    | zero =>
      simp at h
      subst h
      simp [openCount]
      omega
    | succ i =>
      simp at h
      have := ih i h
      simp only [List.set_cons_succ, openCount]
      omega
theorem openCount_zero : ∀ (l : List Bool), openCount l = 0 → ∀ b ∈ l, b = true := by
  intro l
  induction l with
  | nil => intro _ b hb; cases hb
  | cons c cs ih =>
    intro h b hb
    cases c with
    | false => simp [openCount] at h
    | true =>
      simp only [openCount, if_true, Nat.zero_add] at h
      rcases List.mem_cons.1 hb with rfl | hb
      · rfl
      · exact ih h b hb

/-- What may come up: it has not been done, and all that binds it has. -/
theorem ready_of {listed : Array Bool} {i : Nat} (h : i ∈ Region.ready .any ops listed) : i < ops.size ∧ listed.getD i true = false ∧ ∃ o, ops[i]? = some o ∧ ∀ e ∈ o.after, Region.binds .any e = true → listed.getD e.on false = true := by
  unfold Region.ready at h
  rw [List.mem_filter] at h
  obtain ⟨h1, h2⟩ := h
  have h1 := List.mem_range.1 h1
  simp only [Bool.and_eq_true, Bool.not_eq_true'] at h2
  obtain ⟨h2, h3⟩ := h2
  refine ⟨h1, h2, ops[i], Array.getElem?_eq_getElem h1, fun e he hb => ?_⟩
  rw [Array.getElem?_eq_getElem h1] at h3
  simp only [Option.map_some, Option.getD_some] at h3
  rw [Array.all_eq_true'] at h3
  have := h3 e he
  simpa [hb] using this
theorem ready_mk {listed : Array Bool} {i : Nat} (h1 : i < ops.size) (h2 : listed.getD i true = false) (h3 : ∀ e ∈ ops[i].after, Region.binds .any e = true → listed.getD e.on false = true) : i ∈ Region.ready .any ops listed := by
  unfold Region.ready
  rw [List.mem_filter]
  refine ⟨List.mem_range.2 h1, ?_⟩
  simp only [Bool.and_eq_true, Bool.not_eq_true']
  refine ⟨h2, ?_⟩
  rw [Array.getElem?_eq_getElem h1]
  simp only [Option.map_some, Option.getD_some]
  rw [Array.all_eq_true']
  intro e he
  cases hb : Region.binds .any e with
  | false => simp
  | true => simp [h3 e he hb]
theorem all_done {listed : Array Bool} (hs : listed.size = ops.size) (hd : ∀ i, ∀ (h : i < ops.size), ∀ e ∈ ops[i].after, Region.binds .any e = true → e.on < i) (hr : Region.ready .any ops listed = []) : ∀ i, i < ops.size → listed.getD i false = true := by
  intro i
  induction i using Nat.strongRecOn with
  | _ i ih =>
    intro hi
    have hl : i < listed.size := by omega
    by_cases h : listed.getD i true = true
    · simpa [Array.getD, hl] using h
    · have hf : listed.getD i true = false := by simpa using h
      have hm := ready_mk (listed := listed) hi hf fun e he hb => ih e.on (hd i hi e he hb) (by have := hd i hi e he hb; omega)
      rw [hr] at hm
      cases hm

theorem wpAny_inv (Inv : (Nat → Bool) → Act → World → Prop) (hd : ∀ i, ∀ (h : i < ops.size), ∀ e ∈ ops[i].after, Region.binds .any e = true → e.on < i)
    (hstep : ∀ (f : Nat → Bool) a w i o, ops[i]? = some o → f i = false → (∀ e ∈ o.after, Region.binds .any e = true → f e.on = true) → Inv f a w → wpOp P ops Q i (Inv fun k => decide (k = i) || f k) a w)
    (hend : ∀ f a w, (∀ k, k < ops.size → f k = true) → Inv f a w → Q .normal a w) :
    ∀ (fuel : Nat) (listed : Array Bool) (a : Act) (w : World), listed.size = ops.size → openCount listed.toList ≤ fuel → Inv (fun k => listed.getD k false) a w → wpAny P .any ops Q fuel listed a w := by
  intro fuel
  induction fuel with
  | zero =>
    intro listed a w hs hf hI
    have hall := openCount_zero listed.toList (by omega)
    have hr : Region.ready .any ops listed = [] := by
      rw [List.eq_nil_iff_forall_not_mem]
      intro i hi
      obtain ⟨h1, h2, _⟩ := ready_of hi
      have hl : i < listed.size := by omega
      have h3 : listed[i] = false := by simpa [Array.getD, hl] using h2
      have h4 := hall listed[i] (by simp)
      rw [h3] at h4
      cases h4
    exact ⟨hr, hend _ a w (all_done hs hd hr) hI⟩
  | succ fuel ih =>
    intro listed a w hs hf hI
    refine ⟨fun hr => hend _ a w (all_done hs hd hr) hI, fun i hi => ?_⟩
    obtain ⟨h1, h2, o, ho, h3⟩ := ready_of hi
    have hl : i < listed.size := by omega
    have h4 : listed[i] = false := by simpa [Array.getD, hl] using h2
    refine wpOp_mono (fun a' w' hI' => ih (listed.setIfInBounds i true) a' w' (by simpa using hs) ?_ ?_) (hstep _ a w i o ho (by simp [Array.getD, hl, h4]) h3 hI)
    · have := openCount_set listed.toList i (by simp [hl, h4])
      simp only [Array.toList_setIfInBounds]
      omega
    · have e : (fun k => decide (k = i) || listed.getD k false) = fun k => (listed.setIfInBounds i true).getD k false := by
        funext k
        by_cases hk : k = i
        · subst hk
          simp [Array.getD, hl]
        · have hk' : ¬ i = k := fun h => hk h.symm
          by_cases hkl : k < listed.size
          · simp [Array.getD, hk, hk', hkl]
          · simp [Array.getD, hk, hkl]
      rw [← e]
      exact hI'

/-- A region that draws its order, by an invariant over what has been done. -/
theorem wp_region_inv {id : Nat} {a : Act} {w : World} (hm : P.follows .mixedOrders = true) (Inv : (Nat → Bool) → Act → World → Prop) (hd : ∀ i, ∀ (h : i < ops.size), ∀ e ∈ ops[i].after, Region.binds .any e = true → e.on < i)
    (h0 : Inv (fun _ => false) a w.drew)
    (hstep : ∀ (f : Nat → Bool) a w i o, ops[i]? = some o → f i = false → (∀ e ∈ o.after, Region.binds .any e = true → f e.on = true) → Inv f a w → wpOp P ops Q i (Inv fun k => decide (k = i) || f k) a w)
    (hend : ∀ f a w, (∀ k, k < ops.size → f k = true) → Inv f a w → Q .normal a w) : (Code.region id ops true).wp P Q a w := by
  refine wp_region_any hm (wpAny_inv Inv hd hstep hend _ _ a _ (by simp) ?_ ?_)
  · have key : ∀ n, openCount (List.replicate n false) = n := by
      intro n
      induction n with
      | zero => rfl
      | succ n ih => simp only [List.replicate_succ, openCount, ih]; simp; omega
    rw [Array.toList_replicate, key]
    exact Nat.le_refl _
  · have e : (fun k => (Array.replicate ops.size false).getD k false) = fun _ => false := by
      funext k
      by_cases hk : k < ops.size
      · simp [Array.getD, hk]
      · simp [Array.getD, hk]
    rw [e]
    exact h0
/-- The same, where the invariant may name the frame that the region begins with. -/
theorem wp_region_inv_at {id : Nat} {a : Act} {w : World} (hm : P.follows .mixedOrders = true) (Inv : Act → (Nat → Bool) → Act → World → Prop) (hd : ∀ i, ∀ (h : i < ops.size), ∀ e ∈ ops[i].after, Region.binds .any e = true → e.on < i)
    (h0 : Inv a (fun _ => false) a w.drew)
    (hstep : ∀ (f : Nat → Bool) a' w i o, ops[i]? = some o → f i = false → (∀ e ∈ o.after, Region.binds .any e = true → f e.on = true) → Inv a f a' w → wpOp P ops Q i (Inv a fun k => decide (k = i) || f k) a' w)
    (hend : ∀ f a' w, (∀ k, k < ops.size → f k = true) → Inv a f a' w → Q .normal a' w) : (Code.region id ops true).wp P Q a w :=
  wp_region_inv hm (Inv a) hd h0 hstep hend
end
end Go.Proofs.Ytabipfomcldkiaa

namespace Go.Proofs.Ytabipfomcldkiaa
open Go.RowKit

/-- T: the types' block; s, l: what it holds; c0, c1, c2: the coercion's cells; f: which operations have been done; the letters: what their slots hold. -/
structure RFacts (lo hi N T : Nat) (w4 : World) (cos : List Co) (s l c0 c1 c2 : Value) (f : Nat → Bool) (x6 x11 x12 x13 x14 x15 x16 x17 x18 x19 x20 : Value) (u : World) : Prop where
  bel : Below N w4 u
  a0 : f 0 = true → x11 = .pointer (some ⟨T, 0, none⟩)
  a1 : f 1 = true → x12 = s
  a2 : f 2 = true → f 5 = false → ∃ b, N ≤ b ∧ x13 = .slice (some ⟨b, 0, none⟩) 0 0 ∧ Row u b 32 []
  a3 : f 3 = true → x14 = .pointer (some ⟨T, 1, none⟩)
  a4 : f 4 = true → x15 = l
  a5 : f 5 = true → f 8 = false → ∃ A c news, x16 = .slice A cos.length c ∧ u.ownsRow N 32 3 x16 cos.length news ∧ CosNews u lo hi news cos
  a6 : f 6 = true → x17 = .agg #[c0, c1, c2]
  a7 : f 7 = true → f 8 = false → ∃ p, N ≤ p ∧ x18 = .slice (some ⟨p, 0, none⟩) 1 1 ∧ Row u p 32 [c0, c1, c2]
  a8 : f 8 = true → ∃ A c news, x19 = .slice A (cos.length + 1) c ∧ u.ownsRow N 32 3 x19 (cos.length + 1) (news ++ [c0, c1, c2]) ∧ CosNews u lo hi news cos
  a9 : f 9 = true → x20 = .agg #[s, x19]
  a10 : f 10 = true → f 11 = false → ∃ q, N ≤ q ∧ x6 = .pointer (some ⟨q, 0, none⟩) ∧ Row u q 26 [.slice none 0 0, .slice none 0 0]
  a11 : f 11 = true → ∃ q, N ≤ q ∧ x6 = .pointer (some ⟨q, 0, none⟩) ∧ Row u q 26 [s, x19]

theorem CosNews.keep {w w' : World} {lo hi : Nat} {news : List Value} {cs : List Co} (h : CosNews w lo hi news cs) (hk : ∀ k, lo ≤ k → k < hi → w'.heap[k]? = w.heap[k]?) : CosNews w' lo hi news cs := by
  obtain ⟨mv, hl, hi2⟩ := h
  exact ⟨mv, hl, fun i hi' => by
    obtain ⟨h0, h1, h2, h3⟩ := hi2 i hi'
    exact ⟨h0, h1, h2, h3.keep hk⟩⟩
theorem row_own_ne {w : World} {base g n : Nat} {v : Value} {xs ys : List Value} (hr : Row w g 26 xs) (ho : w.ownsRow base 32 3 v n ys) : v.ownBlock ≠ some g := by
  intro e
  obtain ⟨_, ⟨rfl, _⟩ | ⟨g', cap, cur, rfl, hb, hh, _⟩⟩ := ho
  · simp [Value.ownBlock] at e
  · simp only [Value.ownBlock, Option.some.injEq] at e
    subst e
    unfold Row at hr
    rw [hr] at hh
    simp only [Option.some.injEq, Obj.cells.injEq] at hh
    exact absurd hh.2.1 (by decide)

section
variable {lo hi N T : Nat} {w4 u : World} {cos : List Co} {s l c0 c1 c2 : Value} {f : Nat → Bool} {x6 x11 x12 x13 x14 x15 x16 x17 x18 x19 x20 : Value}

/-- Blocks that stood stay as they are. -/
theorem RFacts.grow {u' : World} (h : RFacts lo hi N T w4 cos s l c0 c1 c2 f x6 x11 x12 x13 x14 x15 x16 x17 x18 x19 x20 u) (hN : N ≤ u.heap.size) (hh : hi ≤ N) (hb : Below u.heap.size u u') : RFacts lo hi N T w4 cos s l c0 c1 c2 f x6 x11 x12 x13 x14 x15 x16 x17 x18 x19 x20 u' where
  bel := h.bel.trans (hb.mono hN)
  a0 := h.a0
  a1 := h.a1
  a2 := fun h1 h2 => by
    obtain ⟨b, h3, h4, h5⟩ := h.a2 h1 h2
    exact ⟨b, h3, h4, h5.below hb h5.lt⟩
  a3 := h.a3
  a4 := h.a4
  a5 := fun h1 h2 => by
    obtain ⟨A, c, news, h3, h4, h5⟩ := h.a5 h1 h2
    exact ⟨A, c, news, h3, ownsRow_keep h4 fun g _ hg => hb.block g hg, h5.keep fun k _ hk => hb.block k (by omega)⟩
  a6 := h.a6
  a7 := fun h1 h2 => by
    obtain ⟨b, h3, h4, h5⟩ := h.a7 h1 h2
    exact ⟨b, h3, h4, h5.below hb h5.lt⟩
  a8 := fun h1 => by
    obtain ⟨A, c, news, h3, h4, h5⟩ := h.a8 h1
    exact ⟨A, c, news, h3, ownsRow_keep h4 fun g _ hg => hb.block g hg, h5.keep fun k _ hk => hb.block k (by omega)⟩
  a9 := h.a9
  a10 := fun h1 h2 => by
    obtain ⟨b, h3, h4, h5⟩ := h.a10 h1 h2
    exact ⟨b, h3, h4, h5.below hb h5.lt⟩
  a11 := fun h1 => by
    obtain ⟨b, h3, h4, h5⟩ := h.a11 h1
    exact ⟨b, h3, h4, h5.below hb h5.lt⟩

/-- The first append: it may write into the empty list's block. -/
theorem RFacts.append1 {b : Nat} {A : Option Addr} {c : Nat} {u' : World} {news : List Value} (h : RFacts lo hi N T w4 cos s l c0 c1 c2 f x6 x11 x12 x13 x14 x15 x16 x17 x18 x19 x20 u) (hN : N ≤ u.heap.size) (hh : hi ≤ N) (hf8 : f 8 = false) (hf11 : f 11 = false) (hf9 : f 9 = false)
    (hbN : N ≤ b) (hrow : Row u b 32 []) (hg : u.grownBy u' (some b)) (hown : u'.ownsRow N 32 3 (.slice A cos.length c) cos.length news) (hnews : CosNews u lo hi news cos) :
    RFacts lo hi N T w4 cos s l c0 c1 c2 (fun k => decide (k = 5) || f k) x6 x11 x12 x13 x14 x15 (.slice A cos.length c) x17 x18 x19 x20 u' where
  bel := h.bel.trans ⟨hg.os, hg.tape, hg.output, hg.size, fun k hk => hg.block k (by omega) (by intro e; simp only [Option.some.injEq] at e; omega)⟩
  a0 := fun h1 => h.a0 (by simpa using h1)
  a1 := fun h1 => h.a1 (by simpa using h1)
  a2 := fun _ h2 => by simp at h2
  a3 := fun h1 => h.a3 (by simpa using h1)
  a4 := fun h1 => h.a4 (by simpa using h1)
  a5 := fun _ _ => ⟨A, c, news, rfl, hown, hnews.keep fun k _ hk => hg.block k (by omega) (by intro e; simp only [Option.some.injEq] at e; omega)⟩
  a6 := fun h1 => h.a6 (by simpa using h1)
  a7 := fun h1 h2 => by
    obtain ⟨p, h3, h4, h5⟩ := h.a7 (by simpa using h1) hf8
    refine ⟨p, h3, h4, h5.keep (hg.block p h5.lt fun e => ?_)⟩
    simp only [Option.some.injEq] at e
    subst e
    unfold Row at h5 hrow
    rw [h5] at hrow
    simp at hrow
  a8 := fun h1 => by simp [hf8] at h1
  a9 := fun h1 => by simp [hf9] at h1
  a10 := fun h1 _ => by
    obtain ⟨q, h3, h4, h5⟩ := h.a10 (by simpa using h1) hf11
    refine ⟨q, h3, h4, h5.keep (hg.block q h5.lt fun e => ?_)⟩
    simp only [Option.some.injEq] at e
    subst e
    unfold Row at h5 hrow
    rw [h5] at hrow
    simp at hrow
  a11 := fun h1 => by simp [hf11] at h1

/-- The second append: it may write into the list's own block. -/
theorem RFacts.append2 {A : Option Addr} {c : Nat} {u' : World} {news : List Value} (h : RFacts lo hi N T w4 cos s l c0 c1 c2 f x6 x11 x12 x13 x14 x15 x16 x17 x18 x19 x20 u) (hN : N ≤ u.heap.size) (hh : hi ≤ N) (hf11 : f 11 = false) (hf9 : f 9 = false) (hf5 : f 5 = true)
    (hold : u.ownsRow N 32 3 x16 cos.length news) (hg : u.grownBy u' x16.ownBlock) (hown : u'.ownsRow N 32 3 (.slice A (cos.length + 1) c) (cos.length + 1) (news ++ [c0, c1, c2])) (hnews : CosNews u lo hi news cos) :
    RFacts lo hi N T w4 cos s l c0 c1 c2 (fun k => decide (k = 8) || f k) x6 x11 x12 x13 x14 x15 x16 x17 x18 (.slice A (cos.length + 1) c) x20 u' where
  bel := h.bel.trans ⟨hg.os, hg.tape, hg.output, hg.size, fun k hk => hg.block k (by omega) (by intro e; have := owns_lt hold k e.symm; omega)⟩
  a0 := fun h1 => h.a0 (by simpa using h1)
  a1 := fun h1 => h.a1 (by simpa using h1)
  a2 := fun _ h2 => by simp [hf5] at h2
  a3 := fun h1 => h.a3 (by simpa using h1)
  a4 := fun h1 => h.a4 (by simpa using h1)
  a5 := fun _ h2 => by simp at h2
  a6 := fun h1 => h.a6 (by simpa using h1)
  a7 := fun _ h2 => by simp at h2
  a8 := fun _ => ⟨A, c, news, rfl, hown, hnews.keep fun k _ hk => hg.block k (by omega) (by intro e; have := owns_lt hold k e.symm; omega)⟩
  a9 := fun h1 => by simp [hf9] at h1
  a10 := fun h1 _ => by
    obtain ⟨q, h3, h4, h5⟩ := h.a10 (by simpa using h1) hf11
    exact ⟨q, h3, h4, h5.keep (hg.block q h5.lt fun e => row_own_ne h5 hold e.symm)⟩
  a11 := fun h1 => by simp [hf11] at h1
end
end Go.Proofs.Ytabipfomcldkiaa

