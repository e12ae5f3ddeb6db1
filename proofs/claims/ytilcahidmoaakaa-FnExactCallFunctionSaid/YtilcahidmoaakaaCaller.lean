/-
  The contract of the program's caller: a function value that has a table of its own.
-/
import Derived.Test.YtilcahidmoaakaaRes
import Derived.Test.YtilcahidmoaakaaHasf
import Derived.Test.YtilcahidmoaakaaPush
import Derived.Deep.AppendLies
namespace Go.Proofs.Ytilcahidmoaakaa
open Go.RowKit
attribute [local go_sem] Oper.semAt_some

/-- The sizes of the types of a function's arguments. -/
def tsOf (ss args : List Int) : List Int := args.map fun a => ss.getD a.toNat 0
theorem tsOf_len (ss args : List Int) : (tsOf ss args).length = args.length := by simp [tsOf]
theorem tsOf_get (ss args : List Int) {j : Nat} (h : j < args.length) : (tsOf ss args).getD j 0 = ss.getD (args.getD j 0).toNat 0 := by
  rw [getD_of (by rw [tsOf_len]; exact h), getD_of h]
  simp [tsOf]
theorem tsOf_bound {ss args : List Int} (hok : sizesOk ss = true) (ha : ∀ j, ∀ (hj : j < args.length), 0 ≤ args[j] ∧ args[j] < ss.length) : ∀ j, j < (tsOf ss args).length → 1 ≤ (tsOf ss args).getD j 0 ∧ (tsOf ss args).getD j 0 ≤ 4 := by
  intro j hj
  rw [tsOf_len] at hj
  obtain ⟨_, _, hall⟩ := sizesOk_of hok
  obtain ⟨h0, h1⟩ := ha j hj
  have hlt : args[j].toNat < ss.length := by omega
  rw [tsOf_get ss args hj, getD_of hj, getD_of hlt]
  exact hall _ hlt
theorem prodTo_cells (ss args : List Int) : ∀ k, k ≤ args.length → prodTo (tsOf ss args) k = cellsTo ss args k := by
  intro k
  induction k with
  | zero => intro _; rfl
  | succ k ih =>
    intro hk
    show prodTo (tsOf ss args) k * (tsOf ss args).getD k 0 = cellsTo ss args k * ss.getD (args.getD k 0).toNat 0
    rw [ih (by omega), tsOf_get ss args (by omega)]

set_option maxRecDepth 100000 in
set_option maxHeartbeats 4000000 in
theorem caller_any (lo hi : Nat) (sv cv fv : Value) (y : Sy) (i : Int) (w : World) (hv : SyAt w lo hi sv cv fv y) (hB : hi ≤ w.heap.size) (c1 : hasFB y i = true) :
    Calls Try.prog 90 #[.agg #[sv, cv, fv], .int .i64 i] w fun e w' => ∃ tv rv, e = .returned (.func (Fn.func 152) #[.agg #[tv, rv]] #[]) ∧ Below w.heap.size w w' ∧ IntsAt w' w.heap.size w'.heap.size tv (tsOf y.ty.sizes (y.fs.getD i.toNat default).args) ∧ IntsAt w' lo hi rv (y.fs.getD i.toNat default).table := by
  obtain ⟨A, cap, rfl, hl1, hm1, hi1⟩ := hv.1.1.form
  obtain ⟨B, bap, rfl, hl2, hm2, hc1⟩ := hv.1.2.form
  obtain ⟨F, fap, rfl, hl3, hm3, hf1⟩ := hv.2.form
  unfold maxLen at hm3
  obtain ⟨hsy, hi0, hi1', hilt⟩ := hasFB_of c1
  obtain ⟨b, off, A1, cap1, A2, cap2, rfl, _, hbh, d0, d1, d2, d3, _, _, _, _, hfi⟩ := hf1.at_ hilt
  have hbw : b < w.heap.size := by omega
  obtain ⟨i0, hi0', hz0, hz1, hz2⟩ := info_parts Try.infoInt
  have Hfi := Lib.hid hfi
  have Hi1 := Lib.hid hi1
  have Hsy := Lib.hid hsy
  have few := (Hsy.out.each _ hilt).few
  have Hargs := Lib.hid (Hsy.out.each _ hilt).args
  clear hi1 hc1 hf1 hv hfi hsy c1
  go_enter Try.func90, Try.ntmps90
  go_wp2
  obtain ⟨W0, hW0⟩ : ∃ W0, W0 = ((w.alloc (.cells #[.slice A y.ty.sizes.length cap, .slice B y.ty.cos.length bap, .slice (some ⟨b, off, none⟩) y.fs.length fap] 36)).alloc (.cells #[.string y.fs[i.toNat].name, .slice A1 y.fs[i.toNat].args.length cap1, .int .i64 y.fs[i.toNat].res, .slice A2 y.fs[i.toNat].table.length cap2] 55)).alloc (.cells #[.slice none 0 0, .slice A2 y.fs[i.toNat].table.length cap2] 150) := ⟨_, rfl⟩
  have hr0 : Row W0 w.heap.size 36 [.slice A y.ty.sizes.length cap, .slice B y.ty.cos.length bap, .slice (some ⟨b, off, none⟩) y.fs.length fap] := by rw [hW0]; exact ((Row.new w _ _).alloc _).alloc _
  have hr2 : Row W0 (w.heap.size + 1 + 1) 150 [.slice none 0 0, .slice A2 y.fs[i.toNat].table.length cap2] := by
    have h := Row.new ((w.alloc (.cells #[.slice A y.ty.sizes.length cap, .slice B y.ty.cos.length bap, .slice (some ⟨b, off, none⟩) y.fs.length fap] 36)).alloc (.cells #[.string y.fs[i.toNat].name, .slice A1 y.fs[i.toNat].args.length cap1, .int .i64 y.fs[i.toNat].res, .slice A2 y.fs[i.toNat].table.length cap2] 55)) 150 [.slice none 0 0, .slice A2 y.fs[i.toNat].table.length cap2]
    simp only [World.size_alloc] at h
    rw [hW0]; exact h
  have hb0 : Below w.heap.size w W0 := by rw [hW0]; go_grown
  have hs0 : w.heap.size + 3 ≤ W0.heap.size := by rw [hW0]; simp
  have Hr0 := Lib.hid hr0
  have Hr2 := Lib.hid hr2
  have Hb0 := Lib.hid hb0
  rw [← hW0]
  clear hW0 hr0 hr2 hb0 d0 d1 d2 d3
  generalize hN : w.heap.size = N at *
  have HN := Lib.hid hN
  clear hN
  go_loopw [20] (fun q wr => ∃ (j : Nat) (l : Value), j ≤ y.fs[i.toNat].args.length ∧ q = .int .i64 j ∧ Hid (Below N w wr) ∧ N + 3 ≤ wr.heap.size ∧ Hid (Row wr N 36 [.slice A y.ty.sizes.length cap, .slice B y.ty.cos.length bap, .slice (some ⟨b, off, none⟩) y.fs.length fap]) ∧
    Hid (Row wr (N + 1 + 1) 150 [l, .slice A2 y.fs[i.toNat].table.length cap2]) ∧ Hid (wr.ownsRow (N + 3) 3 1 l j (((tsOf y.ty.sizes y.fs[i.toNat].args).take j).map (Value.int .i64)))) (fun q _ => y.fs[i.toNat].args.length - (intOf q).toNat)
  case atStart => exact ⟨0, .slice none 0 0, Nat.zero_le _, rfl, Hb0.out, hs0, Hr0.out, Hr2.out, World.ownsRow_nil _ _ _ _⟩
  case round =>
    obtain ⟨j, l, hj, rfl, hb, hsz, hr0, hr2, hown⟩ := hrel
    obtain ⟨LA, LC, rfl⟩ := owns_form hown.out
    have p0 := hr0.out.cell 0
    have p1 := hr0.out.cell 1
    have p2 := hr0.out.cell 2
    have t0 := hr2.out.cell 0
    have t1 := hr2.out.cell 1
    have tl := hr2.out.lt
    have pl := hr0.out.lt
    simp only [List.getElem?_cons_zero, List.getElem?_cons_succ] at p0 p1 p2 t0 t1
    by_cases hlt : j < y.fs[i.toNat].args.length
    · obtain ⟨b1, o1, rfl, _, hb1, e1, _⟩ := (Hfi.out.2.2.2.2.1.below hb.out hB).at_ hlt
      obtain ⟨ha0, ha1⟩ := Hargs.out j hlt
      have hlt2 : y.fs[i.toNat].args[j].toNat < y.ty.sizes.length := by omega
      obtain ⟨b2, o2, rfl, _, hb2, e2, _⟩ := (Hi1.out.below hb.out hB).at_ hlt2
      have hb2w : b2 < wr.heap.size := by omega
      have htake : Hid ((tsOf y.ty.sizes y.fs[i.toNat].args).take (j + 1) = (tsOf y.ty.sizes y.fs[i.toNat].args).take j ++ [y.ty.sizes[y.fs[i.toNat].args[j].toNat]]) := by
        show _ = _
        have hl : j < (tsOf y.ty.sizes y.fs[i.toNat].args).length := by simpa [tsOf] using hlt
        rw [List.take_succ_eq_append_getElem hl]
        congr 2
        simp only [tsOf, List.getElem_map]
        rw [List.getD_eq_getElem?_getD, List.getElem?_eq_getElem hlt2]; rfl
      have Hown := Lib.hid hown.out
      generalize hV : y.ty.sizes[y.fs[i.toNat].args[j].toNat] = V at *
      clear hV
      go_upto_region 6 with fail
      go_region_law (refine step_append_lies _ (by rfl) (.tmp 25) (.tmp 32) 22 (by rfl) (N + 3) 3 i0 _ 1 8 Try.underlying22 hi0' hz0 hz1 hz2 rfl (by omega) (.slice LA j LC) j (((tsOf y.ty.sizes y.fs[i.toNat].args).take j).map (Value.int .i64)) (by rfl) ((Hown.out.alloc _).drew) ⟨wr.heap.size, 0, none⟩ 1 1 [.int .i64 V] (by rfl) (by rfl) (World.news_of_block (cs := #[.int .i64 V]) (t := 3) (fr := (0, 0)) (heap_alloc_new wr _)) (by simp [Value.oneCell']) (by omega) (by unfold maxLen; omega) (by omega) (by (try simp); (try omega)) (wr.heap.size + 1) (by simp) ?_; intro g' cap3 w3 hown3 hgrow hat hlt3; have hC3 : w3.heap[N + 1 + 1]? = wr.heap[N + 1 + 1]? := (hgrow.block _ (by (try simp); (try omega)) (fun hc => by have := (owns_lt Hown.out _ hc.symm).1; omega)).trans (Below.heap_alloc wr _ _ (by omega)); have q2 := (hr2.out.keep hC3).cell 0; have q2f := (hr2.out.keep hC3).frozen 0; simp only [List.getElem?_cons_zero] at q2; have Hown3 := Lib.hid hown3; have Hk : Hid (∀ g, g < wr.heap.size → some g ≠ (Value.slice LA j LC).ownBlock → w3.heap[g]? = wr.heap[g]?) := (fun g h1 h2 => (hgrow.block g (by (try simp); (try omega)) h2).trans (Below.heap_alloc wr _ g h1)); have HG : Hid (w3.os = wr.os ∧ w3.tape = wr.tape ∧ w3.output = wr.output ∧ wr.heap.size ≤ w3.heap.size) := (⟨hgrow.os, hgrow.tape, hgrow.output, (by have := hgrow.size; simp at this; omega)⟩); have HC3 := Lib.hid hC3; clear hown3 hgrow hat hC3)
      all_goals
        go_wp2
        go_roundw
        case rel =>
          have hset : ∀ g, g ≠ N + 1 + 1 → (w3.setCell ⟨N + 1 + 1, 0, none⟩ (.slice (some ⟨g', 0, none⟩) (j + 1) cap3)).heap[g]? = w3.heap[g]? := fun g hg => Below.heap_setCell _ _ _ _ (by dsimp only; omega)
          have hold : ∀ g, g < N + 3 → w3.heap[g]? = wr.heap[g]? := fun g hg2 => Hk.out g (by omega) (fun e => by have := (owns_lt Hown.out _ e.symm).1; omega)
          refine ⟨j + 1, .slice (some ⟨g', 0, none⟩) (j + 1) cap3, by omega, by go_num, ⟨HG.out.1.trans hb.out.os, HG.out.2.1.trans hb.out.tape, HG.out.2.2.1.trans hb.out.output, by have h1 := HG.out.2.2.2; have h2 := hb.out.size; simp [World.setCell]; omega, fun g hg2 => (hset g (by omega)).trans ((hold g (by omega)).trans (hb.out.block g hg2))⟩, by have := HG.out.2.2.2; simp [World.setCell]; omega, (hr0.out.keep (hold _ (by omega))).far (by dsimp only; omega) _, (hr2.out.keep HC3.out).set_ 0 _, ?_⟩
          show World.ownsRow _ _ _ _ _ _ _
          rw [htake.out, List.map_append]
          exact ownsRow_keep1 Hown3.out fun g hg2 => hset g (by have := (owns_lt Hown3.out g hg2).1; omega)
        case measure => simp [intOf]; omega
    · obtain rfl : j = y.fs[i.toNat].args.length := by omega
      go_wp2
      go_ret
      have htk : (tsOf y.ty.sizes y.fs[i.toNat].args).take y.fs[i.toNat].args.length = tsOf y.ty.sizes y.fs[i.toNat].args := List.take_of_length_le (by rw [tsOf_len]; exact Nat.le_refl _)
      have ho := hown.out
      rw [htk] at ho
      rw [getD_of hilt, HN.out]
      have hwf : ∀ z ∈ tsOf y.ty.sizes y.fs[i.toNat].args, I64 z := fun z hz => by
        obtain ⟨j, hj, rfl⟩ := List.getElem_of_mem hz
        have := tsOf_bound (tyOk_sizes Hsy.out.ty) Hargs.out j hj
        rw [getD_of hj] at this
        unfold I64; omega
      refine ⟨_, _, rfl, hb.out, ?_, Hfi.out.2.2.2.2.2.below hb.out hB⟩
      have ho2 : wr.ownsRow (N + 3) 3 1 (.slice LA y.fs[i.toNat].args.length LC) (tsOf y.ty.sizes y.fs[i.toNat].args).length ((tsOf y.ty.sizes y.fs[i.toNat].args).map (Value.int .i64)) := by rw [tsOf_len]; exact ho
      exact ownsRow.intsAt (lo := N) (hi := wr.heap.size) ho2 hwf (by omega) (Nat.le_refl _)
end Go.Proofs.Ytilcahidmoaakaa
