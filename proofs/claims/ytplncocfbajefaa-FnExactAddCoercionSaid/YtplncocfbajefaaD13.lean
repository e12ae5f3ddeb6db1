/-
  The contract of slices.Delete at a list of functions of the call's own, one of them.
  The contracts of markFunction, heldFunctionS, heldSystem, and of markSystem with what is there afterwards.
  The contracts of the functions that look whether the marks of types hold.
  The contracts of heldSystem, and of markSystem with what is there afterwards.
  Small words for the laws on systems.
  The contracts of the functions that weigh an argument: they return what is left of the allowance, or -1.
-/
import Derived.Test.YtplncocfbajefaaD6
import Derived.Deep.RegionLaw
import Derived.Deep.Upon
import Derived.Test.YtplncocfbajefaaD8
import Derived.BigRegion
import Derived.Deep.DeepCutAuto
import Derived.Test.YtplncocfbajefaaRows
import Derived.Test.YtplncocfbajefaaD1
import Derived.Outline
import Derived.Handy
namespace Go.Proofs.Ytplncocfbajefaa
open Go.RowKit

theorem Row.setCells_ {g : Nat} {t : TypeId} : ∀ (vs : List Value) (o : Nat) (w : World) (ys : List Value), Row w g t ys → o + vs.length ≤ ys.length → Row (w.setCells g o vs) g t (ys.take o ++ vs ++ ys.drop (o + vs.length))
  | [], o, w, ys, h, _ => by
    simpa [World.setCells] using h
  | v :: r, o, w, ys, h, hl => by
    have h1 := Row.setCells_ r (o + 1) (w.setCell ⟨g, o, none⟩ v) (ys.set o v) (h.set_ o v) (by simp at hl ⊢; omega)
    have e : (ys.set o v).take (o + 1) ++ r ++ (ys.set o v).drop (o + 1 + r.length) = ys.take o ++ (v :: r) ++ ys.drop (o + (v :: r).length) := by
      have hlo : o < ys.length := by simp at hl; omega
      rw [List.take_succ_eq_append_getElem (by simpa using hlo), List.drop_set_of_lt (by omega), List.take_set_of_le (by omega)]
      simp [Nat.add_assoc, Nat.add_comm 1]
    rw [e] at h1
    exact h1
theorem grown_setCells {g : Nat} : ∀ (vs : List Value) (o : Nat) (w : World), w.grownBy (w.setCells g o vs) (some g)
  | [], _, w => ⟨rfl, rfl, rfl, Nat.le_refl _, fun _ _ _ => rfl⟩
  | v :: r, o, w => by
    have h := grown_setCells (g := g) r (o + 1) (w.setCell ⟨g, o, none⟩ v)
    refine ⟨h.os, h.tape, h.output, Nat.le_trans (Nat.le_of_eq (by simp [World.setCell])) h.size, fun i hi hne => (h.block i (by simpa [World.setCell] using hi) hne).trans (Below.heap_setCell _ _ _ _ (fun e => hne (by rw [e])))⟩

theorem zeroFu (u : World) : (zeroValue 79).run Try.prog u = .ok (.agg #[.string ⟨#[]⟩, .slice none 0 0, .int .i64 0, .slice none 0 0]) u := by kernel_rfl

theorem clear_oneF (w : World) (g : Nat) (ys : List Value) (o c : Nat) (hr : Row w g 79 ys) (hl : o + 4 ≤ ys.length) (ty : TypeId) :
    (Builtin.clear_ #[36] ty #[.slice (some ⟨g, o, none⟩) 1 c]).run Try.prog w = .ok (.tuple #[]) (w.setCells g o [.string ⟨#[]⟩, .slice none 0 0, .int .i64 0, .slice none 0 0]) := by
  have hst := run_storeCells_cells (P := Try.prog) g o [.string ⟨#[]⟩, .slice none 0 0, .int .i64 0, .slice none 0 0] 0 w (fun j hj => by
    rw [hr.cell, Nat.add_zero, List.getElem?_eq_getElem (by simp at hj; omega)]; rfl) (fun j _ => hr.frozen _) (by intro v hv; simp only [List.mem_cons, List.not_mem_nil, or_false] at hv; rcases hv with rfl | rfl | rfl | rfl <;> rfl)
  simp only [Nat.add_zero] at hst
  have hz : (Builtin.zeroCells (Value.agg #[.string ⟨#[]⟩, .slice none 0 0, .int .i64 0, .slice none 0 0]).cells 1).toList = [.string ⟨#[]⟩, .slice none 0 0, .int .i64 0, .slice none 0 0] := by first | kernel_rfl | (simp [Builtin.zeroCells, go_sem]; decide)
  simp [Builtin.clear_, run_underlying Try.underlying36, hz, hst]

set_option maxHeartbeats 4000000 in
set_option maxRecDepth 1000000 in
theorem deleteF_any (base : Nat) (l : Value) (k n : Nat) (xs : List Value) (w : World) (hown : w.ownsRow base 79 4 l k xs) (hn : n < k) (hk : k ≤ 1048576) (hone : ∀ x ∈ xs, x.oneCell' = true) :
    Calls Try.prog 57 #[l, .int .i64 n, .int .i64 ((n : Int) + 1)] w fun e w' => ∃ l', e = .returned l' ∧ l'.ownBlock = l.ownBlock ∧ w'.ownsRow base 79 4 l' (k - 1) (xs.take (n * 4) ++ xs.drop ((n + 1) * 4)) ∧ w.grownBy w' l.ownBlock := by
  obtain ⟨i0, hi0, hz0, hz1, hz2⟩ := info_parts infoFunction
  obtain ⟨hlen, ⟨_, h0⟩ | ⟨g, cap, cur, rfl, hg, hh, hc1, hc2, hcs, htake⟩⟩ := hown
  · omega
  unfold maxLen at hc2
  have hrow : Row w g 79 cur.toList := by unfold Row; simpa using hh
  have hyl : cur.toList.length = cap * 4 := by simpa using hcs
  generalize hys : cur.toList = ys at *
  have hxsl : xs.length = k * 4 := hlen
  obtain ⟨news, hnews⟩ : ∃ news, news = xs.drop ((n + 1) * 4) := ⟨_, rfl⟩
  have hnl : news.length = (k - (n + 1)) * 4 := by rw [hnews, List.length_drop, hxsl]; omega
  have hget : ∀ j u, news[j]? = some u → ys[(n + 1) * 4 + j]? = some u := fun j u hu => by
    rw [hnews, List.getElem?_drop, ← htake] at hu
    have hj : (n + 1) * 4 + j < k * 4 := by
      have := (List.getElem?_eq_some_iff.1 hu).1
      simp only [List.length_take] at this
      omega
    rwa [List.getElem?_take_of_lt hj] at hu
  obtain ⟨A, hA, hsrc⟩ : ∃ A : Addr, (if cap = n + 1 then some (⟨g, 0, none⟩ : Addr) else some ⟨g, (n + 1) * 4, none⟩) = some A ∧ Hid (∀ j u, news[j]? = some u → w.drew.cell? (A.add j) = some u) := by
    by_cases h : cap = n + 1
    · refine ⟨⟨g, 0, none⟩, by simp [h], fun j u hu => ?_⟩
      have hj := (List.getElem?_eq_some_iff.1 hu).1
      rw [hnl] at hj
      omega
    · refine ⟨⟨g, (n + 1) * 4, none⟩, by simp [h], fun j u hu => ?_⟩
      rw [Go.WideShapes.add_plain]
      exact (hrow.cell _).trans (hget j u hu)
  have s1 : Hid (news.length = (k - (n + 1)) * 4) := hnl
  have s2 : Hid (∀ u ∈ news, u.oneCell' = true) := fun u hu => by rw [hnews] at hu; exact hone u (List.mem_of_mem_drop hu)
  have s3 : Hid (∀ j, j < news.length → (w.drew.cell? ⟨g, 0 + n * 4 + j, none⟩).isSome = true ∧ w.drew.frozen? ⟨g, 0 + n * 4 + j, none⟩ = false) := by
    intro j hj
    rw [hnl] at hj
    refine ⟨?_, hrow.frozen _⟩
    rw [show w.drew.cell? ⟨g, 0 + n * 4 + j, none⟩ = ys[0 + n * 4 + j]? from hrow.cell _, List.getElem?_eq_getElem (by rw [hyl]; omega)]
    rfl
  obtain ⟨W1, hW1⟩ : ∃ W1, W1 = w.drew.setCells g (0 + n * 4) news := ⟨_, rfl⟩
  have hg1 : w.grownBy W1 (some g) := by
    have := grown_setCells (g := g) news (0 + n * 4) w.drew
    rw [← hW1] at this
    exact ⟨this.os, this.tape, this.output, this.size, this.block⟩
  have hr1 : Row W1 g 79 (ys.take (n * 4) ++ news ++ ys.drop (n * 4 + news.length)) := by
    have := Row.setCells_ news (0 + n * 4) w.drew ys hrow.drew (by rw [hyl, hnl]; omega)
    rw [← hW1, Nat.zero_add] at this
    exact this
  have hl1 : (ys.take (n * 4) ++ news ++ ys.drop (n * 4 + news.length)).length = cap * 4 := by
    simp only [List.length_append, List.length_take, List.length_drop, hyl, hnl]; omega
  have hcl := fun ty => clear_oneF W1 g _ ((k - 1) * 4) (cap - (k - 1)) hr1 (by rw [hl1]; omega) ty
  have ek : n + (k - (n + 1)) = k - 1 := by omega
  have ek2 : k - (k - 1) = 1 := by omega
  have hcl2 : ∀ ty, (Builtin.clear_ #[36] ty #[.slice (some ⟨g, (n + (k - (n + 1))) * 4, none⟩) (k - (n + (k - (n + 1)))) (cap - (n + (k - (n + 1))))]).run Try.prog W1 = .ok (.tuple #[]) (W1.setCells g ((k - 1) * 4) [.string ⟨#[]⟩, .slice none 0 0, .int .i64 0, .slice none 0 0]) := fun ty => by rw [ek, ek2]; exact hcl ty
  clear hcl ek ek2
  have hr2 := Row.setCells_ [.string ⟨#[]⟩, .slice none 0 0, .int .i64 0, .slice none 0 0] ((k - 1) * 4) W1 _ hr1 (by rw [hl1]; simp; omega)
  have hg2 : w.grownBy (W1.setCells g ((k - 1) * 4) [.string ⟨#[]⟩, .slice none 0 0, .int .i64 0, .slice none 0 0]) (some g) := by
    have h2 := grown_setCells (g := g) [.string ⟨#[]⟩, .slice none 0 0, .int .i64 0, .slice none 0 0] ((k - 1) * 4) W1
    exact ⟨h2.os.trans hg1.os, h2.tape.trans hg1.tape, h2.output.trans hg1.output, Nat.le_trans hg1.size h2.size, fun i hi hne => (h2.block i (Nat.lt_of_lt_of_le hi hg1.size) hne).trans (hg1.block i hi hne)⟩
  have Hr2 := Lib.hid hr2
  have Hg2 := Lib.hid hg2
  have Hl1 := Lib.hid hl1
  have hW : Hid (W1 = w.drew.setCells g (0 + n * 4) news) := hW1
  have Hnl := Lib.hid hnl
  have Hyl := Lib.hid hyl
  have Hnews := Lib.hid hnews
  have Htake := Lib.hid htake
  have Hxsl := Lib.hid hxsl
  have hwr : IntKind.i64.wrap ((n : Int) + 1) = (n : Int) + 1 := by rw [IntKind.wrap_i64]; omega
  have hp0 : (0 : Int) ≤ (n : Int) + 1 := by omega
  have hp1 : (n : Int) + 1 ≤ (k : Int) := by omega
  have hp2 : ((n : Int) + 1).toNat = n + 1 := by omega
  have hic : n ≤ cap := by omega
  have hne : ((n : Int) == (n : Int) + 1) = false := by simp; omega
  clear hW1 hg1 hr1 hl1 hr2 hg2 hrow hget hnews hnl hyl hh hcs hlen htake hxsl hone hys
  go_enter Try.func57, Try.ntmps57
  go_wp2_with fail
  go_region_law (refine step_append_room rfl (.tmp 22) (.tmp 25) 36 rfl 79 i0 4 Try.underlying36 hi0 hz1 g 0 n cap (by simp [Act.eval, Act.put]) A (k-(n+1)) (cap-(n+1)) news (by simp [Act.eval, Act.put]) s1.out hsrc.out s2.out (by omega) s3.out ?_; rw [← hW.out])
  go_wp2
  go_ret
  have ek : n + (k - (n + 1)) = k - 1 := by omega
  rw [ek]
  refine ⟨_, rfl, rfl, ⟨by rw [List.length_append, List.length_take, List.length_drop, Hxsl.out]; omega, .inr ⟨g, cap, _, rfl, hg, Hr2.out, by omega, by unfold maxLen; omega, ?_, ?_⟩⟩, Hg2.out⟩
  · have h1 := Hl1.out
    simp only [List.size_toArray, List.length_append, List.length_take, List.length_drop, List.length_cons, List.length_nil, Hyl.out, Hnl.out] at h1 ⊢
    omega
  · have hxt : xs.take (n * 4) = ys.take (n * 4) := by rw [← Htake.out, List.take_take, Nat.min_eq_left (by omega)]
    have hl2 : (ys.take (n * 4) ++ news).length = (k - 1) * 4 := by rw [List.length_append, List.length_take, Hyl.out, Hnl.out]; omega
    have hl3 : (List.take ((k - 1) * 4) (ys.take (n * 4) ++ news ++ ys.drop (n * 4 + news.length))).length = (k - 1) * 4 := by rw [List.length_take, Hl1.out]; omega
    rw [hxt, ← Hnews.out, List.append_assoc, List.take_append_of_le_length (by rw [hl3]; omega), List.take_take, Nat.min_self, List.take_append_of_le_length (by rw [hl2]; omega), List.take_of_length_le (by rw [hl2]; omega)]
end Go.Proofs.Ytplncocfbajefaa

namespace Go.Proofs.Ytplncocfbajefaa
open Go.RowKit

theorem mixF_all (f : Nat → Fu) (k0 : Int) (n : Nat) : (List.range n).map (mixFu f k0 n) = (List.range n).map (markFu f k0) := by
  refine List.map_congr_left fun i hi => ?_
  unfold mixFu
  rw [if_pos (List.mem_range.1 hi)]

set_option maxRecDepth 100000 in
set_option maxHeartbeats 4000000 in
theorem heldFunctionS_any (lo hi n : Nat) (cv : Value) (f : Nat → Fu) (k0 : Int) (w : World) (hv : FusAt w lo hi cv ((List.range n).map (markFu f k0))) (hB : hi ≤ w.heap.size) (h0 : 0 ≤ k0) (h1 : k0 + 2 * (n : Int) + (lenF f n : Int) ≤ 900000000) :
    Calls Try.prog 34 #[cv, .int .i64 k0] w fun e w' => e = .returned (.int .i64 (markAtF f k0 n)) ∧ Below w.heap.size w w' := by
  obtain ⟨A, cap, rfl, hc, hm, hz⟩ := hv.form
  have hn : ((List.range n).map (markFu f k0)).length = n := by simp
  rw [hn] at hc hz
  unfold maxLen at hm
  have Hz := Lib.hid hz
  have Hn := Lib.hid hn
  clear hz hv
  rw [hn]
  clear hn
  go_enter Try.func34, Try.ntmps34
  go_wp2
  go_loopw [1, 5] (fun q i wr => ∃ j : Nat, j ≤ n ∧ i = .int .i64 j ∧ q = .int .i64 (markAtF f k0 j) ∧ Hid (Below w.heap.size w wr)) (fun _ i _ => n - (intOf i).toNat)
  case atStart => exact ⟨0, Nat.zero_le _, rfl, by simp [markAtF, lenF], Below.refl _ _⟩
  case round =>
    obtain ⟨j, hj, rfl, rfl, hb⟩ := hrel
    by_cases hlt : j < n
    · have hms := lenF_mono f (show j + 1 ≤ n by omega)
      have hms1 : lenF f (j + 1) = lenF f j + (f j).args.length + (f j).table.length := rfl
      have hat : markAtF f k0 j = k0 + 2 * (j : Int) + (lenF f j : Int) := rfl
      have hb0 : 0 ≤ markAtF f k0 j := by rw [hat]; omega
      have hb1 : markAtF f k0 j + 2 + ((f j).args.length : Int) + ((f j).table.length : Int) ≤ 900000000 := by rw [hat]; omega
      have hnext := Lib.hid (markAtF_succ f k0 j)
      clear hms hms1 hat
      obtain ⟨b, off, A1, cap1, A2, cap2, rfl, hlo, hhi, c0, c1, c2, c3, _, _, _, _, hfu⟩ := (Hz.out.below hb.out hB).at_ (k := j) (by rw [Hn.out]; exact hlt)
      simp only [List.getElem_map, List.getElem_range] at c0 c1 c2 c3 hfu
      have e0 : (markFu f k0 j).name = mText (markAtF f k0 j) := rfl
      have e1 : (markFu f k0 j).args = markL (markAtF f k0 j + 1) (f j).args.length := rfl
      have e2 : (markFu f k0 j).res = markAtF f k0 j + 1 + ((f j).args.length : Int) := rfl
      have e3 : (markFu f k0 j).table = markL (markAtF f k0 j + 1 + ((f j).args.length : Int) + 1) (f j).table.length := rfl
      rw [e0] at c0
      rw [e1] at c1
      rw [e2] at c2
      rw [e3] at c3
      obtain ⟨_, _, _, _, hqa, hqt⟩ := hfu
      rw [e1] at hqa
      rw [e3] at hqt
      have Hqa := Lib.hid hqa
      have Hqt := Lib.hid hqt
      clear e0 e1 e2 e3 hqa hqt
      have hbs := hb.out.size
      have hneg : decide (markAtF f k0 j + 1 + ((f j).args.length : Int) < 0) = false := by simp; omega
      have hneg2 : decide (markAtF f k0 j + 1 + ((f j).args.length : Int) + 1 + ((f j).table.length : Int) < 0) = false := by simp; omega
      have hbne : (markAtF f k0 j + 1 + ((f j).args.length : Int) != markAtF f k0 j + 1 + ((f j).args.length : Int)) = false := by simp
      generalize markAtF f k0 j = M at hb0 hb1 c0 c1 c2 c3 hneg hneg2 hbne Hqa Hqt hnext ⊢
      go_upto_region 4 with fail
      go_region_law (first
        | (go_simp; go_at_call 52; refine (markText_any _ _ (by omega) (by omega)).mono ?_; rintro e w2 ⟨rfl, hb2⟩; have hs2 : wr.heap.size ≤ w2.heap.size := (by simpa using hb2.size); have hk2 : Hid (∀ g, g < wr.heap.size → w2.heap[g]? = wr.heap[g]?) := (fun g hgl => hb2.block g (by (try simp); (try omega))); have d0 : w2.cell? ⟨b, off + j * 4, none⟩ = some (.string (mText M)) := (World.cell?_of_block (a := ⟨b, off + j * 4, none⟩) (hk2.out b (by omega))).trans c0; have Hb2 := Lib.hid hb2; clear hb2))
      all_goals
        clear d0
        have Hb2w : Below wr.heap.size wr w2 := ((Below.refl _ wr).drew).trans (Hb2.out.mono (by (try simp); (try omega)))
        have Hb3 := Lib.hid (hb.out.trans (Hb2w.mono (by omega)))
        clear Hb2w
        have d1 : w2.cell? ⟨b, off + j * 4 + 1, none⟩ = _ := (World.cell?_of_block (a := ⟨b, off + j * 4 + 1, none⟩) (hk2.out b (by omega))).trans c1
        have d2 : w2.cell? ⟨b, off + j * 4 + 2, none⟩ = _ := (World.cell?_of_block (a := ⟨b, off + j * 4 + 2, none⟩) (hk2.out b (by omega))).trans c2
        have d3 : w2.cell? ⟨b, off + j * 4 + 3, none⟩ = _ := (World.cell?_of_block (a := ⟨b, off + j * 4 + 3, none⟩) (hk2.out b (by omega))).trans c3
        have Ha2 := Lib.hid (Hqa.out.keep fun k _ hk => hk2.out k (by omega))
        have Ht2 := Lib.hid (Hqt.out.keep fun k _ hk => hk2.out k (by omega))
        clear c0 c1 c2 c3
        go_wp2_with fail
        refine (heldIntS_any lo hi _ (f j).args.length (M + 1) _ Ha2.out (by omega) (by omega) (by omega)).mono ?_
        rintro e w1 ⟨rfl, rfl⟩
        go_wp2_with fail
        refine (heldIntS_any lo hi _ (f j).table.length (M + 1 + ((f j).args.length : Int) + 1) _ Ht2.out (by omega) (by omega) (by omega)).mono ?_
        rintro e w1 ⟨rfl, rfl⟩
        go_wp2
        go_roundw
        case rel => exact ⟨j + 1, by omega, by go_num, by rw [hnext.out], Hb3⟩
        case measure => simp [intOf]; omega
    · obtain rfl : j = n := by omega
      go_wp2
      go_ret
      exact ⟨rfl, hb.out⟩
end Go.Proofs.Ytplncocfbajefaa

namespace Go.Proofs.Ytplncocfbajefaa
open Go.RowKit

set_option maxRecDepth 100000 in
set_option maxHeartbeats 2000000 in
theorem heldCoercionS_any (lo hi n : Nat) (cv : Value) (f : Nat → Co) (k0 : Int) (w : World) (hv : CosAt w lo hi cv ((List.range n).map (markCo f k0))) (hB : hi ≤ w.heap.size) (h0 : 0 ≤ k0) (h1 : k0 + 2 * (n : Int) + (lenSum f n : Int) ≤ 900000000) :
    Calls Try.prog 54 #[cv, .int .i64 k0] w fun e w' => e = .returned (.int .i64 (markAt f k0 n)) ∧ w = w' := by
  obtain ⟨A, cap, rfl, hc, hm, hz⟩ := hv.form
  have hn : ((List.range n).map (markCo f k0)).length = n := by simp
  rw [hn] at hc hz
  unfold maxLen at hm
  have Hz := Lib.hid hz
  have Hn := Lib.hid hn
  clear hz hv
  rw [hn]
  clear hn
  go_enter Try.func54, Try.ntmps54
  go_wp2
  go_loop [1, 5] (fun q i => ∃ j : Nat, j ≤ n ∧ i = .int .i64 j ∧ q = .int .i64 (markAt f k0 j)) (fun _ i => n - (intOf i).toNat)
  case atStart => exact ⟨0, Nat.zero_le _, rfl, by simp [markAt, lenSum]⟩
  case round =>
    obtain ⟨j, hj, rfl, rfl⟩ := hrel
    by_cases hlt : j < n
    · have hms := lenSum_mono f (show j + 1 ≤ n by omega)
      have hms1 : lenSum f (j + 1) = lenSum f j + (f j).map.length := rfl
      have hat : markAt f k0 j = k0 + 2 * (j : Int) + (lenSum f j : Int) := rfl
      have hb0 : 0 ≤ markAt f k0 j := by rw [hat]; omega
      have hb1 : markAt f k0 j + 2 + ((f j).map.length : Int) ≤ 900000000 := by rw [hat]; omega
      have hnext := Lib.hid (markAt_succ f k0 j)
      clear hms hms1 hat
      obtain ⟨b, off, A2, cap2, rfl, _, _, c0, c1, c2, _, _, _, _, hq⟩ := Hz.out.at_ (k := j) (by rw [Hn.out]; exact hlt)
      simp only [List.getElem_map, List.getElem_range] at c0 c1 c2 hq
      have e0 : (markCo f k0 j).src = markAt f k0 j := rfl
      have e1 : (markCo f k0 j).dst = markAt f k0 j + 1 := rfl
      have e2 : (markCo f k0 j).map = markL (markAt f k0 j + 2) (f j).map.length := rfl
      rw [e0] at c0
      rw [e1] at c1
      rw [e2] at c2 hq
      have Hq := Lib.hid hq
      clear e0 e1 e2 hq
      have hbne : (markAt f k0 j != markAt f k0 j) = false := by simp
      have hbne1 : (markAt f k0 j + 1 != markAt f k0 j + 1) = false := by simp
      have hneg : decide (markAt f k0 j + 2 + ((f j).map.length : Int) < 0) = false := by simp; omega
      go_wp2_with fail
      rw [show (markAt f k0 j + 1 + 1 : Int) = markAt f k0 j + 2 from by omega]
      refine (heldIntS_any lo hi _ (f j).map.length (markAt f k0 j + 2) _ Hq.out hB (by omega) (by omega)).mono ?_
      rintro e w1 ⟨rfl, rfl⟩
      go_wp2
      go_round
      case rel => exact ⟨j + 1, by omega, by go_num, by rw [hnext.out]⟩
      case measure => simp [intOf]; omega
    · obtain rfl : j = n := by omega
      go_wp2
      go_ret
      exact ⟨rfl, rfl⟩

theorem mix_all (f : Nat → Co) (k0 : Int) (n : Nat) : (List.range n).map (mixCo f k0 n) = (List.range n).map (markCo f k0) := by
  refine List.map_congr_left fun i hi => ?_
  unfold mixCo
  rw [if_pos (List.mem_range.1 hi)]

set_option maxRecDepth 100000 in
set_option maxHeartbeats 1000000 in
theorem heldTypes_any (lo hi n : Nat) (sv cv : Value) (k : Nat) (f : Nat → Co) (k0 : Int) (w : World) (hv : TyAt w lo hi sv cv ⟨markL k0 k, (List.range n).map (mixCo f (k0 + k) n)⟩) (hB : hi ≤ w.heap.size) (h0 : 0 ≤ k0) (h1 : k0 + (k : Int) + 2 * (n : Int) + (lenSum f n : Int) ≤ 900000000) :
    Calls Try.prog 33 #[.agg #[sv, cv], .int .i64 k0] w fun e w' => e = .returned (.int .i64 (markAt f (k0 + k) n)) ∧ Below w.heap.size w w' := by
  obtain ⟨hs, hc⟩ := hv
  simp only [mix_all] at hc
  obtain ⟨A, cap, rfl, _, _, hs⟩ := hs.form
  obtain ⟨B, bap, rfl, _, _, hc⟩ := hc.form
  simp only [markL_len, List.length_map, List.length_range] at hs hc ⊢
  have hat : markAt f (k0 + k) n = k0 + (k : Int) + 2 * (n : Int) + (lenSum f n : Int) := rfl
  have hpos : 0 ≤ markAt f (k0 + k) n := by rw [hat]; omega
  have h3 : Below w.heap.size w (w.alloc (.cells #[.slice A k cap, .slice B n bap] 35)) := by go_grown
  have Hs := Lib.hid (hs.below h3 hB)
  have Hc := Lib.hid (hc.below h3 hB)
  have H3 := Lib.hid h3
  clear hs hc h3 hat
  go_enter Try.func33, Try.ntmps33
  go_wp2_with (first
    | (go_at_call 53; refine (heldIntS_any lo hi _ k k0 _ Hs.out (by simp; omega) h0 (by omega)).mono ?_; rintro e w1 ⟨rfl, rfl⟩)
    | (go_at_call 54; refine (heldCoercionS_any lo hi n _ f (k0 + (k : Int)) _ Hc.out (by simp; omega) (by omega) (by omega)).mono ?_; rintro e w1 ⟨rfl, rfl⟩))
  go_ret
  exact ⟨rfl, H3.out⟩
end Go.Proofs.Ytplncocfbajefaa

namespace Go.Proofs.Ytplncocfbajefaa
open Go.RowKit

theorem markL_wf2 (k : Int) (n : Nat) (h0 : 0 ≤ k) (h1 : k + n ≤ 1000000000) : ∀ z ∈ markL k n, I64 z := by
  intro z hz
  unfold markL at hz
  obtain ⟨i, hi, rfl⟩ := List.mem_map.1 hz
  have := List.mem_range.1 hi
  unfold I64
  omega
theorem markC_wf2 {f : Nat → Co} {k0 : Int} {n : Nat} (h0 : 0 ≤ k0) (h1 : k0 + 2 * (n : Int) + (lenSum f n : Int) ≤ 900000000) : ∀ i, i < n → I64 (mixCo f k0 n i).src ∧ I64 (mixCo f k0 n i).dst ∧ ∀ z ∈ (mixCo f k0 n i).map, I64 z := by
  intro i hi
  have e : mixCo f k0 n i = markCo f k0 i := by unfold mixCo; rw [if_pos hi]
  have hs := lenSum_mono f (show i + 1 ≤ n by omega)
  have hl : lenSum f (i + 1) = lenSum f i + (f i).map.length := rfl
  have hm : markAt f k0 i = k0 + 2 * (i : Int) + (lenSum f i : Int) := rfl
  rw [e]
  refine ⟨?_, ?_, markL_wf2 _ _ ?_ ?_⟩
  · show I64 (markAt f k0 i); unfold I64; omega
  · show I64 (markAt f k0 i + 1); unfold I64; omega
  · omega
  · omega
theorem uses_mark2 {gs gc n : Nat} {m : Nat → Nat} {f : Nat → Co} {k0 k1 : Int} {s : Nat} {ss : List Int} (hs : ss.length = s) {k : Nat} (h : OwnTy.uses gs gc m (markL k0 s) n (mixCo f k1 n) k) : OwnTy.uses gs gc m ss n f k := by
  rcases h with ⟨h0, rfl⟩ | h | ⟨i, hi, h0, rfl⟩
  · rw [markL_len] at h0; exact .inl ⟨by omega, rfl⟩
  · exact .inr (.inl h)
  · rw [mixCo_len] at h0; exact .inr (.inr ⟨i, hi, h0, rfl⟩)

set_option maxRecDepth 100000 in
set_option maxHeartbeats 2000000 in
theorem markSystem_full (gs gc n : Nat) (m : Nat → Nat) (mv : Nat → Value) (sv cv : Value) (ss : List Int) (f : Nat → Co) (gf nf : Nat) (mf : Nat → Bool → Nat) (mvf : Nat → Bool → Value) (fv : Value) (ff : Nat → Fu) (k0 : Int) (w : World)
    (hv : OwnSy w gs gc m mv sv cv ss n f gf mf mvf fv nf ff) (h0 : 0 ≤ k0) (h1 : k0 + (ss.length : Int) + 2 * (n : Int) + (lenSum f n : Int) + 2 * (nf : Int) + (lenF ff nf : Int) ≤ 900000000) :
    Calls Try.prog 13 #[.agg #[sv, cv, fv], .int .i64 k0] w fun e w' => e = .returned (.int .i64 (markAtF ff (markAt f (k0 + ss.length) n) nf)) ∧ Kept (fun k => ¬ OwnSy.uses gs gc m ss n f gf mf nf ff k) w w' ∧ OwnTy w' 3 42 gs gc m mv sv cv (markL k0 ss.length) n (mixCo f (k0 + ss.length) n) ∧ OwnFus w' 3 79 gf mf mvf fv nf (mixFu ff (markAt f (k0 + ss.length) n) nf) := by
  have Hv := Lib.hid hv
  obtain ⟨⟨⟨A, cap, rfl, _⟩, ⟨_, ⟨B, bap, rfl, _⟩, _⟩, _, _⟩, ⟨_, ⟨F, fap, rfl, _⟩, _⟩, _, _⟩ := hv
  have hat : markAt f (k0 + ss.length) n = k0 + (ss.length : Int) + 2 * (n : Int) + (lenSum f n : Int) := rfl
  have h3 : Below w.heap.size w (w.alloc (.cells #[.slice A ss.length cap, .slice B n bap, .slice F nf fap] 38)) := by go_grown
  have H1 := Lib.hid (Below.refl (w.heap.size + 1) (w.alloc (.cells #[.slice A ss.length cap, .slice B n bap, .slice F nf fap] 38)))
  go_enter Try.func13, Try.ntmps13
  go_wp2_with fail
  refine (markTypes_any gs gc n m mv _ _ ss f k0 _ (Hv.out.ty.keep fun k hk _ => h3.block k hk) h0 (by omega)).mono ?_
  rintro e w1 ⟨rfl, hk1, hs1, ho1⟩
  have hrow : Row w1 w.heap.size 38 [.slice A ss.length cap, .slice B n bap, .slice F nf fap] := (Row.new w 38 [.slice A ss.length cap, .slice B n bap, .slice F nf fap]).keep (hk1.block _ (by simp) (fun h => by have := Hv.out.ty.uses_lt h; omega))
  have q2 := hrow.cell 2
  simp only [List.getElem?_cons_zero, List.getElem?_cons_succ] at q2
  have Ho1 := Lib.hid ho1
  have Hk1 := Lib.hid hk1
  have Hs1 := Lib.hid hs1
  have H3 := Lib.hid h3
  have hf1 : OwnFus w1 3 79 gf mf mvf (.slice F nf fap) nf ff := by
    have hlt := Hv.out.fs.lt
    refine Hv.out.fs.keep (fun h0 => ?_) (fun i b hi hl => ?_)
    · exact (hk1.block gf (by have := hlt.1 h0; simp; omega) (fun h => (Hv.out.away _ h).1 h0 rfl)).trans (h3.block _ (hlt.1 h0))
    · exact (hk1.block _ (by have := hlt.2 i b hi hl; simp; omega) (fun h => (Hv.out.away _ h).2 i b hi hl rfl)).trans (h3.block _ (hlt.2 i b hi hl))
  have Hf1 := Lib.hid hf1
  clear hk1 hs1 ho1 h3 hrow hf1 H1
  obtain ⟨M, hM⟩ : ∃ M, M = markAt f (k0 + ss.length) n := ⟨_, rfl⟩
  rw [← hM]
  have HM := Lib.hid hM
  have hM0 : 0 ≤ M := by rw [hM, hat]; omega
  have hM1 : M + 2 * (nf : Int) + (lenF ff nf : Int) ≤ 900000000 := by rw [hM, hat]; omega
  clear hM hat
  go_wp2_with fail
  refine (markFunctionS_any gf nf mf mvf _ ff M _ Hf1.out Hv.out.apart hM0 hM1).mono ?_
  rintro e w2 ⟨rfl, hk2, ho2⟩
  have hty2 := Lib.hid (Ho1.out.keep fun k hk hu => hk2.block k hk (Hv.out.away k (uses_mark2 rfl hu)))
  have Ho2 := Lib.hid ho2
  have Hk2 := Lib.hid hk2
  clear hk2 ho2
  go_wp2
  go_ret
  rw [← HM.out]
  refine ⟨rfl, ?_, hty2.out, Ho2.out⟩
  have k0 : Kept (fun k => ¬ OwnSy.uses gs gc m ss n f gf mf nf ff k) w (w.alloc (.cells #[.slice A ss.length cap, .slice B n bap, .slice F nf fap] 38)) := ⟨H3.out.os, H3.out.tape, H3.out.output, H3.out.size, fun k hk _ => H3.out.block k hk⟩
  exact (k0.trans (Hk1.out.weak fun k h h2 => h (.inl h2))).trans (Hk2.out.weak fun k h => Classical.byContradiction fun h2 => h (.inr h2))

theorem OwnFus.fusAt {w : World} {gc n lo hi : Nat} {m : Nat → Bool → Nat} {mv : Nat → Bool → Value} {cv : Value} {f : Nat → Fu} (h : OwnFus w 3 79 gc m mv cv n f)
    (hw : ∀ i, i < n → (f i).fits) (hg : 0 < n → lo ≤ gc ∧ gc < hi) (hm : ∀ i b, i < n → 0 < ((f i).zs b).length → lo ≤ m i b ∧ m i b < hi) : FusAt w lo hi cv ((List.range n).map f) := by
  obtain ⟨xs, ⟨A, cap, rfl, hc, hcm, _, hrow⟩, hx, hcells, hmaps⟩ := h
  have e : ((List.range n).map f).length = n := by simp
  refine ⟨A, cap, by rw [e], by rw [e]; exact hc, hcm, fun h0 => ?_⟩
  rw [e] at h0
  obtain ⟨rfl, rest, hr⟩ := hrow h0
  refine ⟨gc, 0, rfl, (hg h0).1, (hg h0).2, fun k hk => ?_⟩
  rw [e] at hk
  obtain ⟨a, b, c, d⟩ := hcells k hk
  obtain ⟨w1, w2, w3, w4⟩ := hw k hk
  rw [List.getD_eq_getElem?_getD, List.getElem?_eq_getElem (by rw [e]; exact hk)]
  simp only [List.getElem_map, List.getElem_range, Option.getD_some]
  refine ⟨_, _, _, _, ?_, ?_, ?_, ?_, rfl, rfl, w1, w2, (hmaps k false hk).ints w3 (hm k false hk), (hmaps k true hk).ints w4 (hm k true hk)⟩
  · rw [Nat.zero_add, hr.cell, List.getElem?_append_left (by omega), a]
  · rw [Nat.zero_add, hr.cell, List.getElem?_append_left (by omega), b]
  · rw [Nat.zero_add, hr.cell, List.getElem?_append_left (by omega), c]
  · rw [Nat.zero_add, hr.cell, List.getElem?_append_left (by omega), d]
theorem markF_fits {f : Nat → Fu} {k0 : Int} {n : Nat} (h0 : 0 ≤ k0) (h1 : k0 + 2 * (n : Int) + (lenF f n : Int) ≤ 900000000) : ∀ i, i < n → (mixFu f k0 n i).fits := by
  intro i hi
  have e : mixFu f k0 n i = markFu f k0 i := by unfold mixFu; rw [if_pos hi]
  have hs := lenF_mono f (show i + 1 ≤ n by omega)
  have hl : lenF f (i + 1) = lenF f i + (f i).args.length + (f i).table.length := rfl
  have hm : markAtF f k0 i = k0 + 2 * (i : Int) + (lenF f i : Int) := rfl
  rw [e]
  refine ⟨?_, ?_, markL_wf2 _ _ ?_ ?_, markL_wf2 _ _ ?_ ?_⟩
  · have := mText_size (markAtF f k0 i)
    show (mText (markAtF f k0 i)).size ≤ maxLen
    unfold maxLen
    omega
  · show I64 (markAtF f k0 i + 1 + ((f i).args.length : Int)); unfold I64; omega
  · omega
  · omega
  · omega
  · omega
/-- What marked systems read as. -/
def markSy (k0 : Int) (s n : Nat) (f : Nat → Co) (nf : Nat) (ff : Nat → Fu) : Sy := ⟨⟨markL k0 s, (List.range n).map (mixCo f (k0 + s) n)⟩, (List.range nf).map (mixFu ff (markAt f (k0 + s) n) nf)⟩
theorem markSy_at {w : World} {gs gc n gf nf lo hi : Nat} {m : Nat → Nat} {mv : Nat → Value} {sv cv fv : Value} {ss : List Int} {f : Nat → Co} {mf : Nat → Bool → Nat} {mvf : Nat → Bool → Value} {ff : Nat → Fu} {k0 : Int}
    (h1 : OwnTy w 3 42 gs gc m mv sv cv (markL k0 ss.length) n (mixCo f (k0 + ss.length) n)) (h2 : OwnFus w 3 79 gf mf mvf fv nf (mixFu ff (markAt f (k0 + ss.length) n) nf))
    (h0 : 0 ≤ k0) (hb : k0 + (ss.length : Int) + 2 * (n : Int) + (lenSum f n : Int) + 2 * (nf : Int) + (lenF ff nf : Int) ≤ 900000000) (hu : ∀ k, OwnSy.uses gs gc m ss n f gf mf nf ff k → lo ≤ k ∧ k < hi) : SyAt w lo hi sv cv fv (markSy k0 ss.length n f nf ff) := by
  have hat : markAt f (k0 + ss.length) n = k0 + (ss.length : Int) + 2 * (n : Int) + (lenSum f n : Int) := rfl
  have hin : ∀ k, ¬ FuKeeps gf mf nf ff k → lo ≤ k ∧ k < hi := fun k h => hu k (.inr h)
  refine ⟨h1.tyAt (markL_wf2 _ _ h0 (by omega)) (markC_wf2 (by omega) (by omega)) fun k hk => hu k (.inl (uses_mark2 rfl hk)), h2.fusAt (markF_fits (by omega) (by omega)) (fun hn => hin _ fun h => h.1 hn rfl) (fun i b hi' hl => hin _ fun h => ?_)⟩
  rw [mixFu_len] at hl
  exact h.2 i b hi' hl rfl

set_option maxRecDepth 100000 in
set_option maxHeartbeats 1000000 in
theorem heldSystem_any (lo hi s n nf : Nat) (sv cv fv : Value) (f : Nat → Co) (ff : Nat → Fu) (k0 : Int) (w : World) (hv : SyAt w lo hi sv cv fv (markSy k0 s n f nf ff)) (hB : hi ≤ w.heap.size) (h0 : 0 ≤ k0) (h1 : k0 + (s : Int) + 2 * (n : Int) + (lenSum f n : Int) + 2 * (nf : Int) + (lenF ff nf : Int) ≤ 900000000) :
    Calls Try.prog 15 #[.agg #[sv, cv, fv], .int .i64 k0] w fun e w' => e = .returned (.int .i64 (markAtF ff (markAt f (k0 + s) n) nf)) ∧ Below w.heap.size w w' := by
  obtain ⟨hty, hfs⟩ := hv
  obtain ⟨A, cap, rfl, _, _, _⟩ := hty.1.form
  obtain ⟨B, bap, rfl, _, _, _⟩ := hty.2.form
  simp only [markSy, mixF_all] at hfs
  obtain ⟨F, fap, rfl, _, _, hfs⟩ := hfs.form
  simp only [List.length_map, List.length_range] at hfs ⊢
  have hat : markAt f (k0 + s) n = k0 + (s : Int) + 2 * (n : Int) + (lenSum f n : Int) := rfl
  have hatf : markAtF ff (markAt f (k0 + s) n) nf = markAt f (k0 + s) n + 2 * (nf : Int) + (lenF ff nf : Int) := rfl
  have hpos : 0 ≤ markAt f (k0 + s) n := by omega
  have hposf : 0 ≤ markAtF ff (markAt f (k0 + s) n) nf := by omega
  have hmm : markAt f (k0 + s) n + 2 * (nf : Int) + (lenF ff nf : Int) ≤ 900000000 := by omega
  have e1 : (markSy k0 s n f nf ff).ty.sizes.length = s := by simp [markSy, markL_len]
  have e2 : (markSy k0 s n f nf ff).ty.cos.length = n := by simp [markSy]
  rw [e1, e2] at hty ⊢
  have hty' : TyAt w lo hi (.slice A s cap) (.slice B n bap) ⟨markL k0 s, (List.range n).map (mixCo f (k0 + s) n)⟩ := hty
  have h3 : Below w.heap.size w (w.alloc (.cells #[.slice A s cap, .slice B n bap, .slice F nf fap] 38)) := by go_grown
  have Hty := Lib.hid (hty'.below h3 hB)
  have Hfs := Lib.hid (hfs.below h3 hB)
  have H3 := Lib.hid h3
  clear hty hty' hfs h3 hat hatf e1 e2
  go_enter Try.func15, Try.ntmps15
  go_wp2_with fail
  refine (heldTypes_any lo hi n _ _ s f k0 _ Hty.out (by simp; omega) h0 (by omega)).mono ?_
  rintro e w1 ⟨rfl, hb1⟩
  have hrow : Row w1 w.heap.size 38 [.slice A s cap, .slice B n bap, .slice F nf fap] := (Row.new w 38 [.slice A s cap, .slice B n bap, .slice F nf fap]).below hb1 (by simp)
  have q2 := hrow.cell 2
  simp only [List.getElem?_cons_zero, List.getElem?_cons_succ] at q2
  have Hb1 := Lib.hid (H3.out.trans (hb1.mono (by simp)))
  have Hfs1 := Lib.hid (Hfs.out.below hb1 (by simp; omega))
  clear hb1 hrow
  obtain ⟨M, hM⟩ : ∃ M, M = markAt f (k0 + s) n := ⟨_, rfl⟩
  rw [← hM] at hpos hposf hmm Hfs1 ⊢
  have HM := Lib.hid hM
  clear hM Hfs
  have hneg : decide (M < 0) = false := by simp; omega
  have hneg2 : decide (markAtF ff M nf < 0) = false := by simp; omega
  go_wp2_with fail
  refine (heldFunctionS_any lo hi nf _ ff M _ Hfs1.out (by have := Hb1.out.size; omega) hpos hmm).mono ?_
  rintro e w2 ⟨rfl, hb2⟩
  have Hb2 := Lib.hid (Hb1.out.trans (hb2.mono (by have := Hb1.out.size; omega)))
  clear hb2
  go_wp2
  go_ret
  rw [← HM.out]
  exact ⟨rfl, Hb2.out⟩
end Go.Proofs.Ytplncocfbajefaa

namespace Go.Proofs.Ytplncocfbajefaa
open Go.RowKit

theorem markL_wf (k : Int) (n : Nat) (h0 : 0 ≤ k) (h1 : k + n ≤ 1000000000) : ∀ z ∈ markL k n, I64 z := by
  intro z hz
  unfold markL at hz
  obtain ⟨i, hi, rfl⟩ := List.mem_map.1 hz
  have := List.mem_range.1 hi
  unfold I64
  omega
theorem lenSum_maps (t : Ty) (n : Nat) (hn : n ≤ t.cos.length) : lenSum (fun j => t.cos.getD j default) n = mapsLen t.cos n := by
  induction n with
  | zero => rfl
  | succ n ih =>
    rw [mapsLen_succ t.cos n (by omega), ← ih (by omega)]
    rfl

theorem newUses {g n : Nat} {ss : List Int} {f : Nat → Co} {k : Nat} (h : OwnTy.uses g (g + 1) (fun j => g + 1 + 1 + 4 * j + 3) ss n f k) : g ≤ k ∧ k < g + 2 + 4 * n := by
  rcases h with ⟨_, rfl⟩ | ⟨_, rfl⟩ | ⟨i, hi, _, rfl⟩
  · omega
  · omega
  · dsimp only; omega

theorem lenF_sum (fs : List Fu) (n : Nat) (hn : n ≤ fs.length) : lenF (fun j => fs.getD j default) n ≤ fusLen fs n := by
  induction n with
  | zero => exact Nat.zero_le _
  | succ n ih =>
    rw [fusLen_succ fs n (by omega)]
    have := ih (by omega)
    show lenF (fun j => fs.getD j default) n + (fs.getD n default).args.length + (fs.getD n default).table.length ≤ _
    unfold Fu.weight
    omega
theorem newUsesS {g nc nf : Nat} {ss : List Int} {f : Nat → Co} {ff : Nat → Fu} {k : Nat} (h : OwnSy.uses g (g + 1) (fun j => g + 1 + 1 + 4 * j + 3) ss nc f (g + 2 + 4 * nc) (fun j b => g + 2 + 4 * nc + 1 + 5 * j + (if b then 4 else 3)) nf ff k) : g ≤ k ∧ k < g + 3 + 4 * nc + 5 * nf := by
  rcases h with h | h
  · have := newUses h
    omega
  · rcases not_keeps h with ⟨h0, rfl⟩ | ⟨i, b, hi, _, rfl⟩
    · omega
    · cases b <;> simp <;> omega

theorem IntsAt.wfi {w : World} {lo hi : Nat} {v : Value} {zs : List Int} (h : IntsAt w lo hi v zs) : ∀ z ∈ zs, I64 z := by
  obtain ⟨_, _, _, _, _, h, _⟩ := h
  exact h
end Go.Proofs.Ytplncocfbajefaa

namespace Go.Proofs.Ytplncocfbajefaa
open Go.RowKit

/-- What is left of an allowance when n is taken from it; -1 if it is not enough. -/
def subI (left : Int) (n : Nat) : Int := if left - n < 0 then -1 else left - n
theorem subI_neg {left : Int} {n : Nat} (h : left - n < 0) : subI left n = -1 := if_pos h
theorem subI_pos {left : Int} {n : Nat} (h : ¬ left - n < 0) : subI left n = left - n := if_neg h

theorem szIntS_any (A : Option Addr) (n c : Nat) (left : Int) (w : World) (h0 : 0 ≤ left) (h1 : left ≤ 1048576) (hn : n ≤ maxLen) :
    Calls Try.prog 20 #[.slice A n c, .int .i64 left] w fun e w' => e = .returned (.int .i64 (subI left n)) ∧ w = w' := by
  unfold maxLen at hn
  by_cases h : left - n < 0
  · have hs := Lib.hid (subI_neg h)
    go_enter Try.func20, Try.ntmps20
    go_wp2
    go_ret
    exact ⟨ret_int hs.out.symm, rfl⟩
  · have hs := Lib.hid (subI_pos h)
    go_enter Try.func20, Try.ntmps20
    go_wp2
    go_ret
    exact ⟨ret_int hs.out.symm, rfl⟩

theorem szCoercion_any (x y : Value) (A : Option Addr) (n c : Nat) (left : Int) (w : World) (h0 : 0 ≤ left) (h1 : left ≤ 1048576) (hn : n ≤ maxLen) :
    Calls Try.prog 6 #[.agg #[x, y, .slice A n c], .int .i64 left] w fun e w' => e = .returned (.int .i64 (subI left n)) ∧ Below w.heap.size w w' := by
  by_cases h : left - n < 0
  · have hs := Lib.hid (subI_neg h)
    go_enter Try.func6, Try.ntmps6
    go_wp2_with (go_at_call 20; refine (szIntS_any _ _ _ _ _ h0 h1 hn).mono ?_; rintro e w' ⟨rfl, rfl⟩; rw [hs.out])
    go_ret
    exact ⟨ret_int hs.out.symm, by go_grown⟩
  · have hs := Lib.hid (subI_pos h)
    go_enter Try.func6, Try.ntmps6
    go_wp2_with (go_at_call 20; refine (szIntS_any _ _ _ _ _ h0 h1 hn).mono ?_; rintro e w' ⟨rfl, rfl⟩; rw [hs.out])
    go_ret
    exact ⟨ret_int hs.out.symm, by go_grown⟩

set_option maxHeartbeats 400000 in
theorem szCoercionS_any (lo hi : Nat) (v : Value) (cs : List Co) (left : Int) (w : World) (h0 : 0 ≤ left) (h1 : left ≤ 1048576) (hv : CosAt w lo hi v cs) (hB : hi ≤ w.heap.size) :
    Calls Try.prog 37 #[v, .int .i64 left] w fun e w' => e = .returned (.int .i64 (subI left (cs.length + mapsLen cs cs.length))) ∧ Below w.heap.size w w' := by
  obtain ⟨A, cap, rfl, hl, hm, hc⟩ := hv
  unfold maxLen at hm
  by_cases hneg : left - (cs.length : Int) < 0
  · have hs : Hid (subI left (cs.length + mapsLen cs cs.length) = -1) := subI_neg (by omega)
    clear hc
    go_enter Try.func37, Try.ntmps37
    go_wp2
    go_ret
    exact ⟨ret_int hs.out.symm, Below.refl _ _⟩
  · have hc' := Lib.hid hc
    clear hc
    go_enter Try.func37, Try.ntmps37
    go_wp2
    go_loopw [1, 5] (fun l i wr => ∃ k : Nat, k ≤ cs.length ∧ i = .int .i64 k ∧ l = .int .i64 (left - ((cs.length : Int) + (mapsLen cs k : Int))) ∧ 0 ≤ left - ((cs.length : Int) + (mapsLen cs k : Int)) ∧ Below w.heap.size w wr) (fun _ i _ => cs.length - (intOf i).toNat)
    case atStart => exact ⟨0, Nat.zero_le _, rfl, by rw [mapsLen_zero]; go_num, by rw [mapsLen_zero]; omega, Below.refl _ _⟩
    case round =>
      obtain ⟨k, hk, rfl, rfl, hpos, hb⟩ := hrel
      by_cases hlt : k < cs.length
      · obtain ⟨b, off, rfl, hlo, hhi, hcell⟩ := hc'.out (by omega)
        obtain ⟨x, y, z, c0, c1, c2, rfl, rfl, _, _, A2, cap2, rfl, hl2, hm2, _, _⟩ := hcell k hlt
        have hms := Lib.hid (mapsLen_succ cs k hlt)
        have hmm := mapsLen_mono cs (k + 1)
        rw [hms.out] at hmm
        replace c0 := (hb.cell (p := ⟨b, off + k * 3, none⟩) (by simp; omega)).trans c0
        replace c1 := (hb.cell (p := ⟨b, off + k * 3 + 1, none⟩) (by simp; omega)).trans c1
        replace c2 := (hb.cell (p := ⟨b, off + k * 3 + 2, none⟩) (by simp; omega)).trans c2
        clear hcell hc'
        generalize hM : (cs.getD k default).map.length = m at *
        have HM := Lib.hid hM
        clear hM
        by_cases hn2 : left - ((cs.length : Int) + (mapsLen cs k : Int)) - (m : Int) < 0
        · have hs := Lib.hid (subI_neg hn2)
          have hs' : Hid (subI left (cs.length + mapsLen cs cs.length) = -1) := subI_neg (by omega)
          go_wp2_with (go_at_call 6; refine (szCoercion_any _ _ _ _ _ _ _ (by omega) (by omega) (Nat.le_trans hl2 hm2)).mono ?_; rintro e w' ⟨rfl, hb2⟩; rw [hs.out])
          go_ret
          exact ⟨ret_int hs'.out.symm, hb.trans (hb2.mono hb.size)⟩
        · have hs := Lib.hid (subI_pos hn2)
          go_wp2_with (go_at_call 6; refine (szCoercion_any _ _ _ _ _ _ _ (by omega) (by omega) (Nat.le_trans hl2 hm2)).mono ?_; rintro e w' ⟨rfl, hb2⟩; rw [hs.out])
          go_roundw
          case rel => exact ⟨k + 1, by omega, by go_num, by rw [hms.out]; go_num, by rw [hms.out]; omega, hb.trans (hb2.mono hb.size)⟩
          case measure => simp [intOf]; omega
      · obtain rfl : k = cs.length := by omega
        have hs' : Hid (subI left (cs.length + mapsLen cs cs.length) = left - ((cs.length + mapsLen cs cs.length : Nat) : Int)) := subI_pos (by omega)
        go_wp2
        go_ret
        exact ⟨ret_int hs'.out.symm, hb⟩

theorem subI_sub {left : Int} {n m : Nat} (_h : ¬ left - n < 0) : subI (left - n) m = subI left (n + m) := by
  unfold subI
  by_cases h2 : left - n - m < 0
  · rw [if_pos h2, if_pos (by omega)]
  · rw [if_neg h2, if_neg (by omega)]; omega

set_option maxHeartbeats 400000 in
theorem szTypes_any (lo hi : Nat) (s c : Value) (t : Ty) (left : Int) (w : World) (h0 : 0 ≤ left) (h1 : left ≤ 1048576) (hv : TyAt w lo hi s c t) (hB : hi ≤ w.heap.size) :
    Calls Try.prog 18 #[.agg #[s, c], .int .i64 left] w fun e w' => e = .returned (.int .i64 (subI left t.bulk)) ∧ Below w.heap.size w w' := by
  obtain ⟨⟨A, cap, rfl, hl, hm, _, _⟩, hcs⟩ := hv
  have hc := hcs
  obtain ⟨A2, cap2, hc2, _⟩ := hcs
  have hcos : CosAt w lo hi (.slice A2 t.cos.length cap2) t.cos := by rw [← hc2]; exact hc
  subst hc2
  clear hc
  have e : t.bulk = t.sizes.length + (t.cos.length + mapsLen t.cos t.cos.length) := Nat.add_assoc _ _ _
  have hlen := Nat.le_trans hl hm
  by_cases h : left - (t.sizes.length : Int) < 0
  · have hs := Lib.hid (subI_neg h)
    have hs2 : Hid (subI left t.bulk = -1) := subI_neg (by rw [e]; omega)
    clear e
    go_enter Try.func18, Try.ntmps18
    go_wp2_with (go_at_call 20; refine (szIntS_any _ _ _ _ _ h0 h1 hlen).mono ?_; rintro e w' ⟨rfl, rfl⟩; rw [hs.out])
    go_ret
    exact ⟨ret_int hs2.out.symm, by go_grown⟩
  · have hs := Lib.hid (subI_pos h)
    have hss := subI_sub (m := t.cos.length + mapsLen t.cos t.cos.length) h
    rw [← e] at hss
    by_cases h2 : left - t.sizes.length - ((t.cos.length + mapsLen t.cos t.cos.length : Nat) : Int) < 0
    · have hs2 := Lib.hid (subI_neg h2)
      rw [subI_neg h2] at hss
      have hs3 := Lib.hid hss
      clear e hss
      go_enter Try.func18, Try.ntmps18
      go_wp2_with (first | (go_at_call 20; refine (szIntS_any _ _ _ _ _ h0 h1 hlen).mono ?_; rintro e w' ⟨rfl, rfl⟩; rw [hs.out]) | (go_at_call 37; refine (szCoercionS_any lo hi _ t.cos _ _ (by omega) (by omega) (hcos.below ((Below.refl _ _).alloc (Nat.le_refl _) _) hB) (by simp; omega)).mono ?_; rintro e w' ⟨rfl, hb⟩; rw [hs2.out]))
      go_ret
      exact ⟨ret_int hs3.out, ((Below.refl _ _).alloc (Nat.le_refl _) _).trans (hb.mono (by simp))⟩
    · have hs2 := Lib.hid (subI_pos h2)
      rw [subI_pos h2] at hss
      have hs3 := Lib.hid hss
      clear e hss
      go_enter Try.func18, Try.ntmps18
      go_wp2_with (first | (go_at_call 20; refine (szIntS_any _ _ _ _ _ h0 h1 hlen).mono ?_; rintro e w' ⟨rfl, rfl⟩; rw [hs.out]) | (go_at_call 37; refine (szCoercionS_any lo hi _ t.cos _ _ (by omega) (by omega) (hcos.below ((Below.refl _ _).alloc (Nat.le_refl _) _) hB) (by simp; omega)).mono ?_; rintro e w' ⟨rfl, hb⟩; rw [hs2.out]))
      go_ret
      exact ⟨ret_int hs3.out, ((Below.refl _ _).alloc (Nat.le_refl _) _).trans (hb.mono (by simp))⟩
end Go.Proofs.Ytplncocfbajefaa

