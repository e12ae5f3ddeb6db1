/-
  The contract of slices.Delete at a list of coercions of the call's own, one of them.
-/
import Derived.Test.YtplpnammboofiaaCopyw
import Derived.Deep.RegionLaw
import Derived.Deep.Upon
namespace Go.Proofs.Ytplpnammboofiaa
open Go.RowKit

theorem Row.setCells_ {g : Nat} {t : TypeId} : ∀ (vs : List Value) (o : Nat) (w : World) (ys : List Value), Row w g t ys → o + vs.length ≤ ys.length → Row (w.setCells g o vs) g t (ys.take o ++ vs ++ ys.drop (o + vs.length))
  | [], o, w, ys, h, _ => by
    simpa [World.setCells] using h
  | v :: r, o, w, ys, h, hl => by
    have h1 := Row.setCells_ r (o + 1) (w.setCell ⟨g, o, none⟩ v) (ys.set o v) (h.set_ o v) (by simp at hl ⊢; omega)
    have e : (ys.set o v).take (o + 1) ++ r ++ (ys.set o v).drop (o + 1 + r.length) = ys.take o ++ (v :: r) ++ ys.drop (o + (v :: r).length) := by
      have hlo : o < ys.length := by simp at hl; omega
      rw [List.take_succ_eq_append_getElem (by simpa using hlo), List.drop_set_of_lt (by omega), List.take_set_of_le (by omega)]
      simp [Nat.add_assoc, Nat.add_comm 1]
    rw [e] at h1
    exact h1
theorem grown_setCells {g : Nat} : ∀ (vs : List Value) (o : Nat) (w : World), w.grownBy (w.setCells g o vs) (some g)
  | [], _, w => ⟨rfl, rfl, rfl, Nat.le_refl _, fun _ _ _ => rfl⟩
  | v :: r, o, w => by
    have h := grown_setCells (g := g) r (o + 1) (w.setCell ⟨g, o, none⟩ v)
    refine ⟨h.os, h.tape, h.output, Nat.le_trans (Nat.le_of_eq (by simp [World.setCell])) h.size, fun i hi hne => (h.block i (by simpa [World.setCell] using hi) hne).trans (Below.heap_setCell _ _ _ _ (fun e => hne (by rw [e])))⟩

theorem zeroCo (u : World) : (zeroValue 28).run Try.prog u = .ok (.agg #[.int .i64 0, .int .i64 0, .slice none 0 0]) u := by kernel_rfl

theorem clear_one (w : World) (g : Nat) (ys : List Value) (o c : Nat) (hr : Row w g 28 ys) (hl : o + 3 ≤ ys.length) (ty : TypeId) :
    (Builtin.clear_ #[24] ty #[.slice (some ⟨g, o, none⟩) 1 c]).run Try.prog w = .ok (.tuple #[]) (w.setCells g o [.int .i64 0, .int .i64 0, .slice none 0 0]) := by
  have hst := run_storeCells_cells (P := Try.prog) g o [.int .i64 0, .int .i64 0, .slice none 0 0] 0 w (fun j hj => by
    rw [hr.cell, Nat.add_zero, List.getElem?_eq_getElem (by simp at hj; omega)]; rfl) (fun j _ => hr.frozen _) (by intro v hv; simp at hv; rcases hv with rfl | rfl <;> rfl)
  simp only [Nat.add_zero] at hst
  have hz : (Builtin.zeroCells (Value.agg #[.int .i64 0, .int .i64 0, .slice none 0 0]).cells 1).toList = [.int .i64 0, .int .i64 0, .slice none 0 0] := by first | kernel_rfl | (simp [Builtin.zeroCells, go_sem]; decide)
  simp [Builtin.clear_, run_underlying Try.underlying24, hz, hst]

set_option maxHeartbeats 4000000 in
set_option maxRecDepth 1000000 in
theorem delete_any (base : Nat) (l : Value) (k n : Nat) (xs : List Value) (w : World) (hown : w.ownsRow base 28 3 l k xs) (hn : n < k) (hk : k ≤ 1048576) (hone : ∀ x ∈ xs, x.oneCell' = true) :
    Calls Try.prog 45 #[l, .int .i64 n, .int .i64 ((n : Int) + 1)] w fun e w' => ∃ l', e = .returned l' ∧ l'.ownBlock = l.ownBlock ∧ w'.ownsRow base 28 3 l' (k - 1) (xs.take (n * 3) ++ xs.drop ((n + 1) * 3)) ∧ w.grownBy w' l.ownBlock := by
  obtain ⟨i0, hi0, hz0, hz1, hz2⟩ := info_parts infoCoercionW
  obtain ⟨hlen, ⟨_, h0⟩ | ⟨g, cap, cur, rfl, hg, hh, hc1, hc2, hcs, htake⟩⟩ := hown
  · omega
  unfold maxLen at hc2
  have hrow : Row w g 28 cur.toList := by unfold Row; simpa using hh
  have hyl : cur.toList.length = cap * 3 := by simpa using hcs
  generalize hys : cur.toList = ys at *
  have hxsl : xs.length = k * 3 := hlen
  obtain ⟨news, hnews⟩ : ∃ news, news = xs.drop ((n + 1) * 3) := ⟨_, rfl⟩
  have hnl : news.length = (k - (n + 1)) * 3 := by rw [hnews, List.length_drop, hxsl]; omega
  have hget : ∀ j u, news[j]? = some u → ys[(n + 1) * 3 + j]? = some u := fun j u hu => by
    rw [hnews, List.getElem?_drop, ← htake] at hu
    have hj : (n + 1) * 3 + j < k * 3 := by
      have := (List.getElem?_eq_some_iff.1 hu).1
      simp only [List.length_take] at this
      omega
    rwa [List.getElem?_take_of_lt hj] at hu
  obtain ⟨A, hA, hsrc⟩ : ∃ A : Addr, (if cap = n + 1 then some (⟨g, 0, none⟩ : Addr) else some ⟨g, (n + 1) * 3, none⟩) = some A ∧ Hid (∀ j u, news[j]? = some u → w.drew.cell? (A.add j) = some u) := by
    by_cases h : cap = n + 1
    · refine ⟨⟨g, 0, none⟩, by simp [h], fun j u hu => ?_⟩
      have hj := (List.getElem?_eq_some_iff.1 hu).1
      rw [hnl] at hj
      omega
    · refine ⟨⟨g, (n + 1) * 3, none⟩, by simp [h], fun j u hu => ?_⟩
      rw [Go.WideShapes.add_plain]
      exact (hrow.cell _).trans (hget j u hu)
  have s1 : Hid (news.length = (k - (n + 1)) * 3) := hnl
  have s2 : Hid (∀ u ∈ news, u.oneCell' = true) := fun u hu => by rw [hnews] at hu; exact hone u (List.mem_of_mem_drop hu)
  have s3 : Hid (∀ j, j < news.length → (w.drew.cell? ⟨g, 0 + n * 3 + j, none⟩).isSome = true ∧ w.drew.frozen? ⟨g, 0 + n * 3 + j, none⟩ = false) := by
    intro j hj
    rw [hnl] at hj
    refine ⟨?_, hrow.frozen _⟩
    rw [show w.drew.cell? ⟨g, 0 + n * 3 + j, none⟩ = ys[0 + n * 3 + j]? from hrow.cell _, List.getElem?_eq_getElem (by rw [hyl]; omega)]
    rfl
  obtain ⟨W1, hW1⟩ : ∃ W1, W1 = w.drew.setCells g (0 + n * 3) news := ⟨_, rfl⟩
  have hg1 : w.grownBy W1 (some g) := by
    have := grown_setCells (g := g) news (0 + n * 3) w.drew
    rw [← hW1] at this
    exact ⟨this.os, this.tape, this.output, this.size, this.block⟩
  have hr1 : Row W1 g 28 (ys.take (n * 3) ++ news ++ ys.drop (n * 3 + news.length)) := by
    have := Row.setCells_ news (0 + n * 3) w.drew ys hrow.drew (by rw [hyl, hnl]; omega)
    rw [← hW1, Nat.zero_add] at this
    exact this
  have hl1 : (ys.take (n * 3) ++ news ++ ys.drop (n * 3 + news.length)).length = cap * 3 := by
    simp only [List.length_append, List.length_take, List.length_drop, hyl, hnl]; omega
  have hcl := fun ty => clear_one W1 g _ ((k - 1) * 3) (cap - (k - 1)) hr1 (by rw [hl1]; omega) ty
  have ek : n + (k - (n + 1)) = k - 1 := by omega
  have ek2 : k - (k - 1) = 1 := by omega
  have hcl2 : ∀ ty, (Builtin.clear_ #[24] ty #[.slice (some ⟨g, (n + (k - (n + 1))) * 3, none⟩) (k - (n + (k - (n + 1)))) (cap - (n + (k - (n + 1))))]).run Try.prog W1 = .ok (.tuple #[]) (W1.setCells g ((k - 1) * 3) [.int .i64 0, .int .i64 0, .slice none 0 0]) := fun ty => by rw [ek, ek2]; exact hcl ty
  clear hcl ek ek2
  have hr2 := Row.setCells_ [.int .i64 0, .int .i64 0, .slice none 0 0] ((k - 1) * 3) W1 _ hr1 (by rw [hl1]; simp; omega)
  have hg2 : w.grownBy (W1.setCells g ((k - 1) * 3) [.int .i64 0, .int .i64 0, .slice none 0 0]) (some g) := by
    have h2 := grown_setCells (g := g) [.int .i64 0, .int .i64 0, .slice none 0 0] ((k - 1) * 3) W1
    exact ⟨h2.os.trans hg1.os, h2.tape.trans hg1.tape, h2.output.trans hg1.output, Nat.le_trans hg1.size h2.size, fun i hi hne => (h2.block i (Nat.lt_of_lt_of_le hi hg1.size) hne).trans (hg1.block i hi hne)⟩
  have Hr2 := Lib.hid hr2
  have Hg2 := Lib.hid hg2
  have Hl1 := Lib.hid hl1
  have hW : Hid (W1 = w.drew.setCells g (0 + n * 3) news) := hW1
  have Hnl := Lib.hid hnl
  have Hyl := Lib.hid hyl
  have Hnews := Lib.hid hnews
  have Htake := Lib.hid htake
  have Hxsl := Lib.hid hxsl
  have hwr : IntKind.i64.wrap ((n : Int) + 1) = (n : Int) + 1 := by rw [IntKind.wrap_i64]; omega
  have hp0 : (0 : Int) ≤ (n : Int) + 1 := by omega
  have hp1 : (n : Int) + 1 ≤ (k : Int) := by omega
  have hp2 : ((n : Int) + 1).toNat = n + 1 := by omega
  have hic : n ≤ cap := by omega
  have hne : ((n : Int) == (n : Int) + 1) = false := by simp; omega
  clear hW1 hg1 hr1 hl1 hr2 hg2 hrow hget hnews hnl hyl hh hcs hlen htake hxsl hone hys
  go_enter Try.func45, Try.ntmps45
  go_wp2_with fail
  go_region_law (refine step_append_room rfl (.tmp 22) (.tmp 25) 24 rfl 28 i0 3 Try.underlying24 hi0 hz1 g 0 n cap (by simp [Act.eval, Act.put]) A (k-(n+1)) (cap-(n+1)) news (by simp [Act.eval, Act.put]) s1.out hsrc.out s2.out (by omega) s3.out ?_; rw [← hW.out])
  go_wp2
  go_ret
  have ek : n + (k - (n + 1)) = k - 1 := by omega
  rw [ek]
  refine ⟨_, rfl, rfl, ⟨by rw [List.length_append, List.length_take, List.length_drop, Hxsl.out]; omega, .inr ⟨g, cap, _, rfl, hg, Hr2.out, by omega, by unfold maxLen; omega, ?_, ?_⟩⟩, Hg2.out⟩
  · have h1 := Hl1.out
    simp only [List.size_toArray, List.length_append, List.length_take, List.length_drop, List.length_cons, List.length_nil, Hyl.out, Hnl.out] at h1 ⊢
    omega
  · have hxt : xs.take (n * 3) = ys.take (n * 3) := by rw [← Htake.out, List.take_take, Nat.min_eq_left (by omega)]
    have hl2 : (ys.take (n * 3) ++ news).length = (k - 1) * 3 := by rw [List.length_append, List.length_take, Hyl.out, Hnl.out]; omega
    have hl3 : (List.take ((k - 1) * 3) (ys.take (n * 3) ++ news ++ ys.drop (n * 3 + news.length))).length = (k - 1) * 3 := by rw [List.length_take, Hl1.out]; omega
    rw [hxt, ← Hnews.out, List.append_assoc, List.take_append_of_le_length (by rw [hl3]; omega), List.take_take, Nat.min_self, List.take_append_of_le_length (by rw [hl2]; omega), List.take_of_length_le (by rw [hl2]; omega)]
end Go.Proofs.Ytplpnammboofiaa
