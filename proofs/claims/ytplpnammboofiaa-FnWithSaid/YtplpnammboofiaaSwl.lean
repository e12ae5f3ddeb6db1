/-
  Lists of coercions that are cut and put together: readings, and an append to a row of the call's own.
-/
import Derived.Test.YtplpnammboofiaaRfacts
import Derived.Test.YtplpnammboofiaaSraw
namespace Go.Proofs.Ytplpnammboofiaa
open Go.RowKit

theorem CosAt.take_ {w : World} {lo hi n c k : Nat} {ad : Addr} {cs : List Co} (h : CosAt w lo hi (.slice (some ad) n c) cs) (hk : k ≤ cs.length) : CosAt w lo hi (.slice (some ad) k c) (cs.take k) := by
  obtain ⟨A, cap, e, h1, h2, h4⟩ := h
  injection e with e1 e2 e3
  subst e1 e3
  refine ⟨some ad, c, by rw [List.length_take, Nat.min_eq_left hk], by rw [List.length_take, Nat.min_eq_left hk]; omega, h2, fun h0 => ?_⟩
  rw [List.length_take, Nat.min_eq_left hk] at h0
  obtain ⟨b, off, hA, hl, hh, hc⟩ := h4 (by omega)
  refine ⟨b, off, hA, hl, hh, fun j hj => ?_⟩
  rw [List.length_take, Nat.min_eq_left hk] at hj
  have e : (cs.take k).getD j default = cs.getD j default := by rw [List.getD_eq_getElem?_getD, List.getD_eq_getElem?_getD, List.getElem?_take_of_lt hj]
  rw [e]
  exact hc j (by omega)
theorem CosAt.drop_ {w : World} {lo hi n c k b off : Nat} {E : Addr} {cs : List Co} (h : CosAt w lo hi (.slice (some ⟨b, off, none⟩) n c) cs) (hk : k ≤ cs.length) (hE : (if c = k then some (⟨b, off, none⟩ : Addr) else some ⟨b, off + k * 3, none⟩) = some E) : CosAt w lo hi (.slice (some E) (cs.length - k) (c - k)) (cs.drop k) := by
  obtain ⟨A, cap, e, h1, h2, h4⟩ := h
  injection e with e1 e2 e3
  subst e1 e3
  refine ⟨some E, c - k, by rw [List.length_drop], by rw [List.length_drop]; omega, by omega, fun h0 => ?_⟩
  rw [List.length_drop] at h0
  obtain ⟨b', off', hA, hl, hh, hc⟩ := h4 (by omega)
  injection hA with hA
  injection hA with hb ho
  subst hb ho
  rw [if_neg (by omega)] at hE
  injection hE with hE
  subst hE
  refine ⟨b, off + k * 3, rfl, hl, hh, fun j hj => ?_⟩
  rw [List.length_drop] at hj
  obtain ⟨x, y, z, a1, a2, a3, a4⟩ := hc (k + j) (by omega)
  have e : (cs.drop k).getD j default = cs.getD (k + j) default := by rw [List.getD_eq_getElem?_getD, List.getD_eq_getElem?_getD, List.getElem?_drop]
  rw [e]
  rw [show off + (k + j) * 3 = off + k * 3 + j * 3 by omega] at a1 a2 a3
  exact ⟨x, y, z, a1, a2, a3, a4⟩

theorem CosNews.app {w : World} {lo hi : Nat} {n1 n2 : List Value} {c1 c2 : List Co} (h1 : CosNews w lo hi n1 c1) (h2 : CosNews w lo hi n2 c2) : CosNews w lo hi (n1 ++ n2) (c1 ++ c2) := by
  obtain ⟨m1, l1, g1⟩ := h1
  obtain ⟨m2, l2, g2⟩ := h2
  refine ⟨fun i => if i < c1.length then m1 i else m2 (i - c1.length), by rw [List.length_append, List.length_append, l1, l2]; omega, fun i hi => ?_⟩
  by_cases h : i < c1.length
  · obtain ⟨a, b, c, d⟩ := g1 i h
    have e : (c1 ++ c2)[i] = c1[i] := List.getElem_append_left h
    rw [List.getElem?_append_left (by omega), List.getElem?_append_left (by omega), List.getElem?_append_left (by omega), e]
    dsimp only
    rw [if_pos h]
    exact ⟨a, b, c, d⟩
  · rw [List.length_append] at hi
    obtain ⟨a, b, c, d⟩ := g2 (i - c1.length) (by omega)
    have e : (c1 ++ c2)[i]'(by rw [List.length_append]; exact hi) = c2[i - c1.length] := List.getElem_append_right (by omega)
    rw [List.getElem?_append_right (by omega), List.getElem?_append_right (by omega), List.getElem?_append_right (by omega), e]
    dsimp only
    rw [if_neg h, l1, show i * 3 - c1.length * 3 = (i - c1.length) * 3 by omega, show i * 3 + 1 - c1.length * 3 = (i - c1.length) * 3 + 1 by omega, show i * 3 + 2 - c1.length * 3 = (i - c1.length) * 3 + 2 by omega]
    exact ⟨a, b, c, d⟩

theorem cosAt_news {u : World} {N lo hi L : Nat} {v : Value} {cs : List Co} {news : List Value} (hown : u.ownsRow N 28 3 v cs.length news) (hn : CosNews u lo hi news cs)
    (hwf : ∀ i, i < cs.length → I64 (cs.getD i default).src ∧ I64 (cs.getD i default).dst) (hL1 : L ≤ lo) (hLN : L ≤ N) (hh : hi ≤ u.heap.size) : CosAt u L u.heap.size v cs := by
  have hlt := owns_lt hown
  obtain ⟨hlen, ⟨rfl, h0⟩ | ⟨g, cap, cur, rfl, hg, hh2, hc1, hc2, hcs, htake⟩⟩ := hown
  · exact ⟨none, 0, by rw [h0], by omega, Nat.zero_le _, fun h => absurd h (by omega)⟩
  obtain ⟨mv, hl, hnw⟩ := hn
  have hrow : Row u g 28 cur.toList := by unfold Row; simpa using hh2
  have cell : ∀ j, j < cs.length * 3 → u.cell? ⟨g, j, none⟩ = news[j]? := by
    intro j hj
    rw [← htake, List.getElem?_take_of_lt hj]
    exact hrow.cell j
  refine ⟨some ⟨g, 0, none⟩, cap, rfl, hc1, hc2, fun _ => ⟨g, 0, rfl, by omega, (hlt g rfl).2, fun k hk => ?_⟩⟩
  rw [Nat.zero_add]
  obtain ⟨n0, n1, n2, n3⟩ := hnw k hk
  have e2 : cs.getD k default = cs[k] := by rw [List.getD_eq_getElem?_getD, List.getElem?_eq_getElem hk]; rfl
  have hw := hwf k hk
  rw [e2] at hw ⊢
  refine ⟨.int .i64 cs[k].src, .int .i64 cs[k].dst, mv k, ?_, ?_, ?_, rfl, rfl, hw.1, hw.2, n3.more (by omega) hh⟩
  · rw [cell _ (by omega), n0]
  · rw [cell _ (by omega), n1]
  · rw [cell _ (by omega), n2]

theorem step_append_cos2 {w : World} {ops : Array Oper} {o : Oper} {a : Act} {K : Act → World → Prop} {Q : Exit → Act → World → Prop} {E : Prop} (hgd : o.guard = none) (s x : Operand)
    (ho : o.op = .call { callee := .builtin .append, args := #[s, x], argTypes := #[24, 24] }) (base : Nat) (v : Value) (n1 : Nat) (xs : List Value) (hs : a.eval s = v)
    (hown : w.ownsRow base 28 3 v n1 xs) (lo hi : Nat) (A : Option Addr) (m c : Nat) (cs : List Co) (hx : a.eval x = .slice A m c) (hm : m = cs.length) (hz : CosAt w lo hi (.slice A cs.length c) cs) (hn : n1 + m ≤ 1048576) (hbase : base ≤ w.heap.size)
    (h : ∀ VA VC w' news, w'.ownsRow base 28 3 (.slice VA (n1 + m) VC) (n1 + m) (xs ++ news) → CosNews w lo hi news cs → w.grownBy w' v.ownBlock → K (a.put o.dst (.slice VA (n1 + m) VC)) w') :
    if Region.wanted o (yielded ops a.tmps) = true then Oper.wp Try.prog o a w K Q else E := by
  have hw : Region.wanted o (yielded ops a.tmps) = true := by simp [Region.wanted, hgd]
  rw [if_pos hw]
  subst hm
  obtain ⟨i0, hi0, hz0, hz1, hz2⟩ := info_parts infoCoercionW
  rcases A with _ | ad
  · have hcs : cs = [] := by
      rcases cs with _ | ⟨z, zs⟩
      · rfl
      · obtain ⟨b, off, A2, cap2, e, _⟩ := hz.at_ (k := 0) (by simp)
        cases e
    subst hcs
    obtain ⟨VA, VC, rfl⟩ := owns_form hown
    have hrun := run_append_owned_none' (P := Try.prog) (w := w) base 24 o.type 28 i0 3 Try.underlying24 hi0 _ _ _ c hown
    have this := h VA VC w [] (by simpa using hown) ⟨fun _ => undef, rfl, fun i hi => absurd hi (by simp)⟩ ⟨rfl, rfl, rfl, Nat.le_refl _, fun _ _ _ => rfl⟩
    have this2 : K (a.put o.dst (.slice VA n1 VC)) w := by simpa using this
    unfold Oper.wp
    rw [List.length_nil] at hx
    simp [execOp, ho, resolve, invoke, builtin, hs, hx, hrun, Result.andThen]
    exact this2
  · obtain ⟨news, hnews, hcells, hone⟩ := cos_news hz
    obtain ⟨mv, hl, hrest⟩ := hnews
    refine wp_append_own w s x 24 ho base 28 i0 _ 3 40 Try.underlying24 hi0 hz0 hz1 hz2 rfl (by omega) _ n1 xs hs hown ad cs.length c news hx hl hcells hone (by unfold maxLen; omega) (by omega) hbase ?_
    intro v' w' h1 h2 _
    obtain ⟨VA, VC, rfl⟩ := owns_form h1
    exact h VA VC w' news h1 ⟨mv, hl, hrest⟩ h2
end Go.Proofs.Ytplpnammboofiaa
