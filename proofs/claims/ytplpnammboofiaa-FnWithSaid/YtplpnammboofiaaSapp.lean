/-
  append to an empty list of all coercions of another one, as a step of a region that draws its order.
-/
import Derived.Test.YtplpnammboofiaaSownty
namespace Go.Proofs.Ytplpnammboofiaa
open Go.RowKit

/-- Cells that read as coercions. -/
def CosNews (w : World) (lo hi : Nat) (news : List Value) (cs : List Co) : Prop :=
  ∃ mv : Nat → Value, news.length = cs.length * 3 ∧ ∀ i, ∀ (h : i < cs.length), news[i * 3]? = some (.int .i64 cs[i].src) ∧ news[i * 3 + 1]? = some (.int .i64 cs[i].dst) ∧ news[i * 3 + 2]? = some (mv i) ∧ IntsAt w lo hi (mv i) cs[i].map

theorem cos_news {w : World} {lo hi c : Nat} {ad : Addr} {cs : List Co} (h : CosAt w lo hi (.slice (some ad) cs.length c) cs) :
    ∃ news, CosNews w lo hi news cs ∧ (∀ j u, news[j]? = some u → w.cell? (ad.add j) = some u) ∧ ∀ u ∈ news, u.oneCell' = true := by
  have hat : ∀ i, ∀ (hi' : i < cs.length), ∃ z, w.cell? (ad.add (i * 3)) = some (.int .i64 cs[i].src) ∧ w.cell? (ad.add (i * 3 + 1)) = some (.int .i64 cs[i].dst) ∧ w.cell? (ad.add (i * 3 + 2)) = some z ∧ IntsAt w lo hi z cs[i].map ∧ z.oneCell' = true := by
    intro i hi'
    obtain ⟨b, off, A2, cap2, e, _, _, c0, c1, c2, _, _, _, _, hz⟩ := h.at_ hi'
    injection e with e
    subst e
    refine ⟨_, ?_, ?_, ?_, hz, rfl⟩
    · rw [Go.WideShapes.add_plain, c0]
    · rw [Go.WideShapes.add_plain, ← Nat.add_assoc, c1]
    · rw [Go.WideShapes.add_plain, ← Nat.add_assoc, c2]
  have hsome : ∀ j, j < cs.length * 3 → ∃ u, w.cell? (ad.add j) = some u ∧ u.oneCell' = true := by
    intro j hj
    obtain ⟨z, h0, h1, h2, _, h4⟩ := hat (j / 3) (by omega)
    have hm := Nat.div_add_mod j 3
    have hlt := Nat.mod_lt j (by omega : 3 > 0)
    rcases (by omega : j = j / 3 * 3 ∨ j = j / 3 * 3 + 1 ∨ j = j / 3 * 3 + 2) with e | e | e
    · rw [← e] at h0; exact ⟨_, h0, rfl⟩
    · rw [← e] at h1; exact ⟨_, h1, rfl⟩
    · rw [← e] at h2; exact ⟨_, h2, h4⟩
  have hget : ∀ j, j < cs.length * 3 → ((List.range (cs.length * 3)).map fun j => (w.cell? (ad.add j)).getD undef)[j]? = w.cell? (ad.add j) := by
    intro j hj
    obtain ⟨u, hu, _⟩ := hsome j hj
    rw [List.getElem?_map, List.getElem?_range hj]
    simp [hu]
  refine ⟨(List.range (cs.length * 3)).map fun j => (w.cell? (ad.add j)).getD undef, ⟨fun i => (w.cell? (ad.add (i * 3 + 2))).getD undef, by simp, fun i hi' => ?_⟩, fun j u hj => ?_, fun u hu => ?_⟩
  · obtain ⟨z, h0, h1, h2, h3, _⟩ := hat i hi'
    rw [hget _ (by omega), hget _ (by omega), hget _ (by omega)]
    refine ⟨h0, h1, ?_, ?_⟩
    · simp only [h2, Option.getD_some]
    · simp only [h2, Option.getD_some]; exact h3
  · have hjl : j < cs.length * 3 := by
      have := (List.getElem?_eq_some_iff.1 hj).1
      simpa using this
    rw [hget j hjl] at hj
    exact hj
  · obtain ⟨j, hj, rfl⟩ := List.mem_map.1 hu
    obtain ⟨u, hu', h1⟩ := hsome j (List.mem_range.1 hj)
    simp only [hu', Option.getD_some]
    exact h1

theorem ownsRow_zero {w : World} {base b : Nat} (hb : base ≤ b) (h : w.heap[b]? = some (.cells #[] 28 (0, 0))) : w.ownsRow base 28 3 (.slice (some ⟨b, 0, none⟩) 0 0) 0 [] :=
  ⟨rfl, .inr ⟨b, 0, #[], rfl, hb, h, Nat.le_refl _, by unfold maxLen; omega, rfl, rfl⟩⟩

theorem step_append_cos {w : World} {ops : Array Oper} {o : Oper} {a : Act} {K : Act → World → Prop} {Q : Exit → Act → World → Prop} {E : Prop} (hgd : o.guard = none) (s x : Operand)
    (ho : o.op = .call { callee := .builtin .append, args := #[s, x], argTypes := #[24, 24] }) (base b : Nat) (hs : a.eval s = .slice (some ⟨b, 0, none⟩) 0 0)
    (hb : base ≤ b) (hblk : w.heap[b]? = some (.cells #[] 28 (0, 0))) (lo hi : Nat) (A : Option Addr) (m c : Nat) (cs : List Co) (hx : a.eval x = .slice A m c) (hm : m = cs.length) (hz : CosAt w lo hi (.slice A cs.length c) cs) (hn : m ≤ 1048576) (hbase : base ≤ w.heap.size)
    (h : ∀ VA VC w' news, w'.ownsRow base 28 3 (.slice VA m VC) m news → CosNews w lo hi news cs → w.grownBy w' (some b) → K (a.put o.dst (.slice VA m VC)) w') :
    if Region.wanted o (yielded ops a.tmps) = true then Oper.wp Try.prog o a w K Q else E := by
  have hw : Region.wanted o (yielded ops a.tmps) = true := by simp [Region.wanted, hgd]
  rw [if_pos hw]
  subst hm
  obtain ⟨i0, hi0, hz0, hz1, hz2⟩ := info_parts infoCoercionW
  have hown := ownsRow_zero hb hblk
  rcases A with _ | ad
  · have hcs : cs = [] := by
      rcases cs with _ | ⟨z, zs⟩
      · rfl
      · obtain ⟨b, off, A2, cap2, e, _⟩ := hz.at_ (k := 0) (by simp)
        cases e
    subst hcs
    have hrun := run_append_owned_none' (P := Try.prog) (w := w) base 24 o.type 28 i0 3 Try.underlying24 hi0 _ _ _ c hown
    unfold Oper.wp
    rw [List.length_nil] at hx
    simp [execOp, ho, resolve, invoke, builtin, hs, hx, hrun, Result.andThen]
    exact h _ _ _ [] hown ⟨fun _ => undef, rfl, fun i hi => absurd hi (by simp)⟩ ⟨rfl, rfl, rfl, Nat.le_refl _, fun _ _ _ => rfl⟩
  · obtain ⟨news, hnews, hcells, hone⟩ := cos_news hz
    obtain ⟨mv, hl, hrest⟩ := hnews
    refine wp_append_own w s x 24 ho base 28 i0 _ 3 40 Try.underlying24 hi0 hz0 hz1 hz2 rfl (by omega) _ 0 [] hs hown ad cs.length c news hx hl hcells hone (by unfold maxLen; omega) (by omega) hbase ?_
    intro v' w' h1 h2 _
    obtain ⟨VA, VC, rfl⟩ := owns_form h1
    rw [Nat.zero_add, List.nil_append] at h1
    rw [Nat.zero_add]
    exact h VA VC w' news h1 ⟨mv, hl, hrest⟩ h2
end Go.Proofs.Ytplpnammboofiaa
