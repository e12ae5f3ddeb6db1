/-
  The contracts of the model's l1Bad and l1Some: some types of few numbers.
-/
import Derived.Test.YtplpnammboofiaaQdrt
import Derived.Test.YtplpnammboofiaaJ3
namespace Go.Proofs.Ytplpnammboofiaa
open Go.RowKit

/-- What is known of drawn types that may be no types. -/
def BdOk (t : Ty) : Prop := t.sizes.length ≤ 20 ∧ t.cos.length ≤ 20 ∧ ∀ c ∈ t.cos, c.map.length ≤ 20
theorem BdOk.bulk {t : Ty} (h : BdOk t) : t.bulk ≤ 1048576 := by
  obtain ⟨h1, h2, h3⟩ := h
  have key : ∀ cs : List Co, (∀ c ∈ cs, c.map.length ≤ 20) → (cs.map fun c => c.map.length).sum ≤ 20 * cs.length := by
    intro cs
    induction cs with
    | nil => intro _; simp
    | cons a r ih =>
      intro h
      have := h a (by simp)
      have := ih fun c hc => h c (by simp [hc])
      simp only [List.map_cons, List.sum_cons, List.length_cons]
      omega
  have := key t.cos h3
  unfold Ty.bulk mapsLen
  rw [List.take_length]
  omega

theorem wpl_ints {w : World} {ops : Array Oper} {rest : List Oper} {o : Oper} {a : Act} {Q : Exit → Act → World → Prop} (hgd : o.guard = none) (s x : Operand)
    (ho : o.op = .call { callee := .builtin .append, args := #[s, x], argTypes := #[23, 23] }) (base : Nat) (v : Value) (n1 : Nat) (xs : List Value) (hs : a.eval s = v)
    (hown : w.ownsRow base 3 1 v n1 xs) (lo hi : Nat) (A : Option Addr) (m c : Nat) (zs : List Int) (hx : a.eval x = .slice A m c) (hm : m = zs.length) (hz : IntsAt w lo hi (.slice A zs.length c) zs) (hn : n1 + m ≤ 1048576) (hbase : base ≤ w.heap.size)
    (h : ∀ VA VC w', w'.ownsRow base 3 1 (.slice VA (n1 + m) VC) (n1 + m) (xs ++ zs.map (Value.int .i64)) → w.grownBy w' v.ownBlock → wpList Try.prog ops Q rest (a.put o.dst (.slice VA (n1 + m) VC)) w') : wpList Try.prog ops Q (o :: rest) a w := by
  subst hm
  obtain ⟨i0, hi0, hz0, hz1, hz2⟩ := info_parts Try.infoInt
  rcases A with _ | ad
  · have hcs : zs = [] := by
      rcases zs with _ | ⟨z, zs⟩
      · rfl
      · obtain ⟨b, off, e, _⟩ := hz.at_ (k := 0) (by simp)
        cases e
    subst hcs
    obtain ⟨VA, VC, rfl⟩ := owns_form hown
    refine wpList_append_own_none' hgd s x 23 ho base 3 i0 1 Try.underlying23 hi0 _ n1 xs c hs hown hx ?_
    have this := h VA VC w (by simpa using hown) ⟨rfl, rfl, rfl, Nat.le_refl _, fun _ _ _ => rfl⟩
    simpa using this
  · refine wpList_append_own w hgd s x 23 ho base 3 i0 _ 1 8 Try.underlying23 hi0 hz0 hz1 hz2 rfl (by omega) _ n1 xs hs hown ad zs.length c (zs.map (Value.int .i64)) hx (by simp) hz.cells (by intro u hu; obtain ⟨z, _, rfl⟩ := List.mem_map.1 hu; rfl) (by unfold maxLen; omega) (by omega) hbase ?_
    intro v' w' h1 h2 _
    obtain ⟨VA, VC, rfl⟩ := owns_form h1
    exact h VA VC w' h1 h2

theorem wpl_cos {w : World} {ops : Array Oper} {rest : List Oper} {o : Oper} {a : Act} {Q : Exit → Act → World → Prop} (hgd : o.guard = none) (s x : Operand)
    (ho : o.op = .call { callee := .builtin .append, args := #[s, x], argTypes := #[24, 24] }) (base : Nat) (v : Value) (n1 : Nat) (xs : List Value) (hs : a.eval s = v)
    (hown : w.ownsRow base 28 3 v n1 xs) (lo hi : Nat) (A : Option Addr) (m c : Nat) (cs : List Co) (hx : a.eval x = .slice A m c) (hm : m = cs.length) (hz : CosAt w lo hi (.slice A cs.length c) cs) (hn : n1 + m ≤ 1048576) (hbase : base ≤ w.heap.size)
    (h : ∀ VA VC w' news, w'.ownsRow base 28 3 (.slice VA (n1 + m) VC) (n1 + m) (xs ++ news) → CosNews w lo hi news cs → w.grownBy w' v.ownBlock → wpList Try.prog ops Q rest (a.put o.dst (.slice VA (n1 + m) VC)) w') : wpList Try.prog ops Q (o :: rest) a w := by
  subst hm
  obtain ⟨i0, hi0, hz0, hz1, hz2⟩ := info_parts infoCoercionW
  rcases A with _ | ad
  · have hcs : cs = [] := by
      rcases cs with _ | ⟨z, zs⟩
      · rfl
      · obtain ⟨b, off, A2, cap2, e, _⟩ := hz.at_ (k := 0) (by simp)
        cases e
    subst hcs
    obtain ⟨VA, VC, rfl⟩ := owns_form hown
    refine wpList_append_own_none' hgd s x 24 ho base 28 i0 3 Try.underlying24 hi0 _ n1 xs c hs hown hx ?_
    have this := h VA VC w [] (by simpa using hown) ⟨fun _ => undef, rfl, fun i hi => absurd hi (by simp)⟩ ⟨rfl, rfl, rfl, Nat.le_refl _, fun _ _ _ => rfl⟩
    simpa using this
  · obtain ⟨news, hnews, hcells, hone⟩ := cos_news hz
    obtain ⟨mv, hl, hrest⟩ := hnews
    refine wpList_append_own w hgd s x 24 ho base 28 i0 _ 3 40 Try.underlying24 hi0 hz0 hz1 hz2 rfl (by omega) _ n1 xs hs hown ad cs.length c news hx hl hcells hone (by unfold maxLen; omega) (by omega) hbase ?_
    intro v' w' h1 h2 _
    obtain ⟨VA, VC, rfl⟩ := owns_form h1
    exact h VA VC w' news h1 ⟨mv, hl, hrest⟩ h2

theorem CosNews.app2 {w : World} {lo hi : Nat} {n1 n2 : List Value} {c1 c2 : List Co} (h1 : CosNews w lo hi n1 c1) (h2 : CosNews w lo hi n2 c2) : CosNews w lo hi (n1 ++ n2) (c1 ++ c2) := by
  obtain ⟨m1, l1, g1⟩ := h1
  obtain ⟨m2, l2, g2⟩ := h2
  refine ⟨fun i => if i < c1.length then m1 i else m2 (i - c1.length), by rw [List.length_append, List.length_append, l1, l2]; omega, fun i hi => ?_⟩
  by_cases h : i < c1.length
  · obtain ⟨a, b, c, d⟩ := g1 i h
    have e : (c1 ++ c2)[i] = c1[i] := List.getElem_append_left h
    rw [List.getElem?_append_left (by omega), List.getElem?_append_left (by omega), List.getElem?_append_left (by omega), e]
    dsimp only
    rw [if_pos h]
    exact ⟨a, b, c, d⟩
  · rw [List.length_append] at hi
    obtain ⟨a, b, c, d⟩ := g2 (i - c1.length) (by omega)
    have e : (c1 ++ c2)[i]'(by rw [List.length_append]; exact hi) = c2[i - c1.length] := List.getElem_append_right (by omega)
    rw [List.getElem?_append_right (by omega), List.getElem?_append_right (by omega), List.getElem?_append_right (by omega), e]
    dsimp only
    rw [if_neg h, l1, show i * 3 - c1.length * 3 = (i - c1.length) * 3 by omega, show i * 3 + 1 - c1.length * 3 = (i - c1.length) * 3 + 1 by omega, show i * 3 + 2 - c1.length * 3 = (i - c1.length) * 3 + 2 by omega]
    exact ⟨a, b, c, d⟩

theorem CosNews.more {w : World} {lo hi lo' hi' : Nat} {news : List Value} {cs : List Co} (h : CosNews w lo hi news cs) (h1 : lo' ≤ lo) (h2 : hi ≤ hi') : CosNews w lo' hi' news cs := by
  obtain ⟨mv, hl, hn⟩ := h
  exact ⟨mv, hl, fun i hi => by obtain ⟨a, b, c, d⟩ := hn i hi; exact ⟨a, b, c, d.more h1 h2⟩⟩
theorem CosNews.keep2 {w w' : World} {lo hi : Nat} {news : List Value} {cs : List Co} (h : CosNews w lo hi news cs) (hk : ∀ k, lo ≤ k → k < hi → w'.heap[k]? = w.heap[k]?) : CosNews w' lo hi news cs := by
  obtain ⟨mv, hl, hn⟩ := h
  exact ⟨mv, hl, fun i hi => by obtain ⟨a, b, c, d⟩ := hn i hi; exact ⟨a, b, c, d.keep hk⟩⟩
theorem cosAt_news2 {u : World} {N lo hi L : Nat} {v : Value} {cs : List Co} {news : List Value} (hown : u.ownsRow N 28 3 v cs.length news) (hn : CosNews u lo hi news cs)
    (hwf : ∀ i, i < cs.length → I64 (cs.getD i default).src ∧ I64 (cs.getD i default).dst) (hL1 : L ≤ lo) (hLN : L ≤ N) (hh : hi ≤ u.heap.size) : CosAt u L u.heap.size v cs := by
  have hlt := owns_lt hown
  obtain ⟨hlen, ⟨rfl, h0⟩ | ⟨g, cap, cur, rfl, hg, hh2, hc1, hc2, hcs, htake⟩⟩ := hown
  · exact ⟨none, 0, by rw [h0], by omega, Nat.zero_le _, fun h => absurd h (by omega)⟩
  obtain ⟨mv, hl, hnw⟩ := hn
  have hrow : Row u g 28 cur.toList := by unfold Row; simpa using hh2
  have cell : ∀ j, j < cs.length * 3 → u.cell? ⟨g, j, none⟩ = news[j]? := by
    intro j hj
    rw [← htake, List.getElem?_take_of_lt hj]
    exact hrow.cell j
  refine ⟨some ⟨g, 0, none⟩, cap, rfl, hc1, hc2, fun _ => ⟨g, 0, rfl, by omega, (hlt g rfl).2, fun k hk => ?_⟩⟩
  rw [Nat.zero_add]
  obtain ⟨n0, n1, n2, n3⟩ := hnw k hk
  have e2 : cs.getD k default = cs[k] := by rw [List.getD_eq_getElem?_getD, List.getElem?_eq_getElem hk]; rfl
  have hw := hwf k hk
  rw [e2] at hw ⊢
  refine ⟨.int .i64 cs[k].src, .int .i64 cs[k].dst, mv k, ?_, ?_, ?_, rfl, rfl, hw.1, hw.2, n3.more (by omega) hh⟩
  · rw [cell _ (by omega), n0]
  · rw [cell _ (by omega), n1]
  · rw [cell _ (by omega), n2]

theorem ints_lit4 (w : World) (a b c d : Int) (h : ∀ z ∈ [a, b, c, d], I64 z) : IntsAt (w.alloc (.cells #[.int .i64 a, .int .i64 b, .int .i64 c, .int .i64 d] 3)) w.heap.size (w.heap.size + 1) (.slice (some ⟨w.heap.size, 0, none⟩) 4 4) [a, b, c, d] :=
  (Row.new w 3 ([a, b, c, d].map (Value.int .i64))).ints (lo := w.heap.size) (hi := w.heap.size + 1) (cap := 4) h (Nat.le_refl _) (by omega) (Nat.le_refl _) (by unfold maxLen; omega)
theorem ints_lit1 (w : World) (a : Int) (h : I64 a) : IntsAt (w.alloc (.cells #[.int .i64 a] 3)) w.heap.size (w.heap.size + 1) (.slice (some ⟨w.heap.size, 0, none⟩) 1 1) [a] :=
  (Row.new w 3 ([a].map (Value.int .i64))).ints (lo := w.heap.size) (hi := w.heap.size + 1) (cap := 1) (fun z hz => by simp at hz; rw [hz]; exact h) (Nat.le_refl _) (by omega) (Nat.le_refl _) (by unfold maxLen; omega)
theorem cos_lit1 (w : World) (p z : Int) (hp : I64 p) (hz : I64 z) : CosAt ((w.alloc (.cells #[.int .i64 0] 3)).alloc (.cells #[.int .i64 p, .int .i64 z, .slice (some ⟨w.heap.size, 0, none⟩) 1 1] 28)) w.heap.size (w.heap.size + 2) (.slice (some ⟨w.heap.size + 1, 0, none⟩) 1 1) [⟨p, z, [0]⟩] := by
  have hr := Row.new (w.alloc (.cells #[.int .i64 0] 3)) 28 [.int .i64 p, .int .i64 z, .slice (some ⟨w.heap.size, 0, none⟩) 1 1]
  rw [World.size_alloc] at hr
  refine ⟨_, 1, rfl, Nat.le_refl _, by unfold maxLen; omega, fun _ => ⟨w.heap.size + 1, 0, rfl, by omega, by omega, fun k hk => ?_⟩⟩
  obtain rfl : k = 0 := by simp at hk; omega
  refine ⟨.int .i64 p, .int .i64 z, .slice (some ⟨w.heap.size, 0, none⟩) 1 1, hr.cell 0, hr.cell 1, hr.cell 2, rfl, rfl, hp, hz, ?_⟩
  exact ((ints_lit1 w 0 (by unfold I64; omega)).keep fun k _ hk => Below.heap_alloc _ _ k (by simp; omega)).more (Nat.le_refl _) (by omega)
theorem rdGrown_alloc {w w' : World} {b : Nat} (h : w.grownBy w' (some b)) (o : Obj) : w.grownBy (w'.alloc o) (some b) :=
  ⟨h.os, h.tape, h.output, Nat.le_trans h.size (by simp), fun k hk hne => (Below.heap_alloc w' o k (Nat.lt_of_lt_of_le hk h.size)).trans (h.block k hk hne)⟩

set_option maxRecDepth 100000 in
set_option maxHeartbeats 3000000 in
theorem bad_any (b B lo hi : Nat) (sv cv : Value) (t : Ty) (w : World) (h : RdAt w b B) (hB : B ≤ 900000) (hv : TyAt w lo hi sv cv t) (hlo : b < lo) (hh : hi ≤ w.heap.size) (hlh : lo ≤ w.heap.size) (hd : DrOk t) :
    Calls Try.prog 72 #[.pointer (some ⟨b, 0, none⟩), .agg #[sv, cv]] w fun e w' => ∃ v l t', e = .returned (.agg #[v, l]) ∧ RdAt w' b (B + 10) ∧ w.grownBy w' (some b) ∧ TyAt w' lo w'.heap.size v l t' ∧ BdOk t' := by
  have HV0 := Lib.hid hv
  obtain ⟨A, cap, rfl, hl1, hm1, _⟩ := hv.1.form
  obtain ⟨C, cbp, rfl, hl2, hm2, _⟩ := hv.2.form
  obtain ⟨d1, d2, d3⟩ := hd
  have hbl := h.lt
  obtain ⟨W1, hW1⟩ : ∃ u, u = (w.alloc (.cells #[.slice A t.sizes.length cap, .slice C t.cos.length cbp] 26)).alloc (.cells #[.slice none 0 0, .slice none 0 0] 26) := ⟨_, rfl⟩
  have hb1 : Below w.heap.size w W1 := by rw [hW1]; exact ((Below.refl _ _).alloc (Nat.le_refl _) _).alloc (by simp) _
  have hs1 : W1.heap.size = w.heap.size + 2 := by rw [hW1]; simp
  have hrt : Row W1 w.heap.size 26 [.slice A t.sizes.length cap, .slice C t.cos.length cbp] := by rw [hW1]; exact (Row.new w 26 _).alloc _
  have hrr : Row W1 (w.heap.size + 1) 26 [.slice none 0 0, .slice none 0 0] := by
    rw [hW1]
    have h := Row.new (w.alloc (.cells #[.slice A t.sizes.length cap, .slice C t.cos.length cbp] 26)) 26 [.slice none 0 0, .slice none 0 0]
    rwa [World.size_alloc] at h
  have HRd1 := Lib.hid (h.keep (w' := W1) fun g hg => hb1.block g (by omega))
  have HG1 := Lib.hid (rdGrown_below (b := b) hb1)
  have HV1 := Lib.hid (HV0.out.below hb1 hh)
  have HRT := Lib.hid hrt
  have HRR := Lib.hid hrr
  have hs1a : w.heap.size + 2 ≤ W1.heap.size := by omega
  clear h hb1 hrt hrr hs1 hv HV0
  go_enter Try.func72, Try.ntmps72
  go_wp2_with fail
  rw [← hW1]
  clear hW1
  refine (pick_any b B 30 _ HRd1.out (by omega) (by omega)).mono ?_
  rintro e w2 ⟨x, rfl, hx, _, hrd2, hg2, hs2⟩
  have hbW : b < W1.heap.size := by omega
  have hk2 : ∀ g, lo ≤ g → g < W1.heap.size → w2.heap[g]? = W1.heap[g]? := fun g h1 h2 => hg2.block g h2 (fun e => by simp only [Option.some.injEq] at e; omega)
  have HRd2 := Lib.hid hrd2
  have HG2 := Lib.hid (rdGrown_trans HG1.out hg2)
  have HRT2 := Lib.hid (HRT.out.keep (hk2 _ (by omega) (by omega)))
  have HRR2 := Lib.hid (HRR.out.keep (hk2 _ (by omega) (by omega)))
  have HV2 := Lib.hid (HV1.out.keep (w' := w2) fun g h1 h2 => hk2 g h1 (by omega))
  have hs2a : w.heap.size + 2 ≤ w2.heap.size := by omega
  clear hrd2 hg2 hs2 hx hk2 HRd1 HG1 HRT HRR HV1
  have t0 := HRT2.out.cell 0
  have t1 := HRT2.out.cell 1
  have tf0 := HRT2.out.frozen 0
  have tf1 := HRT2.out.frozen 1
  have r0 := HRR2.out.cell 0
  have r1 := HRR2.out.cell 1
  have rf0 := HRR2.out.frozen 0
  have rf1 := HRR2.out.frozen 1
  simp only [List.getElem?_cons_zero, List.getElem?_cons_succ] at t0 t1 r0 r1
  have fin : Hid (∀ (u : World) (v l : Value) (t' : Ty), RdAt u b (B + 10) → w.grownBy u (some b) → TyAt u lo u.heap.size v l t' → BdOk t' → w.heap.size + 2 ≤ u.heap.size →
      RdAt ((u.setCell ⟨w.heap.size + 1, 0, none⟩ v).setCell ⟨w.heap.size + 1, 1, none⟩ l) b (B + 10) ∧ w.grownBy ((u.setCell ⟨w.heap.size + 1, 0, none⟩ v).setCell ⟨w.heap.size + 1, 1, none⟩ l) (some b) ∧ True) := fun u v l t' a1 a2 _ _ _ => by
    have hset : ∀ g, g ≠ w.heap.size + 1 → ((u.setCell ⟨w.heap.size + 1, 0, none⟩ v).setCell ⟨w.heap.size + 1, 1, none⟩ l).heap[g]? = u.heap[g]? := fun g hg => (Below.heap_setCell _ _ _ _ (by dsimp only; omega)).trans (Below.heap_setCell _ _ _ _ (by dsimp only; omega))
    exact ⟨a1.keep fun g hg => hset g (by omega), ⟨a2.os, a2.tape, a2.output, by have := a2.size; simpa [World.setCell] using this, fun g hg hne => (hset g (by omega)).trans (a2.block g hg hne)⟩, trivial⟩
  clear fin
  have hlt0 : w.heap.size < w2.heap.size := by omega
  have hlt1 : w.heap.size + 1 < w2.heap.size := by omega
  by_cases hx0 : x = 0
  · subst hx0
    have HL : Hid ((w2.alloc (.cells #[] 3)).ownsRow (w.heap.size + 2) 3 1 (.slice (some ⟨w2.heap.size, 0, none⟩) 0 0) 0 []) := World.ownsRow_lit w2 #[] 0 (by omega) (by unfold maxLen; omega) rfl
    have HV3 : Hid (IntsAt (w2.alloc (.cells #[] 3)) lo hi (.slice A t.sizes.length cap) t.sizes) := HV2.out.1.keep fun g _ hg => Below.heap_alloc w2 _ g (by omega)
    go_wp2_with (at_builtin; refine wpl_ints rfl (.tmp 9) (.tmp 11) rfl (w.heap.size + 2) (.slice (some ⟨w2.heap.size, 0, none⟩) 0 0) 0 [] rfl HL.out lo hi A t.sizes.length cap t.sizes rfl rfl HV3.out (by omega) (by simp; omega) ?_; intro VA VC w3 ho3 hg3)
    have hs3 : w2.heap.size + 1 ≤ w3.heap.size := by have := hg3.size; simpa using this
    have hk3 : ∀ g, g < w2.heap.size → w3.heap[g]? = w2.heap[g]? := fun g hg => (hg3.block g (by simp; omega) (fun e => by simp [Value.ownBlock] at e; omega)).trans (Below.heap_alloc w2 _ g hg)
    have HO3 := Lib.hid (show w3.ownsRow (w.heap.size + 2) 3 1 (.slice VA t.sizes.length VC) t.sizes.length (t.sizes.map (Value.int .i64)) from by simpa using ho3)
    have HW3 : Hid (w3.os = w2.os ∧ w3.tape = w2.tape ∧ w3.output = w2.output) := ⟨hg3.os, hg3.tape, hg3.output⟩
    have HK3 := Lib.hid hk3
    have h4wf : ∀ z ∈ ([0, 5, -1, 1] : List Int), I64 z := by intro z hz; simp at hz; unfold I64; omega
    clear ho3 hg3 hk3
    refine (num_any b (B + 1) w3.heap.size (w3.heap.size + 1) _ [0, 5, -1, 1] _ (HRd2.out.keep fun g hg => (Below.heap_alloc w3 _ g (by omega)).trans (HK3.out g (by omega))) (by omega) (ints_lit4 w3 0 5 (-1) 1 h4wf) (by omega) (by simp) (by simp) (by simp)).mono ?_
    rintro e w4 ⟨z, hz, rfl, hrd4, hg4, hs4⟩
    simp only [World.size_alloc] at hs4
    have hz64 : I64 z := h4wf z hz
    have hk4 : ∀ g, b < g → g < w3.heap.size → w4.heap[g]? = w3.heap[g]? := fun g h1 h2 => (hg4.block g (by simp; omega) (fun e => by simp only [Option.some.injEq] at e; omega)).trans (Below.heap_alloc w3 _ g h2)
    have HT4 := Lib.hid (HRT2.out.keep ((hk4 _ (by omega) (by omega)).trans (HK3.out _ (by omega))))
    have HR4 := Lib.hid (HRR2.out.keep ((hk4 _ (by omega) (by omega)).trans (HK3.out _ (by omega))))
    have HO4 := Lib.hid (ownsRow_keep1 HO3.out (w' := w4.alloc (.cells #[.int .i64 z] 3)) fun g hg => by
      have := owns_lt HO3.out g hg
      exact (Below.heap_alloc w4 _ g (by omega)).trans (hk4 g (by omega) (by omega)))
    have HG4 : Hid (w.grownBy w4 (some b)) := ⟨hg4.os.trans (HW3.out.1.trans HG2.out.os), hg4.tape.trans (HW3.out.2.1.trans HG2.out.tape), hg4.output.trans (HW3.out.2.2.trans HG2.out.output), by omega, fun g h1 hne => (hg4.block g (by simp; omega) hne).trans ((Below.heap_alloc w3 _ g (by omega)).trans ((HK3.out g (by omega)).trans (HG2.out.block g h1 hne)))⟩
    have HRd4 := Lib.hid hrd4
    have HC4 := Lib.hid (HV2.out.2.keep (w' := w4) fun g h1 h2 => (hk4 g (by omega) (by omega)).trans (HK3.out g (by omega)))
    have hsz4 : w3.heap.size + 1 ≤ w4.heap.size := by omega
    clear hrd4 hg4 hk4 hs4 hz t0 t1 tf0 tf1 r0 r1 rf0 rf1 HL HV3
    go_wp2_with (at_builtin; refine wpl_ints rfl (.tmp 12) (.tmp 16) rfl (w.heap.size + 2) (.slice VA t.sizes.length VC) t.sizes.length (t.sizes.map (Value.int .i64)) rfl HO4.out w4.heap.size (w4.heap.size + 1) (some ⟨w4.heap.size, 0, none⟩) 1 1 [z] rfl rfl (ints_lit1 w4 z hz64) (by omega) (by simp; omega) ?_; intro VA5 VC5 w5 ho5 hg5; have hk5 : Hid (∀ g, g < w.heap.size + 2 → w5.heap[g]? = w4.heap[g]?) := (fun g hg => (hg5.block g (by simp; omega) (fun e => by have := (owns_lt HO4.out g e.symm).1; omega)).trans (Below.heap_alloc w4 _ g (by omega))); have hT5 := HT4.out.keep (hk5.out _ (by omega)); have hR5 := HR4.out.keep (hk5.out _ (by omega)); have p0 := hT5.cell 0; have p1 := hT5.cell 1; have pf0 := hT5.frozen 0; have q0 := hR5.cell 0; have q1 := hR5.cell 1; have qf0 := hR5.frozen 0; have qf1 := hR5.frozen 1; simp only [List.getElem?_cons_zero, List.getElem?_cons_succ] at p0 p1 q0 q1; have HO5 := Lib.hid ho5; have hs5 : w4.heap.size + 1 ≤ w5.heap.size := (by have := hg5.size; simpa using this); have HW5 : Hid (w5.os = w4.os ∧ w5.tape = w4.tape ∧ w5.output = w4.output) := ⟨hg5.os, hg5.tape, hg5.output⟩; clear ho5 hg5 hT5 hR5)
    refine bodyPost_ret (v := .agg #[.slice VA5 (t.sizes.length + 1) VC5, .slice C t.cos.length cbp]) (by simp [results, Try.results72, go_sem, q0, q1]) rfl ?_
    have hset : ∀ g, g ≠ w.heap.size → g ≠ w.heap.size + 1 → (((w5.setCell ⟨w.heap.size, 0, none⟩ (.slice VA5 (t.sizes.length + 1) VC5)).setCell ⟨w.heap.size + 1, 0, none⟩ (.slice VA5 (t.sizes.length + 1) VC5)).setCell ⟨w.heap.size + 1, 1, none⟩ (.slice C t.cos.length cbp)).heap[g]? = w5.heap[g]? := fun g h1 h2 => (Below.heap_setCell _ _ _ _ (by dsimp only; omega)).trans ((Below.heap_setCell _ _ _ _ (by dsimp only; omega)).trans (Below.heap_setCell _ _ _ _ (by dsimp only; omega)))
    refine ⟨_, _, ⟨t.sizes ++ [z], t.cos⟩, rfl, (HRd4.out.keep fun g hg => (hset g (by omega) (by omega)).trans (hk5.out g (by omega))).more (by omega), ⟨HW5.out.1.trans HG4.out.os, HW5.out.2.1.trans HG4.out.tape, HW5.out.2.2.trans HG4.out.output, by simp [World.setCell]; omega, fun g h1 hne => (hset g (by omega) (by omega)).trans ((hk5.out g (by omega)).trans (HG4.out.block g h1 hne))⟩, ⟨?_, ?_⟩, by show (t.sizes ++ [z]).length ≤ 20; simp; omega, by show t.cos.length ≤ 20; omega, fun c hc => by have := d3 c hc; omega⟩
    · refine ownsRow.intsAt (lo := lo) (show World.ownsRow _ (w.heap.size + 2) 3 1 (.slice VA5 (t.sizes.length + 1) VC5) (t.sizes ++ [z]).length ((t.sizes ++ [z]).map (Value.int .i64)) from ?_) (fun y hy => ?_) (by omega) (Nat.le_refl _)
      · have e : (t.sizes ++ [z]).length = t.sizes.length + 1 := by simp
        rw [e, List.map_append]
        exact ownsRow_keep1 HO5.out fun g hg => hset g (by have := (owns_lt HO5.out g hg).1; omega) (by have := (owns_lt HO5.out g hg).1; omega)
      · rcases List.mem_append.1 hy with h1 | h1
        · exact IntsAt.wf HV2.out.1 y h1
        · simp at h1; rw [h1]; exact hz64
    · exact (HC4.out.keep fun g h1 h2 => (hset g (by omega) (by omega)).trans (hk5.out g (by omega))).more (Nat.le_refl _) (by simp [World.setCell]; omega)
  have hT0 := HV2
  by_cases hx1 : x = 1
  · subst hx1
    have HL : Hid ((w2.alloc (.cells #[] 28)).ownsRow (w.heap.size + 2) 28 3 (.slice (some ⟨w2.heap.size, 0, none⟩) 0 0) 0 []) := World.ownsRow_lit w2 #[] 0 (by omega) (by unfold maxLen; omega) rfl
    have HV3 : Hid (CosAt (w2.alloc (.cells #[] 28)) lo hi (.slice C t.cos.length cbp) t.cos) := HV2.out.2.keep fun g _ hg => Below.heap_alloc w2 _ g (by omega)
    go_wp2_with (at_builtin; refine wpl_cos rfl (.tmp 21) (.tmp 23) rfl (w.heap.size + 2) (.slice (some ⟨w2.heap.size, 0, none⟩) 0 0) 0 [] rfl HL.out lo hi C t.cos.length cbp t.cos rfl rfl HV3.out (by omega) (by simp; omega) ?_; intro VA VC w3 news ho3 hn3 hg3)
    have hs3 : w2.heap.size + 1 ≤ w3.heap.size := by have := hg3.size; simpa using this
    have hk3 : ∀ g, g < w2.heap.size → w3.heap[g]? = w2.heap[g]? := fun g hg => (hg3.block g (by simp; omega) (fun e => by simp [Value.ownBlock] at e; omega)).trans (Below.heap_alloc w2 _ g hg)
    have HO3 := Lib.hid (show w3.ownsRow (w.heap.size + 2) 28 3 (.slice VA t.cos.length VC) t.cos.length news from by simpa using ho3)
    have HW3 : Hid (w3.os = w2.os ∧ w3.tape = w2.tape ∧ w3.output = w2.output) := ⟨hg3.os, hg3.tape, hg3.output⟩
    have HK3 := Lib.hid hk3
    have HN3 := Lib.hid (hn3.keep2 (w' := w3) fun g h1 h2 => hg3.block g (by simp; omega) (fun e => by simp [Value.ownBlock] at e; omega))
    have h4wf : ∀ z ∈ ([0, 1, 9, -1] : List Int), I64 z := by intro z hz; simp at hz; unfold I64; omega
    clear ho3 hg3 hk3 hn3 t0 t1 tf0 tf1 r0 r1 rf0 rf1 HL HV3
    refine (pick_any b (B + 1) 3 _ (HRd2.out.keep fun g hg => HK3.out g (by omega)) (by omega) (by omega)).mono ?_
    rintro e w4 ⟨p, rfl, hp', _, hrd4, hg4, hs4⟩
    have hp : (p : Int) < 3 := hp' (by omega)
    have hk4 : ∀ g, b < g → g < w3.heap.size → w4.heap[g]? = w3.heap[g]? := fun g h1 h2 => hg4.block g h2 (fun e => by simp only [Option.some.injEq] at e; omega)
    have HRd4 := Lib.hid hrd4
    have HK4 := Lib.hid hk4
    have hg24 : Hid (w4.os = w2.os ∧ w4.tape = w2.tape ∧ w4.output = w2.output ∧ ∀ g, g < w2.heap.size → g ≠ b → w4.heap[g]? = w2.heap[g]?) := ⟨hg4.os.trans HW3.out.1, hg4.tape.trans HW3.out.2.1, hg4.output.trans HW3.out.2.2, fun g h1 h2 => (hg4.block g (by omega) (fun e => by simp only [Option.some.injEq] at e; omega)).trans (HK3.out g h1)⟩
    have hs4a : w3.heap.size ≤ w4.heap.size := Nat.le_of_eq hs4.symm
    have hs4b : w4.heap.size ≤ w3.heap.size := Nat.le_of_eq hs4
    clear hrd4 hg4 hk4 hs4 hp'
    go_wp2_with fail
    refine (num_any b (B + 2) w4.heap.size (w4.heap.size + 1) _ [0, 1, 9, -1] _ (HRd4.out.keep fun g hg => Below.heap_alloc w4 _ g (by omega)) (by omega) (ints_lit4 w4 0 1 9 (-1) h4wf) (by omega) (by simp) (by simp) (by simp)).mono ?_
    rintro e w5 ⟨z, hz, rfl, hrd5, hg5, hs5⟩
    simp only [World.size_alloc] at hs5
    have hz64 : I64 z := h4wf z hz
    have hp64 : I64 (p : Int) := by unfold I64; omega
    have hk5 : ∀ g, b < g → g < w4.heap.size → w5.heap[g]? = w4.heap[g]? := fun g h1 h2 => (hg5.block g (by simp; omega) (fun e => by simp only [Option.some.injEq] at e; omega)).trans (Below.heap_alloc w4 _ g h2)
    have hs5a : w4.heap.size + 1 ≤ w5.heap.size := by omega
    have HRd5 := Lib.hid hrd5
    have HK5 := Lib.hid hk5
    have hg25 : Hid (w.grownBy w5 (some b)) := ⟨hg5.os.trans (hg24.out.1.trans HG2.out.os), hg5.tape.trans (hg24.out.2.1.trans HG2.out.tape), hg5.output.trans (hg24.out.2.2.1.trans HG2.out.output), by omega, fun g h1 hne => (hg5.block g (by simp; omega) hne).trans ((Below.heap_alloc w4 _ g (by omega)).trans ((hg24.out.2.2.2 g (by omega) (fun e => hne (by rw [e]))).trans (HG2.out.block g h1 hne)))⟩
    have HT5 := Lib.hid (HRT2.out.keep ((hk5 _ (by omega) (by omega)).trans (hg24.out.2.2.2 _ (by omega) (by omega))))
    have HR5 := Lib.hid (HRR2.out.keep ((hk5 _ (by omega) (by omega)).trans (hg24.out.2.2.2 _ (by omega) (by omega))))
    have HO6 := Lib.hid (ownsRow_keep1 HO3.out (w' := (w5.alloc (.cells #[.int .i64 0] 3)).alloc (.cells #[.int .i64 (p : Nat), .int .i64 z, .slice (some ⟨w5.heap.size, 0, none⟩) 1 1] 28)) fun g hg => by
      have := owns_lt HO3.out g hg
      exact (Below.heap_alloc _ _ g (by simp; omega)).trans ((Below.heap_alloc w5 _ g (by omega)).trans ((HK5.out g (by omega) (by omega)).trans (HK4.out g (by omega) (by omega)))))
    have HS5 : Hid (IntsAt w5 lo hi (.slice A t.sizes.length cap) t.sizes) := HV2.out.1.keep fun g h1 h2 => (HK5.out g (by omega) (by omega)).trans (hg24.out.2.2.2 g (by omega) (by omega))
    have HN5 : Hid (CosNews w5 lo hi news t.cos) := HN3.out.keep2 fun g h1 h2 => (HK5.out g (by omega) (by omega)).trans (HK4.out g (by omega) (by omega))
    clear hrd5 hg5 hk5 hs5 hz
    go_wp2_with (at_builtin; refine wpl_cos rfl (.tmp 24) (.tmp 32) rfl (w.heap.size + 2) (.slice VA t.cos.length VC) t.cos.length news rfl HO6.out w5.heap.size (w5.heap.size + 2) (some ⟨w5.heap.size + 1, 0, none⟩) 1 1 [⟨(p : Nat), z, [0]⟩] rfl rfl (cos_lit1 w5 _ _ hp64 hz64) (by omega) (by simp; omega) ?_; intro VA7 VC7 w7 n2 ho7 hn7 hg7; have hk7 : Hid (∀ g, g < w.heap.size + 2 → w7.heap[g]? = w5.heap[g]?) := (fun g hg => (hg7.block g (by simp; omega) (fun e => by have := (owns_lt HO6.out g e.symm).1; omega)).trans ((Below.heap_alloc _ _ g (by simp; omega)).trans (Below.heap_alloc w5 _ g (by omega)))); have hT7 := HT5.out.keep (hk7.out _ (by omega)); have hR7 := HR5.out.keep (hk7.out _ (by omega)); have p0 := hT7.cell 0; have p1 := hT7.cell 1; have pf1 := hT7.frozen 1; have q0 := hR7.cell 0; have q1 := hR7.cell 1; have qf0 := hR7.frozen 0; have qf1 := hR7.frozen 1; simp only [List.getElem?_cons_zero, List.getElem?_cons_succ] at p0 p1 q0 q1; have HO7 := Lib.hid ho7; have hs7 : w5.heap.size + 2 ≤ w7.heap.size := (by have := hg7.size; simpa using this); have HW7 : Hid (w7.os = w5.os ∧ w7.tape = w5.tape ∧ w7.output = w5.output) := ⟨hg7.os, hg7.tape, hg7.output⟩; have HN7 := Lib.hid (hn7.keep2 (w' := w7) fun g h1 h2 => hg7.block g (by simp; omega) (fun e => by have h8 := owns_lt HO3.out g e.symm; omega)); clear ho7 hn7 hg7 hT7 hR7)
    refine bodyPost_ret (v := .agg #[.slice A t.sizes.length cap, .slice VA7 (t.cos.length + 1) VC7]) (by simp [results, Try.results72, go_sem, q0, q1]) rfl ?_
    have hset : ∀ g, g ≠ w.heap.size → g ≠ w.heap.size + 1 → (((w7.setCell ⟨w.heap.size, 1, none⟩ (.slice VA7 (t.cos.length + 1) VC7)).setCell ⟨w.heap.size + 1, 0, none⟩ (.slice A t.sizes.length cap)).setCell ⟨w.heap.size + 1, 1, none⟩ (.slice VA7 (t.cos.length + 1) VC7)).heap[g]? = w7.heap[g]? := fun g h1 h2 => (Below.heap_setCell _ _ _ _ (by dsimp only; omega)).trans ((Below.heap_setCell _ _ _ _ (by dsimp only; omega)).trans (Below.heap_setCell _ _ _ _ (by dsimp only; omega)))
    refine ⟨_, _, ⟨t.sizes, t.cos ++ [⟨(p : Nat), z, [0]⟩]⟩, rfl, (HRd5.out.keep fun g hg => (hset g (by omega) (by omega)).trans (hk7.out g (by omega))).more (by omega), ⟨HW7.out.1.trans hg25.out.os, HW7.out.2.1.trans hg25.out.tape, HW7.out.2.2.trans hg25.out.output, by simp [World.setCell]; omega, fun g h1 hne => (hset g (by omega) (by omega)).trans ((hk7.out g (by omega)).trans (hg25.out.block g h1 hne))⟩, ⟨?_, ?_⟩, by show t.sizes.length ≤ 20; omega, by show (t.cos ++ [_]).length ≤ 20; simp; omega, fun c hc => ?_⟩
    · exact (HS5.out.keep fun g h1 h2 => (hset g (by omega) (by omega)).trans (hk7.out g (by omega))).more (Nat.le_refl _) (by simp [World.setCell]; omega)
    · have e : (t.cos ++ [(⟨(p : Nat), z, [0]⟩ : Co)]).length = t.cos.length + 1 := by simp
      have hN := ((HN5.out.keep2 (w' := ((w7.setCell ⟨w.heap.size, 1, none⟩ (.slice VA7 (t.cos.length + 1) VC7)).setCell ⟨w.heap.size + 1, 0, none⟩ (.slice A t.sizes.length cap)).setCell ⟨w.heap.size + 1, 1, none⟩ (.slice VA7 (t.cos.length + 1) VC7)) fun g h1 h2 => (hset g (by omega) (by omega)).trans (hk7.out g (by omega))).more (Nat.le_refl _) (by omega)).app2 ((HN7.out.keep2 fun g h1 h2 => hset g (by omega) (by omega)).more (lo' := lo) (hi' := w5.heap.size + 2) (by omega) (Nat.le_refl _))
      refine cosAt_news2 (N := w.heap.size + 2) (by rw [e]; exact ownsRow_keep1 HO7.out fun g hg => hset g (by have := (owns_lt HO7.out g hg).1; omega) (by have := (owns_lt HO7.out g hg).1; omega)) hN (fun i hi => ?_) (Nat.le_refl _) (by omega) (by simp [World.setCell]; omega)
      by_cases h1 : i < t.cos.length
      · rw [List.getD_eq_getElem?_getD, List.getElem?_append_left h1, ← List.getD_eq_getElem?_getD]
        have := CosAt.wf HV2.out.2 i h1
        exact ⟨this.1, this.2.1⟩
      · have e1 : i = t.cos.length := by rw [e] at hi; omega
        subst e1
        rw [List.getD_eq_getElem?_getD, List.getElem?_append_right (Nat.le_refl _)]
        simp
        exact ⟨hp64, hz64⟩
    · rcases List.mem_append.1 hc with h1 | h1
      · have := d3 c h1; omega
      · simp at h1; rw [h1]; simp
  by_cases hx2 : x = 2
  · subst hx2
    go_wp2
    refine bodyPost_ret (v := .agg #[.slice (some ⟨w2.heap.size, 0, none⟩) 0 0, .slice C t.cos.length cbp]) (by simp [results, Try.results72, go_sem, r0, r1, hlt1]) rfl ?_
    have hset : ∀ g, g ≠ w.heap.size → g ≠ w.heap.size + 1 → g < w2.heap.size → ((((w2.setCell ⟨w.heap.size, 0, none⟩ (.slice (some ⟨w2.heap.size, 0, none⟩) 0 0)).setCell ⟨w.heap.size + 1, 0, none⟩ (.slice (some ⟨w2.heap.size, 0, none⟩) 0 0)).setCell ⟨w.heap.size + 1, 1, none⟩ (.slice C t.cos.length cbp)).alloc (.cells #[] 3)).heap[g]? = w2.heap[g]? := fun g h1 h2 h3 => (Below.heap_alloc _ _ g (by simp [World.setCell]; omega)).trans ((Below.heap_setCell _ _ _ _ (by dsimp only; omega)).trans ((Below.heap_setCell _ _ _ _ (by dsimp only; omega)).trans (Below.heap_setCell _ _ _ _ (by dsimp only; omega))))
    exact ⟨_, _, ⟨[], t.cos⟩, rfl, (HRd2.out.keep fun g hg => hset g (by omega) (by omega) (by omega)).more (by omega), ⟨HG2.out.os, HG2.out.tape, HG2.out.output, by simp [World.setCell]; omega, fun g h1 hne => (hset g (by omega) (by omega) (by omega)).trans (HG2.out.block g h1 hne)⟩, ⟨⟨_, 0, rfl, Nat.le_refl _, Nat.zero_le _, by simp, fun h => absurd h (by simp)⟩, (HV2.out.2.keep fun g h1 h2 => hset g (by omega) (by omega) (by omega)).more (Nat.le_refl _) (by simp [World.setCell]; omega)⟩, Nat.zero_le _, by show t.cos.length ≤ 20; omega, fun c hc => by have := d3 c hc; omega⟩
  · have e0 : ((x : Int) == 0) = false := by simp; omega
    have e1 : ((x : Int) == 1) = false := by simp; omega
    have e2 : ((x : Int) == 2) = false := by simp; omega
    go_wp2
    refine bodyPost_ret (v := .agg #[.slice A t.sizes.length cap, .slice C t.cos.length cbp]) (by simp [results, Try.results72, go_sem, r0, r1]) rfl ?_
    have hset : ∀ g, g ≠ w.heap.size + 1 → ((w2.setCell ⟨w.heap.size + 1, 0, none⟩ (.slice A t.sizes.length cap)).setCell ⟨w.heap.size + 1, 1, none⟩ (.slice C t.cos.length cbp)).heap[g]? = w2.heap[g]? := fun g h2 => (Below.heap_setCell _ _ _ _ (by dsimp only; omega)).trans (Below.heap_setCell _ _ _ _ (by dsimp only; omega))
    exact ⟨_, _, t, rfl, (HRd2.out.keep fun g hg => hset g (by omega)).more (by omega), ⟨HG2.out.os, HG2.out.tape, HG2.out.output, by simp [World.setCell]; omega, fun g h1 hne => (hset g (by omega)).trans (HG2.out.block g h1 hne)⟩, (HV2.out.keep fun g h1 h2 => hset g (by omega)).more (Nat.le_refl _) (by simp [World.setCell]; omega), by omega, by omega, fun c hc => by have := d3 c hc; omega⟩

set_option maxRecDepth 100000 in
set_option maxHeartbeats 1000000 in
theorem someT_any (b B : Nat) (w : World) (h : RdAt w b B) (hB : B ≤ 800000) :
    Calls Try.prog 34 #[.pointer (some ⟨b, 0, none⟩)] w fun e w' => ∃ v l t, e = .returned (.agg #[v, l]) ∧ RdAt w' b (B + 300) ∧ w.grownBy w' (some b) ∧ TyAt w' w.heap.size w'.heap.size v l t ∧ BdOk t := by
  have hbl := h.lt
  have H := Lib.hid h
  have hb1 : Below w.heap.size w (w.alloc (.cells #[.slice none 0 0, .slice none 0 0] 26)) := (Below.refl _ _).alloc (Nat.le_refl _) _
  have HB1 := Lib.hid hb1
  clear h hb1
  go_enter Try.func34, Try.ntmps34
  go_wp2_with fail
  refine (draw_any b B _ (H.out.keep fun g hg => Below.heap_alloc w _ g (by omega)) hB).mono ?_
  rintro e w1 ⟨sv, cv, t, rfl, hrd1, hg1, hv1, hd1, _, _⟩
  have hs1 : w.heap.size + 1 ≤ w1.heap.size := by have := hg1.size; simpa using this
  have HRR : Hid (Row w1 w.heap.size 26 [.slice none 0 0, .slice none 0 0]) := (Row.new w 26 [.slice none 0 0, .slice none 0 0]).keep (hg1.block _ (by simp) (fun e => by simp only [Option.some.injEq] at e; omega))
  have HG1 := Lib.hid (rdGrown_trans (rdGrown_below HB1.out) hg1)
  have HRd1 := Lib.hid hrd1
  simp only [World.size_alloc] at hv1
  have HV1 := Lib.hid hv1
  have HD1 := Lib.hid hd1
  clear hrd1 hg1 hv1 hd1
  go_wp2_with fail
  refine (bad_any b (B + 200) (w.heap.size + 1) w1.heap.size _ _ t w1 HRd1.out (by omega) HV1.out (by omega) (Nat.le_refl _) (by omega) HD1.out).mono ?_
  rintro e w2 ⟨v, l, t', rfl, hrd2, hg2, hv2, hd2⟩
  obtain ⟨A, cap, rfl, _, _, _⟩ := hv2.1.form
  obtain ⟨C, cbp, rfl, _, _, _⟩ := hv2.2.form
  have hrr := HRR.out.keep (hg2.block _ (by omega) (fun e => by simp only [Option.some.injEq] at e; omega))
  have HG2 := Lib.hid (rdGrown_trans HG1.out hg2)
  have HRd2 := Lib.hid hrd2
  have HV2 := Lib.hid hv2
  have HD2 := Lib.hid hd2
  have hs2 := hg2.size
  have q0 := hrr.cell 0
  have q1 := hrr.cell 1
  have qf0 := hrr.frozen 0
  have qf1 := hrr.frozen 1
  simp only [List.getElem?_cons_zero, List.getElem?_cons_succ] at q0 q1
  clear hrd2 hg2 hv2 hd2 hrr
  go_wp2
  refine bodyPost_ret (v := .agg #[.slice A t'.sizes.length cap, .slice C t'.cos.length cbp]) (by simp [results, Try.results34, go_sem, q0, q1]) rfl ?_
  have hset : ∀ g, g ≠ w.heap.size → ((w2.setCell ⟨w.heap.size, 0, none⟩ (.slice A t'.sizes.length cap)).setCell ⟨w.heap.size, 1, none⟩ (.slice C t'.cos.length cbp)).heap[g]? = w2.heap[g]? := fun g h2 => (Below.heap_setCell _ _ _ _ (by dsimp only; omega)).trans (Below.heap_setCell _ _ _ _ (by dsimp only; omega))
  exact ⟨_, _, t', rfl, (HRd2.out.keep fun g hg => hset g (by omega)).more (by omega), ⟨HG2.out.os, HG2.out.tape, HG2.out.output, by simp [World.setCell]; omega, fun g h1 hne => (hset g (by omega)).trans (HG2.out.block g h1 hne)⟩, (HV2.out.keep fun g h1 h2 => hset g (by omega)).more (by omega) (by simp [World.setCell]), HD2.out⟩
end Go.Proofs.Ytplpnammboofiaa

