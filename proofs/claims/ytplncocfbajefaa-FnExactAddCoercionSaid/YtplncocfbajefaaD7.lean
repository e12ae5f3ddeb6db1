/-
  The contract of the model's function that copies a system.
  append to an empty list of all functions of another one, as a step of a region that draws its order.
  A region that draws its order, by an invariant over what has been done: one obligation for each operation.
  What holds in a region that builds types from a copied list of coercions and one more: by what has been done.
  The same, operation by operation.
-/
import Derived.Test.YtplncocfbajefaaD6
import Derived.WalkKit
namespace Go.Proofs.Ytplncocfbajefaa
open Go.RowKit

theorem range_getDF (fs : List Fu) : (List.range fs.length).map (fun i => fs.getD i default) = fs := by
  apply List.ext_getElem
  · simp
  · intro i h1 h2
    simp [List.getElem?_eq_getElem h2]
theorem FusAt.wf {w : World} {lo hi : Nat} {v : Value} {fs : List Fu} (h : FusAt w lo hi v fs) : ∀ i, i < fs.length → (fs.getD i default).fits := by
  intro i hi'
  obtain ⟨A, cap, rfl, _, _, hc⟩ := h.form
  obtain ⟨_, _, _, _, _, _, _, _, _, _, _, _, _, _, _, _, _, hf⟩ := hc.at_ hi'
  have e : fs.getD i default = fs[i] := by rw [List.getD_eq_getElem?_getD, List.getElem?_eq_getElem hi']; rfl
  rw [e]
  exact hf.fits

set_option maxRecDepth 100000 in
set_option maxHeartbeats 2000000 in
theorem ownSys_any (lo hi : Nat) (sv cv fv : Value) (y : Sy) (w : World) (hv : SyAt w lo hi sv cv fv y) (hB : hi ≤ w.heap.size) (hbk : y.bulk ≤ 1048576) :
    Calls Try.prog 22 #[.agg #[sv, cv, fv]] w fun e w' => ∃ v l q, e = .returned (.agg #[v, l, q]) ∧ Below w.heap.size w w' ∧ SyAt w' w.heap.size w'.heap.size v l q y := by
  have hwf := Lib.hid (FusAt.wf hv.2)
  obtain ⟨A, cap, rfl, hl1, hm1, _⟩ := hv.1.1.form
  obtain ⟨B, bap, rfl, hl2, hm2, _⟩ := hv.1.2.form
  obtain ⟨Q, qap, rfl, hl3, hm3, hq1⟩ := hv.2.form
  have hb' := hbk
  unfold Sy.bulk at hb'
  have hn : y.fs.length ≤ 1048576 := by omega
  have hnt : y.ty.bulk ≤ 1048576 := by omega
  clear hb'
  have hl4 : Hid (∀ j, ∀ (hj : j < y.fs.length), y.fs[j].args.length ≤ 1048576 ∧ y.fs[j].table.length ≤ 1048576) := fun j hj => by
    have h := y.fu_le j hj
    unfold Fu.weight at h
    omega
  have h3 : Below w.heap.size w ((w.alloc (.cells #[.slice A y.ty.sizes.length cap, .slice B y.ty.cos.length bap, .slice Q y.fs.length qap] 38)).alloc (.cells #[.slice none 0 0, .slice none 0 0, .slice none 0 0] 38)) := by go_grown
  have Hq1 := Lib.hid hq1
  have Hty := Lib.hid (hv.1.below h3 hB)
  have H3 := Lib.hid h3
  clear hv hq1 h3
  go_enter Try.func22, Try.ntmps22
  go_wp2_with fail
  refine (ownTypes_any lo hi _ _ y.ty _ Hty.out (by simp; omega) hnt).mono ?_
  rintro e w1 ⟨v, l, rfl, hb, hty⟩
  have hbel := Lib.hid (H3.out.trans (hb.mono (by simp; omega)))
  have r0 : Row w1 w.heap.size 38 [.slice A y.ty.sizes.length cap, .slice B y.ty.cos.length bap, .slice Q y.fs.length qap] :=
    ((Row.new w 38 [.slice A y.ty.sizes.length cap, .slice B y.ty.cos.length bap, .slice Q y.fs.length qap]).keep (Below.heap_alloc _ _ _ (by simp))).below hb (by simp; omega)
  have r1 : Row w1 (w.heap.size + 1) 38 [.slice none 0 0, .slice none 0 0, .slice none 0 0] := by
    have h := Row.new (w.alloc (.cells #[.slice A y.ty.sizes.length cap, .slice B y.ty.cos.length bap, .slice Q y.fs.length qap] 38)) 38 [.slice none 0 0, .slice none 0 0, .slice none 0 0]
    rw [World.size_alloc] at h
    exact h.below hb (by simp)
  have hs1 : w.heap.size + 1 + 1 ≤ w1.heap.size := by have := hb.size; simpa using this
  obtain ⟨VA, VC, rfl, _, _, _⟩ := hty.1.form
  obtain ⟨LA, LC, rfl, _, _, _⟩ := hty.2.form
  simp only [World.size_alloc] at hty
  have Hty1 := Lib.hid hty
  have R0 := Lib.hid r0
  have R1 := Lib.hid r1
  have a0 := r0.cell 0
  have a1 := r0.cell 1
  have a2 := r0.cell 2
  have af0 := r0.frozen 0
  have af1 := r0.frozen 1
  simp only [List.getElem?_cons_zero, List.getElem?_cons_succ] at a0 a1 a2
  have hz0' : w.heap.size < w1.heap.size := by omega
  clear hb r0 r1 hty Hty
  go_wp2_with fail
  obtain ⟨u1, hu1⟩ : ∃ u, u = (w1.setCell ⟨w.heap.size, 0, none⟩ (.slice VA y.ty.sizes.length VC)).setCell ⟨w.heap.size, 1, none⟩ (.slice LA y.ty.cos.length LC) := ⟨_, rfl⟩
  rw [← hu1]
  have hbu : Below w.heap.size w u1 := by rw [hu1]; exact (hbel.out.setCell (Nat.le_refl _) _).setCell (Nat.le_refl _) _
  have hsu : u1.heap.size = w1.heap.size := by rw [hu1]; simp [World.setCell]
  have hku : ∀ g, g ≠ w.heap.size → u1.heap[g]? = w1.heap[g]? := fun g hg => by rw [hu1]; exact (Below.heap_setCell _ _ _ _ hg).trans (Below.heap_setCell _ _ _ _ hg)
  have ru : Row u1 w.heap.size 38 [.slice VA y.ty.sizes.length VC, .slice LA y.ty.cos.length LC, .slice Q y.fs.length qap] := by rw [hu1]; exact (R0.out.set_ 0 _).set_ 1 _
  refine (ownListF_any lo hi _ y.fs _ (Hq1.out.below hbu hB) (by omega) hn hl4.out).mono ?_
  rintro e w2 ⟨q, rfl, hb2, hco⟩
  have hs2 := hb2.size
  have hb02 := Lib.hid (hbu.trans (hb2.mono (by omega)))
  have ru2 := ru.below hb2 (by omega)
  have rr := (R1.out.keep (hku _ (by omega))).below hb2 (by omega)
  have hlf : ∃ A B, q = .slice A y.fs.length B := by
    obtain ⟨xs, m, mv, how, _⟩ := hco
    obtain ⟨LA, LC, rfl⟩ := owns_form how
    exact ⟨LA, LC, rfl⟩
  obtain ⟨QA, QC, rfl⟩ := hlf
  have hty2 := Lib.hid (Hty1.out.keep fun g hg hl => (hb2.block g (by omega)).trans (hku g (by omega)))
  have Hco := Lib.hid hco
  have d0 := ru2.cell 0
  have d1 := ru2.cell 1
  have d2 := ru2.cell 2
  have df2 := ru2.frozen 2
  have e0 := rr.cell 0
  have e1 := rr.cell 1
  have e2 := rr.cell 2
  have g0 := rr.frozen 0
  have g1 := rr.frozen 1
  have g2 := rr.frozen 2
  simp only [List.getElem?_cons_zero, List.getElem?_cons_succ] at d0 d1 d2 e0 e1 e2
  have hlt2 : w.heap.size + 1 < w2.heap.size := by omega
  have hlt2' : w.heap.size < w2.heap.size := by omega
  clear hbu hku ru ru2 rr hb2 hco hu1 a0 a1 a2 af0 af1
  go_wp2
  refine bodyPost_ret (v := .agg #[.slice VA y.ty.sizes.length VC, .slice LA y.ty.cos.length LC, .slice QA y.fs.length QC]) (by simp [results, Try.results22, go_sem, e0, e1, e2]) rfl ?_
  have hblk : ∀ (wx : World) (p1 p2 p3 p4 : Addr) (u1 u2 u3 u4 : Value), p1.block < w.heap.size + 1 + 1 → p2.block < w.heap.size + 1 + 1 → p3.block < w.heap.size + 1 + 1 → p4.block < w.heap.size + 1 + 1 → ∀ g, w.heap.size + 1 + 1 ≤ g → ((((wx.setCell p1 u1).setCell p2 u2).setCell p3 u3).setCell p4 u4).heap[g]? = wx.heap[g]? :=
    fun wx p1 p2 p3 p4 u1 u2 u3 u4 h1 h2 h3 h4 g hg => (Below.heap_setCell _ _ _ _ (by omega)).trans ((Below.heap_setCell _ _ _ _ (by omega)).trans ((Below.heap_setCell _ _ _ _ (by omega)).trans (Below.heap_setCell _ _ _ _ (by omega))))
  refine ⟨_, _, _, rfl, (((hb02.out.setCell (by dsimp only; omega) _).setCell (by dsimp only; omega) _).setCell (by dsimp only; omega) _).setCell (by dsimp only; omega) _, ?_, ?_⟩
  · exact (hty2.out.keep fun g hg hl => hblk _ _ _ _ _ _ _ _ _ (by dsimp only; omega) (by dsimp only; omega) (by dsimp only; omega) (by dsimp only; omega) g hg).more (by omega) (by simp [World.setCell]; omega)
  · suffices h : FusAt _ w.heap.size _ (.slice QA y.fs.length QC) ((List.range y.fs.length).map fun i => y.fs.getD i default) by
      rw [range_getDF] at h
      exact h
    refine FusOwned.fusAt (base := u1.heap.size) (Hco.out.keep (by simp [World.setCell]) fun g hg hl => ?_) hwf.out (by omega) (Nat.le_refl _)
    exact hblk _ _ _ _ _ _ _ _ _ (by dsimp only; omega) (by dsimp only; omega) (by dsimp only; omega) (by dsimp only; omega) g (by omega)
end Go.Proofs.Ytplncocfbajefaa

namespace Go.Proofs.Ytplncocfbajefaa
open Go.RowKit

/-- Cells that read as functions. -/
def FusNews (w : World) (lo hi : Nat) (news : List Value) (cs : List Fu) : Prop :=
  ∃ av tv : Nat → Value, news.length = cs.length * 4 ∧ ∀ i, ∀ (h : i < cs.length), news[i * 4]? = some (.string cs[i].name) ∧ news[i * 4 + 1]? = some (av i) ∧ news[i * 4 + 2]? = some (.int .i64 cs[i].res) ∧ news[i * 4 + 3]? = some (tv i) ∧ FuAt w lo hi (.string cs[i].name) (av i) (.int .i64 cs[i].res) (tv i) cs[i]

theorem fus_news {w : World} {lo hi c : Nat} {ad : Addr} {cs : List Fu} (h : FusAt w lo hi (.slice (some ad) cs.length c) cs) :
    ∃ news, FusNews w lo hi news cs ∧ (∀ j u, news[j]? = some u → w.cell? (ad.add j) = some u) ∧ ∀ u ∈ news, u.oneCell' = true := by
  have hat : ∀ i, ∀ (hi' : i < cs.length), ∃ z y, w.cell? (ad.add (i * 4)) = some (.string cs[i].name) ∧ w.cell? (ad.add (i * 4 + 1)) = some z ∧ w.cell? (ad.add (i * 4 + 2)) = some (.int .i64 cs[i].res) ∧ w.cell? (ad.add (i * 4 + 3)) = some y ∧ FuAt w lo hi (.string cs[i].name) z (.int .i64 cs[i].res) y cs[i] ∧ z.oneCell' = true ∧ y.oneCell' = true := by
    intro i hi'
    obtain ⟨b, off, A1, cap1, A2, cap2, e, _, _, c0, c1, c2, c3, _, _, _, _, hf⟩ := h.at_ hi'
    injection e with e
    subst e
    refine ⟨_, _, ?_, ?_, ?_, ?_, hf, rfl, rfl⟩
    · rw [Go.WideShapes.add_plain, c0]
    · rw [Go.WideShapes.add_plain, ← Nat.add_assoc, c1]
    · rw [Go.WideShapes.add_plain, ← Nat.add_assoc, c2]
    · rw [Go.WideShapes.add_plain, ← Nat.add_assoc, c3]
  have hsome : ∀ j, j < cs.length * 4 → ∃ u, w.cell? (ad.add j) = some u ∧ u.oneCell' = true := by
    intro j hj
    obtain ⟨z, y, h0, h1, h2, h3, _, h4, h5⟩ := hat (j / 4) (by omega)
    have hm := Nat.div_add_mod j 4
    have hlt := Nat.mod_lt j (by omega : 4 > 0)
    rcases (by omega : j = j / 4 * 4 ∨ j = j / 4 * 4 + 1 ∨ j = j / 4 * 4 + 2 ∨ j = j / 4 * 4 + 3) with e | e | e | e
    · rw [← e] at h0; exact ⟨_, h0, rfl⟩
    · rw [← e] at h1; exact ⟨_, h1, h4⟩
    · rw [← e] at h2; exact ⟨_, h2, rfl⟩
    · rw [← e] at h3; exact ⟨_, h3, h5⟩
  have hget : ∀ j, j < cs.length * 4 → ((List.range (cs.length * 4)).map fun j => (w.cell? (ad.add j)).getD undef)[j]? = w.cell? (ad.add j) := by
    intro j hj
    obtain ⟨u, hu, _⟩ := hsome j hj
    rw [List.getElem?_map, List.getElem?_range hj]
    simp [hu]
  refine ⟨(List.range (cs.length * 4)).map fun j => (w.cell? (ad.add j)).getD undef, ⟨fun i => (w.cell? (ad.add (i * 4 + 1))).getD undef, fun i => (w.cell? (ad.add (i * 4 + 3))).getD undef, by simp, fun i hi' => ?_⟩, fun j u hj => ?_, fun u hu => ?_⟩
  · obtain ⟨z, y, h0, h1, h2, h3, h4, _⟩ := hat i hi'
    rw [hget _ (by omega), hget _ (by omega), hget _ (by omega), hget _ (by omega)]
    refine ⟨h0, ?_, h2, ?_, ?_⟩
    · simp only [h1, Option.getD_some]
    · simp only [h3, Option.getD_some]
    · simp only [h1, h3, Option.getD_some]; exact h4
  · have hjl : j < cs.length * 4 := by
      have := (List.getElem?_eq_some_iff.1 hj).1
      simpa using this
    rw [hget j hjl] at hj
    exact hj
  · obtain ⟨j, hj, rfl⟩ := List.mem_map.1 hu
    obtain ⟨u, hu', h1⟩ := hsome j (List.mem_range.1 hj)
    simp only [hu', Option.getD_some]
    exact h1

theorem ownsRow_zeroF {w : World} {base b : Nat} (hb : base ≤ b) (h : w.heap[b]? = some (.cells #[] 79 (0, 0))) : w.ownsRow base 79 4 (.slice (some ⟨b, 0, none⟩) 0 0) 0 [] :=
  ⟨rfl, .inr ⟨b, 0, #[], rfl, hb, h, Nat.le_refl _, by unfold maxLen; omega, rfl, rfl⟩⟩

theorem step_append_fus {w : World} {ops : Array Oper} {o : Oper} {a : Act} {K : Act → World → Prop} {Q : Exit → Act → World → Prop} {E : Prop} (hgd : o.guard = none) (s x : Operand)
    (ho : o.op = .call { callee := .builtin .append, args := #[s, x], argTypes := #[36, 36] }) (base b : Nat) (hs : a.eval s = .slice (some ⟨b, 0, none⟩) 0 0)
    (hb : base ≤ b) (hblk : w.heap[b]? = some (.cells #[] 79 (0, 0))) (lo hi : Nat) (A : Option Addr) (m c : Nat) (cs : List Fu) (hx : a.eval x = .slice A m c) (hm : m = cs.length) (hz : FusAt w lo hi (.slice A cs.length c) cs) (hn : m ≤ 1048576) (hbase : base ≤ w.heap.size)
    (h : ∀ VA VC w' news, w'.ownsRow base 79 4 (.slice VA m VC) m news → FusNews w lo hi news cs → w.grownBy w' (some b) → K (a.put o.dst (.slice VA m VC)) w') :
    if Region.wanted o (yielded ops a.tmps) = true then Oper.wp Try.prog o a w K Q else E := by
  have hw : Region.wanted o (yielded ops a.tmps) = true := by simp [Region.wanted, hgd]
  rw [if_pos hw]
  subst hm
  obtain ⟨i0, hi0, hz0, hz1, hz2⟩ := info_parts infoFunction
  have hown := ownsRow_zeroF hb hblk
  rcases A with _ | ad
  · have hcs : cs = [] := by
      rcases cs with _ | ⟨z, zs⟩
      · rfl
      · obtain ⟨b, off, A1, cap1, A2, cap2, e, _⟩ := hz.at_ (k := 0) (by simp)
        cases e
    subst hcs
    have hrun := run_append_owned_none' (P := Try.prog) (w := w) base 36 o.type 79 i0 4 Try.underlying36 hi0 _ _ _ c hown
    unfold Oper.wp
    rw [List.length_nil] at hx
    simp [execOp, ho, resolve, invoke, builtin, hs, hx, hrun, Result.andThen]
    exact h _ _ _ [] hown ⟨fun _ => undef, fun _ => undef, rfl, fun i hi => absurd hi (by simp)⟩ ⟨rfl, rfl, rfl, Nat.le_refl _, fun _ _ _ => rfl⟩
  · obtain ⟨news, hnews, hcells, hone⟩ := fus_news hz
    obtain ⟨av, tv, hl, hrest⟩ := hnews
    refine wp_append_own w s x 36 ho base 79 i0 _ 4 72 Try.underlying36 hi0 hz0 hz1 hz2 rfl (by omega) _ 0 [] hs hown ad cs.length c news hx hl hcells hone (by unfold maxLen; omega) (by omega) hbase ?_
    intro v' w' h1 h2 _
    obtain ⟨VA, VC, rfl⟩ := owns_form h1
    rw [Nat.zero_add, List.nil_append] at h1
    rw [Nat.zero_add]
    exact h VA VC w' news h1 ⟨av, tv, hl, hrest⟩ h2
end Go.Proofs.Ytplncocfbajefaa

namespace Go.Proofs.Ytplncocfbajefaa
open Go.RowKit

section
variable {P : Program} {ops : Array Oper} {Q : Exit → Act → World → Prop}

def openCount : List Bool → Nat
  | [] => 0
  | b :: bs => (if b then 0 else 1) + openCount bs
theorem openCount_set : ∀ (l : List Bool) (i : Nat), l[i]? = some false → openCount (l.set i true) + 1 = openCount l := by
  intro l
  induction l with
  | nil => intro i h; simp at h
  | cons b bs ih =>
    intro i h
    cases i with
    | zero =>
      simp at h
      subst h
      simp [openCount]
      omega
    | succ i =>
      simp at h
      have := ih i h
      simp only [List.set_cons_succ, openCount]
      omega
theorem openCount_zero : ∀ (l : List Bool), openCount l = 0 → ∀ b ∈ l, b = true := by
  intro l
  induction l with
  | nil => intro _ b hb; cases hb
  | cons c cs ih =>
    intro h b hb
    cases c with
    | false => simp [openCount] at h
    | true =>
      simp only [openCount, if_true, Nat.zero_add] at h
      rcases List.mem_cons.1 hb with rfl | hb
      · rfl
      · exact ih h b hb

/-- What may come up: it has not been done, and all that binds it has. -/
theorem ready_of {listed : Array Bool} {i : Nat} (h : i ∈ Region.ready .any ops listed) : i < ops.size ∧ listed.getD i true = false ∧ ∃ o, ops[i]? = some o ∧ ∀ e ∈ o.after, Region.binds .any e = true → listed.getD e.on false = true := by
  unfold Region.ready at h
  rw [List.mem_filter] at h
  obtain ⟨h1, h2⟩ := h
  have h1 := List.mem_range.1 h1
  simp only [Bool.and_eq_true, Bool.not_eq_true'] at h2
  obtain ⟨h2, h3⟩ := h2
  refine ⟨h1, h2, ops[i], Array.getElem?_eq_getElem h1, fun e he hb => ?_⟩
  rw [Array.getElem?_eq_getElem h1] at h3
  simp only [Option.map_some, Option.getD_some] at h3
  rw [Array.all_eq_true'] at h3
  have := h3 e he
  simpa [hb] using this
theorem ready_mk {listed : Array Bool} {i : Nat} (h1 : i < ops.size) (h2 : listed.getD i true = false) (h3 : ∀ e ∈ ops[i].after, Region.binds .any e = true → listed.getD e.on false = true) : i ∈ Region.ready .any ops listed := by
  unfold Region.ready
  rw [List.mem_filter]
  refine ⟨List.mem_range.2 h1, ?_⟩
  simp only [Bool.and_eq_true, Bool.not_eq_true']
  refine ⟨h2, ?_⟩
  rw [Array.getElem?_eq_getElem h1]
  simp only [Option.map_some, Option.getD_some]
  rw [Array.all_eq_true']
  intro e he
  cases hb : Region.binds .any e with
  | false => simp
  | true => simp [h3 e he hb]
theorem all_done {listed : Array Bool} (hs : listed.size = ops.size) (hd : ∀ i, ∀ (h : i < ops.size), ∀ e ∈ ops[i].after, Region.binds .any e = true → e.on < i) (hr : Region.ready .any ops listed = []) : ∀ i, i < ops.size → listed.getD i false = true := by
  intro i
  induction i using Nat.strongRecOn with
  | _ i ih =>
    intro hi
    have hl : i < listed.size := by omega
    by_cases h : listed.getD i true = true
    · simpa [Array.getD, hl] using h
    · have hf : listed.getD i true = false := by simpa using h
      have hm := ready_mk (listed := listed) hi hf fun e he hb => ih e.on (hd i hi e he hb) (by have := hd i hi e he hb; omega)
      rw [hr] at hm
      cases hm

theorem wpAny_inv (Inv : (Nat → Bool) → Act → World → Prop) (hd : ∀ i, ∀ (h : i < ops.size), ∀ e ∈ ops[i].after, Region.binds .any e = true → e.on < i)
    (hstep : ∀ (f : Nat → Bool) a w i o, ops[i]? = some o → f i = false → (∀ e ∈ o.after, Region.binds .any e = true → f e.on = true) → Inv f a w → wpOp P ops Q i (Inv fun k => decide (k = i) || f k) a w)
    (hend : ∀ f a w, (∀ k, k < ops.size → f k = true) → Inv f a w → Q .normal a w) :
    ∀ (fuel : Nat) (listed : Array Bool) (a : Act) (w : World), listed.size = ops.size → openCount listed.toList ≤ fuel → Inv (fun k => listed.getD k false) a w → wpAny P .any ops Q fuel listed a w := by
  intro fuel
  induction fuel with
  | zero =>
    intro listed a w hs hf hI
    have hall := openCount_zero listed.toList (by omega)
    have hr : Region.ready .any ops listed = [] := by
      rw [List.eq_nil_iff_forall_not_mem]
      intro i hi
      obtain ⟨h1, h2, _⟩ := ready_of hi
      have hl : i < listed.size := by omega
      have h3 : listed[i] = false := by simpa [Array.getD, hl] using h2
      have h4 := hall listed[i] (by simp)
      rw [h3] at h4
      cases h4
    exact ⟨hr, hend _ a w (all_done hs hd hr) hI⟩
  | succ fuel ih =>
    intro listed a w hs hf hI
    refine ⟨fun hr => hend _ a w (all_done hs hd hr) hI, fun i hi => ?_⟩
    obtain ⟨h1, h2, o, ho, h3⟩ := ready_of hi
    have hl : i < listed.size := by omega
    have h4 : listed[i] = false := by simpa [Array.getD, hl] using h2
    refine wpOp_mono (fun a' w' hI' => ih (listed.setIfInBounds i true) a' w' (by simpa using hs) ?_ ?_) (hstep _ a w i o ho (by simp [Array.getD, hl, h4]) h3 hI)
    · have := openCount_set listed.toList i (by simp [hl, h4])
      simp only [Array.toList_setIfInBounds]
      omega
    · have e : (fun k => decide (k = i) || listed.getD k false) = fun k => (listed.setIfInBounds i true).getD k false := by
        funext k
        by_cases hk : k = i
        · subst hk
          simp [Array.getD, hl]
        · have hk' : ¬ i = k := fun h => hk h.symm
          by_cases hkl : k < listed.size
          · simp [Array.getD, hk, hk', hkl]
          · simp [Array.getD, hk, hkl]
      rw [← e]
      exact hI'

/-- A region that draws its order, by an invariant over what has been done. -/
theorem wp_region_inv {id : Nat} {a : Act} {w : World} (hm : P.follows .mixedOrders = true) (Inv : (Nat → Bool) → Act → World → Prop) (hd : ∀ i, ∀ (h : i < ops.size), ∀ e ∈ ops[i].after, Region.binds .any e = true → e.on < i)
    (h0 : Inv (fun _ => false) a w.drew)
    (hstep : ∀ (f : Nat → Bool) a w i o, ops[i]? = some o → f i = false → (∀ e ∈ o.after, Region.binds .any e = true → f e.on = true) → Inv f a w → wpOp P ops Q i (Inv fun k => decide (k = i) || f k) a w)
    (hend : ∀ f a w, (∀ k, k < ops.size → f k = true) → Inv f a w → Q .normal a w) : (Code.region id ops true).wp P Q a w := by
  refine wp_region_any hm (wpAny_inv Inv hd hstep hend _ _ a _ (by simp) ?_ ?_)
  · have key : ∀ n, openCount (List.replicate n false) = n := by
      intro n
      induction n with
      | zero => rfl
      | succ n ih => simp only [List.replicate_succ, openCount, ih]; simp; omega
    rw [Array.toList_replicate, key]
    exact Nat.le_refl _
  · have e : (fun k => (Array.replicate ops.size false).getD k false) = fun _ => false := by
      funext k
      by_cases hk : k < ops.size
      · simp [Array.getD, hk]
      · simp [Array.getD, hk]
    rw [e]
    exact h0
/-- The same, where the invariant may name the frame that the region begins with. -/
theorem wp_region_inv_at {id : Nat} {a : Act} {w : World} (hm : P.follows .mixedOrders = true) (Inv : Act → (Nat → Bool) → Act → World → Prop) (hd : ∀ i, ∀ (h : i < ops.size), ∀ e ∈ ops[i].after, Region.binds .any e = true → e.on < i)
    (h0 : Inv a (fun _ => false) a w.drew)
    (hstep : ∀ (f : Nat → Bool) a' w i o, ops[i]? = some o → f i = false → (∀ e ∈ o.after, Region.binds .any e = true → f e.on = true) → Inv a f a' w → wpOp P ops Q i (Inv a fun k => decide (k = i) || f k) a' w)
    (hend : ∀ f a' w, (∀ k, k < ops.size → f k = true) → Inv a f a' w → Q .normal a' w) : (Code.region id ops true).wp P Q a w :=
  wp_region_inv hm (Inv a) hd h0 hstep hend
end
end Go.Proofs.Ytplncocfbajefaa

namespace Go.Proofs.Ytplncocfbajefaa
open Go.RowKit

/-- T: the types' block; s, l: what it holds; c0, c1, c2: the coercion's cells; f: which operations have been done; the letters: what their slots hold. -/
structure RFfacts (lo hi N T : Nat) (w4 : World) (fs : List Fu) (s cc l c0 c1 c2 c3 : Value) (f : Nat → Bool) (x6 x11 x12 x13 x14 x15 x16 x17 x18 x19 x20 : Value) (u : World) : Prop where
  bel : Below N w4 u
  a0 : f 0 = true → x11 = .pointer (some ⟨T, 0, none⟩)
  a1 : f 1 = true → x12 = .agg #[s, cc]
  a2 : f 2 = true → f 5 = false → ∃ b, N ≤ b ∧ x13 = .slice (some ⟨b, 0, none⟩) 0 0 ∧ Row u b 79 []
  a3 : f 3 = true → x14 = .pointer (some ⟨T, 2, none⟩)
  a4 : f 4 = true → x15 = l
  a5 : f 5 = true → f 8 = false → ∃ A c news, x16 = .slice A fs.length c ∧ u.ownsRow N 79 4 x16 fs.length news ∧ FusNews u lo hi news fs
  a6 : f 6 = true → x17 = .agg #[c0, c1, c2, c3]
  a7 : f 7 = true → f 8 = false → ∃ p, N ≤ p ∧ x18 = .slice (some ⟨p, 0, none⟩) 1 1 ∧ Row u p 79 [c0, c1, c2, c3]
  a8 : f 8 = true → ∃ A c news, x19 = .slice A (fs.length + 1) c ∧ u.ownsRow N 79 4 x19 (fs.length + 1) (news ++ [c0, c1, c2, c3]) ∧ FusNews u lo hi news fs
  a9 : f 9 = true → x20 = .agg #[s, cc, x19]
  a10 : f 10 = true → f 11 = false → ∃ q, N ≤ q ∧ x6 = .pointer (some ⟨q, 0, none⟩) ∧ Row u q 38 [.slice none 0 0, .slice none 0 0, .slice none 0 0]
  a11 : f 11 = true → ∃ q, N ≤ q ∧ x6 = .pointer (some ⟨q, 0, none⟩) ∧ Row u q 38 [s, cc, x19]

theorem FusNews.keep {w w' : World} {lo hi : Nat} {news : List Value} {cs : List Fu} (h : FusNews w lo hi news cs) (hk : ∀ k, lo ≤ k → k < hi → w'.heap[k]? = w.heap[k]?) : FusNews w' lo hi news cs := by
  obtain ⟨av, tv, hl, hi2⟩ := h
  exact ⟨av, tv, hl, fun i hi' => by
    obtain ⟨h0, h1, h2, h3, h4⟩ := hi2 i hi'
    exact ⟨h0, h1, h2, h3, h4.keep hk⟩⟩
theorem row_own_neF {w : World} {base g n : Nat} {v : Value} {xs ys : List Value} (hr : Row w g 38 xs) (ho : w.ownsRow base 79 4 v n ys) : v.ownBlock ≠ some g := by
  intro e
  obtain ⟨_, ⟨rfl, _⟩ | ⟨g', cap, cur, rfl, hb, hh, _⟩⟩ := ho
  · simp [Value.ownBlock] at e
  · simp only [Value.ownBlock, Option.some.injEq] at e
    subst e
    unfold Row at hr
    rw [hr] at hh
    simp only [Option.some.injEq, Obj.cells.injEq] at hh
    exact absurd hh.2.1 (by decide)

section
variable {lo hi N T : Nat} {w4 u : World} {fs : List Fu} {s cc l c0 c1 c2 c3 : Value} {f : Nat → Bool} {x6 x11 x12 x13 x14 x15 x16 x17 x18 x19 x20 : Value}

/-- Blocks that stood stay as they are. -/
theorem RFfacts.grow {u' : World} (h : RFfacts lo hi N T w4 fs s cc l c0 c1 c2 c3 f x6 x11 x12 x13 x14 x15 x16 x17 x18 x19 x20 u) (hN : N ≤ u.heap.size) (hh : hi ≤ N) (hb : Below u.heap.size u u') : RFfacts lo hi N T w4 fs s cc l c0 c1 c2 c3 f x6 x11 x12 x13 x14 x15 x16 x17 x18 x19 x20 u' where
  bel := h.bel.trans (hb.mono hN)
  a0 := h.a0
  a1 := h.a1
  a2 := fun h1 h2 => by
    obtain ⟨b, h3, h4, h5⟩ := h.a2 h1 h2
    exact ⟨b, h3, h4, h5.below hb h5.lt⟩
  a3 := h.a3
  a4 := h.a4
  a5 := fun h1 h2 => by
    obtain ⟨A, c, news, h3, h4, h5⟩ := h.a5 h1 h2
    exact ⟨A, c, news, h3, ownsRow_keep h4 fun g _ hg => hb.block g hg, h5.keep fun k _ hk => hb.block k (by omega)⟩
  a6 := h.a6
  a7 := fun h1 h2 => by
    obtain ⟨b, h3, h4, h5⟩ := h.a7 h1 h2
    exact ⟨b, h3, h4, h5.below hb h5.lt⟩
  a8 := fun h1 => by
    obtain ⟨A, c, news, h3, h4, h5⟩ := h.a8 h1
    exact ⟨A, c, news, h3, ownsRow_keep h4 fun g _ hg => hb.block g hg, h5.keep fun k _ hk => hb.block k (by omega)⟩
  a9 := h.a9
  a10 := fun h1 h2 => by
    obtain ⟨b, h3, h4, h5⟩ := h.a10 h1 h2
    exact ⟨b, h3, h4, h5.below hb h5.lt⟩
  a11 := fun h1 => by
    obtain ⟨b, h3, h4, h5⟩ := h.a11 h1
    exact ⟨b, h3, h4, h5.below hb h5.lt⟩

/-- The first append: it may write into the empty list's block. -/
theorem RFfacts.append1 {b : Nat} {A : Option Addr} {c : Nat} {u' : World} {news : List Value} (h : RFfacts lo hi N T w4 fs s cc l c0 c1 c2 c3 f x6 x11 x12 x13 x14 x15 x16 x17 x18 x19 x20 u) (hN : N ≤ u.heap.size) (hh : hi ≤ N) (hf8 : f 8 = false) (hf11 : f 11 = false) (hf9 : f 9 = false)
    (hbN : N ≤ b) (hrow : Row u b 79 []) (hg : u.grownBy u' (some b)) (hown : u'.ownsRow N 79 4 (.slice A fs.length c) fs.length news) (hnews : FusNews u lo hi news fs) :
    RFfacts lo hi N T w4 fs s cc l c0 c1 c2 c3 (fun k => decide (k = 5) || f k) x6 x11 x12 x13 x14 x15 (.slice A fs.length c) x17 x18 x19 x20 u' where
  bel := h.bel.trans ⟨hg.os, hg.tape, hg.output, hg.size, fun k hk => hg.block k (by omega) (by intro e; simp only [Option.some.injEq] at e; omega)⟩
  a0 := fun h1 => h.a0 (by simpa using h1)
  a1 := fun h1 => h.a1 (by simpa using h1)
  a2 := fun _ h2 => by simp at h2
  a3 := fun h1 => h.a3 (by simpa using h1)
  a4 := fun h1 => h.a4 (by simpa using h1)
  a5 := fun _ _ => ⟨A, c, news, rfl, hown, hnews.keep fun k _ hk => hg.block k (by omega) (by intro e; simp only [Option.some.injEq] at e; omega)⟩
  a6 := fun h1 => h.a6 (by simpa using h1)
  a7 := fun h1 h2 => by
    obtain ⟨p, h3, h4, h5⟩ := h.a7 (by simpa using h1) hf8
    refine ⟨p, h3, h4, h5.keep (hg.block p h5.lt fun e => ?_)⟩
    simp only [Option.some.injEq] at e
    subst e
    unfold Row at h5 hrow
    rw [h5] at hrow
    simp at hrow
  a8 := fun h1 => by simp [hf8] at h1
  a9 := fun h1 => by simp [hf9] at h1
  a10 := fun h1 _ => by
    obtain ⟨q, h3, h4, h5⟩ := h.a10 (by simpa using h1) hf11
    refine ⟨q, h3, h4, h5.keep (hg.block q h5.lt fun e => ?_)⟩
    simp only [Option.some.injEq] at e
    subst e
    unfold Row at h5 hrow
    rw [h5] at hrow
    simp at hrow
  a11 := fun h1 => by simp [hf11] at h1

/-- The second append: it may write into the list's own block. -/
theorem RFfacts.append2 {A : Option Addr} {c : Nat} {u' : World} {news : List Value} (h : RFfacts lo hi N T w4 fs s cc l c0 c1 c2 c3 f x6 x11 x12 x13 x14 x15 x16 x17 x18 x19 x20 u) (hN : N ≤ u.heap.size) (hh : hi ≤ N) (hf11 : f 11 = false) (hf9 : f 9 = false) (hf5 : f 5 = true)
    (hold : u.ownsRow N 79 4 x16 fs.length news) (hg : u.grownBy u' x16.ownBlock) (hown : u'.ownsRow N 79 4 (.slice A (fs.length + 1) c) (fs.length + 1) (news ++ [c0, c1, c2, c3])) (hnews : FusNews u lo hi news fs) :
    RFfacts lo hi N T w4 fs s cc l c0 c1 c2 c3 (fun k => decide (k = 8) || f k) x6 x11 x12 x13 x14 x15 x16 x17 x18 (.slice A (fs.length + 1) c) x20 u' where
  bel := h.bel.trans ⟨hg.os, hg.tape, hg.output, hg.size, fun k hk => hg.block k (by omega) (by intro e; have := owns_lt hold k e.symm; omega)⟩
  a0 := fun h1 => h.a0 (by simpa using h1)
  a1 := fun h1 => h.a1 (by simpa using h1)
  a2 := fun _ h2 => by simp [hf5] at h2
  a3 := fun h1 => h.a3 (by simpa using h1)
  a4 := fun h1 => h.a4 (by simpa using h1)
  a5 := fun _ h2 => by simp at h2
  a6 := fun h1 => h.a6 (by simpa using h1)
  a7 := fun _ h2 => by simp at h2
  a8 := fun _ => ⟨A, c, news, rfl, hown, hnews.keep fun k _ hk => hg.block k (by omega) (by intro e; have := owns_lt hold k e.symm; omega)⟩
  a9 := fun h1 => by simp [hf9] at h1
  a10 := fun h1 _ => by
    obtain ⟨q, h3, h4, h5⟩ := h.a10 (by simpa using h1) hf11
    exact ⟨q, h3, h4, h5.keep (hg.block q h5.lt fun e => row_own_neF h5 hold e.symm)⟩
  a11 := fun h1 => by simp [hf11] at h1
end
end Go.Proofs.Ytplncocfbajefaa

namespace Go.Proofs.Ytplncocfbajefaa
open Go.RowKit
section
variable {lo hi N T : Nat} {w4 u : World} {fs : List Fu} {s cc l c0 c1 c2 c3 : Value} {f : Nat → Bool} {x6 x11 x12 x13 x14 x15 x16 x17 x18 x19 x20 : Value}
theorem RFfacts.s0 (h : RFfacts lo hi N T w4 fs s cc l c0 c1 c2 c3 f x6 x11 x12 x13 x14 x15 x16 x17 x18 x19 x20 u) : RFfacts lo hi N T w4 fs s cc l c0 c1 c2 c3 (fun k => decide (k = 0) || f k) x6 (.pointer (some ⟨T, 0, none⟩)) x12 x13 x14 x15 x16 x17 x18 x19 x20 u where
  bel := h.bel
  a0 := fun _ => rfl
  a1 := fun e => h.a1 (by simpa using e)
  a2 := fun e e2 => h.a2 (by simpa using e) (by simpa using e2)
  a3 := fun e => h.a3 (by simpa using e)
  a4 := fun e => h.a4 (by simpa using e)
  a5 := fun e e2 => h.a5 (by simpa using e) (by simpa using e2)
  a6 := fun e => h.a6 (by simpa using e)
  a7 := fun e e2 => h.a7 (by simpa using e) (by simpa using e2)
  a8 := fun e => h.a8 (by simpa using e)
  a9 := fun e => h.a9 (by simpa using e)
  a10 := fun e e2 => h.a10 (by simpa using e) (by simpa using e2)
  a11 := fun e => h.a11 (by simpa using e)
theorem RFfacts.s1 (h : RFfacts lo hi N T w4 fs s cc l c0 c1 c2 c3 f x6 x11 x12 x13 x14 x15 x16 x17 x18 x19 x20 u) : RFfacts lo hi N T w4 fs s cc l c0 c1 c2 c3 (fun k => decide (k = 1) || f k) x6 x11 (.agg #[s, cc]) x13 x14 x15 x16 x17 x18 x19 x20 u where
  bel := h.bel
  a0 := fun e => h.a0 (by simpa using e)
  a1 := fun _ => rfl
  a2 := fun e e2 => h.a2 (by simpa using e) (by simpa using e2)
  a3 := fun e => h.a3 (by simpa using e)
  a4 := fun e => h.a4 (by simpa using e)
  a5 := fun e e2 => h.a5 (by simpa using e) (by simpa using e2)
  a6 := fun e => h.a6 (by simpa using e)
  a7 := fun e e2 => h.a7 (by simpa using e) (by simpa using e2)
  a8 := fun e => h.a8 (by simpa using e)
  a9 := fun e => h.a9 (by simpa using e)
  a10 := fun e e2 => h.a10 (by simpa using e) (by simpa using e2)
  a11 := fun e => h.a11 (by simpa using e)
theorem RFfacts.s2 (h : RFfacts lo hi N T w4 fs s cc l c0 c1 c2 c3 f x6 x11 x12 x13 x14 x15 x16 x17 x18 x19 x20 u) {b : Nat} (hb : N ≤ b) (hr : Row u b 79 []) : RFfacts lo hi N T w4 fs s cc l c0 c1 c2 c3 (fun k => decide (k = 2) || f k) x6 x11 x12 (.slice (some ⟨b, 0, none⟩) 0 0) x14 x15 x16 x17 x18 x19 x20 u where
  bel := h.bel
  a0 := fun e => h.a0 (by simpa using e)
  a1 := fun e => h.a1 (by simpa using e)
  a2 := fun _ _ => ⟨b, hb, rfl, hr⟩
  a3 := fun e => h.a3 (by simpa using e)
  a4 := fun e => h.a4 (by simpa using e)
  a5 := fun e e2 => h.a5 (by simpa using e) (by simpa using e2)
  a6 := fun e => h.a6 (by simpa using e)
  a7 := fun e e2 => h.a7 (by simpa using e) (by simpa using e2)
  a8 := fun e => h.a8 (by simpa using e)
  a9 := fun e => h.a9 (by simpa using e)
  a10 := fun e e2 => h.a10 (by simpa using e) (by simpa using e2)
  a11 := fun e => h.a11 (by simpa using e)
theorem RFfacts.s3 (h : RFfacts lo hi N T w4 fs s cc l c0 c1 c2 c3 f x6 x11 x12 x13 x14 x15 x16 x17 x18 x19 x20 u) : RFfacts lo hi N T w4 fs s cc l c0 c1 c2 c3 (fun k => decide (k = 3) || f k) x6 x11 x12 x13 (.pointer (some ⟨T, 2, none⟩)) x15 x16 x17 x18 x19 x20 u where
  bel := h.bel
  a0 := fun e => h.a0 (by simpa using e)
  a1 := fun e => h.a1 (by simpa using e)
  a2 := fun e e2 => h.a2 (by simpa using e) (by simpa using e2)
  a3 := fun _ => rfl
  a4 := fun e => h.a4 (by simpa using e)
  a5 := fun e e2 => h.a5 (by simpa using e) (by simpa using e2)
  a6 := fun e => h.a6 (by simpa using e)
  a7 := fun e e2 => h.a7 (by simpa using e) (by simpa using e2)
  a8 := fun e => h.a8 (by simpa using e)
  a9 := fun e => h.a9 (by simpa using e)
  a10 := fun e e2 => h.a10 (by simpa using e) (by simpa using e2)
  a11 := fun e => h.a11 (by simpa using e)
theorem RFfacts.s4 (h : RFfacts lo hi N T w4 fs s cc l c0 c1 c2 c3 f x6 x11 x12 x13 x14 x15 x16 x17 x18 x19 x20 u) : RFfacts lo hi N T w4 fs s cc l c0 c1 c2 c3 (fun k => decide (k = 4) || f k) x6 x11 x12 x13 x14 l x16 x17 x18 x19 x20 u where
  bel := h.bel
  a0 := fun e => h.a0 (by simpa using e)
  a1 := fun e => h.a1 (by simpa using e)
  a2 := fun e e2 => h.a2 (by simpa using e) (by simpa using e2)
  a3 := fun e => h.a3 (by simpa using e)
  a4 := fun _ => rfl
  a5 := fun e e2 => h.a5 (by simpa using e) (by simpa using e2)
  a6 := fun e => h.a6 (by simpa using e)
  a7 := fun e e2 => h.a7 (by simpa using e) (by simpa using e2)
  a8 := fun e => h.a8 (by simpa using e)
  a9 := fun e => h.a9 (by simpa using e)
  a10 := fun e e2 => h.a10 (by simpa using e) (by simpa using e2)
  a11 := fun e => h.a11 (by simpa using e)
theorem RFfacts.s6 (h : RFfacts lo hi N T w4 fs s cc l c0 c1 c2 c3 f x6 x11 x12 x13 x14 x15 x16 x17 x18 x19 x20 u) : RFfacts lo hi N T w4 fs s cc l c0 c1 c2 c3 (fun k => decide (k = 6) || f k) x6 x11 x12 x13 x14 x15 x16 (.agg #[c0, c1, c2, c3]) x18 x19 x20 u where
  bel := h.bel
  a0 := fun e => h.a0 (by simpa using e)
  a1 := fun e => h.a1 (by simpa using e)
  a2 := fun e e2 => h.a2 (by simpa using e) (by simpa using e2)
  a3 := fun e => h.a3 (by simpa using e)
  a4 := fun e => h.a4 (by simpa using e)
  a5 := fun e e2 => h.a5 (by simpa using e) (by simpa using e2)
  a6 := fun _ => rfl
  a7 := fun e e2 => h.a7 (by simpa using e) (by simpa using e2)
  a8 := fun e => h.a8 (by simpa using e)
  a9 := fun e => h.a9 (by simpa using e)
  a10 := fun e e2 => h.a10 (by simpa using e) (by simpa using e2)
  a11 := fun e => h.a11 (by simpa using e)
theorem RFfacts.s7 (h : RFfacts lo hi N T w4 fs s cc l c0 c1 c2 c3 f x6 x11 x12 x13 x14 x15 x16 x17 x18 x19 x20 u) {b : Nat} (hb : N ≤ b) (hr : Row u b 79 [c0, c1, c2, c3]) : RFfacts lo hi N T w4 fs s cc l c0 c1 c2 c3 (fun k => decide (k = 7) || f k) x6 x11 x12 x13 x14 x15 x16 x17 (.slice (some ⟨b, 0, none⟩) 1 1) x19 x20 u where
  bel := h.bel
  a0 := fun e => h.a0 (by simpa using e)
  a1 := fun e => h.a1 (by simpa using e)
  a2 := fun e e2 => h.a2 (by simpa using e) (by simpa using e2)
  a3 := fun e => h.a3 (by simpa using e)
  a4 := fun e => h.a4 (by simpa using e)
  a5 := fun e e2 => h.a5 (by simpa using e) (by simpa using e2)
  a6 := fun e => h.a6 (by simpa using e)
  a7 := fun _ _ => ⟨b, hb, rfl, hr⟩
  a8 := fun e => h.a8 (by simpa using e)
  a9 := fun e => h.a9 (by simpa using e)
  a10 := fun e e2 => h.a10 (by simpa using e) (by simpa using e2)
  a11 := fun e => h.a11 (by simpa using e)
theorem RFfacts.s9 (h : RFfacts lo hi N T w4 fs s cc l c0 c1 c2 c3 f x6 x11 x12 x13 x14 x15 x16 x17 x18 x19 x20 u) : RFfacts lo hi N T w4 fs s cc l c0 c1 c2 c3 (fun k => decide (k = 9) || f k) x6 x11 x12 x13 x14 x15 x16 x17 x18 x19 (.agg #[s, cc, x19]) u where
  bel := h.bel
  a0 := fun e => h.a0 (by simpa using e)
  a1 := fun e => h.a1 (by simpa using e)
  a2 := fun e e2 => h.a2 (by simpa using e) (by simpa using e2)
  a3 := fun e => h.a3 (by simpa using e)
  a4 := fun e => h.a4 (by simpa using e)
  a5 := fun e e2 => h.a5 (by simpa using e) (by simpa using e2)
  a6 := fun e => h.a6 (by simpa using e)
  a7 := fun e e2 => h.a7 (by simpa using e) (by simpa using e2)
  a8 := fun e => h.a8 (by simpa using e)
  a9 := fun _ => rfl
  a10 := fun e e2 => h.a10 (by simpa using e) (by simpa using e2)
  a11 := fun e => h.a11 (by simpa using e)
theorem RFfacts.s10 (h : RFfacts lo hi N T w4 fs s cc l c0 c1 c2 c3 f x6 x11 x12 x13 x14 x15 x16 x17 x18 x19 x20 u) {b : Nat} (hb : N ≤ b) (hr : Row u b 38 [.slice none 0 0, .slice none 0 0, .slice none 0 0]) (hf11 : f 11 = false) : RFfacts lo hi N T w4 fs s cc l c0 c1 c2 c3 (fun k => decide (k = 10) || f k) (.pointer (some ⟨b, 0, none⟩)) x11 x12 x13 x14 x15 x16 x17 x18 x19 x20 u where
  bel := h.bel
  a0 := fun e => h.a0 (by simpa using e)
  a1 := fun e => h.a1 (by simpa using e)
  a2 := fun e e2 => h.a2 (by simpa using e) (by simpa using e2)
  a3 := fun e => h.a3 (by simpa using e)
  a4 := fun e => h.a4 (by simpa using e)
  a5 := fun e e2 => h.a5 (by simpa using e) (by simpa using e2)
  a6 := fun e => h.a6 (by simpa using e)
  a7 := fun e e2 => h.a7 (by simpa using e) (by simpa using e2)
  a8 := fun e => h.a8 (by simpa using e)
  a9 := fun e => h.a9 (by simpa using e)
  a10 := fun _ _ => ⟨b, hb, rfl, hr⟩
  a11 := fun e => by simp [hf11] at e
theorem RFfacts.s11 {q : Nat} (h : RFfacts lo hi N T w4 fs s cc l c0 c1 c2 c3 f (.pointer (some ⟨q, 0, none⟩)) x11 x12 x13 x14 x15 x16 x17 x18 x19 x20 u) (_hN : N ≤ u.heap.size) (hh : hi ≤ N) (hf5 : f 5 = true) (hf8 : f 8 = true) (hq : N ≤ q) (hr : Row u q 38 [.slice none 0 0, .slice none 0 0, .slice none 0 0]) :
    RFfacts lo hi N T w4 fs s cc l c0 c1 c2 c3 (fun k => decide (k = 11) || f k) (.pointer (some ⟨q, 0, none⟩)) x11 x12 x13 x14 x15 x16 x17 x18 x19 x20 (((u.setCell ⟨q, 0, none⟩ s).setCell ⟨q, 1, none⟩ cc).setCell ⟨q, 2, none⟩ x19) where
  bel := ((h.bel.setCell (by dsimp only; omega) _).setCell (by dsimp only; omega) _).setCell (by dsimp only; omega) _
  a0 := fun e => h.a0 (by simpa using e)
  a1 := fun e => h.a1 (by simpa using e)
  a2 := fun _ e2 => by simp [hf5] at e2
  a3 := fun e => h.a3 (by simpa using e)
  a4 := fun e => h.a4 (by simpa using e)
  a5 := fun _ e2 => by simp [hf8] at e2
  a6 := fun e => h.a6 (by simpa using e)
  a7 := fun _ e2 => by simp [hf8] at e2
  a8 := fun e => by
    obtain ⟨A, c, news, h3, h4, h5⟩ := h.a8 (by simpa using e)
    have hk : ∀ k, k ≠ q → (((u.setCell ⟨q, 0, none⟩ s).setCell ⟨q, 1, none⟩ cc).setCell ⟨q, 2, none⟩ x19).heap[k]? = u.heap[k]? := fun k hk => (Below.heap_setCell _ _ _ _ hk).trans ((Below.heap_setCell _ _ _ _ hk).trans (Below.heap_setCell _ _ _ _ hk))
    exact ⟨A, c, news, h3, ownsRow_keep1 h4 fun g hg => hk g (fun e => row_own_neF hr h4 (by rw [hg, e])), h5.keep fun k _ hk2 => hk k (by omega)⟩
  a9 := fun e => h.a9 (by simpa using e)
  a10 := fun _ e2 => by simp at e2
  a11 := fun _ => ⟨q, hq, rfl, ((hr.set_ 0 s).set_ 1 cc).set_ 2 x19⟩
end
structure RClF (f : Nat → Bool) : Prop where
  c85 : f 8 = true → f 5 = true
  c98 : f 9 = true → f 8 = true
  cb8 : f 11 = true → f 8 = true
  cba : f 11 = true → f 10 = true
section
variable {f : Nat → Bool}
theorem RClF.n8 (h : RClF f) (h5 : f 5 = false) : f 8 = false := by
  by_cases e : f 8 = true
  · rw [h.c85 e] at h5; cases h5
  · simpa using e
theorem RClF.n9 (h : RClF f) (h8 : f 8 = false) : f 9 = false := by
  by_cases e : f 9 = true
  · rw [h.c98 e] at h8; cases h8
  · simpa using e
theorem RClF.nb (h : RClF f) (h8 : f 8 = false) : f 11 = false := by
  by_cases e : f 11 = true
  · rw [h.cb8 e] at h8; cases h8
  · simpa using e
theorem RClF.nb' (h : RClF f) (h8 : f 10 = false) : f 11 = false := by
  by_cases e : f 11 = true
  · rw [h.cba e] at h8; cases h8
  · simpa using e
theorem RClF.u0 (h : RClF f) : RClF (fun k => decide (k = 0) || f k) where
  c85 := fun e => by simp [h.c85 (by simpa using e)]
  c98 := fun e => by simp [h.c98 (by simpa using e)]
  cb8 := fun e => by simp [h.cb8 (by simpa using e)]
  cba := fun e => by simp [h.cba (by simpa using e)]
theorem RClF.u1 (h : RClF f) : RClF (fun k => decide (k = 1) || f k) where
  c85 := fun e => by simp [h.c85 (by simpa using e)]
  c98 := fun e => by simp [h.c98 (by simpa using e)]
  cb8 := fun e => by simp [h.cb8 (by simpa using e)]
  cba := fun e => by simp [h.cba (by simpa using e)]
theorem RClF.u2 (h : RClF f) : RClF (fun k => decide (k = 2) || f k) where
  c85 := fun e => by simp [h.c85 (by simpa using e)]
  c98 := fun e => by simp [h.c98 (by simpa using e)]
  cb8 := fun e => by simp [h.cb8 (by simpa using e)]
  cba := fun e => by simp [h.cba (by simpa using e)]
theorem RClF.u3 (h : RClF f) : RClF (fun k => decide (k = 3) || f k) where
  c85 := fun e => by simp [h.c85 (by simpa using e)]
  c98 := fun e => by simp [h.c98 (by simpa using e)]
  cb8 := fun e => by simp [h.cb8 (by simpa using e)]
  cba := fun e => by simp [h.cba (by simpa using e)]
theorem RClF.u4 (h : RClF f) : RClF (fun k => decide (k = 4) || f k) where
  c85 := fun e => by simp [h.c85 (by simpa using e)]
  c98 := fun e => by simp [h.c98 (by simpa using e)]
  cb8 := fun e => by simp [h.cb8 (by simpa using e)]
  cba := fun e => by simp [h.cba (by simpa using e)]
theorem RClF.u5 (h : RClF f) : RClF (fun k => decide (k = 5) || f k) where
  c85 := fun _ => rfl
  c98 := fun e => by simp [h.c98 (by simpa using e)]
  cb8 := fun e => by simp [h.cb8 (by simpa using e)]
  cba := fun e => by simp [h.cba (by simpa using e)]
theorem RClF.u6 (h : RClF f) : RClF (fun k => decide (k = 6) || f k) where
  c85 := fun e => by simp [h.c85 (by simpa using e)]
  c98 := fun e => by simp [h.c98 (by simpa using e)]
  cb8 := fun e => by simp [h.cb8 (by simpa using e)]
  cba := fun e => by simp [h.cba (by simpa using e)]
theorem RClF.u7 (h : RClF f) : RClF (fun k => decide (k = 7) || f k) where
  c85 := fun e => by simp [h.c85 (by simpa using e)]
  c98 := fun e => by simp [h.c98 (by simpa using e)]
  cb8 := fun e => by simp [h.cb8 (by simpa using e)]
  cba := fun e => by simp [h.cba (by simpa using e)]
theorem RClF.u8 (h : RClF f) (d5 : f 5 = true) : RClF (fun k => decide (k = 8) || f k) where
  c85 := fun _ => by simp [d5]
  c98 := fun _ => rfl
  cb8 := fun _ => rfl
  cba := fun e => by simp [h.cba (by simpa using e)]
theorem RClF.u9 (h : RClF f) (d8 : f 8 = true) : RClF (fun k => decide (k = 9) || f k) where
  c85 := fun e => by simp [h.c85 (by simpa using e)]
  c98 := fun _ => by simp [d8]
  cb8 := fun e => by simp [h.cb8 (by simpa using e)]
  cba := fun e => by simp [h.cba (by simpa using e)]
theorem RClF.u10 (h : RClF f) : RClF (fun k => decide (k = 10) || f k) where
  c85 := fun e => by simp [h.c85 (by simpa using e)]
  c98 := fun e => by simp [h.c98 (by simpa using e)]
  cb8 := fun e => by simp [h.cb8 (by simpa using e)]
  cba := fun _ => rfl
theorem RClF.u11 (h : RClF f) (d8 : f 8 = true) (d10 : f 10 = true) : RClF (fun k => decide (k = 11) || f k) where
  c85 := fun e => by simp [h.c85 (by simpa using e)]
  c98 := fun e => by simp [h.c98 (by simpa using e)]
  cb8 := fun _ => by simp [d8]
  cba := fun _ => by simp [d10]
end
end Go.Proofs.Ytplncocfbajefaa

