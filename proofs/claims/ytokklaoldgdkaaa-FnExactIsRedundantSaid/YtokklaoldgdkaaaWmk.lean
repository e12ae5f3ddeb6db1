/-
  The contract of waysMaking: how many ways make what.
-/
import Derived.Test.YtokklaoldgdkaaaImg
import Derived.Test.YtokklaoldgdkaaaWmf
import Derived.Test.YtokklaoldgdkaaaLeads
import Derived.Maps.OwnIn
namespace Go.Proofs.Ytokklaoldgdkaaa
open Go.RowKit
attribute [local go_sem] Oper.semAt_some

/-- The map under way: the ways s have come. -/
structure WmIn (n gf : Nat) (k : Int) (im : List Int → List Int) (w : World) (s : List (List Int)) (O : Nat → Prop) (A : World) (D : DataW Unit) : Prop where
  r3 : Row A n 70 [.pointer (some ⟨gf, 0, none⟩)]
  r4 : Row A (n + 1) 3 [.int .i64 k]
  r7 : Row A (n + 3) 86 [.map (some (n + 2))]
  own : A.ownsMap Try.prog 89 (plainElem Try.prog 3) (n + 2) s.length D
  cnt : Cnt (s.map im) D
  no : ∀ q, n ≤ q → q < n + 4 → ¬ O q
  lo : ∀ q, O q → n ≤ q
  below : Below n w A

section
variable {n gf : Nat} {k : Int} {im : List Int → List Int} {w A C : World} {s : List (List Int)} {O O' : Nat → Prop} {D : DataW Unit}
theorem WmIn.later (hi : WmIn n gf k im w s O A D) (hb : Below A.heap.size A C) : WmIn n gf k im w s O C D :=
  ⟨hi.r3.below hb hi.r3.lt, hi.r4.below hb hi.r4.lt, hi.r7.below hb hi.r7.lt, hi.own.kept (row := none) ⟨hb.os, hb.tape, hb.output, hb.size, fun q hq _ => hb.block q hq⟩ (by simp), hi.cnt, hi.no, hi.lo, hi.below.trans (hb.mono (Nat.le_of_lt hi.r3.lt))⟩
theorem WmIn.step {row : Option Nat} (hi : WmIn n gf k im w s O A D) (hg : A.grownBy C row) (hr : ∀ r, row = some r → O r) (hn : n ≤ A.heap.size) : WmIn n gf k im w s (fun q => O q ∨ (A.heap.size ≤ q ∧ q < C.heap.size)) C D := by
  have h7 := hi.r7.lt
  exact ⟨hi.r3.keep (hg.block _ hi.r3.lt (fun e => hi.no n (Nat.le_refl _) (by omega) (hr _ e.symm))), hi.r4.keep (hg.block _ hi.r4.lt (fun e => hi.no (n + 1) (by omega) (by omega) (hr _ e.symm))), hi.r7.keep (hg.block _ hi.r7.lt (fun e => hi.no (n + 3) (by omega) (by omega) (hr _ e.symm))),
    hi.own.kept hg (fun e => hi.no (n + 2) (by omega) (by omega) (hr _ e.symm)), hi.cnt, fun q h1 h2 h3 => h3.elim (hi.no q h1 h2) (fun h4 => by omega), fun q h3 => h3.elim (hi.lo q) (fun h4 => by omega), hi.below.grown hg hn (fun q e => hi.lo q (hr q e))⟩
theorem WmIn.give (hi : WmIn n gf k im w s O A D) (h : ∀ q, O' q → O q) : WmIn n gf k im w s O' A D :=
  ⟨hi.r3, hi.r4, hi.r7, hi.own, hi.cnt, fun q h1 h2 h3 => hi.no q h1 h2 (h q h3), fun q h3 => hi.lo q (h q h3), hi.below⟩
theorem WmIn.put {l : Nat} {o' : Obj} (hi : WmIn n gf k im w s O A D) (hn : n ≤ A.heap.size) (hl : n + 4 ≤ l) : WmIn n gf k im w s O (A.putObj l o') D :=
  ⟨hi.r3.keep (puts_keep (by omega)), hi.r4.keep (puts_keep (by omega)), hi.r7.keep (puts_keep (by omega)), hi.own.kept (grownBy_putObj' A l o') (by simp; omega), hi.cnt, hi.no, hi.lo, hi.below.grown (grownBy_putObj' A l o') hn (fun q e => by simp only [Option.some.injEq] at e; omega)⟩
end

set_option maxRecDepth 100000 in
set_option maxHeartbeats 4000000 in
theorem waysMaking_any (lo hi0 g : Nat) (sv cv : Value) (t : Ty) (a b : Int) (w : World) (hv : TyAt w lo hi0 sv cv t) (hB : hi0 ≤ w.heap.size) (hrow : Row w g 85 [sv, cv]) (htb : typesB t a b = true) :
    Calls Try.prog 75 #[.pointer (some ⟨g, 0, none⟩), .int .i64 a, .int .i64 b] w fun e w' => ∃ B D, e = .returned (.map (some B)) ∧ Below w.heap.size w w' ∧ w.heap.size ≤ B ∧
      w'.ownsMap Try.prog 89 (plainElem Try.prog 3) B (waysOf t a b).length D ∧ Cnt ((waysOf t a b).map (imgV t a)) D := by
  have hgl := hrow.lt
  obtain ⟨hok, ha0, ha1, hb0, hb1⟩ := typesB_of htb
  have hmm := @run_makeMap Try.prog
  refine (callsIn_wide (n := 5)).1 ?_
  refine callsIn_of_wp_marks Try.func75 rfl trivial ?_ rfl
  simp only [Try.ntmps75, List.size_toArray, List.length_cons, List.length_nil, Nat.reduceAdd, Nat.reduceSub, Array.replicate_succ, Array.replicate_zero, List.push_toArray, List.append_toArray, List.nil_append, List.cons_append]
  gi_wp2_with (refine ⟨trivial, ?_⟩; gi_at_call 104; refine (callsIn_wide.2 (ways_any g a b _)).mono ?_; rintro e w' ⟨rfl, rfl⟩)
  obtain ⟨W0, hW0⟩ : ∃ u, u = (((((((w.alloc (.cells #[.pointer (some ⟨g, 0, none⟩)] 70)).alloc (.cells #[.int .i64 a] 3)).alloc (.map #[] 0)).alloc (.cells #[.map (some (w.heap.size + 1 + 1))] 86)).alloc (.cells #[.pointer (some ⟨g, 0, none⟩)] 70)).alloc (.cells #[.int .i64 a] 3)).alloc (.cells #[.int .i64 b] 3)) := ⟨_, rfl⟩
  rw [← hW0]
  have hs0 : W0.heap.size = w.heap.size + 7 := by rw [hW0]; simp
  have hb00 : Below w.heap.size w W0 := by rw [hW0]; go_grown
  have rowAt : ∀ (v : World) (k : Nat) (o : Obj), v.heap.size = k → ∀ u : World, Below (k + 1) (v.alloc o) u → u.heap[k]? = some o := fun v k o e u hbu => by
    subst e
    exact (hbu.block _ (by omega)).trans (World.alloc_heap_new v o)
  have r3 : Row W0 w.heap.size 70 [.pointer (some ⟨g, 0, none⟩)] := rowAt w _ _ rfl _ (by rw [hW0]; go_grown)
  have r4 : Row W0 (w.heap.size + 1) 3 [.int .i64 a] := rowAt (w.alloc (.cells #[.pointer (some ⟨g, 0, none⟩)] 70)) _ _ (by simp) _ (by rw [hW0]; go_grown)
  have r2 : W0.heap[w.heap.size + 2]? = some (.map #[] 0) := rowAt ((w.alloc (.cells #[.pointer (some ⟨g, 0, none⟩)] 70)).alloc (.cells #[.int .i64 a] 3)) _ _ (by simp) _ (by rw [hW0]; go_grown)
  have r7 : Row W0 (w.heap.size + 3) 86 [.map (some (w.heap.size + 2))] := rowAt (((w.alloc (.cells #[.pointer (some ⟨g, 0, none⟩)] 70)).alloc (.cells #[.int .i64 a] 3)).alloc (.map #[] 0)) _ _ (by simp) _ (by rw [hW0]; go_grown)
  have q3 : Row W0 (w.heap.size + 4) 70 [.pointer (some ⟨g, 0, none⟩)] := rowAt ((((w.alloc (.cells #[.pointer (some ⟨g, 0, none⟩)] 70)).alloc (.cells #[.int .i64 a] 3)).alloc (.map #[] 0)).alloc (.cells #[.map (some (w.heap.size + 1 + 1))] 86)) _ _ (by simp) _ (by rw [hW0]; go_grown)
  have q4 : Row W0 (w.heap.size + 5) 3 [.int .i64 a] := rowAt (((((w.alloc (.cells #[.pointer (some ⟨g, 0, none⟩)] 70)).alloc (.cells #[.int .i64 a] 3)).alloc (.map #[] 0)).alloc (.cells #[.map (some (w.heap.size + 1 + 1))] 86)).alloc (.cells #[.pointer (some ⟨g, 0, none⟩)] 70)) _ _ (by simp) _ (by rw [hW0]; go_grown)
  have q5 : Row W0 (w.heap.size + 6) 3 [.int .i64 b] := rowAt ((((((w.alloc (.cells #[.pointer (some ⟨g, 0, none⟩)] 70)).alloc (.cells #[.int .i64 a] 3)).alloc (.map #[] 0)).alloc (.cells #[.map (some (w.heap.size + 1 + 1))] 86)).alloc (.cells #[.pointer (some ⟨g, 0, none⟩)] 70)).alloc (.cells #[.int .i64 a] 3)) _ _ (by simp) _ (by rw [hW0]; exact Below.refl _ _)
  have own0 : W0.ownsMap Try.prog 89 (plainElem Try.prog 3) (w.heap.size + 2) 0 (.map [] : DataW Unit) := by
    have h := World.ownsMap_made (H := Unit) ((w.alloc (.cells #[.pointer (some ⟨g, 0, none⟩)] 70)).alloc (.cells #[.int .i64 a] 3)) Try.prog 89 (plainElem Try.prog 3)
    rw [show ((w.alloc (.cells #[.pointer (some ⟨g, 0, none⟩)] 70)).alloc (.cells #[.int .i64 a] 3)).heap.size = w.heap.size + 2 from by simp] at h
    exact ownsMap_of_heap h (r2.trans (by
      have := World.alloc_heap_new ((w.alloc (.cells #[.pointer (some ⟨g, 0, none⟩)] 70)).alloc (.cells #[.int .i64 a] 3)) (.map #[] 0)
      rw [show ((w.alloc (.cells #[.pointer (some ⟨g, 0, none⟩)] 70)).alloc (.cells #[.int .i64 a] 3)).heap.size = w.heap.size + 2 from by simp] at this
      exact this.symm))
  clear hW0 rowAt r2 hmm
  refine range_law (fun v => { tmps := #[.pointer (some ⟨g, 0, none⟩), .int .i64 a, .int .i64 b, .pointer (some ⟨w.heap.size, 0, none⟩), .pointer (some ⟨w.heap.size + 1, 0, none⟩), undef, .map none, .pointer (some ⟨w.heap.size + 1 + 1 + 1, 0, none⟩), v, .map (some (w.heap.size + 1 + 1)), .pointer (some ⟨g, 0, none⟩), .int .i64 a, .int .i64 b, .func (.func 139) #[] #[.pointer (some ⟨w.heap.size + 1 + 1 + 1 + 1, 0, none⟩), .pointer (some ⟨w.heap.size + 1 + 1 + 1 + 1 + 1, 0, none⟩), .pointer (some ⟨w.heap.size + 1 + 1 + 1 + 1 + 2, 0, none⟩)], v, undef, undef, undef, undef, undef, undef, undef, undef, undef, undef], defers := [] }) ?assign (gf := 139) (lb := #[.pointer (some ⟨w.heap.size + 1 + 1 + 1 + 1, 0, none⟩), .pointer (some ⟨w.heap.size + 1 + 1 + 1 + 1 + 1, 0, none⟩), .pointer (some ⟨w.heap.size + 1 + 1 + 1 + 1 + 2, 0, none⟩)]) rfl (enters_of Try.func139 (by kernel_rfl) rfl)
    (fun k => k < w.heap.size) (fun k hk => by omega) (waysOf t a b) (fun s O A => ∃ D, WmIn w.heap.size g a (imgV t a) w s O A D) (fun _ _ _ => False) ?istep ?igive ?iput ?ixput ?iter ?start ?body ?done ?stop
  case assign =>
    intro l v W m K hK
    gi_wp2
    exact hK
  case istep =>
    rintro s O A C row ⟨D, hi⟩ hgr hrw
    exact ⟨D, hi.step hgr hrw (Nat.le_of_lt hi.r3.lt)⟩
  case igive =>
    rintro s O O' A ⟨D, hi⟩ hsub
    exact ⟨D, hi.give hsub⟩
  case iput =>
    rintro s O A k o' ⟨D, hi⟩ h1 h2
    exact ⟨D, hi.put (Nat.le_of_lt hi.r3.lt) (by omega)⟩
  case ixput =>
    rintro c s A k o' h _ _
    exact h.elim
  case iter =>
    intro l J Jx W1 hC hb1 hJ
    have hbw := hb00.trans (hb1.mono (by omega))
    exact waysIter_any l g (w.heap.size + 1 + 1 + 1 + 1) (w.heap.size + 1 + 1 + 1 + 1 + 1) (w.heap.size + 1 + 1 + 1 + 1 + 2) _ J Jx t a b hC lo hi0 sv cv W1 htb hgl (fun k _ hk => by omega) (fun k hk => by have := hbw.size; omega) (hrow.below hbw hgl) (hv.below hbw hB)
      ((q3.below hb1 (by omega)).cell 0) ((q4.below hb1 (by omega)).cell 0) ((q5.below hb1 (by omega)).cell 0) hJ
  case start =>
    intro W1 hb1
    exact ⟨.map [], r3.below hb1 (by omega), r4.below hb1 (by omega), r7.below hb1 (by omega), own0.kept (row := none) ⟨hb1.os, hb1.tape, hb1.output, hb1.size, fun q hq _ => hb1.block q hq⟩ (by simp), Cnt.nil, fun q _ _ h => h, fun q h => h.elim, hb00.trans (hb1.mono (by omega))⟩
  case body =>
    rintro l s v zs O A0' A' m hzin ⟨D, hi0⟩ hlen hbel hz hzo0 hzw hlt
    have hi := hi0.later hbel
    clear hi0
    have hway : (wayEnd t.cos a zs).isSome = true := by rw [waysOf_end hzin]; rfl
    have h4f : Four (imgV t a zs) := ⟨rfl, fun x hx => by
      simp only [imgV, List.mem_cons, List.not_mem_nil, or_false] at hx
      rcases hx with rfl | rfl | rfl | rfl <;> exact imgAt_wf hok ha0 ha1 hway⟩
    have hkey := key_of h4f
    have hgm : w.heap.size + 1 + 1 < A'.heap.size := hi.own.lt
    have hbs := hi.below.size
    have hzat := ownsRow.intsAt (lo := 0) (hi := A'.heap.size) hz hzw (Nat.le_refl _) (Nat.le_refl _)
    have hcw := cntI_wf (s := s.map (imgV t a)) (by simpa using hlen) (imgV t a zs)
    have hcat := hi.cnt.at_ _ h4f
    have himg : Calls Try.prog 76 #[.pointer (some ⟨g, 0, none⟩), .int .i64 a, v] A'.drew fun e w' => e = .returned (aggI (imgV t a zs)) ∧ Below A'.heap.size A' w' :=
      (imagesBy_any lo hi0 0 A'.heap.size g sv cv v t a zs A'.drew (hv.below hi.below.drew hB) (by show hi0 ≤ A'.heap.size; omega) hzat (Nat.le_refl _) (hrow.below hi.below.drew hgl) hok ha0 ha1 hway).mono fun e w' h => ⟨h.1, (Below.refl _ A').drew.trans h.2⟩
    have hlaid : ∀ u, Below A'.heap.size A' u → ∃ (v0 : Value) (st : Nat) (o1 : Obj), (Instr.mapEntry 86 (.map (some (w.heap.size + 1 + 1))) (aggI (imgV t a zs))).run Try.prog u = .ok (.tuple #[v0, goInt st]) (Go.ChangeMaps.setBlock u (w.heap.size + 1 + 1) o1) ∧ (Go.ChangeMaps.setBlock u (w.heap.size + 1 + 1) o1).heap[w.heap.size + 1 + 1]? = some o1 ∧
        Laid (w.heap.size + 1 + 1) s.length (cntI (s.map (imgV t a)) (imgV t a zs)) (aggI (imgV t a zs)) (kI (imgV t a zs)) D st o1 := by
      intro u hbu
      have hou := hi.own.kept (row := none) ⟨hbu.os, hbu.tape, hbu.output, hbu.size, fun q hq _ => hbu.block q hq⟩ (by simp)
      obtain ⟨v0, st, o1, h1, h2, h3⟩ := own_entry lawKey Try.underlying86 Try.underlying3 zeroInt hou (by unfold maxLen; omega) hkey
      obtain ⟨es, clock, hh, _⟩ := hou
      have hsame := Go.ChangeMaps.heap_setBlock_same hh o1
      refine ⟨v0, st, o1, h1, hsame, fun w2 hw2 => ?_, fun w2 hw2 => ?_⟩
      · obtain ⟨c', hr, ha, _⟩ := h2 w2 hw2
        rw [hcat] at ha
        simp only [DataW.lit.injEq, Lit.int.injEq, true_and] at ha
        rw [ha]
        exact hr
      · exact h3 w2 _ (wf_of hcw.2) hw2
    have hlook : ∀ u, Below A'.heap.size A' u → (Instr.lookup 86 (.map (some (w.heap.size + 1 + 1))) (aggI (imgV t a zs)) false).run Try.prog u = .ok (.int .i64 (cntI (s.map (imgV t a)) (imgV t a zs))) u := by
      intro u hbu
      have hou := hi.own.kept (row := none) ⟨hbu.os, hbu.tape, hbu.output, hbu.size, fun q hq _ => hbu.block q hq⟩ (by simp)
      obtain ⟨c', hr, ha, _⟩ := hou.lookup_int keyedKey Try.underlying86 Try.underlying3 (zeroInt u) hkey
      rw [hcat] at ha
      simp only [DataW.lit.injEq, Lit.int.injEq, true_and] at ha
      rw [ha]
      exact hr
    have hwrap : IntKind.i64.wrap (cntI (s.map (imgV t a)) (imgV t a zs) + 1) = cntI (s.map (imgV t a)) (imgV t a zs) + 1 := by have := hcw.2; unfold I64 at this; rw [IntKind.wrap_i64]; omega
    have c3 : A'.drew.cell? ⟨w.heap.size, 0, none⟩ = some (.pointer (some ⟨g, 0, none⟩)) := hi.r3.cell 0
    have c4 : A'.drew.cell? ⟨w.heap.size + 1, 0, none⟩ = some (.int .i64 a) := hi.r4.cell 0
    have c7 : A'.cell? ⟨w.heap.size + 1 + 1 + 1, 0, none⟩ = some (.map (some (w.heap.size + 1 + 1))) := hi.r7.cell 0
    have hsn := Lib.hid (hi.cnt.snoc hi.own.isMap h4f)
    have Hi := Lib.hid hi
    have Himg := Lib.hid himg
    have Hlaid := Lib.hid hlaid
    have Hlook := Lib.hid hlook
    clear hi himg hlaid hlook hkey hcat hcw hzat
    generalize hkk : aggI (imgV t a zs) = key at *
    generalize hcc : cntI (s.map (imgV t a)) (imgV t a zs) = c at *
    clear hkk hcc
    apply wpIn_block
    refine wpIn_region_inv (by kernel_rfl) (fun f x u => ∃ x15 x16 x17 x18 x19 x20 x21 x22 x23, x = ⟨#[.pointer (some ⟨g, 0, none⟩), .int .i64 a, .int .i64 b, .pointer (some ⟨w.heap.size, 0, none⟩), .pointer (some ⟨w.heap.size + 1, 0, none⟩), undef, .map none, .pointer (some ⟨w.heap.size + 1 + 1 + 1, 0, none⟩), v, .map (some (w.heap.size + 1 + 1)), .pointer (some ⟨g, 0, none⟩), .int .i64 a, .int .i64 b, .func (.func 139) #[] #[.pointer (some ⟨w.heap.size + 1 + 1 + 1 + 1, 0, none⟩), .pointer (some ⟨w.heap.size + 1 + 1 + 1 + 1 + 1, 0, none⟩), .pointer (some ⟨w.heap.size + 1 + 1 + 1 + 1 + 2, 0, none⟩)], v, x15, x16, x17, x18, x19, x20, x21, x22, x23, undef], []⟩ ∧ WFacts2 (w.heap.size + 1 + 1) g s.length a c v key (kI (imgV t a zs)) D A' f x15 x16 x17 x18 x19 x20 x21 x22 x23 u) (of_decide_eq_true (by kernel_rfl)) ⟨_, _, _, _, _, _, _, _, _, rfl, ⟨nofun, nofun, nofun, nofun, nofun, nofun, nofun, fun _ => rfl, nofun, nofun, nofun, nofun, nofun, nofun, nofun, nofun, nofun, nofun, nofun, nofun⟩⟩ ?_ ?_
    · rintro f x u i o ho hfi hdep ⟨x15, x16, x17, x18, x19, x20, x21, x22, x23, rfl, hF⟩
      have hil : i < 10 := by have := (Array.getElem?_eq_some_iff.1 ho).1; simpa using this
      obtain rfl | rfl | rfl | rfl | rfl | rfl | rfl | rfl | rfl | rfl : i = 0 ∨ i = 1 ∨ i = 2 ∨ i = 3 ∨ i = 4 ∨ i = 5 ∨ i = 6 ∨ i = 7 ∨ i = 8 ∨ i = 9 := by omega
      all_goals
        obtain rfl := Option.some.inj ho
        refine wpOpIn_step ho rfl fun K hK => ?_
        simp [Region.binds] at hdep
        clear ho
      · have hf7 := ff_of hF.c70 hfi
        have hu : u.cell? ⟨w.heap.size + 1 + 1 + 1, 0, none⟩ = some (.map (some (w.heap.size + 1 + 1))) := by
          by_cases h4 : f 4 = true
          · exact ((hF.w1 h4 hf7).cell (p := ⟨w.heap.size + 1 + 1 + 1, 0, none⟩) (by dsimp only; have := Hi.out.r7.lt; omega)).trans c7
          · rw [hF.w0 (by simpa using h4)]; exact c7
        have HF := Lib.hid hF
        clear hF
        unfold Oper.wpIn
        go_simp
        exact hK _ _ ⟨_, _, _, _, _, _, _, _, _, rfl, HF.out.s0⟩
      · obtain rfl := hF.w0 (ff_of hF.c41 hfi)
        have HF := Lib.hid hF
        clear hF
        unfold Oper.wpIn
        go_simp
        exact hK _ _ ⟨_, _, _, _, _, _, _, _, _, rfl, HF.out.s1⟩
      · obtain rfl := hF.w0 (ff_of hF.c42 hfi)
        have HF := Lib.hid hF
        clear hF
        unfold Oper.wpIn
        go_simp
        exact hK _ _ ⟨_, _, _, _, _, _, _, _, _, rfl, HF.out.s2⟩
      · have HF := Lib.hid hF
        clear hF
        unfold Oper.wpIn
        go_simp
        exact hK _ _ ⟨_, _, _, _, _, _, _, _, _, rfl, HF.out.s3⟩
      · obtain rfl := hF.b1 hdep.1
        obtain rfl := hF.b2 hdep.2.1
        obtain rfl := hF.b3 hdep.2.2
        obtain rfl := hF.w0 hfi
        have HF := Lib.hid hF
        clear hF
        unfold Oper.wpIn
        go_simp
        refine ⟨trivial, fun h => by simp [Fence.wide] at h, ?_⟩
        refine CallsIn.mono (show CallsIn (Fence.wide.inRound l) _ _ _ _ _ _ from (callsIn_wide.2 Himg.out : CallsIn Fence.wide _ _ _ _ _ _)) ?_
        rintro e u2 ⟨rfl, hb2⟩
        exact hK _ _ ⟨_, _, _, _, _, _, _, _, _, rfl, HF.out.s4 hdep.1 hdep.2.1 hfi hb2⟩
      · obtain rfl := hF.b0 hdep.1
        obtain rfl := hF.b4 hdep.2
        have hrun : (Instr.lookup 86 (.map (some (w.heap.size + 1 + 1))) key false).run Try.prog u = .ok (.int .i64 c) u := by
          by_cases h7 : f 7 = true
          · obtain ⟨st, o1, u2, v0, _, _, _, h5, _, _, hl⟩ := hF.w7 h7 (ff_of hF.c95 hfi)
            exact hl.look u h5
          · exact Hlook.out u (hF.w1 hdep.2 (by simpa using h7))
        have HF := Lib.hid hF
        clear hF
        unfold Oper.wpIn
        go_simp
        exact hK _ _ ⟨_, _, _, _, _, _, _, _, _, rfl, HF.out.s5 hdep.2⟩
      · obtain rfl := hF.b5 hdep
        have HF := Lib.hid hF
        clear hF
        unfold Oper.wpIn
        go_simp
        refine hK _ _ ⟨_, _, _, _, _, _, _, _, _, rfl, ?_⟩
        have := HF.out.s6
        simpa [hwrap] using this
      · obtain ⟨h0, h4, _⟩ := hdep
        obtain rfl := hF.b0 h0
        obtain rfl := hF.b4 h4
        have hbu := hF.w1 h4 hfi
        obtain ⟨v0, st, o1, hrun, hh, hl⟩ := Hlaid.out u hbu
        have HF := Lib.hid hF
        clear hF
        unfold Oper.wpIn
        go_simp
        exact hK _ _ ⟨_, _, _, _, _, _, _, _, _, rfl, HF.out.s7 h0 h4 hfi (ff_of HF.out.c87 hfi) (ff_of HF.out.c97 hfi) hgm hbu hh hl⟩
      · have h9 := ff_of hF.c98 hfi
        obtain ⟨st, o1, u2, v0, hx⟩ : ∃ (st : Nat) (o1 : Obj) (u2 : World) (v0 : Value), x22 = .tuple #[v0, goInt st] := by
          obtain ⟨st, o1, u2, v0, _, _, _, _, hx, _, _⟩ := hF.w7 hdep h9
          exact ⟨st, o1, u2, v0, hx⟩
        subst hx
        have HF := Lib.hid hF
        clear hF
        unfold Oper.wpIn
        go_simp
        exact hK _ _ ⟨_, _, _, _, _, _, _, _, _, rfl, HF.out.s8 hdep h9 rfl⟩
      · obtain ⟨h0, h8, h6, h7, _, _, _, _, h4, h5, _⟩ := hdep
        obtain rfl := hF.b0 h0
        obtain rfl := hF.b6 h6
        obtain ⟨st, o1, u2, v0, hb2, hg2, hu2, hh, hx22, hx8, hl⟩ := hF.w7 h7 hfi
        obtain rfl := hx8 h8
        obtain ⟨w3, hrun, ho3, hg3⟩ := hl.store u hh
        have hgr : A'.grownBy w3 (some (w.heap.size + 1 + 1)) := by
          have e : A'.grownBy u (some (w.heap.size + 1 + 1)) := by
            rw [hu2]
            have hbs2 := hb2.size
            obtain ⟨es0, clock0, hh0, _⟩ := Hi.out.own
            have ho0 := (hb2.block (w.heap.size + 2) hg2).trans hh0
            exact ⟨hb2.os, hb2.tape, hb2.output, by simpa [Go.ChangeMaps.setBlock] using hbs2, fun q hq hne => (Go.ChangeMaps.heap_setBlock_other ho0 _ (fun e => hne (by rw [e]))).trans (hb2.block q hq)⟩
          exact e.andThen hg3 (fun j hj => .inr hj)
        clear hu2 hb2 hg3 hl hx8 hx22
        replace hrun : (Instr.entryStore 86 (.map (some (w.heap.size + 1 + 1))) (.int .i64 st) (.int .i64 (c + 1))).run Try.prog u = .ok () w3 := hrun
        have HF := Lib.hid hF
        clear hF
        unfold Oper.wpIn
        go_simp
        exact hK _ _ ⟨_, _, _, _, _, _, _, _, _, rfl, HF.out.s9 h4 h5 h7 h8 ho3 hgr⟩
    · rintro f x u hall ⟨x15, x16, x17, x18, x19, x20, x21, x22, x23, rfl, hF⟩
      obtain ⟨ho, hg⟩ := hF.w9 (hall 9 (by simp))
      have hi := Hi.out
      have hsz := hg.size
      have h3l := hi.r3.lt
      simp only [Exit.inBlock]
      show bodyEnds _ _ _ _ _ _ _ _ _ _
      refine ⟨⟨hsz, fun q hq hS => hg.block q hq (fun e => ?_)⟩, _, hi.r3.keep (hg.block _ hi.r3.lt (by simp only [ne_eq, Option.some.injEq]; omega)), hi.r4.keep (hg.block _ hi.r4.lt (by simp only [ne_eq, Option.some.injEq]; omega)), hi.r7.keep (hg.block _ hi.r7.lt (by simp only [ne_eq, Option.some.injEq]; omega)), by simpa using ho, by simpa using hsn.out, hi.no, hi.lo, hi.below.grown hg (Nat.le_of_lt h3l) (fun q e => by simp only [Option.some.injEq] at e; omega)⟩
      simp only [Option.some.injEq] at e
      rcases hS with h | h | h | h
      · exact hi.no q (by omega) (by omega) h
      all_goals omega
  case done =>
    rintro O' W' ⟨D, hi⟩ hK
    have p7 : W'.cell? ⟨w.heap.size + 1 + 1 + 1, 0, none⟩ = some (.map (some (w.heap.size + 1 + 1))) := hi.r7.cell 0
    have HK := Lib.hid hK
    have Hi := Lib.hid hi
    clear hi hK
    gi_wp2
    refine ⟨by simp, .inl ⟨_, _, rfl, run_takeDeferred (w := W') HK.out, ?_⟩⟩
    refine ⟨.map (some (w.heap.size + 1 + 1)), by simp [results, Try.results75, go_sem], _, D, rfl, ?_, by omega, ?_, Hi.out.cnt⟩
    · exact Hi.out.below.grown (grownBy_putObj' _ _ _) (Nat.le_of_lt Hi.out.r3.lt) (fun q e => by simp only [Option.some.injEq] at e; omega)
    · exact Hi.out.own.kept (grownBy_putObj' _ _ _) (by simp; omega)
  case stop =>
    rintro c s' W' _ h _
    exact h.elim
end Go.Proofs.Ytokklaoldgdkaaa
