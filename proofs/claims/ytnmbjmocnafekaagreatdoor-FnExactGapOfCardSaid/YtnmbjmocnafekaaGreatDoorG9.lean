/-
  All rows of numbers below limits, and the program's iterator over them.
  What it is that a function fits types, and that a system is valid; plain data only.
-/
import Derived.Test.YtnmbjmocnafekaaGreatDoorG7
import Derived.Test.YtnmbjmocnafekaaGreatDoorG8
import Derived.Test.YtnmbjmocnafekaaGreatDoorG2
import Derived.Test.YtnmbjmocnafekaaGreatDoorG4
namespace Go.Proofs.YtnmbjmocnafekaaGreatDoor
open Go.RowKit
attribute [local go_sem] Oper.semAt_some

/-- All rows of numbers from 0, each less than the limit in its place, in order, the last one changing first. -/
def rowsL : List Int → List (List Int)
  | [] => [[]]
  | n :: ns => ((List.range n.toNat).map fun f : Nat => (rowsL ns).map fun r => (f : Int) :: r).flatten

theorem flat_at {α : Type} (F : Nat → List α) {n k : Nat} (hk : k < n) : ∃ t, ((List.range n).map F).flatten = ((List.range k).map F).flatten ++ (F k ++ t) := by
  refine ⟨(((List.range n).map F).drop (k + 1)).flatten, ?_⟩
  have hl : k < ((List.range n).map F).length := by simpa using hk
  have e : (List.range n).map F = ((List.range n).map F).take k ++ ((List.range n).map F)[k] :: ((List.range n).map F).drop (k + 1) := by rw [List.getElem_cons_drop, List.take_append_drop]
  have e2 : ((List.range n).map F).take k = (List.range k).map F := by
    rw [← List.map_take, List.take_range, Nat.min_eq_left (Nat.le_of_lt hk)]
  have e3 : ((List.range n).map F)[k] = F k := by simp
  rw [e2, e3] at e
  rw [e]
  simp only [List.flatten_append, List.flatten_cons]
  rw [show (List.map F (List.range k) ++ F k :: List.drop (k + 1) (List.map F (List.range n))).drop (k + 1) = List.drop (k + 1) (List.map F (List.range n)) by rw [← e]]
theorem flat_next {α : Type} (F : Nat → List α) (k : Nat) : ((List.range (k + 1)).map F).flatten = ((List.range k).map F).flatten ++ F k := by
  rw [List.range_succ, List.map_append, List.flatten_append]
  simp

set_option maxRecDepth 100000 in
set_option maxHeartbeats 1000000 in
theorem numberRows_any (A : Option Addr) (n c : Nat) (w : World) :
    Calls Tryz.prog 116 #[.slice A n c] w fun e w' => e = .returned (.func (.func 149) #[] #[.pointer (some ⟨w.heap.size, 0, none⟩)]) ∧ w.alloc (.cells #[.slice A n c] 22) = w' := by
  have hmf : ∀ (fn : Fn) (first cap : Array Value) (w : World), (Instr.makeFunc fn first cap).run Tryz.prog w = .ok (.func fn first cap) w := fun _ _ _ _ => rfl
  go_enter Tryz.func116, Tryz.ntmps116
  go_wp2
  go_ret
  exact ⟨rfl, rfl⟩
/-- What the program's iterator over the rows below limits does, whoever takes them. -/
def NRows (ls : List Int) : Prop :=
  ∀ (l : Nat) (T : Nat → Prop) (J Jx : List (List Int) → (Nat → Prop) → World → Prop) (p1 : Nat) (lv : Value) (w : World), CliG (RowG w.heap.size) (rowsL ls) l T J Jx → T p1 → (∀ k, T k → k < w.heap.size) → Row w p1 22 [lv] → IntsIn w T lv ls → J [] (fun _ => False) w →
    Calls Tryz.prog 149 #[.func (.yield l) #[] #[], .pointer (some ⟨p1, 0, none⟩)] w fun e w' => (∃ v, e = .returned v) ∧ ((∃ O', J (rowsL ls) O' w') ∨ (∃ s' O', Jx s' O' w'))

set_option maxRecDepth 100000 in
set_option maxHeartbeats 1000000 in
theorem nrows_nil : NRows [] := by
  unfold NRows
  intro l T J Jx p1 lv w hC hT1 hTw hp1 hlv hJ
  obtain ⟨LA, LC, rfl, _⟩ := hlv
  have hb3 : Below w.heap.size w (w.alloc (.cells #[.func (.yield l) #[] #[]] 189)) := (Below.refl _ _).alloc (Nat.le_refl _) _
  have q1 := (hp1.alloc (.cells #[.func (.yield l) #[] #[]] 189)).cell 0
  simp only [List.getElem?_cons_zero] at q1
  have hJ3 := hC.give _ _ (fun _ => False) _ (hC.step _ _ _ _ hJ (kept_of hb3)) (fun _ h => h.elim)
  have hrow : RowG w.heap.size [] (fun _ => False) (w.alloc (.cells #[.func (.yield l) #[] #[]] 189)) #[.slice none 0 0] := ⟨_, rfl, fun _ => rfl, World.ownsRow_nil _ _ _ _, fun z hz => (by cases hz), fun b hb => (by simp [Value.ownBlock] at hb)⟩
  have hRd := fun n => hC.round [] [] _ _ _ hJ3 hrow ⟨[], rfl⟩ n
  have HR := Lib.hid hRd
  have hdd : ∀ k : Nat, (Fence.wide.depth.isSome = true → 1 ≤ k) := fun k h => by simp [Fence.wide] at h
  clear hC hTw hp1 hJ hJ3 hrow hRd hb3
  refine (callsIn_wide (n := 9)).1 ?_
  refine callsIn_of_wp_marks Tryz.func149 rfl trivial ?_ rfl
  simp only [Tryz.ntmps149, List.size_toArray, List.length_cons, List.length_nil, Nat.reduceAdd, Nat.reduceSub, Array.replicate_succ, Array.replicate_zero, List.push_toArray, List.append_toArray, List.nil_append, List.cons_append]
  obtain ⟨fn, tmps, assign, body, hy, hR⟩ := HR.out (9 - 1)
  clear HR
  gi_wp2
  refine RoundIn.mono hR ?_
  clear hR hy q1
  rintro e C (⟨rfl, -, hj⟩ | ⟨rfl, -, hj⟩)
  · have HFin : Hid ((∃ O', J (rowsL []) O' C) ∨ (∃ s' O', Jx s' O' C)) := .inl ⟨_, hj⟩
    clear hj
    gi_wp2
    exact leavesG (F := Fence.wide) (n := 9) (G := fun u => (∃ O', J (rowsL []) O' u) ∨ (∃ s' O', Jx s' O' u)) (fun _ => False) (fun _ _ h _ => h.elim) (fun u hG => ⟨_, results_none rfl _ _ _, ⟨_, rfl⟩, hG⟩) [] C List.nodup_nil (fun d hd => by cases hd) HFin.out
  · have HFin : Hid ((∃ O', J (rowsL []) O' C) ∨ (∃ s' O', Jx s' O' C)) := .inr ⟨_, _, hj⟩
    clear hj
    gi_wp2
    exact leavesG (F := Fence.wide) (n := 9) (G := fun u => (∃ O', J (rowsL []) O' u) ∨ (∃ s' O', Jx s' O' u)) (fun _ => False) (fun _ _ h _ => h.elim) (fun u hG => ⟨_, results_none rfl _ _ _, ⟨_, rfl⟩, hG⟩) [] C List.nodup_nil (fun d hd => by cases hd) HFin.out

theorem opIn_append {l n : Nat} {o : Oper} {a : Act} {w w' : World} {K : Act → World → Prop} {Q : Exit → Act → World → Prop} {s x : Operand} {v y r : Value} (ho : o.op = .call { callee := .builtin .append, args := #[s, x], argTypes := #[22, 22] }) (hs : a.eval s = v) (hx : a.eval x = y)
    (hrun : (Builtin.append_ #[22, 22] o.type #[v, y]).run Tryz.prog w = .ok r w') (h : K (a.put o.dst r) w') : Oper.wpIn (Fence.wide.inRound l) n Tryz.prog o a w K Q := by
  unfold Oper.wpIn
  refine ⟨fun _ _ => trivial, ?_⟩
  rw [Oper.semAt_plain (Fence.wide.inRound l) _ _ (by intro c hc; rw [ho] at hc; cases hc)]
  simp [execOp, ho, resolve, invoke, builtin, hs, hx, hrun, Result.andThen]
  exact h

theorem rowsL_len : ∀ (ls : List Int) (p : List Int), p ∈ rowsL ls → p.length = ls.length
  | [], p, h => by
    rw [rowsL, List.mem_singleton] at h
    rw [h]
  | n :: ns, p, h => by
    rw [rowsL] at h
    obtain ⟨l, hl, hp⟩ := List.mem_flatten.1 h
    obtain ⟨f, _, rfl⟩ := List.mem_map.1 hl
    obtain ⟨r, hr, rfl⟩ := List.mem_map.1 hp
    rw [List.length_cons, List.length_cons, rowsL_len ns r hr]
theorem run_append_ints {w : World} (base : Nat) (v : Value) (n : Nat) (xs : List Value) (hown : w.ownsRow base 3 1 v n xs) (lo hi : Nat) (A : Option Addr) (m c : Nat) (zs : List Int)
    (hz : IntsAt w lo hi (.slice A m c) zs) (hm : zs.length = m) (h63 : n + m ≤ 2097152) (hbase : base ≤ w.heap.size) (ty : TypeId) :
    ∃ VA VC w', (Builtin.append_ #[22, 22] ty #[v, .slice A m c]).run Tryz.prog w = .ok (.slice VA (n + m) VC) w' ∧ w'.ownsRow base 3 1 (.slice VA (n + m) VC) (n + m) (xs ++ zs.map (Value.int .i64)) ∧ w.grownBy w' v.ownBlock := by
  obtain ⟨i0, hi0, hz0, hz1, hz2⟩ := info_parts Tryz.infoInt
  subst hm
  rcases A with _ | ad
  · have hn : zs = [] := by
      rcases zs with _ | ⟨z, zs⟩
      · rfl
      · obtain ⟨b, off, e, _⟩ := hz.at_ (k := 0) (by simp)
        cases e
    subst hn
    obtain ⟨VA, VC, rfl⟩ := owns_form hown
    have hrun := run_append_owned_none' (P := Tryz.prog) (w := w) base 22 ty 3 i0 1 Tryz.underlying22 hi0 _ _ _ c hown
    exact ⟨VA, VC, w, by simpa using hrun, by simpa using hown, rfl, rfl, rfl, Nat.le_refl _, fun _ _ _ => rfl⟩
  · obtain ⟨v', w', hrun, ho, hg, _⟩ := run_append_own (P := Tryz.prog) (w := w) base 22 ty 3 i0 (.int .i64 0) 1 8 Tryz.underlying22 hi0 hz0 hz1 hz2 rfl (by decide) _ _ _ hown ad zs.length c (zs.map (Value.int .i64)) (by simp) hz.cells (ints_oneCell' zs) (by unfold maxLen; omega) (by omega) hbase
    obtain ⟨VA, VC, rfl⟩ := owns_form ho
    exact ⟨VA, VC, w', hrun, ho, hg⟩
/-- What holds of the world while a row is made and yielded. -/
def W8 (b : World) (k : Int) (p : List Int) (R : Bool → World → Prop) (x22 x24 x25 x26 : Value) : Nat → World → Prop
  | 0, u => Below b.heap.size b u
  | 1, u => Below b.heap.size b u ∧ u.ownsRow b.heap.size 3 1 x22 1 [.int .i64 k]
  | 2, u => Below b.heap.size b u ∧ u.ownsRow b.heap.size 3 1 x24 (p.length + 1) ((k :: p).map (Value.int .i64))
  | 3, u => ∃ bv : Bool, x25 = .bool bv ∧ R bv u
  | _ + 4, u => ∃ bv : Bool, x26 = .bool (!bv) ∧ R bv u
theorem W8.low {b u : World} {k : Int} {p : List Int} {R : Bool → World → Prop} {x22 x24 x25 x26 : Value} : ∀ {j : Nat}, j ≤ 2 → W8 b k p R x22 x24 x25 x26 j u → Below b.heap.size b u
  | 0, _, h => h
  | 1, _, h => h.1
  | 2, _, h => h.1
  | _ + 3, hj, _ => absurd hj (by omega)

theorem slice_tail (lb lf n LC : Nat) (h : n + 1 ≤ LC) (w : World) : (Instr.slice 22 (.slice (some ⟨lb, lf, none⟩) (n + 1) LC) (some (.int .i64 1)) none none).run Tryz.prog w = .ok (.slice (some ⟨lb, if LC = 1 then lf else lf + 1, none⟩) n (LC - 1)) w := by
  by_cases hL : LC = 1
  · subst hL
    obtain rfl : n = 0 := by omega
    simp [go_sem, Tryz.underlying22, Tryz.sizeOf3]
  · have h1 : 1 < LC := by omega
    have h4 : (1 : Int) ≤ (n : Int) + 1 := by omega
    rw [if_neg hL]
    simp [go_sem, Tryz.underlying22, Tryz.sizeOf3, h4]
    exact hL

set_option maxRecDepth 100000 in
set_option maxHeartbeats 4000000 in
theorem nrows_cons (n : Int) (ns : List Int) (h0 : 0 ≤ n) (h5 : n ≤ 5) (h2 : ns.length ≤ 1) (IH : NRows ns) : NRows (n :: ns) := by
  unfold NRows
  intro l T J Jx p1 lv w hC hT1 hTw hp1 hlv hJ
  obtain ⟨LA, LC, rfl, hlc, hmx, h64, hcl⟩ := hlv
  obtain ⟨lb, lf, rfl, hTb, hcells⟩ := hcl (by simp)
  have hlb := hTw lb hTb
  have hc0 := hcells 0 (by simp)
  simp only [List.getD_cons_zero, Nat.add_zero] at hc0
  rw [List.length_cons] at hlc hp1 hcells
  have HI := Lib.hid IH
  have HC := Lib.hid hC
  have HTw := Lib.hid hTw
  have HP1 := Lib.hid hp1
  have HJ := Lib.hid hJ
  have HCL := Lib.hid hcells
  have hb3 : Below w.heap.size w (w.alloc (.cells #[.func (.yield l) #[] #[]] 189)) := (Below.refl _ _).alloc (Nat.le_refl _) _
  have q1 := (hp1.alloc (.cells #[.func (.yield l) #[] #[]] 189)).cell 0
  simp only [List.getElem?_cons_zero] at q1
  have q2 : (w.alloc (.cells #[.func (.yield l) #[] #[]] 189)).cell? ⟨lb, lf, none⟩ = some (.int .i64 n) := (World.cell?_of_block (w := w) (hb3.block lb hlb)).trans hc0
  have HSt : Hid (StG T J w w.heap.size 189 (.func (.yield l) #[] #[]) [] (fun b => w.heap.size ≤ b ∧ b < w.heap.size + 1) [] (w.alloc (.cells #[.func (.yield l) #[] #[]] 189))) := by
    refine ⟨hC.give _ _ _ _ (hC.step _ _ _ _ hJ (kept_of hb3)) (fun b hb => .inr (by simpa using hb)), fun b hb => by simpa using hb, kept_of hb3, Row.new w _ _, ⟨Nat.le_refl _, by omega⟩, List.nodup_nil, fun d hd => (by cases hd)⟩
  have hne : ¬ ((ns.length : Int) + 1 = 0) := by omega
  obtain ⟨F, hF⟩ : ∃ F : Nat → List (List Int), F = fun f : Nat => (rowsL ns).map fun r => ((f : Nat) : Int) :: r := ⟨_, rfl⟩
  have hrows : rowsL (n :: ns) = ((List.range n.toNat).map F).flatten := by rw [hF]; rfl
  have HRW := Lib.hid hrows
  have HFF := Lib.hid hF
  clear hC hTw hp1 hJ hcells hb3 hcl hrows hF IH
  refine (callsIn_wide (n := 9)).1 ?_
  refine callsIn_of_wp_marks Tryz.func149 rfl trivial (wpIn_wide.2 ?_) rfl
  simp only [Tryz.ntmps149, List.size_toArray, List.length_cons, List.length_nil, Nat.reduceAdd, Nat.reduceSub, Array.replicate_succ, Array.replicate_zero, List.push_toArray, List.append_toArray, List.nil_append, List.cons_append]
  go_wp2_with fail
  obtain ⟨lf2, hlf2⟩ : ∃ x, x = if LC = 1 then lf else lf + 1 := ⟨_, rfl⟩
  have hst0 := slice_tail lb lf ns.length LC hlc
  rw [← hlf2] at hst0
  have HLF : Hid (0 < ns.length → lf2 = lf + 1) := fun h => by rw [hlf2, if_neg (by omega)]
  have Hst0 := Lib.hid hst0
  clear hst0 hlf2
  refine wp_loop (fun a' wr => ∃ (k : Nat) (ix u3 u7 u14 u15 u16 u17 u18 u27 : Value) (s : List (List Int)) (O : Nat → Prop) (dl : List Nat), k ≤ n.toNat ∧ ix = .int .i64 ((k : Nat) : Int) ∧ s = ((List.range k).map F).flatten ∧ Hid (StG T J w w.heap.size 189 (.func (.yield l) #[] #[]) s O dl wr) ∧ a' = { tmps := #[.func (.yield l) #[] #[], .pointer (some ⟨p1, 0, none⟩), .pointer (some ⟨w.heap.size, 0, none⟩), u3, undef, .slice (some ⟨lb, lf, none⟩) (ns.length + 1) LC, .int .i64 (((ns.length : Nat) : Int) + 1), u7, undef, undef, .slice (some ⟨lb, lf, none⟩) (ns.length + 1) LC, .pointer (some ⟨lb, lf, none⟩), .int .i64 n, ix, u14, u15, u16, u17, u18, undef, undef, undef, undef, undef, undef, undef, undef, u27], defers := mkD dl }) (fun a' _ => n.toNat - (intOf (a'.tmps.getD 13 undef)).toNat) ?_ ?_
  · exact ⟨0, _, undef, _, undef, undef, undef, undef, undef, undef, [], _, [], Nat.zero_le _, rfl, rfl, HSt.out, rfl⟩
  clear HSt q1 q2 hc0
  rintro a' wr ⟨k, ix, u3, u7, u14, u15, u16, u17, u18, u27, s, O, dl, hk, rfl, hs, hSt, rfl⟩
  dsimp only
  have hwr := hSt.out.kp.size
  have hr1 : Row wr p1 22 [.slice (some ⟨lb, lf, none⟩) (ns.length + 1) LC] := HP1.out.keep (hSt.out.kp.block p1 (HTw.out p1 hT1) hT1)
  by_cases hkl : k < n.toNat
  · have hkI : (k : Int) < n := by omega
    have q1 := (hr1.alloc (.cells #[.int .i64 ((k : Nat) : Int)] 3)).cell 0
    simp only [List.getElem?_cons_zero] at q1
    have HNA := Lib.hid (numberRows_any (some ⟨lb, lf2, none⟩) ns.length (LC - 1) (wr.alloc (.cells #[.int .i64 ((k : Nat) : Int)] 3)))
    rw [World.size_alloc] at HNA
    have hst1 := Hst0.out
    go_wp2_with fail
    refine HNA.out.mono ?_
    rintro e wx ⟨rfl, rfl⟩
    clear HNA q1
    obtain ⟨W2, hW2⟩ : ∃ u, u = (wr.alloc (.cells #[.int .i64 ((k : Nat) : Int)] 3)).alloc (.cells #[.slice (some ⟨lb, lf2, none⟩) ns.length (LC - 1)] 22) := ⟨_, rfl⟩
    have hd2 : W2.heap.size = wr.heap.size + 2 := by rw [hW2]; simp
    have hb2 : Below wr.heap.size wr W2 := by rw [hW2]; go_grown
    have r7 : Row W2 wr.heap.size 3 [.int .i64 ((k : Nat) : Int)] := by rw [hW2]; exact (Row.new wr _ _).alloc _
    have r9 : Row W2 (wr.heap.size + 1) 22 [.slice (some ⟨lb, lf2, none⟩) ns.length (LC - 1)] := by
      rw [hW2]
      have h := Row.new (wr.alloc (.cells #[.int .i64 ((k : Nat) : Int)] 3)) 22 [.slice (some ⟨lb, lf2, none⟩) ns.length (LC - 1)]
      rw [World.size_alloc] at h
      exact h
    have hSt2 := hSt.out.mine HC.out hb2
    obtain ⟨O2, hO2⟩ : ∃ O2 : Nat → Prop, O2 = fun b => O b ∨ (wr.heap.size ≤ b ∧ b < W2.heap.size) := ⟨_, rfl⟩
    rw [← hO2] at hSt2
    have HO2 : Hid (∀ b, O2 b ↔ O b ∨ (wr.heap.size ≤ b ∧ b < W2.heap.size)) := fun b => by rw [hO2]
    have HSt2 := Lib.hid hSt2
    have HR7 := Lib.hid r7
    have HR9 := Lib.hid r9
    have HB2 := Lib.hid hb2
    have HLB : Hid (W2.heap[lb]? = w.heap[lb]?) := (hb2.block lb (by omega)).trans (hSt.out.kp.block lb hlb hTb)
    clear hSt2 r7 r9 hb2 hr1 hO2
    go_wp2_with fail
    rw [← hW2]
    clear hW2 hst1
    have hTd : ∀ b, (T b ∨ O2 b) → b < W2.heap.size := fun b hb => hb.elim (fun h => by have := HTw.out b h; omega) (fun h => (HSt2.out.lo b h).2)
    refine wpIn_wide.1 (rangeG_law (n := 9) (R := RowG W2.heap.size) (fun vs => { tmps := #[.func (.yield l) #[] #[], .pointer (some ⟨p1, 0, none⟩), .pointer (some ⟨w.heap.size, 0, none⟩), .pointer (some ⟨wr.heap.size, 0, none⟩), vs.getD 0 undef, .slice (some ⟨lb, lf, none⟩) (ns.length + 1) LC, .int .i64 (((ns.length : Nat) : Int) + 1), u7, undef, undef, .slice (some ⟨lb, lf, none⟩) (ns.length + 1) LC, .pointer (some ⟨lb, lf, none⟩), .int .i64 n, .int .i64 ((k : Nat) : Int), .bool true, .int .i64 ((k : Nat) : Int), .slice (some ⟨lb, lf, none⟩) (ns.length + 1) LC, .slice (some ⟨lb, lf2, none⟩) ns.length (LC - 1), .func (.func 149) #[] #[.pointer (some ⟨wr.heap.size + 1, 0, none⟩)], vs.getD 0 undef, undef, undef, undef, undef, undef, undef, undef, u27], defers := [] }) (fun m O A vs k o' lp h hl => h.put hl) (fun m O A vs h => h.size) ?asg (gf := 149) (lb := #[.pointer (some ⟨wr.heap.size + 1, 0, none⟩)]) rfl (enters_of Tryz.func149 (by kernel_rfl) rfl) (fun b => T b ∨ O2 b) hTd (rowsL ns) (InG T J (fun r => ((k : Nat) : Int) :: r) s O2 W2.heap.size W2) (fun c _ => InXG Jx O2 W2.heap.size W2 c)
      (fun s' O' A' C' h _ _ _ hk => h.step HC.out hTd hk) (fun s' O' O'' A' h hs => h.give HC.out hs) (fun s' O' A' k' o' h h1 h2 => h.put HC.out hTd o' h1 h2) (fun c s' O' A' C' h _ _ hz hk => h.step HC.out hTd hz hk) (fun c s' O' O'' A' h hs => h.give HC.out hs) (fun c s' O' A' k' o' h h1 h2 => h.put HC.out hTd o' h1 h2)
      ?iter (fun W1 hb1 hs1 => InG.start HC.out rfl HSt2.out.j hb1 hs1) ?body ?done ?stop)
    case asg =>
      rintro l' m9 O9 vs W m' K ⟨v, rfl, -⟩ hK
      gi_wp2
      exact hK
    case iter =>
      intro l' J' Jx' W1 hcl hb1 hW1s hJ1
      have hs1 := hb1.size
      refine HI.out l' (fun b => T b ∨ O2 b) J' Jx' (wr.heap.size + 1) (.slice (some ⟨lb, lf2, none⟩) ns.length (LC - 1)) W1 (hcl.sub fun m O A vs h => h.low hs1) (.inr ((HO2.out _).2 (.inr (by omega)))) (fun b hb => by have := hTd b hb; omega) (HR9.out.below hb1 (by omega)) ?_ hJ1
      refine ⟨_, _, rfl, by omega, by omega, fun z hz => h64 z (List.mem_cons_of_mem _ hz), fun hp => ⟨lb, lf2, rfl, .inl hTb, fun q hq => ?_⟩⟩
      have hc := HCL.out (q + 1) (by simp; omega)
      rw [HLF.out hp, Nat.add_assoc, Nat.add_comm 1 q]
      rw [List.getD_cons_succ] at hc
      exact (World.cell?_of_block (w := w) ((hb1.block lb (by omega)).trans HLB.out)).trans hc
    case body =>
      rintro l' s' p vs O' A' m' hI ⟨v, rfl, hvn, hvo, hv64, hvO⟩ ⟨tt, htt⟩ n0 n1 hz
      have hdd : ∀ k : Nat, ((Fence.wide.inRound l').depth.isSome = true → 1 ≤ k) := fun k h => by simp [Fence.wide, Fence.inRound] at h
      gi_wp2_with fail
      obtain ⟨PA, PC, rfl⟩ := owns_form hvo
      have r3 : Row A' w.heap.size 189 [.func (.yield l) #[] #[]] := HSt2.out.row.keep (hI.kp.block _ HSt2.out.row.lt (.inr HSt2.out.o3))
      have rf : Row A' wr.heap.size 3 [.int .i64 ((k : Nat) : Int)] := HR7.out.keep (hI.kp.block _ HR7.out.lt (.inr ((HO2.out _).2 (.inr ⟨Nat.le_refl _, by omega⟩))))
      have HLD : Hid (∀ u : World, Below A'.heap.size A' u → u.cell? ⟨w.heap.size, 0, none⟩ = some (.func (.yield l) #[] #[]) ∧ u.cell? ⟨wr.heap.size, 0, none⟩ = some (.int .i64 ((k : Nat) : Int))) := fun u hu => ⟨(r3.below hu r3.lt).cell 0, (rf.below hu rf.lt).cell 0⟩
      obtain ⟨gv, hgo, hgl⟩ := OwnI.of_owns hvo
      have hvi := hgo.ints (lo := W2.heap.size) (hi := A'.heap.size) hv64 hgl
      have HVI : Hid (∀ u : World, Below A'.heap.size A' u → IntsAt u W2.heap.size A'.heap.size (.slice PA p.length PC) p) := fun u hu => hvi.below hu (Nat.le_refl _)
      have hfull : ∃ t, rowsL (n :: ns) = (s ++ s'.map fun r => ((k : Nat) : Int) :: r) ++ (((k : Nat) : Int) :: p) :: t := by
        obtain ⟨t, ht⟩ := flat_at F hkl
        refine ⟨(tt.map fun r => ((k : Nat) : Int) :: r) ++ t, ?_⟩
        rw [HRW.out, ht, ← hs]
        have e : F k = (s'.map fun r => ((k : Nat) : Int) :: r) ++ ((((k : Nat) : Int) :: p) :: (tt.map fun r => ((k : Nat) : Int) :: r)) := by
          rw [HFF.out]
          dsimp only
          rw [htt]
          simp
        rw [e]
        simp
      have hp3 : p.length ≤ 1 := by rw [rowsL_len ns p (by rw [htt]; simp)]; exact h2
      have hk64 : ∀ z ∈ ((k : Nat) : Int) :: p, I64 z := fun z hz => (List.mem_cons.1 hz).elim (fun e => by subst e; unfold I64; omega) (hv64 z)
      obtain ⟨R8, hR8⟩ : ∃ R8 : Bool → World → Prop, (fun bv C => ∃ B, Below A'.heap.size A' B ∧ ((bv = true ∧ Kept (fun b => (O2 b ∨ O' b ∨ b = W2.heap.size ∨ b = W2.heap.size + 1) ∨ T b) B C ∧ J ((s ++ s'.map fun r => ((k : Nat) : Int) :: r) ++ [((k : Nat) : Int) :: p]) (fun b => O2 b ∨ O' b ∨ b = W2.heap.size ∨ b = W2.heap.size + 1) C) ∨ (bv = false ∧ Kept (fun b => O2 b ∨ O' b ∨ b = W2.heap.size ∨ b = W2.heap.size + 1) B C ∧ Jx ((s ++ s'.map fun r => ((k : Nat) : Int) :: r) ++ [((k : Nat) : Int) :: p]) (fun b => O2 b ∨ O' b ∨ b = W2.heap.size ∨ b = W2.heap.size + 1) C))) = R8 := ⟨_, rfl⟩
      have HRO : Hid (∀ (u : World) (v2 : Value), Below A'.heap.size A' u → u.ownsRow A'.heap.size 3 1 v2 (p.length + 1) ((((k : Nat) : Int) :: p).map (Value.int .i64)) → YieldAt Fence.wide (m' - 1) Tryz.prog l #[v2] u fun e C => ∃ bv, e = .returned (.bool bv) ∧ R8 bv C) := fun u v2 hu ho => by
        refine (HC.out.round (s ++ s'.map fun r => ((k : Nat) : Int) :: r) (((k : Nat) : Int) :: p) #[v2] _ u (hI.ready HC.out hu) ⟨v2, rfl, fun h => (by cases h), ownsRow_lower ho (by have := HSt2.out.kp.size; omega), hk64, fun b hb => ?_⟩ hfull (m' - 1)).mono ?_
        · have h1 := (owns_lt ho b hb).1
          intro h
          rcases h with h | h | h | h
          · have := (HSt2.out.lo b h).2; omega
          · have := (hI.lo b h).2; omega
          · omega
          · omega
        · rintro e C (⟨rfl, hk, hj⟩ | ⟨rfl, hk, hj⟩)
          · exact ⟨true, rfl, by rw [← hR8]; exact ⟨u, hu, .inl ⟨rfl, hk, hj⟩⟩⟩
          · exact ⟨false, rfl, by rw [← hR8]; exact ⟨u, hu, .inr ⟨rfl, hk, hj⟩⟩⟩
      have HII := Lib.hid hI
      have HST : Hid (Below A'.heap.size A' A'.drew) := (Below.refl _ _).drew
      clear hI hvo hgo hgl hvi r3 rf hfull hk64 hvn hv64 hvO htt n0 n1
      rw [show (#[Value.slice PA p.length PC] : Array Value).getD 0 undef = .slice PA p.length PC from rfl]
      refine wpIn_region_inv (F := Fence.wide.inRound l') (by kernel_rfl) (fun dn ac u => ∃ x20 x21 x22 x23 x24 x25 x26, ac = ⟨List.toArray (.func (.yield l) #[] #[] :: .pointer (some ⟨p1, 0, none⟩) :: .pointer (some ⟨w.heap.size, 0, none⟩) :: .pointer (some ⟨wr.heap.size, 0, none⟩) :: .slice PA p.length PC :: .slice (some ⟨lb, lf, none⟩) (ns.length + 1) LC :: .int .i64 (((ns.length : Nat) : Int) + 1) :: u7 :: undef :: undef :: .slice (some ⟨lb, lf, none⟩) (ns.length + 1) LC :: .pointer (some ⟨lb, lf, none⟩) :: .int .i64 n :: .int .i64 ((k : Nat) : Int) :: .bool true :: .int .i64 ((k : Nat) : Int) :: .slice (some ⟨lb, lf, none⟩) (ns.length + 1) LC :: .slice (some ⟨lb, lf2, none⟩) ns.length (LC - 1) :: .func (.func 149) #[] #[.pointer (some ⟨wr.heap.size + 1, 0, none⟩)] :: .slice PA p.length PC :: x20 :: x21 :: x22 :: x23 :: x24 :: x25 :: x26 :: u27 :: []), []⟩ ∧ DetQ [fun v : Value => v = .func (.yield l) #[] #[], fun v : Value => v = .int .i64 ((k : Nat) : Int), fun v : Value => True, fun v : Value => v = .slice PA p.length PC, fun v : Value => True, fun v : Value => True, fun v : Value => True] dn [x20, x21, x22, x23, x24, x25, x26] ∧ Ch dn [2, 4, 5, 6] (W8 A' ((k : Nat) : Int) p R8 x22 x24 x25 x26) u ∧ (dn 5 = true → dn 0 = true) ∧ (dn 2 = true → dn 1 = true)) (of_decide_eq_true (by kernel_rfl)) ⟨_, _, _, _, _, _, _, rfl, DetQ.start (by rfl), Ch.start HST.out, (fun h => (by cases h)), (fun h => (by cases h))⟩ ?_ ?_
      · rintro dn ac u i8 op8 hop hfi hdep ⟨x20, x21, x22, x23, x24, x25, x26, rfl, hD, hC, hc0, hc1⟩
        have hil : i8 < 7 := by have := (Array.getElem?_eq_some_iff.1 hop).1; simpa using this
        obtain rfl | rfl | rfl | rfl | rfl | rfl | rfl : i8 = 0 ∨ i8 = 1 ∨ i8 = 2 ∨ i8 = 3 ∨ i8 = 4 ∨ i8 = 5 ∨ i8 = 6 := by omega
        all_goals
          obtain rfl := Option.some.inj hop
          refine wpOpIn_step8 hop fun K hK => ?_
          simp [Region.binds] at hdep
          clear hop
        · have hn : dn 5 = false := by
            cases h : dn 5 with
            | false => rfl
            | true => have h := hc0 h; rw [hfi] at h; cases h
          obtain ⟨j8, hj8, hW⟩ := hC.early 2 (by decide) hn
          have d1 := (HLD.out u (W8.low hj8 hW)).1
          refine det_yes rfl ?_
          have HD := Lib.hid hD
          have HC := Lib.hid hC
          clear hD hC
          unfold Oper.wpIn
          refine ⟨fun _ _ => trivial, ?_⟩
          rw [Oper.semAt_plain (Fence.wide.inRound l') _ _ (by intro c hc; cases hc)]
          go_simp
          exact hK _ _ ⟨_, _, _, _, _, _, _, rfl, HD.out.step 0 rfl rfl, HC.out.other 0 (by decide), (fun h => (by have h2 := hc0; have h3 := hfi; simp at h h2 ⊢; first | done | exact h2 h | exact Or.inr (h2 h) | simp [hdep] | (rcases h with h | h; · simp_all; · exact Or.inr (h2 h)) | simp_all)), (fun h => (by have h2 := hc1; have h3 := hfi; simp at h h2 ⊢; first | done | exact h2 h | exact Or.inr (h2 h) | simp [hdep] | (rcases h with h | h; · simp_all; · exact Or.inr (h2 h)) | simp_all))⟩
        · have hn : dn 2 = false := by
            cases h : dn 2 with
            | false => rfl
            | true => have h := hc1 h; rw [hfi] at h; cases h
          obtain ⟨j8, hj8, hW⟩ := hC.early 0 (by decide) hn
          have d1 := (HLD.out u (W8.low (Nat.le_trans hj8 (by decide)) hW)).2
          refine det_yes rfl ?_
          have HD := Lib.hid hD
          have HC := Lib.hid hC
          clear hD hC
          unfold Oper.wpIn
          refine ⟨fun _ _ => trivial, ?_⟩
          rw [Oper.semAt_plain (Fence.wide.inRound l') _ _ (by intro c hc; cases hc)]
          go_simp
          exact hK _ _ ⟨_, _, _, _, _, _, _, rfl, HD.out.step 1 rfl rfl, HC.out.other 1 (by decide), (fun h => (by have h2 := hc0; have h3 := hfi; simp at h h2 ⊢; first | done | exact h2 h | exact Or.inr (h2 h) | simp [hdep] | (rcases h with h | h; · simp_all; · exact Or.inr (h2 h)) | simp_all)), (fun h => (by have h2 := hc1; have h3 := hfi; simp at h h2 ⊢; first | done | exact h2 h | exact Or.inr (h2 h) | simp [hdep] | (rcases h with h | h; · simp_all; · exact Or.inr (h2 h)) | simp_all))⟩
        · obtain rfl : x21 = .int .i64 ((k : Nat) : Int) := hD.get (P := fun v : Value => v = .int .i64 ((k : Nat) : Int)) 1 (by simp [hdep]) rfl rfl
          have hW := hC.at_ 0 (by decide) hfi (by intro j9 e9 _; omega)
          refine det_yes rfl ?_
          have HD := Lib.hid hD
          have HC := Lib.hid hC
          clear hD hC
          have hbu : Below A'.heap.size A' u := hW
          clear hW
          unfold Oper.wpIn
          refine ⟨fun _ _ => trivial, ?_⟩
          rw [Oper.semAt_plain (Fence.wide.inRound l') _ _ (by intro c hc; cases hc)]
          go_simp
          have HW2 : (W8 A' ((k : Nat) : Int) p R8 (.slice (some ⟨u.heap.size, 0, none⟩) 1 1) x24 x25 x26) 1 (u.alloc (.cells #[.int .i64 ((k : Nat) : Int)] 3)) := ⟨hbu.alloc hbu.size _, World.ownsRow_lit u #[.int .i64 ((k : Nat) : Int)] 1 hbu.size (by unfold maxLen; omega) rfl⟩
          exact hK _ _ ⟨_, _, _, _, _, _, _, rfl, HD.out.step 2 rfl (by trivial), HC.out.next 0 (by decide) hfi (by intro j9 e9 _; omega) (by decide) HW2, (fun h => (by have h2 := hc0; have h3 := hfi; simp at h h2 ⊢; first | done | exact h2 h | exact Or.inr (h2 h) | simp [hdep] | (rcases h with h | h; · simp_all; · exact Or.inr (h2 h)) | simp_all)), (fun h => (by have h2 := hc1; have h3 := hfi; simp at h h2 ⊢; first | done | exact h2 h | exact Or.inr (h2 h) | simp [hdep] | (rcases h with h | h; · simp_all; · exact Or.inr (h2 h)) | simp_all))⟩
        · refine det_yes rfl ?_
          have HD := Lib.hid hD
          have HC := Lib.hid hC
          clear hD hC
          unfold Oper.wpIn
          refine ⟨fun _ _ => trivial, ?_⟩
          rw [Oper.semAt_plain (Fence.wide.inRound l') _ _ (by intro c hc; cases hc)]
          go_simp
          exact hK _ _ ⟨_, _, _, _, _, _, _, rfl, HD.out.step 3 rfl rfl, HC.out.other 3 (by decide), (fun h => (by have h2 := hc0; have h3 := hfi; simp at h h2 ⊢; first | done | exact h2 h | exact Or.inr (h2 h) | simp [hdep] | (rcases h with h | h; · simp_all; · exact Or.inr (h2 h)) | simp_all)), (fun h => (by have h2 := hc1; have h3 := hfi; simp at h h2 ⊢; first | done | exact h2 h | exact Or.inr (h2 h) | simp [hdep] | (rcases h with h | h; · simp_all; · exact Or.inr (h2 h)) | simp_all))⟩
        · obtain rfl : x23 = .slice PA p.length PC := hD.get (P := fun v : Value => v = .slice PA p.length PC) 3 (by simp [hdep]) rfl rfl
          have hW := hC.at_ 1 (by decide) hfi (by intro j9 e9 _; have f9 : j9 = 0 := (by omega); subst f9; simp [hdep])
          refine det_yes rfl ?_
          have HD := Lib.hid hD
          have HC := Lib.hid hC
          clear hD hC
          obtain ⟨hbu, ho8⟩ := hW
          obtain ⟨VA, VC, u9, hrun, ho9, hg9⟩ := run_append_ints A'.heap.size x22 1 [.int .i64 ((k : Nat) : Int)] ho8 _ _ PA p.length PC p (HVI.out u hbu) rfl (by omega) hbu.size 22
          have hb9 : Below A'.heap.size A' u9 := hbu.grown hg9 hbu.size (fun b hb => (owns_lt ho8 b hb).1)
          have HW2 : (W8 A' ((k : Nat) : Int) p R8 x22 (.slice VA (1 + p.length) VC) x25 x26) 2 u9 := ⟨hb9, by rw [Nat.add_comm 1 p.length] at ho9 ⊢; exact ho9⟩
          clear hbu ho8 ho9 hg9 hb9
          refine opIn_append rfl rfl rfl hrun ?_
          exact hK _ _ ⟨_, _, _, _, _, _, _, rfl, HD.out.step 4 rfl (by trivial), HC.out.next 1 (by decide) hfi (by intro j9 e9 _; have f9 : j9 = 0 := (by omega); subst f9; simp [hdep]) (by decide) HW2, (fun h => (by have h2 := hc0; have h3 := hfi; simp at h h2 ⊢; first | done | exact h2 h | exact Or.inr (h2 h) | simp [hdep] | (rcases h with h | h; · simp_all; · exact Or.inr (h2 h)) | simp_all)), (fun h => (by have h2 := hc1; have h3 := hfi; simp at h h2 ⊢; first | done | exact h2 h | exact Or.inr (h2 h) | simp [hdep] | (rcases h with h | h; · simp_all; · exact Or.inr (h2 h)) | simp_all))⟩
        · obtain rfl : x20 = .func (.yield l) #[] #[] := hD.get (P := fun v : Value => v = .func (.yield l) #[] #[]) 0 (by simp [hdep]) rfl rfl
          have hW := hC.at_ 2 (by decide) hfi (by intro j9 e9 _; have f9 : j9 = 1 := (by omega); subst f9; simp [hdep])
          refine det_yes rfl ?_
          have HD := Lib.hid hD
          have HC := Lib.hid hC
          clear hD hC
          obtain ⟨hbu, ho8⟩ := hW
          obtain ⟨fn, tmps, assign, body, hy, hR⟩ := HRO.out u x24 hbu ho8
          clear hbu ho8
          unfold Oper.wpIn
          refine ⟨fun _ _ => trivial, ?_⟩
          rw [Oper.semAt_plain (Fence.wide.inRound l') _ _ (by intro c hc; cases hc)]
          go_simp
          refine ⟨hdd _, RoundIn.mono (F := Fence.wide.inRound l') hR ?_⟩
          rintro e u2 ⟨bv, rfl, hfin⟩
          have HW2 : (W8 A' ((k : Nat) : Int) p R8 x22 x24 (.bool bv) x26) 3 u2 := ⟨bv, rfl, hfin⟩
          exact hK _ _ ⟨_, _, _, _, _, _, _, rfl, HD.out.step 5 rfl (by trivial), HC.out.next 2 (by decide) hfi (by intro j9 e9 _; have f9 : j9 = 1 := (by omega); subst f9; simp [hdep]) (by decide) HW2, (fun h => (by have h2 := hc0; have h3 := hfi; simp at h h2 ⊢; first | done | exact h2 h | exact Or.inr (h2 h) | simp [hdep] | (rcases h with h | h; · simp_all; · exact Or.inr (h2 h)) | simp_all)), (fun h => (by have h2 := hc1; have h3 := hfi; simp at h h2 ⊢; first | done | exact h2 h | exact Or.inr (h2 h) | simp [hdep] | (rcases h with h | h; · simp_all; · exact Or.inr (h2 h)) | simp_all))⟩
        · have hW := hC.at_ 3 (by decide) hfi (by intro j9 e9 _; have f9 : j9 = 2 := (by omega); subst f9; simp [hdep])
          refine det_yes rfl ?_
          have HD := Lib.hid hD
          have HC := Lib.hid hC
          clear hD hC
          obtain ⟨bv, rfl, hfin⟩ := hW
          unfold Oper.wpIn
          refine ⟨fun _ _ => trivial, ?_⟩
          rw [Oper.semAt_plain (Fence.wide.inRound l') _ _ (by intro c hc; cases hc)]
          go_simp
          have HW2 : (W8 A' ((k : Nat) : Int) p R8 x22 x24 (.bool bv) (.bool (!bv))) 4 u := ⟨bv, rfl, hfin⟩
          exact hK _ _ ⟨_, _, _, _, _, _, _, rfl, HD.out.step 6 rfl (by trivial), HC.out.next 3 (by decide) hfi (by intro j9 e9 _; have f9 : j9 = 2 := (by omega); subst f9; simp [hdep]) (by decide) HW2, (fun h => (by have h2 := hc0; have h3 := hfi; simp at h h2 ⊢; first | done | exact h2 h | exact Or.inr (h2 h) | simp [hdep] | (rcases h with h | h; · simp_all; · exact Or.inr (h2 h)) | simp_all)), (fun h => (by have h2 := hc1; have h3 := hfi; simp at h h2 ⊢; first | done | exact h2 h | exact Or.inr (h2 h) | simp [hdep] | (rcases h with h | h; · simp_all; · exact Or.inr (h2 h)) | simp_all))⟩
      · rintro dn ac u hall ⟨x20, x21, x22, x23, x24, x25, x26, rfl, hD, hC, hc0, hc1⟩
        obtain rfl : x20 = .func (.yield l) #[] #[] := hD.get (P := fun v : Value => v = .func (.yield l) #[] #[]) 0 (hall 0 (by decide)) rfl rfl
        obtain rfl : x21 = .int .i64 ((k : Nat) : Int) := hD.get (P := fun v : Value => v = .int .i64 ((k : Nat) : Int)) 1 (hall 1 (by decide)) rfl rfl
        obtain rfl : x23 = .slice PA p.length PC := hD.get (P := fun v : Value => v = .slice PA p.length PC) 3 (hall 3 (by decide)) rfl rfl
        have hW := hC.all (by intro j9 h9; exact hall _ (by revert j9; decide))
        clear hall hD hC hc0 hc1
        obtain ⟨bv, rfl, hfin⟩ := hW
        rw [← hR8] at hfin
        obtain ⟨B8, hB8, ⟨rfl, hk8, hj8⟩ | ⟨rfl, hk8, hj8⟩⟩ := hfin
        · have hN := HII.out.next hB8 hk8 hj8
          have HNN := Lib.hid hN
          clear hN hk8 hj8 hB8
          gi_wp2
          exact ⟨HNN.out.2, HNN.out.1⟩
        · have hN := HII.out.nextX hB8 hk8 hj8
          have HNN := Lib.hid hN
          clear hN hk8 hj8 hB8
          gi_wp2
          exact ⟨HNN.out.2, HNN.out.1⟩
    case done =>
      intro O9 W' hI hdef
      have hkW : Kept (fun b => O b ∨ T b) wr W' := kept_trans (kept_of HB2.out) (kept_sub hI.kp fun b _ hS => hS.elim (fun h => .inr ((HO2.out b).2 (.inl h))) .inl)
      have hSt3 := (hSt.out.move (O' := (fun b => O2 b ∨ O9 b ∨ b = W2.heap.size ∨ b = W2.heap.size + 1)) hkW (fun b h => .inl ((HO2.out b).2 (.inl h))) (fun b h => by
        have hz := hI.sz
        rcases h with h | h | h | h
        · have := HSt2.out.lo b h; omega
        · have := hI.lo b h; omega
        · omega
        · omega) hI.j).mark (d := W2.heap.size) (.inr (.inr (.inl rfl))) (fun h => by have := (hSt.out.lo _ (hSt.out.df _ h).1).2; omega) hdef
      have HSt3 := Lib.hid hSt3
      have hs' : s ++ (rowsL ns).map (fun r => ((k : Nat) : Int) :: r) = ((List.range (k + 1)).map F).flatten := by
        rw [flat_next, ← hs, HFF.out]
      have Hs' := Lib.hid hs'
      clear hkW hSt3 hI hdef hSt hs' hs
      go_wp2
      refine ⟨⟨k + 1, _, _, _, _, _, _, _, _, _, _, _, W2.heap.size :: dl, by omega, ?_, Hs'.out, HSt3.out, rfl⟩, ?_⟩
      · go_num
      simp [intOf]
      omega
    case stop =>
      intro c s9 O9 W' hX hdef
      obtain rfl := hX.ret
      have hkW : Kept O wr W' := kept_trans (kept_of HB2.out) (kept_sub hX.kp fun b _ h => (HO2.out b).2 (.inl h))
      have HFin : Hid (FinG J Jx (rowsL (n :: ns)) (fun b => O2 b ∨ O9 b ∨ b = W2.heap.size ∨ b = W2.heap.size + 1) W') := by
        obtain ⟨s3, hj⟩ := hX.j
        exact .inr ⟨s3, _, fun b h => h, hj⟩
      have Hnd : Hid ((W2.heap.size :: dl).Nodup) := List.nodup_cons.2 ⟨fun h => by have := (hSt.out.lo _ (hSt.out.df _ h).1).2; omega, hSt.out.nd⟩
      have Hdf : Hid (∀ d ∈ W2.heap.size :: dl, (fun b => O2 b ∨ O9 b ∨ b = W2.heap.size ∨ b = W2.heap.size + 1) d ∧ W'.heap[d]? = some (.deferred (some []))) := fun d hd => by
        rcases List.mem_cons.1 hd with e | e
        · subst e; exact ⟨.inr (.inr (.inl rfl)), hdef⟩
        · have h := hSt.out.df d e
          exact ⟨.inl ((HO2.out d).2 (.inl h.1)), (hkW.block d (hSt.out.lo d h.1).2 h.1).trans h.2⟩
      clear hX hdef hkW hSt hs hd2 HI HR7 HR9 HSt2
      refine wpIn_wide.2 ?_
      go_wp2
      exact leavesG (F := Fence.wide) (n := 9) (fun b => O2 b ∨ O9 b ∨ b = W2.heap.size ∨ b = W2.heap.size + 1) (fun u d hd hG => hG.put HC.out hd _) (fun u hG => ⟨_, results_none rfl _ _ _, ⟨_, rfl⟩, hG.out⟩) (W2.heap.size :: dl) W' Hnd.out Hdf.out HFin.out
  · have hkI : ¬ (k : Int) < n := by omega
    have hke : k = n.toNat := by omega
    have HFin : Hid (FinG J Jx (rowsL (n :: ns)) O wr) := .inl ⟨O, fun _ h => h, by rw [HRW.out, ← hke, ← hs]; exact hSt.out.j⟩
    clear hs hk hr1
    go_wp2
    exact leavesG (F := Fence.wide) (n := 9) O (fun u d hd hG => hG.put HC.out hd _) (fun u hG => ⟨_, results_none rfl _ _ _, ⟨_, rfl⟩, hG.out⟩) dl wr hSt.out.nd hSt.out.df HFin.out
theorem nrows_any : ∀ ls : List Int, ls.length ≤ 2 → (∀ z ∈ ls, 0 ≤ z ∧ z ≤ 5) → NRows ls
  | [], _, _ => nrows_nil
  | n :: ns, h2, hz => nrows_cons n ns (hz n (by simp)).1 (hz n (by simp)).2 (by simp at h2; omega) (nrows_any ns (by simp at h2 ⊢; omega) fun z h => hz z (List.mem_cons_of_mem _ h))
end Go.Proofs.YtnmbjmocnafekaaGreatDoor

namespace Go.Proofs.YtnmbjmocnafekaaGreatDoor
open Go.RowKit

/-- A name that a function can have. -/
def NameOk (s : ByteArray) : Prop := ∃ b : UInt8, s = ⟨#[b]⟩ ∧ 102 ≤ b.toNat ∧ b.toNat ≤ 107

/-- How many results a function with some types of arguments has: over the first k arguments. -/
def cellsTo (ss args : List Int) : Nat → Int
  | 0 => 1
  | k + 1 => cellsTo ss args k * ss.getD (args.getD k 0).toNat 0
def cellsI (ss args : List Int) : Int := cellsTo ss args args.length

/-- A function fits some sizes. -/
structure FuOk (ss : List Int) (f : Fu) : Prop where
  name : NameOk f.name
  few : f.args.length ≤ 2
  args : ∀ j, ∀ (hj : j < f.args.length), 0 ≤ f.args[j] ∧ f.args[j] < ss.length
  res : 0 ≤ f.res ∧ f.res < ss.length
  len : (f.table.length : Int) = cellsI ss f.args
  table : ∀ j, ∀ (hj : j < f.table.length), 0 ≤ f.table[j] ∧ f.table[j] < ss.getD f.res.toNat 0

/-- No two functions have the same name and the same types of arguments. -/
def Differ (fs : List Fu) : Prop := ∀ i k : Nat, i < fs.length → k < i → ¬ ((fs.getD i default).name = (fs.getD k default).name ∧ (fs.getD i default).args = (fs.getD k default).args)

structure SyOk (y : Sy) : Prop where
  ty : tyOk y.ty = true
  few : y.fs.length ≤ 8
  each : ∀ i, ∀ (hi : i < y.fs.length), FuOk y.ty.sizes y.fs[i]
  differ : Differ y.fs

open Classical in
noncomputable def fuB (ss : List Int) (f : Fu) : Bool := decide (FuOk ss f)
open Classical in
noncomputable def syB (y : Sy) : Bool := decide (SyOk y)
theorem fuB_yes {ss : List Int} {f : Fu} (h : FuOk ss f) : fuB ss f = true := by unfold fuB; exact @decide_eq_true _ (Classical.propDecidable _) h
theorem fuB_no {ss : List Int} {f : Fu} (h : ¬ FuOk ss f) : fuB ss f = false := by unfold fuB; exact @decide_eq_false _ (Classical.propDecidable _) h
theorem fuB_iff {ss : List Int} {f : Fu} : fuB ss f = true ↔ FuOk ss f := by unfold fuB; exact @decide_eq_true_iff _ (Classical.propDecidable _)
theorem syB_yes {y : Sy} (h : SyOk y) : syB y = true := by unfold syB; exact @decide_eq_true _ (Classical.propDecidable _) h
theorem syB_no {y : Sy} (h : ¬ SyOk y) : syB y = false := by unfold syB; exact @decide_eq_false _ (Classical.propDecidable _) h
theorem syB_iff {y : Sy} : syB y = true ↔ SyOk y := by unfold syB; exact @decide_eq_true_iff _ (Classical.propDecidable _)

/-- With valid sizes and two arguments at most, the product is small. -/
theorem cellsTo_small {ss args : List Int} (hok : sizesOk ss = true) (ha : ∀ j, ∀ (hj : j < args.length), 0 ≤ args[j] ∧ args[j] < ss.length) (hf : args.length ≤ 2) : ∀ k, k ≤ args.length → 1 ≤ cellsTo ss args k ∧ cellsTo ss args k ≤ 16 := by
  obtain ⟨_, _, hall⟩ := sizesOk_of hok
  have one : ∀ k, k < args.length → 1 ≤ ss.getD (args.getD k 0).toNat 0 ∧ ss.getD (args.getD k 0).toNat 0 ≤ 4 := fun k hk => by
    obtain ⟨h0, h1⟩ := ha k hk
    have e : args.getD k 0 = args[k] := by rw [List.getD_eq_getElem?_getD, List.getElem?_eq_getElem hk]; rfl
    have hlt : args[k].toNat < ss.length := by omega
    rw [e, List.getD_eq_getElem?_getD, List.getElem?_eq_getElem hlt]
    exact hall _ hlt
  intro k hk
  match k, hk with
  | 0, _ => exact ⟨by show (1 : Int) ≤ 1; omega, by show (1 : Int) ≤ 16; omega⟩
  | 1, hk =>
    have := one 0 (by omega)
    show 1 ≤ 1 * ss.getD (args.getD 0 0).toNat 0 ∧ 1 * ss.getD (args.getD 0 0).toNat 0 ≤ 16
    rw [Int.one_mul]
    omega
  | 2, hk =>
    have h0 := one 0 (by omega)
    have h1 := one 1 (by omega)
    show 1 ≤ 1 * ss.getD (args.getD 0 0).toNat 0 * ss.getD (args.getD 1 0).toNat 0 ∧ 1 * ss.getD (args.getD 0 0).toNat 0 * ss.getD (args.getD 1 0).toNat 0 ≤ 16
    rw [Int.one_mul]
    generalize ss.getD (args.getD 0 0).toNat 0 = p at *
    generalize ss.getD (args.getD 1 0).toNat 0 = q at *
    have hp : p = 1 ∨ p = 2 ∨ p = 3 ∨ p = 4 := by omega
    rcases hp with rfl | rfl | rfl | rfl <;> omega
  | k + 3, hk => omega
end Go.Proofs.YtnmbjmocnafekaaGreatDoor

