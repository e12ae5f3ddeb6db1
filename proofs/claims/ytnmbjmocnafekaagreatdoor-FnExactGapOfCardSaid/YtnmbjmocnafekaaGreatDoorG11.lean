/-
  The names of a system's functions, in order: the keys of a map, sorted.
  slices.Repeat of a row of one number, at most twice.
-/
import Derived.Test.YtnmbjmocnafekaaGreatDoorKeyS
import Derived.Test.YtnmbjmocnafekaaGreatDoorG10
import Derived.Test.YtnmbjmocnafekaaGreatDoorG4
import Derived.Lib.SlKeysI
import Derived.Sort.KeysCollected
import Derived.Test.YtnmbjmocnafekaaGreatDoorG7
import Derived.Test.YtnmbjmocnafekaaGreatDoorG6
import Derived.Laws.IdiomCopy
import Derived.BigQuiet
namespace Go.Proofs.YtnmbjmocnafekaaGreatDoor
open Go.RowKit Go.Maps Go.Sort Go.Shelf

theorem sortsInS (m : Nat) : AnyZ.SortsIn Tryz.prog sortedS_ren Fence.wide m :=
  ⟨fun blk off cap ss W hH hblk hsz => callsIn_wide.2 (AnyM.slices_Sort_string sortS blk off cap ss W hH hblk hsz),
   fun p cap W => callsIn_wide.2 (AnyM.slices_Sort_string_none sortS p cap W)⟩
theorem nodup_of {α : Type} [DecidableEq α] : ∀ l : List α, ∃ B : List α, B.Nodup ∧ (∀ x, x ∈ B ↔ x ∈ l) ∧ B.length ≤ l.length
  | [] => ⟨[], List.nodup_nil, fun _ => Iff.rfl, Nat.le_refl _⟩
  | a :: l => by
    obtain ⟨B, h1, h2, h3⟩ := nodup_of l
    by_cases ha : a ∈ B
    · refine ⟨B, h1, fun x => ?_, by simp; omega⟩
      rw [List.mem_cons, h2]
      refine ⟨.inr, fun h => h.elim (fun e => ?_) id⟩
      subst e
      exact (h2 _).1 ha
    · refine ⟨a :: B, List.nodup_cons.2 ⟨ha, h1⟩, fun x => ?_, by simp; omega⟩
      rw [List.mem_cons, List.mem_cons, h2]
noncomputable def namesL (y : Sy) : List (List UInt8) := y.fs.map fun f : Fu => f.name.data.toList
/-- The names of the functions, each once. -/
noncomputable def namesB (y : Sy) : List (List UInt8) := Classical.choose (nodup_of (namesL y))
theorem namesB_spec (y : Sy) : (namesB y).Nodup ∧ (∀ x, x ∈ namesB y ↔ x ∈ namesL y) ∧ (namesB y).length ≤ (namesL y).length := Classical.choose_spec (nodup_of (namesL y))
theorem namesB_len (y : Sy) : (namesB y).length ≤ y.fs.length := by
  have h := (namesB_spec y).2.2
  unfold namesL at h
  rw [List.length_map] at h
  exact h
theorem namesB_mem {y : Sy} {x : List UInt8} : x ∈ namesB y ↔ ∃ f ∈ y.fs, f.name.data.toList = x := by
  rw [(namesB_spec y).2.1]
  unfold namesL
  exact List.mem_map
/-- The names of the functions, in order. -/
noncomputable def namesY (y : Sy) : List (List UInt8) := (namesB y).mergeSort fun x z => decide (x ≤ z)
theorem namesY_mem {y : Sy} {x : List UInt8} : x ∈ namesY y ↔ ∃ i : Nat, ∃ hi : i < y.fs.length, y.fs[i].name = str x := by
  unfold namesY
  rw [(List.mergeSort_perm _ _).mem_iff, namesB_mem]
  constructor
  · rintro ⟨f, hf, rfl⟩
    obtain ⟨i, hi, rfl⟩ := List.mem_iff_getElem.1 hf
    exact ⟨i, hi, (str_list _).symm⟩
  · rintro ⟨i, hi, e⟩
    refine ⟨y.fs[i], List.getElem_mem hi, ?_⟩
    rw [e]
    simp [str]
theorem namesY_len (y : Sy) : (namesY y).length ≤ y.fs.length := by
  unfold namesY
  rw [List.length_mergeSort]
  exact namesB_len y
theorem namesB_perm {y : Sy} {D : DataW Unit} {w : World} {b base n : Nat} (hG : Grp y.fs y.fs.length D) (hnm : ∀ i, ∀ (hi : i < y.fs.length), y.fs[i].name.size ≤ maxLen) (hown : w.ownsGroups Tryz.prog 9 base 3 .i64 b n D) : (namesB y).Perm (strKeys D) ∧ w.ownsMap Tryz.prog 9 (rowElem w base 3 .i64) b n D := by
  obtain ⟨es, clock, hb, F, hs, hD, _⟩ := hown
  have hmo : w.ownsMap Tryz.prog 9 (rowElem w base 3 .i64) b n D := ⟨es, clock, hb, F, hs, hD⟩
  refine ⟨?_, hmo⟩
  obtain ⟨es1, e1, hp, _⟩ := hmo.entries lawStr
  obtain ⟨es2, e2, hk⟩ := hmo.keysOf
  clear hD hmo
  rw [e1] at e2 hG ⊢
  injection e2 with e2
  subst e2
  have hks : ∀ p ∈ es1, ∃ x : List UInt8, p.1 = .string x ∧ x.length ≤ maxLen := fun p hp' => by
    obtain ⟨v, hv⟩ := hk p hp'
    obtain ⟨x, _, h2, h3⟩ := Maps.keyOf_str Tryz.underlying9 hv
    exact ⟨x, h2, h3⟩
  refine perm_strKeys hp (fun p hp' => (hks p hp').imp fun x h => h.1) (namesB_spec y).1 fun x => ?_
  rw [namesB_mem]
  have hat : ∀ z : ByteArray, z.size ≤ maxLen → (Maps.has (.map es1 : DataW Unit) (kN z) = true ↔ ∃ f ∈ y.fs, f.name = z) := fun z hz => by
    rw [hG.has z hz]
    constructor
    · intro h
      obtain ⟨v, hv⟩ := List.exists_mem_of_ne_nil _ h
      obtain ⟨i, hi, e, _⟩ := idxs_mem.1 hv
      rw [getD_of hi] at e
      exact ⟨_, List.getElem_mem hi, e⟩
    · rintro ⟨f, hf, e⟩ h
      obtain ⟨i, hi, rfl⟩ := List.mem_iff_getElem.1 hf
      have : ((i : Nat) : Int) ∈ idxs y.fs y.fs.length z := idxs_mem.2 ⟨i, hi, by rw [getD_of hi]; exact e, rfl⟩
      rw [h] at this
      cases this
  have hsx : kN (str x) = .string x := by simp [kN, str]
  constructor
  · rintro ⟨f, hf, rfl⟩
    obtain ⟨i, hi, rfl⟩ := List.mem_iff_getElem.1 hf
    exact (hat y.fs[i].name (hnm i hi)).2 ⟨_, List.getElem_mem hi, rfl⟩
  · intro h
    have hl : (str x).size ≤ maxLen := by
      rw [has_eq, List.any_eq_true] at h
      obtain ⟨p, hp', hsk⟩ := h
      obtain ⟨z, hz, hzl⟩ := hks p hp'
      rw [hz] at hsk
      have e : z = x := by simpa [Lit.sameKey] using hsk
      rw [str_size, ← e]
      exact hzl
    rw [← hsx] at h
    obtain ⟨f, hf, e⟩ := (hat (str x) hl).1 h
    exact ⟨f, hf, by rw [e]; simp [str]⟩

/-- maps.Keys at a map of the program's. -/
theorem keysS_any (b : Nat) (W : World) : Calls Tryz.prog 114 #[.map (some b)] W fun e w' => e = .returned (.func (.func 148) #[] #[.pointer (some ⟨W.heap.size, 0, none⟩)]) ∧ W.alloc (.cells #[.map (some b)] 195) = w' :=
  (callsIn_wide.1 (AnyZ.keys_in keysS Fence.wide 5 trivial rfl (some b) W)).mono fun _e _w' h => ⟨h.1, h.2.symm⟩
theorem encStr_str (x : List UInt8) : encStr x = .string (str x) := rfl

set_option maxRecDepth 100000 in
set_option maxHeartbeats 2000000 in
/-- slices.Sorted at the keys of the map of names. -/
theorem sortedS_any (y : Sy) (b base n : Nat) (D : DataW Unit) (w : World) (hG : Grp y.fs y.fs.length D) (hnm : ∀ i, ∀ (hi : i < y.fs.length), y.fs[i].name.size ≤ maxLen) (hown : w.ownsGroups Tryz.prog 9 base 3 .i64 b n D) (hn : n ≤ 1048576) :
    Calls Tryz.prog 113 #[.func (.func 148) #[] #[.pointer (some ⟨w.heap.size, 0, none⟩)]] (w.alloc (.cells #[.map (some b)] 195)) fun e w' => ∃ v, e = .returned v ∧ Below (w.heap.size + 1) (w.alloc (.cells #[.map (some b)] 195)) w' ∧ w'.ownsRow (w.heap.size + 1) 9 1 v (namesY y).length ((namesY y).map fun x => .string (str x)) := by
  obtain ⟨hperm, hmo⟩ := namesB_perm hG hnm hown
  have hbl := hmo.lt
  have hsz := hmo.size_le
  have hmax : Maps.size D ≤ maxLen := by unfold maxLen; omega
  have hbytes : Maps.size D * 16 ≤ 140737488355328 := by omega
  have hseq : SeqGives Fence.wide 2 Tryz.prog 148 #[.pointer (some ⟨w.heap.size, 0, none⟩)] encStr (fun ss => ss.Perm (strKeys D)) (Maps.size D) (w.alloc (.cells #[.map (some b)] 195)) :=
    AnyZ.keys_gives (ρ := keysS_ren) { keysS with } Fence.wide _ trivial rfl (by omega) w.heap.size b n D _ (by simp) (by simp) (by
      obtain ⟨es, clock, hb, Ft, hs, hD⟩ := hmo
      exact ⟨es, clock, (Below.heap_alloc _ _ b hbl).trans hb, Ft, hs, hD⟩)
  have cS := AnyZ.sorted_in sortedS Fence.wide 5 trivial trivial trivial trivial rfl (by omega) (sortsInS _) (enters_of Tryz.func147 (by kernel_rfl) rfl) 148 #[.pointer (some ⟨w.heap.size, 0, none⟩)] trivial (enters_of Tryz.func148 (by kernel_rfl) rfl) _ _ hmax hbytes _ hseq
  change CallsIn _ _ Tryz.prog 113 _ _ _ at cS
  refine (callsIn_wide.1 cS).mono ?_
  rintro e w' ⟨v, ss, rfl, hS, hrow, hnil, hb⟩
  have e1 : ss.mergeSort (fun x z => decide (x ≤ z)) = namesY y := mergeSort_of_perm (hS.trans hperm.symm)
  have e2 : ss.length = (namesY y).length := by rw [← e1, List.length_mergeSort]
  rw [World.size_alloc] at hrow hb
  rw [e1, e2] at hrow
  exact ⟨v, rfl, hb, hrow⟩
end Go.Proofs.YtnmbjmocnafekaaGreatDoor

namespace Go.Proofs.YtnmbjmocnafekaaGreatDoor
open Go.RowKit

/-- What holds of the world before and behind the copy. -/
def WRp (b : World) (a : Addr) (v x : Value) : Nat → World → Prop
  | 0, u => Below b.heap.size b u ∧ x = .int .i64 1
  | 1, u => (∃ u0, Below b.heap.size b u0 ∧ u = u0.setCell a v) ∧ x = .int .i64 1
  | _ + 2, u => (∃ u0, Below b.heap.size b u0 ∧ u = u0.setCell a v) ∧ x = .int .i64 2
theorem WRp.one {b u : World} {a : Addr} {v x : Value} : ∀ {j : Nat}, j ≤ 1 → WRp b a v x j u → x = .int .i64 1
  | 0, _, h => h.2
  | 1, _, h => h.2
  | _ + 2, hj, _ => absurd hj (by omega)

set_option maxRecDepth 100000 in
set_option maxHeartbeats 1000000 in
theorem mul_any (n : Nat) (hn : n ≤ 2) (w : World) :
    Calls Tryz.prog 150 #[.int .u64 1, .int .u64 ((n : Nat) : Int)] w fun e w' => e = .returned (.tuple #[.int .u64 0, .int .u64 ((n : Nat) : Int)]) ∧ w = w' := by
  have h3 : n = 0 ∨ n = 1 ∨ n = 2 := by omega
  rcases h3 with rfl | rfl | rfl
  · go_enter Tryz.func150, Tryz.ntmps150
    go_wp2
    refine bodyPost_ret (v := .tuple #[.int .u64 0, .int .u64 0]) (by simp [results, Tryz.results150, go_sem]; kernel_rfl) rfl ?_
    exact ⟨rfl, rfl⟩
  · go_enter Tryz.func150, Tryz.ntmps150
    go_wp2
    refine bodyPost_ret (v := .tuple #[.int .u64 0, .int .u64 1]) (by simp [results, Tryz.results150, go_sem]; kernel_rfl) rfl ?_
    exact ⟨rfl, rfl⟩
  · go_enter Tryz.func150, Tryz.ntmps150
    go_wp2
    refine bodyPost_ret (v := .tuple #[.int .u64 0, .int .u64 2]) (by simp [results, Tryz.results150, go_sem]; kernel_rfl) rfl ?_
    exact ⟨rfl, rfl⟩
theorem make_ints (w : World) (n : Nat) (hn : n ≤ 2) : (Instr.makeSlice 22 (.int .i64 ((n : Nat) : Int)) (.int .i64 ((n : Nat) : Int))).run Tryz.prog w = .ok (.slice (some ⟨w.heap.size, 0, none⟩) n n) (w.alloc (.cells (List.replicate n (Value.int .i64 0)).toArray 3)) := by
  obtain ⟨i0, hi0, hz0, hz1, hz2⟩ := info_parts Tryz.infoInt
  have h := run_make (P := Tryz.prog) w 22 3 i0 _ Tryz.underlying22 hi0 hz0 .i64 .i64 ((n : Nat) : Int) ((n : Nat) : Int) (by omega) (Int.le_refl _) (by rw [hz2]; omega) (by omega)
  simp only [Int.toNat_natCast, hz1, Nat.mul_one] at h
  have e : (Value.int .i64 0).cells = #[Value.int .i64 0] := rfl
  rw [e, madeCells_one] at h
  exact h
theorem copy_one (W : World) (b o dLen dCap : Nat) (a : Addr) (sLen sCap : Nat) (v : Value) (hn : Nat.min sLen dLen = 1) (hs : W.cell? a = some v) (hc : (W.cell? ⟨b, o, none⟩).isSome = true) (hf : W.frozen? ⟨b, o, none⟩ = false) (h1 : v.oneCell' = true) :
    (Builtin.copy_ #[22, 22] 3 #[.slice (some ⟨b, o, none⟩) dLen dCap, .slice (some a) sLen sCap]).run Tryz.prog W = .ok (.int .i64 1) (W.setCell ⟨b, o, none⟩ v) := by
  have h := run_copy_cells (P := Tryz.prog) W 22 22 3 3 b o dLen dCap a sLen sCap [v] Tryz.underlying22 (by kernel_rfl) (by rw [hn]; rfl) (fun j u hj => by
    match j, hj with
    | 0, hj => simp at hj; subst hj; simpa [Addr.add] using hs) (fun j hj => by
    obtain rfl : j = 0 := by simp at hj; omega
    exact hc) (fun j hj => by
    obtain rfl : j = 0 := by simp at hj; omega
    exact hf) (fun u hu => by simp at hu; subst hu; exact h1)
  exact h

set_option maxRecDepth 100000 in
set_option maxHeartbeats 1000000 in
theorem repeat_zero (g : Nat) (_t : Int) (w : World) :
    Calls Tryz.prog 117 #[.slice (some ⟨g, 0, none⟩) 1 1, .int .i64 0] w fun e w' => e = .returned (.slice (some ⟨w.heap.size, 0, none⟩) 0 0) ∧ Below w.heap.size w w' := by
  have hmk : (Instr.makeSlice 22 (.int .i64 0) (.int .i64 0)).run Tryz.prog w = .ok (.slice (some ⟨w.heap.size, 0, none⟩) 0 0) (w.alloc (.cells #[] 3)) := by
    exact make_ints w 0 (by decide)
  have hcp : (Builtin.copy_ #[22, 22] 3 #[.slice (some ⟨w.heap.size, 0, none⟩) 0 0, .slice (some ⟨g, 0, none⟩) 1 1]).run Tryz.prog (w.alloc (.cells #[] 3)) = .ok (.int .i64 0) (w.alloc (.cells #[] 3)) :=
    run_copy_none (P := Tryz.prog) _ 22 22 3 3 _ _ 0 0 1 1 Tryz.underlying22 (by kernel_rfl) (by rfl)
  have HM := Lib.hid (mul_any 0 (by decide) w)
  go_enter Tryz.func117, Tryz.ntmps117
  go_wp2_with fail
  refine HM.out.mono ?_
  rintro e w2 ⟨rfl, rfl⟩
  go_wp2_with fail
  refine wp_loop_rounds 1 ?_
  rw [rounds_succ]
  go_wp2
  go_ret
  exact ⟨rfl, (Below.refl _ _).alloc (Nat.le_refl _) _⟩

set_option maxRecDepth 100000 in
set_option maxHeartbeats 1000000 in
theorem repeat_one (g : Nat) (t : Int) (w : World) (hg : g < w.heap.size) (hc : w.cell? ⟨g, 0, none⟩ = some (.int .i64 t)) :
    Calls Tryz.prog 117 #[.slice (some ⟨g, 0, none⟩) 1 1, .int .i64 1] w fun e w' => e = .returned (.slice (some ⟨w.heap.size, 0, none⟩) 1 1) ∧ Below w.heap.size w w' ∧ Row w' w.heap.size 3 [.int .i64 t] := by
  have hmk : (Instr.makeSlice 22 (.int .i64 1) (.int .i64 1)).run Tryz.prog w = .ok (.slice (some ⟨w.heap.size, 0, none⟩) 1 1) (w.alloc (.cells #[.int .i64 0] 3)) := by
    exact make_ints w 1 (by decide)
  have r1 : Row (w.alloc (.cells #[.int .i64 0] 3)) w.heap.size 3 [.int .i64 0] := Row.new _ _ _
  have hb : Below w.heap.size w (w.alloc (.cells #[.int .i64 0] 3)) := (Below.refl _ _).alloc (Nat.le_refl _) _
  have c0 := r1.cell 0
  simp only [List.getElem?_cons_zero] at c0
  have hcp := copy_one (w.alloc (.cells #[.int .i64 0] 3)) w.heap.size 0 1 1 ⟨g, 0, none⟩ 1 1 (.int .i64 t) rfl ((World.cell?_of_block (w := w) (hb.block g hg)).trans hc) (by rw [c0]; rfl) (r1.frozen 0) rfl
  obtain ⟨W2, hW2⟩ : ∃ u, u = (w.alloc (.cells #[.int .i64 0] 3)).setCell ⟨w.heap.size, 0, none⟩ (.int .i64 t) := ⟨_, rfl⟩
  have HB : Hid (Below w.heap.size w W2) := by show Below _ _ _; rw [hW2]; exact hb.setCell (Nat.le_refl _) _
  have HR : Hid (Row W2 w.heap.size 3 [.int .i64 t]) := by show Row _ _ _ _; rw [hW2]; exact r1.set_ 0 _
  rw [← hW2] at hcp
  have HM := Lib.hid (mul_any 1 (by decide) w)
  clear r1 hb c0 hc hW2
  go_enter Tryz.func117, Tryz.ntmps117
  go_wp2_with fail
  refine HM.out.mono ?_
  rintro e w2 ⟨rfl, rfl⟩
  go_wp2_with fail
  refine wp_loop_rounds 1 ?_
  rw [rounds_succ]
  go_wp2
  go_ret
  exact ⟨rfl, HB.out, HR.out⟩

set_option maxRecDepth 100000 in
set_option maxHeartbeats 1000000 in
theorem repeat_two (g : Nat) (t : Int) (w : World) (hg : g < w.heap.size) (hc : w.cell? ⟨g, 0, none⟩ = some (.int .i64 t)) :
    Calls Tryz.prog 117 #[.slice (some ⟨g, 0, none⟩) 1 1, .int .i64 2] w fun e w' => e = .returned (.slice (some ⟨w.heap.size, 0, none⟩) 2 2) ∧ Below w.heap.size w w' ∧ Row w' w.heap.size 3 [.int .i64 t, .int .i64 t] := by
  have hmk : (Instr.makeSlice 22 (.int .i64 2) (.int .i64 2)).run Tryz.prog w = .ok (.slice (some ⟨w.heap.size, 0, none⟩) 2 2) (w.alloc (.cells #[.int .i64 0, .int .i64 0] 3)) := by
    exact make_ints w 2 (by decide)
  have r1 : Row (w.alloc (.cells #[.int .i64 0, .int .i64 0] 3)) w.heap.size 3 [.int .i64 0, .int .i64 0] := Row.new _ _ _
  have hb : Below w.heap.size w (w.alloc (.cells #[.int .i64 0, .int .i64 0] 3)) := (Below.refl _ _).alloc (Nat.le_refl _) _
  have c0 := r1.cell 0
  simp only [List.getElem?_cons_zero] at c0
  have hcp := copy_one (w.alloc (.cells #[.int .i64 0, .int .i64 0] 3)) w.heap.size 0 2 2 ⟨g, 0, none⟩ 1 1 (.int .i64 t) rfl ((World.cell?_of_block (w := w) (hb.block g hg)).trans hc) (by rw [c0]; rfl) (r1.frozen 0) rfl
  obtain ⟨W2, hW2⟩ : ∃ u, u = (w.alloc (.cells #[.int .i64 0, .int .i64 0] 3)).setCell ⟨w.heap.size, 0, none⟩ (.int .i64 t) := ⟨_, rfl⟩
  have HB2 : Hid (Below w.heap.size w W2) := by show Below _ _ _; rw [hW2]; exact hb.setCell (Nat.le_refl _) _
  have HR2 : Hid (Row W2 w.heap.size 3 [.int .i64 t, .int .i64 0]) := by show Row _ _ _ _; rw [hW2]; exact r1.set_ 0 _
  rw [← hW2] at hcp
  have HM := Lib.hid (mul_any 2 (by decide) w)
  clear r1 hb c0 hc hW2
  go_enter Tryz.func117, Tryz.ntmps117
  go_wp2_with fail
  refine HM.out.mono ?_
  rintro e w2 ⟨rfl, rfl⟩
  go_wp2_with fail
  refine wp_loop_rounds 2 ?_
  rw [rounds_succ]
  go_wp2_with fail
  refine wp_region_inv (by kernel_rfl) (fun dn ac u => ∃ x38 x39 x40 x41 x42 x43 x44 x45 x46 x8, ac = ⟨List.toArray (.slice (some ⟨g, 0, none⟩) 1 1 :: .int .i64 2 :: undef :: undef :: .slice none 0 0 :: .int .u64 0 :: .int .u64 2 :: .slice (some ⟨w.heap.size, 0, none⟩) 2 2 :: x8 :: .int .i64 2 :: .bool false :: undef :: .tuple #[.int .u64 0, .int .u64 2] :: .slice (some ⟨g, 0, none⟩) 1 1 :: .int .i64 1 :: .int .u64 1 :: .int .i64 2 :: .int .u64 2 :: .tuple #[.int .u64 0, .int .u64 2] :: .int .u64 0 :: .int .u64 2 :: .int .u64 0 :: .bool false :: .bool false :: .int .u64 2 :: .bool false :: .bool false :: undef :: .int .u64 2 :: .int .i64 2 :: .slice (some ⟨w.heap.size, 0, none⟩) 2 2 :: .slice (some ⟨w.heap.size, 0, none⟩) 2 2 :: .slice (some ⟨g, 0, none⟩) 1 1 :: .int .i64 1 :: .int .i64 1 :: .slice (some ⟨w.heap.size, 0, none⟩) 2 2 :: .int .i64 2 :: .bool true :: x38 :: x39 :: x40 :: x41 :: x42 :: x43 :: x44 :: x45 :: x46 :: undef :: []), []⟩ ∧ DetQ [fun v : Value => v = .int .i64 1, fun v : Value => v = .slice (some ⟨w.heap.size, 0, none⟩) 2 2, fun v : Value => v = .int .i64 1, fun v : Value => v = .slice (some ⟨w.heap.size, 1, none⟩) 1 1, fun v : Value => v = .slice (some ⟨w.heap.size, 0, none⟩) 2 2, fun v : Value => v = .int .i64 1, fun v : Value => v = .slice (some ⟨w.heap.size, 0, none⟩) 1 2, fun v : Value => v = .int .i64 1, fun v : Value => v = .int .i64 2, fun v : Value => True] dn [x38, x39, x40, x41, x42, x43, x44, x45, x46, x8] ∧ Ch dn [7, 9] (WRp W2 ⟨w.heap.size, 1, none⟩ (.int .i64 t) x8) u ∧ (dn 9 = true → dn 8 = true) ∧ (dn 8 = true → dn 0 = true) ∧ (dn 8 = true → dn 7 = true) ∧ (dn 7 = true → dn 3 = true) ∧ (dn 3 = true → dn 2 = true) ∧ (dn 7 = true → dn 6 = true) ∧ (dn 6 = true → dn 5 = true)) (of_decide_eq_true (by kernel_rfl)) ⟨_, _, _, _, _, _, _, _, _, _, rfl, DetQ.start (by rfl), Ch.start (show (WRp W2 ⟨w.heap.size, 1, none⟩ (.int .i64 t) _) 0 W2.drew from ⟨(Below.refl _ _).drew, rfl⟩), (fun h => (by cases h)), (fun h => (by cases h)), (fun h => (by cases h)), (fun h => (by cases h)), (fun h => (by cases h)), (fun h => (by cases h)), (fun h => (by cases h))⟩ ?_ ?_
  · rintro dn ac u i8 op8 hop hfi hdep ⟨x38, x39, x40, x41, x42, x43, x44, x45, x46, x8, rfl, hD, hC, hc0, hc1, hc2, hc3, hc4, hc5, hc6⟩
    have hil : i8 < 10 := by have := (Array.getElem?_eq_some_iff.1 hop).1; simpa using this
    obtain rfl | rfl | rfl | rfl | rfl | rfl | rfl | rfl | rfl | rfl : i8 = 0 ∨ i8 = 1 ∨ i8 = 2 ∨ i8 = 3 ∨ i8 = 4 ∨ i8 = 5 ∨ i8 = 6 ∨ i8 = 7 ∨ i8 = 8 ∨ i8 = 9 := by omega
    all_goals
      obtain rfl := Option.some.inj hop
      refine wpOp_step hop fun K hK => ?_
      simp [Region.binds] at hdep
      clear hop
    · have hn : dn 9 = false := by
        cases h : dn 9 with
        | false => rfl
        | true => have h := hc0 h; have h := hc1 h; rw [hfi] at h; cases h
      obtain ⟨j8, hj8, hW⟩ := hC.early 1 (by decide) hn
      obtain rfl : x8 = .int .i64 1 := WRp.one hj8 hW
      clear hW
      refine det_yes rfl ?_
      have HD := Lib.hid hD
      have HC := Lib.hid hC
      clear hD hC
      unfold Oper.wp
      go_simp
      exact hK _ _ ⟨_, _, _, _, _, _, _, _, _, _, rfl, HD.out.step 0 rfl rfl, HC.out.other 0 (by decide), (fun h => (by have h2 := hc0; have h3 := hfi; simp at h h2 ⊢; first | done | exact h2 h | exact Or.inr (h2 h) | simp [hdep] | (rcases h with h | h; · simp_all; · exact Or.inr (h2 h)) | simp_all)), (fun h => (by have h2 := hc1; have h3 := hfi; simp at h h2 ⊢; first | done | exact h2 h | exact Or.inr (h2 h) | simp [hdep] | (rcases h with h | h; · simp_all; · exact Or.inr (h2 h)) | simp_all)), (fun h => (by have h2 := hc2; have h3 := hfi; simp at h h2 ⊢; first | done | exact h2 h | exact Or.inr (h2 h) | simp [hdep] | (rcases h with h | h; · simp_all; · exact Or.inr (h2 h)) | simp_all)), (fun h => (by have h2 := hc3; have h3 := hfi; simp at h h2 ⊢; first | done | exact h2 h | exact Or.inr (h2 h) | simp [hdep] | (rcases h with h | h; · simp_all; · exact Or.inr (h2 h)) | simp_all)), (fun h => (by have h2 := hc4; have h3 := hfi; simp at h h2 ⊢; first | done | exact h2 h | exact Or.inr (h2 h) | simp [hdep] | (rcases h with h | h; · simp_all; · exact Or.inr (h2 h)) | simp_all)), (fun h => (by have h2 := hc5; have h3 := hfi; simp at h h2 ⊢; first | done | exact h2 h | exact Or.inr (h2 h) | simp [hdep] | (rcases h with h | h; · simp_all; · exact Or.inr (h2 h)) | simp_all)), (fun h => (by have h2 := hc6; have h3 := hfi; simp at h h2 ⊢; first | done | exact h2 h | exact Or.inr (h2 h) | simp [hdep] | (rcases h with h | h; · simp_all; · exact Or.inr (h2 h)) | simp_all))⟩
    · refine det_yes rfl ?_
      have HD := Lib.hid hD
      have HC := Lib.hid hC
      clear hD hC
      unfold Oper.wp
      go_simp
      exact hK _ _ ⟨_, _, _, _, _, _, _, _, _, _, rfl, HD.out.step 1 rfl rfl, HC.out.other 1 (by decide), (fun h => (by have h2 := hc0; have h3 := hfi; simp at h h2 ⊢; first | done | exact h2 h | exact Or.inr (h2 h) | simp [hdep] | (rcases h with h | h; · simp_all; · exact Or.inr (h2 h)) | simp_all)), (fun h => (by have h2 := hc1; have h3 := hfi; simp at h h2 ⊢; first | done | exact h2 h | exact Or.inr (h2 h) | simp [hdep] | (rcases h with h | h; · simp_all; · exact Or.inr (h2 h)) | simp_all)), (fun h => (by have h2 := hc2; have h3 := hfi; simp at h h2 ⊢; first | done | exact h2 h | exact Or.inr (h2 h) | simp [hdep] | (rcases h with h | h; · simp_all; · exact Or.inr (h2 h)) | simp_all)), (fun h => (by have h2 := hc3; have h3 := hfi; simp at h h2 ⊢; first | done | exact h2 h | exact Or.inr (h2 h) | simp [hdep] | (rcases h with h | h; · simp_all; · exact Or.inr (h2 h)) | simp_all)), (fun h => (by have h2 := hc4; have h3 := hfi; simp at h h2 ⊢; first | done | exact h2 h | exact Or.inr (h2 h) | simp [hdep] | (rcases h with h | h; · simp_all; · exact Or.inr (h2 h)) | simp_all)), (fun h => (by have h2 := hc5; have h3 := hfi; simp at h h2 ⊢; first | done | exact h2 h | exact Or.inr (h2 h) | simp [hdep] | (rcases h with h | h; · simp_all; · exact Or.inr (h2 h)) | simp_all)), (fun h => (by have h2 := hc6; have h3 := hfi; simp at h h2 ⊢; first | done | exact h2 h | exact Or.inr (h2 h) | simp [hdep] | (rcases h with h | h; · simp_all; · exact Or.inr (h2 h)) | simp_all))⟩
    · have hn : dn 9 = false := by
        cases h : dn 9 with
        | false => rfl
        | true => have h := hc0 h; have h := hc2 h; have h := hc3 h; have h := hc4 h; rw [hfi] at h; cases h
      obtain ⟨j8, hj8, hW⟩ := hC.early 1 (by decide) hn
      obtain rfl : x8 = .int .i64 1 := WRp.one hj8 hW
      clear hW
      refine det_yes rfl ?_
      have HD := Lib.hid hD
      have HC := Lib.hid hC
      clear hD hC
      unfold Oper.wp
      go_simp
      exact hK _ _ ⟨_, _, _, _, _, _, _, _, _, _, rfl, HD.out.step 2 rfl rfl, HC.out.other 2 (by decide), (fun h => (by have h2 := hc0; have h3 := hfi; simp at h h2 ⊢; first | done | exact h2 h | exact Or.inr (h2 h) | simp [hdep] | (rcases h with h | h; · simp_all; · exact Or.inr (h2 h)) | simp_all)), (fun h => (by have h2 := hc1; have h3 := hfi; simp at h h2 ⊢; first | done | exact h2 h | exact Or.inr (h2 h) | simp [hdep] | (rcases h with h | h; · simp_all; · exact Or.inr (h2 h)) | simp_all)), (fun h => (by have h2 := hc2; have h3 := hfi; simp at h h2 ⊢; first | done | exact h2 h | exact Or.inr (h2 h) | simp [hdep] | (rcases h with h | h; · simp_all; · exact Or.inr (h2 h)) | simp_all)), (fun h => (by have h2 := hc3; have h3 := hfi; simp at h h2 ⊢; first | done | exact h2 h | exact Or.inr (h2 h) | simp [hdep] | (rcases h with h | h; · simp_all; · exact Or.inr (h2 h)) | simp_all)), (fun h => (by have h2 := hc4; have h3 := hfi; simp at h h2 ⊢; first | done | exact h2 h | exact Or.inr (h2 h) | simp [hdep] | (rcases h with h | h; · simp_all; · exact Or.inr (h2 h)) | simp_all)), (fun h => (by have h2 := hc5; have h3 := hfi; simp at h h2 ⊢; first | done | exact h2 h | exact Or.inr (h2 h) | simp [hdep] | (rcases h with h | h; · simp_all; · exact Or.inr (h2 h)) | simp_all)), (fun h => (by have h2 := hc6; have h3 := hfi; simp at h h2 ⊢; first | done | exact h2 h | exact Or.inr (h2 h) | simp [hdep] | (rcases h with h | h; · simp_all; · exact Or.inr (h2 h)) | simp_all))⟩
    · obtain rfl : x39 = .slice (some ⟨w.heap.size, 0, none⟩) 2 2 := hD.get (P := fun v : Value => v = .slice (some ⟨w.heap.size, 0, none⟩) 2 2) 1 (by simp [hdep]) rfl rfl
      obtain rfl : x40 = .int .i64 1 := hD.get (P := fun v : Value => v = .int .i64 1) 2 (by simp [hdep]) rfl rfl
      refine det_yes rfl ?_
      have HD := Lib.hid hD
      have HC := Lib.hid hC
      clear hD hC
      unfold Oper.wp
      go_simp
      exact hK _ _ ⟨_, _, _, _, _, _, _, _, _, _, rfl, HD.out.step 3 rfl rfl, HC.out.other 3 (by decide), (fun h => (by have h2 := hc0; have h3 := hfi; simp at h h2 ⊢; first | done | exact h2 h | exact Or.inr (h2 h) | simp [hdep] | (rcases h with h | h; · simp_all; · exact Or.inr (h2 h)) | simp_all)), (fun h => (by have h2 := hc1; have h3 := hfi; simp at h h2 ⊢; first | done | exact h2 h | exact Or.inr (h2 h) | simp [hdep] | (rcases h with h | h; · simp_all; · exact Or.inr (h2 h)) | simp_all)), (fun h => (by have h2 := hc2; have h3 := hfi; simp at h h2 ⊢; first | done | exact h2 h | exact Or.inr (h2 h) | simp [hdep] | (rcases h with h | h; · simp_all; · exact Or.inr (h2 h)) | simp_all)), (fun h => (by have h2 := hc3; have h3 := hfi; simp at h h2 ⊢; first | done | exact h2 h | exact Or.inr (h2 h) | simp [hdep] | (rcases h with h | h; · simp_all; · exact Or.inr (h2 h)) | simp_all)), (fun h => (by have h2 := hc4; have h3 := hfi; simp at h h2 ⊢; first | done | exact h2 h | exact Or.inr (h2 h) | simp [hdep] | (rcases h with h | h; · simp_all; · exact Or.inr (h2 h)) | simp_all)), (fun h => (by have h2 := hc5; have h3 := hfi; simp at h h2 ⊢; first | done | exact h2 h | exact Or.inr (h2 h) | simp [hdep] | (rcases h with h | h; · simp_all; · exact Or.inr (h2 h)) | simp_all)), (fun h => (by have h2 := hc6; have h3 := hfi; simp at h h2 ⊢; first | done | exact h2 h | exact Or.inr (h2 h) | simp [hdep] | (rcases h with h | h; · simp_all; · exact Or.inr (h2 h)) | simp_all))⟩
    · refine det_yes rfl ?_
      have HD := Lib.hid hD
      have HC := Lib.hid hC
      clear hD hC
      unfold Oper.wp
      go_simp
      exact hK _ _ ⟨_, _, _, _, _, _, _, _, _, _, rfl, HD.out.step 4 rfl rfl, HC.out.other 4 (by decide), (fun h => (by have h2 := hc0; have h3 := hfi; simp at h h2 ⊢; first | done | exact h2 h | exact Or.inr (h2 h) | simp [hdep] | (rcases h with h | h; · simp_all; · exact Or.inr (h2 h)) | simp_all)), (fun h => (by have h2 := hc1; have h3 := hfi; simp at h h2 ⊢; first | done | exact h2 h | exact Or.inr (h2 h) | simp [hdep] | (rcases h with h | h; · simp_all; · exact Or.inr (h2 h)) | simp_all)), (fun h => (by have h2 := hc2; have h3 := hfi; simp at h h2 ⊢; first | done | exact h2 h | exact Or.inr (h2 h) | simp [hdep] | (rcases h with h | h; · simp_all; · exact Or.inr (h2 h)) | simp_all)), (fun h => (by have h2 := hc3; have h3 := hfi; simp at h h2 ⊢; first | done | exact h2 h | exact Or.inr (h2 h) | simp [hdep] | (rcases h with h | h; · simp_all; · exact Or.inr (h2 h)) | simp_all)), (fun h => (by have h2 := hc4; have h3 := hfi; simp at h h2 ⊢; first | done | exact h2 h | exact Or.inr (h2 h) | simp [hdep] | (rcases h with h | h; · simp_all; · exact Or.inr (h2 h)) | simp_all)), (fun h => (by have h2 := hc5; have h3 := hfi; simp at h h2 ⊢; first | done | exact h2 h | exact Or.inr (h2 h) | simp [hdep] | (rcases h with h | h; · simp_all; · exact Or.inr (h2 h)) | simp_all)), (fun h => (by have h2 := hc6; have h3 := hfi; simp at h h2 ⊢; first | done | exact h2 h | exact Or.inr (h2 h) | simp [hdep] | (rcases h with h | h; · simp_all; · exact Or.inr (h2 h)) | simp_all))⟩
    · have hn : dn 9 = false := by
        cases h : dn 9 with
        | false => rfl
        | true => have h := hc0 h; have h := hc2 h; have h := hc5 h; have h := hc6 h; rw [hfi] at h; cases h
      obtain ⟨j8, hj8, hW⟩ := hC.early 1 (by decide) hn
      obtain rfl : x8 = .int .i64 1 := WRp.one hj8 hW
      clear hW
      refine det_yes rfl ?_
      have HD := Lib.hid hD
      have HC := Lib.hid hC
      clear hD hC
      unfold Oper.wp
      go_simp
      exact hK _ _ ⟨_, _, _, _, _, _, _, _, _, _, rfl, HD.out.step 5 rfl rfl, HC.out.other 5 (by decide), (fun h => (by have h2 := hc0; have h3 := hfi; simp at h h2 ⊢; first | done | exact h2 h | exact Or.inr (h2 h) | simp [hdep] | (rcases h with h | h; · simp_all; · exact Or.inr (h2 h)) | simp_all)), (fun h => (by have h2 := hc1; have h3 := hfi; simp at h h2 ⊢; first | done | exact h2 h | exact Or.inr (h2 h) | simp [hdep] | (rcases h with h | h; · simp_all; · exact Or.inr (h2 h)) | simp_all)), (fun h => (by have h2 := hc2; have h3 := hfi; simp at h h2 ⊢; first | done | exact h2 h | exact Or.inr (h2 h) | simp [hdep] | (rcases h with h | h; · simp_all; · exact Or.inr (h2 h)) | simp_all)), (fun h => (by have h2 := hc3; have h3 := hfi; simp at h h2 ⊢; first | done | exact h2 h | exact Or.inr (h2 h) | simp [hdep] | (rcases h with h | h; · simp_all; · exact Or.inr (h2 h)) | simp_all)), (fun h => (by have h2 := hc4; have h3 := hfi; simp at h h2 ⊢; first | done | exact h2 h | exact Or.inr (h2 h) | simp [hdep] | (rcases h with h | h; · simp_all; · exact Or.inr (h2 h)) | simp_all)), (fun h => (by have h2 := hc5; have h3 := hfi; simp at h h2 ⊢; first | done | exact h2 h | exact Or.inr (h2 h) | simp [hdep] | (rcases h with h | h; · simp_all; · exact Or.inr (h2 h)) | simp_all)), (fun h => (by have h2 := hc6; have h3 := hfi; simp at h h2 ⊢; first | done | exact h2 h | exact Or.inr (h2 h) | simp [hdep] | (rcases h with h | h; · simp_all; · exact Or.inr (h2 h)) | simp_all))⟩
    · obtain rfl : x42 = .slice (some ⟨w.heap.size, 0, none⟩) 2 2 := hD.get (P := fun v : Value => v = .slice (some ⟨w.heap.size, 0, none⟩) 2 2) 4 (by simp [hdep]) rfl rfl
      obtain rfl : x43 = .int .i64 1 := hD.get (P := fun v : Value => v = .int .i64 1) 5 (by simp [hdep]) rfl rfl
      refine det_yes rfl ?_
      have HD := Lib.hid hD
      have HC := Lib.hid hC
      clear hD hC
      unfold Oper.wp
      go_simp
      exact hK _ _ ⟨_, _, _, _, _, _, _, _, _, _, rfl, HD.out.step 6 rfl rfl, HC.out.other 6 (by decide), (fun h => (by have h2 := hc0; have h3 := hfi; simp at h h2 ⊢; first | done | exact h2 h | exact Or.inr (h2 h) | simp [hdep] | (rcases h with h | h; · simp_all; · exact Or.inr (h2 h)) | simp_all)), (fun h => (by have h2 := hc1; have h3 := hfi; simp at h h2 ⊢; first | done | exact h2 h | exact Or.inr (h2 h) | simp [hdep] | (rcases h with h | h; · simp_all; · exact Or.inr (h2 h)) | simp_all)), (fun h => (by have h2 := hc2; have h3 := hfi; simp at h h2 ⊢; first | done | exact h2 h | exact Or.inr (h2 h) | simp [hdep] | (rcases h with h | h; · simp_all; · exact Or.inr (h2 h)) | simp_all)), (fun h => (by have h2 := hc3; have h3 := hfi; simp at h h2 ⊢; first | done | exact h2 h | exact Or.inr (h2 h) | simp [hdep] | (rcases h with h | h; · simp_all; · exact Or.inr (h2 h)) | simp_all)), (fun h => (by have h2 := hc4; have h3 := hfi; simp at h h2 ⊢; first | done | exact h2 h | exact Or.inr (h2 h) | simp [hdep] | (rcases h with h | h; · simp_all; · exact Or.inr (h2 h)) | simp_all)), (fun h => (by have h2 := hc5; have h3 := hfi; simp at h h2 ⊢; first | done | exact h2 h | exact Or.inr (h2 h) | simp [hdep] | (rcases h with h | h; · simp_all; · exact Or.inr (h2 h)) | simp_all)), (fun h => (by have h2 := hc6; have h3 := hfi; simp at h h2 ⊢; first | done | exact h2 h | exact Or.inr (h2 h) | simp [hdep] | (rcases h with h | h; · simp_all; · exact Or.inr (h2 h)) | simp_all))⟩
    · obtain rfl : x41 = .slice (some ⟨w.heap.size, 1, none⟩) 1 1 := hD.get (P := fun v : Value => v = .slice (some ⟨w.heap.size, 1, none⟩) 1 1) 3 (by simp [hdep]) rfl rfl
      obtain rfl : x44 = .slice (some ⟨w.heap.size, 0, none⟩) 1 2 := hD.get (P := fun v : Value => v = .slice (some ⟨w.heap.size, 0, none⟩) 1 2) 6 (by simp [hdep]) rfl rfl
      have hW := hC.at_ 0 (by decide) hfi (by intro j9 e9 _; omega)
      refine det_yes rfl ?_
      have HD := Lib.hid hD
      have HC := Lib.hid hC
      clear hD hC
      obtain ⟨hbu, hx8⟩ := hW
      have hr8 := HR2.out.below hbu HR2.out.lt
      have c8 := hr8.cell 0
      have c9 := hr8.cell 1
      simp only [List.getElem?_cons_zero, List.getElem?_cons_succ] at c8 c9
      have hcp8 := copy_one u w.heap.size 1 1 1 ⟨w.heap.size, 0, none⟩ 1 2 (.int .i64 t) rfl c8 (by rw [c9]; rfl) (hr8.frozen 1) rfl
      have HW2 : (WRp W2 ⟨w.heap.size, 1, none⟩ (.int .i64 t) x8) 1 (u.setCell ⟨w.heap.size, 1, none⟩ (.int .i64 t)) := ⟨⟨u, hbu, rfl⟩, hx8⟩
      clear hr8 hx8
      unfold Oper.wp
      go_simp
      exact hK _ _ ⟨_, _, _, _, _, _, _, _, _, _, rfl, HD.out.step 7 rfl (by rfl), HC.out.next 0 (by decide) hfi (by intro j9 e9 _; omega) (by decide) HW2, (fun h => (by have h2 := hc0; have h3 := hfi; simp at h h2 ⊢; first | done | exact h2 h | exact Or.inr (h2 h) | simp [hdep] | (rcases h with h | h; · simp_all; · exact Or.inr (h2 h)) | simp_all)), (fun h => (by have h2 := hc1; have h3 := hfi; simp at h h2 ⊢; first | done | exact h2 h | exact Or.inr (h2 h) | simp [hdep] | (rcases h with h | h; · simp_all; · exact Or.inr (h2 h)) | simp_all)), (fun h => (by have h2 := hc2; have h3 := hfi; simp at h h2 ⊢; first | done | exact h2 h | exact Or.inr (h2 h) | simp [hdep] | (rcases h with h | h; · simp_all; · exact Or.inr (h2 h)) | simp_all)), (fun h => (by have h2 := hc3; have h3 := hfi; simp at h h2 ⊢; first | done | exact h2 h | exact Or.inr (h2 h) | simp [hdep] | (rcases h with h | h; · simp_all; · exact Or.inr (h2 h)) | simp_all)), (fun h => (by have h2 := hc4; have h3 := hfi; simp at h h2 ⊢; first | done | exact h2 h | exact Or.inr (h2 h) | simp [hdep] | (rcases h with h | h; · simp_all; · exact Or.inr (h2 h)) | simp_all)), (fun h => (by have h2 := hc5; have h3 := hfi; simp at h h2 ⊢; first | done | exact h2 h | exact Or.inr (h2 h) | simp [hdep] | (rcases h with h | h; · simp_all; · exact Or.inr (h2 h)) | simp_all)), (fun h => (by have h2 := hc6; have h3 := hfi; simp at h h2 ⊢; first | done | exact h2 h | exact Or.inr (h2 h) | simp [hdep] | (rcases h with h | h; · simp_all; · exact Or.inr (h2 h)) | simp_all))⟩
    · obtain rfl : x38 = .int .i64 1 := hD.get (P := fun v : Value => v = .int .i64 1) 0 (by simp [hdep]) rfl rfl
      obtain rfl : x45 = .int .i64 1 := hD.get (P := fun v : Value => v = .int .i64 1) 7 (by simp [hdep]) rfl rfl
      refine det_yes rfl ?_
      have HD := Lib.hid hD
      have HC := Lib.hid hC
      clear hD hC
      unfold Oper.wp
      go_simp
      exact hK _ _ ⟨_, _, _, _, _, _, _, _, _, _, rfl, HD.out.step 8 rfl rfl, HC.out.other 8 (by decide), (fun h => (by have h2 := hc0; have h3 := hfi; simp at h h2 ⊢; first | done | exact h2 h | exact Or.inr (h2 h) | simp [hdep] | (rcases h with h | h; · simp_all; · exact Or.inr (h2 h)) | simp_all)), (fun h => (by have h2 := hc1; have h3 := hfi; simp at h h2 ⊢; first | done | exact h2 h | exact Or.inr (h2 h) | simp [hdep] | (rcases h with h | h; · simp_all; · exact Or.inr (h2 h)) | simp_all)), (fun h => (by have h2 := hc2; have h3 := hfi; simp at h h2 ⊢; first | done | exact h2 h | exact Or.inr (h2 h) | simp [hdep] | (rcases h with h | h; · simp_all; · exact Or.inr (h2 h)) | simp_all)), (fun h => (by have h2 := hc3; have h3 := hfi; simp at h h2 ⊢; first | done | exact h2 h | exact Or.inr (h2 h) | simp [hdep] | (rcases h with h | h; · simp_all; · exact Or.inr (h2 h)) | simp_all)), (fun h => (by have h2 := hc4; have h3 := hfi; simp at h h2 ⊢; first | done | exact h2 h | exact Or.inr (h2 h) | simp [hdep] | (rcases h with h | h; · simp_all; · exact Or.inr (h2 h)) | simp_all)), (fun h => (by have h2 := hc5; have h3 := hfi; simp at h h2 ⊢; first | done | exact h2 h | exact Or.inr (h2 h) | simp [hdep] | (rcases h with h | h; · simp_all; · exact Or.inr (h2 h)) | simp_all)), (fun h => (by have h2 := hc6; have h3 := hfi; simp at h h2 ⊢; first | done | exact h2 h | exact Or.inr (h2 h) | simp [hdep] | (rcases h with h | h; · simp_all; · exact Or.inr (h2 h)) | simp_all))⟩
    · obtain rfl : x46 = .int .i64 2 := hD.get (P := fun v : Value => v = .int .i64 2) 8 (by simp [hdep]) rfl rfl
      have hW := hC.at_ 1 (by decide) hfi (by intro j9 e9 _; have f9 : j9 = 0 := (by omega); subst f9; simp [hdep])
      refine det_yes rfl ?_
      have HD := Lib.hid hD
      have HC := Lib.hid hC
      clear hD hC
      obtain ⟨hu0, hx8⟩ := hW
      clear hx8
      unfold Oper.wp
      go_simp
      have HW2 : (WRp W2 ⟨w.heap.size, 1, none⟩ (.int .i64 t) (.int .i64 2)) 2 u := ⟨hu0, rfl⟩
      exact hK _ _ ⟨_, _, _, _, _, _, _, _, _, _, rfl, HD.out.step 9 rfl (by trivial), HC.out.next 1 (by decide) hfi (by intro j9 e9 _; have f9 : j9 = 0 := (by omega); subst f9; simp [hdep]) (by decide) HW2, (fun h => (by have h2 := hc0; have h3 := hfi; simp at h h2 ⊢; first | done | exact h2 h | exact Or.inr (h2 h) | simp [hdep] | (rcases h with h | h; · simp_all; · exact Or.inr (h2 h)) | simp_all)), (fun h => (by have h2 := hc1; have h3 := hfi; simp at h h2 ⊢; first | done | exact h2 h | exact Or.inr (h2 h) | simp [hdep] | (rcases h with h | h; · simp_all; · exact Or.inr (h2 h)) | simp_all)), (fun h => (by have h2 := hc2; have h3 := hfi; simp at h h2 ⊢; first | done | exact h2 h | exact Or.inr (h2 h) | simp [hdep] | (rcases h with h | h; · simp_all; · exact Or.inr (h2 h)) | simp_all)), (fun h => (by have h2 := hc3; have h3 := hfi; simp at h h2 ⊢; first | done | exact h2 h | exact Or.inr (h2 h) | simp [hdep] | (rcases h with h | h; · simp_all; · exact Or.inr (h2 h)) | simp_all)), (fun h => (by have h2 := hc4; have h3 := hfi; simp at h h2 ⊢; first | done | exact h2 h | exact Or.inr (h2 h) | simp [hdep] | (rcases h with h | h; · simp_all; · exact Or.inr (h2 h)) | simp_all)), (fun h => (by have h2 := hc5; have h3 := hfi; simp at h h2 ⊢; first | done | exact h2 h | exact Or.inr (h2 h) | simp [hdep] | (rcases h with h | h; · simp_all; · exact Or.inr (h2 h)) | simp_all)), (fun h => (by have h2 := hc6; have h3 := hfi; simp at h h2 ⊢; first | done | exact h2 h | exact Or.inr (h2 h) | simp [hdep] | (rcases h with h | h; · simp_all; · exact Or.inr (h2 h)) | simp_all))⟩
  · rintro dn ac u hall ⟨x38, x39, x40, x41, x42, x43, x44, x45, x46, x8, rfl, hD, hC, hc0, hc1, hc2, hc3, hc4, hc5, hc6⟩
    obtain rfl : x38 = .int .i64 1 := hD.get (P := fun v : Value => v = .int .i64 1) 0 (hall 0 (by decide)) rfl rfl
    obtain rfl : x39 = .slice (some ⟨w.heap.size, 0, none⟩) 2 2 := hD.get (P := fun v : Value => v = .slice (some ⟨w.heap.size, 0, none⟩) 2 2) 1 (hall 1 (by decide)) rfl rfl
    obtain rfl : x40 = .int .i64 1 := hD.get (P := fun v : Value => v = .int .i64 1) 2 (hall 2 (by decide)) rfl rfl
    obtain rfl : x41 = .slice (some ⟨w.heap.size, 1, none⟩) 1 1 := hD.get (P := fun v : Value => v = .slice (some ⟨w.heap.size, 1, none⟩) 1 1) 3 (hall 3 (by decide)) rfl rfl
    obtain rfl : x42 = .slice (some ⟨w.heap.size, 0, none⟩) 2 2 := hD.get (P := fun v : Value => v = .slice (some ⟨w.heap.size, 0, none⟩) 2 2) 4 (hall 4 (by decide)) rfl rfl
    obtain rfl : x43 = .int .i64 1 := hD.get (P := fun v : Value => v = .int .i64 1) 5 (hall 5 (by decide)) rfl rfl
    obtain rfl : x44 = .slice (some ⟨w.heap.size, 0, none⟩) 1 2 := hD.get (P := fun v : Value => v = .slice (some ⟨w.heap.size, 0, none⟩) 1 2) 6 (hall 6 (by decide)) rfl rfl
    obtain rfl : x45 = .int .i64 1 := hD.get (P := fun v : Value => v = .int .i64 1) 7 (hall 7 (by decide)) rfl rfl
    obtain rfl : x46 = .int .i64 2 := hD.get (P := fun v : Value => v = .int .i64 2) 8 (hall 8 (by decide)) rfl rfl
    have hW := hC.all (by intro j9 h9; exact hall _ (by revert j9; decide))
    clear hall hD hC hc0 hc1 hc2 hc3 hc4 hc5 hc6
    obtain ⟨⟨u0, hbu, rfl⟩, rfl⟩ := hW
    have HB3 : Hid (Below w.heap.size w (u0.setCell ⟨w.heap.size, 1, none⟩ (.int .i64 t))) := (HB2.out.trans (hbu.mono HB2.out.size)).setCell (Nat.le_refl _) _
    have HR3 : Hid (Row (u0.setCell ⟨w.heap.size, 1, none⟩ (.int .i64 t)) w.heap.size 3 [.int .i64 t, .int .i64 t]) := (HR2.out.below hbu HR2.out.lt).set_ 1 _
    clear hbu
    generalize u0.setCell ⟨w.heap.size, 1, none⟩ (.int .i64 t) = u9 at HB3 HR3 ⊢
    go_wp2_with fail
    rw [rounds_succ]
    go_wp2
    go_ret
    exact ⟨rfl, HB3.out, HR3.out⟩
end Go.Proofs.YtnmbjmocnafekaaGreatDoor

