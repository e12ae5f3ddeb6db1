/-
  The contracts of strconv.Itoa, strings.Join, strings.Builder at this program's numbers; of the program's numbersText.
-/
import Derived.Test.YtfcekbjoagogdaaDoorTxd
import Derived.Test.YtfcekbjoagogdaaDoorLay
import Derived.Test.YtfcekbjoagogdaaDoorTo
import Derived.BigCall
namespace Go.Proofs.YtfcekbjoagogdaaDoor
open Go.RowKit

theorem layX : Builder.Extra Tryd.prog lays156_ren := {
  sizeBuilder := by kernel_rfl
  liesBuilder := by kernel_rfl
  t5 := Tryd.underlying5
  a5 := Tryd.isAgg5
  z5 := Tryd.sizeOf5
  v5 := Tryd.zeroValue5
  infoByte := by kernel_rfl
  cellsByte := by kernel_rfl
  sizeByte := by kernel_rfl
  neB5 := by decide }
theorem layX7 : Builder.Extra Tryd.prog lays167_ren := {
  sizeBuilder := by kernel_rfl
  liesBuilder := by kernel_rfl
  t5 := Tryd.underlying5
  a5 := Tryd.isAgg5
  z5 := Tryd.sizeOf5
  v5 := Tryd.zeroValue5
  infoByte := by kernel_rfl
  cellsByte := by kernel_rfl
  sizeByte := by kernel_rfl
  neB5 := by decide }
theorem layX9 : Builder.Extra Tryd.prog lays169_ren := {
  sizeBuilder := by kernel_rfl
  liesBuilder := by kernel_rfl
  t5 := Tryd.underlying5
  a5 := Tryd.isAgg5
  z5 := Tryd.sizeOf5
  v5 := Tryd.zeroValue5
  infoByte := by kernel_rfl
  cellsByte := by kernel_rfl
  sizeByte := by kernel_rfl
  neB5 := by decide }

theorem itoa_any (z : Int) (hz : Dig z) (w : World) :
    Calls Tryd.prog 75 #[.int .i64 z] w fun e w' => e = .returned (.string (str (dg z))) ∧ w' = w := by
  obtain ⟨h0, h9⟩ := hz
  obtain ⟨n, rfl⟩ : ∃ n : Nat, z = n := ⟨z.toNat, by omega⟩
  refine (Any.strconv_Itoa_small lays171 n (by omega) w).mono ?_
  rintro e w' ⟨rfl, rfl⟩
  refine ⟨?_, rfl⟩
  rw [dg_dec (by omega)]
  rfl

theorem join_any (b c : Nat) (zs : List Int) (w : World) (hcells : ∀ j, ∀ (hj : j < zs.length), w.cell? ⟨b, j, none⟩ = some (.string (str (dg zs[j])))) (hb : b < w.heap.size) (hn : zs.length ≤ 1048576) (hc : zs.length ≤ c) :
    Calls Tryd.prog 76 #[.slice (some ⟨b, 0, none⟩) zs.length c, .string ⟨#[32]⟩] w fun e w' => e = .returned (.string (str (numsT zs))) ∧ Below w.heap.size w w' := by
  have hm : (zs.map fun z => str (dg z)).map (·.data.toList) = zs.map dg := by
    rw [List.map_map]
    apply List.map_congr_left
    intro z _
    simp [str]
  have hl := numsT_len zs
  have h := Any.strings_Join lays156 layX b 0 c (zs.map fun z => str (dg z)) ⟨#[32]⟩ w (fun j x hx => by
    rw [List.getElem?_map] at hx
    obtain ⟨z, hz, rfl⟩ := Option.map_eq_some_iff.1 hx
    obtain ⟨hj, rfl⟩ := List.getElem?_eq_some_iff.1 hz
    rw [Nat.zero_add]
    exact hcells j hj) hb (by rw [List.length_map]; omega) (by rw [List.length_map]; exact hc) (by rw [hm]; show (Lib.join (zs.map dg) [32]).length ≤ _; rw [join_numsT]; omega)
  rw [List.length_map, hm] at h
  refine Calls.mono h ?_
  rintro e w' ⟨rfl, hb'⟩
  refine ⟨?_, hb'⟩
  show Ending.returned (.string ⟨(Lib.join (zs.map dg) [32]).toArray⟩) = _
  rw [join_numsT]
  rfl

set_option maxRecDepth 100000 in
set_option maxHeartbeats 2000000 in
theorem implNums_any (lo hi : Nat) (v : Value) (zs : List Int) (w : World) (hv : IntsAt w lo hi v zs) (hB : hi ≤ w.heap.size) (hd : ∀ z ∈ zs, Dig z) (hn : zs.length ≤ 1048576) :
    Calls Tryd.prog 37 #[v] w fun e w' => e = .returned (.string (str (numsT zs))) ∧ Below w.heap.size w w' := by
  obtain ⟨A, cap, rfl, hl1, hm1, hi1⟩ := hv.form
  have Hi1 := Lib.hid hi1
  clear hi1 hv
  have hmk : Hid ((Instr.makeSlice 98 (.int .i64 zs.length) (.int .i64 zs.length)).run Tryd.prog w = .ok (.slice (some ⟨w.heap.size, 0, none⟩) zs.length zs.length) (w.alloc (.cells (List.replicate zs.length (Value.string ⟨#[]⟩)).toArray 9))) := by
    have hinfo : (Tryd.prog.info? 9).map (fun i => (i.zero, i.size, i.bytes)) = some (some (.string ⟨#[]⟩), 1, 16) := by kernel_rfl
    obtain ⟨i, hi, hz, hs, hy⟩ := info_parts hinfo
    have h := run_make (P := Tryd.prog) w 98 9 i _ Tryd.underlying98 hi hz .i64 .i64 (zs.length : Int) (zs.length : Int) (by omega) (Int.le_refl _) (by rw [hy]; omega) (by omega)
    simp only [Int.toNat_natCast, hs, Nat.mul_one] at h
    have e : (Value.string ⟨#[]⟩).cells = #[Value.string ⟨#[]⟩] := rfl
    rw [e, madeCells_one] at h
    exact h
  have hR : Row (w.alloc (.cells (List.replicate zs.length (Value.string ⟨#[]⟩)).toArray 9)) w.heap.size 9 (List.replicate zs.length (Value.string ⟨#[]⟩)) := Row.new _ _ _
  have HR := Lib.hid hR
  clear hR
  go_enter Tryd.func37, Tryd.ntmps37
  go_wp2_with fail
  rw [hmk.out]
  go_wp2_with fail
  go_loopw [11] (fun i wr => ∃ k : Nat, k ≤ zs.length ∧ i = .int .i64 k ∧ Hid (Below w.heap.size w wr) ∧ Hid (∃ cs : List Value, cs.length = zs.length ∧ Row wr w.heap.size 9 cs ∧ ∀ j, j < k → ∀ (hj : j < zs.length), cs[j]? = some (.string (str (dg zs[j]))))) (fun i _ => zs.length - (intOf i).toNat)
  case atStart => exact ⟨0, Nat.zero_le _, rfl, (Below.refl _ w).alloc (Nat.le_refl _) _, _, by simp, HR.out, fun j hj => absurd hj (by omega)⟩
  case round =>
    obtain ⟨k, hk, rfl, hbr, hcs⟩ := hrel
    by_cases hkl : k < zs.length
    · obtain ⟨b3, off3, rfl, _, _, c3, _⟩ := (Hi1.out.below hbr.out hB).at_ hkl
      obtain ⟨cs, hcl, hrow, hj⟩ := hcs.out
      have hz : Hid (Dig zs[k]) := hd _ (List.getElem_mem hkl)
      have hf := hrow.frozen k
      have hck : wr.cell? ⟨w.heap.size, k, none⟩ = some cs[k] := hrow.cell_some (by omega)
      have Hrow := Lib.hid hrow
      have Hj := Lib.hid hj
      clear hrow hj hcs
      go_wp2_with (go_at_call 75; refine (itoa_any zs[k] hz.out wr).mono ?_; rintro e w' ⟨rfl, rfl⟩)
      go_roundw
      case rel =>
        refine ⟨k + 1, by omega, by go_num, hbr.out.setCell (Nat.le_refl _) _, _, by rw [List.length_set]; exact hcl, Hrow.out.set_ k _, fun j hj1 hj2 => ?_⟩
        by_cases ej : j = k
        · subst ej
          rw [List.getElem?_set_self (by omega)]
        · rw [List.getElem?_set_ne (fun h => ej h.symm)]
          exact Hj.out j (by omega) hj2
      case measure => simp [intOf]; omega
    · obtain rfl : k = zs.length := by omega
      obtain ⟨cs, hcl, hrow, hj⟩ := hcs.out
      have hcell : Hid (∀ j, ∀ (hj : j < zs.length), wr.cell? ⟨w.heap.size, j, none⟩ = some (.string (str (dg zs[j])))) := fun j hjl => (hrow.cell j).trans (hj j hjl hjl)
      have hlt := hrow.lt
      clear hcs hj hrow
      go_wp2_with fail
      refine (join_any w.heap.size zs.length zs wr hcell.out hlt hn (Nat.le_refl _)).mono ?_
      rintro e w2 ⟨rfl, hb2⟩
      have Hb2 := Lib.hid (hbr.out.trans (hb2.mono hbr.out.size))
      clear hb2 hbr
      go_wp2
      go_ret
      exact ⟨rfl, Hb2.out⟩
end Go.Proofs.YtfcekbjoagogdaaDoor
