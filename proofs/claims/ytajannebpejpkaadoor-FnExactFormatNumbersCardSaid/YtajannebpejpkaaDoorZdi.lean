/-
  The contracts of strconv.Itoa and strings.Join at numbers of any size; of the program's numbersText and FormatNumbers.
-/
import Derived.Test.YtajannebpejpkaaDoorZds
import Derived.Test.YtajannebpejpkaaDoorLay
import Derived.Lib.LaidTab
import Derived.BigCall
namespace Go.Proofs.YtajannebpejpkaaDoor
open Go.RowKit

theorem layX : Builder.Extra Tryd.prog lays156_ren := {
  sizeBuilder := by kernel_rfl
  liesBuilder := by kernel_rfl
  t5 := Tryd.underlying5
  a5 := Tryd.isAgg5
  z5 := Tryd.sizeOf5
  v5 := Tryd.zeroValue5
  infoByte := by kernel_rfl
  cellsByte := by kernel_rfl
  sizeByte := by kernel_rfl
  neB5 := by decide }

/-- The library's table of powers of ten holds them, and goes on holding them whatever is laid from block B on. -/
def Tab (B : Nat) (w : World) : Prop := ∀ w', Below B w w' → Lib.TabIs Tryd.prog w' "internal/strconv.uint64pow10" .u64 Lib.pow10Tab
theorem Tab.go {B N : Nat} {w w1 : World} (h : Tab B w) (hb : Below N w w1) (hN : B ≤ N) : Tab B w1 := fun w' h' => h w' ((hb.mono hN).trans h')
theorem tab_of {w : World} (h : Lib.TabIs Tryd.prog w "internal/strconv.uint64pow10" .u64 Lib.pow10Tab) : Tab w.heap.size w := fun w' hb => by
  have hg : Tryd.prog.globalNamed "internal/strconv.uint64pow10" = some 0 := by kernel_rfl
  have hl : 0 < w.heap.size := World.block_lt_of_cell? _ _ (h.cell hg 0 (by decide))
  unfold Lib.TabIs World.var? at h ⊢
  simp only [hg, Option.bind_some] at h ⊢
  rw [hb.block _ hl]
  exact h
theorem below_grew (B : Nat) (w : World) (q : Nat) (os : Array Obj) (hB : B ≤ w.heap.size) : Below B w (Go.Sort.grow (w.drewN q) os) :=
  ⟨rfl, rfl, rfl, by first | (simp [Go.Sort.grow]; done) | (simp [Go.Sort.grow]; omega), fun i hi => by
    show ((w.drewN q).heap ++ os)[i]? = _
    rw [Array.getElem?_append_left (by show i < w.heap.size; omega)]
    rfl⟩

theorem itoaZ (z : Int) (hz : I64 z) (w : World) (B : Nat) (hT : Tab B w) :
    Calls Tryd.prog 30 #[.int .i64 z] w fun e w' => e = .returned (.string (str (Lib.itoa z))) ∧ Below w.heap.size w w' := by
  refine (Any.strconv_Itoa laysM171 z hz.1 hz.2 w (hT w (Below.refl _ _))).mono ?_
  rintro e w' ⟨rfl, k, os, rfl⟩
  exact ⟨rfl, below_grew _ _ _ _ (Nat.le_refl _)⟩

theorem joinZ (b c : Nat) (zs : List Int) (w : World) (hcells : ∀ j, ∀ (hj : j < zs.length), w.cell? ⟨b, j, none⟩ = some (.string (str (Lib.itoa zs[j])))) (hb : b < w.heap.size) (hn : zs.length ≤ 1048576) (hz : ∀ z ∈ zs, I64 z) (hc : zs.length ≤ c) :
    Calls Tryd.prog 31 #[.slice (some ⟨b, 0, none⟩) zs.length c, .string ⟨#[32]⟩] w fun e w' => e = .returned (.string (str (numsZ zs))) ∧ Below w.heap.size w w' := by
  have hm : (zs.map fun z => str (Lib.itoa z)).map (·.data.toList) = zs.map Lib.itoa := by
    rw [List.map_map]
    apply List.map_congr_left
    intro z _
    simp [str]
  have hl := numsZ_len hz
  have h := Any.strings_Join lays156 layX b 0 c (zs.map fun z => str (Lib.itoa z)) ⟨#[32]⟩ w (fun j x hx => by
    rw [List.getElem?_map] at hx
    obtain ⟨z, hz, rfl⟩ := Option.map_eq_some_iff.1 hx
    obtain ⟨hj, rfl⟩ := List.getElem?_eq_some_iff.1 hz
    rw [Nat.zero_add]
    exact hcells j hj) hb (by rw [List.length_map]; omega) (by rw [List.length_map]; exact hc) (by rw [hm]; show (numsZ zs).length ≤ _; omega)
  rw [List.length_map, hm] at h
  exact h

set_option maxRecDepth 100000 in
set_option maxHeartbeats 2000000 in
theorem implNumsZ (lo hi : Nat) (v : Value) (zs : List Int) (w : World) (hv : IntsAt w lo hi v zs) (hB : hi ≤ w.heap.size) (hn : zs.length ≤ 1048576) (B : Nat) (hT : Tab B w) (hBw : B ≤ w.heap.size) :
    Calls Tryd.prog 27 #[v] w fun e w' => e = .returned (.string (str (numsZ zs))) ∧ Below w.heap.size w w' := by
  obtain ⟨A, cap, rfl, hl1, hm1, hi1⟩ := hv.form
  have HI : Hid (∀ z ∈ zs, I64 z) := hi1.fits
  have Hi1 := Lib.hid hi1
  have HT := Lib.hid hT
  clear hT
  clear hi1 hv
  have hmk : Hid ((Instr.makeSlice 53 (.int .i64 zs.length) (.int .i64 zs.length)).run Tryd.prog w = .ok (.slice (some ⟨w.heap.size, 0, none⟩) zs.length zs.length) (w.alloc (.cells (List.replicate zs.length (Value.string ⟨#[]⟩)).toArray 9))) := by
    have hinfo : (Tryd.prog.info? 9).map (fun i => (i.zero, i.size, i.bytes)) = some (some (.string ⟨#[]⟩), 1, 16) := by kernel_rfl
    obtain ⟨i, hi, hz, hs, hy⟩ := info_parts hinfo
    have h := run_make (P := Tryd.prog) w 53 9 i _ Tryd.underlying53 hi hz .i64 .i64 (zs.length : Int) (zs.length : Int) (by omega) (Int.le_refl _) (by rw [hy]; omega) (by omega)
    simp only [Int.toNat_natCast, hs, Nat.mul_one] at h
    have e : (Value.string ⟨#[]⟩).cells = #[Value.string ⟨#[]⟩] := rfl
    rw [e, madeCells_one] at h
    exact h
  have hR : Row (w.alloc (.cells (List.replicate zs.length (Value.string ⟨#[]⟩)).toArray 9)) w.heap.size 9 (List.replicate zs.length (Value.string ⟨#[]⟩)) := Row.new _ _ _
  have HR := Lib.hid hR
  clear hR
  go_enter Tryd.func27, Tryd.ntmps27
  go_wp2_with fail
  rw [hmk.out]
  go_wp2_with fail
  go_loopw [11] (fun i wr => ∃ k : Nat, k ≤ zs.length ∧ i = .int .i64 k ∧ Hid (Below w.heap.size w wr) ∧ Hid (∃ cs : List Value, cs.length = zs.length ∧ Row wr w.heap.size 9 cs ∧ ∀ j, j < k → ∀ (hj : j < zs.length), cs[j]? = some (.string (str (Lib.itoa zs[j]))))) (fun i _ => zs.length - (intOf i).toNat)
  case atStart => exact ⟨0, Nat.zero_le _, rfl, (Below.refl _ w).alloc (Nat.le_refl _) _, _, by simp, HR.out, fun j hj => absurd hj (by omega)⟩
  case round =>
    obtain ⟨k, hk, rfl, hbr, hcs⟩ := hrel
    by_cases hkl : k < zs.length
    · obtain ⟨b3, off3, rfl, _, _, c3, _⟩ := (Hi1.out.below hbr.out hB).at_ hkl
      obtain ⟨cs, hcl, hrow, hj⟩ := hcs.out
      have hz : Hid (I64 zs[k]) := HI.out _ (List.getElem_mem hkl)
      have hTr := Lib.hid (HT.out.go hbr.out hBw)
      have hf := hrow.frozen k
      have hck : wr.cell? ⟨w.heap.size, k, none⟩ = some cs[k] := hrow.cell_some (by omega)
      have Hrow := Lib.hid hrow
      have Hj := Lib.hid hj
      clear hrow hj hcs
      go_wp2_with fail
      refine (itoaZ zs[k] hz.out wr B hTr.out).mono ?_
      rintro e w' ⟨rfl, hb2⟩
      have hbw := hbr.out.size
      have HB2 : Hid (Below w.heap.size w w') := hbr.out.trans (hb2.mono hbw)
      have Hrow2 := Lib.hid (Hrow.out.below hb2 Hrow.out.lt)
      have hck2 := (hb2.cell (p := ⟨w.heap.size, k, none⟩) Hrow.out.lt).trans hck
      have hf2 := (hb2.frozen (p := ⟨w.heap.size, k, none⟩) Hrow.out.lt).trans hf
      clear hb2 hck hf hbr Hrow hTr
      go_wp2
      go_roundw
      case rel =>
        refine ⟨k + 1, by omega, by go_num, HB2.out.setCell (Nat.le_refl _) _, _, by rw [List.length_set]; exact hcl, Hrow2.out.set_ k _, fun j hj1 hj2 => ?_⟩
        by_cases ej : j = k
        · subst ej
          rw [List.getElem?_set_self (by omega)]
        · rw [List.getElem?_set_ne (fun h => ej h.symm)]
          exact Hj.out j (by omega) hj2
      case measure => simp [intOf]; omega
    · obtain rfl : k = zs.length := by omega
      obtain ⟨cs, hcl, hrow, hj⟩ := hcs.out
      have hcell : Hid (∀ j, ∀ (hj : j < zs.length), wr.cell? ⟨w.heap.size, j, none⟩ = some (.string (str (Lib.itoa zs[j])))) := fun j hjl => (hrow.cell j).trans (hj j hjl hjl)
      have hlt := hrow.lt
      clear hcs hj hrow
      go_wp2_with fail
      refine (joinZ w.heap.size zs.length zs wr hcell.out hlt hn HI.out (Nat.le_refl _)).mono ?_
      rintro e w2 ⟨rfl, hb2⟩
      have Hb2 := Lib.hid (hbr.out.trans (hb2.mono hbr.out.size))
      clear hb2 hbr
      go_wp2
      go_ret
      exact ⟨rfl, Hb2.out⟩

set_option maxRecDepth 100000 in
set_option maxHeartbeats 2000000 in
theorem implFmtN (lo hi : Nat) (v : Value) (zs : List Int) (w : World) (hv : IntsAt w lo hi v zs) (hB : hi ≤ w.heap.size) (hn : zs.length ≤ 1048576) (B : Nat) (hT : Tab B w) (hBw : B ≤ w.heap.size) :
    Calls Tryd.prog 9 #[v] w fun e w' => e = .returned (.string (str (fmtN zs))) ∧ Below w.heap.size w w' := by
  obtain ⟨A, cap, rfl, hl1, hm1, hi1⟩ := hv.form
  have Hi1 := Lib.hid hi1
  have HT := Lib.hid hT
  clear hi1 hv hT
  by_cases h0 : zs.length = 0
  · have e : Hid (str (fmtN zs) = ⟨#[45]⟩) := by show str (fmtN zs) = _; unfold fmtN; rw [if_pos h0]; rfl
    go_enter Tryd.func9, Tryd.ntmps9
    go_wp2
    go_ret
    exact ⟨by rw [e.out]; rfl, Below.refl _ _⟩
  · have e : Hid (fmtN zs = numsZ zs) := if_neg h0
    go_enter Tryd.func9, Tryd.ntmps9
    go_wp2_with fail
    refine (implNumsZ lo hi _ zs w Hi1.out hB hn B HT.out hBw).mono ?_
    rintro e2 w2 ⟨rfl, hb2⟩
    have Hb2 := Lib.hid hb2
    clear hb2
    go_wp2
    go_ret
    exact ⟨by rw [e.out]; rfl, Hb2.out⟩
end Go.Proofs.YtajannebpejpkaaDoor
