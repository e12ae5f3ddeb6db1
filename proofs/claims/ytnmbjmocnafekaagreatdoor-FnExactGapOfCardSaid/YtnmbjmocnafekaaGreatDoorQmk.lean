/-
  The contract of the law's markText.
  The contracts of the functions that mark a result's memory and look whether the marks hold: numbers in one slice.
  The contracts of the functions that mark coercions and types, and look whether the marks hold.
  Functions in memory of the call's own; the contract of the function that marks them.
  The contracts of the functions that mark types, and look whether the marks hold.
  Systems in memory of the call's own; the contract of the function that marks them.
-/
import Derived.Test.YtnmbjmocnafekaaGreatDoorRows
import Derived.Test.YtnmbjmocnafekaaGreatDoorG1
import Derived.Outline
import Derived.Handy
import Derived.Laws.BytesArg
import Derived.Test.YtnmbjmocnafekaaGreatDoorG4
import Derived.Test.YtnmbjmocnafekaaGreatDoorG2
namespace Go.Proofs.YtnmbjmocnafekaaGreatDoor
open Go.RowKit

/-- The digits of a number ahead of a text. -/
def digs : Nat → Int → ByteArray → ByteArray
  | 0, _, b => b
  | f + 1, n, b => if 0 < n then digs f (n / 10) (strOfNums [48 + n % 10] ++ b) else b
/-- The text that marks by a number. -/
def mText (k : Int) : ByteArray := if k ≤ 0 then ⟨#[109, 48]⟩ else ⟨#[109]⟩ ++ digs 11 k ⟨#[]⟩
theorem digs_zero : ∀ (f : Nat) (b : ByteArray), digs f 0 b = b
  | 0, _ => rfl
  | f + 1, b => by show (if (0 : Int) < 0 then _ else b) = b; rw [if_neg (by omega)]
theorem digs_step (f : Nat) (n : Int) (b : ByteArray) (h : 0 < n) : digs (f + 1) n b = digs f (n / 10) (strOfNums [48 + n % 10] ++ b) := if_pos h

theorem digs_size : ∀ (f : Nat) (n : Int) (b : ByteArray), (digs f n b).size ≤ f + b.size
  | 0, _, b => by show b.size ≤ 0 + b.size; omega
  | f + 1, n, b => by
    by_cases h : 0 < n
    · rw [digs_step f n b h]
      have h1 := digs_size f (n / 10) (strOfNums [48 + n % 10] ++ b)
      have h2 : (strOfNums [48 + n % 10]).size = 1 := strOfNums_size _
      rw [ByteArray.size_append] at h1
      omega
    · have e : digs (f + 1) n b = b := if_neg h
      rw [e]; omega
theorem mText_size (k : Int) : (mText k).size ≤ 12 := by
  unfold mText
  split
  · show 2 ≤ 12; omega
  · have h := digs_size 11 k ⟨#[]⟩
    have e : (⟨#[]⟩ : ByteArray).size = 0 := rfl
    have e2 : (⟨#[109]⟩ : ByteArray).size = 1 := rfl
    rw [ByteArray.size_append]
    omega

set_option maxRecDepth 100000 in
set_option maxHeartbeats 1000000 in
theorem markText_any (k : Int) (w : World) (h0 : 0 ≤ k) (h1 : k ≤ 1000000000) :
    Calls Tryz.prog 54 #[.int .i64 k] w fun e w' => e = .returned (.string (mText k)) ∧ Below w.heap.size w w' := by
  by_cases hk : k ≤ 0
  · have H : Hid (mText k = ⟨#[109, 48]⟩) := if_pos hk
    go_enter Tryz.func54, Tryz.ntmps54
    go_wp2
    go_ret
    exact ⟨by rw [H.out]; rfl, Below.refl _ _⟩
  have H : Hid (mText k = ⟨#[109]⟩ ++ digs 11 k ⟨#[]⟩) := if_neg hk
  have hk' : ¬ k ≤ 0 := hk
  go_enter Tryz.func54, Tryz.ntmps54
  go_wp2
  go_loopw [0, 3] (fun q s wr => ∃ (n f : Nat) (b : ByteArray), n ≤ 1000000000 ∧ q = .int .i64 n ∧ s = .string b ∧ Hid (digs f n b = digs 11 k ⟨#[]⟩) ∧ n < 10 ^ f ∧ b.size + f ≤ 11 ∧ Below w.heap.size w wr) (fun q _ _ => (intOf q).toNat)
  case atStart => exact ⟨k.toNat, 11, ⟨#[]⟩, by omega, by rw [Int.toNat_of_nonneg h0], rfl, by show _ = _; rw [Int.toNat_of_nonneg h0], by omega, by show 0 + 11 ≤ 11; omega, Below.refl _ _⟩
  case round =>
    obtain ⟨n, f, b, hn, rfl, rfl, hd, hf, hbs, hbw⟩ := hrel
    by_cases hp : 0 < n
    · have hp' : (0 : Int) < (n : Int) := by omega
      have hws := hbw.size
      have hcv := run_convert_bytes_arg (P := Tryz.prog) (wr.alloc (.cells #[.int .u8 (48 + (n : Int) % 10)] 5)) 74 5 Tryz.underlying74 Tryz.underlying5 wr.heap.size 0 1 1 [48 + (n : Int) % 10] rfl (by
        intro i hi
        obtain rfl : i = 0 := by omega
        simp [go_sem]) 9 Tryz.underlying9
      obtain ⟨f', rfl⟩ : ∃ f', f = f' + 1 := ⟨f - 1, by rcases f with _ | f <;> omega⟩
      have hd2 : Hid (digs f' ((n / 10 : Nat) : Int) (strOfNums [48 + (n : Int) % 10] ++ b) = digs 11 k ⟨#[]⟩) := by
        show _ = _
        rw [← hd.out, digs_step f' _ b hp']
        rfl
      have hf2 : n / 10 < 10 ^ f' := by
        have : 10 ^ (f' + 1) = 10 ^ f' * 10 := rfl
        rw [this] at hf
        omega
      have hsn : (strOfNums [48 + (n : Int) % 10]).size = 1 := strOfNums_size _
      have hnot : ¬ 9223372036854775807 < (strOfNums [48 + (n : Int) % 10]).size + b.size := by omega
      have hbs2 : (strOfNums [48 + (n : Int) % 10] ++ b).size + f' ≤ 11 := by rw [ByteArray.size_append]; omega
      clear hsn
      go_wp2
      go_roundw
      case rel => exact ⟨n / 10, f', _, by omega, by go_num, rfl, hd2, hf2, hbs2, hbw.alloc (by omega) _⟩
      case measure => simp [intOf]; omega
    · obtain rfl : n = 0 := by omega
      have hnot : ¬ 9223372036854775807 < (⟨#[109]⟩ : ByteArray).size + b.size := by show ¬ _ < 1 + b.size; omega
      have hfin : Hid (mText k = ⟨#[109]⟩ ++ b) := by show _ = _; rw [H.out, ← hd.out]; exact congrArg _ (digs_zero f b)
      go_wp2
      go_ret
      exact ⟨by rw [hfin.out]; rfl, hbw⟩
end Go.Proofs.YtnmbjmocnafekaaGreatDoor

namespace Go.Proofs.YtnmbjmocnafekaaGreatDoor
open Go.RowKit

set_option maxHeartbeats 800000 in
theorem markIntS_any (g : Nat) (v : Value) (zs : List Int) (k0 : Int) (w : World) (hv : OwnI w 3 g v zs) (h0 : 0 ≤ k0) (h1 : k0 + zs.length ≤ 1000000000) :
    Calls Tryz.prog 28 #[v, .int .i64 k0] w fun e w' => e = .returned (.int .i64 (k0 + zs.length)) ∧ Kept (fun k => 0 < zs.length → k ≠ g) w w' ∧ OwnI w' 3 g v (markL k0 zs.length) ∧ w'.heap.size = w.heap.size := by
  obtain ⟨A, cap, rfl, hc, hm, hnil, hrow⟩ := hv
  generalize hn : zs.length = n at *
  unfold maxLen at hm
  by_cases hz : n = 0
  · subst hz
    go_enter Tryz.func28, Tryz.ntmps28
    go_wp2
    refine wp_loop_rounds 1 ?_
    rw [rounds_succ]
    go_wp2
    go_ret
    exact ⟨ret_int (by simp), Kept.refl _ _, ⟨A, cap, by rw [markL_len], by rw [markL_len]; omega, by unfold maxLen; omega, fun _ => by simp [markL], fun h => absurd h (by rw [markL_len]; omega)⟩, rfl⟩
  · obtain ⟨rfl, rest, hr⟩ := hrow (by omega)
    have Hr : Hid (Row w g 3 ((List.range 0).map (fun i : Nat => Value.int .i64 (k0 + (i : Int))) ++ (zs.map (Value.int .i64) ++ rest).drop 0)) := by
      show Row _ _ _ _
      simpa using hr
    have hlen : n ≤ (zs.map (Value.int .i64) ++ rest).length := by simp; omega
    generalize zs.map (Value.int .i64) ++ rest = ys at Hr hlen hr
    clear hr hrow hnil hn
    go_enter Tryz.func28, Tryz.ntmps28
    go_wp2
    go_loopw [1, 5] (fun q i wr => ∃ j : Nat, j ≤ n ∧ i = .int .i64 j ∧ q = .int .i64 (k0 + j) ∧ Hid (Kept (fun k => 0 < n → k ≠ g) w wr) ∧ Hid (wr.heap.size = w.heap.size) ∧ Hid (Row wr g 3 ((List.range j).map (fun i : Nat => Value.int .i64 (k0 + (i : Int))) ++ ys.drop j))) (fun _ i _ => n - (intOf i).toNat)
    case atStart => exact ⟨0, Nat.zero_le _, rfl, by go_num, Kept.refl _ _, rfl, Hr.out⟩
    case round =>
      obtain ⟨j, hj, rfl, rfl, hk, hs, hrw⟩ := hrel
      by_cases hlt : j < n
      · have hl2 : ((List.range j).map (fun i : Nat => Value.int .i64 (k0 + (i : Int))) ++ ys.drop j).length = ys.length := by simp; omega
        have c1 := hrw.out.cell_some (i := j) (by rw [hl2]; omega)
        have f1 := hrw.out.frozen j
        have hset := hrw.out.set_ j (.int .i64 (k0 + (j : Int)))
        rw [remark_step (fun i : Nat => Value.int .i64 (k0 + (i : Int))) ys j (by omega)] at hset
        generalize ((List.range j).map (fun i : Nat => Value.int .i64 (k0 + (i : Int))) ++ ys.drop j)[j]'(by rw [hl2]; omega) = u at c1
        have Hset := Lib.hid hset
        clear hset hl2
        go_wp2
        go_roundw
        case rel => exact ⟨j + 1, by omega, by go_num, by go_num, hk.out.setCell (fun h => h (by omega) rfl) _, by show _ = _; simpa [World.setCell] using hs.out, Hset.out⟩
        case measure => simp [intOf]; omega
      · obtain rfl : j = n := by omega
        go_wp2
        go_ret
        refine ⟨rfl, hk.out, ⟨_, _, by rw [markL_len], by rw [markL_len]; exact hc, by unfold maxLen; omega, fun h => by rw [markL_len] at h; omega, fun _ => ⟨rfl, ys.drop j, ?_⟩⟩, hs.out⟩
        have := hrw.out
        unfold markL
        rw [List.map_map]
        exact this

set_option maxHeartbeats 800000 in
/-- The marks hold. -/
theorem heldIntS_any (lo hi : Nat) (v : Value) (n : Nat) (k0 : Int) (w : World) (hv : IntsAt w lo hi v (markL k0 n)) (_hB : hi ≤ w.heap.size) (h0 : 0 ≤ k0) (h1 : k0 + n ≤ 1000000000) :
    Calls Tryz.prog 29 #[v, .int .i64 k0] w fun e w' => e = .returned (.int .i64 (k0 + n)) ∧ w = w' := by
  obtain ⟨A, cap, rfl, hl, hm, hz⟩ := hv.form
  have hn := markL_len k0 n
  rw [hn] at hl hz
  unfold maxLen at hm
  have Hz := Lib.hid hz
  have Hn := Lib.hid hn
  clear hz hv
  rw [hn]
  clear hn
  go_enter Tryz.func29, Tryz.ntmps29
  go_wp2
  go_loop [1, 5] (fun q i => ∃ j : Nat, j ≤ n ∧ i = .int .i64 j ∧ q = .int .i64 (k0 + j)) (fun _ i => n - (intOf i).toNat)
  case atStart => exact ⟨0, Nat.zero_le _, rfl, by go_num⟩
  case round =>
    obtain ⟨j, hj, rfl, rfl⟩ := hrel
    by_cases hlt : j < n
    · obtain ⟨b, off, rfl, _, _, c0, _⟩ := Hz.out.at_ (k := j) (by rw [Hn.out]; exact hlt)
      rw [markL_get] at c0
      have hbne : (k0 + (j : Int) != k0 + (j : Int)) = false := by simp
      go_wp2
      go_round
      case rel => exact ⟨j + 1, by omega, by go_num, by go_num⟩
      case measure => simp [intOf]; omega
    · obtain rfl : j = n := by omega
      go_wp2
      go_ret
      exact ⟨rfl, rfl⟩
end Go.Proofs.YtnmbjmocnafekaaGreatDoor

namespace Go.Proofs.YtnmbjmocnafekaaGreatDoor
open Go.RowKit

set_option maxRecDepth 100000 in
set_option maxHeartbeats 2000000 in
theorem markCoercionS_any (gc n : Nat) (m : Nat → Nat) (mv : Nat → Value) (cv : Value) (f : Nat → Co) (k0 : Int) (w : World) (hv : OwnCos w 3 185 gc m mv cv n f) (ha : Apart gc m n f) (h0 : 0 ≤ k0) (h1 : k0 + 2 * (n : Int) + (lenSum f n : Int) ≤ 900000000) :
    Calls Tryz.prog 85 #[cv, .int .i64 k0] w fun e w' => e = .returned (.int .i64 (markAt f k0 n)) ∧ Kept (fun k => (0 < n → k ≠ gc) ∧ ∀ i, i < n → 0 < (f i).map.length → k ≠ m i) w w' ∧ w'.heap.size = w.heap.size ∧
      OwnCos w' 3 185 gc m mv cv n (mixCo f k0 n) := by
  have hv0 : OwnCos w 3 185 gc m mv cv n (mixCo f k0 0) := by
    have e : mixCo f k0 0 = f := by funext i; unfold mixCo; rw [if_neg (by omega)]
    rw [e]; exact hv
  obtain ⟨xs0, ⟨A, cap, rfl, hc, hm, hnil, _⟩, _, _, _⟩ := hv
  have hm' := hm
  unfold maxLen at hm'
  have Hv := Lib.hid hv0
  have Ha := Lib.hid ha
  clear hv0 ha hnil
  go_enter Tryz.func85, Tryz.ntmps85
  go_wp2
  go_loopw [1, 5] (fun q i wr => ∃ j : Nat, j ≤ n ∧ i = .int .i64 j ∧ q = .int .i64 (markAt f k0 j) ∧ Hid (Kept (fun k => (0 < n → k ≠ gc) ∧ ∀ i, i < n → 0 < (f i).map.length → k ≠ m i) w wr) ∧ Hid (wr.heap.size = w.heap.size) ∧
      Hid (OwnCos wr 3 185 gc m mv (.slice A n cap) n (mixCo f k0 j))) (fun _ i _ => n - (intOf i).toNat)
  case atStart => exact ⟨0, Nat.zero_le _, rfl, by simp [markAt, lenSum], Kept.refl _ _, rfl, Hv.out⟩
  case round =>
    obtain ⟨j, hj, rfl, rfl, hk, hs, ho⟩ := hrel
    by_cases hlt : j < n
    · have hms := lenSum_mono f (show j + 1 ≤ n by omega)
      have hms1 : lenSum f (j + 1) = lenSum f j + (f j).map.length := rfl
      have hat : markAt f k0 j = k0 + 2 * (j : Int) + (lenSum f j : Int) := rfl
      have hb0 : 0 ≤ markAt f k0 j := by rw [hat]; omega
      have hb1 : markAt f k0 j + 2 + ((f j).map.length : Int) ≤ 900000000 := by rw [hat]; omega
      have hnext := Lib.hid (markAt_succ f k0 j)
      clear hms hms1 hat
      obtain ⟨xs, ⟨A2, cap2, e2, _, _, _, hrow⟩, hx, hcells, hmaps⟩ := ho.out
      injection e2 with e2 e3 e4
      subst e2 e4
      obtain ⟨rfl, rest, hr⟩ := hrow (by omega)
      obtain ⟨_, _, cz⟩ := hcells j hlt
      have hmj := hmaps j hlt
      have emj : mixCo f k0 j j = f j := by unfold mixCo; rw [if_neg (by omega)]
      rw [emj] at hmj
      have hmj2 := hmj
      obtain ⟨A3, cap3, e5, _, _, _, _⟩ := hmj2
      have d0 := hr.cell_some (i := j * 3) (by simp; omega)
      have d1 := hr.cell_some (i := j * 3 + 1) (by simp; omega)
      have d2 : wr.cell? ⟨gc, j * 3 + 2, none⟩ = some (.slice A3 (f j).map.length cap3) := by
        rw [hr.cell, List.getElem?_append_left (by omega), cz, e5]
      have f0 := hr.frozen (j * 3)
      have f1 := hr.frozen (j * 3 + 1)
      generalize (xs ++ rest)[j * 3]'(by simp; omega) = y0 at d0
      generalize (xs ++ rest)[j * 3 + 1]'(by simp; omega) = y1 at d1
      have Hr := Lib.hid hr
      have Hmj := Lib.hid hmj
      have He5 := Lib.hid e5
      have Hcells := Lib.hid hcells
      have Hmaps := Lib.hid hmaps
      have Hx := Lib.hid hx
      clear hr hmj e5 hcells hmaps hx hrow cz emj
      go_wp2_with fail
      rw [show (markAt f k0 j + 1 + 1 : Int) = markAt f k0 j + 2 from by omega]
      have hne : 0 < (f j).map.length → m j ≠ gc := fun h => (Ha.out j hlt h).1
      have hmjS : OwnI wr 3 (m j) (.slice A3 (f j).map.length cap3) (f j).map := by rw [← He5.out]; exact Hmj.out
      have hmjW : OwnI ((wr.setCell ⟨gc, j * 3, none⟩ (.int .i64 (markAt f k0 j))).setCell ⟨gc, j * 3 + 1, none⟩ (.int .i64 (markAt f k0 j + 1))) 3 (m j) (.slice A3 (f j).map.length cap3) (f j).map :=
        hmjS.keep fun h => (Below.heap_setCell _ _ _ _ (hne h)).trans (Below.heap_setCell _ _ _ _ (hne h))
      refine (markIntS_any (m j) _ (f j).map (markAt f k0 j + 2) _ hmjW (by omega) (by omega)).mono ?_
      rintro e w1 ⟨rfl, hk1, ho1, hs1⟩
      have Hk1 := Lib.hid hk1
      have Ho1 := Lib.hid ho1
      have Hs1 := Lib.hid hs1
      clear hk1 ho1 hs1 hmjS hmjW
      go_wp2
      go_roundw
      case rel =>
        refine ⟨j + 1, by omega, by go_num, by rw [hnext.out], ?_, ?_, ?_⟩
        · refine ((hk.out.setCell (fun h => h.1 (by omega) rfl) _).setCell (fun h => h.1 (by omega) rfl) _).trans (Hk1.out.weak fun k hS h => hS.2 j hlt h)
        · show w1.heap.size = w.heap.size
          rw [Hs1.out]
          simpa [World.setCell] using hs.out
        · have hgc : w1.heap[gc]? = ((wr.setCell ⟨gc, j * 3, none⟩ (.int .i64 (markAt f k0 j))).setCell ⟨gc, j * 3 + 1, none⟩ (.int .i64 (markAt f k0 j + 1))).heap[gc]? :=
            Hk1.out.block gc (by have := Hr.out.lt; simpa [World.setCell] using this) (fun h => (hne h).symm)
          have hrow2 := ((Hr.out.set_ (j * 3) (.int .i64 (markAt f k0 j))).set_ (j * 3 + 1) (.int .i64 (markAt f k0 j + 1))).keep hgc
          have hxl : xs.length = n * 3 := Hx.out
          rw [List.set_append_left _ _ (by omega), List.set_append_left _ _ (by simp; omega)] at hrow2
          refine OwnCos.step rfl hc hm rfl hlt hxl Hcells.out hrow2 (fun i hi hij => ?_) (by rw [He5.out]; exact Ho1.out)
          have hmi : OwnI wr 3 (m i) (mv i) (mixCo f k0 j i).map := Hmaps.out i hi
          refine hmi.keep fun h => ?_
          rw [mixCo_len] at h
          have h2 := (Ha.out i hi h).1
          have hlt1 : m i < wr.heap.size := hmi.lt (by rw [mixCo_len]; exact h)
          have e1 : ((wr.setCell ⟨gc, j * 3, none⟩ (.int .i64 (markAt f k0 j))).setCell ⟨gc, j * 3 + 1, none⟩ (.int .i64 (markAt f k0 j + 1))).heap[m i]? = wr.heap[m i]? := (Below.heap_setCell _ _ _ _ h2).trans (Below.heap_setCell _ _ _ _ h2)
          exact (Hk1.out.block (m i) (by simpa [World.setCell] using hlt1) (fun h3 => (Ha.out j hlt h3).2 i hi hij h)).trans e1
      case measure => simp [intOf]; omega
    · obtain rfl : j = n := by omega
      go_wp2
      go_ret
      exact ⟨rfl, hk.out, hs.out, ho.out⟩
end Go.Proofs.YtnmbjmocnafekaaGreatDoor

namespace Go.Proofs.YtnmbjmocnafekaaGreatDoor
open Go.RowKit

/-- The types of the arguments; the table. -/
def Fu.zs (f : Fu) : Bool → List Int
  | false => f.args
  | true => f.table
def lenF (f : Nat → Fu) : Nat → Nat
  | 0 => 0
  | i + 1 => lenF f i + (f i).args.length + (f i).table.length
theorem lenF_mono (f : Nat → Fu) {i j : Nat} (h : i ≤ j) : lenF f i ≤ lenF f j := by
  induction j with
  | zero => obtain rfl : i = 0 := by omega
            exact Nat.le_refl _
  | succ j ih =>
    by_cases e : i = j + 1
    · rw [e]; exact Nat.le_refl _
    · have := ih (by omega)
      show _ ≤ lenF f j + _ + _
      omega
def markAtF (f : Nat → Fu) (k0 : Int) (i : Nat) : Int := k0 + 2 * (i : Int) + (lenF f i : Int)
def markFu (f : Nat → Fu) (k0 : Int) (i : Nat) : Fu := ⟨mText (markAtF f k0 i), markL (markAtF f k0 i + 1) (f i).args.length, markAtF f k0 i + 1 + ((f i).args.length : Int), markL (markAtF f k0 i + 1 + ((f i).args.length : Int) + 1) (f i).table.length⟩
def mixFu (f : Nat → Fu) (k0 : Int) (j i : Nat) : Fu := if i < j then markFu f k0 i else f i
theorem mixFu_len (f : Nat → Fu) (k0 : Int) (j i : Nat) (b : Bool) : ((mixFu f k0 j i).zs b).length = ((f i).zs b).length := by
  unfold mixFu
  split
  · cases b <;> simp [markFu, Fu.zs, markL_len]
  · rfl
theorem mixFu_at (f : Nat → Fu) (k0 : Int) (j : Nat) : mixFu f k0 j j = f j := by unfold mixFu; rw [if_neg (by omega)]
theorem mixFu_new (f : Nat → Fu) (k0 : Int) (j : Nat) : mixFu f k0 (j + 1) j = markFu f k0 j := by unfold mixFu; rw [if_pos (by omega)]
theorem mixFu_old (f : Nat → Fu) (k0 : Int) {i j : Nat} (h : i ≠ j) : mixFu f k0 (j + 1) i = mixFu f k0 j i := by
  unfold mixFu
  by_cases h2 : i < j
  · rw [if_pos h2, if_pos (by omega)]
  · rw [if_neg h2, if_neg (by omega)]
theorem markAtF_succ (f : Nat → Fu) (k0 : Int) (i : Nat) : markAtF f k0 (i + 1) = markAtF f k0 i + 1 + ((f i).args.length : Int) + 1 + ((f i).table.length : Int) := by
  unfold markAtF
  show k0 + 2 * ((i + 1 : Nat) : Int) + ((lenF f i + (f i).args.length + (f i).table.length : Nat) : Int) = _
  omega

/-- Functions in memory of the call's own: the slice cv at the head of block gc; the i-th arguments and table the slices mv i false and mv i true at the heads of blocks m i false and m i true. -/
def OwnFus (w : World) (ti tf : TypeId) (gc : Nat) (m : Nat → Bool → Nat) (mv : Nat → Bool → Value) (cv : Value) (n : Nat) (f : Nat → Fu) : Prop :=
  ∃ xs : List Value, SlAt w tf gc cv n xs ∧ xs.length = n * 4 ∧
    (∀ i, i < n → xs[i * 4]? = some (.string (f i).name) ∧ xs[i * 4 + 1]? = some (mv i false) ∧ xs[i * 4 + 2]? = some (.int .i64 (f i).res) ∧ xs[i * 4 + 3]? = some (mv i true)) ∧ ∀ i b, i < n → OwnI w ti (m i b) (mv i b) ((f i).zs b)
def ApartF (gc : Nat) (m : Nat → Bool → Nat) (n : Nat) (f : Nat → Fu) : Prop :=
  ∀ i b, i < n → 0 < ((f i).zs b).length → m i b ≠ gc ∧ ∀ j c, j < n → (j ≠ i ∨ c ≠ b) → 0 < ((f j).zs c).length → m j c ≠ m i b
theorem OwnFus.keep {w w' : World} {ti tf : TypeId} {gc n : Nat} {m : Nat → Bool → Nat} {mv : Nat → Bool → Value} {cv : Value} {f : Nat → Fu} (h : OwnFus w ti tf gc m mv cv n f) (hk : 0 < n → w'.heap[gc]? = w.heap[gc]?)
    (hm : ∀ i b, i < n → 0 < ((f i).zs b).length → w'.heap[m i b]? = w.heap[m i b]?) : OwnFus w' ti tf gc m mv cv n f := by
  obtain ⟨xs, h1, h2, h3, h4⟩ := h
  exact ⟨xs, h1.keep hk, h2, h3, fun i b hi => (h4 i b hi).keep (hm i b hi)⟩
theorem OwnFus.lt {w : World} {ti tf : TypeId} {gc n : Nat} {m : Nat → Bool → Nat} {mv : Nat → Bool → Value} {cv : Value} {f : Nat → Fu} (h : OwnFus w ti tf gc m mv cv n f) :
    (0 < n → gc < w.heap.size) ∧ ∀ i b, i < n → 0 < ((f i).zs b).length → m i b < w.heap.size := by
  obtain ⟨xs, h1, h2, h3, h4⟩ := h
  exact ⟨fun h0 => h1.lt h0, fun i b hi h0 => (h4 i b hi).lt h0⟩
/-- What a marking of such functions keeps. -/
def FuKeeps (gc : Nat) (m : Nat → Bool → Nat) (n : Nat) (f : Nat → Fu) (k : Nat) : Prop := (0 < n → k ≠ gc) ∧ ∀ i b, i < n → 0 < ((f i).zs b).length → k ≠ m i b

set_option maxRecDepth 100000 in
set_option maxHeartbeats 4000000 in
theorem markFunctionS_any (gc n : Nat) (m : Nat → Bool → Nat) (mv : Nat → Bool → Value) (cv : Value) (f : Nat → Fu) (k0 : Int) (w : World) (hv : OwnFus w 3 111 gc m mv cv n f) (ha : ApartF gc m n f) (h0 : 0 ≤ k0) (h1 : k0 + 2 * (n : Int) + (lenF f n : Int) ≤ 900000000) :
    Calls Tryz.prog 47 #[cv, .int .i64 k0] w fun e w' => e = .returned (.int .i64 (markAtF f k0 n)) ∧ Kept (FuKeeps gc m n f) w w' ∧ OwnFus w' 3 111 gc m mv cv n (mixFu f k0 n) := by
  have hv0 : OwnFus w 3 111 gc m mv cv n (mixFu f k0 0) := by
    have e : mixFu f k0 0 = f := by funext i; unfold mixFu; rw [if_neg (by omega)]
    rw [e]; exact hv
  obtain ⟨xs0, ⟨A, cap, rfl, hc, hm, hnil, _⟩, _, _, _⟩ := hv
  have hm' := hm
  unfold maxLen at hm'
  have Hv := Lib.hid hv0
  have Ha := Lib.hid ha
  clear hv0 ha hnil
  go_enter Tryz.func47, Tryz.ntmps47
  go_wp2
  go_loopw [1, 5] (fun q i wr => ∃ j : Nat, j ≤ n ∧ i = .int .i64 j ∧ q = .int .i64 (markAtF f k0 j) ∧ Hid (Kept (FuKeeps gc m n f) w wr) ∧ Hid (OwnFus wr 3 111 gc m mv (.slice A n cap) n (mixFu f k0 j))) (fun _ i _ => n - (intOf i).toNat)
  case atStart => exact ⟨0, Nat.zero_le _, rfl, by simp [markAtF, lenF], Kept.refl _ _, Hv.out⟩
  case round =>
    obtain ⟨j, hj, rfl, rfl, hk, ho⟩ := hrel
    by_cases hlt : j < n
    · have hms := lenF_mono f (show j + 1 ≤ n by omega)
      have hms1 : lenF f (j + 1) = lenF f j + (f j).args.length + (f j).table.length := rfl
      have hat : markAtF f k0 j = k0 + 2 * (j : Int) + (lenF f j : Int) := rfl
      have hb0 : 0 ≤ markAtF f k0 j := by rw [hat]; omega
      have hb1 : markAtF f k0 j + 2 + ((f j).args.length : Int) + ((f j).table.length : Int) ≤ 900000000 := by rw [hat]; omega
      have hnext := Lib.hid (markAtF_succ f k0 j)
      clear hms hms1 hat
      obtain ⟨xs, ⟨A2, cap2, e2, _, _, _, hrow⟩, hx, hcells, hmaps⟩ := ho.out
      injection e2 with e2 e3 e4
      subst e2 e4
      obtain ⟨rfl, rest, hr⟩ := hrow (by omega)
      have Hr := Lib.hid hr
      have Hx := Lib.hid hx
      have Hcells := Lib.hid hcells
      have Hmaps := Lib.hid hmaps
      have hgl := hr.lt
      clear hr hx hcells hmaps hrow
      go_wp2_with fail
      refine (markText_any _ _ (by omega) (by omega)).mono ?_
      rintro e w1 ⟨rfl, hb1w⟩
      have hgs : (mixFu f k0 j j) = f j := mixFu_at f k0 j
      have hma : OwnI wr 3 (m j false) (mv j false) (f j).args := by have := Hmaps.out j false hlt; rw [hgs] at this; exact this
      have hmt : OwnI wr 3 (m j true) (mv j true) (f j).table := by have := Hmaps.out j true hlt; rw [hgs] at this; exact this
      obtain ⟨A3, cap3, e3, _, _, _, _⟩ := id hma
      obtain ⟨A4, cap4, e4, _, _, _, _⟩ := id hmt
      have hne : ∀ b, 0 < ((f j).zs b).length → m j b ≠ gc := fun b h => (Ha.out j b hlt h).1
      have hr1 := Hr.out.below hb1w hgl
      obtain ⟨x0, x1, x2, x3⟩ := Hcells.out j hlt
      rw [e3] at x1
      rw [e4] at x3
      have hxl : xs.length = n * 4 := Hx.out
      have c0 := hr1.cell_some (i := j * 4) (by simp; omega)
      have f0 := hr1.frozen (j * 4)
      have c1 : w1.cell? ⟨gc, j * 4 + 1, none⟩ = some (.slice A3 (f j).args.length cap3) := by rw [hr1.cell, List.getElem?_append_left (by omega), x1]
      generalize (xs ++ rest)[j * 4]'(by simp; omega) = y0 at c0
      have Hr1 := Lib.hid hr1
      have Hma := Lib.hid hma
      have Hmt := Lib.hid hmt
      have Hb1 := Lib.hid hb1w
      have hs1 := hb1w.size
      have X2 := Lib.hid x2
      have X3 := Lib.hid x3
      have E3 := Lib.hid e3
      have E4 := Lib.hid e4
      clear hr1 hma hmt hb1w x0 x1 x2 x3 e3 e4 hgs
      go_wp2_with fail
      have hset : ∀ b, 0 < ((f j).zs b).length → (w1.setCell ⟨gc, j * 4, none⟩ (.string (mText (markAtF f k0 j)))).heap[m j b]? = w1.heap[m j b]? := fun b h => Below.heap_setCell _ _ _ _ (hne b h)
      have hmaS : OwnI wr 3 (m j false) (.slice A3 (f j).args.length cap3) (f j).args := by rw [← E3.out]; exact Hma.out
      have hmaW : OwnI (w1.setCell ⟨gc, j * 4, none⟩ (.string (mText (markAtF f k0 j)))) 3 (m j false) (.slice A3 (f j).args.length cap3) (f j).args :=
        hmaS.keep fun h => (hset false h).trans (Hb1.out.block _ (hmaS.lt h))
      refine (markIntS_any (m j false) _ (f j).args (markAtF f k0 j + 1) _ hmaW (by omega) (by omega)).mono ?_
      rintro e w2 ⟨rfl, hk2, ho2, hs2⟩
      have hg2 : w2.heap[gc]? = (w1.setCell ⟨gc, j * 4, none⟩ (.string (mText (markAtF f k0 j)))).heap[gc]? := hk2.block gc (by have := Hr1.out.lt; simpa [World.setCell] using this) (fun h => (hne false h).symm)
      have hr2 := (Hr1.out.set_ (j * 4) (.string (mText (markAtF f k0 j)))).keep hg2
      have c2 : w2.cell? ⟨gc, j * 4 + 2, none⟩ = some (.int .i64 (mixFu f k0 j j).res) := by rw [hr2.cell, List.getElem?_set_ne (by omega), List.getElem?_append_left (by omega), X2.out]
      have f2 := hr2.frozen (j * 4 + 2)
      have c3 : w2.cell? ⟨gc, j * 4 + 3, none⟩ = some (.slice A4 (f j).table.length cap4) := by rw [hr2.cell, List.getElem?_set_ne (by omega), List.getElem?_append_left (by omega), X3.out]
      have Hr2 := Lib.hid hr2
      have Hk2 := Lib.hid hk2
      have Ho2 := Lib.hid ho2
      have Hs2 := Lib.hid hs2
      have hs2' : w1.heap.size ≤ w2.heap.size := by rw [hs2]; simp [World.setCell]
      clear hr2 hk2 ho2 hs2 hg2 hmaS hmaW c0 f0 c1 hset
      generalize (mixFu f k0 j j).res = y2 at c2
      have hw23 : ∀ b, 0 < ((f j).zs b).length → (w2.setCell ⟨gc, j * 4 + 2, none⟩ (.int .i64 (markAtF f k0 j + 1 + ((f j).args.length : Int)))).heap[m j b]? = w2.heap[m j b]? := fun b h => Below.heap_setCell _ _ _ _ (hne b h)
      go_wp2_with fail
      have hmtS : OwnI wr 3 (m j true) (.slice A4 (f j).table.length cap4) (f j).table := by rw [← E4.out]; exact Hmt.out
      have hmtW : OwnI (w2.setCell ⟨gc, j * 4 + 2, none⟩ (.int .i64 (markAtF f k0 j + 1 + ((f j).args.length : Int)))) 3 (m j true) (.slice A4 (f j).table.length cap4) (f j).table :=
        hmtS.keep fun h => (hw23 true h).trans ((Hk2.out.block _ (by have := hmtS.lt h; simp [World.setCell]; omega) (fun h2 => ((Ha.out j false hlt h2).2 j true hlt (.inr (by simp)) h))).trans ((Below.heap_setCell _ _ _ _ (hne true h)).trans (Hb1.out.block _ (hmtS.lt h))))
      refine (markIntS_any (m j true) _ (f j).table (markAtF f k0 j + 1 + ((f j).args.length : Int) + 1) _ hmtW (by omega) (by omega)).mono ?_
      rintro e w3 ⟨rfl, hk3, ho3, hs3⟩
      have Hk3 := Lib.hid hk3
      have Ho3 := Lib.hid ho3
      have Hs3 := Lib.hid hs3
      clear hk3 ho3 hs3 hmtS hmtW c2 f2 c3 hw23
      go_wp2
      go_roundw
      case rel =>
        refine ⟨j + 1, by omega, by go_num, by rw [hnext.out], ?_, ?_⟩
        · have k1 : Kept (FuKeeps gc m n f) wr w1 := ⟨Hb1.out.os, Hb1.out.tape, Hb1.out.output, Hb1.out.size, fun k hk _ => Hb1.out.block k hk⟩
          have k2 := (hk.out.trans k1).setCell (p := ⟨gc, j * 4, none⟩) (fun h => h.1 (by omega) rfl) (.string (mText (markAtF f k0 j)))
          have k3 := k2.trans (Hk2.out.weak fun k hS h => hS.2 j false hlt h)
          have k4 := k3.setCell (p := ⟨gc, j * 4 + 2, none⟩) (fun h => h.1 (by omega) rfl) (.int .i64 (markAtF f k0 j + 1 + ((f j).args.length : Int)))
          exact k4.trans (Hk3.out.weak fun k hS h => hS.2 j true hlt h)
        · have hg3 : w3.heap[gc]? = (w2.setCell ⟨gc, j * 4 + 2, none⟩ (.int .i64 (markAtF f k0 j + 1 + ((f j).args.length : Int)))).heap[gc]? := Hk3.out.block gc (by have := Hr2.out.lt; simpa [World.setCell] using this) (fun h => (hne true h).symm)
          have hr3 := (Hr2.out.set_ (j * 4 + 2) (.int .i64 (markAtF f k0 j + 1 + ((f j).args.length : Int)))).keep hg3
          rw [List.set_append_left _ _ (by omega), List.set_append_left _ _ (by simp; omega)] at hr3
          refine ⟨(xs.set (j * 4) (.string (mText (markAtF f k0 j)))).set (j * 4 + 2) (.int .i64 (markAtF f k0 j + 1 + ((f j).args.length : Int))), ⟨_, cap, rfl, hc, hm, fun h => absurd h (by omega), fun _ => ⟨rfl, rest, hr3⟩⟩, by simp [hxl], fun i hi => ?_, fun i b hi => ?_⟩
          · obtain ⟨a, b, c, d⟩ := Hcells.out i hi
            by_cases e : i = j
            · subst e
              rw [mixFu_new]
              refine ⟨?_, ?_, ?_, ?_⟩
              · rw [List.getElem?_set_ne (by omega), List.getElem?_set_self (by omega)]; rfl
              · rw [List.getElem?_set_ne (by omega), List.getElem?_set_ne (by omega), b]
              · rw [List.getElem?_set_self (by simp; omega)]; rfl
              · rw [List.getElem?_set_ne (by omega), List.getElem?_set_ne (by omega), d]
            · rw [mixFu_old f k0 e]
              refine ⟨?_, ?_, ?_, ?_⟩
              · rw [List.getElem?_set_ne (by omega), List.getElem?_set_ne (by omega), a]
              · rw [List.getElem?_set_ne (by omega), List.getElem?_set_ne (by omega), b]
              · rw [List.getElem?_set_ne (by omega), List.getElem?_set_ne (by omega), c]
              · rw [List.getElem?_set_ne (by omega), List.getElem?_set_ne (by omega), d]
          · have hstay : ∀ k, k < wr.heap.size → k ≠ gc → (0 < (f j).args.length → k ≠ m j false) → (0 < (f j).table.length → k ≠ m j true) → w3.heap[k]? = wr.heap[k]? := fun k hkl hkg h1 h2 =>
              (Hk3.out.block k (by simp [World.setCell]; omega) h2).trans ((Below.heap_setCell _ _ _ _ hkg).trans ((Hk2.out.block k (by simp [World.setCell]; omega) h1).trans ((Below.heap_setCell _ _ _ _ hkg).trans (Hb1.out.block k hkl))))
            by_cases e : i = j
            · subst e
              rw [mixFu_new]
              cases b with
              | true => show OwnI w3 _ _ _ _; rw [E4.out]; exact Ho3.out
              | false =>
                show OwnI w3 _ _ _ _
                rw [E3.out]
                refine Ho2.out.keep fun h => ?_
                rw [markL_len] at h
                have hap := (Ha.out i false hlt h)
                exact (Hk3.out.block _ (by have := Ho2.out.lt (by rw [markL_len]; exact h); simpa [World.setCell] using this) (fun h2 => fun e2 => (hap.2 i true hlt (.inr (by simp)) h2) e2.symm)).trans (Below.heap_setCell _ _ _ _ hap.1)
            · rw [mixFu_old f k0 e]
              have hmi := Hmaps.out i b hi
              refine hmi.keep fun h => ?_
              have hl := hmi.lt h
              rw [mixFu_len] at h
              have hap := Ha.out i b hi h
              exact hstay _ hl hap.1 (fun h2 e2 => hap.2 j false hlt (.inl (fun e3 => e e3.symm)) h2 e2.symm) (fun h2 e2 => hap.2 j true hlt (.inl (fun e3 => e e3.symm)) h2 e2.symm)
      case measure => simp [intOf]; omega
    · obtain rfl : j = n := by omega
      go_wp2
      go_ret
      exact ⟨rfl, hk.out, ho.out⟩
end Go.Proofs.YtnmbjmocnafekaaGreatDoor

namespace Go.Proofs.YtnmbjmocnafekaaGreatDoor
open Go.RowKit

set_option maxRecDepth 100000 in
set_option maxHeartbeats 1000000 in
theorem markTypes_any (gs gc n : Nat) (m : Nat → Nat) (mv : Nat → Value) (sv cv : Value) (ss : List Int) (f : Nat → Co) (k0 : Int) (w : World) (hv : OwnTy w 3 185 gs gc m mv sv cv ss n f) (h0 : 0 ≤ k0)
    (h1 : k0 + (ss.length : Int) + 2 * (n : Int) + (lenSum f n : Int) ≤ 900000000) :
    Calls Tryz.prog 46 #[.agg #[sv, cv], .int .i64 k0] w fun e w' => e = .returned (.int .i64 (markAt f (k0 + ss.length) n)) ∧ Kept (fun k => ¬ OwnTy.uses gs gc m ss n f k) w w' ∧ w'.heap.size = w.heap.size + 1 ∧
      OwnTy w' 3 185 gs gc m mv sv cv (markL k0 ss.length) n (mixCo f (k0 + ss.length) n) := by
  have Hv := Lib.hid hv
  obtain ⟨⟨A, cap, rfl, _⟩, ⟨_, ⟨B, bap, rfl, _⟩, _⟩, _, _⟩ := hv
  have hin : ∀ (k : Nat), k < w.heap.size → ∀ o : Obj, (w.alloc o).heap[k]? = w.heap[k]? := fun k hk o => Below.heap_alloc w o k hk
  have Hin := Lib.hid hin
  clear hin
  go_enter Tryz.func46, Tryz.ntmps46
  go_wp2_with fail
  refine (markIntS_any gs _ ss k0 _ (Hv.out.sizes.keep fun h => Hin.out _ (Hv.out.sizes.lt h) _) h0 (by omega)).mono ?_
  rintro e w1 ⟨rfl, hk1, ho1, hs1⟩
  have q1 : w1.cell? ⟨w.heap.size, 1, none⟩ = some (.slice B n bap) := by
    have hb : w1.heap[w.heap.size]? = (w.alloc (.cells #[.slice A ss.length cap, .slice B n bap] 33)).heap[w.heap.size]? := hk1.block _ (by simp) (fun h => by have := Hv.out.sizes.lt h; omega)
    rw [World.cell?_of_block (w := w.alloc (.cells #[.slice A ss.length cap, .slice B n bap] 33)) hb]
    simp [go_sem]
  have Hk1 := Lib.hid hk1
  have Ho1 := Lib.hid ho1
  have Hs1 := Lib.hid hs1
  have hco : OwnCos w1 3 185 gc m mv (.slice B n bap) n f := Hv.out.cos.keep
    (fun h => (Hk1.out.block gc (by have := Hv.out.cos.lt.1 h; simp; omega) (fun h2 => (Hv.out.away h2).1.symm)).trans (Hin.out _ (Hv.out.cos.lt.1 h) _))
    (fun i hi hl => (Hk1.out.block (m i) (by have := Hv.out.cos.lt.2 i hi hl; simp; omega) (fun h2 => ((Hv.out.away h2).2 i hi hl).symm)).trans (Hin.out _ (Hv.out.cos.lt.2 i hi hl) _))
  have Hco := Lib.hid hco
  clear hk1 ho1 hs1 hco
  go_wp2_with fail
  refine (markCoercionS_any gc n m mv _ f (k0 + (ss.length : Int)) _ Hco.out Hv.out.apart (by omega) (by omega)).mono ?_
  rintro e w2 ⟨rfl, hk2, hs2, ho2⟩
  have Hk2 := Lib.hid hk2
  have Ho2 := Lib.hid ho2
  have Hs2 := Lib.hid hs2
  clear hk2 ho2 hs2
  go_wp2
  go_ret
  refine ⟨rfl, ?_, by rw [Hs2.out, Hs1.out]; simp, ⟨?_, Ho2.out, Hv.out.apart.mix _ _, fun h => ?_⟩⟩
  · refine (((Kept.refl _ w).alloc _).trans (Hk1.out.weak fun k hk h e => hk (.inl ⟨h, e⟩))).trans (Hk2.out.weak fun k hk => ?_)
    exact ⟨fun hn e => hk (.inr (.inl ⟨hn, e⟩)), fun i hi hl e => hk (.inr (.inr ⟨i, hi, hl, e⟩))⟩
  · refine Ho1.out.keep fun h => ?_
    rw [markL_len] at h
    have hlt := Hv.out.sizes.lt h
    exact Hk2.out.block gs (by rw [Hs1.out]; simp; omega) ⟨fun _ => (Hv.out.away h).1, fun i hi hl => (Hv.out.away h).2 i hi hl⟩
  · rw [markL_len] at h
    exact ⟨(Hv.out.away h).1, fun i hi hl => (Hv.out.away h).2 i hi (by rw [mixCo_len] at hl; exact hl)⟩
end Go.Proofs.YtnmbjmocnafekaaGreatDoor

namespace Go.Proofs.YtnmbjmocnafekaaGreatDoor
open Go.RowKit

/-- A system in memory of the call's own. -/
structure OwnSy (w : World) (gs gc : Nat) (m : Nat → Nat) (mv : Nat → Value) (sv cv : Value) (ss : List Int) (n : Nat) (f : Nat → Co) (gf : Nat) (mf : Nat → Bool → Nat) (mvf : Nat → Bool → Value) (fv : Value) (nf : Nat) (ff : Nat → Fu) : Prop where
  ty : OwnTy w 3 185 gs gc m mv sv cv ss n f
  fs : OwnFus w 3 111 gf mf mvf fv nf ff
  apart : ApartF gf mf nf ff
  away : ∀ k, OwnTy.uses gs gc m ss n f k → FuKeeps gf mf nf ff k
/-- The blocks of such a system. -/
def OwnSy.uses (gs gc : Nat) (m : Nat → Nat) (ss : List Int) (n : Nat) (f : Nat → Co) (gf : Nat) (mf : Nat → Bool → Nat) (nf : Nat) (ff : Nat → Fu) (k : Nat) : Prop := OwnTy.uses gs gc m ss n f k ∨ ¬ FuKeeps gf mf nf ff k
theorem OwnTy.uses_lt {w : World} {ti tc : TypeId} {gs gc n : Nat} {m : Nat → Nat} {mv : Nat → Value} {sv cv : Value} {ss : List Int} {f : Nat → Co} (h : OwnTy w ti tc gs gc m mv sv cv ss n f) {k : Nat} (hk : OwnTy.uses gs gc m ss n f k) : k < w.heap.size := by
  rcases hk with ⟨h0, rfl⟩ | ⟨h0, rfl⟩ | ⟨i, hi, h0, rfl⟩
  · exact h.sizes.lt h0
  · exact h.cos.lt.1 h0
  · exact h.cos.lt.2 i hi h0
theorem not_keeps {gf nf : Nat} {mf : Nat → Bool → Nat} {ff : Nat → Fu} {k : Nat} (h : ¬ FuKeeps gf mf nf ff k) : (0 < nf ∧ k = gf) ∨ ∃ i b, i < nf ∧ 0 < ((ff i).zs b).length ∧ k = mf i b := by
  unfold FuKeeps at h
  rcases Classical.em (0 < nf → k ≠ gf) with h1 | h1
  · rcases Classical.em (∀ i b, i < nf → 0 < ((ff i).zs b).length → k ≠ mf i b) with h2 | h2
    · exact absurd ⟨h1, h2⟩ h
    · refine .inr ?_
      apply Classical.byContradiction
      intro hn
      exact h2 fun i b hi hl e => hn ⟨i, b, hi, hl, e⟩
  · refine .inl ?_
    apply Classical.byContradiction
    intro hn
    exact h1 fun h0 e => hn ⟨h0, e⟩

/-- A system as the copying lays it is such a system. -/
theorem NewSy.own {w : World} {g : Nat} {y : Sy} (h : NewSy w 3 185 111 g y) (hb : y.bulk ≤ 1048576) :
    OwnSy w g (g + 1) (fun j => g + 1 + 1 + 4 * j + 3) (fun j => .slice (some ⟨g + 1 + 1 + 4 * j + 3, 0, none⟩) (y.ty.cos.getD j default).map.length (y.ty.cos.getD j default).map.length)
      (.slice (some ⟨g, 0, none⟩) y.ty.sizes.length y.ty.sizes.length) (.slice (some ⟨g + 1, 0, none⟩) y.ty.cos.length y.ty.cos.length) y.ty.sizes y.ty.cos.length (fun j => y.ty.cos.getD j default)
      (g + 2 + 4 * y.ty.cos.length) (fun j b => g + 2 + 4 * y.ty.cos.length + 1 + 5 * j + (if b then 4 else 3)) (fun j b => .slice (some ⟨g + 2 + 4 * y.ty.cos.length + 1 + 5 * j + (if b then 4 else 3), 0, none⟩) ((y.fs.getD j default).zs b).length ((y.fs.getD j default).zs b).length)
      (.slice (some ⟨g + 2 + 4 * y.ty.cos.length, 0, none⟩) y.fs.length y.fs.length) y.fs.length (fun j => y.fs.getD j default) := by
  have hb' := hb
  unfold Sy.bulk at hb'
  obtain ⟨h1, ⟨xs, h2, h3⟩, h4⟩ := h
  refine ⟨h1.own (by omega), ⟨xs, ⟨_, _, rfl, Nat.le_refl _, by unfold maxLen; omega, fun h0 => List.eq_nil_of_length_eq_zero (by rw [h3.1, h0]), fun _ => ⟨rfl, [], by simpa using h2⟩⟩, h3.1, fun i hi => ?_, fun i b hi => ?_⟩, fun i b hi _ => ⟨?_, fun j c hj hne _ => ?_⟩, fun k hk => ?_⟩
  · obtain ⟨a, b, c, d⟩ := h3.2 i hi hi
    have e : y.fs.getD i default = y.fs[i] := by rw [List.getD_eq_getElem?_getD, List.getElem?_eq_getElem hi]; rfl
    simp only [e]
    exact ⟨a, b, c, d⟩
  · have e : y.fs.getD i default = y.fs[i] := by rw [List.getD_eq_getElem?_getD, List.getElem?_eq_getElem hi]; rfl
    simp only [e]
    have hw := y.fu_le i hi
    unfold Fu.weight at hw
    cases b with
    | false => exact (h4 i hi).1.own (Nat.le_refl _) (by show y.fs[i].args.length ≤ maxLen; unfold maxLen; omega)
    | true => exact (h4 i hi).2.own (Nat.le_refl _) (by show y.fs[i].table.length ≤ maxLen; unfold maxLen; omega)
  · show g + 2 + 4 * y.ty.cos.length + 1 + 5 * i + _ ≠ g + 2 + 4 * y.ty.cos.length
    split <;> omega
  · show g + 2 + 4 * y.ty.cos.length + 1 + 5 * j + _ ≠ g + 2 + 4 * y.ty.cos.length + 1 + 5 * i + _
    rcases hne with hne | hne
    · cases b <;> cases c <;> simp <;> omega
    · cases b <;> cases c <;> simp at hne ⊢ <;> omega
  · have hk2 : g ≤ k ∧ k < g + 2 + 4 * y.ty.cos.length := by
      rcases hk with ⟨_, rfl⟩ | ⟨_, rfl⟩ | ⟨i, hi, _, rfl⟩
      · omega
      · omega
      · dsimp only; omega
    exact ⟨fun _ => by omega, fun i b hi _ => by dsimp only; split <;> omega⟩

set_option maxRecDepth 100000 in
set_option maxHeartbeats 2000000 in
theorem markSystem_any (gs gc n : Nat) (m : Nat → Nat) (mv : Nat → Value) (sv cv : Value) (ss : List Int) (f : Nat → Co) (gf nf : Nat) (mf : Nat → Bool → Nat) (mvf : Nat → Bool → Value) (fv : Value) (ff : Nat → Fu) (k0 : Int) (w : World)
    (hv : OwnSy w gs gc m mv sv cv ss n f gf mf mvf fv nf ff) (h0 : 0 ≤ k0) (h1 : k0 + (ss.length : Int) + 2 * (n : Int) + (lenSum f n : Int) + 2 * (nf : Int) + (lenF ff nf : Int) ≤ 900000000) :
    Calls Tryz.prog 17 #[.agg #[sv, cv, fv], .int .i64 k0] w fun e w' => e = .returned (.int .i64 (markAtF ff (markAt f (k0 + ss.length) n) nf)) ∧ Kept (fun k => ¬ OwnSy.uses gs gc m ss n f gf mf nf ff k) w w' := by
  have Hv := Lib.hid hv
  obtain ⟨⟨⟨A, cap, rfl, _⟩, ⟨_, ⟨B, bap, rfl, _⟩, _⟩, _, _⟩, ⟨_, ⟨F, fap, rfl, _⟩, _⟩, _, _⟩ := hv
  have hat : markAt f (k0 + ss.length) n = k0 + (ss.length : Int) + 2 * (n : Int) + (lenSum f n : Int) := rfl
  have h3 : Below w.heap.size w (w.alloc (.cells #[.slice A ss.length cap, .slice B n bap, .slice F nf fap] 36)) := by go_grown
  have H1 := Lib.hid (Below.refl (w.heap.size + 1) (w.alloc (.cells #[.slice A ss.length cap, .slice B n bap, .slice F nf fap] 36)))
  go_enter Tryz.func17, Tryz.ntmps17
  go_wp2_with fail
  refine (markTypes_any gs gc n m mv _ _ ss f k0 _ (Hv.out.ty.keep fun k hk _ => h3.block k hk) h0 (by omega)).mono ?_
  rintro e w1 ⟨rfl, hk1, hs1, ho1⟩
  have hrow : Row w1 w.heap.size 36 [.slice A ss.length cap, .slice B n bap, .slice F nf fap] := (Row.new w 36 [.slice A ss.length cap, .slice B n bap, .slice F nf fap]).keep (hk1.block _ (by simp) (fun h => by have := Hv.out.ty.uses_lt h; omega))
  have q2 := hrow.cell 2
  simp only [List.getElem?_cons_zero, List.getElem?_cons_succ] at q2
  have Hk1 := Lib.hid hk1
  have Hs1 := Lib.hid hs1
  have H3 := Lib.hid h3
  have hf1 : OwnFus w1 3 111 gf mf mvf (.slice F nf fap) nf ff := by
    have hlt := Hv.out.fs.lt
    refine Hv.out.fs.keep (fun h0 => ?_) (fun i b hi hl => ?_)
    · exact (hk1.block gf (by have := hlt.1 h0; simp; omega) (fun h => (Hv.out.away _ h).1 h0 rfl)).trans (h3.block _ (hlt.1 h0))
    · exact (hk1.block _ (by have := hlt.2 i b hi hl; simp; omega) (fun h => (Hv.out.away _ h).2 i b hi hl rfl)).trans (h3.block _ (hlt.2 i b hi hl))
  have Hf1 := Lib.hid hf1
  clear hk1 hs1 ho1 h3 hrow hf1 H1
  obtain ⟨M, hM⟩ : ∃ M, M = markAt f (k0 + ss.length) n := ⟨_, rfl⟩
  rw [← hM]
  have HM := Lib.hid hM
  have hM0 : 0 ≤ M := by rw [hM, hat]; omega
  have hM1 : M + 2 * (nf : Int) + (lenF ff nf : Int) ≤ 900000000 := by rw [hM, hat]; omega
  clear hM hat
  go_wp2_with fail
  refine (markFunctionS_any gf nf mf mvf _ ff M _ Hf1.out Hv.out.apart hM0 hM1).mono ?_
  rintro e w2 ⟨rfl, hk2, ho2⟩
  have Hk2 := Lib.hid hk2
  clear hk2 ho2
  go_wp2
  go_ret
  rw [← HM.out]
  refine ⟨rfl, ?_⟩
  have k0 : Kept (fun k => ¬ OwnSy.uses gs gc m ss n f gf mf nf ff k) w (w.alloc (.cells #[.slice A ss.length cap, .slice B n bap, .slice F nf fap] 36)) := ⟨H3.out.os, H3.out.tape, H3.out.output, H3.out.size, fun k hk _ => H3.out.block k hk⟩
  exact (k0.trans (Hk1.out.weak fun k h h2 => h (.inl h2))).trans (Hk2.out.weak fun k h => Classical.byContradiction fun h2 => h (.inr h2))
end Go.Proofs.YtnmbjmocnafekaaGreatDoor

