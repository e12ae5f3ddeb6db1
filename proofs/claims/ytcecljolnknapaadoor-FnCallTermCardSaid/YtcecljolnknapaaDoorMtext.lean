/-
  The contract of the law's markText.
-/
import Derived.Test.YtcecljolnknapaaDoorRows
import Derived.Test.YtcecljolnknapaaDoorMem
import Derived.Outline
import Derived.Handy
import Derived.Laws.BytesArg
namespace Go.Proofs.YtcecljolnknapaaDoor
open Go.RowKit

/-- The digits of a number ahead of a text. -/
def digs : Nat → Int → ByteArray → ByteArray
  | 0, _, b => b
  | f + 1, n, b => if 0 < n then digs f (n / 10) (strOfNums [48 + n % 10] ++ b) else b
/-- The text that marks by a number. -/
def mText (k : Int) : ByteArray := if k ≤ 0 then ⟨#[109, 48]⟩ else ⟨#[109]⟩ ++ digs 11 k ⟨#[]⟩
theorem digs_zero : ∀ (f : Nat) (b : ByteArray), digs f 0 b = b
  | 0, _ => rfl
  | f + 1, b => by show (if (0 : Int) < 0 then _ else b) = b; rw [if_neg (by omega)]
theorem digs_step (f : Nat) (n : Int) (b : ByteArray) (h : 0 < n) : digs (f + 1) n b = digs f (n / 10) (strOfNums [48 + n % 10] ++ b) := if_pos h

theorem digs_size : ∀ (f : Nat) (n : Int) (b : ByteArray), (digs f n b).size ≤ f + b.size
  | 0, _, b => by show b.size ≤ 0 + b.size; omega
  | f + 1, n, b => by
    by_cases h : 0 < n
    · rw [digs_step f n b h]
      have h1 := digs_size f (n / 10) (strOfNums [48 + n % 10] ++ b)
      have h2 : (strOfNums [48 + n % 10]).size = 1 := strOfNums_size _
      rw [ByteArray.size_append] at h1
      omega
    · have e : digs (f + 1) n b = b := if_neg h
      rw [e]; omega
theorem mText_size (k : Int) : (mText k).size ≤ 12 := by
  unfold mText
  split
  · show 2 ≤ 12; omega
  · have h := digs_size 11 k ⟨#[]⟩
    have e : (⟨#[]⟩ : ByteArray).size = 0 := rfl
    have e2 : (⟨#[109]⟩ : ByteArray).size = 1 := rfl
    rw [ByteArray.size_append]
    omega

set_option maxRecDepth 100000 in
set_option maxHeartbeats 1000000 in
theorem markText_any (k : Int) (w : World) (h0 : 0 ≤ k) (h1 : k ≤ 1000000000) :
    Calls Tryd.prog 50 #[.int .i64 k] w fun e w' => e = .returned (.string (mText k)) ∧ Below w.heap.size w w' := by
  by_cases hk : k ≤ 0
  · have H : Hid (mText k = ⟨#[109, 48]⟩) := if_pos hk
    go_enter Tryd.func50, Tryd.ntmps50
    go_wp2
    go_ret
    exact ⟨by rw [H.out]; rfl, Below.refl _ _⟩
  have H : Hid (mText k = ⟨#[109]⟩ ++ digs 11 k ⟨#[]⟩) := if_neg hk
  have hk' : ¬ k ≤ 0 := hk
  go_enter Tryd.func50, Tryd.ntmps50
  go_wp2
  go_loopw [0, 3] (fun q s wr => ∃ (n f : Nat) (b : ByteArray), n ≤ 1000000000 ∧ q = .int .i64 n ∧ s = .string b ∧ Hid (digs f n b = digs 11 k ⟨#[]⟩) ∧ n < 10 ^ f ∧ b.size + f ≤ 11 ∧ Below w.heap.size w wr) (fun q _ _ => (intOf q).toNat)
  case atStart => exact ⟨k.toNat, 11, ⟨#[]⟩, by omega, by rw [Int.toNat_of_nonneg h0], rfl, by show _ = _; rw [Int.toNat_of_nonneg h0], by omega, by show 0 + 11 ≤ 11; omega, Below.refl _ _⟩
  case round =>
    obtain ⟨n, f, b, hn, rfl, rfl, hd, hf, hbs, hbw⟩ := hrel
    by_cases hp : 0 < n
    · have hp' : (0 : Int) < (n : Int) := by omega
      have hws := hbw.size
      have hcv := run_convert_bytes_arg (P := Tryd.prog) (wr.alloc (.cells #[.int .u8 (48 + (n : Int) % 10)] 5)) 37 5 Tryd.underlying37 Tryd.underlying5 wr.heap.size 0 1 1 [48 + (n : Int) % 10] rfl (by
        intro i hi
        obtain rfl : i = 0 := by omega
        simp [go_sem]) 9 Tryd.underlying9
      obtain ⟨f', rfl⟩ : ∃ f', f = f' + 1 := ⟨f - 1, by rcases f with _ | f <;> omega⟩
      have hd2 : Hid (digs f' ((n / 10 : Nat) : Int) (strOfNums [48 + (n : Int) % 10] ++ b) = digs 11 k ⟨#[]⟩) := by
        show _ = _
        rw [← hd.out, digs_step f' _ b hp']
        rfl
      have hf2 : n / 10 < 10 ^ f' := by
        have : 10 ^ (f' + 1) = 10 ^ f' * 10 := rfl
        rw [this] at hf
        omega
      have hsn : (strOfNums [48 + (n : Int) % 10]).size = 1 := strOfNums_size _
      have hnot : ¬ 9223372036854775807 < (strOfNums [48 + (n : Int) % 10]).size + b.size := by omega
      have hbs2 : (strOfNums [48 + (n : Int) % 10] ++ b).size + f' ≤ 11 := by rw [ByteArray.size_append]; omega
      clear hsn
      go_wp2
      go_roundw
      case rel => exact ⟨n / 10, f', _, by omega, by go_num, rfl, hd2, hf2, hbs2, hbw.alloc (by omega) _⟩
      case measure => simp [intOf]; omega
    · obtain rfl : n = 0 := by omega
      have hnot : ¬ 9223372036854775807 < (⟨#[109]⟩ : ByteArray).size + b.size := by show ¬ _ < 1 + b.size; omega
      have hfin : Hid (mText k = ⟨#[109]⟩ ++ b) := by show _ = _; rw [H.out, ← hd.out]; exact congrArg _ (digs_zero f b)
      go_wp2
      go_ret
      exact ⟨by rw [hfin.out]; rfl, hbw⟩
end Go.Proofs.YtcecljolnknapaaDoor
