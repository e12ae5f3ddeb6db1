/-
  A finder for two types.
-/
import Derived.Test.YtokklaoldgdkaaaScan
namespace Go.Proofs.Ytokklaoldgdkaaa
open Go.RowKit

theorem findOk_two {t : Ty} {a b : Int} : findOk t [a, b] = typesB t a b := by simp [findOk, typesB, Bool.and_assoc]
theorem ints_two (w : World) (a b : Int) (ha : I64 a) (hb : I64 b) (t : TypeId) : IntsAt (w.alloc (.cells #[.int .i64 a, .int .i64 b] t)) w.heap.size (w.heap.size + 1) (.slice (some ⟨w.heap.size, 0, none⟩) 2 2) [a, b] :=
  (show Row (w.alloc (.cells #[.int .i64 a, .int .i64 b] t)) w.heap.size t ([a, b].map (Value.int .i64)) from Row.new w t [.int .i64 a, .int .i64 b]).ints (fun x hx => by
    simp only [List.mem_cons, List.not_mem_nil, or_false] at hx
    rcases hx with rfl | rfl
    · exact ha
    · exact hb) (Nat.le_refl _) (by omega) (Nat.le_refl _) (by unfold maxLen; simp)
end Go.Proofs.Ytokklaoldgdkaaa
