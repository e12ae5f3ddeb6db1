/-
  The contracts of strconv.Itoa and strings.Join at this program's numbers; of isDigit; of a literal's text.
-/
import Derived.Test.YtcecljolnknapaaDoorTmg
import Derived.Test.YtcecljolnknapaaDoorLay
import Derived.BigQuiet
namespace Go.Proofs.YtcecljolnknapaaDoor
open Go.RowKit

theorem layJ : Builder.Extra Tryd.prog lays156_ren := {
  sizeBuilder := by kernel_rfl
  liesBuilder := by kernel_rfl
  t5 := Tryd.underlying5
  a5 := Tryd.isAgg5
  z5 := Tryd.sizeOf5
  v5 := Tryd.zeroValue5
  infoByte := by kernel_rfl
  cellsByte := by kernel_rfl
  sizeByte := by kernel_rfl
  neB5 := by decide }
theorem itoa_dig (z : Int) (hz : Dig z) (w : World) :
    Calls Tryd.prog 80 #[.int .i64 z] w fun e w' => e = .returned (.string (str (dg z))) ∧ w' = w := by
  obtain ⟨h0, h9⟩ := hz
  obtain ⟨n, rfl⟩ : ∃ n : Nat, z = n := ⟨z.toNat, by omega⟩
  refine (Any.strconv_Itoa_small lays171 n (by omega) w).mono ?_
  rintro e w' ⟨rfl, rfl⟩
  refine ⟨?_, rfl⟩
  rw [dg_dec (by omega)]
  rfl
/-- strings.Join, a comma between. -/
theorem join_comma (b c : Nat) (ps : List (List UInt8)) (w : World) (hcells : ∀ j, ∀ (hj : j < ps.length), w.cell? ⟨b, j, none⟩ = some (.string (str ps[j]))) (hb : b < w.heap.size) (hn : ps.length ≤ 1048576) (hc : ps.length ≤ c) (hl : (Lib.join ps [44]).length ≤ 1048576) :
    Calls Tryd.prog 60 #[.slice (some ⟨b, 0, none⟩) ps.length c, .string ⟨#[44]⟩] w fun e w' => e = .returned (.string (str (Lib.join ps [44]))) ∧ Below w.heap.size w w' := by
  have hm : (ps.map fun z => str z).map (·.data.toList) = ps := by
    rw [List.map_map]
    simp [str, Function.comp_def]
  have h := Any.strings_Join lays156 layJ b 0 c (ps.map fun z => str z) ⟨#[44]⟩ w (fun j x hx => by
    rw [List.getElem?_map] at hx
    obtain ⟨z, hz, rfl⟩ := Option.map_eq_some_iff.1 hx
    obtain ⟨hj, rfl⟩ := List.getElem?_eq_some_iff.1 hz
    rw [Nat.zero_add]
    exact hcells j hj) hb (by rw [List.length_map]; omega) (by rw [List.length_map]; exact hc) (by rw [hm]; show (Lib.join ps [44]).length ≤ _; omega)
  rw [List.length_map, hm] at h
  refine Calls.mono h ?_
  rintro e w' ⟨rfl, hb'⟩
  exact ⟨rfl, hb'⟩

set_option maxRecDepth 100000 in
set_option maxHeartbeats 1000000 in
theorem litText_any (k v : Int) (hk : Dig k) (hv : Dig v) (w : World) :
    Calls Tryd.prog 65 #[.agg #[.int .i64 k, .int .i64 v]] w fun e w' => e = .returned (.string (str (dg k ++ [58] ++ dg v))) ∧ Below w.heap.size w w' := by
  have HB := Lib.hid ((Below.refl w.heap.size w).alloc (Nat.le_refl _) (.cells #[.int .i64 k, .int .i64 v] 58))
  have r2 := Row.new w 58 [.int .i64 k, .int .i64 v]
  have m0 := r2.cell 0
  have m1 := r2.cell 1
  simp only [List.getElem?_cons_zero, List.getElem?_cons_succ] at m0 m1
  have s1 : str (dg k) ++ (⟨#[58]⟩ : ByteArray) = str (dg k ++ [58]) := str_append _ _
  have s2 : str (dg k ++ [58]) ++ str (dg v) = str (dg k ++ [58] ++ dg v) := str_append _ _
  obtain ⟨L2, l2⟩ : ∃ L, L = dg k ++ [58] := ⟨_, rfl⟩
  obtain ⟨L3, l3⟩ : ∃ L, L = L2 ++ dg v := ⟨_, rfl⟩
  rw [← l2] at s1 s2 ⊢
  rw [← l3] at s2 ⊢
  have n1 : ¬ 9223372036854775807 < (str (dg k)).size + 1 := by rw [str_size, show (dg k).length = 1 from rfl]; omega
  have n2 : ¬ 9223372036854775807 < (str L2).size + (str (dg v)).size := by rw [str_size, str_size, l2, show (dg v).length = 1 from rfl]; simp [dg]
  have HK := Lib.hid hk
  have HV := Lib.hid hv
  clear r2 hk hv l2 l3
  go_enter Tryd.func65, Tryd.ntmps65
  go_wp2_with fail
  go_quiet ((first | (go_at_call 80; exact quiet_eq ((itoa_dig k HK.out _).mono fun _ _ h => ⟨h.1, h.2.symm⟩)) | (go_at_call 80; exact quiet_eq ((itoa_dig v HV.out _).mono fun _ _ h => ⟨h.1, h.2.symm⟩))))
  go_wp2
  go_ret
  exact ⟨rfl, below_drewN HB.out _⟩
end Go.Proofs.YtcecljolnknapaaDoor
