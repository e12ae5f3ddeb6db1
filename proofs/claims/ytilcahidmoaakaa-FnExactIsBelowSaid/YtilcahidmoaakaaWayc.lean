/-
  The contracts of the program's finder: finderOf, isWay, along.
-/
import Derived.Test.YtilcahidmoaakaaWay
namespace Go.Proofs.Ytilcahidmoaakaa
open Go.RowKit

/-- Are the types valid, and are these all types of theirs? -/
def findOk (t : Ty) (ks : List Int) : Bool := tyOk t && ks.all fun k => ixB k t.sizes.length

set_option maxRecDepth 100000 in
set_option maxHeartbeats 1000000 in
theorem finderOf_any (lo hi lo2 hi2 : Nat) (sv cv kv : Value) (t : Ty) (ks : List Int) (w : World) (hv : TyAt w lo hi sv cv t) (hB : hi ≤ w.heap.size) (hk : IntsAt w lo2 hi2 kv ks) (hB2 : hi2 ≤ w.heap.size) :
    Calls Try.prog 125 #[.agg #[sv, cv], kv] w fun e w' => ∃ p, e = .returned (.tuple #[.pointer p, .bool (findOk t ks)]) ∧ Below w.heap.size w w' ∧
      (findOk t ks = true → ∃ g, p = some ⟨g, 0, none⟩ ∧ w.heap.size ≤ g ∧ Row w' g 132 [sv, cv]) := by
  obtain ⟨A, cap, rfl, hl1, hm1, _⟩ := hv.1.form
  obtain ⟨B, bap, rfl, hl2, hm2, _⟩ := hv.2.form
  obtain ⟨K, kap, rfl, hl3, hm3, hk1⟩ := hk.form
  unfold maxLen at hm1 hm3
  have h3 : Below w.heap.size w (w.alloc (.cells #[.slice A t.sizes.length cap, .slice B t.cos.length bap] 33)) := by go_grown
  have hv3 := Lib.hid (hv.below h3 hB)
  have Hk1 := Lib.hid hk1
  clear hv hk hk1
  go_enter Try.func125, Try.ntmps125
  go_wp2_with fail
  refine (implValid_any lo hi _ _ t _ hv3.out (by simp; omega)).mono ?_
  rintro e w1 ⟨rfl, hb1⟩
  have H1 := Lib.hid (box2 (hb1.mono (by simp)))
  obtain ⟨q0, q1, hl, _⟩ := box2 (hb1.mono (by simp))
  clear hb1
  by_cases hok : tyOk t = true
  · have hfin : Hid (findOk t ks = ks.all fun k => ixB k t.sizes.length) := by show _ = _; unfold findOk; rw [hok, Bool.true_and]
    rw [hok]
    clear hok
    go_wp2
    go_loopw [13] (fun i wr => ∃ j : Nat, j ≤ ks.length ∧ i = .int .i64 j ∧ w1 = wr ∧ Hid (∀ m, ∀ (hm : m < ks.length), m < j → ixB ks[m] t.sizes.length = true)) (fun i _ => ks.length - (intOf i).toNat)
    case atStart => exact ⟨0, Nat.zero_le _, rfl, rfl, fun m hm h => absurd h (by omega)⟩
    case round =>
      obtain ⟨j, hj, rfl, rfl, hall⟩ := hrel
      by_cases hlt : j < ks.length
      · obtain ⟨b, off, rfl, _, _, c0, _⟩ := (Hk1.out.below H1.out.2.2.2 hB2).at_ hlt
        by_cases hx : ixB ks[j] t.sizes.length = true
        · have hall2 : Hid (∀ m, ∀ (hm : m < ks.length), m < j + 1 → ixB ks[m] t.sizes.length = true) := fun m hm h => by
            by_cases e : m = j
            · subst e; exact hx
            · exact hall.out m hm (by omega)
          go_wp2_with (go_at_call 107; refine (isIndex_any _ _ _).mono ?_; rintro e w' ⟨rfl, rfl⟩; rw [hx])
          go_roundw
          case rel => exact ⟨j + 1, by omega, by go_num, trivial, hall2⟩
          case measure => simp [intOf]; omega
        · have hxf : ixB ks[j] t.sizes.length = false := by simpa using hx
          have hno : findOk t ks = false := by rw [hfin.out]; exact all_false_of j hlt hxf
          clear hx
          have Hno := Lib.hid hno
          clear hno
          go_wp2_with (go_at_call 107; refine (isIndex_any _ _ _).mono ?_; rintro e w' ⟨rfl, rfl⟩; rw [hxf])
          refine bodyPost_ret (v := .tuple #[.pointer none, .bool false]) (by simp [results, Try.results125, go_sem]) rfl ?_
          exact ⟨none, by rw [Hno.out], H1.out.2.2.2, fun h => by rw [Hno.out] at h; cases h⟩
      · obtain rfl : j = ks.length := by omega
        have hyes : findOk t ks = true := by rw [hfin.out]; exact all_true_of fun m hm => hall.out m hm hm
        have Hyes := Lib.hid hyes
        clear hyes
        go_wp2
        refine bodyPost_ret (v := .tuple #[.pointer (some ⟨w1.heap.size, 0, none⟩), .bool true]) (by simp [results, Try.results125, go_sem]) rfl ?_
        exact ⟨_, by rw [Hyes.out], H1.out.2.2.2.alloc (by omega) _, fun _ => ⟨_, rfl, by omega, Row.new _ _ [.slice A t.sizes.length cap, .slice B t.cos.length bap]⟩⟩
  · have hokf : tyOk t = false := by simpa using hok
    have hfin : Hid (findOk t ks = false) := by show _ = _; unfold findOk; rw [hokf, Bool.false_and]
    rw [hokf]
    clear hok
    go_wp2
    refine bodyPost_ret (v := .tuple #[.pointer none, .bool false]) (by simp [results, Try.results125, go_sem]) rfl ?_
    exact ⟨none, by rw [hfin.out], H1.out.2.2.2, fun h => by rw [hfin.out] at h; cases h⟩

set_option maxRecDepth 100000 in
set_option maxHeartbeats 1000000 in
theorem isWay_any (lo hi lo2 hi2 g : Nat) (sv cv rv : Value) (t : Ty) (k : Int) (zs : List Int) (w : World) (hv : TyAt w lo hi sv cv t) (hr : IntsAt w lo2 hi2 rv zs) (hg : Row w g 132 [sv, cv]) (hok : tyOk t = true) :
    Calls Try.prog 132 #[.pointer (some ⟨g, 0, none⟩), .int .i64 k, rv] w fun e w' => e = .returned (.bool (wayEnd t.cos k zs).isSome) ∧ w = w' := by
  obtain ⟨A, cap, rfl, hl1, hm1, _⟩ := hv.1.form
  obtain ⟨B, bap, rfl, hl2, hm2, hc1⟩ := hv.2.form
  obtain ⟨K, kap, rfl, hl3, hm3, hk1⟩ := hr.form
  have hfew := tyOk_few hok
  unfold maxLen at hm3
  have g0 : w.cell? ⟨g, 0, none⟩ = some (.slice A t.sizes.length cap) := hg.cell 0
  have g1 : w.cell? ⟨g, 1, none⟩ = some (.slice B t.cos.length bap) := hg.cell 1
  have Hk1 := Lib.hid hk1
  have Hc1 := Lib.hid hc1
  clear hv hr hk1 hc1 hg hok
  go_enter Try.func132, Try.ntmps132
  go_wp2
  go_loopw [7, 13] (fun a i wr => ∃ (j : Nat) (at' : Int), j ≤ zs.length ∧ a = .int .i64 at' ∧ i = .int .i64 j ∧ w = wr ∧ Hid (wayEnd t.cos k zs = wayEnd t.cos at' (zs.drop j))) (fun _ i _ => zs.length - (intOf i).toNat)
  case atStart => exact ⟨0, k, Nat.zero_le _, rfl, rfl, rfl, rfl⟩
  case round =>
    obtain ⟨j, at', hj, rfl, rfl, rfl, heq⟩ := hrel
    by_cases hlt : j < zs.length
    · obtain ⟨b, off, rfl, _, _, c0, _⟩ := Hk1.out.at_ hlt
      by_cases hx : 0 ≤ zs[j] ∧ zs[j] < t.cos.length
      · have hxb := ixB_yes hx.1 hx.2
        have hi : zs[j].toNat < t.cos.length := by omega
        obtain ⟨b3, off3, A2, cap2, rfl, hlo, hhi, d0, d1, d2, _, _, _, _, _⟩ := Hc1.out.at_ hi
        have hx0 := hx.1
        have hx1 := hx.2
        by_cases hs : t.cos[zs[j].toNat].src = at'
        · have hst := Lib.hid (heq.out.trans (wayEnd_yes hlt hx.1 hi hs))
          have htest : (t.cos[zs[j].toNat].src != at') = false := by simpa using hs
          clear hx hs
          go_wp2_with (go_at_call 107; refine (isIndex_any _ _ _).mono ?_; rintro e w' ⟨rfl, rfl⟩; rw [hxb])
          go_roundw
          case rel => exact ⟨j + 1, _, by omega, rfl, by go_num, trivial, hst⟩
          case measure => simp [intOf]; omega
        · have hst := Lib.hid (heq.out.trans (wayEnd_other hlt hi hs))
          have htest : (t.cos[zs[j].toNat].src != at') = true := by simpa using hs
          clear hx hs
          go_wp2_with (go_at_call 107; refine (isIndex_any _ _ _).mono ?_; rintro e w' ⟨rfl, rfl⟩; rw [hxb])
          go_ret
          exact ⟨by rw [hst.out]; rfl, rfl⟩
      · have hxb := ixB_no hx
        have hst := Lib.hid (heq.out.trans (wayEnd_out hlt hxb))
        clear hx
        go_wp2_with (go_at_call 107; refine (isIndex_any _ _ _).mono ?_; rintro e w' ⟨rfl, rfl⟩; rw [hxb])
        go_ret
        exact ⟨by rw [hst.out]; rfl, rfl⟩
    · obtain rfl : j = zs.length := by omega
      have hst := Lib.hid (heq.out.trans (wayEnd_done _ _ _))
      go_wp2
      go_ret
      exact ⟨by rw [hst.out]; rfl, rfl⟩

set_option maxRecDepth 100000 in
set_option maxHeartbeats 2000000 in
theorem along_any (lo hi lo2 hi2 g : Nat) (sv cv rv : Value) (t : Ty) (k v : Int) (zs : List Int) (w : World) (hv : TyAt w lo hi sv cv t) (hB : hi ≤ w.heap.size) (hr : IntsAt w lo2 hi2 rv zs) (hB2 : hi2 ≤ w.heap.size) (hg : Row w g 132 [sv, cv])
    (hok : tyOk t = true) (hval : ValOf t.sizes k v) (hway : (wayEnd t.cos k zs).isSome = true) :
    Calls Try.prog 133 #[.pointer (some ⟨g, 0, none⟩), rv, .int .i64 v] w fun e w' => e = .returned (.int .i64 (goV t.cos v zs)) ∧ Below w.heap.size w w' := by
  obtain ⟨A, cap, rfl, hl1, hm1, _⟩ := hv.1.form
  obtain ⟨B, bap, rfl, hl2, hm2, hc1⟩ := hv.2.form
  obtain ⟨K, kap, rfl, hl3, hm3, hk1⟩ := hr.form
  have hfew := tyOk_few hok
  unfold maxLen at hm3
  have Hk1 := Lib.hid hk1
  have Hc1 := Lib.hid hc1
  have Hg := Lib.hid hg
  have Hok := Lib.hid hok
  have Hval := Lib.hid hval
  have Hway := Lib.hid hway
  clear hv hr hk1 hc1 hg hok hval hway
  go_enter Try.func133, Try.ntmps133
  go_wp2
  go_loopw [2, 11] (fun a i wr => ∃ (j : Nat) (u q : Int), j ≤ zs.length ∧ a = .int .i64 u ∧ i = .int .i64 j ∧ Hid (Below w.heap.size w wr) ∧ Hid (goV t.cos v zs = goV t.cos u (zs.drop j)) ∧ Hid (ValOf t.sizes q u) ∧ Hid ((wayEnd t.cos q (zs.drop j)).isSome = true)) (fun _ i _ => zs.length - (intOf i).toNat)
  case atStart => exact ⟨0, v, k, Nat.zero_le _, rfl, rfl, Below.refl _ _, rfl, Hval, Hway⟩
  case round =>
    obtain ⟨j, u, q, hj, rfl, rfl, hb, heq, hvu, hwy⟩ := hrel
    have hbs := hb.out.size
    by_cases hlt : j < zs.length
    · obtain ⟨b, off, rfl, _, _, c0, _⟩ := (Hk1.out.below hb.out hB2).at_ hlt
      obtain ⟨hx0, hx1, hix, hsq, hwy2⟩ := wayEnd_some hlt hwy.out
      obtain ⟨b3, off3, A2, cap2, rfl, hlo, hhi, d0, d1, d2, h5, h6, hs, hd, hz⟩ := (Hc1.out.below hb.out hB).at_ hix
      have hvs : ValOf t.sizes t.cos[zs[j].toNat].src u := by rw [hsq]; exact hvu.out
      obtain ⟨hu0, hu1, hn4, hun, hlk, hvu2⟩ := valOf_step Hok.out hix hvs
      have hpos : 0 < t.cos[zs[j].toNat].map.length := by omega
      have hgr := Hg.out.below hb.out Hg.out.lt
      have g1 : wr.cell? ⟨g, 1, none⟩ = some (.slice (some ⟨b3, off3, none⟩) t.cos.length bap) := hgr.cell 1
      have heq2 := Lib.hid (heq.out.trans (goV_step hlt hix))
      have Hwy2 := Lib.hid hwy2
      have Hvu2 := Lib.hid hvu2
      have Hz := Lib.hid hz
      clear hwy2 hvu2 hvs hlk hsq hz hgr hs hd
      go_wp2_with fail
      refine (images_any _ _ _ _).mono ?_
      rintro e w2 ⟨rfl, rfl⟩
      have hb2 : Below wr.heap.size wr ((wr.alloc (.cells #[.int .i64 t.cos[zs[j].toNat].src, .int .i64 t.cos[zs[j].toNat].dst, .slice A2 t.cos[zs[j].toNat].map.length cap2] 67)).alloc (.cells [.int .i64 t.cos[zs[j].toNat].src, .int .i64 t.cos[zs[j].toNat].dst, .slice A2 t.cos[zs[j].toNat].map.length cap2, .int .u32 0, .int .i32 0, .int .u32 0, .int .i64 0, .int .i64 0, .int .i64 0, .int .i64 0].toArray 172)) := by go_grown
      have hr2 := Row.new (wr.alloc (.cells #[.int .i64 t.cos[zs[j].toNat].src, .int .i64 t.cos[zs[j].toNat].dst, .slice A2 t.cos[zs[j].toNat].map.length cap2] 67)) 172 [.int .i64 t.cos[zs[j].toNat].src, .int .i64 t.cos[zs[j].toNat].dst, .slice A2 t.cos[zs[j].toNat].map.length cap2, .int .u32 0, .int .i32 0, .int .u32 0, .int .i64 0, .int .i64 0, .int .i64 0, .int .i64 0]
      rw [World.size_alloc] at hr2
      have hz2 := Hz.out.below hb2 (by omega)
      have Hb2 := Lib.hid hb2
      have Hr2 := Lib.hid hr2
      have Hz2 := Lib.hid hz2
      clear hb2 hr2 hz2
      go_wp2_with fail
      refine (of_first lo hi (wr.heap.size + 1) _ _ _ _ _ _ _ A2 cap2 t.cos[zs[j].toNat].map u _ Hr2.out Hz2.out (by omega) hn4 hpos).mono ?_
      rintro e w3 ⟨rfl, hk3, _⟩
      have hb3 : Below wr.heap.size wr w3 := Hb2.out.trans (hk3.below (by simp; omega) (fun k hk => by omega))
      have Hb3 := Lib.hid (hb.out.trans (hb3.mono hbs))
      clear hk3 hb3
      go_wp2
      go_roundw
      case rel => exact ⟨j + 1, _, _, by omega, rfl, by go_num, Hb3, heq2, Hvu2, Hwy2⟩
      case measure => simp [intOf]; omega
    · obtain rfl : j = zs.length := by omega
      have hst := Lib.hid (heq.out.trans (goV_done _ _ _))
      go_wp2
      go_ret
      exact ⟨ret_int hst.out.symm, hb.out⟩
end Go.Proofs.Ytilcahidmoaakaa
