/-
  The contract of the program's reader of explicit terms: made.
-/
import Derived.Test.YtdemcoghgnnheaaGreatDoorQmrv
namespace Go.Proofs.YtdemcoghgnnheaaGreatDoor
open Go.RowKit

set_option maxRecDepth 100000 in
set_option maxHeartbeats 4000000 in
theorem made_value (lo hi n : Nat) (a : Addr) (sv cv fv : Value) (y : Sy) (hy : SyOk y) (b : Nat) (l : List UInt8) (h35 : hasB 35 l = false) (h64 : hasB 64 l = false) (w : World) (h : Mr lo hi n a sv cv fv y b l w) (hm : l.length ≤ 1048576) :
    Calls Tryz.prog 94 #[.pointer (some ⟨b, 0, none⟩)] w fun e w' => MadePost lo hi n a sv cv fv y b (rdVal y l) w e w' := by
  have H1 := hasM_any b l 35 35 rfl w h.row
  have H2 := hasM_any b l 64 64 rfl w h.row
  rw [h35] at H1
  rw [h64] at H2
  have HE := Lib.hid (rdMk_val y 0 h35 h64)
  have HH1 := Lib.hid H1
  have HH2 := Lib.hid H2
  have HV := Lib.hid (value7_any lo hi n a sv cv fv y hy b l w h hm)
  clear H1 H2 h h35 h64
  go_enter Tryz.func94, Tryz.ntmps94
  go_wp2_with fail
  refine HH1.out.mono ?_
  rintro e w9 ⟨rfl, rfl⟩
  go_wp2_with fail
  refine HH2.out.mono ?_
  rintro e w9 ⟨rfl, rfl⟩
  go_wp2_with fail
  refine HV.out.mono ?_
  rintro e w1 ⟨⟨k, v, r, hr, rfl, hmr⟩ | ⟨hr, rfl⟩, hk⟩
  · have hok := (rdMk_eq y hy 1 (HE.out.trans hr)).1
    have HF := Lib.hid (And.intro hr (And.intro hok (And.intro hmr hk)))
    clear hr hok hmr hk
    go_wp2
    go_ret
    exact ⟨.inl ⟨.lit k v, r, _, HF.out.1, HF.out.2.1, rfl, rfl, HF.out.2.2.1⟩, HF.out.2.2.2⟩
  · have HF := Lib.hid (And.intro hr hk)
    clear hr hk
    go_wp2
    exact ⟨rfl, .inr ⟨HF.out.1, rfl⟩, HF.out.2⟩

set_option maxRecDepth 100000 in
set_option maxHeartbeats 4000000 in
theorem made_co (lo hi n : Nat) (a : Addr) (sv cv fv : Value) (y : Sy) (hy : SyOk y) (b f : Nat) (IH : MadeReads lo hi n a sv cv fv y b f) (l : List UInt8) (h35 : hasB 35 l = true) (w : World) (h : Mr lo hi n a sv cv fv y b l w) (hf : l.length ≤ f + 1) (hm : l.length ≤ 1048576) :
    Calls Tryz.prog 94 #[.pointer (some ⟨b, 0, none⟩)] w fun e w' => MadePost lo hi n a sv cv fv y b (rdCoM (rdMk y f) y l) w e w' := by
  have HV := Lib.hid (coerced_any lo hi n a sv cv fv y hy b f IH l w h hf hm)
  have H1 := hasM_any b l 35 35 rfl w h.row
  rw [h35] at H1
  have HH1 := Lib.hid H1
  clear H1 h IH h35
  go_enter Tryz.func94, Tryz.ntmps94
  go_wp2_with fail
  refine HH1.out.mono ?_
  rintro e w9 ⟨rfl, rfl⟩
  go_wp2_with fail
  refine HV.out.mono ?_
  rintro e w1 ⟨⟨m, r, x, hr, hok, rfl, hno, hmr⟩ | ⟨hr, rfl⟩, hk⟩
  · have HF := Lib.hid (And.intro hr (And.intro hok (And.intro hno (And.intro hmr hk))))
    clear hr hok hno hmr hk
    go_wp2
    go_ret
    exact ⟨.inl ⟨m, r, _, HF.out.1, HF.out.2.1, rfl, HF.out.2.2.1, HF.out.2.2.2.1⟩, HF.out.2.2.2.2⟩
  · have HF := Lib.hid (And.intro hr hk)
    clear hr hk
    go_wp2
    exact ⟨rfl, .inr ⟨HF.out.1, rfl⟩, HF.out.2⟩

set_option maxRecDepth 100000 in
set_option maxHeartbeats 4000000 in
theorem made_ap (lo hi n : Nat) (a : Addr) (sv cv fv : Value) (y : Sy) (hy : SyOk y) (b f : Nat) (IH : MadeReads lo hi n a sv cv fv y b f) (l : List UInt8) (h35 : hasB 35 l = false) (h64 : hasB 64 l = true) (w : World) (h : Mr lo hi n a sv cv fv y b l w) (hf : l.length ≤ f + 1) (hm : l.length ≤ 1048576) :
    Calls Tryz.prog 94 #[.pointer (some ⟨b, 0, none⟩)] w fun e w' => MadePost lo hi n a sv cv fv y b (rdApM (rdMk y f) y l) w e w' := by
  have HV := Lib.hid (applied_any lo hi n a sv cv fv y hy b f IH l h35 h64 w h hf hm)
  have H1 := hasM_any b l 35 35 rfl w h.row
  rw [h35] at H1
  have HH1 := Lib.hid H1
  have H2 := hasM_any b l 64 64 rfl w h.row
  rw [h64] at H2
  have HH2 := Lib.hid H2
  clear H2 h64
  clear H1 h IH h35
  go_enter Tryz.func94, Tryz.ntmps94
  go_wp2_with fail
  refine HH1.out.mono ?_
  rintro e w9 ⟨rfl, rfl⟩
  go_wp2_with fail
  refine HH2.out.mono ?_
  rintro e w9 ⟨rfl, rfl⟩
  go_wp2_with fail
  refine HV.out.mono ?_
  rintro e w1 ⟨⟨m, r, x, hr, hok, rfl, hno, hmr⟩ | ⟨hr, rfl⟩, hk⟩
  · have HF := Lib.hid (And.intro hr (And.intro hok (And.intro hno (And.intro hmr hk))))
    clear hr hok hno hmr hk
    go_wp2
    go_ret
    exact ⟨.inl ⟨m, r, _, HF.out.1, HF.out.2.1, rfl, HF.out.2.2.1, HF.out.2.2.2.1⟩, HF.out.2.2.2.2⟩
  · have HF := Lib.hid (And.intro hr hk)
    clear hr hk
    go_wp2
    exact ⟨rfl, .inr ⟨HF.out.1, rfl⟩, HF.out.2⟩

theorem made_reads (lo hi n : Nat) (a : Addr) (sv cv fv : Value) (y : Sy) (hy : SyOk y) (b : Nat) : ∀ f, MadeReads lo hi n a sv cv fv y b f := by
  intro f
  induction f with
  | zero =>
    intro l w h hf hm
    obtain rfl : l = [] := List.eq_nil_of_length_eq_zero (by omega)
    rw [show rdMk y 0 [] = rdVal y [] from rfl]
    exact made_value lo hi n a sv cv fv y hy b [] rfl rfl w h hm
  | succ f IH =>
    intro l w h hf hm
    cases h35 : hasB 35 l with
    | true =>
      rw [rdMk_co y f h35]
      exact made_co lo hi n a sv cv fv y hy b f IH l h35 w h hf hm
    | false =>
      cases h64 : hasB 64 l with
      | true =>
        rw [rdMk_ap y f h35 h64]
        exact made_ap lo hi n a sv cv fv y hy b f IH l h35 h64 w h hf hm
      | false =>
        rw [rdMk_val y f h35 h64]
        exact made_value lo hi n a sv cv fv y hy b l h35 h64 w h hm
end Go.Proofs.YtdemcoghgnnheaaGreatDoor

