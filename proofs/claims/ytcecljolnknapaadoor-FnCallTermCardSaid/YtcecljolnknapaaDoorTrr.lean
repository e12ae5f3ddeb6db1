/-
  The contract of the program's readTerm, whose deferred call recovers.
-/
import Derived.Test.YtcecljolnknapaaDoorTrt
import Derived.Defers
import Derived.Recover
namespace Go.Proofs.YtcecljolnknapaaDoor
open Go.RowKit

theorem catch_panicking (u : TypeId) (pv : Value) (older : List PanicEntry) (w : World) :
    CallsD Tryd.prog 72 #[] (.panicking ({ v := .iface u pv, recovered := false } :: older)) w fun e u' w' =>
      e = .returned (.tuple #[]) ∧ u' = .panicking ({ v := .iface u pv, recovered := true } :: older) ∧ w' = w := by
  refine callsD_of_wpS Tryd.func72 rfl fun c₀ cs hu => ?_
  apply wpS_region
  simp [wpOpsS, go_sem, recoverD, hu, Tryd.ntmps72, bodyPostS, results, Tryd.results72]
theorem catch_idle (w : World) :
    CallsD Tryd.prog 72 #[] .returning w fun e u' w' => e = .returned (.tuple #[]) ∧ u' = .returning ∧ w' = w := by
  refine callsD_of_wpS Tryd.func72 rfl fun c₀ cs hu => ?_
  apply wpS_region
  cases c₀
  simp_all [wpOpsS, go_sem, recoverD, Tryd.ntmps72, bodyPostS, results, Tryd.results72]

theorem parseT_yes {l : List UInt8} {t : Tm} (h : l.length ≤ 60) (e : rdTm l.length l = some (t, [])) : parseT l = some t := by unfold parseT; rw [if_pos h, e]
theorem parseT_rest {l r : List UInt8} {t : Tm} (hr : r ≠ []) (e : rdTm l.length l = some (t, r)) : parseT l = none := by
  unfold parseT
  split
  · rw [e]
    cases r with
    | nil => exact absurd rfl hr
    | cons c r => rfl
  · rfl
theorem parseT_no {l : List UInt8} (e : rdTm l.length l = none) : parseT l = none := by unfold parseT; rw [e]; split <;> rfl

/-- What reading a whole text comes to. -/
def ReadPost (l : List UInt8) (w : World) (e : Ending) (w' : World) : Prop :=
  ((∃ t o, parseT l = some t ∧ e = .returned (.tuple #[o, .bool true]) ∧ NodeAt w' w.heap.size t o) ∨ (parseT l = none ∧ e = .returned (.tuple #[.nilIface, .bool false]))) ∧ Below w.heap.size w w'

set_option maxRecDepth 100000 in
set_option maxHeartbeats 4000000 in
theorem readTerm_any (l : List UInt8) (n : Nat) (a : Addr) (w : World) (hv : Ev w n a) (hn : n ≤ w.heap.size) (hm : l.length ≤ 1048576) :
    Calls Tryd.prog 45 #[.string (str l)] w fun e w' => ReadPost l w e w' := by
  have hsz := str_size l
  by_cases h60 : l.length ≤ 60
  · have h1 : ¬ (60 : Int) < (l.length : Int) := by omega
    have hb1 : Below w.heap.size w (w.alloc (.cells #[.string (str l)] 78)) := (Below.refl _ _).alloc (Nat.le_refl _) _
    have HB1 := Lib.hid hb1
    have HT : Hid (Txr w.heap.size l (w.alloc (.cells #[.string (str l)] 78))) := Row.new w 78 [.string (str l)]
    have HV : Hid (Ev (w.alloc (.cells #[.string (str l)] 78)) n a) := hv.keep (b := w.heap.size) ((Keep.refl _ _).of_below hb1) hn
    clear hb1 hv
    go_enter_defers Tryd.func45, Tryd.ntmps45
    go_wp2_with fail
    refine (term_reads l.length w.heap.size l n a _ HT.out HV.out hn (Nat.le_refl _) hm).mono ?_
    rintro e w1 ⟨⟨t, r, o, hr, rfl, hnod, htx⟩ | ⟨hr, rfl⟩, hk1⟩
    · have HB : Hid (Below w.heap.size w w1) := HB1.out.trans (hk1.below (Nat.le_refl _) (by rw [World.size_alloc]; omega))
      have HN : Hid (NodeAt w1 w.heap.size t o) := hnod.base (by rw [World.size_alloc]; omega)
      have HV1 := Lib.hid (HV.out.keep hk1 hn)
      have HX := Lib.hid htx
      clear hk1 hnod htx HB1 HT HV
      cases r with
      | nil =>
        have hp := Lib.hid (parseT_yes h60 hr)
        clear hr
        go_wp2_with fail
        refine (end_yes w.heap.size w1 HX.out).mono ?_
        rintro e w2 ⟨rfl, rfl⟩
        go_wp2
        refine leaves_cons (f := 72) (args := #[]) (by simp) (by simp [go_sem]) ?_
        refine (catch_idle _).mono ?_
        rintro e u' w'' ⟨rfl, rfl, rfl⟩
        simp [Leaves, settle, results, Tryd.results45, go_sem]
        exact ⟨.inl ⟨t, o, hp.out, rfl, HN.out⟩, HB.out⟩
      | cons c r =>
        have hp := Lib.hid (parseT_rest (by simp) hr)
        clear hr
        go_wp2_with fail
        refine (end_no w.heap.size (c :: r) (by simp) n a w1 HX.out HV1.out).mono ?_
        rintro e w2 ⟨rfl, rfl⟩
        go_wp2
        refine leaves_cons (f := 72) (args := #[]) (by simp) (by simp [go_sem]) ?_
        refine (catch_panicking _ _ _ _).mono ?_
        rintro e u' w'' ⟨rfl, rfl, rfl⟩
        simp [Leaves, settle, results, Tryd.results45, go_sem]
        exact ⟨.inr ⟨hp.out, rfl⟩, HB.out⟩
    · have HB : Hid (Below w.heap.size w w1) := HB1.out.trans (hk1.below (Nat.le_refl _) (by rw [World.size_alloc]; omega))
      have hp := Lib.hid (parseT_no hr)
      clear hk1 hr HB1 HT HV
      go_wp2
      refine leaves_cons (f := 72) (args := #[]) (by simp) (by simp [go_sem]) ?_
      refine (catch_panicking _ _ _ _).mono ?_
      rintro e u' w'' ⟨rfl, rfl, rfl⟩
      simp [Leaves, settle, results, Tryd.results45, go_sem]
      exact ⟨.inr ⟨hp.out, rfl⟩, HB.out⟩
  · have h1 : (60 : Int) < (l.length : Int) := by omega
    have hp : Hid (parseT l = none) := by show _ = _; unfold parseT; rw [if_neg h60]
    clear hv
    go_enter_defers Tryd.func45, Tryd.ntmps45
    go_wp2
    simp [bodyPostD, Leaves, results, Tryd.results45, go_sem]
    exact ⟨.inr ⟨hp.out, rfl⟩, Below.refl _ _⟩
end Go.Proofs.YtcecljolnknapaaDoor
