/-
  The contracts of the program's ways, as an iterator, and of leads.
-/
import Derived.Test.YtokklaoldgdkaaaRng
import Derived.Test.YtokklaoldgdkaaaScan
namespace Go.Proofs.Ytokklaoldgdkaaa
open Go.RowKit
attribute [local go_sem] Oper.semAt_some

set_option maxRecDepth 100000 in
set_option maxHeartbeats 1000000 in
theorem ways_any (g : Nat) (a b : Int) (w : World) :
    Calls Try.prog 104 #[.pointer (some ⟨g, 0, none⟩), .int .i64 a, .int .i64 b] w fun e w' => e = .returned (.func (.func 139) #[] #[.pointer (some ⟨w.heap.size, 0, none⟩), .pointer (some ⟨w.heap.size + 1, 0, none⟩), .pointer (some ⟨w.heap.size + 2, 0, none⟩)]) ∧
      ((w.alloc (.cells #[.pointer (some ⟨g, 0, none⟩)] 70)).alloc (.cells #[.int .i64 a] 3)).alloc (.cells #[.int .i64 b] 3) = w' := by
  have hmf : ∀ (fn : Fn) (first cap : Array Value) (w : World), (Instr.makeFunc fn first cap).run Try.prog w = .ok (.func fn first cap) w := fun _ _ _ _ => rfl
  go_enter Try.func104, Try.ntmps104
  go_wp2
  go_ret
  exact ⟨rfl, rfl⟩

set_option maxRecDepth 100000 in
set_option maxHeartbeats 1000000 in
theorem waysIter_any (l g p3 p4 p5 : Nat) (T : Nat → Prop) (J Jx : List (List Int) → (Nat → Prop) → World → Prop) (t : Ty) (a b : Int) (hC : Client l T (fun z => z ∈ waysOf t a b) J Jx) (lo hi : Nat) (sv cv : Value) (w : World) (htb : typesB t a b = true) (hg : T g) (hTy : ∀ k, lo ≤ k → k < hi → T k) (hT : ∀ k, T k → k < w.heap.size)
    (hrow : Row w g 85 [sv, cv]) (hv : TyAt w lo hi sv cv t) (c3 : w.cell? ⟨p3, 0, none⟩ = some (.pointer (some ⟨g, 0, none⟩))) (c4 : w.cell? ⟨p4, 0, none⟩ = some (.int .i64 a)) (c5 : w.cell? ⟨p5, 0, none⟩ = some (.int .i64 b)) (hJ : J [] (fun _ => False) w) :
    Calls Try.prog 139 #[.func (.yield l) #[] #[], .pointer (some ⟨p3, 0, none⟩), .pointer (some ⟨p4, 0, none⟩), .pointer (some ⟨p5, 0, none⟩)] w fun e W' =>
      (∃ v, e = .returned v) ∧ ((∃ O', J (waysOf t a b) O' W') ∨ (0 < (waysOf t a b).length ∧ ∃ s' O', Jx s' O' W')) := by
  obtain ⟨hok, ha0, ha1, hb0, hb1⟩ := typesB_of htb
  have h5 := typesB_len hok
  have hwl : (waysF t.cos 5 a b).length ≤ 32768 := waysOf_len hok a b
  have hgo := goOn_any l w.heap.size g T _ J Jx hC lo hi sv cv t b hok hg hTy 5 a [] (.slice none 0 0) [] (fun _ => False) w (fun y hy => hy) hJ (World.ownsRow_nil _ _ _ _) (fun _ h => h.elim) (fun b h => by simp [Value.ownBlock] at h) hT (fun _ _ h => h) (fun z h => absurd h (by simp)) (by simp) hrow hv ha0 ha1 (by omega) (by simp; omega) (Nat.le_refl _)
  have Hgo := Lib.hid hgo
  clear hC hTy hT hrow hv hJ hgo htb hg
  go_enter Try.func139, Try.ntmps139
  go_wp2_with fail
  refine Hgo.out.mono ?_
  rintro e w7 ⟨bv, rfl, h⟩
  have hfin : (∃ O', J (waysOf t a b) O' w7) ∨ (0 < (waysOf t a b).length ∧ ∃ s' O', Jx s' O' w7) := by
    rcases h with ⟨_, O', _, _, h3, _⟩ | ⟨_, h1, s', O', h2⟩
    · refine .inl ⟨O', ?_⟩
      have e : ([] : List (List Int)) ++ (waysF t.cos 5 a b).map (([] : List Int) ++ ·) = waysOf t a b := by
        simp only [List.nil_append]
        exact List.map_id' _
      rw [← e]
      exact h3
    · exact .inr ⟨h1, s', O', h2⟩
  have Hfin := Lib.hid hfin
  clear h hfin Hgo
  go_wp2
  go_end0
  exact ⟨⟨_, rfl⟩, Hfin.out⟩

end Go.Proofs.Ytokklaoldgdkaaa
