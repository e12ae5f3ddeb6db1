/-
  The contract of the program's IsRedundant.
-/
import Derived.Test.YtokklaoldgdkaaaRinv
import Derived.OrdersIn
import Derived.Maps.OwnSet
import Derived.WideKeyEntry
import Derived.Test.YtokklaoldgdkaaaMem
import Derived.Test.YtokklaoldgdkaaaRows
import Derived.WideKeyArr
import Derived.Maps.RangeWalk
import Derived.Test.YtokklaoldgdkaaaRta
import Derived.Test.YtokklaoldgdkaaaLeads
import Derived.Maps.OwnIn
namespace Go.Proofs.Ytokklaoldgdkaaa
open Go.RowKit

section
variable {F : Fence} {n : Nat} {P : Program} {ops : Array Oper} {Q : Exit → Act → World → Prop}

theorem wpAnyIn_inv (Inv : (Nat → Bool) → Act → World → Prop) (hd : ∀ i, ∀ (h : i < ops.size), ∀ e ∈ ops[i].after, Region.binds .any e = true → e.on < i)
    (hstep : ∀ (f : Nat → Bool) a w i o, ops[i]? = some o → f i = false → (∀ e ∈ o.after, Region.binds .any e = true → f e.on = true) → Inv f a w → wpOpIn F n P ops Q i (Inv fun k => decide (k = i) || f k) a w)
    (hend : ∀ f a w, (∀ k, k < ops.size → f k = true) → Inv f a w → Q .normal a w) :
    ∀ (fuel : Nat) (listed : Array Bool) (a : Act) (w : World), listed.size = ops.size → openCount listed.toList ≤ fuel → Inv (fun k => listed.getD k false) a w → wpAnyIn F n P .any ops Q fuel listed a w := by
  intro fuel
  induction fuel with
  | zero =>
    intro listed a w hs hf hI
    have hall := openCount_zero listed.toList (by omega)
    have hr : Region.ready .any ops listed = [] := by
      rw [List.eq_nil_iff_forall_not_mem]
      intro i hi
      obtain ⟨h1, h2, _⟩ := ready_of hi
      have hl : i < listed.size := by omega
      have h3 : listed[i] = false := by simpa [Array.getD, hl] using h2
      have h4 := hall listed[i] (by simp)
      rw [h3] at h4
      cases h4
    exact ⟨hr, hend _ a w (all_done hs hd hr) hI⟩
  | succ fuel ih =>
    intro listed a w hs hf hI
    refine ⟨fun hr => hend _ a w (all_done hs hd hr) hI, fun i hi => ?_⟩
    obtain ⟨h1, h2, o, ho, h3⟩ := ready_of hi
    have hl : i < listed.size := by omega
    have h4 : listed[i] = false := by simpa [Array.getD, hl] using h2
    refine wpOpIn_mono (fun a' w' hI' => ih (listed.setIfInBounds i true) a' w' (by simpa using hs) ?_ ?_) (hstep _ a w i o ho (by simp [Array.getD, hl, h4]) h3 hI)
    · have := openCount_set listed.toList i (by simp [hl, h4])
      simp only [Array.toList_setIfInBounds]
      omega
    · have e : (fun k => decide (k = i) || listed.getD k false) = fun k => (listed.setIfInBounds i true).getD k false := by
        funext k
        by_cases hk : k = i
        · subst hk
          simp [Array.getD, hl]
        · have hk' : ¬ i = k := fun h => hk h.symm
          by_cases hkl : k < listed.size
          · simp [Array.getD, hk, hk', hkl]
          · simp [Array.getD, hk, hkl]
      rw [← e]
      exact hI'

/-- A region that draws its order inside a fence, by an invariant over what has been done. -/
theorem wpIn_region_inv {id : Nat} {a : Act} {w : World} (hm : P.follows .mixedOrders = true) (Inv : (Nat → Bool) → Act → World → Prop) (hd : ∀ i, ∀ (h : i < ops.size), ∀ e ∈ ops[i].after, Region.binds .any e = true → e.on < i)
    (h0 : Inv (fun _ => false) a w.drew)
    (hstep : ∀ (f : Nat → Bool) a w i o, ops[i]? = some o → f i = false → (∀ e ∈ o.after, Region.binds .any e = true → f e.on = true) → Inv f a w → wpOpIn F n P ops Q i (Inv fun k => decide (k = i) || f k) a w)
    (hend : ∀ f a w, (∀ k, k < ops.size → f k = true) → Inv f a w → Q .normal a w) : (Code.region id ops true).wpIn F n P Q a w := by
  refine wpIn_region_any hm (wpAnyIn_inv Inv hd hstep hend _ _ a _ (by simp) ?_ ?_)
  · have key : ∀ n, openCount (List.replicate n false) = n := by
      intro n
      induction n with
      | zero => rfl
      | succ n ih => simp only [List.replicate_succ, openCount, ih]; simp; omega
    rw [Array.toList_replicate, key]
    exact Nat.le_refl _
  · have e : (fun k => (Array.replicate ops.size false).getD k false) = fun _ => false := by
      funext k
      by_cases hk : k < ops.size
      · simp [Array.getD, hk]
      · simp [Array.getD, hk]
    rw [e]
    exact h0
end

/-! ### m[k]++ in three operations: the element's look-up, the entry, the store into the entry -/
section
open Go.Maps Go.ChangeMaps Go.MapKept Go.WideShapes
open Go.WideElems (Fit rd rg pl rd_val elemAt)
open Go.WideMaps (KeyLaw)
variable {H : Type} {P : Program} {w : World} {t k e : TypeId} {b n : Nat} {D : DataW H}

theorem ownsMap_of_heap {R : Value → Option (DataW H × List MemPlace)} {w2 : World} (h : w.ownsMap P k R b n D) (hb : w2.heap[b]? = w.heap[b]?) : w2.ownsMap P k R b n D := by
  obtain ⟨es, clock, h1, F, hs, hD⟩ := h
  exact ⟨es, clock, hb.trans h1, F, hs, hD⟩

theorem own_entry (K : KeyLaw P k) (ht : P.underlying t = some (.map k e)) {q : IntKind} (he : P.underlying e = some (.int q)) (hz : ∀ u : World, (zeroValue e).run P u = .ok (.int q 0) u) (h : w.ownsMap P k (plainElem P e) b n D) (hn : n < maxLen) {key : Value} {kl : Lit} (hkey : keyOf P k key = some kl) :
    ∃ (v0 : Value) (st : Nat) (o1 : Obj), (Instr.mapEntry t (.map (some b)) key).run P w = .ok (.tuple #[v0, goInt st]) (setBlock w b o1) ∧
      (∀ w2 : World, w2.heap[b]? = some o1 → ∃ c, (Instr.lookup t (.map (some b)) key false).run P w2 = .ok (.int q c) w2 ∧ D.atKey kl (.lit (.int q 0)) = .lit (.int q c) ∧ (Lit.int q c).wf = true) ∧
      (∀ (w2 : World) (a : Int), (Lit.int q a).wf = true → w2.heap[b]? = some o1 → ∃ w3, (Instr.entryStore t (.map (some b)) (goInt st) (.int q a)).run P w2 = .ok () w3 ∧ w3.ownsMap P k (plainElem P e) b (n + 1) (D.put kl (.lit (.int q a))) ∧ w2.grownBy w3 (some b)) := by
  have Kd : Keyed P k := Keyed.of_law K
  have hw0 : (Lit.int q 0).wf = true := by cases q <;> decide
  have hOwn := h
  obtain ⟨es, clock, hb, F, hs, hD⟩ := h
  obtain ⟨v0, st, es1, clock1, hrun, hcase, hstore⟩ := Go.WideElems.entry_then_store K ht hz hb F hkey
  refine ⟨v0, st, .map es1 clock1, hrun, ?_, ?_⟩
  · intro w2 hw2
    -- what the entry's laying has left reads at the key as before
    have key1 : ∃ D1, (setBlock w b (.map es1 clock1)).ownsMap P k (plainElem P e) b (n + 1) D1 ∧ D1.atKey kl (.lit (.int q 0)) = D.atKey kl (.lit (.int q 0)) := by
      rcases K.find w hkey es.toList F.keys with ⟨h1, h2⟩ | ⟨j, e0, h1, h2, h3⟩
      · have hm : (Instr.mapEntry t (.map (some b)) key).run P w = .ok (.tuple #[.int q 0, goInt clock]) (setBlock w b (.map (es.push ⟨key, .int q 0, clock⟩) (clock + 1))) := by
          simp [Instr.mapEntry, run_underlying ht, MapKept.run_getObj_map hb, K.check w false hkey, h1, hz, MapKept.run_setObj_map _ hb, Result.andThen, setBlock]
        have hu : (Instr.mapUpdate t (.map (some b)) key (.int q 0)).run P w = .ok () (setBlock w b (.map (es.push ⟨key, .int q 0, clock⟩) (clock + 1))) := by
          simp [Instr.mapUpdate, run_underlying ht, MapKept.run_getObj_map hb, K.check w false hkey, h1, MapKept.run_setObj_map _ hb, Result.andThen, setBlock]
        obtain ⟨w', hr', ho', _⟩ := hOwn.update Kd ht hn hkey (plainElem_int he hw0)
        rw [hrun] at hm
        rw [hu] at hr'
        simp only [Result.ok.injEq] at hm hr'
        rw [hm.2]
        obtain ⟨_, hw'⟩ := hr'
        subst hw'
        refine ⟨_, ho', ?_⟩
        rw [Maps.atKey_put_same (hOwn.isMap) (Kd.key hkey)]
        have hnh : Maps.has D kl = false := by
          cases hh : Maps.has D kl with
          | false => rfl
          | true =>
            rw [hD] at hh
            obtain ⟨p, hp, hpk⟩ := List.any_eq_true.1 hh
            obtain ⟨x, hx, rfl⟩ := List.mem_map.1 ((sorted_perm _).mem_iff.1 hp)
            have hke := WideAt.sameKey_eq hpk
            obtain ⟨y, hy⟩ := F.reads x hx
            rw [Go.WideElems.rg_of hy] at hke
            have hky := Go.WideElems.rd_key hy
            rw [hke] at hky
            exact absurd (Kd.inj hky hkey) (h2 x hx)
        rw [Maps.atKey_of_not_has hnh]
      · have hj : es[j]? = some e0 := by simpa using h2
        have hsame : es.modify j (fun e => { e with key := key }) = es := by
          apply Array.ext'
          rw [Array.toList_modify, modify_eq_set _ _ _ _ h2]
          have : ({ e0 with key := key } : MapEntry) = e0 := by rw [← h3]
          rw [this]
          exact Go.WideElems.set_self _ _ _ h2
        have hm : (Instr.mapEntry t (.map (some b)) key).run P w = .ok (.tuple #[e0.val, goInt e0.born]) (setBlock w b (.map es clock)) := by
          simp [Instr.mapEntry, run_underlying ht, MapKept.run_getObj_map hb, K.check w false hkey, h1, hj, h3, K.stays w hkey, hsame, MapKept.run_setObj_map _ hb, Result.andThen, setBlock]
        rw [hrun] at hm
        simp only [Result.ok.injEq] at hm
        rw [hm.2]
        exact ⟨D, (ownsMap_of_heap hOwn ((heap_setBlock_same hb _).trans hb.symm)).mono (by omega), rfl⟩
    obtain ⟨D1, ho1, hat1⟩ := key1
    have ho2 : w2.ownsMap P k (plainElem P e) b (n + 1) D1 := ownsMap_of_heap ho1 (hw2.trans (heap_setBlock_same hb _).symm)
    obtain ⟨c, hc, hat, hwf⟩ := ho2.lookup_int Kd ht he (hz w2) hkey
    exact ⟨c, hc, hat1 ▸ hat, hwf⟩
  · intro w2 a hwa hw2
    obtain ⟨es', clock', hst, hup⟩ := hstore w2 (.int q a) hw2
    obtain ⟨w', hr', ho', _⟩ := hOwn.update Kd ht hn hkey (plainElem_int he hwa)
    rw [hup] at hr'
    simp only [Result.ok.injEq] at hr'
    obtain ⟨_, hw'⟩ := hr'
    subst hw'
    refine ⟨_, hst, ownsMap_of_heap ho' ((heap_setBlock_same hw2 _).trans (heap_setBlock_same hb _).symm), ⟨rfl, rfl, rfl, by simp [setBlock], fun i _ hi => heap_setBlock_other hw2 _ (fun e => hi (by rw [e]))⟩⟩
end
end Go.Proofs.Ytokklaoldgdkaaa

namespace Go.Proofs.Ytokklaoldgdkaaa
open Go.RowKit Go.Maps
open Go.WideMaps (ArrKey KeyLaw)

theorem arrKey : ArrKey Try.prog 89 3 4 := ⟨Try.underlying89, by kernel_rfl, by kernel_rfl, by kernel_rfl⟩
theorem lawKey : KeyLaw Try.prog 89 := arrKey.law
theorem keyedKey : Keyed Try.prog 89 := Keyed.of_law lawKey
theorem keyedInt : Keyed Try.prog 3 := int_keyed Try.underlying3
theorem types_pos : 0 < Try.prog.types.size := of_decide_eq_true (by kernel_rfl)
theorem some_types : ∃ m, Try.prog.types.size = m + 1 := ⟨Try.prog.types.size - 1, by have := types_pos; omega⟩
theorem keyType_ok : Try.prog.keyType 89 = true := arrKey.keyType some_types
theorem zeroInt (u : World) : (zeroValue 3).run Try.prog u = .ok (.int .i64 0) u := by kernel_rfl

/-- Four numbers as a value, and as what a map's key reads as. -/
def aggI (xs : List Int) : Value := .agg (xs.map (Value.int .i64)).toArray
def kI (xs : List Int) : Lit := .string (keyBytes (xs.map (Lit.int .i64)))
def Four (xs : List Int) : Prop := xs.length = 4 ∧ ∀ x ∈ xs, I64 x

theorem four_cases {xs : List Int} (h : Four xs) : ∃ a b c d, xs = [a, b, c, d] ∧ I64 a ∧ I64 b ∧ I64 c ∧ I64 d := by
  obtain ⟨hl, hw⟩ := h
  match xs, hl with
  | [a, b, c, d], _ => exact ⟨a, b, c, d, rfl, hw a (by simp), hw b (by simp), hw c (by simp), hw d (by simp)⟩
theorem wf_of {z : Int} (h : I64 z) : (Lit.int .i64 z).wf = true := by
  unfold I64 at h
  simp [Lit.wf, IntKind.min, IntKind.max, IntKind.signed, IntKind.bits]
  omega

theorem key_lits {d : Nat} {a b c e : Int} (ha : I64 a) (hb : I64 b) (hc : I64 c) (he : I64 e) : Try.prog.keyLits (d + 2) 89 [.int .i64 a, .int .i64 b, .int .i64 c, .int .i64 e] = some [.int .i64 a, .int .i64 b, .int .i64 c, .int .i64 e] := by
  have h1 := arrKey.size
  have h2 := arrKey.one
  have one : ∀ z, I64 z → Try.prog.keyLits (d + 1) 3 [.int .i64 z] = some [.int .i64 z] := fun z hz => by
    unfold Program.keyLits
    simp [Try.underlying3, wf_of hz]
  unfold Program.keyLits
  simp only [Try.underlying89, h1, h2]
  simp [List.range, List.range.loop, one, ha, hb, hc, he]

theorem key_of {xs : List Int} (h : Four xs) : keyOf Try.prog 89 (aggI xs) = some (kI xs) := by
  obtain ⟨a, b, c, d, rfl, ha, hb, hc, hd⟩ := four_cases h
  obtain ⟨m, hm⟩ := some_types
  unfold keyOf
  simp only [Try.underlying89, keyType_ok, aggI, kI]
  have hf : (Value.agg ([a, b, c, d].map (Value.int .i64)).toArray).formed Try.prog 89 = true := by simp [Value.formed, Try.underlying89, arrKey.size]
  rw [hf, hm]
  simp only [Bool.and_self, if_true, Value.cells, List.map_cons, List.map_nil]
  rw [key_lits ha hb hc hd]
  rfl

theorem kI_inj {xs ys : List Int} (hx : Four xs) (hy : Four ys) (h : kI xs = kI ys) : xs = ys := by
  have e := keyedKey.inj (key_of hx) (h ▸ key_of hy)
  obtain ⟨a, b, c, d, rfl, _⟩ := four_cases hx
  obtain ⟨a', b', c', d', rfl, _⟩ := four_cases hy
  simpa [aggI] using e
theorem kI_key {xs : List Int} (h : Four xs) : WideAt.IsKeyLit (kI xs) := keyedKey.key (key_of h)

set_option maxRecDepth 100000 in
theorem key_inv {key : Value} {kl : Lit} (h : keyOf Try.prog 89 key = some kl) : ∃ xs, key = aggI xs ∧ Four xs := by
  obtain ⟨m, hm⟩ := some_types
  unfold keyOf at h
  simp only [Try.underlying89] at h
  by_cases hc : (Try.prog.keyType 89 && key.formed Try.prog 89) = true
  case neg => rw [if_neg hc] at h; cases h
  case pos =>
    rw [if_pos hc] at h
    simp only [Bool.and_eq_true] at hc
    obtain ⟨_, hf⟩ := hc
    cases key <;> simp [Value.formed, Try.underlying89, arrKey.size] at hf
    rename_i cs
    obtain ⟨l⟩ := cs
    match l, hf with
    | [x0, x1, x2, x3], _ =>
      rw [hm] at h
      unfold Program.keyLits at h
      simp only [Try.underlying89, arrKey.size, arrKey.one, Value.cells] at h
      have one : ∀ x : Value, (∃ ls, Try.prog.keyLits (m + 1) 3 [x] = some ls) → ∃ z, x = .int .i64 z ∧ I64 z := fun x hx => by
        obtain ⟨ls, hx⟩ := hx
        unfold Program.keyLits at hx
        cases x <;> simp [Try.underlying3] at hx
        rename_i q z
        obtain ⟨⟨rfl, hw⟩, _⟩ := hx
        refine ⟨z, rfl, ?_⟩
        simp [Lit.wf, IntKind.min, IntKind.max, IntKind.signed, IntKind.bits] at hw
        unfold I64
        omega
      have all : (∃ ls, Try.prog.keyLits (m + 1) 3 [x0] = some ls) ∧ (∃ ls, Try.prog.keyLits (m + 1) 3 [x1] = some ls) ∧ (∃ ls, Try.prog.keyLits (m + 1) 3 [x2] = some ls) ∧ (∃ ls, Try.prog.keyLits (m + 1) 3 [x3] = some ls) := by
        simp [List.range, List.range.loop] at h
        cases e0 : Try.prog.keyLits (m + 1) 3 [x0] <;> cases e1 : Try.prog.keyLits (m + 1) 3 [x1] <;> cases e2 : Try.prog.keyLits (m + 1) 3 [x2] <;> cases e3 : Try.prog.keyLits (m + 1) 3 [x3] <;> simp [e0, e1, e2, e3] at h ⊢
      obtain ⟨y0, rfl, w0⟩ := one _ all.1
      obtain ⟨y1, rfl, w1⟩ := one _ all.2.1
      obtain ⟨y2, rfl, w2⟩ := one _ all.2.2.1
      obtain ⟨y3, rfl, w3⟩ := one _ all.2.2.2
      exact ⟨[y0, y1, y2, y3], rfl, rfl, fun x hx => by simp only [List.mem_cons, List.not_mem_nil, or_false] at hx; rcases hx with rfl | rfl | rfl | rfl <;> assumption⟩
end Go.Proofs.Ytokklaoldgdkaaa

namespace Go.Proofs.Ytokklaoldgdkaaa
open Go.RowKit Go.Maps

/-- How often x stands in s. -/
def cntI (s : List (List Int)) (x : List Int) : Int := ((s.filter fun y => decide (y = x)).length : Int)
theorem cntI_snoc_same (s : List (List Int)) (x : List Int) : cntI (s ++ [x]) x = cntI s x + 1 := by simp [cntI, List.filter_append]
theorem cntI_snoc_other {s : List (List Int)} {x y : List Int} (h : x ≠ y) : cntI (s ++ [x]) y = cntI s y := by simp [cntI, List.filter_append, h]
theorem cntI_le (s : List (List Int)) (x : List Int) : 0 ≤ cntI s x ∧ cntI s x ≤ s.length := by
  unfold cntI
  have := List.length_filter_le (fun y => decide (y = x)) s
  omega
theorem cntI_wf {s : List (List Int)} (h : s.length < 40000) (x : List Int) : I64 (cntI s x) ∧ I64 (cntI s x + 1) := by
  have := cntI_le s x
  unfold I64
  omega

/-- D holds for each list of s how often it stands there, and nothing else. -/
structure Cnt (s : List (List Int)) (D : DataW Unit) : Prop where
  four : ∀ x ∈ s, Four x
  at_ : ∀ x, Four x → D.atKey (kI x) (.lit (.int .i64 0)) = .lit (.int .i64 (cntI s x))
  has : ∀ x, Four x → (Maps.has D (kI x) = true ↔ x ∈ s)
  only : ∀ kl, Maps.has D kl = true → ∃ x ∈ s, kl = kI x

theorem Cnt.nil : Cnt [] (.map []) := by
  refine ⟨fun x h => absurd h (by simp), fun x _ => rfl, fun x _ => ⟨fun h => ?_, fun h => absurd h (by simp)⟩, fun kl h => ?_⟩
  · cases h
  · cases h
theorem Cnt.snoc {s : List (List Int)} {D : DataW Unit} {x : List Int} (h : Cnt s D) (hD : IsMap D) (hx : Four x) : Cnt (s ++ [x]) (D.put (kI x) (.lit (.int .i64 (cntI s x + 1)))) := by
  have hk := kI_key hx
  refine ⟨fun y hy => ?_, fun y hy => ?_, fun y hy => ?_, fun kl hkl => ?_⟩
  · rcases List.mem_append.1 hy with hy | hy
    · exact h.four y hy
    · simp only [List.mem_singleton] at hy; exact hy ▸ hx
  · by_cases e : x = y
    · subst e
      rw [atKey_put_same hD hk, cntI_snoc_same]
    · rw [atKey_put_other (fun e2 => e (kI_inj hy hx e2).symm), h.at_ y hy, cntI_snoc_other e]
  · by_cases e : x = y
    · subst e
      rw [has_put_same hD hk]
      simp
    · rw [has_put_other (fun e2 => e (kI_inj hy hx e2).symm), h.has y hy, List.mem_append, List.mem_singleton]
      exact ⟨.inl, fun h2 => h2.elim id fun h3 => absurd h3.symm e⟩
  · by_cases e : kl = kI x
    · exact ⟨x, by simp, e⟩
    · rw [has_put_other e] at hkl
      obtain ⟨y, hy, e2⟩ := h.only kl hkl
      exact ⟨y, List.mem_append_left _ hy, e2⟩
end Go.Proofs.Ytokklaoldgdkaaa

namespace Go.Proofs.Ytokklaoldgdkaaa
open Go.RowKit

/-- The array after j rounds. -/
def imgRow (t : Ty) (k : Int) (z : List Int) (j : Nat) : List Value := (List.range 4).map fun q => .int .i64 (if q < j then imgAt t k z q else 0)
theorem imgRow_zero (t : Ty) (k : Int) (z : List Int) : imgRow t k z 0 = [.int .i64 0, .int .i64 0, .int .i64 0, .int .i64 0] := rfl
theorem imgRow_four (t : Ty) (k : Int) (z : List Int) : imgRow t k z 4 = (imgV t k z).map (Value.int .i64) := rfl
theorem imgRow_len (t : Ty) (k : Int) (z : List Int) (j : Nat) : (imgRow t k z j).length = 4 := by simp [imgRow]
theorem imgRow_step (t : Ty) (k : Int) (z : List Int) {j : Nat} (hj : j < 4) : (imgRow t k z j).set j (.int .i64 (imgAt t k z j)) = imgRow t k z (j + 1) := by
  rcases (by omega : j = 0 ∨ j = 1 ∨ j = 2 ∨ j = 3) with rfl | rfl | rfl | rfl <;> rfl

set_option maxRecDepth 100000 in
set_option maxHeartbeats 4000000 in
theorem imagesBy_any (lo hi lo2 hi2 g : Nat) (sv cv rv : Value) (t : Ty) (k : Int) (zs : List Int) (w : World) (hv : TyAt w lo hi sv cv t) (hB : hi ≤ w.heap.size) (hr : IntsAt w lo2 hi2 rv zs) (hB2 : hi2 ≤ w.heap.size) (hg : Row w g 85 [sv, cv])
    (hok : tyOk t = true) (hk0 : 0 ≤ k) (hk1 : k < t.sizes.length) (hway : (wayEnd t.cos k zs).isSome = true) :
    Calls Try.prog 76 #[.pointer (some ⟨g, 0, none⟩), .int .i64 k, rv] w fun e w' => e = .returned (.agg ((imgV t k zs).map (Value.int .i64)).toArray) ∧ Below w.heap.size w w' := by
  obtain ⟨A, cap, rfl, hl1, hm1, hi1⟩ := hv.1.form
  obtain ⟨B, bap, rfl, hl2, hm2, _⟩ := hv.2.form
  have hkn : k.toNat < t.sizes.length := by omega
  have hsz4 := (sizesOk_of (tyOk_sizes hok)).2.2 _ hkn
  have Hv := Lib.hid hv
  have Hi1 := Lib.hid hi1
  have Hr := Lib.hid hr
  have Hg := Lib.hid hg
  have Hok := Lib.hid hok
  have Hway := Lib.hid hway
  have hgl := hg.lt
  clear hv hi1 hr hg hok hway
  have hb0 : Below w.heap.size w ((w.alloc (.cells #[.int .i64 0, .int .i64 0, .int .i64 0, .int .i64 0] 89)).alloc (.cells #[.int .i64 0, .int .i64 0, .int .i64 0, .int .i64 0] 89)) := by go_grown
  have hr0 : Row ((w.alloc (.cells #[.int .i64 0, .int .i64 0, .int .i64 0, .int .i64 0] 89)).alloc (.cells #[.int .i64 0, .int .i64 0, .int .i64 0, .int .i64 0] 89)) w.heap.size 89 [.int .i64 0, .int .i64 0, .int .i64 0, .int .i64 0] := (Row.new w _ _).alloc _
  have hr1 : Row ((w.alloc (.cells #[.int .i64 0, .int .i64 0, .int .i64 0, .int .i64 0] 89)).alloc (.cells #[.int .i64 0, .int .i64 0, .int .i64 0, .int .i64 0] 89)) (w.heap.size + 1) 89 (imgRow t k zs 0) := by
    have := Row.new (w.alloc (.cells #[.int .i64 0, .int .i64 0, .int .i64 0, .int .i64 0] 89)) 89 [.int .i64 0, .int .i64 0, .int .i64 0, .int .i64 0]
    rw [World.size_alloc] at this
    rw [imgRow_zero]
    exact this
  have Hb0 := Lib.hid hb0
  have Hr0 := Lib.hid hr0
  have Hr1 := Lib.hid hr1
  clear hb0 hr0 hr1
  go_enter Try.func76, Try.ntmps76
  go_wp2
  go_loopw [9] (fun i wr => ∃ j : Nat, j ≤ 4 ∧ i = .int .i64 j ∧ Hid (Below w.heap.size w wr) ∧ Hid (Row wr w.heap.size 89 [.int .i64 0, .int .i64 0, .int .i64 0, .int .i64 0]) ∧ Hid (Row wr (w.heap.size + 1) 89 (imgRow t k zs j))) (fun i _ => 4 - (intOf i).toNat)
  case atStart => exact ⟨0, by omega, rfl, Hb0, Hr0, Hr1⟩
  case round =>
    obtain ⟨j, hj, rfl, hb, hz, hrow⟩ := hrel
    have hbs := hb.out.size
    have hzl := hz.out.lt
    have hrl := hrow.out.lt
    by_cases hlt : j < 4
    · have hrf := hrow.out.frozen j
      have hc1 := hrow.out.cell_some (i := j) (by rw [imgRow_len]; exact hlt)
      obtain ⟨bs, offs, rfl, _, hbsl, s0, _⟩ := (Hi1.out.below hb.out hB).at_ hkn
      have g0 : wr.cell? ⟨g, 0, none⟩ = some (.slice (some ⟨bs, offs, none⟩) t.sizes.length cap) := (Hg.out.below hb.out hgl).cell 0
      have hset1 := hrow.out.set_ j (.int .i64 (-1))
      have hbs1 := hb.out.setCell (p := ⟨w.heap.size + 1, j, none⟩) (by dsimp only; omega) (.int .i64 (-1))
      by_cases hx : (j : Int) < t.sizes.getD k.toNat 0
      · have himg := Lib.hid (imgAt_in (z := zs) hx)
        have hgd : t.sizes.getD k.toNat 0 = t.sizes[k.toNat] := by rw [List.getD_eq_getElem?_getD, List.getElem?_eq_getElem hkn]; rfl
        have hix : ixB (j : Int) t.sizes[k.toNat] = true := ixB_yes (by omega) (by omega)
        have hval := Lib.hid (show ValOf t.sizes k (j : Int) from ⟨hk0, hk1, by omega, hx⟩)
        have Hset1 := Lib.hid hset1
        have Hbs1 := Lib.hid hbs1
        have Hz1 := Lib.hid (hz.out.far (p := ⟨w.heap.size + 1, j, none⟩) (by dsimp only; omega) (.int .i64 (-1)))
        clear hset1 hbs1 hx hgd
        go_wp2_with (go_at_call 84; refine (isIndex_any _ _ _).mono ?_; rintro e w' ⟨rfl, rfl⟩; rw [hix])
        refine (along_any lo hi lo2 hi2 g _ _ _ t k (j : Int) zs _ (Hv.out.below Hbs1.out hB) (by have := Hbs1.out.size; omega) (Hr.out.below Hbs1.out hB2) (by have := Hbs1.out.size; omega) (Hg.out.below Hbs1.out hgl) Hok.out hval.out Hway.out).mono ?_
        rintro e w2 ⟨rfl, hb2⟩
        have hsz2 : (wr.setCell ⟨w.heap.size + 1, j, none⟩ (.int .i64 (-1))).heap.size = wr.heap.size := by simp [World.setCell]
        have hrow2 := Hset1.out.below hb2 (by rw [hsz2]; exact hrl)
        have hz2 := Lib.hid (Hz1.out.below hb2 (by rw [hsz2]; exact hzl))
        have hbw2 := Hbs1.out.trans (hb2.mono (by rw [hsz2]; omega))
        have d1 := hrow2.cell_some (i := j) (by simp [imgRow_len]; exact hlt)
        have df := hrow2.frozen j
        have hnew := hrow2.set_ j (.int .i64 (goV t.cos (j : Int) zs))
        rw [List.set_set, ← himg.out, imgRow_step t k zs hlt] at hnew
        have Hnew := Lib.hid hnew
        have Hbn := Lib.hid (hbw2.setCell (p := ⟨w.heap.size + 1, j, none⟩) (by dsimp only; omega) (.int .i64 (imgAt t k zs j)))
        have Hzn := Lib.hid (hz2.out.far (p := ⟨w.heap.size + 1, j, none⟩) (by dsimp only; omega) (.int .i64 (imgAt t k zs j)))
        have he := himg.out
        clear hb2 hrow2 hbw2 hnew hsz2
        go_wp2
        go_roundw
        case rel => exact ⟨j + 1, by omega, by go_num, by rw [← he]; exact Hbn, by rw [← he]; exact Hzn, by rw [← he]; exact Hnew⟩
        case measure => simp [intOf]; omega
      · have himg := imgAt_out (z := zs) hx
        have hgd : t.sizes.getD k.toNat 0 = t.sizes[k.toNat] := by rw [List.getD_eq_getElem?_getD, List.getElem?_eq_getElem hkn]; rfl
        have hix : ixB (j : Int) t.sizes[k.toNat] = false := ixB_high (by omega)
        rw [← himg, imgRow_step t k zs hlt] at hset1
        rw [himg] at hset1
        have Hset1 := Lib.hid hset1
        have Hbs1 := Lib.hid hbs1
        have Hz1 := Lib.hid (hz.out.far (p := ⟨w.heap.size + 1, j, none⟩) (by dsimp only; omega) (.int .i64 (-1)))
        clear hset1 hbs1 hx hgd himg
        go_wp2_with (go_at_call 84; refine (isIndex_any _ _ _).mono ?_; rintro e w' ⟨rfl, rfl⟩; rw [hix])
        go_roundw
        case rel => exact ⟨j + 1, by omega, by go_num, Hbs1, Hz1, Hset1⟩
        case measure => simp [intOf]; omega
    · obtain rfl : j = 4 := by omega
      have hr4 := hrow.out
      rw [imgRow_four] at hr4
      simp only [imgV, List.map_cons, List.map_nil] at hr4
      have c0 := hr4.cell 0
      have c1 := hr4.cell 1
      have c2 := hr4.cell 2
      have c3 := hr4.cell 3
      have z0 := hz.out.cell 0
      have z1 := hz.out.cell 1
      have z2 := hz.out.cell 2
      have z3 := hz.out.cell 3
      have f0 := hz.out.frozen 0
      have f1 := hz.out.frozen 1
      have f2 := hz.out.frozen 2
      have f3 := hz.out.frozen 3
      simp only [List.getElem?_cons_zero, List.getElem?_cons_succ] at c0 c1 c2 c3 z0 z1 z2 z3
      clear hr4
      go_wp2
      have hW := (((hz.out.set_ 0 (.int .i64 (imgAt t k zs 0))).set_ 1 (.int .i64 (imgAt t k zs 1))).set_ 2 (.int .i64 (imgAt t k zs 2))).set_ 3 (.int .i64 (imgAt t k zs 3))
      have hbW := (((hb.out.setCell (p := ⟨w.heap.size, 0, none⟩) (by dsimp only; omega) (.int .i64 (imgAt t k zs 0))).setCell (p := ⟨w.heap.size, 1, none⟩) (by dsimp only; omega) (.int .i64 (imgAt t k zs 1))).setCell (p := ⟨w.heap.size, 2, none⟩) (by dsimp only; omega) (.int .i64 (imgAt t k zs 2))).setCell (p := ⟨w.heap.size, 3, none⟩) (by dsimp only; omega) (.int .i64 (imgAt t k zs 3))
      simp only [List.set_cons_zero, List.set_cons_succ] at hW
      generalize ((((wr.setCell ⟨w.heap.size, 0, none⟩ (.int .i64 (imgAt t k zs 0))).setCell ⟨w.heap.size, 1, none⟩ (.int .i64 (imgAt t k zs 1))).setCell ⟨w.heap.size, 2, none⟩ (.int .i64 (imgAt t k zs 2))).setCell ⟨w.heap.size, 3, none⟩ (.int .i64 (imgAt t k zs 3))) = W4 at hW hbW ⊢
      have e0 := hW.cell 0
      have e1 := hW.cell 1
      have e2 := hW.cell 2
      have e3 := hW.cell 3
      simp only [List.getElem?_cons_zero, List.getElem?_cons_succ] at e0 e1 e2 e3
      refine bodyPost_ret (v := .agg #[.int .i64 (imgAt t k zs 0), .int .i64 (imgAt t k zs 1), .int .i64 (imgAt t k zs 2), .int .i64 (imgAt t k zs 3)]) (by simp [results, Try.results76, go_sem, e0, e1, e2, e3]) rfl ?_
      exact ⟨rfl, hbW⟩
end Go.Proofs.Ytokklaoldgdkaaa

namespace Go.Proofs.Ytokklaoldgdkaaa
open Go.RowKit Go.ChangeMaps

/-- The map's block gm when its entry at the key has been laid: what a look-up finds, what the store into the entry leaves. -/
structure Laid (gm len : Nat) (c : Int) (key : Value) (kl : Lit) (D : DataW Unit) (st : Nat) (o1 : Obj) : Prop where
  look : ∀ w2 : World, w2.heap[gm]? = some o1 → (Instr.lookup 86 (.map (some gm)) key false).run Try.prog w2 = .ok (.int .i64 c) w2
  store : ∀ w2 : World, w2.heap[gm]? = some o1 → ∃ w3, (Instr.entryStore 86 (.map (some gm)) (goInt st) (.int .i64 (c + 1))).run Try.prog w2 = .ok () w3 ∧
    w3.ownsMap Try.prog 89 (plainElem Try.prog 3) gm (len + 1) (D.put kl (.lit (.int .i64 (c + 1)))) ∧ w2.grownBy w3 (some gm)

structure WFacts2 (gm gf len : Nat) (k c : Int) (v key : Value) (kl : Lit) (D : DataW Unit) (A : World) (f : Nat → Bool) (x15 x16 x17 x18 x19 x20 x21 x22 x23 : Value) (u : World) : Prop where
  b0 : f 0 = true → x15 = .map (some gm)
  b1 : f 1 = true → x16 = .pointer (some ⟨gf, 0, none⟩)
  b2 : f 2 = true → x17 = .int .i64 k
  b3 : f 3 = true → v = x18
  b4 : f 4 = true → key = x19
  b5 : f 5 = true → x20 = .int .i64 c
  b6 : f 6 = true → x21 = .int .i64 (c + 1)
  w0 : f 4 = false → u = A.drew
  w1 : f 4 = true → f 7 = false → Below A.heap.size A u
  w7 : f 7 = true → f 9 = false → ∃ (st : Nat) (o1 : Obj) (u2 : World) (v0 : Value), Below A.heap.size A u2 ∧ gm < A.heap.size ∧ u = setBlock u2 gm o1 ∧ u.heap[gm]? = some o1 ∧ x22 = .tuple #[v0, goInt st] ∧ (f 8 = true → x23 = goInt st) ∧ Laid gm len c key kl D st o1
  w9 : f 9 = true → u.ownsMap Try.prog 89 (plainElem Try.prog 3) gm (len + 1) (D.put kl (.lit (.int .i64 (c + 1)))) ∧ A.grownBy u (some gm)
  c54 : f 5 = true → f 4 = true
  c74 : f 7 = true → f 4 = true
  c97 : f 9 = true → f 7 = true
  c95 : f 9 = true → f 5 = true
  c98 : f 9 = true → f 8 = true
  c70 : f 7 = true → f 0 = true
  c41 : f 4 = true → f 1 = true
  c42 : f 4 = true → f 2 = true
  c87 : f 8 = true → f 7 = true

section
variable {gm gf len : Nat} {k c : Int} {v key : Value} {kl : Lit} {D : DataW Unit} {A u : World} {f : Nat → Bool} {x15 x16 x17 x18 x19 x20 x21 x22 x23 : Value}

theorem ff_of {a b : Bool} (h : a = true → b = true) (hb : b = false) : a = false := by
  cases a with
  | false => rfl
  | true => rw [h rfl] at hb; cases hb
theorem WFacts2.s0 (h : WFacts2 gm gf len k c v key kl D A f x15 x16 x17 x18 x19 x20 x21 x22 x23 u) : WFacts2 gm gf len k c v key kl D A (fun k => decide (k = 0) || f k) (.map (some gm)) x16 x17 x18 x19 x20 x21 x22 x23 u where
  b0 := fun _ => rfl
  b1 := by simpa using h.b1
  b2 := by simpa using h.b2
  b3 := by simpa using h.b3
  b4 := by simpa using h.b4
  b5 := by simpa using h.b5
  b6 := by simpa using h.b6
  w0 := by simpa using h.w0
  w1 := by simpa using h.w1
  w7 := by simpa using h.w7
  w9 := by simpa using h.w9
  c54 := by simpa using h.c54
  c74 := by simpa using h.c74
  c97 := by simpa using h.c97
  c95 := by simpa using h.c95
  c98 := by simpa using h.c98
  c70 := fun _ => by simp
  c41 := by simpa using h.c41
  c42 := by simpa using h.c42
  c87 := by simpa using h.c87
theorem WFacts2.s1 (h : WFacts2 gm gf len k c v key kl D A f x15 x16 x17 x18 x19 x20 x21 x22 x23 u) : WFacts2 gm gf len k c v key kl D A (fun k => decide (k = 1) || f k) x15 (.pointer (some ⟨gf, 0, none⟩)) x17 x18 x19 x20 x21 x22 x23 u where
  b0 := by simpa using h.b0
  b1 := fun _ => rfl
  b2 := by simpa using h.b2
  b3 := by simpa using h.b3
  b4 := by simpa using h.b4
  b5 := by simpa using h.b5
  b6 := by simpa using h.b6
  w0 := by simpa using h.w0
  w1 := by simpa using h.w1
  w7 := by simpa using h.w7
  w9 := by simpa using h.w9
  c54 := by simpa using h.c54
  c74 := by simpa using h.c74
  c97 := by simpa using h.c97
  c95 := by simpa using h.c95
  c98 := by simpa using h.c98
  c70 := by simpa using h.c70
  c41 := fun _ => by simp
  c42 := by simpa using h.c42
  c87 := by simpa using h.c87
theorem WFacts2.s2 (h : WFacts2 gm gf len k c v key kl D A f x15 x16 x17 x18 x19 x20 x21 x22 x23 u) : WFacts2 gm gf len k c v key kl D A (fun k => decide (k = 2) || f k) x15 x16 (.int .i64 k) x18 x19 x20 x21 x22 x23 u where
  b0 := by simpa using h.b0
  b1 := by simpa using h.b1
  b2 := fun _ => rfl
  b3 := by simpa using h.b3
  b4 := by simpa using h.b4
  b5 := by simpa using h.b5
  b6 := by simpa using h.b6
  w0 := by simpa using h.w0
  w1 := by simpa using h.w1
  w7 := by simpa using h.w7
  w9 := by simpa using h.w9
  c54 := by simpa using h.c54
  c74 := by simpa using h.c74
  c97 := by simpa using h.c97
  c95 := by simpa using h.c95
  c98 := by simpa using h.c98
  c70 := by simpa using h.c70
  c41 := by simpa using h.c41
  c42 := fun _ => by simp
  c87 := by simpa using h.c87
theorem WFacts2.s3 (h : WFacts2 gm gf len k c v key kl D A f x15 x16 x17 x18 x19 x20 x21 x22 x23 u) : WFacts2 gm gf len k c v key kl D A (fun k => decide (k = 3) || f k) x15 x16 x17 v x19 x20 x21 x22 x23 u where
  b0 := by simpa using h.b0
  b1 := by simpa using h.b1
  b2 := by simpa using h.b2
  b3 := fun _ => rfl
  b4 := by simpa using h.b4
  b5 := by simpa using h.b5
  b6 := by simpa using h.b6
  w0 := by simpa using h.w0
  w1 := by simpa using h.w1
  w7 := by simpa using h.w7
  w9 := by simpa using h.w9
  c54 := by simpa using h.c54
  c74 := by simpa using h.c74
  c97 := by simpa using h.c97
  c95 := by simpa using h.c95
  c98 := by simpa using h.c98
  c70 := by simpa using h.c70
  c41 := by simpa using h.c41
  c42 := by simpa using h.c42
  c87 := by simpa using h.c87
theorem WFacts2.s4 (h : WFacts2 gm gf len k c v key kl D A f x15 x16 x17 x18 x19 x20 x21 x22 x23 u) (g1 : f 1 = true) (g2 : f 2 = true) (h4 : f 4 = false) {u2 : World} (hb : Below A.heap.size A u2) : WFacts2 gm gf len k c v key kl D A (fun k => decide (k = 4) || f k) x15 x16 x17 x18 key x20 x21 x22 x23 u2 where
  b0 := by simpa using h.b0
  b1 := by simpa using h.b1
  b2 := by simpa using h.b2
  b3 := by simpa using h.b3
  b4 := fun _ => rfl
  b5 := by simpa using h.b5
  b6 := by simpa using h.b6
  w0 := fun e => by simp at e
  w1 := fun _ _ => hb
  w7 := fun e => by simp [ff_of h.c74 h4] at e
  w9 := fun e => by simp [ff_of h.c97 (ff_of h.c74 h4)] at e
  c54 := fun _ => by simp
  c74 := fun _ => by simp
  c97 := by simpa using h.c97
  c95 := by simpa using h.c95
  c98 := by simpa using h.c98
  c70 := by simpa using h.c70
  c41 := fun _ => by simp [g1]
  c42 := fun _ => by simp [g2]
  c87 := by simpa using h.c87
theorem WFacts2.s5 (h : WFacts2 gm gf len k c v key kl D A f x15 x16 x17 x18 x19 x20 x21 x22 x23 u) (h4 : f 4 = true) : WFacts2 gm gf len k c v key kl D A (fun k => decide (k = 5) || f k) x15 x16 x17 x18 x19 (.int .i64 c) x21 x22 x23 u where
  b0 := by simpa using h.b0
  b1 := by simpa using h.b1
  b2 := by simpa using h.b2
  b3 := by simpa using h.b3
  b4 := by simpa using h.b4
  b5 := fun _ => rfl
  b6 := by simpa using h.b6
  w0 := by simpa using h.w0
  w1 := by simpa using h.w1
  w7 := by simpa using h.w7
  w9 := by simpa using h.w9
  c54 := fun _ => by simp [h4]
  c74 := by simpa using h.c74
  c97 := by simpa using h.c97
  c95 := fun _ => by simp
  c98 := by simpa using h.c98
  c70 := by simpa using h.c70
  c41 := by simpa using h.c41
  c42 := by simpa using h.c42
  c87 := by simpa using h.c87
theorem WFacts2.s6 (h : WFacts2 gm gf len k c v key kl D A f x15 x16 x17 x18 x19 x20 x21 x22 x23 u) : WFacts2 gm gf len k c v key kl D A (fun k => decide (k = 6) || f k) x15 x16 x17 x18 x19 x20 (.int .i64 (c + 1)) x22 x23 u where
  b0 := by simpa using h.b0
  b1 := by simpa using h.b1
  b2 := by simpa using h.b2
  b3 := by simpa using h.b3
  b4 := by simpa using h.b4
  b5 := by simpa using h.b5
  b6 := fun _ => rfl
  w0 := by simpa using h.w0
  w1 := by simpa using h.w1
  w7 := by simpa using h.w7
  w9 := by simpa using h.w9
  c54 := by simpa using h.c54
  c74 := by simpa using h.c74
  c97 := by simpa using h.c97
  c95 := by simpa using h.c95
  c98 := by simpa using h.c98
  c70 := by simpa using h.c70
  c41 := by simpa using h.c41
  c42 := by simpa using h.c42
  c87 := by simpa using h.c87
theorem WFacts2.s7 (h : WFacts2 gm gf len k c v key kl D A f x15 x16 x17 x18 x19 x20 x21 x22 x23 u) (h0 : f 0 = true) (h4 : f 4 = true) (_h7 : f 7 = false) (h8 : f 8 = false) (h9 : f 9 = false) {st : Nat} {o1 : Obj} {v0 : Value} (hgm : gm < A.heap.size) (hb : Below A.heap.size A u) (hh : (setBlock u gm o1).heap[gm]? = some o1) (hl : Laid gm len c key kl D st o1) : WFacts2 gm gf len k c v key kl D A (fun k => decide (k = 7) || f k) x15 x16 x17 x18 x19 x20 x21 (.tuple #[v0, goInt st]) x23 (setBlock u gm o1) where
  b0 := by simpa using h.b0
  b1 := by simpa using h.b1
  b2 := by simpa using h.b2
  b3 := by simpa using h.b3
  b4 := by simpa using h.b4
  b5 := by simpa using h.b5
  b6 := by simpa using h.b6
  w0 := fun e => by simp [h4] at e
  w1 := fun _ e => by simp at e
  w7 := fun _ _ => ⟨st, o1, u, v0, hb, hgm, rfl, hh, rfl, fun e => by simp [h8] at e, hl⟩
  w9 := fun e => by simp [h9] at e
  c54 := by simpa using h.c54
  c74 := fun _ => by simp [h4]
  c97 := fun _ => by simp
  c95 := by simpa using h.c95
  c98 := by simpa using h.c98
  c70 := fun _ => by simp [h0]
  c41 := by simpa using h.c41
  c42 := by simpa using h.c42
  c87 := fun _ => by simp
theorem WFacts2.s8 (h : WFacts2 gm gf len k c v key kl D A f x15 x16 x17 x18 x19 x20 x21 x22 x23 u) (h7 : f 7 = true) (h9 : f 9 = false) {v0 : Value} {st : Nat} (hx : x22 = .tuple #[v0, goInt st]) : WFacts2 gm gf len k c v key kl D A (fun k => decide (k = 8) || f k) x15 x16 x17 x18 x19 x20 x21 x22 (goInt st) u where
  b0 := by simpa using h.b0
  b1 := by simpa using h.b1
  b2 := by simpa using h.b2
  b3 := by simpa using h.b3
  b4 := by simpa using h.b4
  b5 := by simpa using h.b5
  b6 := by simpa using h.b6
  w0 := by simpa using h.w0
  w1 := by simpa using h.w1
  w7 := fun _ _ => by
    obtain ⟨st', o1, u2, v0', h1, h2, h3, h4, h5, _, h7'⟩ := h.w7 h7 h9
    have e := hx.symm.trans h5
    simp only [Value.tuple.injEq, Array.mk.injEq, List.cons.injEq, and_true] at e
    have e2 : (goInt (st : Int)) = goInt (st' : Int) := e.2
    exact ⟨st', o1, u2, v0', h1, h2, h3, h4, h5, fun _ => e2, h7'⟩
  w9 := by simpa using h.w9
  c54 := by simpa using h.c54
  c74 := by simpa using h.c74
  c97 := by simpa using h.c97
  c95 := by simpa using h.c95
  c98 := fun _ => by simp
  c70 := by simpa using h.c70
  c41 := by simpa using h.c41
  c42 := by simpa using h.c42
  c87 := fun _ => by simp [h7]
theorem WFacts2.s9 (h : WFacts2 gm gf len k c v key kl D A f x15 x16 x17 x18 x19 x20 x21 x22 x23 u) (h4 : f 4 = true) (h5 : f 5 = true) (h7 : f 7 = true) (h8 : f 8 = true) {u2 : World} (ho : u2.ownsMap Try.prog 89 (plainElem Try.prog 3) gm (len + 1) (D.put kl (.lit (.int .i64 (c + 1))))) (hg : A.grownBy u2 (some gm)) : WFacts2 gm gf len k c v key kl D A (fun k => decide (k = 9) || f k) x15 x16 x17 x18 x19 x20 x21 x22 x23 u2 where
  b0 := by simpa using h.b0
  b1 := by simpa using h.b1
  b2 := by simpa using h.b2
  b3 := by simpa using h.b3
  b4 := by simpa using h.b4
  b5 := by simpa using h.b5
  b6 := by simpa using h.b6
  w0 := fun e => by simp [h4] at e
  w1 := fun _ e => by simp [h7] at e
  w7 := fun _ e => by simp at e
  w9 := fun _ => ⟨ho, hg⟩
  c54 := by simpa using h.c54
  c74 := by simpa using h.c74
  c97 := fun _ => by simp [h7]
  c95 := fun _ => by simp [h5]
  c98 := fun _ => by simp [h8]
  c70 := by simpa using h.c70
  c41 := by simpa using h.c41
  c42 := by simpa using h.c42
  c87 := by simpa using h.c87
end
theorem wpOpIn_step {F : Fence} {n : Nat} {P : Program} {ops : Array Oper} {Q : Exit → Act → World → Prop} {i : Nat} {o : Oper} {K : Act → World → Prop} {a : Act} {w : World} (ho : ops[i]? = some o) (hg : o.guard = none) (h : ∀ K' : Act → World → Prop, (∀ a w, K a w → K' a w) → o.wpIn F n P a w K' Q) : wpOpIn F n P ops Q i K a w := by
  unfold wpOpIn
  simp only [ho, Region.wanted, hg, if_true]
  exact h K fun _ _ h => h
end Go.Proofs.Ytokklaoldgdkaaa

namespace Go.Proofs.Ytokklaoldgdkaaa
open Go.RowKit
attribute [local go_sem] Oper.semAt_some

/-- The map under way: the ways s have come. -/
structure WmIn (n gf : Nat) (k : Int) (im : List Int → List Int) (w : World) (s : List (List Int)) (O : Nat → Prop) (A : World) (D : DataW Unit) : Prop where
  r3 : Row A n 70 [.pointer (some ⟨gf, 0, none⟩)]
  r4 : Row A (n + 1) 3 [.int .i64 k]
  r7 : Row A (n + 3) 86 [.map (some (n + 2))]
  own : A.ownsMap Try.prog 89 (plainElem Try.prog 3) (n + 2) s.length D
  cnt : Cnt (s.map im) D
  no : ∀ q, n ≤ q → q < n + 4 → ¬ O q
  lo : ∀ q, O q → n ≤ q
  below : Below n w A

section
variable {n gf : Nat} {k : Int} {im : List Int → List Int} {w A C : World} {s : List (List Int)} {O O' : Nat → Prop} {D : DataW Unit}
theorem WmIn.later (hi : WmIn n gf k im w s O A D) (hb : Below A.heap.size A C) : WmIn n gf k im w s O C D :=
  ⟨hi.r3.below hb hi.r3.lt, hi.r4.below hb hi.r4.lt, hi.r7.below hb hi.r7.lt, hi.own.kept (row := none) ⟨hb.os, hb.tape, hb.output, hb.size, fun q hq _ => hb.block q hq⟩ (by simp), hi.cnt, hi.no, hi.lo, hi.below.trans (hb.mono (Nat.le_of_lt hi.r3.lt))⟩
theorem WmIn.step {row : Option Nat} (hi : WmIn n gf k im w s O A D) (hg : A.grownBy C row) (hr : ∀ r, row = some r → O r) (hn : n ≤ A.heap.size) : WmIn n gf k im w s (fun q => O q ∨ (A.heap.size ≤ q ∧ q < C.heap.size)) C D := by
  have h7 := hi.r7.lt
  exact ⟨hi.r3.keep (hg.block _ hi.r3.lt (fun e => hi.no n (Nat.le_refl _) (by omega) (hr _ e.symm))), hi.r4.keep (hg.block _ hi.r4.lt (fun e => hi.no (n + 1) (by omega) (by omega) (hr _ e.symm))), hi.r7.keep (hg.block _ hi.r7.lt (fun e => hi.no (n + 3) (by omega) (by omega) (hr _ e.symm))),
    hi.own.kept hg (fun e => hi.no (n + 2) (by omega) (by omega) (hr _ e.symm)), hi.cnt, fun q h1 h2 h3 => h3.elim (hi.no q h1 h2) (fun h4 => by omega), fun q h3 => h3.elim (hi.lo q) (fun h4 => by omega), hi.below.grown hg hn (fun q e => hi.lo q (hr q e))⟩
theorem WmIn.give (hi : WmIn n gf k im w s O A D) (h : ∀ q, O' q → O q) : WmIn n gf k im w s O' A D :=
  ⟨hi.r3, hi.r4, hi.r7, hi.own, hi.cnt, fun q h1 h2 h3 => hi.no q h1 h2 (h q h3), fun q h3 => hi.lo q (h q h3), hi.below⟩
theorem WmIn.put {l : Nat} {o' : Obj} (hi : WmIn n gf k im w s O A D) (hn : n ≤ A.heap.size) (hl : n + 4 ≤ l) : WmIn n gf k im w s O (A.putObj l o') D :=
  ⟨hi.r3.keep (puts_keep (by omega)), hi.r4.keep (puts_keep (by omega)), hi.r7.keep (puts_keep (by omega)), hi.own.kept (grownBy_putObj' A l o') (by simp; omega), hi.cnt, hi.no, hi.lo, hi.below.grown (grownBy_putObj' A l o') hn (fun q e => by simp only [Option.some.injEq] at e; omega)⟩
end

set_option maxRecDepth 100000 in
set_option maxHeartbeats 4000000 in
theorem waysMaking_any (lo hi0 g : Nat) (sv cv : Value) (t : Ty) (a b : Int) (w : World) (hv : TyAt w lo hi0 sv cv t) (hB : hi0 ≤ w.heap.size) (hrow : Row w g 85 [sv, cv]) (htb : typesB t a b = true) :
    Calls Try.prog 75 #[.pointer (some ⟨g, 0, none⟩), .int .i64 a, .int .i64 b] w fun e w' => ∃ B D, e = .returned (.map (some B)) ∧ Below w.heap.size w w' ∧ w.heap.size ≤ B ∧
      w'.ownsMap Try.prog 89 (plainElem Try.prog 3) B (waysOf t a b).length D ∧ Cnt ((waysOf t a b).map (imgV t a)) D := by
  have hgl := hrow.lt
  obtain ⟨hok, ha0, ha1, hb0, hb1⟩ := typesB_of htb
  have hmm := @run_makeMap Try.prog
  refine (callsIn_wide (n := 5)).1 ?_
  refine callsIn_of_wp_marks Try.func75 rfl trivial ?_ rfl
  simp only [Try.ntmps75, List.size_toArray, List.length_cons, List.length_nil, Nat.reduceAdd, Nat.reduceSub, Array.replicate_succ, Array.replicate_zero, List.push_toArray, List.append_toArray, List.nil_append, List.cons_append]
  gi_wp2_with (refine ⟨trivial, ?_⟩; gi_at_call 104; refine (callsIn_wide.2 (ways_any g a b _)).mono ?_; rintro e w' ⟨rfl, rfl⟩)
  obtain ⟨W0, hW0⟩ : ∃ u, u = (((((((w.alloc (.cells #[.pointer (some ⟨g, 0, none⟩)] 70)).alloc (.cells #[.int .i64 a] 3)).alloc (.map #[] 0)).alloc (.cells #[.map (some (w.heap.size + 1 + 1))] 86)).alloc (.cells #[.pointer (some ⟨g, 0, none⟩)] 70)).alloc (.cells #[.int .i64 a] 3)).alloc (.cells #[.int .i64 b] 3)) := ⟨_, rfl⟩
  rw [← hW0]
  have hs0 : W0.heap.size = w.heap.size + 7 := by rw [hW0]; simp
  have hb00 : Below w.heap.size w W0 := by rw [hW0]; go_grown
  have rowAt : ∀ (v : World) (k : Nat) (o : Obj), v.heap.size = k → ∀ u : World, Below (k + 1) (v.alloc o) u → u.heap[k]? = some o := fun v k o e u hbu => by
    subst e
    exact (hbu.block _ (by omega)).trans (World.alloc_heap_new v o)
  have r3 : Row W0 w.heap.size 70 [.pointer (some ⟨g, 0, none⟩)] := rowAt w _ _ rfl _ (by rw [hW0]; go_grown)
  have r4 : Row W0 (w.heap.size + 1) 3 [.int .i64 a] := rowAt (w.alloc (.cells #[.pointer (some ⟨g, 0, none⟩)] 70)) _ _ (by simp) _ (by rw [hW0]; go_grown)
  have r2 : W0.heap[w.heap.size + 2]? = some (.map #[] 0) := rowAt ((w.alloc (.cells #[.pointer (some ⟨g, 0, none⟩)] 70)).alloc (.cells #[.int .i64 a] 3)) _ _ (by simp) _ (by rw [hW0]; go_grown)
  have r7 : Row W0 (w.heap.size + 3) 86 [.map (some (w.heap.size + 2))] := rowAt (((w.alloc (.cells #[.pointer (some ⟨g, 0, none⟩)] 70)).alloc (.cells #[.int .i64 a] 3)).alloc (.map #[] 0)) _ _ (by simp) _ (by rw [hW0]; go_grown)
  have q3 : Row W0 (w.heap.size + 4) 70 [.pointer (some ⟨g, 0, none⟩)] := rowAt ((((w.alloc (.cells #[.pointer (some ⟨g, 0, none⟩)] 70)).alloc (.cells #[.int .i64 a] 3)).alloc (.map #[] 0)).alloc (.cells #[.map (some (w.heap.size + 1 + 1))] 86)) _ _ (by simp) _ (by rw [hW0]; go_grown)
  have q4 : Row W0 (w.heap.size + 5) 3 [.int .i64 a] := rowAt (((((w.alloc (.cells #[.pointer (some ⟨g, 0, none⟩)] 70)).alloc (.cells #[.int .i64 a] 3)).alloc (.map #[] 0)).alloc (.cells #[.map (some (w.heap.size + 1 + 1))] 86)).alloc (.cells #[.pointer (some ⟨g, 0, none⟩)] 70)) _ _ (by simp) _ (by rw [hW0]; go_grown)
  have q5 : Row W0 (w.heap.size + 6) 3 [.int .i64 b] := rowAt ((((((w.alloc (.cells #[.pointer (some ⟨g, 0, none⟩)] 70)).alloc (.cells #[.int .i64 a] 3)).alloc (.map #[] 0)).alloc (.cells #[.map (some (w.heap.size + 1 + 1))] 86)).alloc (.cells #[.pointer (some ⟨g, 0, none⟩)] 70)).alloc (.cells #[.int .i64 a] 3)) _ _ (by simp) _ (by rw [hW0]; exact Below.refl _ _)
  have own0 : W0.ownsMap Try.prog 89 (plainElem Try.prog 3) (w.heap.size + 2) 0 (.map [] : DataW Unit) := by
    have h := World.ownsMap_made (H := Unit) ((w.alloc (.cells #[.pointer (some ⟨g, 0, none⟩)] 70)).alloc (.cells #[.int .i64 a] 3)) Try.prog 89 (plainElem Try.prog 3)
    rw [show ((w.alloc (.cells #[.pointer (some ⟨g, 0, none⟩)] 70)).alloc (.cells #[.int .i64 a] 3)).heap.size = w.heap.size + 2 from by simp] at h
    exact ownsMap_of_heap h (r2.trans (by
      have := World.alloc_heap_new ((w.alloc (.cells #[.pointer (some ⟨g, 0, none⟩)] 70)).alloc (.cells #[.int .i64 a] 3)) (.map #[] 0)
      rw [show ((w.alloc (.cells #[.pointer (some ⟨g, 0, none⟩)] 70)).alloc (.cells #[.int .i64 a] 3)).heap.size = w.heap.size + 2 from by simp] at this
      exact this.symm))
  clear hW0 rowAt r2 hmm
  refine range_law (fun v => { tmps := #[.pointer (some ⟨g, 0, none⟩), .int .i64 a, .int .i64 b, .pointer (some ⟨w.heap.size, 0, none⟩), .pointer (some ⟨w.heap.size + 1, 0, none⟩), undef, .map none, .pointer (some ⟨w.heap.size + 1 + 1 + 1, 0, none⟩), v, .map (some (w.heap.size + 1 + 1)), .pointer (some ⟨g, 0, none⟩), .int .i64 a, .int .i64 b, .func (.func 139) #[] #[.pointer (some ⟨w.heap.size + 1 + 1 + 1 + 1, 0, none⟩), .pointer (some ⟨w.heap.size + 1 + 1 + 1 + 1 + 1, 0, none⟩), .pointer (some ⟨w.heap.size + 1 + 1 + 1 + 1 + 2, 0, none⟩)], v, undef, undef, undef, undef, undef, undef, undef, undef, undef, undef], defers := [] }) ?assign (gf := 139) (lb := #[.pointer (some ⟨w.heap.size + 1 + 1 + 1 + 1, 0, none⟩), .pointer (some ⟨w.heap.size + 1 + 1 + 1 + 1 + 1, 0, none⟩), .pointer (some ⟨w.heap.size + 1 + 1 + 1 + 1 + 2, 0, none⟩)]) rfl (enters_of Try.func139 (by kernel_rfl) rfl)
    (fun k => k < w.heap.size) (fun k hk => by omega) (waysOf t a b) (fun s O A => ∃ D, WmIn w.heap.size g a (imgV t a) w s O A D) (fun _ _ _ => False) ?istep ?igive ?iput ?ixput ?iter ?start ?body ?done ?stop
  case assign =>
    intro l v W m K hK
    gi_wp2
    exact hK
  case istep =>
    rintro s O A C row ⟨D, hi⟩ hgr hrw
    exact ⟨D, hi.step hgr hrw (Nat.le_of_lt hi.r3.lt)⟩
  case igive =>
    rintro s O O' A ⟨D, hi⟩ hsub
    exact ⟨D, hi.give hsub⟩
  case iput =>
    rintro s O A k o' ⟨D, hi⟩ h1 h2
    exact ⟨D, hi.put (Nat.le_of_lt hi.r3.lt) (by omega)⟩
  case ixput =>
    rintro c s A k o' h _ _
    exact h.elim
  case iter =>
    intro l J Jx W1 hC hb1 hJ
    have hbw := hb00.trans (hb1.mono (by omega))
    exact waysIter_any l g (w.heap.size + 1 + 1 + 1 + 1) (w.heap.size + 1 + 1 + 1 + 1 + 1) (w.heap.size + 1 + 1 + 1 + 1 + 2) _ J Jx t a b hC lo hi0 sv cv W1 htb hgl (fun k _ hk => by omega) (fun k hk => by have := hbw.size; omega) (hrow.below hbw hgl) (hv.below hbw hB)
      ((q3.below hb1 (by omega)).cell 0) ((q4.below hb1 (by omega)).cell 0) ((q5.below hb1 (by omega)).cell 0) hJ
  case start =>
    intro W1 hb1
    exact ⟨.map [], r3.below hb1 (by omega), r4.below hb1 (by omega), r7.below hb1 (by omega), own0.kept (row := none) ⟨hb1.os, hb1.tape, hb1.output, hb1.size, fun q hq _ => hb1.block q hq⟩ (by simp), Cnt.nil, fun q _ _ h => h, fun q h => h.elim, hb00.trans (hb1.mono (by omega))⟩
  case body =>
    rintro l s v zs O A0' A' m hzin ⟨D, hi0⟩ hlen hbel hz hzo0 hzw hlt
    have hi := hi0.later hbel
    clear hi0
    have hway : (wayEnd t.cos a zs).isSome = true := by rw [waysOf_end hzin]; rfl
    have h4f : Four (imgV t a zs) := ⟨rfl, fun x hx => by
      simp only [imgV, List.mem_cons, List.not_mem_nil, or_false] at hx
      rcases hx with rfl | rfl | rfl | rfl <;> exact imgAt_wf hok ha0 ha1 hway⟩
    have hkey := key_of h4f
    have hgm : w.heap.size + 1 + 1 < A'.heap.size := hi.own.lt
    have hbs := hi.below.size
    have hzat := ownsRow.intsAt (lo := 0) (hi := A'.heap.size) hz hzw (Nat.le_refl _) (Nat.le_refl _)
    have hcw := cntI_wf (s := s.map (imgV t a)) (by simpa using hlen) (imgV t a zs)
    have hcat := hi.cnt.at_ _ h4f
    have himg : Calls Try.prog 76 #[.pointer (some ⟨g, 0, none⟩), .int .i64 a, v] A'.drew fun e w' => e = .returned (aggI (imgV t a zs)) ∧ Below A'.heap.size A' w' :=
      (imagesBy_any lo hi0 0 A'.heap.size g sv cv v t a zs A'.drew (hv.below hi.below.drew hB) (by show hi0 ≤ A'.heap.size; omega) hzat (Nat.le_refl _) (hrow.below hi.below.drew hgl) hok ha0 ha1 hway).mono fun e w' h => ⟨h.1, (Below.refl _ A').drew.trans h.2⟩
    have hlaid : ∀ u, Below A'.heap.size A' u → ∃ (v0 : Value) (st : Nat) (o1 : Obj), (Instr.mapEntry 86 (.map (some (w.heap.size + 1 + 1))) (aggI (imgV t a zs))).run Try.prog u = .ok (.tuple #[v0, goInt st]) (Go.ChangeMaps.setBlock u (w.heap.size + 1 + 1) o1) ∧ (Go.ChangeMaps.setBlock u (w.heap.size + 1 + 1) o1).heap[w.heap.size + 1 + 1]? = some o1 ∧
        Laid (w.heap.size + 1 + 1) s.length (cntI (s.map (imgV t a)) (imgV t a zs)) (aggI (imgV t a zs)) (kI (imgV t a zs)) D st o1 := by
      intro u hbu
      have hou := hi.own.kept (row := none) ⟨hbu.os, hbu.tape, hbu.output, hbu.size, fun q hq _ => hbu.block q hq⟩ (by simp)
      obtain ⟨v0, st, o1, h1, h2, h3⟩ := own_entry lawKey Try.underlying86 Try.underlying3 zeroInt hou (by unfold maxLen; omega) hkey
      obtain ⟨es, clock, hh, _⟩ := hou
      have hsame := Go.ChangeMaps.heap_setBlock_same hh o1
      refine ⟨v0, st, o1, h1, hsame, fun w2 hw2 => ?_, fun w2 hw2 => ?_⟩
      · obtain ⟨c', hr, ha, _⟩ := h2 w2 hw2
        rw [hcat] at ha
        simp only [DataW.lit.injEq, Lit.int.injEq, true_and] at ha
        rw [ha]
        exact hr
      · exact h3 w2 _ (wf_of hcw.2) hw2
    have hlook : ∀ u, Below A'.heap.size A' u → (Instr.lookup 86 (.map (some (w.heap.size + 1 + 1))) (aggI (imgV t a zs)) false).run Try.prog u = .ok (.int .i64 (cntI (s.map (imgV t a)) (imgV t a zs))) u := by
      intro u hbu
      have hou := hi.own.kept (row := none) ⟨hbu.os, hbu.tape, hbu.output, hbu.size, fun q hq _ => hbu.block q hq⟩ (by simp)
      obtain ⟨c', hr, ha, _⟩ := hou.lookup_int keyedKey Try.underlying86 Try.underlying3 (zeroInt u) hkey
      rw [hcat] at ha
      simp only [DataW.lit.injEq, Lit.int.injEq, true_and] at ha
      rw [ha]
      exact hr
    have hwrap : IntKind.i64.wrap (cntI (s.map (imgV t a)) (imgV t a zs) + 1) = cntI (s.map (imgV t a)) (imgV t a zs) + 1 := by have := hcw.2; unfold I64 at this; rw [IntKind.wrap_i64]; omega
    have c3 : A'.drew.cell? ⟨w.heap.size, 0, none⟩ = some (.pointer (some ⟨g, 0, none⟩)) := hi.r3.cell 0
    have c4 : A'.drew.cell? ⟨w.heap.size + 1, 0, none⟩ = some (.int .i64 a) := hi.r4.cell 0
    have c7 : A'.cell? ⟨w.heap.size + 1 + 1 + 1, 0, none⟩ = some (.map (some (w.heap.size + 1 + 1))) := hi.r7.cell 0
    have hsn := Lib.hid (hi.cnt.snoc hi.own.isMap h4f)
    have Hi := Lib.hid hi
    have Himg := Lib.hid himg
    have Hlaid := Lib.hid hlaid
    have Hlook := Lib.hid hlook
    clear hi himg hlaid hlook hkey hcat hcw hzat
    generalize hkk : aggI (imgV t a zs) = key at *
    generalize hcc : cntI (s.map (imgV t a)) (imgV t a zs) = c at *
    clear hkk hcc
    apply wpIn_block
    refine wpIn_region_inv (by kernel_rfl) (fun f x u => ∃ x15 x16 x17 x18 x19 x20 x21 x22 x23, x = ⟨#[.pointer (some ⟨g, 0, none⟩), .int .i64 a, .int .i64 b, .pointer (some ⟨w.heap.size, 0, none⟩), .pointer (some ⟨w.heap.size + 1, 0, none⟩), undef, .map none, .pointer (some ⟨w.heap.size + 1 + 1 + 1, 0, none⟩), v, .map (some (w.heap.size + 1 + 1)), .pointer (some ⟨g, 0, none⟩), .int .i64 a, .int .i64 b, .func (.func 139) #[] #[.pointer (some ⟨w.heap.size + 1 + 1 + 1 + 1, 0, none⟩), .pointer (some ⟨w.heap.size + 1 + 1 + 1 + 1 + 1, 0, none⟩), .pointer (some ⟨w.heap.size + 1 + 1 + 1 + 1 + 2, 0, none⟩)], v, x15, x16, x17, x18, x19, x20, x21, x22, x23, undef], []⟩ ∧ WFacts2 (w.heap.size + 1 + 1) g s.length a c v key (kI (imgV t a zs)) D A' f x15 x16 x17 x18 x19 x20 x21 x22 x23 u) (of_decide_eq_true (by kernel_rfl)) ⟨_, _, _, _, _, _, _, _, _, rfl, ⟨nofun, nofun, nofun, nofun, nofun, nofun, nofun, fun _ => rfl, nofun, nofun, nofun, nofun, nofun, nofun, nofun, nofun, nofun, nofun, nofun, nofun⟩⟩ ?_ ?_
    · rintro f x u i o ho hfi hdep ⟨x15, x16, x17, x18, x19, x20, x21, x22, x23, rfl, hF⟩
      have hil : i < 10 := by have := (Array.getElem?_eq_some_iff.1 ho).1; simpa using this
      obtain rfl | rfl | rfl | rfl | rfl | rfl | rfl | rfl | rfl | rfl : i = 0 ∨ i = 1 ∨ i = 2 ∨ i = 3 ∨ i = 4 ∨ i = 5 ∨ i = 6 ∨ i = 7 ∨ i = 8 ∨ i = 9 := by omega
      all_goals
        obtain rfl := Option.some.inj ho
        refine wpOpIn_step ho rfl fun K hK => ?_
        simp [Region.binds] at hdep
        clear ho
      · have hf7 := ff_of hF.c70 hfi
        have hu : u.cell? ⟨w.heap.size + 1 + 1 + 1, 0, none⟩ = some (.map (some (w.heap.size + 1 + 1))) := by
          by_cases h4 : f 4 = true
          · exact ((hF.w1 h4 hf7).cell (p := ⟨w.heap.size + 1 + 1 + 1, 0, none⟩) (by dsimp only; have := Hi.out.r7.lt; omega)).trans c7
          · rw [hF.w0 (by simpa using h4)]; exact c7
        have HF := Lib.hid hF
        clear hF
        unfold Oper.wpIn
        go_simp
        exact hK _ _ ⟨_, _, _, _, _, _, _, _, _, rfl, HF.out.s0⟩
      · obtain rfl := hF.w0 (ff_of hF.c41 hfi)
        have HF := Lib.hid hF
        clear hF
        unfold Oper.wpIn
        go_simp
        exact hK _ _ ⟨_, _, _, _, _, _, _, _, _, rfl, HF.out.s1⟩
      · obtain rfl := hF.w0 (ff_of hF.c42 hfi)
        have HF := Lib.hid hF
        clear hF
        unfold Oper.wpIn
        go_simp
        exact hK _ _ ⟨_, _, _, _, _, _, _, _, _, rfl, HF.out.s2⟩
      · have HF := Lib.hid hF
        clear hF
        unfold Oper.wpIn
        go_simp
        exact hK _ _ ⟨_, _, _, _, _, _, _, _, _, rfl, HF.out.s3⟩
      · obtain rfl := hF.b1 hdep.1
        obtain rfl := hF.b2 hdep.2.1
        obtain rfl := hF.b3 hdep.2.2
        obtain rfl := hF.w0 hfi
        have HF := Lib.hid hF
        clear hF
        unfold Oper.wpIn
        go_simp
        refine ⟨trivial, fun h => by simp [Fence.wide] at h, ?_⟩
        refine CallsIn.mono (show CallsIn (Fence.wide.inRound l) _ _ _ _ _ _ from (callsIn_wide.2 Himg.out : CallsIn Fence.wide _ _ _ _ _ _)) ?_
        rintro e u2 ⟨rfl, hb2⟩
        exact hK _ _ ⟨_, _, _, _, _, _, _, _, _, rfl, HF.out.s4 hdep.1 hdep.2.1 hfi hb2⟩
      · obtain rfl := hF.b0 hdep.1
        obtain rfl := hF.b4 hdep.2
        have hrun : (Instr.lookup 86 (.map (some (w.heap.size + 1 + 1))) key false).run Try.prog u = .ok (.int .i64 c) u := by
          by_cases h7 : f 7 = true
          · obtain ⟨st, o1, u2, v0, _, _, _, h5, _, _, hl⟩ := hF.w7 h7 (ff_of hF.c95 hfi)
            exact hl.look u h5
          · exact Hlook.out u (hF.w1 hdep.2 (by simpa using h7))
        have HF := Lib.hid hF
        clear hF
        unfold Oper.wpIn
        go_simp
        exact hK _ _ ⟨_, _, _, _, _, _, _, _, _, rfl, HF.out.s5 hdep.2⟩
      · obtain rfl := hF.b5 hdep
        have HF := Lib.hid hF
        clear hF
        unfold Oper.wpIn
        go_simp
        refine hK _ _ ⟨_, _, _, _, _, _, _, _, _, rfl, ?_⟩
        have := HF.out.s6
        simpa [hwrap] using this
      · obtain ⟨h0, h4, _⟩ := hdep
        obtain rfl := hF.b0 h0
        obtain rfl := hF.b4 h4
        have hbu := hF.w1 h4 hfi
        obtain ⟨v0, st, o1, hrun, hh, hl⟩ := Hlaid.out u hbu
        have HF := Lib.hid hF
        clear hF
        unfold Oper.wpIn
        go_simp
        exact hK _ _ ⟨_, _, _, _, _, _, _, _, _, rfl, HF.out.s7 h0 h4 hfi (ff_of HF.out.c87 hfi) (ff_of HF.out.c97 hfi) hgm hbu hh hl⟩
      · have h9 := ff_of hF.c98 hfi
        obtain ⟨st, o1, u2, v0, hx⟩ : ∃ (st : Nat) (o1 : Obj) (u2 : World) (v0 : Value), x22 = .tuple #[v0, goInt st] := by
          obtain ⟨st, o1, u2, v0, _, _, _, _, hx, _, _⟩ := hF.w7 hdep h9
          exact ⟨st, o1, u2, v0, hx⟩
        subst hx
        have HF := Lib.hid hF
        clear hF
        unfold Oper.wpIn
        go_simp
        exact hK _ _ ⟨_, _, _, _, _, _, _, _, _, rfl, HF.out.s8 hdep h9 rfl⟩
      · obtain ⟨h0, h8, h6, h7, _, _, _, _, h4, h5, _⟩ := hdep
        obtain rfl := hF.b0 h0
        obtain rfl := hF.b6 h6
        obtain ⟨st, o1, u2, v0, hb2, hg2, hu2, hh, hx22, hx8, hl⟩ := hF.w7 h7 hfi
        obtain rfl := hx8 h8
        obtain ⟨w3, hrun, ho3, hg3⟩ := hl.store u hh
        have hgr : A'.grownBy w3 (some (w.heap.size + 1 + 1)) := by
          have e : A'.grownBy u (some (w.heap.size + 1 + 1)) := by
            rw [hu2]
            have hbs2 := hb2.size
            obtain ⟨es0, clock0, hh0, _⟩ := Hi.out.own
            have ho0 := (hb2.block (w.heap.size + 2) hg2).trans hh0
            exact ⟨hb2.os, hb2.tape, hb2.output, by simpa [Go.ChangeMaps.setBlock] using hbs2, fun q hq hne => (Go.ChangeMaps.heap_setBlock_other ho0 _ (fun e => hne (by rw [e]))).trans (hb2.block q hq)⟩
          exact e.andThen hg3 (fun j hj => .inr hj)
        clear hu2 hb2 hg3 hl hx8 hx22
        replace hrun : (Instr.entryStore 86 (.map (some (w.heap.size + 1 + 1))) (.int .i64 st) (.int .i64 (c + 1))).run Try.prog u = .ok () w3 := hrun
        have HF := Lib.hid hF
        clear hF
        unfold Oper.wpIn
        go_simp
        exact hK _ _ ⟨_, _, _, _, _, _, _, _, _, rfl, HF.out.s9 h4 h5 h7 h8 ho3 hgr⟩
    · rintro f x u hall ⟨x15, x16, x17, x18, x19, x20, x21, x22, x23, rfl, hF⟩
      obtain ⟨ho, hg⟩ := hF.w9 (hall 9 (by simp))
      have hi := Hi.out
      have hsz := hg.size
      have h3l := hi.r3.lt
      simp only [Exit.inBlock]
      show bodyEnds _ _ _ _ _ _ _ _ _ _
      refine ⟨⟨hsz, fun q hq hS => hg.block q hq (fun e => ?_)⟩, _, hi.r3.keep (hg.block _ hi.r3.lt (by simp only [ne_eq, Option.some.injEq]; omega)), hi.r4.keep (hg.block _ hi.r4.lt (by simp only [ne_eq, Option.some.injEq]; omega)), hi.r7.keep (hg.block _ hi.r7.lt (by simp only [ne_eq, Option.some.injEq]; omega)), by simpa using ho, by simpa using hsn.out, hi.no, hi.lo, hi.below.grown hg (Nat.le_of_lt h3l) (fun q e => by simp only [Option.some.injEq] at e; omega)⟩
      simp only [Option.some.injEq] at e
      rcases hS with h | h | h | h
      · exact hi.no q (by omega) (by omega) h
      all_goals omega
  case done =>
    rintro O' W' ⟨D, hi⟩ hK
    have p7 : W'.cell? ⟨w.heap.size + 1 + 1 + 1, 0, none⟩ = some (.map (some (w.heap.size + 1 + 1))) := hi.r7.cell 0
    have HK := Lib.hid hK
    have Hi := Lib.hid hi
    clear hi hK
    gi_wp2
    refine ⟨by simp, .inl ⟨_, _, rfl, run_takeDeferred (w := W') HK.out, ?_⟩⟩
    refine ⟨.map (some (w.heap.size + 1 + 1)), by simp [results, Try.results75, go_sem], _, D, rfl, ?_, by omega, ?_, Hi.out.cnt⟩
    · exact Hi.out.below.grown (grownBy_putObj' _ _ _) (Nat.le_of_lt Hi.out.r3.lt) (fun q e => by simp only [Option.some.injEq] at e; omega)
    · exact Hi.out.own.kept (grownBy_putObj' _ _ _) (by simp; omega)
  case stop =>
    rintro c s' W' _ h _
    exact h.elim
end Go.Proofs.Ytokklaoldgdkaaa

namespace Go.Proofs.Ytokklaoldgdkaaa
open Go.RowKit

/-- What IsRedundant answers. -/
def redV (t : Ty) (i : Int) : Bool := hasC t i && redB t i.toNat (t.cos.getD i.toNat default)

theorem more_iff {α : Type} {L : List α} {a : α} (hn : L.Pairwise (· ≠ ·)) (ha : a ∈ L) : 1 < L.length ↔ ∃ z ∈ L, z ≠ a := by
  match L, hn, ha with
  | [x], _, ha =>
    simp only [List.mem_singleton] at ha
    subst ha
    simp
  | x :: y :: r, hn, _ =>
    have hxy := (List.pairwise_cons.1 hn).1 y (by simp)
    constructor
    · intro _
      by_cases h : x = a
      · exact ⟨y, by simp, fun e => hxy (h.trans e.symm)⟩
      · exact ⟨x, by simp, h⟩
    · intro _
      simp

theorem img_map {t : Ty} (hty : tyOk t = true) {n : Nat} (hn : n < t.cos.length) (z : List Int) : imgV t t.cos[n].src z = imgV t t.cos[n].src [(n : Int)] ↔ mapL t.cos z (t.sizes.getD t.cos[n].src.toNat 0).toNat = t.cos[n].map := by
  obtain ⟨h1, h2, h3, h4, h5⟩ := coOk_of (tyOk_co hty hn)
  rw [imgV_eq hty h1 (by omega)]
  have hone : ∀ v : Nat, ∀ (hv : v < t.cos[n].map.length), goV t.cos (v : Int) [(n : Int)] = t.cos[n].map[v] := fun v hv => by
    have e : goV t.cos (v : Int) [(n : Int)] = lookOf t.cos[n].map (v : Int) := by
      show goV t.cos (lookOf (t.cos.getD ((n : Int)).toNat default).map v) [] = _
      rw [show ((n : Int)).toNat = n from Int.toNat_natCast n, getD_at hn]; rfl
    rw [e]
    have := lookOf_in (zs := t.cos[n].map) (v := (v : Int)) (by omega) (by simpa using hv)
    simpa using this
  have hlen : (t.sizes.getD t.cos[n].src.toNat 0).toNat = t.cos[n].map.length := by omega
  rw [hlen]
  constructor
  · intro h
    refine List.ext_getElem (by rw [mapL_len]) fun v hv1 hv2 => ?_
    rw [mapL_len] at hv1
    have := h v (by omega)
    rw [hone v hv1] at this
    rw [← this]
    simp [mapL]
  · intro h v hv
    have hv1 : v < t.cos[n].map.length := by omega
    rw [hone v hv1]
    have hv2 : v < (mapL t.cos z t.cos[n].map.length).length := by rw [mapL_len]; exact hv1
    have : (mapL t.cos z t.cos[n].map.length)[v]'hv2 = t.cos[n].map[v] := by simp only [h]
    rw [← this]
    simp [mapL]

theorem red_count {t : Ty} (hty : tyOk t = true) {n : Nat} (hn : n < t.cos.length) :
    decide (1 < cntI ((waysOf t t.cos[n].src t.cos[n].dst).map (imgV t t.cos[n].src)) (imgV t t.cos[n].src [(n : Int)])) = redB t n t.cos[n] := by
  rw [Bool.eq_iff_iff, decide_eq_true_eq]
  have hnd : (waysOf t t.cos[n].src t.cos[n].dst).Pairwise (· ≠ ·) := waysF_nodup 5 _ _
  have hin := waysOf_one hty hn
  have e : cntI ((waysOf t t.cos[n].src t.cos[n].dst).map (imgV t t.cos[n].src)) (imgV t t.cos[n].src [(n : Int)]) = (((waysOf t t.cos[n].src t.cos[n].dst).filter fun z => decide (imgV t t.cos[n].src z = imgV t t.cos[n].src [(n : Int)])).length : Int) := by
    unfold cntI
    rw [List.filter_map, List.length_map]
    rfl
  rw [e]
  have hm := more_iff (a := [(n : Int)]) (hnd.filter fun z => decide (imgV t t.cos[n].src z = imgV t t.cos[n].src [(n : Int)])) (List.mem_filter.2 ⟨hin, decide_eq_true rfl⟩)
  have e2 : (1 : Int) < (((waysOf t t.cos[n].src t.cos[n].dst).filter fun z => decide (imgV t t.cos[n].src z = imgV t t.cos[n].src [(n : Int)])).length : Int) ↔ 1 < ((waysOf t t.cos[n].src t.cos[n].dst).filter fun z => decide (imgV t t.cos[n].src z = imgV t t.cos[n].src [(n : Int)])).length := by omega
  rw [e2, hm]
  unfold redB
  rw [List.any_eq_true]
  constructor
  · rintro ⟨z, hz, hne⟩
    obtain ⟨h1, h2⟩ := List.mem_filter.1 hz
    refine ⟨z, h1, ?_⟩
    rw [decide_eq_false hne, decide_eq_true ((img_map hty hn z).1 (of_decide_eq_true h2))]; rfl
  · rintro ⟨z, hz, hb⟩
    simp only [Bool.and_eq_true, Bool.not_eq_true', decide_eq_false_iff_not, decide_eq_true_eq] at hb
    exact ⟨z, List.mem_filter.2 ⟨hz, decide_eq_true ((img_map hty hn z).2 hb.2)⟩, hb.1⟩
end Go.Proofs.Ytokklaoldgdkaaa

namespace Go.Proofs.Ytokklaoldgdkaaa
open Go.RowKit

structure RedG (i : Int) (im : List (List Int)) (nw : Nat) (wr : World) (f : Nat → Bool) (x22 x23 x24 x25 x26 x27 x28 x29 x30 x31 x32 x33 x34 x35 x4 v22 v23 v24 v25 v26 v28 v29 v30 v31 v33 v34 v35 v4 : Value) (u : World) : Prop where
  wb : Below wr.heap.size wr u
  b0 : f 0 = true → x22 = v22
  b1 : f 1 = true → x23 = v23
  b2 : f 2 = true → x24 = v24
  b3 : f 3 = true → x25 = v25
  b4 : f 4 = true → x26 = v26
  b5 : f 5 = true → ∃ Bm D, x27 = .map (some Bm) ∧ u.ownsMap Try.prog 89 (plainElem Try.prog 3) Bm nw D ∧ Cnt im D
  b6 : f 6 = true → x28 = v28
  b7 : f 7 = true → x29 = v29
  b8 : f 8 = true → x30 = v30
  b9 : f 9 = true → x31 = v31
  b10 : f 10 = true → ∃ q, x32 = .slice (some ⟨q, 0, none⟩) 1 1 ∧ wr.heap.size ≤ q ∧ Row u q 3 [.int .i64 i]
  b11 : f 11 = true → x33 = v33
  b12 : f 12 = true → x34 = v34
  b13 : f 13 = true → x35 = v35
  b14 : f 14 = true → x4 = v4
section
variable {i : Int} {im : List (List Int)} {nw : Nat} {wr u : World} {f : Nat → Bool} {x22 x23 x24 x25 x26 x27 x28 x29 x30 x31 x32 x33 x34 x35 x4 v22 v23 v24 v25 v26 v28 v29 v30 v31 v33 v34 v35 v4 : Value}
theorem RedG.s0 (h : RedG i im nw wr f x22 x23 x24 x25 x26 x27 x28 x29 x30 x31 x32 x33 x34 x35 x4 v22 v23 v24 v25 v26 v28 v29 v30 v31 v33 v34 v35 v4 u) : RedG i im nw wr (fun k => decide (k = 0) || f k) v22 x23 x24 x25 x26 x27 x28 x29 x30 x31 x32 x33 x34 x35 x4 v22 v23 v24 v25 v26 v28 v29 v30 v31 v33 v34 v35 v4 u where
  wb := h.wb
  b0 := fun _ => rfl
  b1 := by simpa using h.b1
  b2 := by simpa using h.b2
  b3 := by simpa using h.b3
  b4 := by simpa using h.b4
  b5 := by simpa using h.b5
  b6 := by simpa using h.b6
  b7 := by simpa using h.b7
  b8 := by simpa using h.b8
  b9 := by simpa using h.b9
  b10 := by simpa using h.b10
  b11 := by simpa using h.b11
  b12 := by simpa using h.b12
  b13 := by simpa using h.b13
  b14 := by simpa using h.b14
theorem RedG.s1 (h : RedG i im nw wr f x22 x23 x24 x25 x26 x27 x28 x29 x30 x31 x32 x33 x34 x35 x4 v22 v23 v24 v25 v26 v28 v29 v30 v31 v33 v34 v35 v4 u) : RedG i im nw wr (fun k => decide (k = 1) || f k) x22 v23 x24 x25 x26 x27 x28 x29 x30 x31 x32 x33 x34 x35 x4 v22 v23 v24 v25 v26 v28 v29 v30 v31 v33 v34 v35 v4 u where
  wb := h.wb
  b0 := by simpa using h.b0
  b1 := fun _ => rfl
  b2 := by simpa using h.b2
  b3 := by simpa using h.b3
  b4 := by simpa using h.b4
  b5 := by simpa using h.b5
  b6 := by simpa using h.b6
  b7 := by simpa using h.b7
  b8 := by simpa using h.b8
  b9 := by simpa using h.b9
  b10 := by simpa using h.b10
  b11 := by simpa using h.b11
  b12 := by simpa using h.b12
  b13 := by simpa using h.b13
  b14 := by simpa using h.b14
theorem RedG.s2 (h : RedG i im nw wr f x22 x23 x24 x25 x26 x27 x28 x29 x30 x31 x32 x33 x34 x35 x4 v22 v23 v24 v25 v26 v28 v29 v30 v31 v33 v34 v35 v4 u) : RedG i im nw wr (fun k => decide (k = 2) || f k) x22 x23 v24 x25 x26 x27 x28 x29 x30 x31 x32 x33 x34 x35 x4 v22 v23 v24 v25 v26 v28 v29 v30 v31 v33 v34 v35 v4 u where
  wb := h.wb
  b0 := by simpa using h.b0
  b1 := by simpa using h.b1
  b2 := fun _ => rfl
  b3 := by simpa using h.b3
  b4 := by simpa using h.b4
  b5 := by simpa using h.b5
  b6 := by simpa using h.b6
  b7 := by simpa using h.b7
  b8 := by simpa using h.b8
  b9 := by simpa using h.b9
  b10 := by simpa using h.b10
  b11 := by simpa using h.b11
  b12 := by simpa using h.b12
  b13 := by simpa using h.b13
  b14 := by simpa using h.b14
theorem RedG.s3 (h : RedG i im nw wr f x22 x23 x24 x25 x26 x27 x28 x29 x30 x31 x32 x33 x34 x35 x4 v22 v23 v24 v25 v26 v28 v29 v30 v31 v33 v34 v35 v4 u) : RedG i im nw wr (fun k => decide (k = 3) || f k) x22 x23 x24 v25 x26 x27 x28 x29 x30 x31 x32 x33 x34 x35 x4 v22 v23 v24 v25 v26 v28 v29 v30 v31 v33 v34 v35 v4 u where
  wb := h.wb
  b0 := by simpa using h.b0
  b1 := by simpa using h.b1
  b2 := by simpa using h.b2
  b3 := fun _ => rfl
  b4 := by simpa using h.b4
  b5 := by simpa using h.b5
  b6 := by simpa using h.b6
  b7 := by simpa using h.b7
  b8 := by simpa using h.b8
  b9 := by simpa using h.b9
  b10 := by simpa using h.b10
  b11 := by simpa using h.b11
  b12 := by simpa using h.b12
  b13 := by simpa using h.b13
  b14 := by simpa using h.b14
theorem RedG.s4 (h : RedG i im nw wr f x22 x23 x24 x25 x26 x27 x28 x29 x30 x31 x32 x33 x34 x35 x4 v22 v23 v24 v25 v26 v28 v29 v30 v31 v33 v34 v35 v4 u) : RedG i im nw wr (fun k => decide (k = 4) || f k) x22 x23 x24 x25 v26 x27 x28 x29 x30 x31 x32 x33 x34 x35 x4 v22 v23 v24 v25 v26 v28 v29 v30 v31 v33 v34 v35 v4 u where
  wb := h.wb
  b0 := by simpa using h.b0
  b1 := by simpa using h.b1
  b2 := by simpa using h.b2
  b3 := by simpa using h.b3
  b4 := fun _ => rfl
  b5 := by simpa using h.b5
  b6 := by simpa using h.b6
  b7 := by simpa using h.b7
  b8 := by simpa using h.b8
  b9 := by simpa using h.b9
  b10 := by simpa using h.b10
  b11 := by simpa using h.b11
  b12 := by simpa using h.b12
  b13 := by simpa using h.b13
  b14 := by simpa using h.b14
theorem RedG.s5 (h : RedG i im nw wr f x22 x23 x24 x25 x26 x27 x28 x29 x30 x31 x32 x33 x34 x35 x4 v22 v23 v24 v25 v26 v28 v29 v30 v31 v33 v34 v35 v4 u) {u2 : World} (hb : Below u.heap.size u u2) {Bm : Nat} {D : DataW Unit} (ho : u2.ownsMap Try.prog 89 (plainElem Try.prog 3) Bm nw D) (hc : Cnt im D) : RedG i im nw wr (fun k => decide (k = 5) || f k) x22 x23 x24 x25 x26 (.map (some Bm)) x28 x29 x30 x31 x32 x33 x34 x35 x4 v22 v23 v24 v25 v26 v28 v29 v30 v31 v33 v34 v35 v4 u2 where
  wb := h.wb.trans (hb.mono h.wb.size)
  b0 := by simpa using h.b0
  b1 := by simpa using h.b1
  b2 := by simpa using h.b2
  b3 := by simpa using h.b3
  b4 := by simpa using h.b4
  b5 := fun _ => ⟨Bm, D, rfl, ho, hc⟩
  b6 := by simpa using h.b6
  b7 := by simpa using h.b7
  b8 := by simpa using h.b8
  b9 := by simpa using h.b9
  b10 := fun e => by
    obtain ⟨q, h1, h2, h3⟩ := h.b10 (by simpa using e)
    exact ⟨q, h1, h2, h3.below hb h3.lt⟩
  b11 := by simpa using h.b11
  b12 := by simpa using h.b12
  b13 := by simpa using h.b13
  b14 := by simpa using h.b14
theorem RedG.s6 (h : RedG i im nw wr f x22 x23 x24 x25 x26 x27 x28 x29 x30 x31 x32 x33 x34 x35 x4 v22 v23 v24 v25 v26 v28 v29 v30 v31 v33 v34 v35 v4 u) : RedG i im nw wr (fun k => decide (k = 6) || f k) x22 x23 x24 x25 x26 x27 v28 x29 x30 x31 x32 x33 x34 x35 x4 v22 v23 v24 v25 v26 v28 v29 v30 v31 v33 v34 v35 v4 u where
  wb := h.wb
  b0 := by simpa using h.b0
  b1 := by simpa using h.b1
  b2 := by simpa using h.b2
  b3 := by simpa using h.b3
  b4 := by simpa using h.b4
  b5 := by simpa using h.b5
  b6 := fun _ => rfl
  b7 := by simpa using h.b7
  b8 := by simpa using h.b8
  b9 := by simpa using h.b9
  b10 := by simpa using h.b10
  b11 := by simpa using h.b11
  b12 := by simpa using h.b12
  b13 := by simpa using h.b13
  b14 := by simpa using h.b14
theorem RedG.s7 (h : RedG i im nw wr f x22 x23 x24 x25 x26 x27 x28 x29 x30 x31 x32 x33 x34 x35 x4 v22 v23 v24 v25 v26 v28 v29 v30 v31 v33 v34 v35 v4 u) : RedG i im nw wr (fun k => decide (k = 7) || f k) x22 x23 x24 x25 x26 x27 x28 v29 x30 x31 x32 x33 x34 x35 x4 v22 v23 v24 v25 v26 v28 v29 v30 v31 v33 v34 v35 v4 u where
  wb := h.wb
  b0 := by simpa using h.b0
  b1 := by simpa using h.b1
  b2 := by simpa using h.b2
  b3 := by simpa using h.b3
  b4 := by simpa using h.b4
  b5 := by simpa using h.b5
  b6 := by simpa using h.b6
  b7 := fun _ => rfl
  b8 := by simpa using h.b8
  b9 := by simpa using h.b9
  b10 := by simpa using h.b10
  b11 := by simpa using h.b11
  b12 := by simpa using h.b12
  b13 := by simpa using h.b13
  b14 := by simpa using h.b14
theorem RedG.s8 (h : RedG i im nw wr f x22 x23 x24 x25 x26 x27 x28 x29 x30 x31 x32 x33 x34 x35 x4 v22 v23 v24 v25 v26 v28 v29 v30 v31 v33 v34 v35 v4 u) : RedG i im nw wr (fun k => decide (k = 8) || f k) x22 x23 x24 x25 x26 x27 x28 x29 v30 x31 x32 x33 x34 x35 x4 v22 v23 v24 v25 v26 v28 v29 v30 v31 v33 v34 v35 v4 u where
  wb := h.wb
  b0 := by simpa using h.b0
  b1 := by simpa using h.b1
  b2 := by simpa using h.b2
  b3 := by simpa using h.b3
  b4 := by simpa using h.b4
  b5 := by simpa using h.b5
  b6 := by simpa using h.b6
  b7 := by simpa using h.b7
  b8 := fun _ => rfl
  b9 := by simpa using h.b9
  b10 := by simpa using h.b10
  b11 := by simpa using h.b11
  b12 := by simpa using h.b12
  b13 := by simpa using h.b13
  b14 := by simpa using h.b14
theorem RedG.s9 (h : RedG i im nw wr f x22 x23 x24 x25 x26 x27 x28 x29 x30 x31 x32 x33 x34 x35 x4 v22 v23 v24 v25 v26 v28 v29 v30 v31 v33 v34 v35 v4 u) : RedG i im nw wr (fun k => decide (k = 9) || f k) x22 x23 x24 x25 x26 x27 x28 x29 x30 v31 x32 x33 x34 x35 x4 v22 v23 v24 v25 v26 v28 v29 v30 v31 v33 v34 v35 v4 u where
  wb := h.wb
  b0 := by simpa using h.b0
  b1 := by simpa using h.b1
  b2 := by simpa using h.b2
  b3 := by simpa using h.b3
  b4 := by simpa using h.b4
  b5 := by simpa using h.b5
  b6 := by simpa using h.b6
  b7 := by simpa using h.b7
  b8 := by simpa using h.b8
  b9 := fun _ => rfl
  b10 := by simpa using h.b10
  b11 := by simpa using h.b11
  b12 := by simpa using h.b12
  b13 := by simpa using h.b13
  b14 := by simpa using h.b14
theorem RedG.s10 (h : RedG i im nw wr f x22 x23 x24 x25 x26 x27 x28 x29 x30 x31 x32 x33 x34 x35 x4 v22 v23 v24 v25 v26 v28 v29 v30 v31 v33 v34 v35 v4 u) {u2 : World} (hb : Below u.heap.size u u2) {q : Nat} (hq : u.heap.size ≤ q) (hr : Row u2 q 3 [.int .i64 i]) : RedG i im nw wr (fun k => decide (k = 10) || f k) x22 x23 x24 x25 x26 x27 x28 x29 x30 x31 (.slice (some ⟨q, 0, none⟩) 1 1) x33 x34 x35 x4 v22 v23 v24 v25 v26 v28 v29 v30 v31 v33 v34 v35 v4 u2 where
  wb := h.wb.trans (hb.mono h.wb.size)
  b0 := by simpa using h.b0
  b1 := by simpa using h.b1
  b2 := by simpa using h.b2
  b3 := by simpa using h.b3
  b4 := by simpa using h.b4
  b5 := fun e => by
    obtain ⟨Bm, D, h1, h2, h3⟩ := h.b5 (by simpa using e)
    exact ⟨Bm, D, h1, h2.kept (row := none) ⟨hb.os, hb.tape, hb.output, hb.size, fun q hq _ => hb.block q hq⟩ (by simp), h3⟩
  b6 := by simpa using h.b6
  b7 := by simpa using h.b7
  b8 := by simpa using h.b8
  b9 := by simpa using h.b9
  b10 := fun _ => ⟨q, rfl, Nat.le_trans h.wb.size hq, hr⟩
  b11 := by simpa using h.b11
  b12 := by simpa using h.b12
  b13 := by simpa using h.b13
  b14 := by simpa using h.b14
theorem RedG.s11 (h : RedG i im nw wr f x22 x23 x24 x25 x26 x27 x28 x29 x30 x31 x32 x33 x34 x35 x4 v22 v23 v24 v25 v26 v28 v29 v30 v31 v33 v34 v35 v4 u) {u2 : World} (hb : Below u.heap.size u u2) : RedG i im nw wr (fun k => decide (k = 11) || f k) x22 x23 x24 x25 x26 x27 x28 x29 x30 x31 x32 v33 x34 x35 x4 v22 v23 v24 v25 v26 v28 v29 v30 v31 v33 v34 v35 v4 u2 where
  wb := h.wb.trans (hb.mono h.wb.size)
  b0 := by simpa using h.b0
  b1 := by simpa using h.b1
  b2 := by simpa using h.b2
  b3 := by simpa using h.b3
  b4 := by simpa using h.b4
  b5 := fun e => by
    obtain ⟨Bm, D, h1, h2, h3⟩ := h.b5 (by simpa using e)
    exact ⟨Bm, D, h1, h2.kept (row := none) ⟨hb.os, hb.tape, hb.output, hb.size, fun q hq _ => hb.block q hq⟩ (by simp), h3⟩
  b6 := by simpa using h.b6
  b7 := by simpa using h.b7
  b8 := by simpa using h.b8
  b9 := by simpa using h.b9
  b10 := fun e => by
    obtain ⟨q, h1, h2, h3⟩ := h.b10 (by simpa using e)
    exact ⟨q, h1, h2, h3.below hb h3.lt⟩
  b11 := fun _ => rfl
  b12 := by simpa using h.b12
  b13 := by simpa using h.b13
  b14 := by simpa using h.b14
theorem RedG.s12 (h : RedG i im nw wr f x22 x23 x24 x25 x26 x27 x28 x29 x30 x31 x32 x33 x34 x35 x4 v22 v23 v24 v25 v26 v28 v29 v30 v31 v33 v34 v35 v4 u) : RedG i im nw wr (fun k => decide (k = 12) || f k) x22 x23 x24 x25 x26 x27 x28 x29 x30 x31 x32 x33 v34 x35 x4 v22 v23 v24 v25 v26 v28 v29 v30 v31 v33 v34 v35 v4 u where
  wb := h.wb
  b0 := by simpa using h.b0
  b1 := by simpa using h.b1
  b2 := by simpa using h.b2
  b3 := by simpa using h.b3
  b4 := by simpa using h.b4
  b5 := by simpa using h.b5
  b6 := by simpa using h.b6
  b7 := by simpa using h.b7
  b8 := by simpa using h.b8
  b9 := by simpa using h.b9
  b10 := by simpa using h.b10
  b11 := by simpa using h.b11
  b12 := fun _ => rfl
  b13 := by simpa using h.b13
  b14 := by simpa using h.b14
theorem RedG.s13 (h : RedG i im nw wr f x22 x23 x24 x25 x26 x27 x28 x29 x30 x31 x32 x33 x34 x35 x4 v22 v23 v24 v25 v26 v28 v29 v30 v31 v33 v34 v35 v4 u) : RedG i im nw wr (fun k => decide (k = 13) || f k) x22 x23 x24 x25 x26 x27 x28 x29 x30 x31 x32 x33 x34 v35 x4 v22 v23 v24 v25 v26 v28 v29 v30 v31 v33 v34 v35 v4 u where
  wb := h.wb
  b0 := by simpa using h.b0
  b1 := by simpa using h.b1
  b2 := by simpa using h.b2
  b3 := by simpa using h.b3
  b4 := by simpa using h.b4
  b5 := by simpa using h.b5
  b6 := by simpa using h.b6
  b7 := by simpa using h.b7
  b8 := by simpa using h.b8
  b9 := by simpa using h.b9
  b10 := by simpa using h.b10
  b11 := by simpa using h.b11
  b12 := by simpa using h.b12
  b13 := fun _ => rfl
  b14 := by simpa using h.b14
theorem RedG.s14 (h : RedG i im nw wr f x22 x23 x24 x25 x26 x27 x28 x29 x30 x31 x32 x33 x34 x35 x4 v22 v23 v24 v25 v26 v28 v29 v30 v31 v33 v34 v35 v4 u) : RedG i im nw wr (fun k => decide (k = 14) || f k) x22 x23 x24 x25 x26 x27 x28 x29 x30 x31 x32 x33 x34 x35 v4 v22 v23 v24 v25 v26 v28 v29 v30 v31 v33 v34 v35 v4 u where
  wb := h.wb
  b0 := by simpa using h.b0
  b1 := by simpa using h.b1
  b2 := by simpa using h.b2
  b3 := by simpa using h.b3
  b4 := by simpa using h.b4
  b5 := by simpa using h.b5
  b6 := by simpa using h.b6
  b7 := by simpa using h.b7
  b8 := by simpa using h.b8
  b9 := by simpa using h.b9
  b10 := by simpa using h.b10
  b11 := by simpa using h.b11
  b12 := by simpa using h.b12
  b13 := by simpa using h.b13
  b14 := fun _ => rfl
end

theorem if_yes2 {c : Bool} {A B : Prop} (h : c = true) (ha : A) : if c = true then A else B := by rw [if_pos h]; exact ha

set_option maxRecDepth 100000 in
set_option maxHeartbeats 4000000 in
theorem implRed_any (lo hi : Nat) (sv cv : Value) (t : Ty) (i : Int) (w : World) (hv : TyAt w lo hi sv cv t) (hB : hi ≤ w.heap.size) (hi64 : I64 i) :
    Calls Try.prog 27 #[.agg #[sv, cv], .int .i64 i] w fun e w' => e = .returned (.bool (redV t i)) ∧ Below w.heap.size w w' := by
  obtain ⟨A, cap, rfl, hl1, hm1, hi1⟩ := hv.1.form
  obtain ⟨B, bap, rfl, hl2, hm2, hc1⟩ := hv.2.form
  have h3 : Below w.heap.size w (w.alloc (.cells #[.slice A t.sizes.length cap, .slice B t.cos.length bap] 30)) := by go_grown
  have hv3 := Lib.hid (hv.below h3 hB)
  have Hc1 := Lib.hid hc1
  have Hv := Lib.hid hv
  clear hv hc1 hi1
  go_enter Try.func27, Try.ntmps27
  go_wp2_with fail
  refine (hasCoercion_any lo hi _ _ t i _ hv3.out (by simp; omega)).mono ?_
  rintro e w1 ⟨rfl, hb1⟩
  have H1 := Lib.hid (box2 (hb1.mono (by simp)))
  obtain ⟨q0, q1, hl, _⟩ := box2 (hb1.mono (by simp))
  clear hb1
  by_cases hok : hasC t i = true
  · obtain ⟨hty, hi0, hi1, hlt⟩ := hasC_of hok
    have hfin : Hid (redV t i = redB t i.toNat t.cos[i.toNat]) := by show _ = _; unfold redV; rw [hok, Bool.true_and, getD_at hlt]
    have hcnt := red_count hty hlt
    have hco := coOk_of (hasC_co hok hlt)
    obtain ⟨b, off, A3, cap3, rfl, hlo, hhi, c0, c1, c2, h5, h6, hs, hd, hz⟩ := (Hc1.out.below H1.out.2.2.2 hB).at_ hlt
    have hway : (wayEnd t.cos t.cos[i.toNat].src [((i.toNat : Nat) : Int)]).isSome = true := by rw [waysOf_end (waysOf_one hty hlt)]; rfl
    have hiN : ((i.toNat : Nat) : Int) = i := by omega
    rw [hiN] at hcnt hway
    have htb : typesB t t.cos[i.toNat].src t.cos[i.toNat].dst = true := by
      unfold typesB
      rw [hty, ixB_yes hco.1 (by omega), ixB_yes (by omega) hco.2.2.1]; rfl
    generalize hcc : t.cos[i.toNat] = c at *
    have Htb := Lib.hid htb
    have Hcnt := Lib.hid hcnt
    have Hway := Lib.hid hway
    have Hty := Lib.hid hty
    have hbl : b < w1.heap.size := by omega
    rw [hok]
    clear hok htb hcnt hway hcc hco hz hty
    go_wp2_with fail
    obtain ⟨wr, hwr⟩ : ∃ u, u = ((w1.alloc (.cells #[.slice A t.sizes.length cap, .slice (some ⟨b, off, none⟩) t.cos.length bap] 85)).alloc (.cells #[.int .i64 c.src, .int .i64 c.dst, .slice A3 c.map.length cap3] 52)) := ⟨_, rfl⟩
    rw [← hwr]
    have hb1r : Below w1.heap.size w1 wr := by rw [hwr]; go_grown
    have hrf : Row wr w1.heap.size 85 [.slice A t.sizes.length cap, .slice (some ⟨b, off, none⟩) t.cos.length bap] := by rw [hwr]; exact (Row.new w1 _ _).alloc _
    have hrc : Row wr (w1.heap.size + 1) 52 [.int .i64 c.src, .int .i64 c.dst, .slice A3 c.map.length cap3] := by
      rw [hwr]
      have := Row.new (w1.alloc (.cells #[.slice A t.sizes.length cap, .slice (some ⟨b, off, none⟩) t.cos.length bap] 85)) 52 [.int .i64 c.src, .int .i64 c.dst, .slice A3 c.map.length cap3]
      rwa [World.size_alloc] at this
    have hlr := hb1r.size
    have hbw := H1.out.2.2.2.trans (hb1r.mono (by omega))
    have hcells : ∀ u, Below wr.heap.size wr u → u.cell? ⟨w1.heap.size + 1, 0, none⟩ = some (.int .i64 c.src) ∧ u.cell? ⟨w1.heap.size + 1, 1, none⟩ = some (.int .i64 c.dst) := fun u hu => by
      have r1 := hrc.below hu hrc.lt
      exact ⟨r1.cell 0, r1.cell 1⟩
    obtain ⟨hty, ha0, ha1, hb0, hb1⟩ := typesB_of Htb.out
    have hwm : ∀ u, Below wr.heap.size wr u → Calls Try.prog 75 #[.pointer (some ⟨w1.heap.size, 0, none⟩), .int .i64 c.src, .int .i64 c.dst] u fun e u2 => ∃ Bm D, e = .returned (.map (some Bm)) ∧ Below u.heap.size u u2 ∧
        u2.ownsMap Try.prog 89 (plainElem Try.prog 3) Bm (waysOf t c.src c.dst).length D ∧ Cnt ((waysOf t c.src c.dst).map (imgV t c.src)) D := fun u hu =>
      (waysMaking_any lo hi w1.heap.size _ _ t c.src c.dst u (Hv.out.below (hbw.trans (hu.mono hbw.size)) hB) (by have := hu.size; have := hbw.size; omega) (hrf.below hu hrf.lt) Htb.out).mono fun e u2 ⟨Bm, D, h1, h2, _, h4, h5⟩ => ⟨Bm, D, h1, h2, h4, h5⟩
    have hfour : Four (imgV t c.src [i]) := ⟨rfl, fun x hx => by
      simp only [imgV, List.mem_cons, List.not_mem_nil, or_false] at hx
      rcases hx with rfl | rfl | rfl | rfl <;> exact imgAt_wf Hty.out ha0 ha1 Hway.out⟩
    have himg : ∀ u, Below wr.heap.size wr u → ∀ g1, Row u g1 3 [.int .i64 i] → Calls Try.prog 76 #[.pointer (some ⟨w1.heap.size, 0, none⟩), .int .i64 c.src, .slice (some ⟨g1, 0, none⟩) 1 1] u fun e u2 => e = .returned (aggI (imgV t c.src [i])) ∧ Below u.heap.size u u2 := fun u hu g1 hr1 =>
      imagesBy_any lo hi 0 u.heap.size w1.heap.size _ _ _ t c.src [i] u (Hv.out.below (hbw.trans (hu.mono hbw.size)) hB) (by have := hu.size; have := hbw.size; omega)
        ((show Row u g1 3 ([i].map (Value.int .i64)) from hr1).ints (fun x hx => by simp only [List.mem_singleton] at hx; exact hx ▸ hi64) (Nat.zero_le _) hr1.lt (Nat.le_refl _) (by unfold maxLen; simp)) (Nat.le_refl _) (hrf.below hu hrf.lt) Hty.out ha0 ha1 Hway.out
    have hlook : ∀ (u : World) (Bm : Nat) (D : DataW Unit), u.ownsMap Try.prog 89 (plainElem Try.prog 3) Bm (waysOf t c.src c.dst).length D → Cnt ((waysOf t c.src c.dst).map (imgV t c.src)) D →
        (Instr.lookup 86 (.map (some Bm)) (aggI (imgV t c.src [i])) false).run Try.prog u = .ok (.int .i64 (cntI ((waysOf t c.src c.dst).map (imgV t c.src)) (imgV t c.src [i]))) u := fun u Bm D ho hc => by
      obtain ⟨c', hr, ha, _⟩ := ho.lookup_int keyedKey Try.underlying86 Try.underlying3 (zeroInt u) (key_of hfour)
      rw [hc.at_ _ hfour] at ha
      simp only [DataW.lit.injEq, Lit.int.injEq, true_and] at ha
      rw [ha]
      exact hr
    generalize hkk : aggI (imgV t c.src [i]) = key at himg hlook
    generalize hcn : cntI ((waysOf t c.src c.dst).map (imgV t c.src)) (imgV t c.src [i]) = cn at hlook Hcnt
    generalize him : (waysOf t c.src c.dst).map (imgV t c.src) = im at hlook hwm
    generalize hnw : (waysOf t c.src c.dst).length = nw at hlook hwm
    have Hbw := Lib.hid hbw
    have Hcells := Lib.hid hcells
    have Hwm := Lib.hid hwm
    have Himg := Lib.hid himg
    have Hlook := Lib.hid hlook
    clear hwr hb1r hrf hrc hbw hcells hwm himg hlook hkk hcn him hnw hfour c0 c1 c2 q0 q1
    refine wp_region_inv (by kernel_rfl) (fun f x u => ∃ x22 x23 x24 x25 x26 x27 x28 x29 x30 x31 x32 x33 x34 x35 x4, x = ⟨#[.agg #[.slice A t.sizes.length cap, .slice (some ⟨b, off, none⟩) t.cos.length bap], .int .i64 i, .pointer (some ⟨w.heap.size, 0, none⟩), undef, x4, .pointer (some ⟨w1.heap.size, 0, none⟩), .pointer (some ⟨w1.heap.size + 1, 0, none⟩), .agg #[.slice A t.sizes.length cap, .slice (some ⟨b, off, none⟩) t.cos.length bap], .int .i64 i, .bool true, .bool false, .agg #[.slice A t.sizes.length cap, .slice (some ⟨b, off, none⟩) t.cos.length bap], .agg #[.slice A t.sizes.length cap, .slice (some ⟨b, off, none⟩) t.cos.length bap], .pointer (some ⟨w1.heap.size, 0, none⟩), .pointer (some ⟨w1.heap.size, 0, none⟩), .pointer (some ⟨w1.heap.size, 0, none⟩), .pointer (some ⟨w1.heap.size, 0, none⟩), .pointer (some ⟨w1.heap.size, 1, none⟩), .slice (some ⟨b, off, none⟩) t.cos.length bap, .int .i64 i, .pointer (some ⟨b, off + i.toNat * 3, none⟩), .agg #[.int .i64 c.src, .int .i64 c.dst, .slice A3 c.map.length cap3], x22, x23, x24, x25, x26, x27, x28, x29, x30, x31, x32, x33, x34, x35], []⟩ ∧ RedG i im nw wr f x22 x23 x24 x25 x26 x27 x28 x29 x30 x31 x32 x33 x34 x35 x4 (.pointer (some ⟨w1.heap.size, 0, none⟩)) (.pointer (some ⟨w1.heap.size + 1, 0, none⟩)) (.int .i64 c.src) (.pointer (some ⟨w1.heap.size + 1, 1, none⟩)) (.int .i64 c.dst) (.pointer (some ⟨w1.heap.size, 0, none⟩)) (.pointer (some ⟨w1.heap.size + 1, 0, none⟩)) (.int .i64 c.src) (.int .i64 i) key (.int .i64 cn) (.bool (decide (1 < cn))) (.bool (decide (1 < cn))) u) (of_decide_eq_true (by kernel_rfl)) ⟨_, _, _, _, _, _, _, _, _, _, _, _, _, _, _, rfl, ⟨(Below.refl _ _).drew, nofun, nofun, nofun, nofun, nofun, nofun, nofun, nofun, nofun, nofun, nofun, nofun, nofun, nofun, nofun⟩⟩ ?_ ?_
    · rintro f x u q o ho hfi hdep ⟨x22, x23, x24, x25, x26, x27, x28, x29, x30, x31, x32, x33, x34, x35, x4, rfl, hF⟩
      have hil : q < 15 := by have := (Array.getElem?_eq_some_iff.1 ho).1; simpa using this
      obtain ⟨p2, p3⟩ := Hcells.out u hF.wb
      obtain rfl | rfl | rfl | rfl | rfl | rfl | rfl | rfl | rfl | rfl | rfl | rfl | rfl | rfl | rfl : q = 0 ∨ q = 1 ∨ q = 2 ∨ q = 3 ∨ q = 4 ∨ q = 5 ∨ q = 6 ∨ q = 7 ∨ q = 8 ∨ q = 9 ∨ q = 10 ∨ q = 11 ∨ q = 12 ∨ q = 13 ∨ q = 14 := by omega
      all_goals
        obtain rfl := Option.some.inj ho
        refine wpOp_step ho fun K hK => ?_
        simp [Region.binds] at hdep
        clear ho
      · refine if_yes2 rfl ?_
        have HF := Lib.hid hF
        clear hF
        unfold Oper.wp
        go_simp
        exact hK _ _ ⟨_, _, _, _, _, _, _, _, _, _, _, _, _, _, _, rfl, HF.out.s0⟩
      · refine if_yes2 rfl ?_
        have HF := Lib.hid hF
        clear hF
        unfold Oper.wp
        go_simp
        exact hK _ _ ⟨_, _, _, _, _, _, _, _, _, _, _, _, _, _, _, rfl, HF.out.s1⟩
      · have d1 : f 1 = true := by simp [hdep]
        obtain rfl := hF.b1 d1
        refine if_yes2 rfl ?_
        have HF := Lib.hid hF
        clear hF
        unfold Oper.wp
        go_simp
        exact hK _ _ ⟨_, _, _, _, _, _, _, _, _, _, _, _, _, _, _, rfl, HF.out.s2⟩
      · refine if_yes2 rfl ?_
        have HF := Lib.hid hF
        clear hF
        unfold Oper.wp
        go_simp
        exact hK _ _ ⟨_, _, _, _, _, _, _, _, _, _, _, _, _, _, _, rfl, HF.out.s3⟩
      · have d3 : f 3 = true := by simp [hdep]
        obtain rfl := hF.b3 d3
        refine if_yes2 rfl ?_
        have HF := Lib.hid hF
        clear hF
        unfold Oper.wp
        go_simp
        exact hK _ _ ⟨_, _, _, _, _, _, _, _, _, _, _, _, _, _, _, rfl, HF.out.s4⟩
      · have d0 : f 0 = true := by simp [hdep]
        have d2 : f 2 = true := by simp [hdep]
        have d4 : f 4 = true := by simp [hdep]
        obtain rfl := hF.b0 d0
        obtain rfl := hF.b2 d2
        obtain rfl := hF.b4 d4
        refine if_yes2 rfl ?_
        have HF := Lib.hid hF
        clear hF
        unfold Oper.wp
        go_simp
        refine (Hwm.out u HF.out.wb).mono ?_
        rintro e u2 ⟨Bm, D, rfl, hb9, ho9, hc9⟩
        exact hK _ _ ⟨_, _, _, _, _, _, _, _, _, _, _, _, _, _, _, rfl, HF.out.s5 hb9 ho9 hc9⟩
      · refine if_yes2 rfl ?_
        have HF := Lib.hid hF
        clear hF
        unfold Oper.wp
        go_simp
        exact hK _ _ ⟨_, _, _, _, _, _, _, _, _, _, _, _, _, _, _, rfl, HF.out.s6⟩
      · refine if_yes2 rfl ?_
        have HF := Lib.hid hF
        clear hF
        unfold Oper.wp
        go_simp
        exact hK _ _ ⟨_, _, _, _, _, _, _, _, _, _, _, _, _, _, _, rfl, HF.out.s7⟩
      · have d7 : f 7 = true := by simp [hdep]
        obtain rfl := hF.b7 d7
        refine if_yes2 rfl ?_
        have HF := Lib.hid hF
        clear hF
        unfold Oper.wp
        go_simp
        exact hK _ _ ⟨_, _, _, _, _, _, _, _, _, _, _, _, _, _, _, rfl, HF.out.s8⟩
      · refine if_yes2 rfl ?_
        have HF := Lib.hid hF
        clear hF
        unfold Oper.wp
        go_simp
        exact hK _ _ ⟨_, _, _, _, _, _, _, _, _, _, _, _, _, _, _, rfl, HF.out.s9⟩
      · have d9 : f 9 = true := by simp [hdep]
        obtain rfl := hF.b9 d9
        refine if_yes2 rfl ?_
        have HF := Lib.hid hF
        clear hF
        unfold Oper.wp
        go_simp
        exact hK _ _ ⟨_, _, _, _, _, _, _, _, _, _, _, _, _, _, _, rfl, HF.out.s10 ((Below.refl _ _).alloc (Nat.le_refl _) _) (Nat.le_refl _) (Row.new u 3 [.int .i64 i])⟩
      · have d6 : f 6 = true := by simp [hdep]
        have d8 : f 8 = true := by simp [hdep]
        have d10 : f 10 = true := by simp [hdep]
        obtain rfl := hF.b6 d6
        obtain rfl := hF.b8 d8
        obtain ⟨g1, rfl, hg1, hr1⟩ := hF.b10 d10
        refine if_yes2 rfl ?_
        have HF := Lib.hid hF
        have Hr1 := Lib.hid hr1
        clear hF hr1
        unfold Oper.wp
        go_simp
        refine (Himg.out u HF.out.wb g1 Hr1.out).mono ?_
        rintro e u2 ⟨rfl, hb9⟩
        exact hK _ _ ⟨_, _, _, _, _, _, _, _, _, _, _, _, _, _, _, rfl, HF.out.s11 hb9⟩
      · have d5 : f 5 = true := by simp [hdep]
        have d11 : f 11 = true := by simp [hdep]
        obtain ⟨Bm, D, rfl, ho5, hc5⟩ := hF.b5 d5
        have e11 := hF.b11 d11
        obtain rfl := e11
        refine if_yes2 rfl ?_
        have hrun := Hlook.out u Bm D ho5 hc5
        have HF := Lib.hid hF
        clear ho5 hc5
        clear hF
        unfold Oper.wp
        go_simp
        exact hK _ _ ⟨_, _, _, _, _, _, _, _, _, _, _, _, _, _, _, rfl, HF.out.s12⟩
      · have d12 : f 12 = true := by simp [hdep]
        obtain rfl := hF.b12 d12
        refine if_yes2 rfl ?_
        have HF := Lib.hid hF
        clear hF
        unfold Oper.wp
        go_simp
        exact hK _ _ ⟨_, _, _, _, _, _, _, _, _, _, _, _, _, _, _, rfl, HF.out.s13⟩
      · have d13 : f 13 = true := by simp [hdep]
        obtain rfl := hF.b13 d13
        refine if_yes2 rfl ?_
        have HF := Lib.hid hF
        clear hF
        unfold Oper.wp
        go_simp
        exact hK _ _ ⟨_, _, _, _, _, _, _, _, _, _, _, _, _, _, _, rfl, HF.out.s14⟩
    · rintro f x u hall ⟨x22, x23, x24, x25, x26, x27, x28, x29, x30, x31, x32, x33, x34, x35, x4, rfl, hF⟩
      obtain rfl := hF.b14 (hall 14 (by simp))
      have Hwb := Lib.hid (Hbw.out.trans (hF.wb.mono Hbw.out.size))
      clear hF hall
      go_wp2
      go_ret
      exact ⟨ret_bool (by rw [hfin.out, ← Hcnt.out]), Hwb.out⟩
  · have hokf : hasC t i = false := by simpa using hok
    have hfin : Hid (redV t i = false) := by show _ = _; unfold redV; rw [hokf, Bool.false_and]
    rw [hokf]
    clear hok hokf
    go_wp2
    go_ret
    exact ⟨ret_bool hfin.out.symm, H1.out.2.2.2⟩
end Go.Proofs.Ytokklaoldgdkaaa

