/-
  A region that draws its order inside a fence, by an invariant over what has been done; and Go's m[k]++ on a map of the call's own.
-/
import Derived.Test.YtokklaoldgdkaaaRinv
import Derived.OrdersIn
import Derived.Maps.OwnSet
import Derived.WideKeyEntry
namespace Go.Proofs.Ytokklaoldgdkaaa
open Go.RowKit

section
variable {F : Fence} {n : Nat} {P : Program} {ops : Array Oper} {Q : Exit → Act → World → Prop}

theorem wpAnyIn_inv (Inv : (Nat → Bool) → Act → World → Prop) (hd : ∀ i, ∀ (h : i < ops.size), ∀ e ∈ ops[i].after, Region.binds .any e = true → e.on < i)
    (hstep : ∀ (f : Nat → Bool) a w i o, ops[i]? = some o → f i = false → (∀ e ∈ o.after, Region.binds .any e = true → f e.on = true) → Inv f a w → wpOpIn F n P ops Q i (Inv fun k => decide (k = i) || f k) a w)
    (hend : ∀ f a w, (∀ k, k < ops.size → f k = true) → Inv f a w → Q .normal a w) :
    ∀ (fuel : Nat) (listed : Array Bool) (a : Act) (w : World), listed.size = ops.size → openCount listed.toList ≤ fuel → Inv (fun k => listed.getD k false) a w → wpAnyIn F n P .any ops Q fuel listed a w := by
  intro fuel
  induction fuel with
  | zero =>
    intro listed a w hs hf hI
    have hall := openCount_zero listed.toList (by omega)
    have hr : Region.ready .any ops listed = [] := by
      rw [List.eq_nil_iff_forall_not_mem]
      intro i hi
      obtain ⟨h1, h2, _⟩ := ready_of hi
      have hl : i < listed.size := by omega
      have h3 : listed[i] = false := by simpa [Array.getD, hl] using h2
      have h4 := hall listed[i] (by simp)
      rw [h3] at h4
      cases h4
    exact ⟨hr, hend _ a w (all_done hs hd hr) hI⟩
  | succ fuel ih =>
    intro listed a w hs hf hI
    refine ⟨fun hr => hend _ a w (all_done hs hd hr) hI, fun i hi => ?_⟩
    obtain ⟨h1, h2, o, ho, h3⟩ := ready_of hi
    have hl : i < listed.size := by omega
    have h4 : listed[i] = false := by simpa [Array.getD, hl] using h2
    refine wpOpIn_mono (fun a' w' hI' => ih (listed.setIfInBounds i true) a' w' (by simpa using hs) ?_ ?_) (hstep _ a w i o ho (by simp [Array.getD, hl, h4]) h3 hI)
    · have := openCount_set listed.toList i (by simp [hl, h4])
      simp only [Array.toList_setIfInBounds]
      omega
    · have e : (fun k => decide (k = i) || listed.getD k false) = fun k => (listed.setIfInBounds i true).getD k false := by
        funext k
        by_cases hk : k = i
        · subst hk
          simp [Array.getD, hl]
        · have hk' : ¬ i = k := fun h => hk h.symm
          by_cases hkl : k < listed.size
          · simp [Array.getD, hk, hk', hkl]
          · simp [Array.getD, hk, hkl]
      rw [← e]
      exact hI'

/-- A region that draws its order inside a fence, by an invariant over what has been done. -/
theorem wpIn_region_inv {id : Nat} {a : Act} {w : World} (hm : P.follows .mixedOrders = true) (Inv : (Nat → Bool) → Act → World → Prop) (hd : ∀ i, ∀ (h : i < ops.size), ∀ e ∈ ops[i].after, Region.binds .any e = true → e.on < i)
    (h0 : Inv (fun _ => false) a w.drew)
    (hstep : ∀ (f : Nat → Bool) a w i o, ops[i]? = some o → f i = false → (∀ e ∈ o.after, Region.binds .any e = true → f e.on = true) → Inv f a w → wpOpIn F n P ops Q i (Inv fun k => decide (k = i) || f k) a w)
    (hend : ∀ f a w, (∀ k, k < ops.size → f k = true) → Inv f a w → Q .normal a w) : (Code.region id ops true).wpIn F n P Q a w := by
  refine wpIn_region_any hm (wpAnyIn_inv Inv hd hstep hend _ _ a _ (by simp) ?_ ?_)
  · have key : ∀ n, openCount (List.replicate n false) = n := by
      intro n
      induction n with
      | zero => rfl
      | succ n ih => simp only [List.replicate_succ, openCount, ih]; simp; omega
    rw [Array.toList_replicate, key]
    exact Nat.le_refl _
  · have e : (fun k => (Array.replicate ops.size false).getD k false) = fun _ => false := by
      funext k
      by_cases hk : k < ops.size
      · simp [Array.getD, hk]
      · simp [Array.getD, hk]
    rw [e]
    exact h0
end

/-! ### m[k]++ in three operations: the element's look-up, the entry, the store into the entry -/
section
open Go.Maps Go.ChangeMaps Go.MapKept Go.WideShapes
open Go.WideElems (Fit rd rg pl rd_val elemAt)
open Go.WideMaps (KeyLaw)
variable {H : Type} {P : Program} {w : World} {t k e : TypeId} {b n : Nat} {D : DataW H}

theorem ownsMap_of_heap {R : Value → Option (DataW H × List MemPlace)} {w2 : World} (h : w.ownsMap P k R b n D) (hb : w2.heap[b]? = w.heap[b]?) : w2.ownsMap P k R b n D := by
  obtain ⟨es, clock, h1, F, hs, hD⟩ := h
  exact ⟨es, clock, hb.trans h1, F, hs, hD⟩

theorem own_entry (K : KeyLaw P k) (ht : P.underlying t = some (.map k e)) {q : IntKind} (he : P.underlying e = some (.int q)) (hz : ∀ u : World, (zeroValue e).run P u = .ok (.int q 0) u) (h : w.ownsMap P k (plainElem P e) b n D) (hn : n < maxLen) {key : Value} {kl : Lit} (hkey : keyOf P k key = some kl) :
    ∃ (v0 : Value) (st : Nat) (o1 : Obj), (Instr.mapEntry t (.map (some b)) key).run P w = .ok (.tuple #[v0, goInt st]) (setBlock w b o1) ∧
      (∀ w2 : World, w2.heap[b]? = some o1 → ∃ c, (Instr.lookup t (.map (some b)) key false).run P w2 = .ok (.int q c) w2 ∧ D.atKey kl (.lit (.int q 0)) = .lit (.int q c) ∧ (Lit.int q c).wf = true) ∧
      (∀ (w2 : World) (a : Int), (Lit.int q a).wf = true → w2.heap[b]? = some o1 → ∃ w3, (Instr.entryStore t (.map (some b)) (goInt st) (.int q a)).run P w2 = .ok () w3 ∧ w3.ownsMap P k (plainElem P e) b (n + 1) (D.put kl (.lit (.int q a))) ∧ w2.grownBy w3 (some b)) := by
  have Kd : Keyed P k := Keyed.of_law K
  have hw0 : (Lit.int q 0).wf = true := by cases q <;> decide
  have hOwn := h
  obtain ⟨es, clock, hb, F, hs, hD⟩ := h
  obtain ⟨v0, st, es1, clock1, hrun, hcase, hstore⟩ := Go.WideElems.entry_then_store K ht hz hb F hkey
  refine ⟨v0, st, .map es1 clock1, hrun, ?_, ?_⟩
  · intro w2 hw2
    -- what the entry's laying has left reads at the key as before
    have key1 : ∃ D1, (setBlock w b (.map es1 clock1)).ownsMap P k (plainElem P e) b (n + 1) D1 ∧ D1.atKey kl (.lit (.int q 0)) = D.atKey kl (.lit (.int q 0)) := by
      rcases K.find w hkey es.toList F.keys with ⟨h1, h2⟩ | ⟨j, e0, h1, h2, h3⟩
      · have hm : (Instr.mapEntry t (.map (some b)) key).run P w = .ok (.tuple #[.int q 0, goInt clock]) (setBlock w b (.map (es.push ⟨key, .int q 0, clock⟩) (clock + 1))) := by
          simp [Instr.mapEntry, run_underlying ht, MapKept.run_getObj_map hb, K.check w false hkey, h1, hz, MapKept.run_setObj_map _ hb, Result.andThen, setBlock]
        have hu : (Instr.mapUpdate t (.map (some b)) key (.int q 0)).run P w = .ok () (setBlock w b (.map (es.push ⟨key, .int q 0, clock⟩) (clock + 1))) := by
          simp [Instr.mapUpdate, run_underlying ht, MapKept.run_getObj_map hb, K.check w false hkey, h1, MapKept.run_setObj_map _ hb, Result.andThen, setBlock]
        obtain ⟨w', hr', ho', _⟩ := hOwn.update Kd ht hn hkey (plainElem_int he hw0)
        rw [hrun] at hm
        rw [hu] at hr'
        simp only [Result.ok.injEq] at hm hr'
        rw [hm.2]
        obtain ⟨_, hw'⟩ := hr'
        subst hw'
        refine ⟨_, ho', ?_⟩
        rw [Maps.atKey_put_same (hOwn.isMap) (Kd.key hkey)]
        have hnh : Maps.has D kl = false := by
          cases hh : Maps.has D kl with
          | false => rfl
          | true =>
            rw [hD] at hh
            obtain ⟨p, hp, hpk⟩ := List.any_eq_true.1 hh
            obtain ⟨x, hx, rfl⟩ := List.mem_map.1 ((sorted_perm _).mem_iff.1 hp)
            have hke := WideAt.sameKey_eq hpk
            obtain ⟨y, hy⟩ := F.reads x hx
            rw [Go.WideElems.rg_of hy] at hke
            have hky := Go.WideElems.rd_key hy
            rw [hke] at hky
            exact absurd (Kd.inj hky hkey) (h2 x hx)
        rw [Maps.atKey_of_not_has hnh]
      · have hj : es[j]? = some e0 := by simpa using h2
        have hsame : es.modify j (fun e => { e with key := key }) = es := by
          apply Array.ext'
          rw [Array.toList_modify, modify_eq_set _ _ _ _ h2]
          have : ({ e0 with key := key } : MapEntry) = e0 := by rw [← h3]
          rw [this]
          exact Go.WideElems.set_self _ _ _ h2
        have hm : (Instr.mapEntry t (.map (some b)) key).run P w = .ok (.tuple #[e0.val, goInt e0.born]) (setBlock w b (.map es clock)) := by
          simp [Instr.mapEntry, run_underlying ht, MapKept.run_getObj_map hb, K.check w false hkey, h1, hj, h3, K.stays w hkey, hsame, MapKept.run_setObj_map _ hb, Result.andThen, setBlock]
        rw [hrun] at hm
        simp only [Result.ok.injEq] at hm
        rw [hm.2]
        exact ⟨D, (ownsMap_of_heap hOwn ((heap_setBlock_same hb _).trans hb.symm)).mono (by omega), rfl⟩
    obtain ⟨D1, ho1, hat1⟩ := key1
    have ho2 : w2.ownsMap P k (plainElem P e) b (n + 1) D1 := ownsMap_of_heap ho1 (hw2.trans (heap_setBlock_same hb _).symm)
    obtain ⟨c, hc, hat, hwf⟩ := ho2.lookup_int Kd ht he (hz w2) hkey
    exact ⟨c, hc, hat1 ▸ hat, hwf⟩
  · intro w2 a hwa hw2
    obtain ⟨es', clock', hst, hup⟩ := hstore w2 (.int q a) hw2
    obtain ⟨w', hr', ho', _⟩ := hOwn.update Kd ht hn hkey (plainElem_int he hwa)
    rw [hup] at hr'
    simp only [Result.ok.injEq] at hr'
    obtain ⟨_, hw'⟩ := hr'
    subst hw'
    refine ⟨_, hst, ownsMap_of_heap ho' ((heap_setBlock_same hw2 _).trans (heap_setBlock_same hb _).symm), ⟨rfl, rfl, rfl, by simp [setBlock], fun i _ hi => heap_setBlock_other hw2 _ (fun e => hi (by rw [e]))⟩⟩
end
end Go.Proofs.Ytokklaoldgdkaaa
