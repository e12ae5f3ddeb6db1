/-
  The names in a term: as data (all of them, sorted, each once); plain data only.
-/
import Derived.Test.YtcecljolnknapaaDoorTmg
import Derived.Lib.Join
import Derived.Lib.SlicesCompact
namespace Go.Proofs.YtcecljolnknapaaDoor
open Go.RowKit

def nmsT : Tm → List UInt8
  | .lit _ _ => []
  | .c0 n => [n]
  | .c1 n a => n :: nmsT a
  | .c2 n a b => n :: (nmsT a ++ nmsT b)
def one (c : UInt8) : List UInt8 := [c]
theorem nmsT_len : ∀ t : Tm, (nmsT t).length ≤ (tmT t).length
  | .lit k v => by simp [nmsT]
  | .c0 n => by simp [nmsT, tmT]
  | .c1 n a => by have := nmsT_len a; simp [nmsT, tmT]; omega
  | .c2 n a b => by have := nmsT_len a; have := nmsT_len b; simp [nmsT, tmT]; omega
theorem nmsT_mem : ∀ (t : Tm), TmOk t → ∀ c, c ∈ nmsT t ↔ (isN c = true ∧ c ∈ tmT t)
  | .lit k v, h, c => by
    have e : tmT (.lit k v) = [UInt8.ofNat (48 + k.toNat), 58, UInt8.ofNat (48 + v.toNat)] := rfl
    have h1 := (isD_dg h.1).1
    have h2 := (isD_dg h.2).1
    rw [e]
    constructor
    · intro hc; cases hc
    · rintro ⟨hn, hc⟩
      exfalso
      simp only [List.mem_cons, List.not_mem_nil, or_false] at hc
      rcases hc with rfl | rfl | rfl
      · rw [isN_not h1] at hn; cases hn
      · exact absurd hn (by decide)
      · rw [isN_not h2] at hn; cases hn
  | .c0 n, h, c => by
    have hn : isN n = true := h
    simp only [nmsT, tmT, List.mem_cons, List.not_mem_nil, or_false]
    constructor
    · rintro rfl; exact ⟨hn, .inl rfl⟩
    · rintro ⟨hc, rfl | rfl | rfl⟩
      · rfl
      · exact absurd hc (by decide)
      · exact absurd hc (by decide)
  | .c1 n a, h, c => by
    have ih := nmsT_mem a h.2 c
    simp only [nmsT, tmT, List.mem_cons, List.mem_append, List.not_mem_nil, or_false, ih]
    constructor
    · rintro (rfl | ⟨h1, h2⟩)
      · exact ⟨h.1, .inl (.inl (.inl rfl))⟩
      · exact ⟨h1, .inl (.inr h2)⟩
    · rintro ⟨hc, ((rfl | rfl) | h2) | rfl⟩
      · exact .inl rfl
      · exact absurd hc (by decide)
      · exact .inr ⟨hc, h2⟩
      · exact absurd hc (by decide)
  | .c2 n a b, h, c => by
    have ih := nmsT_mem a h.2.1 c
    have ih2 := nmsT_mem b h.2.2 c
    simp only [nmsT, tmT, List.mem_cons, List.mem_append, List.not_mem_nil, or_false, ih, ih2]
    constructor
    · rintro (rfl | ⟨h1, h2⟩ | ⟨h1, h2⟩)
      · exact ⟨h.1, .inl (.inl (.inl (.inl (.inl rfl))))⟩
      · exact ⟨h1, .inl (.inl (.inl (.inr h2)))⟩
      · exact ⟨h1, .inl (.inr h2)⟩
    · rintro ⟨hc, ((((rfl | rfl) | h2) | rfl) | h2) | rfl⟩
      · exact .inl rfl
      · exact absurd hc (by decide)
      · exact .inr (.inl ⟨hc, h2⟩)
      · exact absurd hc (by decide)
      · exact .inr (.inr ⟨hc, h2⟩)
      · exact absurd hc (by decide)

abbrev Up (l : List UInt8) : Prop := l.Pairwise fun a b => a.toNat < b.toNat
/-- Rising lists with the same members are the same. -/
theorem up_ext : ∀ {l1 l2 : List UInt8}, Up l1 → Up l2 → (∀ c, c ∈ l1 ↔ c ∈ l2) → l1 = l2
  | [], [], _, _, _ => rfl
  | [], b :: l2, _, _, h => by have := (h b).2 (by simp); cases this
  | a :: l1, [], _, _, h => by have := (h a).1 (by simp); cases this
  | a :: l1, b :: l2, h1, h2, h => by
    have g1 := List.pairwise_cons.1 h1
    have g2 := List.pairwise_cons.1 h2
    have hab : a = b := by
      rcases List.mem_cons.1 ((h a).1 (by simp)) with e | e
      · exact e
      · rcases List.mem_cons.1 ((h b).2 (by simp)) with e2 | e2
        · exact e2.symm
        · have := g2.1 a e
          have := g1.1 b e2
          omega
    subst hab
    congr 1
    refine up_ext g1.2 g2.2 fun c => ⟨fun hc => ?_, fun hc => ?_⟩
    · rcases List.mem_cons.1 ((h c).1 (List.mem_cons_of_mem _ hc)) with e | e
      · subst e; have := g1.1 c hc; omega
      · exact e
    · rcases List.mem_cons.1 ((h c).2 (List.mem_cons_of_mem _ hc)) with e | e
      · subst e; have := g2.1 c hc; omega
      · exact e
theorem one_le (a b : UInt8) : decide (a.toNat ≤ b.toNat) = decide (one a ≤ one b) := by
  apply decide_eq_decide.2
  unfold one
  rw [List.cons_le_cons_iff]
  constructor
  · intro h
    by_cases e : a = b
    · exact .inr ⟨e, List.nil_le _⟩
    · exact .inl (UInt8.lt_iff_toNat_lt.2 (by have : a.toNat ≠ b.toNat := fun h => e (UInt8.toNat_inj.1 h); omega))
  · rintro (h | ⟨rfl, _⟩)
    · have := UInt8.lt_iff_toNat_lt.1 h; omega
    · omega
def srt (ns : List UInt8) : List UInt8 := ns.mergeSort fun a b => decide (a.toNat ≤ b.toNat)
theorem srt_map (ns : List UInt8) : (ns.map one).mergeSort (fun x y => decide (x ≤ y)) = (srt ns).map one :=
  (List.map_mergeSort fun a _ b _ => one_le a b).symm
theorem srt_mem (ns : List UInt8) (c : UInt8) : c ∈ srt ns ↔ c ∈ ns := List.mem_mergeSort
theorem srt_len (ns : List UInt8) : (srt ns).length = ns.length := List.length_mergeSort _
theorem srt_up (ns : List UInt8) : (srt ns).Pairwise fun a b => a.toNat ≤ b.toNat := by
  have h := List.pairwise_mergeSort (le := fun a b : UInt8 => decide (a.toNat ≤ b.toNat)) (fun a b c h1 h2 => by simp at h1 h2 ⊢; omega) (fun a b => by simp; omega) ns
  exact h.imp fun h => by simpa using h
/-- What Compact leaves of a sorted row of names. -/
theorem compact_up {ds : List UInt8} (hs : ds.Pairwise fun a b => a.toNat ≤ b.toNat) : ∀ m, m ≤ ds.length → ∃ us : List UInt8, Lib.compactUpTo (ds.map one).toArray m = us.map one ∧ Up us ∧ ∀ c, c ∈ us ↔ c ∈ ds.take m
  | 0, _ => ⟨[], by simp [Lib.compactUpTo], List.Pairwise.nil, fun c => by simp⟩
  | m + 1, hm => by
    obtain ⟨us, h1, h2, h3⟩ := compact_up hs m (by omega)
    have hget : ∀ j, ∀ hj : j < ds.length, (ds.map one).toArray[j]! = one ds[j] := fun j hj => by simp [hj]
    have hle : ∀ i j, ∀ (hi : i < ds.length) (hj : j < ds.length), i ≤ j → ds[i].toNat ≤ ds[j].toNat := fun i j hi hj hij => by
      by_cases e : i = j
      · subst e; omega
      · exact List.pairwise_iff_getElem.1 hs i j hi hj (by omega)
    rw [Lib.compactUpTo_succ, h1, hget m (by omega)]
    by_cases hk : Lib.keeps (ds.map one).toArray m = true
    · refine ⟨us ++ [ds[m]], by rw [if_pos hk, List.map_append]; rfl, ?_, fun c => ?_⟩
      · rw [Up, List.pairwise_append]
        refine ⟨h2, List.pairwise_singleton _ _, fun a ha b hb => ?_⟩
        simp only [List.mem_singleton] at hb
        subst hb
        obtain ⟨i, hi, rfl⟩ := List.getElem_of_mem ((h3 a).1 ha)
        rw [List.length_take] at hi
        rw [List.getElem_take]
        have hm0 : 0 < m := by omega
        have hne : ds[m] ≠ ds[m - 1] := by
          intro e
          have : Lib.keeps (ds.map one).toArray m = false := Lib.keeps_neg hm0 (by rw [hget m (by omega), hget (m - 1) (by omega), e])
          rw [this] at hk
          cases hk
        have g1 := hle i (m - 1) (by omega) (by omega) (by omega)
        have g2 := hle (m - 1) m (by omega) (by omega) (by omega)
        have g3 : ds[m].toNat ≠ ds[m - 1].toNat := fun e => hne (UInt8.toNat_inj.1 e)
        omega
      · rw [List.mem_append, h3 c, List.take_succ_eq_append_getElem (by omega), List.mem_append]
    · have hm0 : 0 < m := by
        rcases Nat.eq_zero_or_pos m with e | e
        · subst e; exact absurd (Lib.keeps_lt_one _ 0 (by omega)) hk
        · exact e
      have he : ds[m] = ds[m - 1] := by
        have : ¬ (ds.map one).toArray[m]! ≠ (ds.map one).toArray[m - 1]! := fun h => hk (Lib.keeps_pos h)
        rw [hget m (by omega), hget (m - 1) (by omega)] at this
        have h' : one ds[m] = one ds[m - 1] := Classical.byContradiction this
        unfold one at h'
        injection h'
      refine ⟨us, by rw [if_neg hk, List.append_nil], h2, fun c => ?_⟩
      rw [h3 c, List.take_succ_eq_append_getElem (by omega), List.mem_append, List.mem_singleton]
      constructor
      · exact .inl
      · rintro (h | rfl)
        · exact h
        · rw [he]
          exact List.mem_take_iff_getElem.2 ⟨m - 1, by omega, rfl⟩
theorem join_none : ∀ us : List UInt8, Lib.join (us.map one) [] = us
  | [] => rfl
  | c :: us => by
    rw [List.map_cons, Lib.join_cons]
    have : ∀ us : List UInt8, Lib.joinTail [] (us.map one) = us := by
      intro us
      induction us with
      | nil => rfl
      | cons c us ih => simpa [Lib.joinTail, one] using ih
    rw [this]
    rfl
def letters : List UInt8 := [102, 103, 104, 105, 106, 107]
/-- The names in a text, if it is a term. -/
def nmV (L : List UInt8) : List UInt8 := if (parseT L).isSome = true then letters.filter fun c => decide (c ∈ L) else []
theorem letters_mem (c : UInt8) : c ∈ letters ↔ isN c = true := by
  constructor
  · intro h
    simp only [letters, List.mem_cons, List.not_mem_nil, or_false] at h
    rcases h with rfl | rfl | rfl | rfl | rfl | rfl <;> decide
  · intro h
    have h := isN_of h
    have key : c.toNat = 102 ∨ c.toNat = 103 ∨ c.toNat = 104 ∨ c.toNat = 105 ∨ c.toNat = 106 ∨ c.toNat = 107 := by omega
    have conv : ∀ d : UInt8, c.toNat = d.toNat → c = d := fun d h => UInt8.toNat_inj.1 h
    simp only [letters, List.mem_cons, List.not_mem_nil, or_false]
    rcases key with h | h | h | h | h | h
    · exact .inl (conv 102 h)
    · exact .inr (.inl (conv 103 h))
    · exact .inr (.inr (.inl (conv 104 h)))
    · exact .inr (.inr (.inr (.inl (conv 105 h))))
    · exact .inr (.inr (.inr (.inr (.inl (conv 106 h)))))
    · exact .inr (.inr (.inr (.inr (.inr (conv 107 h)))))
theorem names_same {L : List UInt8} {t : Tm} (h : parseT L = some t) : Lib.join (Lib.compact ((nmsT t).map one |>.mergeSort fun x y => decide (x ≤ y))) [] = nmV L := by
  obtain ⟨ho, e, _⟩ := parseT_tmT.1 h
  rw [srt_map]
  obtain ⟨us, h1, h2, h3⟩ := compact_up (srt_up (nmsT t)) (srt (nmsT t)).length (Nat.le_refl _)
  have hc : Lib.compact ((srt (nmsT t)).map one) = us.map one := by
    unfold Lib.compact
    rw [List.length_map]
    exact h1
  rw [hc, join_none]
  unfold nmV
  rw [h, if_pos (show (some t).isSome = true from rfl)]
  refine up_ext h2 ?_ fun c => ?_
  · refine List.Pairwise.filter _ ?_
    unfold letters
    decide
  · rw [h3 c, List.take_length, srt_mem, nmsT_mem t ho, List.mem_filter, letters_mem, decide_eq_true_eq, e]
theorem nmV_lit {L : List UInt8} {k v : Int} (h : parseT L = some (.lit k v)) : nmV L = [] := by
  rw [← names_same h]
  show Lib.join (Lib.compact (([] : List (List UInt8)).mergeSort fun x y => decide (x ≤ y))) [] = []
  rw [List.mergeSort_nil]
  rfl
end Go.Proofs.YtcecljolnknapaaDoor
