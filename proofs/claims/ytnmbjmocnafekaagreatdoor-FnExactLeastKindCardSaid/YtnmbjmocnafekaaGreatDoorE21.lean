/-
  The contracts of the program's HeadOf, LiteralOf, sizeOf, SizeOf, depthOf, DepthOf.
  The contracts of the model's l6Call, HeadOf, LiteralOf.
  The contract of the model's l6Parts.
  A region that draws its order, each of whose operations sets one slot to one value: what holds by what has been done.
  A region that draws its order, some of whose operations, a chain, turn the world one after the other: what holds by what has been done.
  Small words for rows that grow.
  The contract of the model's l9Counts, for a literal.
-/
import Derived.Test.YtnmbjmocnafekaaGreatDoorE19
import Derived.Test.YtnmbjmocnafekaaGreatDoorE20
import Derived.Laws.DeepStrings4
import Derived.Test.YtnmbjmocnafekaaGreatDoorE12
import Derived.Test.YtnmbjmocnafekaaGreatDoorE1
import Derived.Test.YtnmbjmocnafekaaGreatDoorE8
import Derived.Test.YtnmbjmocnafekaaGreatDoorE2
import Derived.BigQuiet
namespace Go.Proofs.YtnmbjmocnafekaaGreatDoor
open Go.RowKit

def litP (l : List UInt8) : Int × Int × Bool := match parseT l with
  | some t => litT t
  | none => (0, 0, false)
theorem litP_some {l : List UInt8} {t : Tm} (h : parseT l = some t) : litP l = litT t := by unfold litP; rw [h]
theorem litP_none {l : List UInt8} (h : parseT l = none) : litP l = (0, 0, false) := by unfold litP; rw [h]
theorem litT_call {t : Tm} (h : isCallT t = true) : litT t = (0, 0, false) := by
  cases t with
  | lit k v => cases h
  | c0 n => rfl
  | c1 n a => rfl
  | c2 n a b => rfl

theorem sum_take_le : ∀ (l : List Nat) (k : Nat), (l.take k).sum ≤ l.sum
  | [], k => by simp
  | a :: l, 0 => by simp
  | a :: l, k + 1 => by have := sum_take_le l k; simp only [List.take_succ_cons, List.sum_cons]; omega
theorem foldl_max_le (l : List Nat) : ∀ {a b : Nat}, a ≤ b → l.foldl max a ≤ l.foldl max b := by
  induction l with
  | nil => intro a b h; exact h
  | cons x l ih => intro a b h; exact ih (by omega)
theorem foldl_max_ge (l : List Nat) : ∀ a : Nat, a ≤ l.foldl max a := by
  induction l with
  | nil => intro a; exact Nat.le_refl _
  | cons x l ih => intro a; exact Nat.le_trans (Nat.le_max_left a x) (ih _)
theorem max_take_le (l : List Nat) (k : Nat) : (l.take k).foldl max 0 ≤ l.foldl max 0 := by
  have h : l.foldl max 0 = (l.drop k).foldl max ((l.take k).foldl max 0) := by rw [← List.foldl_append, List.take_append_drop]
  rw [h]
  exact foldl_max_ge _ _
def numP (f : Tm → Nat) (l : List UInt8) : Int := match parseT l with
  | some t => (f t : Int)
  | none => -1
theorem numP_some (f : Tm → Nat) {l : List UInt8} {t : Tm} (h : parseT l = some t) : numP f l = f t := by unfold numP; rw [h]
theorem numP_none (f : Tm → Nat) {l : List UInt8} (h : parseT l = none) : numP f l = -1 := by unfold numP; rw [h]

end Go.Proofs.YtnmbjmocnafekaaGreatDoor

namespace Go.Proofs.YtnmbjmocnafekaaGreatDoor
open Go.RowKit

/-- The signs of a term that was read. -/
theorem term_signs {L : List UInt8} {t : Tm} (h : parseT L = some t) : ∃ a c r, L = a :: (if isCallT t = true then 40 else 58) :: c :: r ∧ (isCallT t = true → headT t = [a]) ∧ (∀ h, (str L)[0]'h = a) ∧ (∀ h, (str L)[1]'h = if isCallT t = true then 40 else 58) ∧ (∀ h, (str L)[2]'h = c) := by
  obtain ⟨ho, e, _⟩ := parseT_tmT.1 h
  obtain ⟨a, c, r, e2, e3⟩ := tmT_second ho
  rw [e2] at e
  subst e
  exact ⟨a, c, r, rfl, fun hc => (e3 hc).1, fun _ => rfl, fun _ => rfl, fun _ => rfl⟩

theorem lit_vals {L r : List UInt8} {a x c : UInt8} {k v : Int} (hL : L = a :: x :: c :: r) (h : parseT L = some (.lit k v)) : (a.toNat : Int) = 48 + k ∧ (c.toNat : Int) = 48 + v ∧ Dig k ∧ Dig v := by
  obtain ⟨ho, e, _⟩ := parseT_tmT.1 h
  have key : ∀ {z : Int}, Dig z → ((UInt8.ofNat (48 + z.toNat)).toNat : Int) = 48 + z := by
    intro z hz
    unfold Dig at hz
    rw [UInt8.toNat_ofNat', show (48 + z.toNat) % 2 ^ 8 = 48 + z.toNat by omega]
    omega
  have e' : L = [UInt8.ofNat (48 + k.toNat), 58, UInt8.ofNat (48 + v.toNat)] := e
  rw [hL] at e'
  injection e' with e1 e2
  injection e2 with e2 e3
  injection e3 with e3 e4
  exact ⟨by rw [e1]; exact key ho.1, by rw [e3]; exact key ho.2, ho.1, ho.2⟩

end Go.Proofs.YtnmbjmocnafekaaGreatDoor

namespace Go.Proofs.YtnmbjmocnafekaaGreatDoor
open Go.RowKit

theorem slice_str (s : ByteArray) (i j : Nat) (hij : i ≤ j) (hj : j ≤ s.size) (z y : Int) (hz : z = i) (hy : y = j) (w : World) : (Instr.slice 9 (.string s) (some (.int .i64 z)) (some (.int .i64 y)) none).run Tryz.prog w = .ok (.string (s.extract i j)) w := by
  subst hz; subst hy
  rw [run_slice_string_if w 9 s .i64 .i64 i j Tryz.underlying9]
  simp [hij, hj]
/-- The text from a part on. -/
def restT : List Tm → List UInt8
  | [] => []
  | [p] => tmT p ++ [41]
  | p :: p2 :: r => tmT p ++ 44 :: restT (p2 :: r)
theorem restT_cons (p : Tm) (r : List Tm) : restT (p :: r) = tmT p ++ (if r = [] then 41 else 44) :: restT r := by
  cases r with
  | nil => rfl
  | cons p2 r => rfl
theorem call_text {t : Tm} (hc : isCallT t = true) (hn : partsT t ≠ []) : ∃ n, tmT t = n :: 40 :: restT (partsT t) := by
  cases t with
  | lit k v => cases hc
  | c0 n => exact absurd rfl hn
  | c1 n a => exact ⟨n, by simp [tmT, partsT, restT]⟩
  | c2 n a b => exact ⟨n, by simp [tmT, partsT, restT]⟩
theorem call_zero {t : Tm} (hc : isCallT t = true) (hn : partsT t = []) : ∃ n, tmT t = [n, 40, 41] := by
  cases t with
  | lit k v => cases hc
  | c0 n => exact ⟨n, rfl⟩
  | c1 n a => cases hn
  | c2 n a b => cases hn
theorem below_own {w w' w'' : World} {N : Nat} {t : TypeId} {v : Value} {n : Nat} {xs : List Value} (hb : Below N w w') (ho : w'.ownsRow N t 1 v n xs) (hg : w'.grownBy w'' v.ownBlock) (hs : N ≤ w'.heap.size) : Below N w w'' :=
  hb.grown hg hs (fun j hj => by
    obtain ⟨_, ⟨e, _⟩ | ⟨g, cap3, cur, e, hg', _⟩⟩ := ho
    · rw [e] at hj; simp [Value.ownBlock] at hj
    · rw [e] at hj; simp [Value.ownBlock] at hj; omega)
def strV (ts : List Tm) : List Value := ts.map fun p => Value.string (str (tmT p))

set_option maxRecDepth 100000 in
set_option maxHeartbeats 4000000 in
theorem l6Parts_any (t : Tm) (ho : TmOk t) (hc : isCallT t = true) (w : World) (hm : (tmT t).length ≤ 1048576) :
    Calls Tryz.prog 89 #[.string (str (tmT t))] w fun e w' => ∃ v, e = .returned v ∧ Below w.heap.size w w' ∧ w'.ownsRow w.heap.size 9 1 v (partsT t).length (strV (partsT t)) := by
  obtain ⟨i0, hi0, hz0, hz1, hz2⟩ := info_parts (show (Tryz.prog.info? 9).map (fun i => (i.zero, i.size, i.bytes)) = some (some (.string ⟨#[]⟩), 1, 16) by kernel_rfl)
  have Hb0 : Hid (Below w.heap.size w (w.alloc (.cells #[] 9))) := (Below.refl _ _).alloc (Nat.le_refl _) _
  have Ho0 : Hid ((w.alloc (.cells #[] 9)).ownsRow w.heap.size 9 1 (.slice (some ⟨w.heap.size, 0, none⟩) 0 0) 0 []) := World.ownsRow_lit w #[] 0 (Nat.le_refl _) (by unfold maxLen; omega) rfl
  obtain ⟨ts, hts⟩ : ∃ ts, ts = partsT t := ⟨_, rfl⟩
  have h2 : ts.length ≤ 2 := by rw [hts]; exact partsT_two t
  obtain ⟨L, hLt⟩ : ∃ L, L = tmT t := ⟨_, rfl⟩
  rw [← hts, ← hLt]
  rw [← hLt] at hm
  have hsz := str_size L
  by_cases hn : ts = []
  · obtain ⟨nm, hL⟩ := call_zero hc (by rw [← hts]; exact hn)
    rw [← hLt] at hL
    have b1 : ∀ h, (str L)[1]'h = 40 := by subst hL; exact fun _ => rfl
    have b2 : ∀ h, (str L)[2]'h = 41 := by subst hL; exact fun _ => rfl
    have hl3 : L.length = 3 := by rw [hL]; rfl
    subst hn
    rw [hl3] at hsz
    clear hts hLt hL h2
    go_enter Tryz.func89, Tryz.ntmps89
    go_wp2_with fail
    go_loopw [3, 4] (fun o i wr => o = .slice (some ⟨w.heap.size, 0, none⟩) 0 0 ∧ i = .int .i64 2 ∧ Hid (Below w.heap.size w wr) ∧ Hid (wr.ownsRow w.heap.size 9 1 o 0 [])) (fun _ _ _ => 0)
    case atStart => exact ⟨rfl, rfl, Hb0.out, Ho0.out⟩
    case round =>
      obtain ⟨rfl, rfl, hb, hor⟩ := hrel
      go_wp2
      go_ret
      exact ⟨_, rfl, hb.out, hor.out⟩
  · obtain ⟨nm, hL⟩ := call_text hc (by rw [← hts]; exact hn)
    rw [← hLt, ← hts] at hL
    have hok : Hid (∀ p ∈ ts, TmOk p) := fun p hp => partsT_ok ho (by rw [← hts]; exact hp)
    have hpos : 0 < ts.length := List.length_pos_iff.2 hn
    have hl2 : 2 ≤ L.length := by rw [hL]; simp
    have hst : Hid (L[1]? = some 40 ∧ L.drop 2 = restT ts) := by show _ ∧ _; rw [hL]; exact ⟨rfl, rfl⟩
    clear hLt hL hn hts ho hc
    go_enter Tryz.func89, Tryz.ntmps89
    go_wp2_with fail
    go_loopw [3, 4] (fun o i wr => ∃ (k m : Nat) (c0 : UInt8), k ≤ ts.length ∧ m + 1 ≤ L.length ∧ i = .int .i64 ((m : Int) + 1) ∧ Hid (L[m]? = some c0) ∧ Hid (k = ts.length → c0 = 41) ∧ Hid (k < ts.length → c0 ≠ 41) ∧ Hid (L.drop (m + 1) = restT (ts.drop k)) ∧ Hid (Below w.heap.size w wr) ∧ Hid (wr.ownsRow w.heap.size 9 1 o k (strV (ts.take k)))) (fun _ i _ => L.length + 1 - (intOf i).toNat)
    case atStart => exact ⟨0, 1, 40, by omega, by omega, by go_num, hst.out.1, fun h => absurd h (by omega), fun _ => by decide, hst.out.2, Hb0.out, Ho0.out⟩
    case round =>
      clear Hb0 Ho0 hst
      obtain ⟨k, m, c0, hk, hmL, rfl, hm0, hend, hgo, hdr, hbr, hor⟩ := hrel
      have hbs := hbr.out.size
      have hb0 : ∀ h, (str L)[m]'h = c0 := fun h => by
        have h1 := cut_byte L m (by omega) h
        rw [h1]
        have h2 := hm0.out
        rw [List.getElem?_eq_getElem (by omega)] at h2
        exact Option.some.inj h2
      by_cases hkl : k < ts.length
      · have hne := hgo.out hkl
        have q0 : ((c0.toNat : Int) == 41) = decide (c0 = 41) := cut_eq c0 41
        rw [show decide (c0 = 41) = false by simpa using hne] at q0
        have n0 : ((c0.toNat : Int) != 41) = true := by simp only [bne, q0]; rfl
        have hdk : ts.drop k = ts[k] :: ts.drop (k + 1) := List.drop_eq_getElem_cons hkl
        have hokk := hok.out ts[k] (List.getElem_mem hkl)
        obtain ⟨c1, c1e⟩ : ∃ c1 : UInt8, c1 = if ts.drop (k + 1) = [] then 41 else 44 := ⟨_, rfl⟩
        have hdr2 : L.drop (m + 1) = tmT ts[k] ++ c1 :: restT (ts.drop (k + 1)) := by rw [hdr.out, hdk, restT_cons, c1e]
        have hpl := tmT_len hokk
        have hlen : m + 1 + (tmT ts[k]).length + 1 + (restT (ts.drop (k + 1))).length = L.length := by
          have h := congrArg List.length hdr2
          rw [List.length_drop, List.length_append, List.length_cons] at h
          omega
        obtain ⟨fc, fl, hfc, _, hfs⟩ := tmT_first hokk (c1 :: restT (ts.drop (k + 1)))
        obtain ⟨d', r', hd', by1, _⟩ := drop1 (L := L) (q := m + 1) (by omega)
        rw [hdr2, hfc] at hd'
        injection hd' with hd1 hd2
        subst hd1
        have hf41 : fc ≠ 41 := by rintro rfl; rcases hfs with h | h <;> exact absurd h (by decide)
        have q1 : ((fc.toNat : Int) == 41) = decide (fc = 41) := cut_eq fc 41
        rw [show decide (fc = 41) = false by simpa using hf41] at q1
        have n1 : ((fc.toNat : Int) != 41) = true := by simp only [bne, q1]; rfl
        obtain ⟨x, hx⟩ : ∃ x, x = m + 1 + (tmT ts[k]).length := ⟨_, rfl⟩
        have hE := end6_any L hm L.length (m + 1) wr (by omega) (by omega)
        have hEv : endZ L (endT L.length (L.drop (m + 1))) = (x : Int) := by
          rw [hdr2]
          unfold endT
          rw [rdTm_tmT L.length _ hokk (by omega)]
          show (L.length : Int) - ((c1 :: restT (ts.drop (k + 1))).length : Int) = _
          rw [List.length_cons]
          omega
        rw [hEv] at hE
        have HE : Hid (Calls Tryz.prog 129 #[.string (str L), .int .i64 ((m : Int) + 1)] wr fun e w' => e = .returned (.int .i64 x) ∧ w' = wr) := by show Calls _ _ _ _ _; exact hE
        have hss : Hid ((str L).extract (m + 1) x = str (tmT ts[k])) := by
          show _ = _
          rw [str_sub]
          unfold sub
          rw [hdr2, show x - (m + 1) = (tmT ts[k]).length by omega, List.take_left]
        have hx0 : Hid (L[x]? = some c1) := by
          show _ = _
          have h : L[x]? = (L.drop (m + 1))[(tmT ts[k]).length]? := by rw [List.getElem?_drop, hx]
          rw [h, hdr2, List.getElem?_append_right (Nat.le_refl _), Nat.sub_self]
          rfl
        have hxd : Hid (L.drop (x + 1) = restT (ts.drop (k + 1))) := by
          show _ = _
          have h : L.drop (x + 1) = (L.drop (m + 1)).drop ((tmT ts[k]).length + 1) := by rw [List.drop_drop]; congr 1; omega
          rw [h, hdr2, List.drop_append]
          simp
        have hc1 : Hid ((k + 1 = ts.length → c1 = 41) ∧ (k + 1 < ts.length → c1 ≠ 41)) := by
          show _ ∧ _
          constructor
          · intro h; rw [c1e, h, List.drop_length, if_pos rfl]
          · intro h; rw [c1e, if_neg (by intro hh; have := congrArg List.length hh; rw [List.length_drop] at this; simp at this; omega)]; decide
        have htk : Hid (strV (ts.take k) ++ [Value.string (str (tmT ts[k]))] = strV (ts.take (k + 1))) := by
          show _ = _
          rw [List.take_succ_eq_append_getElem hkl]
          unfold strV
          rw [List.map_append]
          rfl
        obtain ⟨pt, hpt⟩ : ∃ pt, pt = tmT ts[k] := ⟨_, rfl⟩
        rw [← hpt] at hss htk
        have hsl : ∀ w : World, (Instr.slice 9 (.string (str L)) (some (.int .i64 ((m : Int) + 1))) (some (.int .i64 x)) none).run Tryz.prog w = .ok (.string (str pt)) w := fun w => by rw [slice_str (str L) (m + 1) x (by omega) (by rw [hsz]; omega) ((m : Int) + 1) x (by omega) rfl w, hss.out]
        have hxx : m + 4 ≤ x ∧ x + 1 ≤ L.length := ⟨by omega, by omega⟩
        obtain ⟨hx1, hx2⟩ := hxx
        have hci : (m : Int) + 1 ≤ (x : Int) := by omega
        have hci2 : (x : Int) ≤ (L.length : Int) := by omega
        clear hdr2 hdr hdk hfc hd2 hE hEv hend hgo hm0 hpl hlen hokk hfs hne hf41 c1e hpt hx
        go_wp2_with fail
        refine HE.out.mono ?_
        rintro e w1 ⟨rfl, rfl⟩
        go_wp2_with (at_builtin; refine wpList_append_own _ rfl (.tmp 21) (.tmp 26) 47 rfl w.heap.size 9 i0 (.string ⟨#[]⟩) 1 16 Tryz.underlying47 hi0 hz0 hz1 hz2 rfl (by decide) _ _ _ rfl (hor.out.alloc _) ⟨w1.heap.size, 0, none⟩ 1 1 [.string (str pt)] rfl rfl ?c1 ?c2 ?c3 ?c4 ?c5 ?_)
        case c1 =>
          intro j u hj
          match j, hj with
          | 0, hj => simp at hj; subst hj; simp [Addr.add]
        case c2 => intro u hu; simp at hu; subst hu; rfl
        case c3 => unfold maxLen; omega
        case c4 => omega
        case c5 => simp; omega
        intro v2 w2 hown2 hgrow _
        have Hb2 := Lib.hid (below_own (hbr.out.alloc hbs _) (hor.out.alloc _) hgrow (by simp; omega))
        have Hown2 := Lib.hid hown2
        clear hown2 hgrow
        go_wp2
        go_roundw
        case rel => exact ⟨k + 1, x, c1, by omega, by omega, by go_num, hx0.out, hc1.out.1, hc1.out.2, hxd.out, Hb2.out, ownsRow_cast Hown2.out rfl htk.out⟩
        case measure => simp [intOf]; omega
      · have hke : k = ts.length := by omega
        have hce := hend.out hke
        have n0 : ((c0.toNat : Int) != 41) = false := by subst hce; rfl
        have htk : strV (ts.take k) = strV ts := by rw [hke, List.take_length]
        rw [htk, hke] at hor
        clear hgo hend hdr hm0
        go_wp2
        go_ret
        exact ⟨_, rfl, hbr.out, hor.out⟩
end Go.Proofs.YtnmbjmocnafekaaGreatDoor

namespace Go.Proofs.YtnmbjmocnafekaaGreatDoor
open Go.RowKit

theorem det_yes {c : Bool} {A B : Prop} (h : c = true) (ha : A) : if c = true then A else B := by rw [if_pos h]; exact ha
/-- Vs: what the slots hold in the end; xs: what they hold now; f: which operations have been done. -/
structure Det (N : Nat) (w0 : World) (Vs : List Value) (f : Nat → Bool) (xs : List Value) (u : World) : Prop where
  bel : Below N w0 u
  len : xs.length = Vs.length
  at_ : ∀ k, f k = true → xs[k]? = Vs[k]?
section
variable {N : Nat} {w0 u : World} {Vs xs : List Value} {f : Nat → Bool}
theorem Det.start (_hN : N ≤ w0.heap.size) (hl : xs.length = Vs.length) : Det N w0 Vs (fun _ => false) xs w0.drew :=
  ⟨(Below.refl _ _).drew, hl, fun k h => by cases h⟩
theorem Det.step (h : Det N w0 Vs f xs u) (i : Nat) {v : Value} (hv : Vs[i]? = some v) {u' : World} (hb : Below N u u') : Det N w0 Vs (fun k => decide (k = i) || f k) (xs.set i v) u' := by
  refine ⟨h.bel.trans hb, by rw [List.length_set]; exact h.len, fun k hk => ?_⟩
  by_cases e : k = i
  · subst e
    have hl : k < xs.length := by
      rw [h.len]
      exact (List.getElem?_eq_some_iff.1 hv).1
    rw [List.getElem?_set_self hl, hv]
  · rw [List.getElem?_set_ne (fun e' => e e'.symm)]
    exact h.at_ k (by simpa [e] using hk)
theorem Det.same (h : Det N w0 Vs f xs u) (i : Nat) {v : Value} (hv : Vs[i]? = some v) : Det N w0 Vs (fun k => decide (k = i) || f k) (xs.set i v) u := h.step i hv (Below.refl _ _)
theorem Det.get (h : Det N w0 Vs f xs u) (k : Nat) (hk : f k = true) {x v : Value} (hx : xs[k]? = some x) (hv : Vs[k]? = some v) : x = v := by
  have := h.at_ k hk
  rw [hx, hv] at this
  exact Option.some.inj this
theorem Det.all (h : Det N w0 Vs f xs u) {n : Nat} (hn : Vs.length = n) (hall : ∀ k, k < n → f k = true) : xs = Vs := by
  apply List.ext_getElem? fun k => ?_
  by_cases hk : k < n
  · exact h.at_ k (hall k hk)
  · rw [List.getElem?_eq_none (by rw [h.len]; omega), List.getElem?_eq_none (by omega)]
end
end Go.Proofs.YtnmbjmocnafekaaGreatDoor

namespace Go.Proofs.YtnmbjmocnafekaaGreatDoor
open Go.RowKit

/-- Each slot that has been set holds what it is to hold. -/
structure DetQ (Ps : List (Value → Prop)) (f : Nat → Bool) (xs : List Value) : Prop where
  len : xs.length = Ps.length
  at_ : ∀ k x P, f k = true → xs[k]? = some x → Ps[k]? = some P → P x
theorem DetQ.start {Ps : List (Value → Prop)} {xs : List Value} (h : xs.length = Ps.length) : DetQ Ps (fun _ => false) xs := ⟨h, fun _ _ _ h => by cases h⟩
theorem DetQ.step {Ps : List (Value → Prop)} {f : Nat → Bool} {xs : List Value} (h : DetQ Ps f xs) (i : Nat) {v : Value} {P : Value → Prop} (hP : Ps[i]? = some P) (hv : P v) : DetQ Ps (fun k => decide (k = i) || f k) (xs.set i v) := by
  refine ⟨by rw [List.length_set]; exact h.len, fun k x Q hk hx hQ => ?_⟩
  by_cases e : k = i
  · subst e
    have hl : k < xs.length := by rw [h.len]; exact (List.getElem?_eq_some_iff.1 hP).1
    rw [List.getElem?_set_self hl] at hx
    injection hx with hx
    subst hx
    rw [hP] at hQ
    injection hQ with hQ
    subst hQ
    exact hv
  · rw [List.getElem?_set_ne (fun e' => e e'.symm)] at hx
    exact h.at_ k x Q (by simpa [e] using hk) hx hQ
theorem DetQ.get {Ps : List (Value → Prop)} {f : Nat → Bool} {xs : List Value} (h : DetQ Ps f xs) (k : Nat) (hk : f k = true) {x : Value} {P : Value → Prop} (hx : xs[k]? = some x) (hP : Ps[k]? = some P) : P x := h.at_ k x P hk hx hP

/-- The operations cs are done one after the other; W j: what holds of the world behind the first j of them. -/
structure Ch (dn : Nat → Bool) (cs : List Nat) (W : Nat → World → Prop) (u : World) : Prop where
  ex : ∃ j, j ≤ cs.length ∧ (∀ i, ∀ (h : i < cs.length), dn cs[i] = decide (i < j)) ∧ W j u
section
variable {dn : Nat → Bool} {cs : List Nat} {W W' : Nat → World → Prop} {u u' : World}
theorem Ch.start (h : W 0 u) : Ch (fun _ => false) cs W u := ⟨0, Nat.zero_le _, fun i _ => by simp, h⟩
theorem Ch.other (h : Ch dn cs W u) (i : Nat) (hi : i ∉ cs) : Ch (fun k => decide (k = i) || dn k) cs W u := by
  obtain ⟨j, hj, hd, hw⟩ := h.ex
  refine ⟨j, hj, fun k hk => ?_, hw⟩
  have hne : cs[k] ≠ i := fun e => hi (by rw [← e]; exact List.getElem_mem hk)
  simp [hne, hd k hk]
theorem Ch.at_ (h : Ch dn cs W u) (j : Nat) (hj : j < cs.length) (hn : dn cs[j] = false) (hp : ∀ i, i + 1 = j → ∀ (hi : i < cs.length), dn cs[i] = true) : W j u := by
  obtain ⟨j0, hj0, hd, hw⟩ := h.ex
  have h1 := hd j hj
  rw [hn] at h1
  have h2 : ¬ j < j0 := by simpa using h1.symm
  have h3 : j0 = j := by
    cases j with
    | zero => omega
    | succ k =>
      have h4 := hd k (by omega)
      rw [hp k rfl (by omega)] at h4
      have h5 : k < j0 := by simpa using h4.symm
      omega
  rw [← h3]
  exact hw
theorem Ch.next (h : Ch dn cs W u) (j : Nat) (hj : j < cs.length) (hn : dn cs[j] = false) (hp : ∀ i, i + 1 = j → ∀ (hi : i < cs.length), dn cs[i] = true) (hnd : cs.Nodup) (hw' : W' (j + 1) u') : Ch (fun k => decide (k = cs[j]) || dn k) cs W' u' := by
  obtain ⟨j0, hj0, hd, hw⟩ := h.ex
  have h1 := hd j hj
  rw [hn] at h1
  have h2 : ¬ j < j0 := by simpa using h1.symm
  have h3 : j0 = j := by
    cases j with
    | zero => omega
    | succ k =>
      have h4 := hd k (by omega)
      rw [hp k rfl (by omega)] at h4
      have h5 : k < j0 := by simpa using h4.symm
      omega
  subst h3
  refine ⟨j0 + 1, by omega, fun i hi => ?_, hw'⟩
  by_cases e : i = j0
  · subst e; simp
  · have hne : cs[i] ≠ cs[j0] := fun e2 => e ((List.getElem_inj hnd).1 e2)
    simp only [hne, decide_false, Bool.false_or, hd i hi]
    have : (i < j0) ↔ (i < j0 + 1) := by omega
    simp [this]
theorem Ch.early (h : Ch dn cs W u) (m : Nat) (hm : m < cs.length) (hn : dn cs[m] = false) : ∃ j, j ≤ m ∧ W j u := by
  obtain ⟨j0, hj0, hd, hw⟩ := h.ex
  have h1 := hd m hm
  rw [hn] at h1
  have h2 : ¬ m < j0 := by simpa using h1.symm
  exact ⟨j0, by omega, hw⟩
theorem Ch.all (h : Ch dn cs W u) (hall : ∀ i, ∀ (h : i < cs.length), dn cs[i] = true) : W cs.length u := by
  obtain ⟨j0, hj0, hd, hw⟩ := h.ex
  have h3 : j0 = cs.length := by
    rcases Nat.lt_or_ge j0 cs.length with h' | h'
    · have h4 := hd j0 h'
      rw [hall j0 h'] at h4
      simp at h4
    · omega
  rw [← h3]
  exact hw
end
end Go.Proofs.YtnmbjmocnafekaaGreatDoor

namespace Go.Proofs.YtnmbjmocnafekaaGreatDoor
open Go.RowKit

theorem str_take6 (L : List UInt8) (j : Nat) : (str L).extract 0 j = str (L.take j) := by
  apply ByteArray.ext
  simp [str, ByteArray.data_extract, List.extract_eq_take_drop]
def AtB (b N : Nat) (v : Value) : Prop := ∀ g, v.ownBlock = some g → g = b ∨ N ≤ g
theorem AtB.push {w w' : World} {base : Nat} {e : TypeId} {v v' : Value} {n : Nat} {xs : List Value} {x : Value} {b N : Nat} (h : AtB b N v) (hp : Pushed w w' base e v v' n xs x) (hN : N ≤ w.heap.size) : AtB b N v' := by
  intro g hg
  rcases hp.at_ with e1 | ⟨g', e1, h1, _⟩
  · exact h g (e1 ▸ hg)
  · rw [e1] at hg
    injection hg with hg
    omega

theorem wrapDig {a : UInt8} {k : Int} (g : (a.toNat : Int) = 48 + k) (d : Dig k) : wrap64 (wrap64 (a.toNat : Int) - 48) = k := by
  unfold Dig at d
  unfold wrap64
  omega
section
variable {w w' : World} {base : Nat} {e : TypeId} {v v' : Value} {n : Nat} {xs : List Value} {x : Value}
theorem Pushed.apart (hp : Pushed w w' base e v v' n xs x) {u : Value} {N k : Nat} {t : TypeId} {ys : List Value} (ho : w.ownsRow N t 1 u k ys) (h : ∀ g, v.ownBlock = some g → u.ownBlock ≠ some g) : ∀ g, v'.ownBlock = some g → u.ownBlock ≠ some g := by
  intro g hg hu
  rcases hp.at_ with e1 | ⟨g', e1, h1, _⟩
  · exact h g (e1 ▸ hg) hu
  · rw [e1] at hg
    injection hg with hg
    have := (owns_lt ho g hu).2
    omega
theorem Pushed.other (hp : Pushed w w' base e v v' n xs x) {u : Value} {N k : Nat} {t : TypeId} {ys : List Value} (ho : w.ownsRow N t 1 u k ys) (h : ∀ g, v.ownBlock = some g → u.ownBlock ≠ some g) : w'.ownsRow N t 1 u k ys := by
  refine ho.kept hp.grown ?_
  cases hu : u.ownBlock with
  | none => exact .inl rfl
  | some g => exact .inr fun e => h g e.symm hu
theorem Pushed.mid (hp : Pushed w w' base e v v' n xs x) {u : World} {a b N : Nat} (hm : ∀ g, a ≤ g → g < N → w.heap[g]? = u.heap[g]?) (hN : N ≤ w.heap.size) (ha : AtB b N v) (hb : b < a) : ∀ g, a ≤ g → g < N → w'.heap[g]? = u.heap[g]? := by
  intro g h1 h2
  refine (hp.grown.block g (by omega) fun e => ?_).trans (hm g h1 h2)
  have := ha g e.symm
  omega
theorem Pushed.below (hp : Pushed w w' base e v v' n xs x) (ho : w.ownsRow base e 1 v n xs) {u : World} (hb : Below base u w) (hs : base ≤ w.heap.size) : Below base u w' :=
  hb.grown hp.grown hs fun j hj => (owns_lt ho j hj).1
end
end Go.Proofs.YtnmbjmocnafekaaGreatDoor

namespace Go.Proofs.YtnmbjmocnafekaaGreatDoor
open Go.RowKit

def rowV (f : Nat → Int) (n : Nat) : List Value := (List.range n).map fun i => Value.int .i64 (f i)
theorem rowV_len (f : Nat → Int) (n : Nat) : (rowV f n).length = n := by unfold rowV; simp
theorem rowV_at (f : Nat → Int) {n i : Nat} (h : i < n) : (rowV f n)[i]? = some (.int .i64 (f i)) := by
  unfold rowV
  rw [List.getElem?_map, List.getElem?_range h]
  rfl
theorem rowV_set (f : Nat → Int) (n j : Nat) (v : Int) : (rowV f n).set j (.int .i64 v) = rowV (fun i => if i = j then v else f i) n := by
  apply List.ext_getElem?
  intro i
  by_cases hi : i < n
  · rw [List.getElem?_set]
    by_cases e : j = i
    · subst e
      rw [if_pos rfl, rowV_len, if_pos hi, rowV_at _ hi]
      simp
    · rw [if_neg e, rowV_at _ hi, rowV_at _ hi]
      simp [Ne.symm e]
  · rw [List.getElem?_eq_none (by rw [List.length_set, rowV_len]; omega), List.getElem?_eq_none (by rw [rowV_len]; omega)]
theorem rowV_congr {f g : Nat → Int} {n : Nat} (h : ∀ i, i < n → f i = g i) : rowV f n = rowV g n := by
  unfold rowV
  apply List.map_congr_left
  intro i hi
  rw [h i (List.mem_range.1 hi)]
theorem rowV_zero (n : Nat) : List.replicate n (Value.int .i64 0) = rowV (fun _ => 0) n := by
  apply List.ext_getElem?
  intro i
  by_cases hi : i < n
  · rw [rowV_at _ hi, List.getElem?_replicate, if_pos hi]
  · rw [List.getElem?_eq_none (by simp; omega), List.getElem?_eq_none (by rw [rowV_len]; omega)]
/-- A block that holds the counts reads as their row. -/
theorem row_ints {w : World} {g : Nat} {y : Sy} {t : Tm} (h : Row w g 3 (rowV (fun i => ((cntT y t (i : Int) : Nat) : Int)) y.ty.sizes.length)) (hn : 0 < y.ty.sizes.length) (h5 : y.ty.sizes.length ≤ 5) {lo : Nat} (hlo : lo ≤ g) : IntsAt w lo w.heap.size (.slice (some ⟨g, 0, none⟩) y.ty.sizes.length y.ty.sizes.length) (rowT y t) := by
  refine ⟨_, _, by rw [rowT_len], by rw [rowT_len]; exact Nat.le_refl _, by unfold maxLen; omega, ?_, fun _ => ⟨g, 0, rfl, hlo, h.lt, fun k hk => ?_⟩⟩
  · intro z hz
    unfold rowT at hz
    obtain ⟨j, _, rfl⟩ := List.mem_map.1 hz
    have := cntT_le y t (j : Int)
    unfold I64
    omega
  · rw [rowT_len] at hk
    have hc := h.cell k
    rw [rowV_at _ hk] at hc
    rw [rowT_at y t hk, Nat.zero_add]
    exact hc

set_option maxRecDepth 100000 in
set_option maxHeartbeats 1000000 in
theorem l9Lit_any (lo hi : Nat) (sv cv fv : Value) (y : Sy) (hy : SyOk y) (k v : Int) (hok : TmOk (.lit k v)) (X : List UInt8) (hX : X = tmT (.lit k v)) (w : World) (hv : SyAt w lo hi sv cv fv y) (hB : hi ≤ w.heap.size) :
    Calls Tryz.prog 50 #[.agg #[sv, cv, fv], .string (str X)] w fun e w' => ∃ r, e = .returned r ∧ Below w.heap.size w w' ∧ IntsAt w' w.heap.size w'.heap.size r (rowT y (.lit k v)) := by
  obtain ⟨A1, cap1, rfl, _, _, _⟩ := hv.1.1.form
  obtain ⟨A2, cap2, rfl, _, _, _⟩ := hv.1.2.form
  obtain ⟨A3, cap3, rfl, _, _, _⟩ := hv.2.form
  obtain ⟨i0, hi0, hz0, hz1, hz2⟩ := info_parts Tryz.infoInt
  have hsz1 := sizesOk_of (tyOk_sizes hy.ty)
  have hn5 := hsz1.2.1
  have hn1 := hsz1.1
  have hX3 : X = [UInt8.ofNat (48 + k.toNat), 58, UInt8.ofNat (48 + v.toNat)] := hX
  have hX' := hok
  have hp := parseT_tmT.2 ⟨hok, hX, by rw [hX3]; simp⟩
  obtain ⟨g0, g2, d1, d2⟩ := lit_vals hX3 hp
  obtain ⟨a, ha⟩ : ∃ a, a = UInt8.ofNat (48 + k.toNat) := ⟨_, rfl⟩
  obtain ⟨c, hc⟩ : ∃ c, c = UInt8.ofNat (48 + v.toNat) := ⟨_, rfl⟩
  rw [← ha] at g0 hX3
  rw [← hc] at g2 hX3
  have ea := wrapDig g0 d1
  have ec := wrapDig g2 d2
  have hsz := str_size X
  have hl3 : X.length = 3 := by rw [hX3]; rfl
  have b0 : ∀ h, (str X)[0]'h = a := by rw [hX3]; exact fun _ => rfl
  have b1 : ∀ h, (str X)[1]'h = 58 := by rw [hX3]; exact fun _ => rfl
  have b2 : ∀ h, (str X)[2]'h = c := by rw [hX3]; exact fun _ => rfl
  rw [hl3] at hsz
  obtain ⟨W0, hW0⟩ : ∃ u, u = w.alloc (.cells #[.slice A1 y.ty.sizes.length cap1, .slice A2 y.ty.cos.length cap2, .slice A3 y.fs.length cap3] 36) := ⟨_, rfl⟩
  have h0s : W0.heap.size = w.heap.size + 1 := by rw [hW0]; simp
  have hb0 : Below w.heap.size w W0 := by rw [hW0]; exact (Below.refl _ _).alloc (Nat.le_refl _) _
  have p : Row W0 w.heap.size 36 [.slice A1 y.ty.sizes.length cap1, .slice A2 y.ty.cos.length cap2, .slice A3 y.fs.length cap3] := by rw [hW0]; exact Row.new _ _ _
  obtain ⟨W1, hW1⟩ : ∃ u, u = W0.alloc (.cells (List.replicate y.ty.sizes.length (Value.int .i64 0)).toArray 3) := ⟨_, rfl⟩
  have h1s : W1.heap.size = w.heap.size + 2 := by rw [hW1]; simp [h0s]
  have HB1 : Hid (Below w.heap.size w W1) := by show Below _ _ _; rw [hW1]; exact hb0.alloc (by omega) _
  have HP1 : Hid (Row W1 w.heap.size 36 [.slice A1 y.ty.sizes.length cap1, .slice A2 y.ty.cos.length cap2, .slice A3 y.fs.length cap3]) := by show Row _ _ _ _; rw [hW1]; exact p.alloc _
  have HQ1 : Hid (Row W1 (w.heap.size + 1) 3 (rowV (fun _ => 0) y.ty.sizes.length)) := by
    show Row _ _ _ _
    rw [hW1, ← h0s, ← rowV_zero]
    exact Row.new _ _ _
  have hmk : (Instr.makeSlice 22 (.int .i64 y.ty.sizes.length) (.int .i64 y.ty.sizes.length)).run Tryz.prog W0 = .ok (.slice (some ⟨w.heap.size + 1, 0, none⟩) y.ty.sizes.length y.ty.sizes.length) W1 := by
    have h := run_make (P := Tryz.prog) W0 22 3 i0 _ Tryz.underlying22 hi0 hz0 .i64 .i64 (y.ty.sizes.length : Int) (y.ty.sizes.length : Int) (by omega) (Int.le_refl _) (by rw [hz2]; omega) (by omega)
    simp only [Int.toNat_natCast, hz1, Nat.mul_one] at h
    have e : (Value.int .i64 0).cells = #[Value.int .i64 0] := rfl
    rw [e, madeCells_one, h0s, ← hW1] at h
    exact h
  have p0 := p.cell 0
  simp only [List.getElem?_cons_zero] at p0
  rw [hW0] at p0 hmk
  have HV := Lib.hid hv
  have HNX := Lib.hid hX'
  clear g0 g2 d1 d2 ha hc hX3 hp hX hX' hok hv hsz1 p hb0 hW1 hW0
  go_enter Tryz.func50, Tryz.ntmps50
  go_wp2_with fail
  clear p0 hmk
  go_quiet (fail)
  go_wp2_with fail
  clear b0 b1 b2
  rw [ea, ec]
  clear ea ec
  obtain ⟨W2, hW2⟩ : ∃ u, u = W1.drewN nq := ⟨_, rfl⟩
  have HB2 : Hid (Below w.heap.size w W2) := by show Below _ _ _; rw [hW2]; exact below_drewN HB1.out _
  have HP2 : Hid (Row W2 w.heap.size 36 [.slice A1 y.ty.sizes.length cap1, .slice A2 y.ty.cos.length cap2, .slice A3 y.fs.length cap3]) := by show Row _ _ _ _; rw [hW2]; exact HP1.out
  have HQ2 : Hid (Row W2 (w.heap.size + 1) 3 (rowV (fun _ => 0) y.ty.sizes.length)) := by show Row _ _ _ _; rw [hW2]; exact HQ1.out
  rw [← hW2]
  clear hW2 HB1 HP1 HQ1
  go_loopw [35] (fun ix wr => ∃ j : Nat, j ≤ y.ty.sizes.length ∧ ix = .int .i64 j ∧ Hid (Below w.heap.size w wr) ∧ Hid (Row wr w.heap.size 36 [.slice A1 y.ty.sizes.length cap1, .slice A2 y.ty.cos.length cap2, .slice A3 y.fs.length cap3]) ∧ Hid (Row wr (w.heap.size + 1) 3 (rowV (fun i => if i < j then ((cntT y (.lit k v) (i : Int) : Nat) : Int) else 0) y.ty.sizes.length))) (fun ix _ => y.ty.sizes.length - (intOf ix).toNat)
  case atStart => exact ⟨0, Nat.zero_le _, rfl, HB2.out, HP2.out, by show Row _ _ _ _; simpa using HQ2.out⟩
  case round =>
    obtain ⟨j, hj, rfl, hbr, hpr, hqr⟩ := hrel
    have hsr := hqr.out.lt
    have hsp := hpr.out.lt
    by_cases hjl : j < y.ty.sizes.length
    · have p0 := hpr.out.cell 0
      have p1 := hpr.out.cell 1
      simp only [List.getElem?_cons_zero, List.getElem?_cons_succ] at p0 p1
      have hjI : (j : Int) < (y.ty.sizes.length : Int) := by omega
      have HH := Lib.hid (l1Has_any lo hi _ _ y.ty k v wr (HV.out.below hbr.out hB).1 (by omega) (tyOk_sizes hy.ty))
      go_wp2_with fail
      refine HH.out.mono ?_
      rintro e w3 ⟨rfl, hb3⟩
      have hs3 := hb3.size
      have HB3 : Hid (Below w.heap.size w w3) := hbr.out.trans (hb3.mono (by omega))
      have HP3 : Hid (Row w3 w.heap.size 36 [.slice A1 y.ty.sizes.length cap1, .slice A2 y.ty.cos.length cap2, .slice A3 y.fs.length cap3]) := hpr.out.below hb3 hsp
      have HQ3 : Hid (Row w3 (w.heap.size + 1) 3 (rowV (fun i => if i < j then ((cntT y (.lit k v) (i : Int) : Nat) : Int) else 0) y.ty.sizes.length)) := hqr.out.below hb3 hsr
      clear hb3 HH p0 p1 hpr hqr hbr
      cases hh : hasV0 y.ty.sizes k v with
      | true =>
        have hk : 0 ≤ k ∧ k < y.ty.sizes.length := by
          unfold hasV0 ixB at hh
          simp only [Bool.and_eq_true, decide_eq_true_eq] at hh
          exact hh.1
        have HCN : Hid (capN (waysOf y.ty k (j : Int)).length = cntT y (.lit k v) (j : Int)) := by show _ = _; rw [cntT, if_pos hh]; rfl
        have HW := Lib.hid (l2Ways_any lo hi _ _ y.ty k (j : Int) w3 (HV.out.below HB3.out hB).1 (by omega) (by unfold typesB; rw [hy.ty, show ixB k y.ty.sizes.length = true by unfold ixB; exact decide_eq_true hk, show ixB (j : Int) y.ty.sizes.length = true by unfold ixB; exact decide_eq_true ⟨by omega, hjI⟩]; rfl))
        have p0 := HP3.out.cell 0
        have p1 := HP3.out.cell 1
        simp only [List.getElem?_cons_zero, List.getElem?_cons_succ] at p0 p1
        clear hh hk
        go_wp2_with fail
        refine HW.out.mono ?_
        rintro e w4 ⟨ov, rfl, hb4, xs, S, hov, -⟩
        obtain ⟨OA, OC, rfl⟩ := own_slice' hov
        have hs4 := hb4.size
        have HB4 : Hid (Below w.heap.size w w4) := HB3.out.trans (hb4.mono (by omega))
        have HP4 : Hid (Row w4 w.heap.size 36 [.slice A1 y.ty.sizes.length cap1, .slice A2 y.ty.cos.length cap2, .slice A3 y.fs.length cap3]) := HP3.out.below hb4 (by omega)
        have hq4 := HQ3.out.below hb4 (by omega)
        have HQ4 := Lib.hid hq4
        have cj := hq4.cell j
        rw [rowV_at _ hjl] at cj
        have fj := hq4.frozen j
        obtain ⟨WN, hWN⟩ : ∃ n, n = (waysOf y.ty k (j : Int)).length := ⟨_, rfl⟩
        rw [← hWN] at HCN ⊢
        clear HW p0 p1 hb4 hov hq4 hWN
        go_wp2
        go_roundw
        case rel =>
          refine ⟨j + 1, by omega, by go_num, HB4.out.setCell (by dsimp only; omega) _, HP4.out.keep (Below.heap_setCell _ _ _ _ (by dsimp only; omega)), ?_⟩
          have hset := HQ4.out.set_ j (.int .i64 (min (WN : Int) 151))
          rw [rowV_set, capI', HCN.out] at hset
          refine (show Row _ _ _ _ from ?_)
          rw [capI', HCN.out]
          rw [rowV_congr (g := fun i => if i < j + 1 then ((cntT y (.lit k v) (i : Int) : Nat) : Int) else 0)] at hset
          · exact hset
          · intro i hi
            by_cases e : i = j
            · subst e; simp
            · by_cases e2 : i < j
              · simp [e, e2, show i < j + 1 by omega]
              · simp [e, e2, show ¬ i < j + 1 by omega]
        case measure => simp [intOf]; omega
      | false =>
        have HZ : Hid (rowV (fun i => if i < j then ((cntT y (.lit k v) (i : Int) : Nat) : Int) else 0) y.ty.sizes.length = rowV (fun i => if i < j + 1 then ((cntT y (.lit k v) (i : Int) : Nat) : Int) else 0) y.ty.sizes.length) := by
          refine rowV_congr fun i _ => ?_
          have h0 : cntT y (.lit k v) (i : Int) = 0 := by rw [cntT, if_neg (by rw [hh]; decide)]
          rw [h0]
          simp
        clear hh
        go_wp2
        go_roundw
        case rel => exact ⟨j + 1, by omega, by go_num, HB3.out, HP3.out, by rw [← HZ.out]; exact HQ3.out⟩
        case measure => simp [intOf]; omega
    · obtain rfl : j = y.ty.sizes.length := by omega
      have HF : Hid (Row wr (w.heap.size + 1) 3 (rowV (fun i => ((cntT y (.lit k v) (i : Int) : Nat) : Int)) y.ty.sizes.length)) := by
        have h := hqr.out
        rw [rowV_congr (g := fun i => ((cntT y (.lit k v) (i : Int) : Nat) : Int)) (fun i hi => if_pos hi)] at h
        exact h
      clear hqr
      go_wp2
      try rw [Exit.noGoto_ret]
      refine bodyPost_ret (v := .slice (some ⟨w.heap.size + 1, 0, none⟩) y.ty.sizes.length y.ty.sizes.length) (by simp [results, Tryz.results50, go_sem]) rfl ?_
      exact ⟨_, rfl, hbr.out, row_ints HF.out (by omega) hn5 (by omega)⟩
end Go.Proofs.YtnmbjmocnafekaaGreatDoor

