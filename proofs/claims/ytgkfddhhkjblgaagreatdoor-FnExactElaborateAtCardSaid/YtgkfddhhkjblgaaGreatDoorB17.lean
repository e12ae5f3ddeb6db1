/-
  The contracts of the program's TermValid, readCall, HeadOf, LiteralOf, sizeOf, SizeOf, depthOf, DepthOf.
  The contracts of the program's HeadOf, LiteralOf, sizeOf, SizeOf, depthOf, DepthOf.
  The contracts of the model's l6Call, HeadOf, LiteralOf.
  The contract of the model's l6Parts.
  The contracts of the model's l7Asked, and of Elaborate where l7Make's is given.
  What a table of results gives, as plain data; the contract of the program's resultTable.result.
  The contract of the program's caller: a function value that has a table of its own.
  The contract of the program's CallFunction.
  The values of explicit terms, and their parts in the order in which they are had; plain data only.
-/
import Derived.Test.YtgkfddhhkjblgaaGreatDoorB16
import Derived.Test.YtgkfddhhkjblgaaGreatDoorB14
import Derived.Laws.DeepStrings4
import Derived.Test.YtgkfddhhkjblgaaGreatDoorB13
import Derived.Test.YtgkfddhhkjblgaaGreatDoorB6
import Derived.Test.YtgkfddhhkjblgaaGreatDoorB4
import Derived.Test.YtgkfddhhkjblgaaGreatDoorB10
import Derived.Test.YtgkfddhhkjblgaaGreatDoorB8
import Derived.Deep.AppendLies
import Derived.Test.YtgkfddhhkjblgaaGreatDoorB5
namespace Go.Proofs.YtgkfddhhkjblgaaGreatDoor
open Go.RowKit

/-- A call's node, open. -/
theorem NodeAt.open {w : World} {B : Nat} {t : Tm} {o : Value} (h : NodeAt w B t o) (hc : isCallT t = true) : ∃ ps vs, o = .iface 148 (.agg #[.string (str (headT t)), ps]) ∧ w.ownsRow B 85 1 ps (partsT t).length vs ∧ NodesAt w B (partsT t) vs := by
  cases t with
  | lit k v => cases hc
  | c0 n => obtain ⟨ps, e, h⟩ := h; exact ⟨ps, [], e, h, trivial⟩
  | c1 n a => obtain ⟨ps, v, e, h, g⟩ := h; exact ⟨ps, [v], e, h, g, trivial⟩
  | c2 n a b => obtain ⟨ps, v, v2, e, h, g, g2⟩ := h; exact ⟨ps, [v, v2], e, h, g, g2, trivial⟩
theorem NodeAt.lit {w : World} {B : Nat} {t : Tm} {o : Value} (h : NodeAt w B t o) (hc : isCallT t = false) : ∃ k v, t = .lit k v ∧ o = .iface 145 (.agg #[.int .i64 k, .int .i64 v]) := by
  cases t with
  | lit k v => exact ⟨k, v, rfl, h⟩
  | c0 n => cases hc
  | c1 n a => cases hc
  | c2 n a b => cases hc
theorem NodesAt.at {w : World} {B : Nat} : ∀ {ts : List Tm} {vs : List Value}, NodesAt w B ts vs → ∀ i, ∀ (h1 : i < ts.length), ∃ v, vs[i]? = some v ∧ NodeAt w B ts[i] v
  | t :: ts, v :: vs, ⟨h, g⟩, i, h1 => by
    cases i with
    | zero => exact ⟨v, rfl, h⟩
    | succ i => exact g.at i (by simpa using h1)
/-- What a row gives a walk. -/
theorem own_cells {w : World} {N : Nat} {t : TypeId} {A : Option Addr} {n n' cap : Nat} {xs : List Value} (h : w.ownsRow N t 1 (.slice A n' cap) n xs) (h0 : 0 < n) : ∃ g, A = some ⟨g, 0, none⟩ ∧ N ≤ g ∧ g < w.heap.size ∧ n ≤ cap ∧ ∀ j, j < n → w.cell? ⟨g, j, none⟩ = xs[j]? := by
  obtain ⟨_, ⟨_, e⟩ | ⟨g, cap', cur, e, hg, hh, hc1, hc2, hcs, htake⟩⟩ := h
  · omega
  · injection e with e1 e2 e3
    subst e1; subst e2; subst e3
    refine ⟨g, rfl, hg, ?_, hc1, fun j hj => ?_⟩
    · rcases Nat.lt_or_ge g w.heap.size with h' | h'
      · exact h'
      · rw [Array.getElem?_eq_none h'] at hh; cases hh
    · have e : w.cell? ⟨g, j, none⟩ = cur[j]? := by simp [World.cell?, hh]
      rw [e]
      have e2 : cur[j]? = (cur.toList.take (n' * 1))[j]? := by
        rw [List.getElem?_take_of_lt (by omega)]
        simp
      rw [e2, htake]

/-- What reading a text as a call comes to. -/
def headP (l : List UInt8) : List UInt8 := match parseT l with
  | some t => headT t
  | none => []
theorem headP_some {l : List UInt8} {t : Tm} (h : parseT l = some t) : headP l = headT t := by unfold headP; rw [h]
theorem headP_none {l : List UInt8} (h : parseT l = none) : headP l = [] := by unfold headP; rw [h]
def callP (l : List UInt8) : Bool := match parseT l with
  | some t => isCallT t
  | none => false
theorem callP_some {l : List UInt8} {t : Tm} (h : parseT l = some t) : callP l = isCallT t := by unfold callP; rw [h]
theorem callP_none {l : List UInt8} (h : parseT l = none) : callP l = false := by unfold callP; rw [h]
def RcPost (l : List UInt8) (w : World) (e : Ending) (w' : World) : Prop :=
  (∃ ps vs ts, ts = ((parseT l).map partsT).getD [] ∧ e = .returned (.tuple #[.agg #[.string (str (headP l)), ps], .bool (callP l)]) ∧ w'.ownsRow w.heap.size 85 1 ps ts.length vs ∧ NodesAt w' w.heap.size ts vs) ∧ Below w.heap.size w w'
end Go.Proofs.YtgkfddhhkjblgaaGreatDoor

namespace Go.Proofs.YtgkfddhhkjblgaaGreatDoor
open Go.RowKit

def litP (l : List UInt8) : Int × Int × Bool := match parseT l with
  | some t => litT t
  | none => (0, 0, false)
theorem litP_some {l : List UInt8} {t : Tm} (h : parseT l = some t) : litP l = litT t := by unfold litP; rw [h]
theorem litP_none {l : List UInt8} (h : parseT l = none) : litP l = (0, 0, false) := by unfold litP; rw [h]
theorem litT_call {t : Tm} (h : isCallT t = true) : litT t = (0, 0, false) := by
  cases t with
  | lit k v => cases h
  | c0 n => rfl
  | c1 n a => rfl
  | c2 n a b => rfl

theorem sum_take_le : ∀ (l : List Nat) (k : Nat), (l.take k).sum ≤ l.sum
  | [], k => by simp
  | a :: l, 0 => by simp
  | a :: l, k + 1 => by have := sum_take_le l k; simp only [List.take_succ_cons, List.sum_cons]; omega
theorem foldl_max_le (l : List Nat) : ∀ {a b : Nat}, a ≤ b → l.foldl max a ≤ l.foldl max b := by
  induction l with
  | nil => intro a b h; exact h
  | cons x l ih => intro a b h; exact ih (by omega)
theorem foldl_max_ge (l : List Nat) : ∀ a : Nat, a ≤ l.foldl max a := by
  induction l with
  | nil => intro a; exact Nat.le_refl _
  | cons x l ih => intro a; exact Nat.le_trans (Nat.le_max_left a x) (ih _)
theorem max_take_le (l : List Nat) (k : Nat) : (l.take k).foldl max 0 ≤ l.foldl max 0 := by
  have h : l.foldl max 0 = (l.drop k).foldl max ((l.take k).foldl max 0) := by rw [← List.foldl_append, List.take_append_drop]
  rw [h]
  exact foldl_max_ge _ _
def numP (f : Tm → Nat) (l : List UInt8) : Int := match parseT l with
  | some t => (f t : Int)
  | none => -1
theorem numP_some (f : Tm → Nat) {l : List UInt8} {t : Tm} (h : parseT l = some t) : numP f l = f t := by unfold numP; rw [h]
theorem numP_none (f : Tm → Nat) {l : List UInt8} (h : parseT l = none) : numP f l = -1 := by unfold numP; rw [h]

end Go.Proofs.YtgkfddhhkjblgaaGreatDoor

namespace Go.Proofs.YtgkfddhhkjblgaaGreatDoor
open Go.RowKit

/-- The signs of a term that was read. -/
theorem term_signs {L : List UInt8} {t : Tm} (h : parseT L = some t) : ∃ a c r, L = a :: (if isCallT t = true then 40 else 58) :: c :: r ∧ (isCallT t = true → headT t = [a]) ∧ (∀ h, (str L)[0]'h = a) ∧ (∀ h, (str L)[1]'h = if isCallT t = true then 40 else 58) ∧ (∀ h, (str L)[2]'h = c) := by
  obtain ⟨ho, e, _⟩ := parseT_tmT.1 h
  obtain ⟨a, c, r, e2, e3⟩ := tmT_second ho
  rw [e2] at e
  subst e
  exact ⟨a, c, r, rfl, fun hc => (e3 hc).1, fun _ => rfl, fun _ => rfl, fun _ => rfl⟩

theorem lit_vals {L r : List UInt8} {a x c : UInt8} {k v : Int} (hL : L = a :: x :: c :: r) (h : parseT L = some (.lit k v)) : (a.toNat : Int) = 48 + k ∧ (c.toNat : Int) = 48 + v ∧ Dig k ∧ Dig v := by
  obtain ⟨ho, e, _⟩ := parseT_tmT.1 h
  have key : ∀ {z : Int}, Dig z → ((UInt8.ofNat (48 + z.toNat)).toNat : Int) = 48 + z := by
    intro z hz
    unfold Dig at hz
    rw [UInt8.toNat_ofNat', show (48 + z.toNat) % 2 ^ 8 = 48 + z.toNat by omega]
    omega
  have e' : L = [UInt8.ofNat (48 + k.toNat), 58, UInt8.ofNat (48 + v.toNat)] := e
  rw [hL] at e'
  injection e' with e1 e2
  injection e2 with e2 e3
  injection e3 with e3 e4
  exact ⟨by rw [e1]; exact key ho.1, by rw [e3]; exact key ho.2, ho.1, ho.2⟩

end Go.Proofs.YtgkfddhhkjblgaaGreatDoor

namespace Go.Proofs.YtgkfddhhkjblgaaGreatDoor
open Go.RowKit

theorem slice_str (s : ByteArray) (i j : Nat) (hij : i ≤ j) (hj : j ≤ s.size) (z y : Int) (hz : z = i) (hy : y = j) (w : World) : (Instr.slice 9 (.string s) (some (.int .i64 z)) (some (.int .i64 y)) none).run Tryz.prog w = .ok (.string (s.extract i j)) w := by
  subst hz; subst hy
  rw [run_slice_string_if w 9 s .i64 .i64 i j Tryz.underlying9]
  simp [hij, hj]
/-- The text from a part on. -/
def restT : List Tm → List UInt8
  | [] => []
  | [p] => tmT p ++ [41]
  | p :: p2 :: r => tmT p ++ 44 :: restT (p2 :: r)
theorem restT_cons (p : Tm) (r : List Tm) : restT (p :: r) = tmT p ++ (if r = [] then 41 else 44) :: restT r := by
  cases r with
  | nil => rfl
  | cons p2 r => rfl
theorem call_text {t : Tm} (hc : isCallT t = true) (hn : partsT t ≠ []) : ∃ n, tmT t = n :: 40 :: restT (partsT t) := by
  cases t with
  | lit k v => cases hc
  | c0 n => exact absurd rfl hn
  | c1 n a => exact ⟨n, by simp [tmT, partsT, restT]⟩
  | c2 n a b => exact ⟨n, by simp [tmT, partsT, restT]⟩
theorem call_zero {t : Tm} (hc : isCallT t = true) (hn : partsT t = []) : ∃ n, tmT t = [n, 40, 41] := by
  cases t with
  | lit k v => cases hc
  | c0 n => exact ⟨n, rfl⟩
  | c1 n a => cases hn
  | c2 n a b => cases hn
theorem below_own {w w' w'' : World} {N : Nat} {t : TypeId} {v : Value} {n : Nat} {xs : List Value} (hb : Below N w w') (ho : w'.ownsRow N t 1 v n xs) (hg : w'.grownBy w'' v.ownBlock) (hs : N ≤ w'.heap.size) : Below N w w'' :=
  hb.grown hg hs (fun j hj => by
    obtain ⟨_, ⟨e, _⟩ | ⟨g, cap3, cur, e, hg', _⟩⟩ := ho
    · rw [e] at hj; simp [Value.ownBlock] at hj
    · rw [e] at hj; simp [Value.ownBlock] at hj; omega)
def strV (ts : List Tm) : List Value := ts.map fun p => Value.string (str (tmT p))

set_option maxRecDepth 100000 in
set_option maxHeartbeats 4000000 in
theorem l6Parts_any (t : Tm) (ho : TmOk t) (hc : isCallT t = true) (w : World) (hm : (tmT t).length ≤ 1048576) :
    Calls Tryz.prog 69 #[.string (str (tmT t))] w fun e w' => ∃ v, e = .returned v ∧ Below w.heap.size w w' ∧ w'.ownsRow w.heap.size 9 1 v (partsT t).length (strV (partsT t)) := by
  obtain ⟨i0, hi0, hz0, hz1, hz2⟩ := info_parts (show (Tryz.prog.info? 9).map (fun i => (i.zero, i.size, i.bytes)) = some (some (.string ⟨#[]⟩), 1, 16) by kernel_rfl)
  have Hb0 : Hid (Below w.heap.size w (w.alloc (.cells #[] 9))) := (Below.refl _ _).alloc (Nat.le_refl _) _
  have Ho0 : Hid ((w.alloc (.cells #[] 9)).ownsRow w.heap.size 9 1 (.slice (some ⟨w.heap.size, 0, none⟩) 0 0) 0 []) := World.ownsRow_lit w #[] 0 (Nat.le_refl _) (by unfold maxLen; omega) rfl
  obtain ⟨ts, hts⟩ : ∃ ts, ts = partsT t := ⟨_, rfl⟩
  have h2 : ts.length ≤ 2 := by rw [hts]; exact partsT_two t
  obtain ⟨L, hLt⟩ : ∃ L, L = tmT t := ⟨_, rfl⟩
  rw [← hts, ← hLt]
  rw [← hLt] at hm
  have hsz := str_size L
  by_cases hn : ts = []
  · obtain ⟨nm, hL⟩ := call_zero hc (by rw [← hts]; exact hn)
    rw [← hLt] at hL
    have b1 : ∀ h, (str L)[1]'h = 40 := by subst hL; exact fun _ => rfl
    have b2 : ∀ h, (str L)[2]'h = 41 := by subst hL; exact fun _ => rfl
    have hl3 : L.length = 3 := by rw [hL]; rfl
    subst hn
    rw [hl3] at hsz
    clear hts hLt hL h2
    go_enter Tryz.func69, Tryz.ntmps69
    go_wp2_with fail
    go_loopw [3, 4] (fun o i wr => o = .slice (some ⟨w.heap.size, 0, none⟩) 0 0 ∧ i = .int .i64 2 ∧ Hid (Below w.heap.size w wr) ∧ Hid (wr.ownsRow w.heap.size 9 1 o 0 [])) (fun _ _ _ => 0)
    case atStart => exact ⟨rfl, rfl, Hb0.out, Ho0.out⟩
    case round =>
      obtain ⟨rfl, rfl, hb, hor⟩ := hrel
      go_wp2
      go_ret
      exact ⟨_, rfl, hb.out, hor.out⟩
  · obtain ⟨nm, hL⟩ := call_text hc (by rw [← hts]; exact hn)
    rw [← hLt, ← hts] at hL
    have hok : Hid (∀ p ∈ ts, TmOk p) := fun p hp => partsT_ok ho (by rw [← hts]; exact hp)
    have hpos : 0 < ts.length := List.length_pos_iff.2 hn
    have hl2 : 2 ≤ L.length := by rw [hL]; simp
    have hst : Hid (L[1]? = some 40 ∧ L.drop 2 = restT ts) := by show _ ∧ _; rw [hL]; exact ⟨rfl, rfl⟩
    clear hLt hL hn hts ho hc
    go_enter Tryz.func69, Tryz.ntmps69
    go_wp2_with fail
    go_loopw [3, 4] (fun o i wr => ∃ (k m : Nat) (c0 : UInt8), k ≤ ts.length ∧ m + 1 ≤ L.length ∧ i = .int .i64 ((m : Int) + 1) ∧ Hid (L[m]? = some c0) ∧ Hid (k = ts.length → c0 = 41) ∧ Hid (k < ts.length → c0 ≠ 41) ∧ Hid (L.drop (m + 1) = restT (ts.drop k)) ∧ Hid (Below w.heap.size w wr) ∧ Hid (wr.ownsRow w.heap.size 9 1 o k (strV (ts.take k)))) (fun _ i _ => L.length + 1 - (intOf i).toNat)
    case atStart => exact ⟨0, 1, 40, by omega, by omega, by go_num, hst.out.1, fun h => absurd h (by omega), fun _ => by decide, hst.out.2, Hb0.out, Ho0.out⟩
    case round =>
      clear Hb0 Ho0 hst
      obtain ⟨k, m, c0, hk, hmL, rfl, hm0, hend, hgo, hdr, hbr, hor⟩ := hrel
      have hbs := hbr.out.size
      have hb0 : ∀ h, (str L)[m]'h = c0 := fun h => by
        have h1 := cut_byte L m (by omega) h
        rw [h1]
        have h2 := hm0.out
        rw [List.getElem?_eq_getElem (by omega)] at h2
        exact Option.some.inj h2
      by_cases hkl : k < ts.length
      · have hne := hgo.out hkl
        have q0 : ((c0.toNat : Int) == 41) = decide (c0 = 41) := cut_eq c0 41
        rw [show decide (c0 = 41) = false by simpa using hne] at q0
        have n0 : ((c0.toNat : Int) != 41) = true := by simp only [bne, q0]; rfl
        have hdk : ts.drop k = ts[k] :: ts.drop (k + 1) := List.drop_eq_getElem_cons hkl
        have hokk := hok.out ts[k] (List.getElem_mem hkl)
        obtain ⟨c1, c1e⟩ : ∃ c1 : UInt8, c1 = if ts.drop (k + 1) = [] then 41 else 44 := ⟨_, rfl⟩
        have hdr2 : L.drop (m + 1) = tmT ts[k] ++ c1 :: restT (ts.drop (k + 1)) := by rw [hdr.out, hdk, restT_cons, c1e]
        have hpl := tmT_len hokk
        have hlen : m + 1 + (tmT ts[k]).length + 1 + (restT (ts.drop (k + 1))).length = L.length := by
          have h := congrArg List.length hdr2
          rw [List.length_drop, List.length_append, List.length_cons] at h
          omega
        obtain ⟨fc, fl, hfc, _, hfs⟩ := tmT_first hokk (c1 :: restT (ts.drop (k + 1)))
        obtain ⟨d', r', hd', by1, _⟩ := drop1 (L := L) (q := m + 1) (by omega)
        rw [hdr2, hfc] at hd'
        injection hd' with hd1 hd2
        subst hd1
        have hf41 : fc ≠ 41 := by rintro rfl; rcases hfs with h | h <;> exact absurd h (by decide)
        have q1 : ((fc.toNat : Int) == 41) = decide (fc = 41) := cut_eq fc 41
        rw [show decide (fc = 41) = false by simpa using hf41] at q1
        have n1 : ((fc.toNat : Int) != 41) = true := by simp only [bne, q1]; rfl
        obtain ⟨x, hx⟩ : ∃ x, x = m + 1 + (tmT ts[k]).length := ⟨_, rfl⟩
        have hE := end6_any L hm L.length (m + 1) wr (by omega) (by omega)
        have hEv : endZ L (endT L.length (L.drop (m + 1))) = (x : Int) := by
          rw [hdr2]
          unfold endT
          rw [rdTm_tmT L.length _ hokk (by omega)]
          show (L.length : Int) - ((c1 :: restT (ts.drop (k + 1))).length : Int) = _
          rw [List.length_cons]
          omega
        rw [hEv] at hE
        have HE : Hid (Calls Tryz.prog 106 #[.string (str L), .int .i64 ((m : Int) + 1)] wr fun e w' => e = .returned (.int .i64 x) ∧ w' = wr) := by show Calls _ _ _ _ _; exact hE
        have hss : Hid ((str L).extract (m + 1) x = str (tmT ts[k])) := by
          show _ = _
          rw [str_sub]
          unfold sub
          rw [hdr2, show x - (m + 1) = (tmT ts[k]).length by omega, List.take_left]
        have hx0 : Hid (L[x]? = some c1) := by
          show _ = _
          have h : L[x]? = (L.drop (m + 1))[(tmT ts[k]).length]? := by rw [List.getElem?_drop, hx]
          rw [h, hdr2, List.getElem?_append_right (Nat.le_refl _), Nat.sub_self]
          rfl
        have hxd : Hid (L.drop (x + 1) = restT (ts.drop (k + 1))) := by
          show _ = _
          have h : L.drop (x + 1) = (L.drop (m + 1)).drop ((tmT ts[k]).length + 1) := by rw [List.drop_drop]; congr 1; omega
          rw [h, hdr2, List.drop_append]
          simp
        have hc1 : Hid ((k + 1 = ts.length → c1 = 41) ∧ (k + 1 < ts.length → c1 ≠ 41)) := by
          show _ ∧ _
          constructor
          · intro h; rw [c1e, h, List.drop_length, if_pos rfl]
          · intro h; rw [c1e, if_neg (by intro hh; have := congrArg List.length hh; rw [List.length_drop] at this; simp at this; omega)]; decide
        have htk : Hid (strV (ts.take k) ++ [Value.string (str (tmT ts[k]))] = strV (ts.take (k + 1))) := by
          show _ = _
          rw [List.take_succ_eq_append_getElem hkl]
          unfold strV
          rw [List.map_append]
          rfl
        obtain ⟨pt, hpt⟩ : ∃ pt, pt = tmT ts[k] := ⟨_, rfl⟩
        rw [← hpt] at hss htk
        have hsl : ∀ w : World, (Instr.slice 9 (.string (str L)) (some (.int .i64 ((m : Int) + 1))) (some (.int .i64 x)) none).run Tryz.prog w = .ok (.string (str pt)) w := fun w => by rw [slice_str (str L) (m + 1) x (by omega) (by rw [hsz]; omega) ((m : Int) + 1) x (by omega) rfl w, hss.out]
        have hxx : m + 4 ≤ x ∧ x + 1 ≤ L.length := ⟨by omega, by omega⟩
        obtain ⟨hx1, hx2⟩ := hxx
        have hci : (m : Int) + 1 ≤ (x : Int) := by omega
        have hci2 : (x : Int) ≤ (L.length : Int) := by omega
        clear hdr2 hdr hdk hfc hd2 hE hEv hend hgo hm0 hpl hlen hokk hfs hne hf41 c1e hpt hx
        go_wp2_with fail
        refine HE.out.mono ?_
        rintro e w1 ⟨rfl, rfl⟩
        go_wp2_with (at_builtin; refine wpList_append_own _ rfl (.tmp 21) (.tmp 26) 45 rfl w.heap.size 9 i0 (.string ⟨#[]⟩) 1 16 Tryz.underlying45 hi0 hz0 hz1 hz2 rfl (by decide) _ _ _ rfl (hor.out.alloc _) ⟨w1.heap.size, 0, none⟩ 1 1 [.string (str pt)] rfl rfl ?c1 ?c2 ?c3 ?c4 ?c5 ?_)
        case c1 =>
          intro j u hj
          match j, hj with
          | 0, hj => simp at hj; subst hj; simp [Addr.add]
        case c2 => intro u hu; simp at hu; subst hu; rfl
        case c3 => unfold maxLen; omega
        case c4 => omega
        case c5 => simp; omega
        intro v2 w2 hown2 hgrow _
        have Hb2 := Lib.hid (below_own (hbr.out.alloc hbs _) (hor.out.alloc _) hgrow (by simp; omega))
        have Hown2 := Lib.hid hown2
        clear hown2 hgrow
        go_wp2
        go_roundw
        case rel => exact ⟨k + 1, x, c1, by omega, by omega, by go_num, hx0.out, hc1.out.1, hc1.out.2, hxd.out, Hb2.out, ownsRow_cast Hown2.out rfl htk.out⟩
        case measure => simp [intOf]; omega
      · have hke : k = ts.length := by omega
        have hce := hend.out hke
        have n0 : ((c0.toNat : Int) != 41) = false := by subst hce; rfl
        have htk : strV (ts.take k) = strV ts := by rw [hke, List.take_length]
        rw [htk, hke] at hor
        clear hgo hend hdr hm0
        go_wp2
        go_ret
        exact ⟨_, rfl, hbr.out, hor.out⟩
end Go.Proofs.YtgkfddhhkjblgaaGreatDoor

namespace Go.Proofs.YtgkfddhhkjblgaaGreatDoor
open Go.RowKit

/-- What making a term explicit gives, as values. -/
noncomputable def elRes (y : Sy) (t : Tm) : Value := match elM y t with
  | .ok m => .tuple #[.string (str (mkT m)), .int .i64 (kindM y m), .string wOk]
  | .error wd => .tuple #[.string ⟨#[]⟩, .int .i64 (-1), .string wd]
/-- What Elaborate gives. -/
noncomputable def elT (y : Sy) (L : List UInt8) : List UInt8 × Int × ByteArray :=
  if syB y = true then match parseT L with
    | some t => match elM y t with
      | .ok m => if (mkT m).length ≤ 400 then (mkT m, kindM y m, wOk) else ([], -1, wLong)
      | .error wd => ([], -1, wd)
    | none => ([], -1, wUnk)
  else ([], -1, wUnk)

set_option maxRecDepth 100000 in
set_option maxHeartbeats 1000000 in
theorem l7Asked_any (lo hi : Nat) (sv cv fv : Value) (y : Sy) (L : List UInt8) (w : World) (hv : SyAt w lo hi sv cv fv y) (hB : hi ≤ w.heap.size) (hL : L.length ≤ 1048576) :
    Calls Tryz.prog 36 #[.agg #[sv, cv, fv], .string (str L)] w fun e w' => e = .returned (.bool (syB y && (parseT L).isSome)) ∧ Below w.heap.size w w' := by
  obtain ⟨A1, cap1, rfl, _, _, _⟩ := hv.1.1.form
  obtain ⟨A2, cap2, rfl, _, _, _⟩ := hv.1.2.form
  obtain ⟨A3, cap3, rfl, _, _, _⟩ := hv.2.form
  have hb1 : Below w.heap.size w (w.alloc (.cells #[.slice A1 y.ty.sizes.length cap1, .slice A2 y.ty.cos.length cap2, .slice A3 y.fs.length cap3] 37)) := (Below.refl _ _).alloc (Nat.le_refl _) _
  have HS := Lib.hid (specSysValid_any lo hi _ _ _ y _ (hv.below hb1 hB) (by rw [World.size_alloc]; omega))
  have HT := Lib.hid (specTermValid_any L hL)
  have HR1 := Row.new w 37 [.slice A1 y.ty.sizes.length cap1, .slice A2 y.ty.cos.length cap2, .slice A3 y.fs.length cap3]
  have p0 := HR1.cell 0
  have p1 := HR1.cell 1
  have p2 := HR1.cell 2
  simp only [List.getElem?_cons_zero, List.getElem?_cons_succ] at p0 p1 p2
  have HB1 := Lib.hid hb1
  clear hv hb1 HR1
  go_enter Tryz.func36, Tryz.ntmps36
  go_wp2_with fail
  refine HS.out.mono ?_
  clear p0 p1 p2 HS
  rintro e w2 ⟨rfl, hb2⟩
  have HB2 := Lib.hid (HB1.out.trans (hb2.mono (by rw [World.size_alloc]; omega)))
  clear hb2 HB1
  cases hy : syB y with
  | false =>
    go_wp2
    go_ret
    exact ⟨by rw [hy]; rfl, HB2.out⟩
  | true =>
    go_wp2_with fail
    refine (HT.out w2).mono ?_
    rintro e w3 ⟨rfl, rfl⟩
    go_wp2
    go_ret
    exact ⟨by rw [hy, Bool.true_and]; rfl, HB2.out⟩

set_option maxRecDepth 100000 in
set_option maxHeartbeats 2000000 in
theorem specElab_any (lo hi : Nat) (sv cv fv : Value) (y : Sy) (L : List UInt8) (w : World) (hv : SyAt w lo hi sv cv fv y) (hB : hi ≤ w.heap.size) (hL : L.length ≤ 1048576)
    (HM0 : ∀ (t : Tm) (w1 : World), SyOk y → TmOk t → (tmT t).length ≤ 60 → SyAt w1 lo hi sv cv fv y → hi ≤ w1.heap.size → Calls Tryz.prog 37 #[.agg #[sv, cv, fv], .string (str (tmT t))] w1 fun e w' => e = .returned (elRes y t) ∧ Below w1.heap.size w1 w') :
    Calls Tryz.prog 11 #[.agg #[sv, cv, fv], .string (str L)] w fun e w' => e = .returned (.tuple #[.string (str (elT y L).1), .int .i64 (elT y L).2.1, .string (elT y L).2.2]) ∧ Below w.heap.size w w' := by
  obtain ⟨A1, cap1, rfl, _, _, _⟩ := hv.1.1.form
  obtain ⟨A2, cap2, rfl, _, _, _⟩ := hv.1.2.form
  obtain ⟨A3, cap3, rfl, _, _, _⟩ := hv.2.form
  have hb1 : Below w.heap.size w (w.alloc (.cells #[.slice A1 y.ty.sizes.length cap1, .slice A2 y.ty.cos.length cap2, .slice A3 y.fs.length cap3] 37)) := (Below.refl _ _).alloc (Nat.le_refl _) _
  have HA := Lib.hid (l7Asked_any lo hi _ _ _ y L _ (hv.below hb1 hB) (by rw [World.size_alloc]; omega) hL)
  have HR1 := Row.new w 37 [.slice A1 y.ty.sizes.length cap1, .slice A2 y.ty.cos.length cap2, .slice A3 y.fs.length cap3]
  have HRS := Lib.hid HR1
  have p0 := HR1.cell 0
  have p1 := HR1.cell 1
  have p2 := HR1.cell 2
  simp only [List.getElem?_cons_zero, List.getElem?_cons_succ] at p0 p1 p2
  have HB1 := Lib.hid hb1
  have HV := Lib.hid hv
  have HM := Lib.hid HM0
  clear hv hb1 HR1 HM0
  go_enter Tryz.func11, Tryz.ntmps11
  go_wp2_with fail
  refine HA.out.mono ?_
  clear p0 p1 p2 HA
  rintro e w2 ⟨rfl, hb2⟩
  have HB2 := Lib.hid (HB1.out.trans (hb2.mono (by rw [World.size_alloc]; omega)))
  have HS2 := Lib.hid (HRS.out.below hb2 (by rw [World.size_alloc]; omega))
  have hs2 := HB2.out.size
  clear hb2 HB1 HRS
  cases hq : (syB y && (parseT L).isSome) with
  | false =>
    have hE : Hid (elT y L = ([], -1, wUnk)) := by
      show _ = _
      unfold elT
      cases hy : syB y with
      | false => rfl
      | true =>
        rw [hy, Bool.true_and] at hq
        cases hp : parseT L with
        | none => rfl
        | some t => rw [hp] at hq; cases hq
    clear hq HS2
    go_wp2
    try rw [Exit.noGoto_ret]
    refine bodyPost_ret (v := .tuple #[.string ⟨#[]⟩, .int .i64 (-1), .string wUnk]) (by simp [results, Tryz.results11, go_sem, wUnk]) rfl ?_
    exact ⟨by rw [hE.out]; rfl, HB2.out⟩
  | true =>
    simp only [Bool.and_eq_true] at hq
    obtain ⟨t, ht⟩ := Option.isSome_iff_exists.1 hq.2
    obtain ⟨hto, hLt, h60⟩ := parseT_tmT.1 ht
    have hE0 : elT y L = match elM y t with
      | .ok m => if (mkT m).length ≤ 400 then (mkT m, kindM y m, wOk) else ([], -1, wLong)
      | .error wd => ([], -1, wd) := by unfold elT; rw [if_pos hq.1, ht]
    have HMC := Lib.hid (HM.out t w2 (syB_iff.1 hq.1) hto (by rw [← hLt]; exact h60) (HV.out.below HB2.out hB) (Nat.le_trans hB hs2))
    rw [← hLt] at HMC
    have hbd := fun m (h : elM y t = .ok m) => elM_len h
    rw [← hLt] at hbd
    have q0 := HS2.out.cell 0
    have q1 := HS2.out.cell 1
    have q2 := HS2.out.cell 2
    simp only [List.getElem?_cons_zero, List.getElem?_cons_succ] at q0 q1 q2
    have HE0 := Lib.hid hE0
    clear hq ht hto hLt hE0
    go_wp2_with fail
    refine HMC.out.mono ?_
    rintro e w3 ⟨rfl, hb3⟩
    have HB3 := Lib.hid (HB2.out.trans (hb3.mono hs2))
    clear hb3 HMC q0 q1 q2 HS2
    unfold elRes
    cases hel : elM y t with
    | error wd =>
      rw [hel] at HE0
      have h0 : (ByteArray.mk #[]).size = 0 := rfl
      go_wp2
      try rw [Exit.noGoto_ret]
      refine bodyPost_ret (v := .tuple #[.string ⟨#[]⟩, .int .i64 (-1), .string wd]) (by simp [results, Tryz.results11, go_sem]) rfl ?_
      exact ⟨by rw [HE0.out]; rfl, HB3.out⟩
    | ok m =>
      rw [hel] at HE0
      have hml := hbd m hel
      have hsz := str_size (mkT m)
      by_cases h4 : (mkT m).length ≤ 400
      · have h4' : ¬ (400 : Int) < ((mkT m).length : Int) := by omega
        have hE1 : Hid (elT y L = (mkT m, kindM y m, wOk)) := by show _ = _; rw [HE0.out]; simp [h4]
        clear hbd hel HE0
        dsimp only
        generalize mkT m = X at h4 h4' hE1 hml hsz ⊢
        go_wp2
        all_goals try (exfalso; omega)
        try rw [Exit.noGoto_ret]
        refine bodyPost_ret (v := .tuple #[.string (str X), .int .i64 (kindM y m), .string wOk]) (by simp [results, Tryz.results11, go_sem]) rfl ?_
        exact ⟨by rw [hE1.out], HB3.out⟩
      · have h4' : (400 : Int) < ((mkT m).length : Int) := by omega
        have hE1 : Hid (elT y L = ([], -1, wLong)) := by show _ = _; rw [HE0.out]; simp [h4]
        clear hbd hel HE0
        dsimp only
        generalize mkT m = X at h4 h4' hE1 hml hsz ⊢
        go_wp2
        all_goals try (exfalso; omega)
        try rw [Exit.noGoto_ret]
        refine bodyPost_ret (v := .tuple #[.string ⟨#[]⟩, .int .i64 (-1), .string wLong]) (by simp [results, Tryz.results11, go_sem, wLong]) rfl ?_
        exact ⟨by rw [hE1.out]; rfl, HB3.out⟩

set_option maxRecDepth 100000 in
set_option maxHeartbeats 1000000 in
theorem specTypeOf_any (lo hi : Nat) (sv cv fv : Value) (y : Sy) (L : List UInt8) (w : World) (hv : SyAt w lo hi sv cv fv y) (hB : hi ≤ w.heap.size) (hL : L.length ≤ 1048576)
    (HM0 : ∀ (t : Tm) (w1 : World), SyOk y → TmOk t → (tmT t).length ≤ 60 → SyAt w1 lo hi sv cv fv y → hi ≤ w1.heap.size → Calls Tryz.prog 37 #[.agg #[sv, cv, fv], .string (str (tmT t))] w1 fun e w' => e = .returned (elRes y t) ∧ Below w1.heap.size w1 w') :
    Calls Tryz.prog 15 #[.agg #[sv, cv, fv], .string (str L)] w fun e w' => e = .returned (.int .i64 (elT y L).2.1) ∧ Below w.heap.size w w' := by
  obtain ⟨A1, cap1, rfl, _, _, _⟩ := hv.1.1.form
  obtain ⟨A2, cap2, rfl, _, _, _⟩ := hv.1.2.form
  obtain ⟨A3, cap3, rfl, _, _, _⟩ := hv.2.form
  have hb1 : Below w.heap.size w (w.alloc (.cells #[.slice A1 y.ty.sizes.length cap1, .slice A2 y.ty.cos.length cap2, .slice A3 y.fs.length cap3] 37)) := (Below.refl _ _).alloc (Nat.le_refl _) _
  have HA := Lib.hid (specElab_any lo hi _ _ _ y L _ (hv.below hb1 hB) (by rw [World.size_alloc]; omega) hL HM0)
  have HR1 := Row.new w 37 [.slice A1 y.ty.sizes.length cap1, .slice A2 y.ty.cos.length cap2, .slice A3 y.fs.length cap3]
  have p0 := HR1.cell 0
  have p1 := HR1.cell 1
  have p2 := HR1.cell 2
  simp only [List.getElem?_cons_zero, List.getElem?_cons_succ] at p0 p1 p2
  have HB1 := Lib.hid hb1
  clear hv hb1 HR1 HM0
  generalize elT y L = R at HA ⊢
  obtain ⟨R1, R2, R3⟩ := R
  dsimp only at HA ⊢
  go_enter Tryz.func15, Tryz.ntmps15
  go_wp2_with fail
  refine HA.out.mono ?_
  clear p0 p1 p2 HA
  rintro e w2 ⟨rfl, hb2⟩
  have HB2 := Lib.hid (HB1.out.trans (hb2.mono (by rw [World.size_alloc]; omega)))
  clear hb2 HB1
  go_wp2
  go_ret
  exact ⟨rfl, HB2.out⟩
end Go.Proofs.YtgkfddhhkjblgaaGreatDoor

namespace Go.Proofs.YtgkfddhhkjblgaaGreatDoor
open Go.RowKit
attribute [local go_sem] Oper.semAt_some

def prodTo (ts : List Int) : Nat → Int
  | 0 => 1
  | k + 1 => prodTo ts k * ts.getD k 0
/-- The place of the first k values. -/
def plTo (ts vs : List Int) : Nat → Int
  | 0 => 0
  | k + 1 => plTo ts vs k * ts.getD k 0 + vs.getD k 0
/-- Values of types of such sizes. -/
def InT (ts vs : List Int) : Prop := vs.length = ts.length ∧ ∀ j, j < ts.length → 0 ≤ vs.getD j 0 ∧ vs.getD j 0 < ts.getD j 0
open Classical in
noncomputable def resV (ts rs vs : List Int) : Int := if InT ts vs then rs.getD (plTo ts vs ts.length).toNat 0 else -1
theorem resV_yes {ts rs vs : List Int} (h : InT ts vs) : resV ts rs vs = rs.getD (plTo ts vs ts.length).toNat 0 := by unfold resV; exact if_pos h
theorem resV_no {ts rs vs : List Int} (h : ¬ InT ts vs) : resV ts rs vs = -1 := by unfold resV; exact if_neg h

theorem plTo_bound {ts vs : List Int} (h2 : ts.length ≤ 2) (hs : ∀ j, j < ts.length → 1 ≤ ts.getD j 0 ∧ ts.getD j 0 ≤ 4) : ∀ k, k ≤ ts.length → (∀ j, j < k → 0 ≤ vs.getD j 0 ∧ vs.getD j 0 < ts.getD j 0) → 0 ≤ plTo ts vs k ∧ plTo ts vs k < prodTo ts k ∧ prodTo ts k ≤ 16 := by
  intro k hk hv
  match k, hk with
  | 0, _ => exact ⟨by show (0 : Int) ≤ 0; omega, by show (0 : Int) < 1; omega, by show (1 : Int) ≤ 16; omega⟩
  | 1, hk =>
    have h0 := hs 0 (by omega)
    have v0 := hv 0 (by omega)
    show 0 ≤ 0 * ts.getD 0 0 + vs.getD 0 0 ∧ 0 * ts.getD 0 0 + vs.getD 0 0 < 1 * ts.getD 0 0 ∧ 1 * ts.getD 0 0 ≤ 16
    rw [Int.zero_mul, Int.one_mul]
    omega
  | 2, hk =>
    have h0 := hs 0 (by omega)
    have h1 := hs 1 (by omega)
    have v0 := hv 0 (by omega)
    have v1 := hv 1 (by omega)
    show 0 ≤ (0 * ts.getD 0 0 + vs.getD 0 0) * ts.getD 1 0 + vs.getD 1 0 ∧ (0 * ts.getD 0 0 + vs.getD 0 0) * ts.getD 1 0 + vs.getD 1 0 < 1 * ts.getD 0 0 * ts.getD 1 0 ∧ 1 * ts.getD 0 0 * ts.getD 1 0 ≤ 16
    rw [Int.zero_mul, Int.one_mul, Int.zero_add]
    generalize ts.getD 0 0 = p at *
    generalize ts.getD 1 0 = q at *
    generalize vs.getD 0 0 = a at *
    generalize vs.getD 1 0 = b at *
    have hq : q = 1 ∨ q = 2 ∨ q = 3 ∨ q = 4 := by omega
    rcases hq with rfl | rfl | rfl | rfl <;> omega
  | k + 3, hk => omega

end Go.Proofs.YtgkfddhhkjblgaaGreatDoor

namespace Go.Proofs.YtgkfddhhkjblgaaGreatDoor
open Go.RowKit
attribute [local go_sem] Oper.semAt_some

/-- The sizes of the types of a function's arguments. -/
def tsOf (ss args : List Int) : List Int := args.map fun a => ss.getD a.toNat 0
theorem tsOf_len (ss args : List Int) : (tsOf ss args).length = args.length := by simp [tsOf]
theorem tsOf_get (ss args : List Int) {j : Nat} (h : j < args.length) : (tsOf ss args).getD j 0 = ss.getD (args.getD j 0).toNat 0 := by
  rw [getD_of (by rw [tsOf_len]; exact h), getD_of h]
  simp [tsOf]
theorem tsOf_bound {ss args : List Int} (hok : sizesOk ss = true) (ha : ∀ j, ∀ (hj : j < args.length), 0 ≤ args[j] ∧ args[j] < ss.length) : ∀ j, j < (tsOf ss args).length → 1 ≤ (tsOf ss args).getD j 0 ∧ (tsOf ss args).getD j 0 ≤ 4 := by
  intro j hj
  rw [tsOf_len] at hj
  obtain ⟨_, _, hall⟩ := sizesOk_of hok
  obtain ⟨h0, h1⟩ := ha j hj
  have hlt : args[j].toNat < ss.length := by omega
  rw [tsOf_get ss args hj, getD_of hj, getD_of hlt]
  exact hall _ hlt
theorem prodTo_cells (ss args : List Int) : ∀ k, k ≤ args.length → prodTo (tsOf ss args) k = cellsTo ss args k := by
  intro k
  induction k with
  | zero => intro _; rfl
  | succ k ih =>
    intro hk
    show prodTo (tsOf ss args) k * (tsOf ss args).getD k 0 = cellsTo ss args k * ss.getD (args.getD k 0).toNat 0
    rw [ih (by omega), tsOf_get ss args (by omega)]

end Go.Proofs.YtgkfddhhkjblgaaGreatDoor

namespace Go.Proofs.YtgkfddhhkjblgaaGreatDoor
open Go.RowKit
attribute [local go_sem] Oper.semAt_some

/-- What CallFunction returns. -/
noncomputable def fcallV (y : Sy) (i : Int) (vs : List Int) : Int := if hasFB y i = true then resV (tsOf y.ty.sizes (y.fs.getD i.toNat default).args) (y.fs.getD i.toNat default).table vs else -1
theorem fcallV_yes {y : Sy} {i : Int} {vs : List Int} (h : hasFB y i = true) : fcallV y i vs = resV (tsOf y.ty.sizes (y.fs.getD i.toNat default).args) (y.fs.getD i.toNat default).table vs := by unfold fcallV; exact if_pos h
theorem fcallV_no {y : Sy} {i : Int} {vs : List Int} (h : ¬ hasFB y i = true) : fcallV y i vs = -1 := by unfold fcallV; exact if_neg h

end Go.Proofs.YtgkfddhhkjblgaaGreatDoor

namespace Go.Proofs.YtgkfddhhkjblgaaGreatDoor
open Go.RowKit

/-- The value of an explicit term. -/
noncomputable def valM (y : Sy) : Mk → Int
  | .lit _ v => v
  | .co i m => lookOf (y.ty.cos.getD i default).map (valM y m)
  | .a0 i => fcallV y i []
  | .a1 i m => fcallV y i [valM y m]
  | .a2 i m p => fcallV y i [valM y m, valM y p]
/-- All its parts, each behind those within it. -/
def itM : Mk → List Mk
  | .lit k v => [.lit k v]
  | .co i m => itM m ++ [.co i m]
  | .a0 i => [.a0 i]
  | .a1 i m => itM m ++ [.a1 i m]
  | .a2 i m p => itM m ++ itM p ++ [.a2 i m p]
/-- What is right within it. -/
def inM : Mk → List Mk
  | .lit _ _ => []
  | .co _ m => [m]
  | .a0 _ => []
  | .a1 _ m => [m]
  | .a2 _ m p => [m, p]
noncomputable def stM (y : Sy) (m : Mk) : List Int := (itM m).map (valM y)
theorem itM_in : ∀ m : Mk, itM m = ((inM m).map itM).flatten ++ [m]
  | .lit _ _ => rfl
  | .co _ _ => by simp [itM, inM]
  | .a0 _ => rfl
  | .a1 _ _ => by simp [itM, inM]
  | .a2 _ _ _ => by simp [itM, inM]
theorem inM_two (m : Mk) : (inM m).length ≤ 2 := by cases m <;> simp [inM]
theorem inM_len {m p : Mk} (h : p ∈ inM m) : (mkT p).length + 3 ≤ (mkT m).length := by
  match m, h with
  | .co i m, h => simp [inM] at h; subst h; simp [mkT, dg]
  | .a1 i m, h => simp [inM] at h; subst h; simp [mkT, dg]
  | .a2 i m q, h =>
    simp [inM] at h
    rcases h with h | h
    · subst h; simp [mkT, dg] <;> omega
    · subst h; simp [mkT, dg] <;> omega
theorem inM_ok {y : Sy} {m p : Mk} (hm : MkOk y m) (h : p ∈ inM m) : MkOk y p := by
  match m, hm, h with
  | .co i m, hm, h => simp [inM] at h; subst h; exact hm.2.2.1
  | .a1 i m, hm, h => simp [inM] at h; subst h; exact hm.2.2.2.1
  | .a2 i m q, hm, h =>
    simp [inM] at h
    rcases h with h | h
    · subst h; exact hm.2.2.2.1
    · subst h; exact hm.2.2.2.2.1
theorem itM_len : ∀ m : Mk, (itM m).length ≤ (mkT m).length
  | .lit _ _ => by simp [itM, mkT, dg]
  | .co _ m => by have := itM_len m; simp [itM, mkT, dg]; omega
  | .a0 _ => by simp [itM, mkT, dg]
  | .a1 _ m => by have := itM_len m; simp [itM, mkT, dg]; omega
  | .a2 _ m p => by have := itM_len m; have := itM_len p; simp [itM, mkT, dg]; omega
theorem itM_last (m : Mk) : ∃ l, itM m = l ++ [m] := ⟨_, itM_in m⟩
theorem itM_ok {y : Sy} : ∀ {m : Mk}, MkOk y m → ∀ p ∈ itM m, MkOk y p
  | .lit _ _, h, p, hp => by simp [itM] at hp; subst hp; exact h
  | .co i m, h, p, hp => by
    simp [itM] at hp
    rcases hp with hp | hp
    · exact itM_ok (m := m) h.2.2.1 p hp
    · subst hp; exact h
  | .a0 _, h, p, hp => by simp [itM] at hp; subst hp; exact h
  | .a1 i m, h, p, hp => by
    simp [itM] at hp
    rcases hp with hp | hp
    · exact itM_ok (m := m) h.2.2.2.1 p hp
    · subst hp; exact h
  | .a2 i m q, h, p, hp => by
    simp [itM] at hp
    rcases hp with hp | hp | hp
    · exact itM_ok (m := m) h.2.2.2.1 p hp
    · exact itM_ok (m := q) h.2.2.2.2.1 p hp
    · subst hp; exact h

theorem hasV0_iff {ss : List Int} {k v : Int} : hasV0 ss k v = true ↔ 0 ≤ k ∧ k < ss.length ∧ 0 ≤ v ∧ v < ss.getD k.toNat 0 := by
  unfold hasV0 ixB
  simp only [Bool.and_eq_true, decide_eq_true_eq]
  exact ⟨fun h => ⟨h.1.1, h.1.2, h.2.1, h.2.2⟩, fun h => ⟨⟨h.1, h.2.1⟩, h.2.2.1, h.2.2.2⟩⟩
theorem hasFB_yes {y : Sy} (hy : SyOk y) {i : Nat} (hi : i < y.fs.length) : hasFB y i = true := by
  unfold hasFB
  rw [syB_yes hy, Bool.true_and, ixB_yes (by omega) (by omega)]
theorem tyOk_at {t : Ty} (h : tyOk t = true) {i : Nat} (hi : i < t.cos.length) : coOk t.sizes t.cos[i] = true := by
  simp only [tyOk, Bool.and_eq_true, List.all_eq_true] at h
  exact h.2 _ (List.getElem_mem hi)
/-- The result of a function for values of the types of its arguments is one of its type. -/
theorem fcallV_ok {y : Sy} (hy : SyOk y) {i : Nat} (hi : i < y.fs.length) {vs : List Int} (hv : InT (tsOf y.ty.sizes y.fs[i].args) vs) : hasV0 y.ty.sizes y.fs[i].res (fcallV y i vs) = true := by
  have hf := hy.each i hi
  have hfew : (tsOf y.ty.sizes y.fs[i].args).length ≤ 2 := by rw [tsOf_len]; exact hf.few
  have hp := plTo_bound hfew (tsOf_bound (tyOk_sizes hy.ty) hf.args) _ (Nat.le_refl _) hv.2
  have hl : (y.fs[i].table.length : Int) = prodTo (tsOf y.ty.sizes y.fs[i].args) (tsOf y.ty.sizes y.fs[i].args).length := by rw [tsOf_len, prodTo_cells _ _ _ (Nat.le_refl _)]; exact hf.len
  have e : fcallV y i vs = y.fs[i].table.getD (plTo (tsOf y.ty.sizes y.fs[i].args) vs (tsOf y.ty.sizes y.fs[i].args).length).toNat 0 := by
    rw [fcallV_yes (hasFB_yes hy hi), Int.toNat_natCast, getD_get hi, resV_yes hv]
  have hlt : (plTo (tsOf y.ty.sizes y.fs[i].args) vs (tsOf y.ty.sizes y.fs[i].args).length).toNat < y.fs[i].table.length := by omega
  rw [e, getD_get hlt]
  have ht := hf.table _ hlt
  exact hasV0_iff.2 ⟨hf.res.1, hf.res.2, ht.1, ht.2⟩
theorem args_in {y : Sy} {i : Nat} (hi : i < y.fs.length) {j : Nat} (hj : j < (y.fs.getD i default).args.length) {m : Mk} {v : Int} (hk : kindM y m = (y.fs.getD i default).args.getD j 0) (hv : hasV0 y.ty.sizes (kindM y m) v = true) : 0 ≤ v ∧ v < (tsOf y.ty.sizes y.fs[i].args).getD j 0 := by
  rw [getD_get hi] at hj hk
  rw [tsOf_get _ _ hj, ← hk]
  exact (hasV0_iff.1 hv).2.2
/-- The value of an explicit term is one of its type. -/
theorem valM_ok {y : Sy} (hy : SyOk y) : ∀ {m : Mk}, MkOk y m → hasV0 y.ty.sizes (kindM y m) (valM y m) = true
  | .lit _ _, h => h.2.2
  | .co i m, h => by
    have hi := h.1
    have ih := hasV0_iff.1 (valM_ok hy (m := m) h.2.2.1)
    have hco := coOk_of (tyOk_at hy.ty h.1)
    rw [h.2.2.2, getD_get h.1] at ih
    have hlt : (valM y m).toNat < y.ty.cos[i].map.length := by omega
    have hm := hco.2.2.2.2 _ hlt
    have e : valM y (.co i m) = y.ty.cos[i].map[(valM y m).toNat] := by
      show lookOf (y.ty.cos.getD i default).map (valM y m) = _
      rw [getD_get h.1, lookOf, if_pos ⟨ih.2.2.1, by omega⟩, getD_get hlt]
    have ek : kindM y (.co i m) = y.ty.cos[i].dst := by show (y.ty.cos.getD i default).dst = _; rw [getD_get h.1]
    rw [e, ek]
    exact hasV0_iff.2 ⟨by omega, hco.2.2.1, hm.1, by omega⟩
  | .a0 i, h => by
    have hi := h.1
    have ek : kindM y (.a0 i) = y.fs[i].res := by show (y.fs.getD i default).res = _; rw [getD_get h.1]
    have hl : y.fs[i].args.length = 0 := by have := h.2.2; rwa [getD_get hi] at this
    rw [ek]
    exact fcallV_ok hy h.1 ⟨by rw [tsOf_len, hl]; rfl, fun j hj => by rw [tsOf_len] at hj; omega⟩
  | .a1 i m, h => by
    have hi := h.1
    have ek : kindM y (.a1 i m) = y.fs[i].res := by show (y.fs.getD i default).res = _; rw [getD_get h.1]
    have hl : y.fs[i].args.length = 1 := by have := h.2.2.1; rwa [getD_get h.1] at this
    have i1 := args_in h.1 (j := 0) (by rw [h.2.2.1]; omega) h.2.2.2.2 (valM_ok hy (m := m) h.2.2.2.1)
    rw [ek]
    refine fcallV_ok hy h.1 ⟨by rw [tsOf_len, hl]; rfl, fun j hj => ?_⟩
    rw [tsOf_len] at hj
    obtain rfl : j = 0 := by omega
    exact i1
  | .a2 i m p, h => by
    have hi := h.1
    have ek : kindM y (.a2 i m p) = y.fs[i].res := by show (y.fs.getD i default).res = _; rw [getD_get h.1]
    have hl : y.fs[i].args.length = 2 := by have := h.2.2.1; rwa [getD_get h.1] at this
    have i1 := args_in h.1 (j := 0) (by rw [h.2.2.1]; omega) h.2.2.2.2.2.1 (valM_ok hy (m := m) h.2.2.2.1)
    have i2 := args_in h.1 (j := 1) (by rw [h.2.2.1]; omega) h.2.2.2.2.2.2 (valM_ok hy (m := p) h.2.2.2.2.1)
    rw [ek]
    refine fcallV_ok hy h.1 ⟨by rw [tsOf_len, hl]; rfl, fun j hj => ?_⟩
    rw [tsOf_len] at hj
    have : j = 0 ∨ j = 1 := by omega
    rcases this with rfl | rfl
    · exact i1
    · exact i2
theorem valM_small {y : Sy} (hy : SyOk y) {m : Mk} (h : MkOk y m) : 0 ≤ valM y m ∧ valM y m ≤ 3 ∧ I64 (valM y m) := by
  have hv := hasV0_iff.1 (valM_ok hy h)
  obtain ⟨_, _, h4⟩ := sizesOk_of (tyOk_sizes hy.ty)
  have hk : (kindM y m).toNat < y.ty.sizes.length := by omega
  have := h4 _ hk
  rw [getD_get hk] at hv
  unfold I64
  omega
/-- What a call is of: the values of its arguments are of their types. -/
theorem inT_ok {y : Sy} (hy : SyOk y) {i : Nat} {ms : List Mk} (h2 : ms.length ≤ 2) (h : MkOk y (mkA i ms)) : ∃ hi : i < y.fs.length, InT (tsOf y.ty.sizes y.fs[i].args) (ms.map (valM y)) := by
  match ms, h2, h with
  | [], _, h =>
    have hi := h.1
    have hl : y.fs[i].args.length = 0 := by have := h.2.2; rwa [getD_get hi] at this
    exact ⟨h.1, by rw [tsOf_len, hl]; rfl, fun j hj => by rw [tsOf_len] at hj; omega⟩
  | [m], _, h =>
    have hi := h.1
    have hl : y.fs[i].args.length = 1 := by have := h.2.2.1; rwa [getD_get h.1] at this
    have i1 := args_in h.1 (j := 0) (by rw [h.2.2.1]; omega) h.2.2.2.2 (valM_ok hy (m := m) h.2.2.2.1)
    refine ⟨h.1, by rw [tsOf_len, hl]; rfl, fun j hj => ?_⟩
    rw [tsOf_len] at hj
    obtain rfl : j = 0 := by omega
    exact i1
  | [m, p], _, h =>
    have hi := h.1
    have hl : y.fs[i].args.length = 2 := by have := h.2.2.1; rwa [getD_get h.1] at this
    have i1 := args_in h.1 (j := 0) (by rw [h.2.2.1]; omega) h.2.2.2.2.2.1 (valM_ok hy (m := m) h.2.2.2.1)
    have i2 := args_in h.1 (j := 1) (by rw [h.2.2.1]; omega) h.2.2.2.2.2.2 (valM_ok hy (m := p) h.2.2.2.2.1)
    refine ⟨h.1, by rw [tsOf_len, hl]; rfl, fun j hj => ?_⟩
    rw [tsOf_len] at hj
    have : j = 0 ∨ j = 1 := by omega
    rcases this with rfl | rfl
    · exact i1
    · exact i2
theorem valM_mkA (y : Sy) (i : Nat) (ms : List Mk) (h : ms.length ≤ 2) : valM y (mkA i ms) = fcallV y i (ms.map (valM y)) := by
  match ms, h with
  | [], _ => rfl
  | [_], _ => rfl
  | [_, _], _ => rfl
theorem stM_64 {y : Sy} (hy : SyOk y) {m : Mk} (h : MkOk y m) : ∀ z ∈ stM y m, I64 z := by
  intro z hz
  obtain ⟨p, hp, rfl⟩ := List.mem_map.1 hz
  exact (valM_small hy (itM_ok h p hp)).2.2
end Go.Proofs.YtgkfddhhkjblgaaGreatDoor

