/-
  The contract of the model's l6Parts.
-/
import Derived.Test.YtcecljolnknapaaDoorSh6
import Derived.Laws.DeepStrings4
namespace Go.Proofs.YtcecljolnknapaaDoor
open Go.RowKit

theorem slice_str (s : ByteArray) (i j : Nat) (hij : i ≤ j) (hj : j ≤ s.size) (z y : Int) (hz : z = i) (hy : y = j) (w : World) : (Instr.slice 9 (.string s) (some (.int .i64 z)) (some (.int .i64 y)) none).run Tryd.prog w = .ok (.string (s.extract i j)) w := by
  subst hz; subst hy
  rw [run_slice_string_if w 9 s .i64 .i64 i j Tryd.underlying9]
  simp [hij, hj]
/-- The text from a part on. -/
def restT : List Tm → List UInt8
  | [] => []
  | [p] => tmT p ++ [41]
  | p :: p2 :: r => tmT p ++ 44 :: restT (p2 :: r)
theorem restT_cons (p : Tm) (r : List Tm) : restT (p :: r) = tmT p ++ (if r = [] then 41 else 44) :: restT r := by
  cases r with
  | nil => rfl
  | cons p2 r => rfl
theorem call_text {t : Tm} (hc : isCallT t = true) (hn : partsT t ≠ []) : ∃ n, tmT t = n :: 40 :: restT (partsT t) := by
  cases t with
  | lit k v => cases hc
  | c0 n => exact absurd rfl hn
  | c1 n a => exact ⟨n, by simp [tmT, partsT, restT]⟩
  | c2 n a b => exact ⟨n, by simp [tmT, partsT, restT]⟩
theorem call_zero {t : Tm} (hc : isCallT t = true) (hn : partsT t = []) : ∃ n, tmT t = [n, 40, 41] := by
  cases t with
  | lit k v => cases hc
  | c0 n => exact ⟨n, rfl⟩
  | c1 n a => cases hn
  | c2 n a b => cases hn
theorem below_own {w w' w'' : World} {N : Nat} {t : TypeId} {v : Value} {n : Nat} {xs : List Value} (hb : Below N w w') (ho : w'.ownsRow N t 1 v n xs) (hg : w'.grownBy w'' v.ownBlock) (hs : N ≤ w'.heap.size) : Below N w w'' :=
  hb.grown hg hs (fun j hj => by
    obtain ⟨_, ⟨e, _⟩ | ⟨g, cap3, cur, e, hg', _⟩⟩ := ho
    · rw [e] at hj; simp [Value.ownBlock] at hj
    · rw [e] at hj; simp [Value.ownBlock] at hj; omega)
def strV (ts : List Tm) : List Value := ts.map fun p => Value.string (str (tmT p))

set_option maxRecDepth 100000 in
set_option maxHeartbeats 4000000 in
theorem l6Parts_any (t : Tm) (ho : TmOk t) (hc : isCallT t = true) (w : World) (hm : (tmT t).length ≤ 1048576) :
    Calls Tryd.prog 48 #[.string (str (tmT t))] w fun e w' => ∃ v, e = .returned v ∧ Below w.heap.size w w' ∧ w'.ownsRow w.heap.size 9 1 v (partsT t).length (strV (partsT t)) := by
  obtain ⟨i0, hi0, hz0, hz1, hz2⟩ := info_parts (show (Tryd.prog.info? 9).map (fun i => (i.zero, i.size, i.bytes)) = some (some (.string ⟨#[]⟩), 1, 16) by kernel_rfl)
  have Hb0 : Hid (Below w.heap.size w (w.alloc (.cells #[] 9))) := (Below.refl _ _).alloc (Nat.le_refl _) _
  have Ho0 : Hid ((w.alloc (.cells #[] 9)).ownsRow w.heap.size 9 1 (.slice (some ⟨w.heap.size, 0, none⟩) 0 0) 0 []) := World.ownsRow_lit w #[] 0 (Nat.le_refl _) (by unfold maxLen; omega) rfl
  obtain ⟨ts, hts⟩ : ∃ ts, ts = partsT t := ⟨_, rfl⟩
  have h2 : ts.length ≤ 2 := by rw [hts]; exact partsT_two t
  obtain ⟨L, hLt⟩ : ∃ L, L = tmT t := ⟨_, rfl⟩
  rw [← hts, ← hLt]
  rw [← hLt] at hm
  have hsz := str_size L
  by_cases hn : ts = []
  · obtain ⟨nm, hL⟩ := call_zero hc (by rw [← hts]; exact hn)
    rw [← hLt] at hL
    have b1 : ∀ h, (str L)[1]'h = 40 := by subst hL; exact fun _ => rfl
    have b2 : ∀ h, (str L)[2]'h = 41 := by subst hL; exact fun _ => rfl
    have hl3 : L.length = 3 := by rw [hL]; rfl
    subst hn
    rw [hl3] at hsz
    clear hts hLt hL h2
    go_enter Tryd.func48, Tryd.ntmps48
    go_wp2_with fail
    go_loopw [3, 4] (fun o i wr => o = .slice (some ⟨w.heap.size, 0, none⟩) 0 0 ∧ i = .int .i64 2 ∧ Hid (Below w.heap.size w wr) ∧ Hid (wr.ownsRow w.heap.size 9 1 o 0 [])) (fun _ _ _ => 0)
    case atStart => exact ⟨rfl, rfl, Hb0.out, Ho0.out⟩
    case round =>
      obtain ⟨rfl, rfl, hb, hor⟩ := hrel
      go_wp2
      go_ret
      exact ⟨_, rfl, hb.out, hor.out⟩
  · obtain ⟨nm, hL⟩ := call_text hc (by rw [← hts]; exact hn)
    rw [← hLt, ← hts] at hL
    have hok : Hid (∀ p ∈ ts, TmOk p) := fun p hp => partsT_ok ho (by rw [← hts]; exact hp)
    have hpos : 0 < ts.length := List.length_pos_iff.2 hn
    have hl2 : 2 ≤ L.length := by rw [hL]; simp
    have hst : Hid (L[1]? = some 40 ∧ L.drop 2 = restT ts) := by show _ ∧ _; rw [hL]; exact ⟨rfl, rfl⟩
    clear hLt hL hn hts ho hc
    go_enter Tryd.func48, Tryd.ntmps48
    go_wp2_with fail
    go_loopw [3, 4] (fun o i wr => ∃ (k m : Nat) (c0 : UInt8), k ≤ ts.length ∧ m + 1 ≤ L.length ∧ i = .int .i64 ((m : Int) + 1) ∧ Hid (L[m]? = some c0) ∧ Hid (k = ts.length → c0 = 41) ∧ Hid (k < ts.length → c0 ≠ 41) ∧ Hid (L.drop (m + 1) = restT (ts.drop k)) ∧ Hid (Below w.heap.size w wr) ∧ Hid (wr.ownsRow w.heap.size 9 1 o k (strV (ts.take k)))) (fun _ i _ => L.length + 1 - (intOf i).toNat)
    case atStart => exact ⟨0, 1, 40, by omega, by omega, by go_num, hst.out.1, fun h => absurd h (by omega), fun _ => by decide, hst.out.2, Hb0.out, Ho0.out⟩
    case round =>
      clear Hb0 Ho0 hst
      obtain ⟨k, m, c0, hk, hmL, rfl, hm0, hend, hgo, hdr, hbr, hor⟩ := hrel
      have hbs := hbr.out.size
      have hb0 : ∀ h, (str L)[m]'h = c0 := fun h => by
        have h1 := cut_byte L m (by omega) h
        rw [h1]
        have h2 := hm0.out
        rw [List.getElem?_eq_getElem (by omega)] at h2
        exact Option.some.inj h2
      by_cases hkl : k < ts.length
      · have hne := hgo.out hkl
        have q0 : ((c0.toNat : Int) == 41) = decide (c0 = 41) := cut_eq c0 41
        rw [show decide (c0 = 41) = false by simpa using hne] at q0
        have n0 : ((c0.toNat : Int) != 41) = true := by simp only [bne, q0]; rfl
        have hdk : ts.drop k = ts[k] :: ts.drop (k + 1) := List.drop_eq_getElem_cons hkl
        have hokk := hok.out ts[k] (List.getElem_mem hkl)
        obtain ⟨c1, c1e⟩ : ∃ c1 : UInt8, c1 = if ts.drop (k + 1) = [] then 41 else 44 := ⟨_, rfl⟩
        have hdr2 : L.drop (m + 1) = tmT ts[k] ++ c1 :: restT (ts.drop (k + 1)) := by rw [hdr.out, hdk, restT_cons, c1e]
        have hpl := tmT_len hokk
        have hlen : m + 1 + (tmT ts[k]).length + 1 + (restT (ts.drop (k + 1))).length = L.length := by
          have h := congrArg List.length hdr2
          rw [List.length_drop, List.length_append, List.length_cons] at h
          omega
        obtain ⟨fc, fl, hfc, _, hfs⟩ := tmT_first hokk (c1 :: restT (ts.drop (k + 1)))
        obtain ⟨d', r', hd', by1, _⟩ := drop1 (L := L) (q := m + 1) (by omega)
        rw [hdr2, hfc] at hd'
        injection hd' with hd1 hd2
        subst hd1
        have hf41 : fc ≠ 41 := by rintro rfl; rcases hfs with h | h <;> exact absurd h (by decide)
        have q1 : ((fc.toNat : Int) == 41) = decide (fc = 41) := cut_eq fc 41
        rw [show decide (fc = 41) = false by simpa using hf41] at q1
        have n1 : ((fc.toNat : Int) != 41) = true := by simp only [bne, q1]; rfl
        obtain ⟨x, hx⟩ : ∃ x, x = m + 1 + (tmT ts[k]).length := ⟨_, rfl⟩
        have hE := end6_any L hm L.length (m + 1) wr (by omega) (by omega)
        have hEv : endZ L (endT L.length (L.drop (m + 1))) = (x : Int) := by
          rw [hdr2]
          unfold endT
          rw [rdTm_tmT L.length _ hokk (by omega)]
          show (L.length : Int) - ((c1 :: restT (ts.drop (k + 1))).length : Int) = _
          rw [List.length_cons]
          omega
        rw [hEv] at hE
        have HE : Hid (Calls Tryd.prog 44 #[.string (str L), .int .i64 ((m : Int) + 1)] wr fun e w' => e = .returned (.int .i64 x) ∧ w' = wr) := by show Calls _ _ _ _ _; exact hE
        have hss : Hid ((str L).extract (m + 1) x = str (tmT ts[k])) := by
          show _ = _
          rw [str_sub]
          unfold sub
          rw [hdr2, show x - (m + 1) = (tmT ts[k]).length by omega, List.take_left]
        have hx0 : Hid (L[x]? = some c1) := by
          show _ = _
          have h : L[x]? = (L.drop (m + 1))[(tmT ts[k]).length]? := by rw [List.getElem?_drop, hx]
          rw [h, hdr2, List.getElem?_append_right (Nat.le_refl _), Nat.sub_self]
          rfl
        have hxd : Hid (L.drop (x + 1) = restT (ts.drop (k + 1))) := by
          show _ = _
          have h : L.drop (x + 1) = (L.drop (m + 1)).drop ((tmT ts[k]).length + 1) := by rw [List.drop_drop]; congr 1; omega
          rw [h, hdr2, List.drop_append]
          simp
        have hc1 : Hid ((k + 1 = ts.length → c1 = 41) ∧ (k + 1 < ts.length → c1 ≠ 41)) := by
          show _ ∧ _
          constructor
          · intro h; rw [c1e, h, List.drop_length, if_pos rfl]
          · intro h; rw [c1e, if_neg (by intro hh; have := congrArg List.length hh; rw [List.length_drop] at this; simp at this; omega)]; decide
        have htk : Hid (strV (ts.take k) ++ [Value.string (str (tmT ts[k]))] = strV (ts.take (k + 1))) := by
          show _ = _
          rw [List.take_succ_eq_append_getElem hkl]
          unfold strV
          rw [List.map_append]
          rfl
        obtain ⟨pt, hpt⟩ : ∃ pt, pt = tmT ts[k] := ⟨_, rfl⟩
        rw [← hpt] at hss htk
        have hsl : ∀ w : World, (Instr.slice 9 (.string (str L)) (some (.int .i64 ((m : Int) + 1))) (some (.int .i64 x)) none).run Tryd.prog w = .ok (.string (str pt)) w := fun w => by rw [slice_str (str L) (m + 1) x (by omega) (by rw [hsz]; omega) ((m : Int) + 1) x (by omega) rfl w, hss.out]
        have hxx : m + 4 ≤ x ∧ x + 1 ≤ L.length := ⟨by omega, by omega⟩
        obtain ⟨hx1, hx2⟩ := hxx
        have hci : (m : Int) + 1 ≤ (x : Int) := by omega
        have hci2 : (x : Int) ≤ (L.length : Int) := by omega
        clear hdr2 hdr hdk hfc hd2 hE hEv hend hgo hm0 hpl hlen hokk hfs hne hf41 c1e hpt hx
        go_wp2_with fail
        refine HE.out.mono ?_
        rintro e w1 ⟨rfl, rfl⟩
        go_wp2_with (at_builtin; refine wpList_append_own _ rfl (.tmp 21) (.tmp 26) 24 rfl w.heap.size 9 i0 (.string ⟨#[]⟩) 1 16 Tryd.underlying24 hi0 hz0 hz1 hz2 rfl (by decide) _ _ _ rfl (hor.out.alloc _) ⟨w1.heap.size, 0, none⟩ 1 1 [.string (str pt)] rfl rfl ?c1 ?c2 ?c3 ?c4 ?c5 ?_)
        case c1 =>
          intro j u hj
          match j, hj with
          | 0, hj => simp at hj; subst hj; simp [Addr.add]
        case c2 => intro u hu; simp at hu; subst hu; rfl
        case c3 => unfold maxLen; omega
        case c4 => omega
        case c5 => simp; omega
        intro v2 w2 hown2 hgrow _
        have Hb2 := Lib.hid (below_own (hbr.out.alloc hbs _) (hor.out.alloc _) hgrow (by simp; omega))
        have Hown2 := Lib.hid hown2
        clear hown2 hgrow
        go_wp2
        go_roundw
        case rel => exact ⟨k + 1, x, c1, by omega, by omega, by go_num, hx0.out, hc1.out.1, hc1.out.2, hxd.out, Hb2.out, ownsRow_cast Hown2.out rfl htk.out⟩
        case measure => simp [intOf]; omega
      · have hke : k = ts.length := by omega
        have hce := hend.out hke
        have n0 : ((c0.toNat : Int) != 41) = false := by subst hce; rfl
        have htk : strV (ts.take k) = strV ts := by rw [hke, List.take_length]
        rw [htk, hke] at hor
        clear hgo hend hdr hm0
        go_wp2
        go_ret
        exact ⟨_, rfl, hbr.out, hor.out⟩
end Go.Proofs.YtcecljolnknapaaDoor
