/-
  The reference's Without and With.
-/
import Derived.Test.YteamnjaepgfcmaaGet
import Derived.Test.YteamnjaepgfcmaaWith
import Derived.Deep.CutBlock
import Derived.Deep.DeepCutAuto
namespace Go.Proofs.Yteamnjaepgfcmaa
open Go.RowKit Go.Sort Go.Lib
set_option linter.unusedVariables false
theorem own_up {w w' : World} {base s n : Nat} {e : TypeId} {v : Value} {xs : List Value} (h : w.ownsRow base e s v n xs) (hb : Below w.heap.size w w') : w'.ownsRow base e s v n xs := by
  refine ⟨h.1, ?_⟩
  rcases h.2 with q | ⟨g, cap, cur, q1, q2, q3, q4⟩
  · exact .inl q
  · exact .inr ⟨g, cap, cur, q1, q2, (hb.block g (Array.getElem?_eq_some_iff.1 q3).1).trans q3, q4⟩
set_option maxHeartbeats 4000000 in
theorem refWithout_any (A : Option Addr) (c : Nat) (l : List At) (n : ByteArray) (w : World) (h : TRow w w.heap.size A l) (hl : l.length ≤ 1000000) :
    Calls Try.prog 18 #[.slice A l.length c, .string n] w (WoutPost w l n) := by
  obtain ⟨i0, hi, hz0, hz1, hz2⟩ := info_parts Try.info56
  have H := Lib.hid h
  clear h
  go_enter Try.func18, Try.ntmps18
  go_wp2
  go_loopg [6, 7, 10] l.length (fun g s6 _ s10 wr => ∃ k : Nat, s10 = .int .i64 k ∧ k ≤ l.length ∧ l.length - k ≤ g ∧ RowKit.Hid (wr.ownsRow w.heap.size 56 2 s6 (withoutL (l.take k) n).length (ats (withoutL (l.take k) n))) ∧ RowKit.Hid (Below w.heap.size w wr))
  case atStart => exact ⟨0, rfl, by omega, by omega, Lib.hid ⟨rfl, .inl ⟨rfl, rfl⟩⟩, Lib.hid (Below.refl _ _)⟩
  case round =>
    obtain ⟨k, rfl, hk, hg, HO, HB⟩ := hrel
    by_cases hlt : k < l.length
    · have h1 : (k : Int) < (l.length : Int) := by omega
      obtain ⟨b, off, x, rfl, hb, hx, c1, c2⟩ := trow_at (H.out.up HB.out) hlt
      have hlen := without_le (l.take k) n
      have hlen2 : (l.take k).length ≤ k := by simp; omega
      have hbyt : (withoutL (l.take k) n).length + 1 ≤ 10000000 := by omega
      have HWT := Lib.hid (without_take (n := n) hlt)
      rw [← hx] at HWT
      clear hx hlen hlen2
      have hsz := HB.out.size
      by_cases he : x.1 = n
      · have hq : (x.1.toList == n.toList) = true := by rw [eqB]; exact decide_eq_true he
        have HE := Lib.hid (show withoutL (l.take (k + 1)) n = withoutL (l.take k) n by rw [HWT.out, if_pos he, List.append_nil])
        clear he HWT
        go_wp2_with fail
        go_roundg (l.length - (k + 1))
        case measure => omega
        case rel => exact ⟨k + 1, by go_num, by omega, by omega, Lib.hid (by rw [HE.out]; exact HO.out), HB⟩
      · have hq : (x.1.toList == n.toList) = false := by rw [eqB]; exact decide_eq_false he
        have HE := Lib.hid (show withoutL (l.take (k + 1)) n = withoutL (l.take k) n ++ [x] by rw [HWT.out, if_neg he])
        clear he HWT
        go_wp2_with (at_builtin; refine wpList_app2 rfl _ _ 22 rfl w.heap.size 56 i0 _ Try.underlying22 hi hz0 hz1 hz2 rfl _ _ _ rfl HO.out x _ (by simp) rfl hbyt hsz ?_; intro v1 w3 hown2 hb2)
        have HB3 := Lib.hid (HB.out.trans hb2)
        have HO3 := Lib.hid (own_ats (zs := withoutL (l.take (k + 1)) n) hown2 (by rw [HE.out, ats_append]; simp [ats]) (by rw [HE.out]; simp))
        clear hown2 hb2
        go_roundg (l.length - (k + 1))
        case measure => omega
        case rel => exact ⟨k + 1, by go_num, by omega, by omega, HO3, HB3⟩
    · have h1 : ¬ (k : Int) < (l.length : Int) := by omega
      have e : l.take k = l := List.take_of_length_le (by omega)
      rw [e] at HO
      clear e
      obtain ⟨A', c', rfl, hp⟩ := wout_own HO.out HB.out
      have HP := Lib.hid hp
      clear hp
      generalize (withoutL l n).length = m at HP
      go_wp2_with fail
      go_ret2
      exact HP.out
/-- The place as far as it has been looked for. -/
def ToRel (l : List At) (n : ByteArray) (t : Nat) : Prop := ∀ j, (hj : j < l.length) → j < t → ¬ 0 < cmpN l[j].1 n
/-- With, an element at a time, where the name is not there. -/
def insTo (l : List At) (n v : ByteArray) (t i : Nat) : List At := if i ≤ t then l.take i else l.take t ++ (n, v) :: (l.drop t).take (i - t)
theorem insTo_step {l : List At} {n v : ByteArray} {t i : Nat} (hi : i < l.length) : insTo l n v t (i + 1) = insTo l n v t i ++ (if i = t then [(n, v), l[i]] else [l[i]]) := by
  unfold insTo
  by_cases h1 : i + 1 ≤ t
  · rw [if_pos h1, if_pos (by omega), if_neg (by omega), take_succ' l i hi]
  · by_cases h2 : i = t
    · subst h2
      rw [if_neg h1, if_pos (Nat.le_refl _), if_pos rfl]
      have : (l.drop i).take (i + 1 - i) = [l[i]] := by rw [show i + 1 - i = 1 by omega, drop_cons' l i hi]; rfl
      rw [this]
    · rw [if_neg h1, if_neg (by omega), if_neg h2]
      have h3 : i - t < (l.drop t).length := by simp; omega
      rw [show i + 1 - t = (i - t) + 1 by omega, take_succ' _ (i - t) h3]
      have : (l.drop t)[i - t] = l[i] := by simp [show t + (i - t) = i by omega]
      rw [this]
      simp
theorem insTo_end {l : List At} {n v : ByteArray} {t : Nat} (ht : t ≤ l.length) : insTo l n v t l.length ++ (if t = l.length then [(n, v)] else []) = l.take t ++ (n, v) :: l.drop t := by
  unfold insTo
  by_cases h : t = l.length
  · subst h
    simp
  · rw [if_neg (by omega), if_neg h, show (l.drop t).take (l.length - t) = l.drop t from List.take_of_length_le (by simp)]
    simp
theorem insTo_zero (l : List At) (n v : ByteArray) (t : Nat) (w wc : World) : wc.ownsRow w.heap.size 56 2 (.slice none 0 0) (insTo l n v t 0).length (ats (insTo l n v t 0)) := by
  have : insTo l n v t 0 = [] := by simp [insTo]
  rw [this]
  exact ⟨rfl, .inl ⟨rfl, rfl⟩⟩
theorem insTo_le (l : List At) (n v : ByteArray) (t i : Nat) : (insTo l n v t i).length ≤ l.length + 1 := by
  unfold insTo
  split <;> simp <;> omega
set_option maxHeartbeats 4000000 in
set_option maxRecDepth 100000 in
theorem refWith_any (A : Option Addr) (c : Nat) (l : List At) (n v : ByteArray) (w : World) (h : TRow w w.heap.size A l) (hl : l.length ≤ 100000) (hs : Short l) (hn : n.size ≤ 10000000) :
    Calls Try.prog 20 #[.slice A l.length c, .string n, .string v] w (MadeA w (withL l n v)) := by
  obtain ⟨i0, hi, hz0, hz1, hz2⟩ := info_parts Try.info56
  have H := Lib.hid h; have HSH := Lib.hid hs
  have HFI := Lib.hid (find_any A c l n w h (by omega))
  clear h hs
  go_enter Try.func20, Try.ntmps20
  go_wp2_with fail
  refine HFI.out.mono ?_
  rintro e w1 ⟨r, rfl, hr, hww⟩
  have hww := hww.symm
  subst hww
  have HR := Lib.hid hr
  clear hr HFI
  go_upto_block 0 with fail
  go_cut [8] from 15 to 30 (fun s8 wc => ∃ t q : Nat, s8 = .int .i64 t ∧ RowKit.Hid (PlaceAt l n t) ∧ RowKit.Hid (wc = w.drewN q))
  case first =>
    go_wp2_with fail
    go_loopg [8] l.length (fun g s8 wr => ∃ t q : Nat, s8 = .int .i64 t ∧ t ≤ l.length ∧ l.length - t ≤ g ∧ RowKit.Hid (ToRel l n t) ∧ RowKit.Hid (wr = w.drewN q))
    case atStart => exact ⟨0, 0, rfl, by omega, by omega, Lib.hid (fun j _ hj => by omega), Lib.hid rfl⟩
    case round =>
      obtain ⟨t, q, rfl, ht, hg, HT, HW⟩ := hrel
      by_cases hlt : t < l.length
      · have h1 : (t : Int) < (l.length : Int) := by omega
        obtain ⟨b, off, x, rfl, hb, hx, c1, c2⟩ := trow_at (show TRow wr wr.heap.size A l by rw [HW.out]; exact H.out) hlt
        have hxm : x ∈ l := by rw [hx]; exact List.getElem_mem _
        have HC := Lib.hid (refCompare_any x.1 n wr (by have := (HSH.out x hxm).1; omega) (by omega))
        have HX := Lib.hid hx
        clear hx hxm
        by_cases hc : 0 < cmpN x.1 n
        · have hc2 : ¬ cmpN x.1 n ≤ 0 := by omega
          have HP := Lib.hid (show PlaceAt l n t from ⟨by omega, HT.out, fun _ => by rw [← HX.out]; exact hc⟩)
          clear hc
          generalize cmpN x.1 n = cv at HC hc2
          go_wp2_with fail
          refine HC.out.mono ?_
          rintro e w2 ⟨rfl, q2, rfl⟩
          go_wp2_with fail
          go_meet
          case rel => exact ⟨t, q + q2, rfl, HP, Lib.hid (by rw [HW.out, World.drewN_drewN])⟩
        · have hc2 : cmpN x.1 n ≤ 0 := by omega
          have HC2 := Lib.hid hc2
          clear hc
          generalize cmpN x.1 n = cv at HC hc2
          go_wp2_with fail
          refine HC.out.mono ?_
          rintro e w2 ⟨rfl, q2, rfl⟩
          go_wp2_with fail
          go_roundg (l.length - (t + 1))
          case measure => omega
          case rel =>
            refine ⟨t + 1, q + q2, by go_num, by omega, by omega, Lib.hid (fun j hj hjt => ?_), Lib.hid (by rw [HW.out, World.drewN_drewN])⟩
            rcases Nat.lt_or_ge j t with h3 | h3
            · exact HT.out j hj h3
            · have : j = t := by omega
              subst this
              rw [← HX.out]; have := HC2.out; omega
      · have h1 : decide ((t : Int) < (l.length : Int)) = false := decide_eq_false (by omega)
        have h1' : decide (t < l.length) = false := decide_eq_false (by omega)
        have HP := Lib.hid (show PlaceAt l n t from ⟨by omega, HT.out, fun h => absurd h hlt⟩)
        go_wp2_with fail
        go_meet
        case rel => exact ⟨t, q, rfl, HP, HW⟩
  case rest =>
  obtain ⟨t, q, rfl, HP, HW⟩ := hcut
  have HB0 := Lib.hid (show Below w.heap.size w wc by rw [HW.out]; exact below_drewN _ _ _)
  have htl := HP.out.1
  clear HW
  rcases HR.out with ⟨k, hk, rfl, h1, h2⟩ | ⟨rfl, h1⟩
  · have HE := Lib.hid (with_hit (v := v) hk h1 h2)
    have HNM := Lib.hid h1
    clear h1 h2 HR HP
    have hkn : decide ((k : Int) < 0) = false := decide_eq_false (by omega)
    obtain ⟨s, hs⟩ : ∃ s, s = l.set k (n, v) := ⟨_, rfl⟩
    have hsl : s.length = l.length := by rw [hs]; simp
    have HSS := Lib.hid hs; have HSL := Lib.hid hsl
    rw [← hs] at HE
    clear hs hsl
    go_wp2_with fail
    go_loopg [9, 10, 11, 33] l.length (fun g s9 _ _ s33 wr => ∃ i : Nat, s33 = .int .i64 i ∧ i ≤ l.length ∧ l.length - i ≤ g ∧ RowKit.Hid (wr.ownsRow w.heap.size 56 2 s9 (s.take i).length (ats (s.take i))) ∧ RowKit.Hid (Below w.heap.size w wr))
    case atStart => exact ⟨0, rfl, by omega, by omega, Lib.hid ⟨rfl, .inl ⟨rfl, rfl⟩⟩, HB0⟩
    case round =>
      obtain ⟨i, rfl, hil, hg, HO, HB⟩ := hrel
      by_cases hlt : i < l.length
      · have h3 : (i : Int) < (l.length : Int) := by omega
        obtain ⟨b, off, x, rfl, hb, hx, c1, c2⟩ := trow_at (H.out.up HB.out) hlt
        have hsi : i < s.length := by rw [HSL.out]; exact hlt
        have HTS := Lib.hid (take_succ' s i hsi)
        have hbyt : (s.take i).length + 1 ≤ 10000000 := by simp; omega
        by_cases hik : i = k
        · have hq : ((i : Int) == (k : Int)) = true := by rw [hik]; simp
          have hq2 : (i == k) = true := by rw [hik]; simp
          have hxn : x.1 = n := by rw [hx]; subst hik; exact HNM.out
          have HV := Lib.hid (show s[i] = (x.1, v) by have := HSS.out; subst this; subst hik; rw [hxn]; simp)
          clear hx hik hxn
          have HBW := Lib.hid (show Below wr.heap.size wr ((wr.alloc (.cells #[.string x.1, .string x.2] 56)).setCell ⟨wr.heap.size, 1, none⟩ (.string v)) from ((Below.refl _ wr).alloc (Nat.le_refl _) _).setCell (Nat.le_refl _) _)
          have HBW2 := Lib.hid (show Below wr.heap.size wr (wr.alloc (.cells #[.string x.1, .string v] 56)) from (Below.refl _ wr).alloc (Nat.le_refl _) _)
          have hsz1 : w.heap.size ≤ (wr.alloc (.cells #[.string x.1, .string v] 56)).heap.size := Nat.le_trans HB.out.size HBW2.out.size
          have HO1 := Lib.hid (own_up HO.out HBW2.out)
          have HB1 := Lib.hid (HB.out.trans (HBW2.out.mono HB.out.size))
          go_wp2_with (at_builtin; refine wpList_app2 (p := (x.1, v)) rfl _ _ 22 rfl w.heap.size 56 i0 _ Try.underlying22 hi hz0 hz1 hz2 rfl _ _ _ rfl HO1.out _ (by simp) rfl hbyt hsz1 ?_; intro v1 w3 hown2 hb2)
          have HB3 := Lib.hid (HB1.out.trans hb2)
          have HO3 := Lib.hid (own_ats (zs := s.take (i + 1)) hown2 (by rw [HTS.out, ats_append, HV.out]; simp [ats]) (by rw [HTS.out, List.length_append]; rfl))
          clear hown2 hb2
          go_roundg (l.length - (i + 1))
          case measure => omega
          case rel => exact ⟨i + 1, by go_num, by omega, by omega, HO3, HB3⟩
        · have hq : ((i : Int) == (k : Int)) = false := by rw [beq_eq_false_iff_ne]; omega
          have hq2 : (i == k) = false := by rw [beq_eq_false_iff_ne]; omega
          have HV := Lib.hid (show s[i] = x by rw [hx]; have := HSS.out; subst this; simp [Ne.symm hik])
          clear hx hik
          have HB1 := Lib.hid (HB.out.alloc HB.out.size (.cells #[.string x.1, .string x.2] 56))
          have hsz1 : w.heap.size ≤ (wr.alloc (.cells #[.string x.1, .string x.2] 56)).heap.size := HB1.out.size
          have HO1 := Lib.hid (World.ownsRow.alloc HO.out (.cells #[.string x.1, .string x.2] 56))
          go_wp2_with (at_builtin; refine wpList_app2 rfl _ _ 22 rfl w.heap.size 56 i0 _ Try.underlying22 hi hz0 hz1 hz2 rfl _ _ _ rfl HO1.out x _ (by simp) rfl hbyt hsz1 ?_; intro v1 w3 hown2 hb2)
          have HB3 := Lib.hid (HB1.out.trans hb2)
          have HO3 := Lib.hid (own_ats (zs := s.take (i + 1)) hown2 (by rw [HTS.out, ats_append, HV.out]; simp [ats]) (by rw [HTS.out, List.length_append]; rfl))
          clear hown2 hb2
          go_roundg (l.length - (i + 1))
          case measure => omega
          case rel => exact ⟨i + 1, by go_num, by omega, by omega, HO3, HB3⟩
      · have h3 : ¬ (i : Int) < (l.length : Int) := by omega
        have e : s.take i = s := List.take_of_length_le (by rw [HSL.out]; omega)
        rw [e] at HO
        clear e
        go_wp2_with fail
        go_ret
        exact ⟨_, rfl, by rw [HE.out]; exact HO.out, HB.out⟩
  · have HE := Lib.hid (with_miss (v := v) h1 HP.out)
    clear h1 HR HP
    go_wp2_with fail
    go_loopg [9, 10, 11, 33] l.length (fun g s9 _ _ s33 wr => ∃ i : Nat, s33 = .int .i64 i ∧ i ≤ l.length ∧ l.length - i ≤ g ∧ RowKit.Hid (wr.ownsRow w.heap.size 56 2 s9 (insTo l n v t i).length (ats (insTo l n v t i))) ∧ RowKit.Hid (Below w.heap.size w wr))
    case atStart => exact ⟨0, rfl, by omega, by omega, Lib.hid (insTo_zero l n v t w wc), HB0⟩
    case round =>
      obtain ⟨i, rfl, hil, hg, HO, HB⟩ := hrel
      have hle := insTo_le l n v t i
      by_cases hlt : i < l.length
      · have h3 : (i : Int) < (l.length : Int) := by omega
        obtain ⟨b, off, x, rfl, hb, hx, c1, c2⟩ := trow_at (H.out.up HB.out) hlt
        have HST := Lib.hid (insTo_step (n := n) (v := v) (t := t) hlt)
        rw [← hx] at HST
        have hbyt : (insTo l n v t i).length + 1 ≤ 10000000 := by omega
        have hq0 : ((i : Int) == (-1 : Int)) = false := by rw [beq_eq_false_iff_ne]; omega
        have hsz := HB.out.size
        clear hx
        by_cases hit : i = t
        · have hq : ((i : Int) == (t : Int)) = true := by rw [hit]; simp
          have hq2 : (i == t) = true := by rw [hit]; simp
          have HS2 := Lib.hid (show insTo l n v t (i + 1) = (insTo l n v t i ++ [(n, v)]) ++ [x] by rw [HST.out, if_pos hit]; simp)
          clear hit HST
          obtain ⟨b', off', hA', hb', -⟩ := (H.out.below HB.out) (show 0 < l.length by omega)
          obtain ⟨rfl, rfl⟩ : b = b' ∧ off = off' := by simpa using hA'
          clear hA'
          have hbyt2 : (insTo l n v t i).length + 1 + 1 ≤ 10000000 := by omega
          go_wp2_with (first
            | (at_builtin; refine wpList_app2 rfl _ _ 22 rfl w.heap.size 56 i0 _ Try.underlying22 hi hz0 hz1 hz2 rfl _ _ _ rfl HOx.out x _ (by simp) rfl hbyt2 hszx ?_; intro v2 w4 hown3 hb3)
            | (at_builtin; refine wpList_app2 (p := (n, v)) rfl _ _ 22 rfl w.heap.size 56 i0 _ Try.underlying22 hi hz0 hz1 hz2 rfl _ _ _ rfl HO.out _ (by simp) rfl hbyt hsz ?_; intro v1 w3 hown2 hb2
               have d1 : w3.cell? ⟨b, off + i * 2, none⟩ = some (.string x.1) := (hb2.cell (p := ⟨b, off + i * 2, none⟩) hb').trans c1
               have d2 : w3.cell? ⟨b, off + i * 2 + 1, none⟩ = some (.string x.2) := (hb2.cell (p := ⟨b, off + i * 2 + 1, none⟩) hb').trans c2
               have HOx := Lib.hid (World.ownsRow.alloc hown2 (.cells #[.string x.1, .string x.2] 56))
               have HBx := Lib.hid ((HB.out.trans hb2).alloc (Nat.le_trans hsz hb2.size) (.cells #[.string x.1, .string x.2] 56))
               have hszx : w.heap.size ≤ (w3.alloc (.cells #[.string x.1, .string x.2] 56)).heap.size := HBx.out.size
               clear hown2 hb2))
          have HB3 := Lib.hid (HBx.out.trans hb3)
          have HO3 := Lib.hid (own_ats (zs := insTo l n v t (i + 1)) hown3 (by rw [HS2.out, ats_append, ats_append]; simp [ats]) (by rw [HS2.out, List.length_append, List.length_append]; rfl))
          clear hown3 hb3
          go_roundg (l.length - (i + 1))
          case measure => omega
          case rel => exact ⟨i + 1, by go_num, by omega, by omega, HO3, HB3⟩
        · have hq : ((i : Int) == (t : Int)) = false := by rw [beq_eq_false_iff_ne]; omega
          have hq2 : (i == t) = false := by rw [beq_eq_false_iff_ne]; omega
          have HS2 := Lib.hid (show insTo l n v t (i + 1) = insTo l n v t i ++ [x] by rw [HST.out, if_neg hit])
          clear hit HST
          have HB1 := Lib.hid (HB.out.alloc HB.out.size (.cells #[.string x.1, .string x.2] 56))
          have hsz1 : w.heap.size ≤ (wr.alloc (.cells #[.string x.1, .string x.2] 56)).heap.size := HB1.out.size
          have HO1 := Lib.hid (World.ownsRow.alloc HO.out (.cells #[.string x.1, .string x.2] 56))
          go_wp2_with (at_builtin; refine wpList_app2 rfl _ _ 22 rfl w.heap.size 56 i0 _ Try.underlying22 hi hz0 hz1 hz2 rfl _ _ _ rfl HO1.out x _ (by simp) rfl hbyt hsz1 ?_; intro v1 w3 hown2 hb2)
          have HB3 := Lib.hid (HB1.out.trans hb2)
          have HO3 := Lib.hid (own_ats (zs := insTo l n v t (i + 1)) hown2 (by rw [HS2.out, ats_append]; simp [ats]) (by rw [HS2.out, List.length_append]; rfl))
          clear hown2 hb2
          go_roundg (l.length - (i + 1))
          case measure => omega
          case rel => exact ⟨i + 1, by go_num, by omega, by omega, HO3, HB3⟩
      · have h3 : ¬ (i : Int) < (l.length : Int) := by omega
        have e : i = l.length := by omega
        have HEN := Lib.hid (insTo_end (n := n) (v := v) htl)
        rw [e] at HO hle
        clear e
        have hbyt : (insTo l n v t l.length).length + 1 ≤ 10000000 := by omega
        have hsz := HB.out.size
        by_cases htl2 : t = l.length
        · have hq : ((t : Int) == (l.length : Int)) = true := by rw [htl2]; simp
          have hq2 : (t == l.length) = true := by rw [htl2]; simp
          have HE2 := Lib.hid (show withL l n v = insTo l n v t l.length ++ [(n, v)] by rw [HE.out, ← HEN.out, if_pos htl2])
          clear htl2 HEN
          go_wp2_with (at_builtin; refine wpList_app2 (p := (n, v)) rfl _ _ 22 rfl w.heap.size 56 i0 _ Try.underlying22 hi hz0 hz1 hz2 rfl _ _ _ rfl HO.out _ (by simp) rfl hbyt hsz ?_; intro v1 w3 hown2 hb2)
          go_ret
          exact ⟨_, rfl, own_ats (zs := withL l n v) hown2 (by rw [HE2.out, ats_append]; simp [ats]) (by rw [HE2.out, List.length_append]; rfl), HB.out.trans hb2⟩
        · have hq : ((t : Int) == (l.length : Int)) = false := by rw [beq_eq_false_iff_ne]; omega
          have hq2 : (t == l.length) = false := by rw [beq_eq_false_iff_ne]; omega
          have HE2 := Lib.hid (show withL l n v = insTo l n v t l.length by rw [HE.out, ← HEN.out, if_neg htl2, List.append_nil])
          clear htl2 HEN
          go_wp2_with fail
          go_ret
          exact ⟨_, rfl, by rw [HE2.out]; exact HO.out, HB.out⟩
end Go.Proofs.Yteamnjaepgfcmaa
