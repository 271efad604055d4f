/-
  tendrillaw09.AttrsLooks: true, whatever the list, the name and the value.
-/
import Derived.Test.YteamnjaepgfcmaaValid
import Derived.Test.YteamnjaepgfcmaaLawC
namespace Go.Proofs.Yteamnjaepgfcmaa
open Go.RowKit Go.Sort Go.Lib
set_option linter.unusedVariables false
set_option maxHeartbeats 4000000 in
set_option maxRecDepth 100000 in
theorem looks_any (A : Option Addr) (c : Nat) (l : List At) (n v : ByteArray) (w : World) (h : TRow w w.heap.size A l) (hf : Fit l) (hm : l.length ≤ maxLen) (hcl : l.length ≤ c) (hcm : c ≤ maxLen) (hc0 : A = none → c = 0) (hn : n.size ≤ 140737488355328) (hv : v.size ≤ 140737488355328) :
    Calls Try.prog 4 #[.slice A l.length c, .string n, .string v] w (TrueB w) := by
  have HR := Lib.hid h
  have C1 := Lib.hid (heavy09_any A c l w h hf hm)
  clear h hm
  go_enter Try.func4, Try.ntmps4
  go_wp2_with fail
  refine C1.out.mono ?_
  rintro e w1 ⟨hb, rfl, hb1, hs⟩
  have HB1 := Lib.hid hb1
  cases hb with
  | true =>
    clear hs
    go_wp2_with fail
    refine (same09_any w1).mono ?_
    rintro e w2 ⟨rfl, hb2⟩
    go_wp2_with fail
    go_ret
    exact ⟨rfl, HB1.out.trans (hb2.mono HB1.out.size)⟩
  | false =>
    obtain ⟨hl, hsz⟩ := hs rfl
    have HSH := Lib.hid (few_short (by omega) hsz)
    have HR1 := Lib.hid (HR.out.up hb1)
    clear hs hsz hb1 C1
    by_cases hlong : (n.size : Int) + (v.size : Int) > 70000
    · go_wp2_with fail
      refine (same09_any w1).mono ?_
      rintro e w2 ⟨rfl, hb2⟩
      go_wp2_with fail
      go_ret
      exact ⟨rfl, HB1.out.trans (hb2.mono HB1.out.size)⟩
    · have hn2 : n.size ≤ 70000 := by omega
      have C2 := Lib.hid (get_any A c l n w1 HR1.out (by omega))
      unfold GetV at C2
      obtain ⟨gs, hgs⟩ : ∃ gs, gs = optS (getL l n) := ⟨_, rfl⟩
      obtain ⟨gb, hgb⟩ : ∃ gb, gb = (getL l n).isSome := ⟨_, rfl⟩
      rw [← hgs, ← hgb] at C2
      have HGS := Lib.hid hgs; have HGB := Lib.hid hgb
      clear hgs hgb
      go_wp2_with fail
      refine C2.out.mono ?_
      rintro e w2 ⟨rfl, hb2⟩
      have HB2 := Lib.hid (HB1.out.trans (hb2.mono HB1.out.size))
      have HR2 := Lib.hid (HR1.out.up hb2)
      have C3 := Lib.hid (refGet_any A c l n w2 HR2.out (by omega))
      unfold GetV at C3
      rw [← HGS.out, ← HGB.out] at C3
      clear hb2 C2
      go_wp2_with fail
      refine C3.out.mono ?_
      rintro e w3 ⟨rfl, rfl⟩
      have C4 := Lib.hid (with_any A c l n v w2 HR2.out (by omega) hcl hcm hc0)
      have hlw := len_with l n v
      have C4r : Hid (∀ W : World, TRow W W.heap.size A l → Calls Try.prog 20 #[.slice A l.length c, .string n, .string v] W (MadeA W (withL l n v))) := Lib.hid (fun W hW => refWith_any A c l n v W hW (by omega) HSH.out (by omega))
      have HGW := Lib.hid (get_with_self l n v)
      obtain ⟨wl, hwl⟩ : ∃ wl, wl = withL l n v := ⟨_, rfl⟩
      rw [← hwl] at C4 hlw C4r HGW
      clear hwl C3
      go_wp2_with fail
      refine C4.out.mono ?_
      rintro e w4 ⟨X, cx, rfl, hx, hxc, hxm, hx0, hb4⟩
      have HB4 := Lib.hid (HB2.out.trans (hb4.mono HB2.out.size))
      have HR4 := Lib.hid (HR2.out.up hb4)
      have HX4 := Lib.hid hx
      have C5 := Lib.hid (get_any X cx wl n w4 hx (by omega))
      unfold GetV at C5
      rw [HGW.out] at C5
      simp only [optS, Option.getD_some, Option.isSome_some] at C5
      clear hx hb4 C4 hxc hxm hx0
      go_wp2_with fail
      refine C5.out.mono ?_
      rintro e w5 ⟨rfl, hb5⟩
      have HB5 := Lib.hid (HB4.out.trans (hb5.mono HB4.out.size))
      have HR5 := Lib.hid (HR4.out.up hb5); have HX5 := Lib.hid (HX4.out.up hb5)
      have C6 := Lib.hid (without_any A c l n w5 HR5.out (by omega))
      have hwo := without_le l n
      have C6r : Hid (∀ W : World, TRow W W.heap.size A l → Calls Try.prog 18 #[.slice A l.length c, .string n] W (WoutPost W l n)) := Lib.hid (fun W hW => refWithout_any A c l n W hW (by omega))
      unfold WoutPost at C6 C6r
      obtain ⟨ol, hol⟩ : ∃ ol, ol = withoutL l n := ⟨_, rfl⟩
      rw [← hol] at C6 hwo
      simp only [← hol] at C6r
      generalize decide (ol.length < l.length) = ob at C6 C6r
      clear hol hb5 C5
      go_wp2_with fail
      refine C6.out.mono ?_
      rintro e w6 ⟨Y, cy, rfl, hy, hyc, hym, hy0, hb6⟩
      have HB6 := Lib.hid (HB5.out.trans (hb6.mono HB5.out.size))
      have HR6 := Lib.hid (HR5.out.up hb6); have HX6 := Lib.hid (HX5.out.up hb6); have HY6 := Lib.hid hy
      clear hy hyc hym hy0 hb6 C6
      go_wp2_with fail
      refine (C6r.out w6 HR6.out).mono ?_
      rintro e w7 ⟨Z, cz, rfl, hz, hzc, hzm, hz0, hb7⟩
      have HB7 := Lib.hid (HB6.out.trans (hb7.mono HB6.out.size))
      have HR7 := Lib.hid (HR6.out.up hb7); have HX7 := Lib.hid (HX6.out.up hb7); have HY7 := Lib.hid (HY6.out.up hb7); have HZ7 := Lib.hid hz
      clear hz hzc hzm hz0 hb7 C6r
      have hgq : (gb != gb) = false := by simp
      have hoq : (ob != ob) = false := by simp
      go_wp2_with fail
      refine (C4r.out w7 HR7.out).mono ?_
      rintro e w8 ⟨u8, rfl, ho8, hb8⟩
      obtain ⟨U, cu, rfl, hu, huc, hum, hu0⟩ := trow_own ho8
      have HB8 := Lib.hid (HB7.out.trans (hb8.mono HB7.out.size))
      have HX8 := Lib.hid (HX7.out.up hb8); have HY8 := Lib.hid (HY7.out.up hb8); have HZ8 := Lib.hid (HZ7.out.up hb8)
      have C9 := Lib.hid (attrs_any X U cx cu wl wl w8 HX8.out hu (by omega) (by omega))
      rw [decide_eq_true rfl] at C9
      clear ho8 hb8 C4r hu huc hum hu0
      go_wp2_with fail
      refine C9.out.mono ?_
      rintro e w9 ⟨rfl, q9, hw9⟩
      have HB9 := Lib.hid (show Below w.heap.size w w9 by rw [hw9]; exact HB8.out.trans (below_drewN _ _ _))
      have HY9 := Lib.hid (show TRow w9 w9.heap.size Y ol by rw [hw9]; exact HY8.out)
      have HZ9 := Lib.hid (show TRow w9 w9.heap.size Z ol by rw [hw9]; exact HZ8.out)
      have C10 := Lib.hid (attrs_any Y Z cy cz ol ol w9 HY9.out HZ9.out (by omega) (by omega))
      rw [decide_eq_true rfl] at C10
      clear hw9 C9
      go_wp2_with fail
      refine C10.out.mono ?_
      rintro e w10 ⟨rfl, q10, hw10⟩
      have HB10 := Lib.hid (show Below w.heap.size w w10 by rw [hw10]; exact HB9.out.trans (below_drewN _ _ _))
      clear hw10 C10
      go_wp2_with fail
      refine (same09_any w10).mono ?_
      rintro e w11 ⟨rfl, hb11⟩
      go_wp2_with fail
      go_ret
      exact ⟨rfl, HB10.out.trans (hb11.mono HB10.out.size)⟩
end Go.Proofs.Yteamnjaepgfcmaa
