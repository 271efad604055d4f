/-
  tendrillaw10.AdiffBack: true, whatever the lists.
-/
import Derived.Test.YteamnjaepgfcmaaDSame
namespace Go.Proofs.Yteamnjaepgfcmaa
open Go.RowKit Go.Sort Go.Lib
set_option linter.unusedVariables false
set_option maxRecDepth 100000 in
set_option maxHeartbeats 4000000 in
theorem backLaw_any (A B : Option Addr) (c d : Nat) (l m : List At) (w : World) (h : TRow w w.heap.size A l) (h' : TRow w w.heap.size B m) (hf : Fit l) (hf' : Fit m) (hm : l.length ≤ maxLen) (hm' : m.length ≤ maxLen) :
    Calls Try.prog 8 #[.slice A l.length c, .slice B m.length d] w (TrueB w) := by
  have HR := Lib.hid h; have HR' := Lib.hid h'
  have C1 := Lib.hid (heavy10_any A c l w h hf hm)
  clear h h' hm
  go_enter Try.func8, Try.ntmps8
  go_wp2_with fail
  refine C1.out.mono ?_
  rintro e w1 ⟨hb, rfl, hb1, hs⟩
  have HB1 := Lib.hid hb1
  cases hb with
  | true =>
    clear hs
    go_wp2_with fail
    refine (same10_any w1).mono ?_
    rintro e w2 ⟨rfl, hb2⟩
    go_wp2_with fail
    go_ret
    exact ⟨rfl, HB1.out.trans (hb2.mono HB1.out.size)⟩
  | false =>
    obtain ⟨hl, hsz⟩ := hs rfl
    have HSH := Lib.hid (few_short (by omega) hsz)
    have HR1 := Lib.hid (HR.out.up hb1); have HR1' := Lib.hid (HR'.out.up hb1)
    have C1' := Lib.hid (heavy10_any B d m w1 HR1'.out hf' hm')
    clear hs hsz hb1 C1
    go_wp2_with fail
    refine C1'.out.mono ?_
    rintro e w2 ⟨hb', rfl, hb2, hs'⟩
    have HB2 := Lib.hid (HB1.out.trans (hb2.mono HB1.out.size))
    cases hb' with
    | true =>
      clear hs'
      go_wp2_with fail
      refine (same10_any w2).mono ?_
      rintro e w3 ⟨rfl, hb3⟩
      go_wp2_with fail
      go_ret
      exact ⟨rfl, HB2.out.trans (hb3.mono HB2.out.size)⟩
    | false =>
      obtain ⟨hl', hsz'⟩ := hs' rfl
      have HSH' := Lib.hid (few_short (by omega) hsz')
      have HR2 := Lib.hid (HR1.out.up hb2); have HR2' := Lib.hid (HR1'.out.up hb2)
      have C3 := Lib.hid (refNorm_any A c l w2 HR2.out (by omega) HSH.out)
      clear hs' hsz' hb2 C1'
      go_wp2_with fail
      refine C3.out.mono ?_
      rintro e w3 ⟨X, cx, rfl, hx, kx, mx, nx, hb3⟩
      have HB3 := Lib.hid (HB2.out.trans (hb3.mono HB2.out.size))
      have HX := Lib.hid hx
      have C4 := Lib.hid (refNorm_any B d m w3 (HR2'.out.up hb3) (by omega) HSH'.out)
      have hxl := norm_len l
      have HSX := Lib.hid (And.intro (norm_facts l).1 (norm_short HSH.out))
      obtain ⟨x, hx'⟩ : ∃ x, x = normL l := ⟨_, rfl⟩
      rw [← hx'] at HX hxl HSX kx ⊢
      have HKX := Lib.hid (And.intro kx (And.intro mx nx))
      clear hx' hx hb3 C3 kx mx nx HR2 HR2'
      go_wp2_with fail
      refine C4.out.mono ?_
      rintro e w4 ⟨Y, cy, rfl, hy, ky, my, ny, hb4⟩
      have HB4 := Lib.hid (HB3.out.trans (hb4.mono HB3.out.size))
      have HX4 := Lib.hid (HX.out.up hb4); have HY4 := Lib.hid hy
      have hyl := norm_len m
      have HSY := Lib.hid (And.intro (norm_facts m).1 (norm_short HSH'.out))
      obtain ⟨y, hy'⟩ : ∃ y, y = normL m := ⟨_, rfl⟩
      rw [← hy'] at HY4 hyl HSY ky ⊢
      have HKY := Lib.hid (And.intro ky (And.intro my ny))
      have hxl2 : x.length ≤ 200 := by omega
      have hyl2 : y.length ≤ 200 := by omega
      have C5 := Lib.hid (of_any X Y cx cy x y w4 HX4.out HY4.out (by omega) (by omega) HSX.out.2 HSY.out.2 HKX.out.1 HKY.out.1 HKX.out.2.1 HKY.out.2.1 HKX.out.2.2 HKY.out.2.2)
      have hdl := diffD_len x y
      have HDO := Lib.hid (do_diff HSX.out.1 HSY.out.1)
      have HNX := Lib.hid (norm_self HSX.out.1); have HNY := Lib.hid (norm_self HSY.out.1)
      rw [HNX.out, HNY.out] at hdl
      have HCM := Lib.hid (diff_comm y x)
      obtain ⟨dl, hd'⟩ : ∃ dl, dl = diffD x y := ⟨_, rfl⟩
      rw [← hd'] at C5 hdl HDO HCM
      have HDL := Lib.hid hd'
      clear hy' hy hb4 C4 ky my ny HX HB3 hd' HR HR' HR1 HR1'
      go_wp2_with fail
      refine C5.out.mono ?_
      rintro e w5 ⟨D, cd, rfl, rd, -, -, hb5⟩
      have HB5 := Lib.hid (HB4.out.trans (hb5.mono HB4.out.size))
      have HX5 := Lib.hid (HX4.out.up hb5); have HY5 := Lib.hid (HY4.out.up hb5)
      have C6 := Lib.hid (do_any X D cx cd x dl w5 HX5.out rd (by omega) (by omega) HKX.out.2.2)
      rw [HDO.out] at C6
      clear rd hb5 C5 HX4 HY4 HB4
      go_wp2_with fail
      refine C6.out.mono ?_
      rintro e w6 ⟨Z, cz, rfl, rz, -, -, -, hb6⟩
      have HB6 := Lib.hid (HB5.out.trans (hb6.mono HB5.out.size))
      have HX6 := Lib.hid (HX5.out.up hb6); have HY6 := Lib.hid (HY5.out.up hb6)
      have C7 := Lib.hid (attrs_any Z Y cz cy y y w6 rz HY6.out (by omega) (by omega))
      rw [decide_eq_true rfl] at C7
      clear rz hb6 C6 HX5 HY5 HB5
      go_wp2_with fail
      refine C7.out.mono ?_
      rintro e w7 ⟨rfl, q7, hw7⟩
      have HB7 := Lib.hid (show Below w.heap.size w w7 by rw [hw7]; exact HB6.out.trans (below_drewN _ _ _))
      have HX7 := Lib.hid (show TRow w7 w7.heap.size X x by rw [hw7]; exact HX6.out)
      have HY7 := Lib.hid (show TRow w7 w7.heap.size Y y by rw [hw7]; exact HY6.out)
      have C8 := Lib.hid (of_any X X cx cx x x w7 HX7.out HX7.out (by omega) (by omega) HSX.out.2 HSX.out.2 HKX.out.1 HKX.out.1 HKX.out.2.1 HKX.out.2.1 HKX.out.2.2 HKX.out.2.2)
      rw [diff_self] at C8
      clear hw7 C7 HX6 HY6 HB6
      go_wp2_with fail
      refine C8.out.mono ?_
      rintro e w8 ⟨E, ce, rfl, re, -, -, hb8⟩
      have HB8 := Lib.hid (HB7.out.trans (hb8.mono HB7.out.size))
      have HX8 := Lib.hid (HX7.out.up hb8); have HY8 := Lib.hid (HY7.out.up hb8)
      have C9 := Lib.hid (names_any Y X cy cx y x w8 HY8.out HX8.out (by omega) (by omega) HSY.out.2 HSX.out.2 HKY.out.1 HKX.out.1 HKY.out.2.1 HKX.out.2.1 HKY.out.2.2 HKX.out.2.2)
      rw [HCM.out] at C9
      clear re hb8 C8 HX7 HY7 HB7
      simp only [List.length_nil]
      go_wp2_with fail
      refine C9.out.mono ?_
      rintro e w9 ⟨rfl, hb9⟩
      have HB9 := Lib.hid (HB8.out.trans (hb9.mono HB8.out.size))
      have C10 := Lib.hid (names_any X Y cx cy x y w9 (HX8.out.up hb9) (HY8.out.up hb9) (by omega) (by omega) HSX.out.2 HSY.out.2 HKX.out.1 HKY.out.1 HKX.out.2.1 HKY.out.2.1 HKX.out.2.2 HKY.out.2.2)
      rw [← HDL.out] at C10
      clear hb9 C9 HX8 HY8 HB8
      go_wp2_with fail
      refine C10.out.mono ?_
      rintro e w10 ⟨rfl, hb10⟩
      have HB10 := Lib.hid (HB9.out.trans (hb10.mono HB9.out.size))
      clear hb10 C10 HB9
      go_wp2_with fail
      refine (same10_any w10).mono ?_
      rintro e w11 ⟨rfl, hb11⟩
      go_wp2_with fail
      go_ret
      exact ⟨rfl, HB10.out.trans (hb11.mono HB10.out.size)⟩
end Go.Proofs.Yteamnjaepgfcmaa
