/-
  tendrillaw09.AttrsNorm: true, whatever the lists.
-/
import Derived.Test.YteamnjaepgfcmaaValid
import Derived.Test.YteamnjaepgfcmaaLawC
namespace Go.Proofs.Yteamnjaepgfcmaa
open Go.RowKit Go.Sort Go.Lib
set_option linter.unusedVariables false
set_option maxHeartbeats 4000000 in
theorem normLaw_any (A B : Option Addr) (c d : Nat) (l m : List At) (w : World) (h : TRow w w.heap.size A l) (h' : TRow w w.heap.size B m) (hf : Fit l) (hf' : Fit m) (hm : l.length ≤ maxLen) (hm' : m.length ≤ maxLen) (hc0 : A = none → c = 0) :
    Calls Try.prog 5 #[.slice A l.length c, .slice B m.length d] w (TrueB w) := by
  have HR := Lib.hid h; have HR' := Lib.hid h'
  have C1 := Lib.hid (heavy09_any A c l w h hf hm)
  clear h h' hm
  go_enter Try.func5, Try.ntmps5
  go_wp2_with fail
  refine C1.out.mono ?_
  rintro e w1 ⟨hb, rfl, hb1, hs⟩
  have HB1 := Lib.hid hb1
  cases hb with
  | true =>
    clear hs
    go_wp2_with fail
    refine (same09_any w1).mono ?_
    rintro e w2 ⟨rfl, hb2⟩
    go_wp2_with fail
    go_ret
    exact ⟨rfl, HB1.out.trans (hb2.mono HB1.out.size)⟩
  | false =>
    obtain ⟨hl, hsz⟩ := hs rfl
    have HSH := Lib.hid (few_short (by omega) hsz)
    have HR1 := Lib.hid (HR.out.up hb1); have HR1' := Lib.hid (HR'.out.up hb1)
    have C1' := Lib.hid (heavy09_any B d m w1 HR1'.out hf' hm')
    clear hs hsz hb1 C1
    go_wp2_with fail
    refine C1'.out.mono ?_
    rintro e w2 ⟨hb', rfl, hb2, hs'⟩
    have HB2 := Lib.hid (HB1.out.trans (hb2.mono HB1.out.size))
    cases hb' with
    | true =>
      clear hs'
      go_wp2_with fail
      refine (same09_any w2).mono ?_
      rintro e w3 ⟨rfl, hb3⟩
      go_wp2_with fail
      go_ret
      exact ⟨rfl, HB2.out.trans (hb3.mono HB2.out.size)⟩
    | false =>
      obtain ⟨hl', -⟩ := hs' rfl
      have HR2 := Lib.hid (HR1.out.up hb2); have HR2' := Lib.hid (HR1'.out.up hb2)
      have C3 := Lib.hid (norm_any A c l w2 HR2.out (by omega) hc0)
      clear hs' hb2 C1'
      go_wp2_with fail
      refine C3.out.mono ?_
      rintro e w3 ⟨X, cx, rfl, hx, hxc, hxm, hx0, hb3⟩
      have HB3 := Lib.hid (HB2.out.trans (hb3.mono HB2.out.size))
      have HX := Lib.hid hx
      have HR3 := Lib.hid (HR2.out.up hb3); have HR3' := Lib.hid (HR2'.out.up hb3)
      have C4 := Lib.hid (refNorm_any A c l w3 HR3.out (by omega) HSH.out)
      have hnl := norm_len l
      obtain ⟨nl, hnl'⟩ : ∃ nl, nl = normL l := ⟨_, rfl⟩
      rw [← hnl'] at HX C4 hnl ⊢
      have HNL := Lib.hid hnl'
      clear hnl' hx hb3 C3 hxc hxm hx0
      go_wp2_with fail
      refine C4.out.mono ?_
      rintro e w4 ⟨Y, cy, rfl, hy, hyc, hym, hy0, hb4⟩
      have HB4 := Lib.hid (HB3.out.trans (hb4.mono HB3.out.size))
      have HX4 := Lib.hid (HX.out.up hb4)
      have HR4 := Lib.hid (HR3.out.up hb4); have HR4' := Lib.hid (HR3'.out.up hb4)
      have C5 := Lib.hid (attrs_any X Y cx cy nl nl w4 HX4.out hy (by omega) (by omega))
      rw [decide_eq_true rfl] at C5
      clear hy hb4 C4 hyc hym hy0
      go_wp2_with fail
      refine C5.out.mono ?_
      rintro e w5 ⟨rfl, q5, hw5⟩
      have HB5 := Lib.hid (show Below w.heap.size w w5 by rw [hw5]; exact HB4.out.trans (below_drewN _ _ _))
      have HX5 := Lib.hid (show TRow w5 w5.heap.size X nl by rw [hw5]; exact HX4.out)
      have HR5 := Lib.hid (show TRow w5 w5.heap.size A l by rw [hw5]; exact HR4.out)
      have HR5' := Lib.hid (show TRow w5 w5.heap.size B m by rw [hw5]; exact HR4'.out)
      have C6 := Lib.hid (same_any A B c d l m w5 HR5.out HR5'.out (by omega) (by omega))
      generalize hlm : decide (l = m) = lm at C6
      have HLM := Lib.hid hlm
      clear hw5 C5 hlm
      go_wp2_with fail
      refine C6.out.mono ?_
      rintro e w6 ⟨rfl, q6, hw6⟩
      have HB6 := Lib.hid (show Below w.heap.size w w6 by rw [hw6]; exact HB5.out.trans (below_drewN _ _ _))
      have HX6 := Lib.hid (show TRow w6 w6.heap.size X nl by rw [hw6]; exact HX5.out)
      have HR6 := Lib.hid (show TRow w6 w6.heap.size A l by rw [hw6]; exact HR5.out)
      have HR6' := Lib.hid (show TRow w6 w6.heap.size B m by rw [hw6]; exact HR5'.out)
      have C7 := Lib.hid (attrs_any A B c d l m w6 HR6.out HR6'.out (by omega) (by omega))
      rw [HLM.out] at C7
      clear hw6 C6 HR5' HR6'
      go_wp2_with fail
      refine C7.out.mono ?_
      rintro e w7 ⟨rfl, q7, hw7⟩
      have HB7 := Lib.hid (show Below w.heap.size w w7 by rw [hw7]; exact HB6.out.trans (below_drewN _ _ _))
      have HX7 := Lib.hid (show TRow w7 w7.heap.size X nl by rw [hw7]; exact HX6.out)
      have HR7 := Lib.hid (show TRow w7 w7.heap.size A l by rw [hw7]; exact HR6.out)
      have C8 := Lib.hid (same_any X X cx cx nl nl w7 HX7.out HX7.out (by omega) (by omega))
      rw [decide_eq_true rfl] at C8
      have hlmq : (lm != lm) = false := by simp
      clear hw7 C7
      go_wp2_with fail
      refine C8.out.mono ?_
      rintro e w8 ⟨rfl, q8, hw8⟩
      have HB8 := Lib.hid (show Below w.heap.size w w8 by rw [hw8]; exact HB7.out.trans (below_drewN _ _ _))
      have HX8 := Lib.hid (show TRow w8 w8.heap.size X nl by rw [hw8]; exact HX7.out)
      have HR8 := Lib.hid (show TRow w8 w8.heap.size A l by rw [hw8]; exact HR7.out)
      have C9 := Lib.hid (refCheck_any A c l w8 HR8.out (by omega) HSH.out)
      clear hw8 C8
      go_wp2_with fail
      refine C9.out.mono ?_
      rintro e w9 ⟨a, x, rfl, hcp, hb9⟩
      have HB9 := Lib.hid (HB8.out.trans (hb9.mono HB8.out.size))
      have HX9 := Lib.hid (HX8.out.up hb9)
      have HR9 := Lib.hid (HR8.out.up hb9)
      clear hb9 C9
      by_cases hx0 : x = 0
      · subst hx0
        have HEQ := Lib.hid (show nl = l by rw [HNL.out]; exact norm_self (valid_good (check_zero hcp)).sts)
        have C10 := Lib.hid (same_any X A cx c nl l w9 HX9.out HR9.out (by omega) (by omega))
        rw [decide_eq_true HEQ.out] at C10
        clear hcp
        go_wp2_with fail
        refine C10.out.mono ?_
        rintro e w10 ⟨rfl, q10, hw10⟩
        have HB10 := Lib.hid (show Below w.heap.size w w10 by rw [hw10]; exact HB9.out.trans (below_drewN _ _ _))
        clear hw10 C10
        go_wp2_with fail
        refine (same09_any w10).mono ?_
        rintro e w11 ⟨rfl, hb11⟩
        go_wp2_with fail
        go_ret
        exact ⟨rfl, HB10.out.trans (hb11.mono HB10.out.size)⟩
      · have hxq : (x != 0) = true := by simpa using hx0
        clear hcp hx0
        go_wp2_with fail
        refine (same09_any w9).mono ?_
        rintro e w11 ⟨rfl, hb11⟩
        go_wp2_with fail
        go_ret
        exact ⟨rfl, HB9.out.trans (hb11.mono HB9.out.size)⟩
end Go.Proofs.Yteamnjaepgfcmaa
