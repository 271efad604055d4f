/-
  tendrillaw09.AttrsStay: true, whatever the list, the name and the value.
-/
import Derived.Test.YteamnjaepgfcmaaValid
import Derived.Test.YteamnjaepgfcmaaLawC
namespace Go.Proofs.Yteamnjaepgfcmaa
open Go.RowKit Go.Sort Go.Lib
set_option linter.unusedVariables false
theorem short_without {l : List At} (h : Short l) (n : ByteArray) : Short (withoutL l n) := fun x hx => h x (List.mem_filter.1 hx).1
set_option maxHeartbeats 4000000 in
set_option maxRecDepth 100000 in
theorem stay_any (A : Option Addr) (c : Nat) (l : List At) (n v : ByteArray) (w : World) (h : TRow w w.heap.size A l) (hf : Fit l) (hm : l.length ≤ maxLen) (hcl : l.length ≤ c) (hcm : c ≤ maxLen) (hc0 : A = none → c = 0) (hn : n.size ≤ 140737488355328) (hv : v.size ≤ 140737488355328) :
    Calls Try.prog 6 #[.slice A l.length c, .string n, .string v] w (TrueB w) := by
  have HR := Lib.hid h
  have C1 := Lib.hid (heavy09_any A c l w h hf hm)
  clear h hm
  go_enter Try.func6, Try.ntmps6
  go_wp2_with fail
  refine C1.out.mono ?_
  rintro e w1 ⟨hb, rfl, hb1, hs⟩
  have HB1 := Lib.hid hb1
  cases hb with
  | true =>
    clear hs
    go_wp2_with fail
    refine (same09_any w1).mono ?_
    rintro e w2 ⟨rfl, hb2⟩
    go_wp2_with fail
    go_ret
    exact ⟨rfl, HB1.out.trans (hb2.mono HB1.out.size)⟩
  | false =>
    obtain ⟨hl, hsz⟩ := hs rfl
    have HSH := Lib.hid (few_short (by omega) hsz)
    have HR1 := Lib.hid (HR.out.up hb1)
    clear hs hsz hb1 C1
    by_cases hlong : (n.size : Int) + (v.size : Int) > 70000
    · go_wp2_with fail
      refine (same09_any w1).mono ?_
      rintro e w2 ⟨rfl, hb2⟩
      go_wp2_with fail
      go_ret
      exact ⟨rfl, HB1.out.trans (hb2.mono HB1.out.size)⟩
    · have hn2 : n.size ≤ 70000 := by omega
      have hv2 : v.size ≤ 70000 := by omega
      have C2 := Lib.hid (check_any A c l w1 HR1.out (by omega) HSH.out)
      go_wp2_with fail
      refine C2.out.mono ?_
      rintro e w2 ⟨a, x, rfl, hcp, hb2⟩
      have HCP := Lib.hid hcp
      have HB2 := Lib.hid (HB1.out.trans (hb2.mono HB1.out.size))
      have HR2 := Lib.hid (HR1.out.up hb2)
      have C3 := Lib.hid (without_any A c l n w2 HR2.out (by omega))
      unfold WoutPost at C3
      have hwo := without_le l n
      have HSO := Lib.hid (short_without HSH.out n)
      obtain ⟨ol, hol⟩ : ∃ ol, ol = withoutL l n := ⟨_, rfl⟩
      rw [← hol] at C3 hwo HSO
      have HOL := Lib.hid hol
      clear hol hb2 hcp C2
      go_wp2_with fail
      refine C3.out.mono ?_
      rintro e w3 ⟨Y, cy, rfl, hy, hyc, hym, hy0, hb3⟩
      have HB3 := Lib.hid (HB2.out.trans (hb3.mono HB2.out.size))
      have HR3 := Lib.hid (HR2.out.up hb3)
      have C4 := Lib.hid (check_any Y cy ol w3 hy (by omega) HSO.out)
      clear hy hyc hym hy0 hb3 C3
      go_wp2_with fail
      refine C4.out.mono ?_
      rintro e w4 ⟨b, y, rfl, hcq, hb4⟩
      have HCQ := Lib.hid hcq
      have HB4 := Lib.hid (HB3.out.trans (hb4.mono HB3.out.size))
      have HR4 := Lib.hid (HR3.out.up hb4)
      clear hb4 hcq C4
      by_cases hx : x = 0
      · subst hx
        have HG := Lib.hid (valid_good (check_zero HCP.out))
        have hy0 : y = 0 := by
          rcases Int.lt_trichotomy y 0 with h | h | h
          · exact absurd (good_valid (good_without HG.out n)) (by rw [← HOL.out]; exact check_not HCQ.out (by omega))
          · exact h
          · exact absurd (good_valid (good_without HG.out n)) (by rw [← HOL.out]; exact check_not HCQ.out (by omega))
        subst hy0
        clear HCP HCQ
        have C5 := Lib.hid (with_any A c l n v w4 HR4.out (by omega) hcl hcm hc0)
        have hlw := len_with l n v
        have HSW := Lib.hid (short_with HSH.out (n := n) (v := v) (by omega) (by omega))
        obtain ⟨wl, hwl⟩ : ∃ wl, wl = withL l n v := ⟨_, rfl⟩
        rw [← hwl] at C5 hlw HSW
        have HWL := Lib.hid hwl
        clear hwl
        go_wp2_with fail
        refine C5.out.mono ?_
        rintro e w5 ⟨X, cx, rfl, hx, hxc, hxm, hx0, hb5⟩
        have HB5 := Lib.hid (HB4.out.trans (hb5.mono HB4.out.size))
        have C6 := Lib.hid (check_any X cx wl w5 hx (by omega) HSW.out)
        clear hx hxc hxm hx0 hb5 C5
        go_wp2_with fail
        refine C6.out.mono ?_
        rintro e w6 ⟨p, z, rfl, hcr, hb6⟩
        have HCR := Lib.hid hcr
        have HB6 := Lib.hid (HB5.out.trans (hb6.mono HB5.out.size))
        have C7 := Lib.hid (named_any n true w6 (by unfold maxLen; omega))
        have HON := Lib.hid (show okN n = wfB (innerB true) n from rfl)
        rw [← HON.out] at C7
        clear hb6 hcr C6 HON
        by_cases hgood : okN n = true ∧ v.size ≤ 65536 ∧ ol.length < 64
        · obtain ⟨g1, g2, g3⟩ := hgood
          have hz : z = 0 := by
            rcases Int.lt_trichotomy z 0 with h | h | h
            · exact absurd (good_valid (good_with HG.out g1 g2 (by rw [← HOL.out]; exact g3))) (by rw [← HWL.out]; exact check_not HCR.out (by omega))
            · exact h
            · exact absurd (good_valid (good_with HG.out g1 g2 (by rw [← HOL.out]; exact g3))) (by rw [← HWL.out]; exact check_not HCR.out (by omega))
          subst hz
          rw [g1] at C7
          have g2' : (v.size : Int) ≤ 65536 := by omega
          have g3' : (ol.length : Int) < 64 := by omega
          clear HCR g1
          go_wp2_with fail
          refine C7.out.mono ?_
          rintro e w7 ⟨rfl, rfl⟩
          go_wp2_with fail
          refine (same09_any w6).mono ?_
          rintro e w8 ⟨rfl, hb8⟩
          go_wp2_with fail
          go_ret
          exact ⟨rfl, HB6.out.trans (hb8.mono HB6.out.size)⟩
        · have hz : z ≠ 0 := fun hz => hgood (by
            subst hz
            have := with_good HG.out (n := n) (v := v) (by rw [← HWL.out]; exact valid_good (check_zero HCR.out))
            rw [← HOL.out] at this
            exact this)
          have hz' : (z != 0) = true := by simpa using hz
          have hz2 : (z == 0) = false := by simpa using hz
          have HZ := Lib.hid hz
          clear HCR hz
          have hcases : okN n = false ∨ (okN n = true ∧ decide (v.size ≤ 65536) = false) ∨ (okN n = true ∧ decide (v.size ≤ 65536) = true ∧ decide (ol.length < 64) = false) := by
            cases h1 : okN n
            · exact .inl rfl
            · by_cases h2 : v.size ≤ 65536
              · exact .inr (.inr ⟨rfl, decide_eq_true h2, decide_eq_false (fun h3 => hgood ⟨h1, h2, h3⟩)⟩)
              · exact .inr (.inl ⟨rfl, decide_eq_false h2⟩)
          clear hgood
          rcases hcases with g1 | ⟨g1, g2⟩ | ⟨g1, g2, g3⟩
          · rw [g1] at C7
            clear g1
            go_wp2_with fail
            refine C7.out.mono ?_
            rintro e w7 ⟨rfl, rfl⟩
            go_wp2_with fail
            refine (same09_any w6).mono ?_
            rintro e w8 ⟨rfl, hb8⟩
            go_wp2_with fail
            go_ret
            exact ⟨rfl, HB6.out.trans (hb8.mono HB6.out.size)⟩
          · rw [g1] at C7
            clear g1
            have g2' : decide ((v.size : Int) ≤ 65536) = false := by simp at g2 ⊢; omega
            go_wp2_with fail
            refine C7.out.mono ?_
            rintro e w7 ⟨rfl, rfl⟩
            go_wp2_with fail
            refine (same09_any w6).mono ?_
            rintro e w8 ⟨rfl, hb8⟩
            go_wp2_with fail
            go_ret
            exact ⟨rfl, HB6.out.trans (hb8.mono HB6.out.size)⟩
          · rw [g1] at C7
            clear g1
            have g2' : (v.size : Int) ≤ 65536 := by simp at g2; omega
            have g3' : decide ((ol.length : Int) < 64) = false := by simp at g3 ⊢; omega
            go_wp2_with fail
            refine C7.out.mono ?_
            rintro e w7 ⟨rfl, rfl⟩
            go_wp2_with fail
            refine (same09_any w6).mono ?_
            rintro e w8 ⟨rfl, hb8⟩
            go_wp2_with fail
            go_ret
            exact ⟨rfl, HB6.out.trans (hb8.mono HB6.out.size)⟩
      · have hxq : (x != 0) = true := by simpa using hx
        clear HCP HCQ hx
        go_wp2_with fail
        refine (same09_any w4).mono ?_
        rintro e w5 ⟨rfl, hb5⟩
        go_wp2_with fail
        go_ret
        exact ⟨rfl, HB4.out.trans (hb5.mono HB4.out.size)⟩
end Go.Proofs.Yteamnjaepgfcmaa
