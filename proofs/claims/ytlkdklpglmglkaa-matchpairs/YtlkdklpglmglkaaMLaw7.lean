/-
  tendrillaw14.MatchPairs.
-/
import Derived.Test.YtlkdklpglmglkaaMS14
import Derived.Test.YtlkdklpglmglkaaMRef2
namespace Go.Proofs.Ytlkdklpglmglkaa
open Go.RowKit Go.Sort Go.Lib
set_option linter.unusedVariables false
set_option maxRecDepth 100000
theorem RIn.up {w w' : World} {A : Option Addr} {c : Nat} {rs : List Rw} (h : RIn w A c rs) (hb : Below w.heap.size w w') : RIn w' A c rs := ⟨h.row.up hb, h.fit, h.len, h.cap⟩
set_option maxHeartbeats 8000000 in
theorem law7_any (A B : Option Addr) (c d : Nat) (a b : List Rw) (w : World) (ha : RIn w A c a) (hb : RIn w B d b) : Calls Try.prog 7 #[.slice A a.length c, .slice B b.length d] w (TrueB w) := by
  have CA := Lib.hid (fewX_any A c a 200 w ha.row ha.fit (by omega) ha.len)
  have HA := Lib.hid ha; have HB := Lib.hid hb
  rw [show ((200 : Nat) : Int) = 200 from rfl] at CA
  clear ha hb
  go_enter Try.func7, Try.ntmps7
  go_wp2_with fail
  refine CA.out.mono ?_
  rintro e w1 ⟨r1, rfl, h1, hx1, hb1⟩
  have HB1 := Lib.hid hb1
  have CB := Lib.hid (fewX_any B d b 200 w1 (HB.out.row.up hb1) HB.out.fit (by omega) HB.out.len)
  rw [show ((200 : Nat) : Int) = 200 from rfl] at CB
  clear CA hb1
  cases r1 with
  | false =>
    have CS := Lib.hid (same14_any w1)
    clear h1 hx1 CB
    go_wp2_with fail
    refine CS.out.mono ?_
    rintro e w2 ⟨rfl, hb2⟩
    have HB2 := Lib.hid (HB1.out.trans (hb2.mono HB1.out.size))
    clear hb2 CS
    go_wp2_with fail
    go_ret
    exact ⟨rfl, HB2.out⟩
  | true =>
    have HGA := Lib.hid (h1 rfl).1
    have hla : a.length ≤ 200 := (h1 rfl).2
    have HWA := Lib.hid (hx1.1 rfl)
    clear h1 hx1
    go_wp2_with fail
    refine CB.out.mono ?_
    rintro e w2 ⟨r2, rfl, h2, hx2, hb2⟩
    have HB2 := Lib.hid (HB1.out.trans (hb2.mono HB1.out.size))
    clear hb2 CB
    cases r2 with
    | false =>
      have CS := Lib.hid (same14_any w2)
      clear h2 hx2
      go_wp2_with fail
      refine CS.out.mono ?_
      rintro e w3 ⟨rfl, hb3⟩
      have HB3 := Lib.hid (HB2.out.trans (hb3.mono HB2.out.size))
      clear hb3 CS
      go_wp2_with fail
      go_ret
      exact ⟨rfl, HB3.out⟩
    | true =>
      have HGB := Lib.hid (h2 rfl).1
      have hlb : b.length ≤ 200 := (h2 rfl).2
      have HWB := Lib.hid (hx2.1 rfl)
      clear h2 hx2
      have C1 := Lib.hid (pairs_any A B c d a b w2 (HA.out.row.up HB2.out) (HB.out.row.up HB2.out) HGA.out HGB.out (by omega) (by omega) HA.out.cap HB.out.cap)
      obtain ⟨p, hp⟩ : ∃ p, p = pairsL a b := ⟨_, rfl⟩
      obtain ⟨g, hg⟩ : ∃ g, g = goneL a b := ⟨_, rfl⟩
      obtain ⟨f, hf⟩ : ∃ f, f = freshL a b := ⟨_, rfl⟩
      have HP := Lib.hid hp; have HG := Lib.hid hg; have HF := Lib.hid hf
      have hpl : p.length ≤ 1000 := by
        rw [hp, pairsL]
        split
        · simp [nums, mtL_length]; omega
        · simp
      have hgl : g.length ≤ 1000 := by
        rw [hg, goneL]
        split
        · simp [nums]; have := goneTo_le a b a.length; omega
        · simp
      have hfl : f.length ≤ 1000 := by
        rw [hf, freshL]
        split
        · simp [nums]; have := freshTo_le a b b.length; omega
        · simp
      rw [← hp] at C1
      clear hp hg hf
      go_wp2_with fail
      refine C1.out.mono ?_
      rintro e w3 ⟨A3, c3, rfl, hr3, -, -, -, hb3⟩
      have HB3 := Lib.hid (HB2.out.trans (hb3.mono HB2.out.size)); have HR3 := Lib.hid hr3
      have C2 := Lib.hid (gone_any A B c d a b w3 (HA.out.row.up HB3.out) (HB.out.row.up HB3.out) HGA.out HGB.out (by omega) (by omega) HA.out.cap HB.out.cap)
      rw [← HG.out] at C2
      clear C1 hr3 hb3
      go_wp2_with fail
      refine C2.out.mono ?_
      rintro e w4 ⟨A4, c4, rfl, hr4, -, -, -, hb4⟩
      have HB4 := Lib.hid (HB3.out.trans (hb4.mono HB3.out.size)); have HR4 := Lib.hid hr4
      have HR34 := Lib.hid ((HR3.out.below hb4).mono hb4.size)
      have C3 := Lib.hid (fresh_any A B c d a b w4 (HA.out.row.up HB4.out) (HB.out.row.up HB4.out) HGA.out HGB.out (by omega) (by omega) HA.out.cap HB.out.cap)
      rw [← HF.out] at C3
      clear C2 hr4 hb4
      go_wp2_with fail
      refine C3.out.mono ?_
      rintro e w5 ⟨A5, c5, rfl, hr5, -, -, -, hb5⟩
      have HB5 := Lib.hid (HB4.out.trans (hb5.mono HB4.out.size)); have HR5 := Lib.hid hr5
      have HR35 := Lib.hid ((HR34.out.below hb5).mono hb5.size); have HR45 := Lib.hid ((HR4.out.below hb5).mono hb5.size)
      have C4 := Lib.hid (right_any A c a w5 (HA.out.up HB5.out))
      clear C3 hr5 hb5
      go_wp2_with fail
      refine C4.out.mono ?_
      rintro e w6 ⟨q1, rfl, hq1, hb6⟩
      have HB6 := Lib.hid (HB5.out.trans (hb6.mono HB5.out.size)); have HB56 := Lib.hid hb6
      clear C4 hb6
      cases q1 with
      | false =>
        have hne : ¬ (errR a = 0 ∧ errR b = 0) := fun q => by have := hq1.2 ⟨HWA.out, q.1⟩; cases this
        have hp0 : p.length = 0 := by rw [HP.out, pairsL, if_neg hne]; rfl
        have hg0 : g.length = 0 := by rw [HG.out, goneL, if_neg hne]; rfl
        have hf0 : f.length = 0 := by rw [HF.out, freshL, if_neg hne]; rfl
        have CS := Lib.hid (same14_any w6)
        rw [hp0, hg0, hf0]
        clear hq1 hne hp0 hg0 hf0 hpl hgl hfl
        go_wp2_with fail
        refine CS.out.mono ?_
        rintro e w7 ⟨rfl, hb7⟩
        have HB7 := Lib.hid (HB6.out.trans (hb7.mono HB6.out.size))
        clear hb7 CS
        go_wp2_with fail
        go_ret
        exact ⟨ret_bool (by simp), HB7.out⟩
      | true =>
        have HEA := Lib.hid (hq1.1 rfl).2
        have C5 := Lib.hid (right_any B d b w6 (HB.out.up HB6.out))
        clear hq1
        go_wp2_with fail
        refine C5.out.mono ?_
        rintro e w7 ⟨q2, rfl, hq2, hb7⟩
        have HB7 := Lib.hid (HB6.out.trans (hb7.mono HB6.out.size)); have HB57 := Lib.hid (HB56.out.trans (hb7.mono HB56.out.size))
        clear C5 hb7
        cases q2 with
        | false =>
          have hne : ¬ (errR a = 0 ∧ errR b = 0) := fun q => by have := hq2.2 ⟨HWB.out, q.2⟩; cases this
          have hp0 : p.length = 0 := by rw [HP.out, pairsL, if_neg hne]; rfl
          have hg0 : g.length = 0 := by rw [HG.out, goneL, if_neg hne]; rfl
          have hf0 : f.length = 0 := by rw [HF.out, freshL, if_neg hne]; rfl
          have CS := Lib.hid (same14_any w7)
          rw [hp0, hg0, hf0]
          clear hq2 hne hp0 hg0 hf0 hpl hgl hfl
          go_wp2_with fail
          refine CS.out.mono ?_
          rintro e w8 ⟨rfl, hb8⟩
          have HB8 := Lib.hid (HB7.out.trans (hb8.mono HB7.out.size))
          clear hb8 CS
          go_wp2_with fail
          go_ret
          exact ⟨ret_bool (by simp), HB8.out⟩
        | true =>
          have HEB := Lib.hid (hq2.1 rfl).2
          have HP2 := Lib.hid (show p = nums (mtL a b b.length) by rw [HP.out, pairsL, if_pos ⟨HEA.out, HEB.out⟩])
          have HG2 := Lib.hid (show g = nums (goneTo a b a.length) by rw [HG.out, goneL, if_pos ⟨HEA.out, HEB.out⟩])
          have HF2 := Lib.hid (show f = nums (freshTo a b b.length) by rw [HF.out, freshL, if_pos ⟨HEA.out, HEB.out⟩])
          have R1 := Lib.hid (rpairs_any A B c d a b w7 (HA.out.row.up HB7.out) (HB.out.row.up HB7.out) (errR_form HEB.out) (by omega) (by omega))
          rw [← HP2.out] at R1
          clear hq2
          go_wp2_with fail
          refine R1.out.mono ?_
          rintro e w8 ⟨A8, c8, rfl, hr8, -, -, -, hb8⟩
          have HB8 := Lib.hid (HB7.out.trans (hb8.mono HB7.out.size)); have HB58 := Lib.hid (HB57.out.trans (hb8.mono HB57.out.size))
          have CI := Lib.hid (I.ints_any A3 A8 c3 c8 p w8 ((HR35.out.below HB58.out).mono HB58.out.size) hr8 (by omega))
          clear R1 hr8 hb8
          go_wp2_with fail
          refine CI.out.mono ?_
          rintro e w9 ⟨rfl, hb9⟩
          have HB9 := Lib.hid (HB8.out.trans (hb9.mono HB8.out.size)); have HB59 := Lib.hid (HB58.out.trans (hb9.mono HB58.out.size))
          have R2 := Lib.hid (rgone_any A B c d a b w9 (HA.out.row.up HB9.out) (HB.out.row.up HB9.out) (errR_form HEA.out) (by omega) (by omega))
          rw [← HG2.out] at R2
          clear CI hb9
          go_wp2_with fail
          refine R2.out.mono ?_
          rintro e w10 ⟨A10, c10, rfl, hr10, -, -, -, hb10⟩
          have HB10 := Lib.hid (HB9.out.trans (hb10.mono HB9.out.size)); have HB510 := Lib.hid (HB59.out.trans (hb10.mono HB59.out.size))
          have CI := Lib.hid (I.ints_any A4 A10 c4 c10 g w10 ((HR45.out.below HB510.out).mono HB510.out.size) hr10 (by omega))
          clear R2 hr10 hb10
          go_wp2_with fail
          refine CI.out.mono ?_
          rintro e w11 ⟨rfl, hb11⟩
          have HB11 := Lib.hid (HB10.out.trans (hb11.mono HB10.out.size)); have HB511 := Lib.hid (HB510.out.trans (hb11.mono HB510.out.size))
          have R3 := Lib.hid (rfresh_any A B c d a b w11 (HA.out.row.up HB11.out) (HB.out.row.up HB11.out) (errR_form HEB.out) (by omega) (by omega))
          rw [← HF2.out] at R3
          clear CI hb11
          go_wp2_with fail
          refine R3.out.mono ?_
          rintro e w12 ⟨A12, c12, rfl, hr12, -, -, -, hb12⟩
          have HB12 := Lib.hid (HB11.out.trans (hb12.mono HB11.out.size)); have HB512 := Lib.hid (HB511.out.trans (hb12.mono HB511.out.size))
          have CI := Lib.hid (I.ints_any A5 A12 c5 c12 f w12 ((HR5.out.below HB512.out).mono HB512.out.size) hr12 (by omega))
          clear R3 hr12 hb12
          go_wp2_with fail
          refine CI.out.mono ?_
          rintro e w13 ⟨rfl, hb13⟩
          have HB13 := Lib.hid (HB12.out.trans (hb13.mono HB12.out.size))
          have CS := Lib.hid (same14_any w13)
          clear CI hb13
          go_wp2_with fail
          refine CS.out.mono ?_
          rintro e w14 ⟨rfl, hb14⟩
          have HB14 := Lib.hid (HB13.out.trans (hb14.mono HB13.out.size))
          clear hb14 CS
          go_wp2_with fail
          go_ret
          exact ⟨ret_bool (by simp), HB14.out⟩
end Go.Proofs.Ytlkdklpglmglkaa
