/-
  The law DatumOrder: its walk.
-/
import Derived.Test.YtjnhcoflmechmaaGreatDoorDLaw8
import Derived.Test.YtjnhcoflmechmaaGreatDoorDFew
import Derived.Test.YtjnhcoflmechmaaGreatDoorDCompare
import Derived.Test.YtjnhcoflmechmaaGreatDoorDRCmp
namespace Go.Proofs.YtjnhcoflmechmaaGreatDoor
open Go.RowKit Go.Sort
set_option linter.unusedVariables false
set_option maxRecDepth 100000
/-- Three values in their boxes, and all else as it was. -/
structure L3S (w1 : World) (B : Nat) (a b c : Dt) (x y z : NV) (W : World) : Prop where
  a : DatCells W B 0 a x
  b : DatCells W (B + 1) 0 b y
  c : DatCells W (B + 2) 0 c z
  k : Below w1.heap.size w1 W
theorem L3S.step {w1 : World} {B : Nat} {a b c : Dt} {x y z : NV} {W W' : World} (h : L3S w1 B a b c x y z W) (hB : B + 2 < w1.heap.size) (hb : Below W.heap.size W W') : L3S w1 B a b c x y z W' :=
  have hb' := hb.mono h.k.size
  ⟨h.a.below hb' (by omega), h.b.below hb' (by omega), h.c.below hb' hB, h.k.trans hb'⟩
def LitP (v : Value) (W : World) (e : Ending) (w' : World) : Prop := e = .returned v ∧ Below W.heap.size W w'
theorem cmpD_three (a b : Dt) : cmpD a b = -1 ∨ cmpD a b = 0 ∨ cmpD a b = 1 := by have := cmpD_bnd a b; omega
set_option maxHeartbeats 16000000 in
theorem law9_any (a b c : Dt) (x y z : NV) (w : World) (hta : DatAt w w.heap.size a x) (htb : DatAt w w.heap.size b y) (htc : DatAt w w.heap.size c z) (hfa : FitD a) (hfb : FitD b) (hfc : FitD c) (hv : Vars w) : Calls Tryz.prog 9 #[datV a x, datV b y, datV c z] w (TrueP w) := by
  obtain ⟨wa, hwa⟩ : ∃ wa, wa = boxD w a x := ⟨_, rfl⟩
  obtain ⟨wb, hwb⟩ : ∃ wb, wb = boxD wa b y := ⟨_, rfl⟩
  obtain ⟨w1, hw1⟩ : ∃ w1, w1 = boxD wb c z := ⟨_, rfl⟩
  have sa : wa.heap.size = w.heap.size + 1 := by rw [hwa]; simp
  have sb : wb.heap.size = w.heap.size + 2 := by rw [hwb]; simp; omega
  have s1 : w1.heap.size = w.heap.size + 3 := by rw [hw1]; simp; omega
  have hba : Below w.heap.size w wa := by rw [hwa]; exact below_boxD _ _ _
  have hbb : Below wa.heap.size wa wb := by rw [hwb]; exact below_boxD _ _ _
  have hbc : Below wb.heap.size wb w1 := by rw [hw1]; exact below_boxD _ _ _
  have hb1 : Below w.heap.size w w1 := (hba.trans (hbb.mono (by omega))).trans (hbc.mono (by omega))
  have xa : DatCells wa w.heap.size 0 a x := by rw [hwa]; exact box_dat _ _ _
  have xb : DatCells wb (w.heap.size + 1) 0 b y := by rw [hwb, ← sa]; exact box_dat _ _ _
  have xc : DatCells w1 (w.heap.size + 2) 0 c z := by rw [hw1, ← sb]; exact box_dat _ _ _
  have HS1 := Lib.hid (show L3S w1 w.heap.size a b c x y z w1 from ⟨(xa.below hbb (by omega)).below hbc (by omega), xb.below hbc (by omega), xc, Below.refl _ _⟩)
  have hB : w.heap.size + 2 < w1.heap.size := by omega
  have HA1 := Lib.hid (hta.up hb1); have HB1 := Lib.hid (htb.up hb1); have HC1 := Lib.hid (htc.up hb1); have HV1 := Lib.hid (hv.belowC hb1); have HBW := Lib.hid hb1
  have HTA := Lib.hid (show ∀ W, L3S w1 w.heap.size a b c x y z W → DatAt W W.heap.size a x from fun W h => HA1.out.up h.k)
  have HTB := Lib.hid (show ∀ W, L3S w1 w.heap.size a b c x y z W → DatAt W W.heap.size b y from fun W h => HB1.out.up h.k)
  have HTC := Lib.hid (show ∀ W, L3S w1 w.heap.size a b c x y z W → DatAt W W.heap.size c z from fun W h => HC1.out.up h.k)
  have HTV := Lib.hid (show ∀ W, L3S w1 w.heap.size a b c x y z W → Vars W ∧ Below w.heap.size w W from fun W h => ⟨HV1.out.belowC h.k, HBW.out.trans (h.k.mono HBW.out.size)⟩)
  have CFA := Lib.hid (show ∀ W, L3S w1 w.heap.size a b c x y z W → Calls Tryz.prog 19 #[datV a x, .int .i64 300] W (FewD a 300 W) from fun W h => fewD_any a x 300 W (HTA.out W h) hfa (by decide))
  have CFB := Lib.hid (show ∀ W, L3S w1 w.heap.size a b c x y z W → Calls Tryz.prog 19 #[datV b y, .int .i64 300] W (FewD b 300 W) from fun W h => fewD_any b y 300 W (HTB.out W h) hfb (by decide))
  have CFC := Lib.hid (show ∀ W, L3S w1 w.heap.size a b c x y z W → Calls Tryz.prog 19 #[datV c z, .int .i64 300] W (FewD c 300 W) from fun W h => fewD_any c z 300 W (HTC.out W h) hfc (by decide))
  have CSM := Lib.hid (show ∀ W, L3S w1 w.heap.size a b c x y z W → Calls Tryz.prog 20 #[] W (SameP W) from fun W h => same_any W (HTV.out W h).1)
  have HWA := Lib.hid hwa; have HWB := Lib.hid hwb; have HW1 := Lib.hid hw1
  clear hwa hwb hw1 sa sb hba hbb hbc hb1 xa xb xc HA1 HB1 HC1 HV1 HBW hta htb htc hfa hfb hfc hv
  obtain ⟨⟨a0, a1, a2, a3, a4⟩, ⟨b0, b1, b2, b3, b4⟩, ⟨c0, c1, c2, c3, c4⟩, -⟩ := HS1.out
  go_enter Tryz.func9, Tryz.ntmps9
  go_upto_region 1 with (fail)
  rw [boxD_out HWA, boxD_out HWB, boxD_out HW1]
  clear HWA HWB HW1
  go_wp2_with fail
  refine (CFA.out _ HS1.out).mono ?_
  rintro e w2 ⟨r, rfl, hr, hb⟩
  have HS2 := Lib.hid (HS1.out.step hB hb)
  have HRA := Lib.hid hr
  clear hr
  clear hb HS1 a0 a1 a2 a3 a4 b0 b1 b2 b3 b4 c0 c1 c2 c3 c4
  obtain ⟨⟨a0, a1, a2, a3, a4⟩, ⟨b0, b1, b2, b3, b4⟩, ⟨c0, c1, c2, c3, c4⟩, -⟩ := HS2.out
  cases r with
  | false =>
    go_wp2_with fail
    refine (CSM.out _ HS2.out).mono ?_
    rintro e w99 hs
    have HF := Lib.hid (SameP.true (HTV.out _ HS2.out).2 hs)
    obtain ⟨rfl, -⟩ := hs
    clear CSM
    go_wp2_with fail
    go_ret
    exact HF.out
  | true =>
    go_wp2_with fail
    refine (CFB.out _ HS2.out).mono ?_
    rintro e w3 ⟨r, rfl, hr, hb⟩
    have HS3 := Lib.hid (HS2.out.step hB hb)
    have HRB := Lib.hid hr
    clear hr
    clear hb HS2 a0 a1 a2 a3 a4 b0 b1 b2 b3 b4 c0 c1 c2 c3 c4
    obtain ⟨⟨a0, a1, a2, a3, a4⟩, ⟨b0, b1, b2, b3, b4⟩, ⟨c0, c1, c2, c3, c4⟩, -⟩ := HS3.out
    cases r with
    | false =>
      go_wp2_with fail
      refine (CSM.out _ HS3.out).mono ?_
      rintro e w99 hs
      have HF := Lib.hid (SameP.true (HTV.out _ HS3.out).2 hs)
      obtain ⟨rfl, -⟩ := hs
      clear CSM
      go_wp2_with fail
      go_ret
      exact HF.out
    | true =>
      go_wp2_with fail
      refine (CFC.out _ HS3.out).mono ?_
      rintro e w4 ⟨r, rfl, hr, hb⟩
      have HS4 := Lib.hid (HS3.out.step hB hb)
      have HRC := Lib.hid hr
      clear hr
      clear hb HS3 a0 a1 a2 a3 a4 b0 b1 b2 b3 b4 c0 c1 c2 c3 c4
      obtain ⟨⟨a0, a1, a2, a3, a4⟩, ⟨b0, b1, b2, b3, b4⟩, ⟨c0, c1, c2, c3, c4⟩, -⟩ := HS4.out
      cases r with
      | false =>
        go_wp2_with fail
        refine (CSM.out _ HS4.out).mono ?_
        rintro e w99 hs
        have HF := Lib.hid (SameP.true (HTV.out _ HS4.out).2 hs)
        obtain ⟨rfl, -⟩ := hs
        clear CSM
        go_wp2_with fail
        go_ret
        exact HF.out
      | true =>
        have hga : GoodD a := by first | exact (HRA.out rfl).1 | exact HRA.out.1 | exact (HRA.out trivial).1
        have hgb : GoodD b := by first | exact (HRB.out rfl).1 | exact HRB.out.1 | exact (HRB.out trivial).1
        have hgc : GoodD c := by first | exact (HRC.out rfl).1 | exact HRC.out.1 | exact (HRC.out trivial).1
        have HGA := Lib.hid hga; have HGB := Lib.hid hgb; have HGC := Lib.hid hgc
        have CRA := Lib.hid (show ∀ W, L3S w1 w.heap.size a b c x y z W → Calls Tryz.prog 23 #[datV a x] W (BoolP (RightP a) W) from fun W h => refRight_any a x W (HTA.out W h) HGA.out)
        have CRB := Lib.hid (show ∀ W, L3S w1 w.heap.size a b c x y z W → Calls Tryz.prog 23 #[datV b y] W (BoolP (RightP b) W) from fun W h => refRight_any b y W (HTB.out W h) HGB.out)
        have CRC := Lib.hid (show ∀ W, L3S w1 w.heap.size a b c x y z W → Calls Tryz.prog 23 #[datV c z] W (BoolP (RightP c) W) from fun W h => refRight_any c z W (HTC.out W h) HGC.out)
        have CAB := Lib.hid (show ∀ W, L3S w1 w.heap.size a b c x y z W → Calls Tryz.prog 28 #[datV a x, datV b y] W (CompareP a b W) from fun W h => compare_any a b x y W (HTA.out W h) (HTB.out W h) HGA.out HGB.out)
        have CBA := Lib.hid (show ∀ W, L3S w1 w.heap.size a b c x y z W → Calls Tryz.prog 28 #[datV b y, datV a x] W (CompareP b a W) from fun W h => compare_any b a y x W (HTB.out W h) (HTA.out W h) HGB.out HGA.out)
        have CBC := Lib.hid (show ∀ W, L3S w1 w.heap.size a b c x y z W → Calls Tryz.prog 28 #[datV b y, datV c z] W (CompareP b c W) from fun W h => compare_any b c y z W (HTB.out W h) (HTC.out W h) HGB.out HGC.out)
        have CAC := Lib.hid (show ∀ W, L3S w1 w.heap.size a b c x y z W → Calls Tryz.prog 28 #[datV a x, datV c z] W (CompareP a c W) from fun W h => compare_any a c x z W (HTA.out W h) (HTC.out W h) HGA.out HGC.out)
        clear hga hgb hgc HRA HRB HRC CFA CFB CFC
        go_wp2_with fail
        refine (CAB.out _ HS4.out).mono ?_
        rintro e w5 ⟨n, rfl, hn, hb⟩
        have HS5 := Lib.hid (HS4.out.step hB hb)
        have HN := Lib.hid hn
        clear hn
        clear hb HS4 a0 a1 a2 a3 a4 b0 b1 b2 b3 b4 c0 c1 c2 c3 c4
        obtain ⟨⟨a0, a1, a2, a3, a4⟩, ⟨b0, b1, b2, b3, b4⟩, ⟨c0, c1, c2, c3, c4⟩, -⟩ := HS5.out
        go_wp2_with fail
        refine (CRA.out _ HS5.out).mono ?_
        rintro e w6 ⟨r, rfl, hr, hb⟩
        have HS6 := Lib.hid (HS5.out.step hB hb)
        have HRA := Lib.hid hr
        clear hr
        clear hb HS5 a0 a1 a2 a3 a4 b0 b1 b2 b3 b4 c0 c1 c2 c3 c4
        obtain ⟨⟨a0, a1, a2, a3, a4⟩, ⟨b0, b1, b2, b3, b4⟩, ⟨c0, c1, c2, c3, c4⟩, -⟩ := HS6.out
        cases r with
        | false =>
          have hn0 : n = 0 := by
            rcases HN.out with ⟨h1, _, _⟩ | ⟨_, h⟩
            · exact absurd (HRA.out.2 h1) (by decide)
            · exact h
          subst hn0
          go_wp2_with fail
          refine (CSM.out _ HS6.out).mono ?_
          rintro e w99 hs
          have HF := Lib.hid (SameP.true (HTV.out _ HS6.out).2 hs)
          obtain ⟨rfl, -⟩ := hs
          clear CSM
          go_wp2_with fail
          go_ret
          exact HF.out
        | true =>
          go_wp2_with fail
          refine (CRB.out _ HS6.out).mono ?_
          rintro e w7 ⟨r, rfl, hr, hb⟩
          have HS7 := Lib.hid (HS6.out.step hB hb)
          have HRB := Lib.hid hr
          clear hr
          clear hb HS6 a0 a1 a2 a3 a4 b0 b1 b2 b3 b4 c0 c1 c2 c3 c4
          obtain ⟨⟨a0, a1, a2, a3, a4⟩, ⟨b0, b1, b2, b3, b4⟩, ⟨c0, c1, c2, c3, c4⟩, -⟩ := HS7.out
          cases r with
          | false =>
            have hn0 : n = 0 := by
              rcases HN.out with ⟨_, h1, _⟩ | ⟨_, h⟩
              · exact absurd (HRB.out.2 h1) (by decide)
              · exact h
            subst hn0
            go_wp2_with fail
            refine (CSM.out _ HS7.out).mono ?_
            rintro e w99 hs
            have HF := Lib.hid (SameP.true (HTV.out _ HS7.out).2 hs)
            obtain ⟨rfl, -⟩ := hs
            clear CSM
            go_wp2_with fail
            go_ret
            exact HF.out
          | true =>
            have hra : RightP a := by first | exact HRA.out.1 rfl | exact HRA.out | exact HRA.out.1 trivial
            have hrb : RightP b := by first | exact HRB.out.1 rfl | exact HRB.out | exact HRB.out.1 trivial
            have hn : n = cmpD a b := by
              rcases HN.out with ⟨_, _, h⟩ | ⟨h, _⟩
              · exact h
              · exact absurd ⟨hra, hrb⟩ h
            have HNC := Lib.hid hn
            have CRC0 := Lib.hid (show ∀ W, L3S w1 w.heap.size a b c x y z W → Calls Tryz.prog 29 #[datV a x, datV b y] W (LitP (.int .i64 n) W) from fun W h => by rw [hn]; exact refCompareD_any a b x y W (HTA.out W h) (HTB.out W h) HGA.out HGB.out (fine_of a 2000 0 hra) (fine_of b 2000 0 hrb))
            have CBA0 := Lib.hid (show ∀ W, L3S w1 w.heap.size a b c x y z W → Calls Tryz.prog 28 #[datV b y, datV a x] W (LitP (.int .i64 (-n)) W) from fun W h => (CBA.out W h).mono (fun e w' ⟨m, h1, h2, h3⟩ => ⟨by
              rcases h2 with ⟨_, _, h⟩ | ⟨h, _⟩
              · rw [h1, h, cmpD_neg a b, hn]
              · exact absurd ⟨hrb, hra⟩ h, h3⟩))
            have CSAB := Lib.hid (show ∀ W, L3S w1 w.heap.size a b c x y z W → Calls Tryz.prog 26 #[datV a x, datV b y] W (LitP (.bool (decide (n = 0))) W) from fun W h => (same16_any a b x y W (HTA.out W h) (HTB.out W h) HGA.out HGB.out).mono (fun e w' ⟨r, h1, h2, h3⟩ => ⟨by
              rw [h1]; congr 2; rw [Bool.eq_iff_iff, h2, decide_eq_true_iff, hn, cmpD_zero], h3⟩))
            have hbn : -1 ≤ n ∧ n ≤ 1 := by rw [hn]; exact cmpD_bnd a b
            have HRA2 := Lib.hid hra; have HRB2 := Lib.hid hrb
            have hnn : n = -1 ∨ n = 0 ∨ n = 1 := by omega
            clear hn hra hrb hbn HRA HRB HN CRA CRB CAB CBA
            rcases hnn with rfl | rfl | rfl
            · skip
              go_wp2_with fail
              refine (CRC0.out _ HS7.out).mono ?_
              rintro e w8 ⟨rfl, hb⟩
              have HS8 := Lib.hid (HS7.out.step hB hb)
              clear hb HS7 a0 a1 a2 a3 a4 b0 b1 b2 b3 b4 c0 c1 c2 c3 c4
              obtain ⟨⟨a0, a1, a2, a3, a4⟩, ⟨b0, b1, b2, b3, b4⟩, ⟨c0, c1, c2, c3, c4⟩, -⟩ := HS8.out
              go_wp2_with fail
              refine (CBA0.out _ HS8.out).mono ?_
              rintro e w9 ⟨rfl, hb⟩
              have HS9 := Lib.hid (HS8.out.step hB hb)
              clear hb HS8 a0 a1 a2 a3 a4 b0 b1 b2 b3 b4 c0 c1 c2 c3 c4
              obtain ⟨⟨a0, a1, a2, a3, a4⟩, ⟨b0, b1, b2, b3, b4⟩, ⟨c0, c1, c2, c3, c4⟩, -⟩ := HS9.out
              go_wp2_with fail
              refine (CSAB.out _ HS9.out).mono ?_
              rintro e w10 ⟨rfl, hb⟩
              have HS10 := Lib.hid (HS9.out.step hB hb)
              clear hb HS9 a0 a1 a2 a3 a4 b0 b1 b2 b3 b4 c0 c1 c2 c3 c4
              obtain ⟨⟨a0, a1, a2, a3, a4⟩, ⟨b0, b1, b2, b3, b4⟩, ⟨c0, c1, c2, c3, c4⟩, -⟩ := HS10.out
              go_wp2_with fail
              refine (CRC.out _ HS10.out).mono ?_
              rintro e w11 ⟨r, rfl, hr, hb⟩
              have HS11 := Lib.hid (HS10.out.step hB hb)
              have HRC := Lib.hid hr
              clear hr
              clear hb HS10 a0 a1 a2 a3 a4 b0 b1 b2 b3 b4 c0 c1 c2 c3 c4
              obtain ⟨⟨a0, a1, a2, a3, a4⟩, ⟨b0, b1, b2, b3, b4⟩, ⟨c0, c1, c2, c3, c4⟩, -⟩ := HS11.out
              cases r with
              | false =>
                go_wp2_with fail
                refine (CSM.out _ HS11.out).mono ?_
                rintro e w99 hs
                have HF := Lib.hid (SameP.true (HTV.out _ HS11.out).2 hs)
                obtain ⟨rfl, -⟩ := hs
                clear CSM
                go_wp2_with fail
                go_ret
                exact HF.out
              | true =>
                have hrc : RightP c := by first | exact HRC.out.1 rfl | exact HRC.out | exact HRC.out.1 trivial
                have HRC2 := Lib.hid hrc
                clear hrc HRC
                go_wp2_with fail
                refine (CBC.out _ HS11.out).mono ?_
                rintro e w12 ⟨m, rfl, hm, hb⟩
                have HS12 := Lib.hid (HS11.out.step hB hb)
                have hm2 : m = cmpD b c := by
                  rcases hm with ⟨_, _, h⟩ | ⟨h, _⟩
                  · exact h
                  · exact absurd ⟨HRB2.out, HRC2.out⟩ h
                have HM := Lib.hid hm2
                clear hm hm2
                clear hb HS11 a0 a1 a2 a3 a4 b0 b1 b2 b3 b4 c0 c1 c2 c3 c4
                obtain ⟨⟨a0, a1, a2, a3, a4⟩, ⟨b0, b1, b2, b3, b4⟩, ⟨c0, c1, c2, c3, c4⟩, -⟩ := HS12.out
                by_cases hmp : 0 < m
                · have g1 : decide ((0 : Int) < m) = true := by simpa using hmp
                  go_wp2_with fail
                  refine (CSM.out _ HS12.out).mono ?_
                  rintro e w99 hs
                  have HF := Lib.hid (SameP.true (HTV.out _ HS12.out).2 hs)
                  obtain ⟨rfl, -⟩ := hs
                  clear CSM
                  go_wp2_with fail
                  go_ret
                  exact HF.out
                · have g1 : decide ((0 : Int) < m) = false := by simpa using hmp
                  go_wp2_with fail
                  refine (CAC.out _ HS12.out).mono ?_
                  rintro e w13 ⟨q, rfl, hq, hb⟩
                  have HS13 := Lib.hid (HS12.out.step hB hb)
                  have hq2 : q = cmpD a c := by
                    rcases hq with ⟨_, _, h⟩ | ⟨h, _⟩
                    · exact h
                    · exact absurd ⟨HRA2.out, HRC2.out⟩ h
                  have hq3 : q ≤ 0 := by rw [hq2]; exact (cmpD_tr a b c (by rw [← HNC.out]; decide) (by rw [← HM.out]; omega)).1
                  have g2 : decide (q ≤ 0) = true := by simpa using hq3
                  clear hq hq2
                  clear hb HS12 a0 a1 a2 a3 a4 b0 b1 b2 b3 b4 c0 c1 c2 c3 c4
                  obtain ⟨⟨a0, a1, a2, a3, a4⟩, ⟨b0, b1, b2, b3, b4⟩, ⟨c0, c1, c2, c3, c4⟩, -⟩ := HS13.out
                  go_wp2_with fail
                  refine (CSM.out _ HS13.out).mono ?_
                  rintro e w99 hs
                  have HF := Lib.hid (SameP.true (HTV.out _ HS13.out).2 hs)
                  obtain ⟨rfl, -⟩ := hs
                  clear CSM
                  go_wp2_with fail
                  go_ret
                  exact HF.out
            · skip
              go_wp2_with fail
              refine (CRC0.out _ HS7.out).mono ?_
              rintro e w8 ⟨rfl, hb⟩
              have HS8 := Lib.hid (HS7.out.step hB hb)
              clear hb HS7 a0 a1 a2 a3 a4 b0 b1 b2 b3 b4 c0 c1 c2 c3 c4
              obtain ⟨⟨a0, a1, a2, a3, a4⟩, ⟨b0, b1, b2, b3, b4⟩, ⟨c0, c1, c2, c3, c4⟩, -⟩ := HS8.out
              go_wp2_with fail
              refine (CBA0.out _ HS8.out).mono ?_
              rintro e w9 ⟨rfl, hb⟩
              have HS9 := Lib.hid (HS8.out.step hB hb)
              clear hb HS8 a0 a1 a2 a3 a4 b0 b1 b2 b3 b4 c0 c1 c2 c3 c4
              obtain ⟨⟨a0, a1, a2, a3, a4⟩, ⟨b0, b1, b2, b3, b4⟩, ⟨c0, c1, c2, c3, c4⟩, -⟩ := HS9.out
              go_wp2_with fail
              refine (CSAB.out _ HS9.out).mono ?_
              rintro e w10 ⟨rfl, hb⟩
              have HS10 := Lib.hid (HS9.out.step hB hb)
              clear hb HS9 a0 a1 a2 a3 a4 b0 b1 b2 b3 b4 c0 c1 c2 c3 c4
              obtain ⟨⟨a0, a1, a2, a3, a4⟩, ⟨b0, b1, b2, b3, b4⟩, ⟨c0, c1, c2, c3, c4⟩, -⟩ := HS10.out
              go_wp2_with fail
              refine (CRC.out _ HS10.out).mono ?_
              rintro e w11 ⟨r, rfl, hr, hb⟩
              have HS11 := Lib.hid (HS10.out.step hB hb)
              have HRC := Lib.hid hr
              clear hr
              clear hb HS10 a0 a1 a2 a3 a4 b0 b1 b2 b3 b4 c0 c1 c2 c3 c4
              obtain ⟨⟨a0, a1, a2, a3, a4⟩, ⟨b0, b1, b2, b3, b4⟩, ⟨c0, c1, c2, c3, c4⟩, -⟩ := HS11.out
              cases r with
              | false =>
                go_wp2_with fail
                refine (CSM.out _ HS11.out).mono ?_
                rintro e w99 hs
                have HF := Lib.hid (SameP.true (HTV.out _ HS11.out).2 hs)
                obtain ⟨rfl, -⟩ := hs
                clear CSM
                go_wp2_with fail
                go_ret
                exact HF.out
              | true =>
                have hrc : RightP c := by first | exact HRC.out.1 rfl | exact HRC.out | exact HRC.out.1 trivial
                have HRC2 := Lib.hid hrc
                clear hrc HRC
                go_wp2_with fail
                refine (CBC.out _ HS11.out).mono ?_
                rintro e w12 ⟨m, rfl, hm, hb⟩
                have HS12 := Lib.hid (HS11.out.step hB hb)
                have hm2 : m = cmpD b c := by
                  rcases hm with ⟨_, _, h⟩ | ⟨h, _⟩
                  · exact h
                  · exact absurd ⟨HRB2.out, HRC2.out⟩ h
                have HM := Lib.hid hm2
                clear hm hm2
                clear hb HS11 a0 a1 a2 a3 a4 b0 b1 b2 b3 b4 c0 c1 c2 c3 c4
                obtain ⟨⟨a0, a1, a2, a3, a4⟩, ⟨b0, b1, b2, b3, b4⟩, ⟨c0, c1, c2, c3, c4⟩, -⟩ := HS12.out
                by_cases hmp : 0 < m
                · have g1 : decide ((0 : Int) < m) = true := by simpa using hmp
                  go_wp2_with fail
                  refine (CSM.out _ HS12.out).mono ?_
                  rintro e w99 hs
                  have HF := Lib.hid (SameP.true (HTV.out _ HS12.out).2 hs)
                  obtain ⟨rfl, -⟩ := hs
                  clear CSM
                  go_wp2_with fail
                  go_ret
                  exact HF.out
                · have g1 : decide ((0 : Int) < m) = false := by simpa using hmp
                  go_wp2_with fail
                  refine (CAC.out _ HS12.out).mono ?_
                  rintro e w13 ⟨q, rfl, hq, hb⟩
                  have HS13 := Lib.hid (HS12.out.step hB hb)
                  have hq2 : q = cmpD a c := by
                    rcases hq with ⟨_, _, h⟩ | ⟨h, _⟩
                    · exact h
                    · exact absurd ⟨HRA2.out, HRC2.out⟩ h
                  have hq3 : q ≤ 0 := by rw [hq2]; exact (cmpD_tr a b c (by rw [← HNC.out]; decide) (by rw [← HM.out]; omega)).1
                  have g2 : decide (q ≤ 0) = true := by simpa using hq3
                  clear hq hq2
                  clear hb HS12 a0 a1 a2 a3 a4 b0 b1 b2 b3 b4 c0 c1 c2 c3 c4
                  obtain ⟨⟨a0, a1, a2, a3, a4⟩, ⟨b0, b1, b2, b3, b4⟩, ⟨c0, c1, c2, c3, c4⟩, -⟩ := HS13.out
                  go_wp2_with fail
                  refine (CSM.out _ HS13.out).mono ?_
                  rintro e w99 hs
                  have HF := Lib.hid (SameP.true (HTV.out _ HS13.out).2 hs)
                  obtain ⟨rfl, -⟩ := hs
                  clear CSM
                  go_wp2_with fail
                  go_ret
                  exact HF.out
            · skip
              go_wp2_with fail
              refine (CRC0.out _ HS7.out).mono ?_
              rintro e w8 ⟨rfl, hb⟩
              have HS8 := Lib.hid (HS7.out.step hB hb)
              clear hb HS7 a0 a1 a2 a3 a4 b0 b1 b2 b3 b4 c0 c1 c2 c3 c4
              obtain ⟨⟨a0, a1, a2, a3, a4⟩, ⟨b0, b1, b2, b3, b4⟩, ⟨c0, c1, c2, c3, c4⟩, -⟩ := HS8.out
              go_wp2_with fail
              refine (CBA0.out _ HS8.out).mono ?_
              rintro e w9 ⟨rfl, hb⟩
              have HS9 := Lib.hid (HS8.out.step hB hb)
              clear hb HS8 a0 a1 a2 a3 a4 b0 b1 b2 b3 b4 c0 c1 c2 c3 c4
              obtain ⟨⟨a0, a1, a2, a3, a4⟩, ⟨b0, b1, b2, b3, b4⟩, ⟨c0, c1, c2, c3, c4⟩, -⟩ := HS9.out
              go_wp2_with fail
              refine (CSAB.out _ HS9.out).mono ?_
              rintro e w10 ⟨rfl, hb⟩
              have HS10 := Lib.hid (HS9.out.step hB hb)
              clear hb HS9 a0 a1 a2 a3 a4 b0 b1 b2 b3 b4 c0 c1 c2 c3 c4
              obtain ⟨⟨a0, a1, a2, a3, a4⟩, ⟨b0, b1, b2, b3, b4⟩, ⟨c0, c1, c2, c3, c4⟩, -⟩ := HS10.out
              go_wp2_with fail
              refine (CRC.out _ HS10.out).mono ?_
              rintro e w11 ⟨r, rfl, hr, hb⟩
              have HS11 := Lib.hid (HS10.out.step hB hb)
              have HRC := Lib.hid hr
              clear hr
              clear hb HS10 a0 a1 a2 a3 a4 b0 b1 b2 b3 b4 c0 c1 c2 c3 c4
              obtain ⟨⟨a0, a1, a2, a3, a4⟩, ⟨b0, b1, b2, b3, b4⟩, ⟨c0, c1, c2, c3, c4⟩, -⟩ := HS11.out
              cases r with
              | false =>
                go_wp2_with fail
                refine (CSM.out _ HS11.out).mono ?_
                rintro e w99 hs
                have HF := Lib.hid (SameP.true (HTV.out _ HS11.out).2 hs)
                obtain ⟨rfl, -⟩ := hs
                clear CSM
                go_wp2_with fail
                go_ret
                exact HF.out
              | true =>
                go_wp2_with fail
                refine (CSM.out _ HS11.out).mono ?_
                rintro e w99 hs
                have HF := Lib.hid (SameP.true (HTV.out _ HS11.out).2 hs)
                obtain ⟨rfl, -⟩ := hs
                clear CSM
                go_wp2_with fail
                go_ret
                exact HF.out
end Go.Proofs.YtjnhcoflmechmaaGreatDoor
