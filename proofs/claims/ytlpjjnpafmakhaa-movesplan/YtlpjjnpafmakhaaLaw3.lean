/-
  The law MovesPlan, walked.
-/
import Derived.Test.YtlpjjnpafmakhaaSame
namespace Go.Proofs.Ytlpjjnpafmakhaa
open Go.RowKit
set_option linter.unusedVariables false

theorem stay_ans (A : Option Addr) (c : Nat) (l : List Int) (w : World) (hr : Row w w.heap.size A l) (hl : l.length ≤ 1000000) (hwf : Wf l) (r : List Bool) (hb : stayB l = r) :
    Calls Try.prog 8 #[.slice A l.length c] w (MadeB w r) := by rw [← hb]; exact stay_any A c l w hr hl hwf
theorem plan_is (A : Option Addr) (c : Nat) (l : List Int) (w : World) (hr : Row w w.heap.size A l) (hl : l.length ≤ 1000000) (hwf : Wf l) (ps : List (Int × Int)) (en : Int) (h1 : planB l = ps) (h2 : errOf l = en) :
    Calls Try.prog 7 #[.slice A l.length c] w (PlanAns w ps en) := by rw [← h1, ← h2]; exact plan_ans A c l w hr hl hwf
theorem check_is (A : Option Addr) (c : Nat) (l : List Int) (w : World) (hr : Row w w.heap.size A l) (hl : l.length ≤ 1000000) (hwf : Wf l) (en : Int) (h2 : errOf l = en) :
    Calls Try.prog 10 #[.slice A l.length c] w fun e w' => e = .returned (.int .i64 en) ∧ Below w.heap.size w w' := by rw [← h2]; exact check_any A c l w hr hl hwf
theorem least_is (A : Option Addr) (c : Nat) (l : List Int) (w : World) (hr : Row w w.heap.size A l) (hl : l.length ≤ 1000000) (hwf : Wf l) (m : Nat) (h2 : leastB l = m) :
    Calls Try.prog 11 #[.slice A l.length c] w fun e w' => e = .returned (.int .i64 m) ∧ Below w.heap.size w w' := by rw [← h2]; exact least_any A c l w hr hl hwf
theorem twice_is (A : Option Addr) (c : Nat) (l : List Int) (w : World) (hr : Row w w.heap.size A l) (hl : l.length ≤ 1000000) (r : Bool) (h2 : twice l = r) :
    Calls Try.prog 9 #[.slice A l.length c] w fun e w' => e = .returned (.bool r) ∧ Below w.heap.size w w' := by rw [← h2]; exact refTwice_any A c l w hr hl

def CRel3 (w : World) (n : Nat) (i : Value) (wr : World) : Prop := ∃ k : Nat, k ≤ n ∧ i = .int .i64 k ∧ Below w.heap.size w wr
set_option maxRecDepth 100000 in
set_option maxHeartbeats 8000000 in
theorem law3_any (A : Option Addr) (c : Nat) (l : List Int) (w : World) (hr : Row w w.heap.size A l) (hc : l.length ≤ c) (hm : c ≤ maxLen) (hwf : Wf l) :
    Calls Try.prog 3 #[.slice A l.length c] w fun e w' => e = .returned (.bool true) ∧ Below w.heap.size w w' := by
  unfold maxLen at hm
  by_cases hb : 100 < l.length
  · have hd : decide (100 < l.length) = true := by simpa using hb
    have hd' : decide ((100 : Int) < (l.length : Int)) = true := by simp; omega
    clear hwf hr
    go_enter Try.func3, Try.ntmps3
    go_wp2_with fail
    refine (same_law w).mono ?_
    rintro e w1 ⟨rfl, hb1⟩
    go_wp2_with fail
    go_ret
    exact ⟨rfl, hb1⟩
  · have hd : decide (100 < l.length) = false := by simpa using hb
    have hd' : decide ((100 : Int) < (l.length : Int)) = false := by simp; omega
    have hl : l.length ≤ 1000000 := by omega
    have HF := Lib.hid hwf
    clear hwf
    cases ht : twice l with
    | true =>
      have HP := Lib.hid (planB_yes ht); have HE := Lib.hid (errOf_yes ht); have HSB := Lib.hid (stayB_yes ht); have HLB := Lib.hid (leastB_yes ht); have HT := Lib.hid ht
      clear ht
      go_enter Try.func3, Try.ntmps3
      go_wp2_with fail
      refine (plan_is A c l w hr hl HF.out [] 10 HP.out HE.out).mono ?_
      rintro e w1 ⟨A1, c1, rfl, hp1, hcm1, hb1⟩
      have hr1 := hr.up hb1
      go_wp2_with fail
      refine (stay_ans A c l w1 hr1 hl HF.out [] HSB.out).mono ?_
      rintro e w2 ⟨A2, c2, rfl, hs2, -, -, -, hb2⟩
      have hb02 := below_trans hb1 hb2
      have hr2 := hr.up hb02
      clear hb1 hb2 hp1 hs2 hr1
      go_wp2_with fail
      refine (twice_is A c l w2 hr2 hl true HT.out).mono ?_
      rintro e w3 ⟨rfl, hb3⟩
      have hb03 := below_trans hb02 hb3
      have hr3 := hr.up hb03
      clear hb02 hb3 hr2
      go_wp2_with fail
      refine (check_is A c l w3 hr3 hl HF.out 10 HE.out).mono ?_
      rintro e w4 ⟨rfl, hb4⟩
      have hb04 := below_trans hb03 hb4
      have hr4 := hr.up hb04
      clear hb03 hb4 hr3
      go_wp2_with fail
      refine (least_is A c l w4 hr4 hl HF.out 0 HLB.out).mono ?_
      rintro e w5 ⟨rfl, hb5⟩
      have hb05 := below_trans hb04 hb5
      clear hb04 hb5 hr4
      go_wp2_with fail
      refine (same_law w5).mono ?_
      rintro e w6 ⟨rfl, hb6⟩
      go_wp2_with fail
      go_ret
      exact ⟨rfl, below_trans hb05 hb6⟩
    | false =>
      have HP := Lib.hid (planB_no ht); have HE := Lib.hid (errOf_no ht); have HSB := Lib.hid (stayB_no ht); have HLB := Lib.hid (leastB_no ht); have HT := Lib.hid ht
      clear ht
      have hpl := planR_length l l.length
      obtain ⟨ps, hps⟩ : ∃ ps, ps = planL l := ⟨_, rfl⟩
      have hpl' : ps.length ≤ l.length := by rw [hps]; exact hpl
      rw [← hps] at HP
      have HPS := Lib.hid hps
      obtain ⟨bs, hbs⟩ : ∃ bs, bs = stayL l := ⟨_, rfl⟩
      have hbl : bs.length = l.length := by rw [hbs]; exact stayL_length l
      rw [← hbs] at HSB
      have HBS := Lib.hid hbs
      obtain ⟨m, hmm⟩ : ∃ m, m = least l := ⟨_, rfl⟩
      have hml : m ≤ l.length := by rw [hmm]; exact leastTo_le l l.length
      rw [← hmm] at HLB
      have HMM := Lib.hid hmm
      have hbl' : bs.length ≤ 100 := by omega
      have HBL := Lib.hid hbl
      clear hps hbs hmm hpl hbl
      go_enter Try.func3, Try.ntmps3
      go_wp2_with fail
      refine (plan_is A c l w hr hl HF.out ps 0 HP.out HE.out).mono ?_
      rintro e w1 ⟨A1, c1, rfl, hp1, hcm1, hb1⟩
      have hr1 := hr.up hb1
      go_wp2_with fail
      refine (stay_ans A c l w1 hr1 hl HF.out bs HSB.out).mono ?_
      rintro e w2 ⟨A2, c2, rfl, hs2, -, hcm2, -, hb2⟩
      have hb02 := below_trans hb1 hb2
      have hr2 := hr.up hb02
      have hp2 := hp1.up hb2
      clear hb1 hb2 hp1 hr1
      go_wp2_with fail
      refine (twice_is A c l w2 hr2 hl false HT.out).mono ?_
      rintro e w3 ⟨rfl, hb3⟩
      have hb03 := below_trans hb02 hb3
      have hr3 := hr.up hb03
      have hp3 := hp2.up hb3
      have hs3 := hs2.up hb3
      clear hb02 hb3 hr2 hp2 hs2
      have crp := refPlan_any A c l w3 hr3 hl
      rw [← HPS.out] at crp
      have CRP := Lib.hid crp
      clear crp
      go_wp2_with fail
      refine CRP.out.mono ?_
      rintro e w4 ⟨A4, c4, rfl, hq4, hb4⟩
      have hb04 := below_trans hb03 hb4
      have hr4 := hr.up hb04
      have hp4 := hp3.up hb4
      have hs4 := hs3.up hb4
      clear hb03 hb4 hr3 hp3 hs3 CRP
      have crs := refStay_any A c l w4 hr4 hl
      rw [← HBS.out] at crs
      have CRS := Lib.hid crs
      clear crs
      go_wp2_with fail
      refine CRS.out.mono ?_
      rintro e w5 ⟨A5, c5, rfl, ht5, -, -, -, hb5⟩
      have hb05 := below_trans hb04 hb5
      have hr5 := hr.up hb05
      have hp5 := hp4.up hb5
      have hs5 := hs4.up hb5
      have hq5 := hq4.up hb5
      clear hb04 hb5 hr4 hp4 hs4 hq4 CRS
      go_wp2_with fail
      refine (check_is A c l w5 hr5 hl HF.out 0 HE.out).mono ?_
      rintro e w6 ⟨rfl, hb6⟩
      have hb06 := below_trans hb05 hb6
      have hr6 := hr.up hb06
      have hp6 := hp5.up hb6
      have hs6 := hs5.up hb6
      have hq6 := hq5.up hb6
      have ht6 := ht5.up hb6
      clear hb05 hb6 hr5 hp5 hs5 hq5 ht5
      go_wp2_with fail
      refine (least_is A c l w6 hr6 hl HF.out m HLB.out).mono ?_
      rintro e w7 ⟨rfl, hb7⟩
      have hb07 := below_trans hb06 hb7
      have hr7 := hr.up hb07
      have hp7 := hp6.up hb7
      have hs7 := hs6.up hb7
      have hq7 := hq6.up hb7
      have ht7 := ht6.up hb7
      clear hb06 hb7 hr6 hp6 hs6 hq6 ht6
      have crl := refLeast_any A c l w7 hr7 hl
      rw [← HMM.out] at crl
      have CRL := Lib.hid crl
      clear crl
      go_wp2_with fail
      refine CRL.out.mono ?_
      rintro e w8 ⟨rfl, hb8⟩
      have hb08 := below_trans hb07 hb8
      have hp8 := hp7.up hb8
      have hs8 := hs7.up hb8
      have hq8 := hq7.up hb8
      have ht8 := ht7.up hb8
      clear hb07 hb8 hr7 hp7 hs7 hq7 ht7 CRL
      go_wp2_with fail
      go_loopw [82] (CRel3 w8 ps.length) (fun i _ => ps.length - (intOf i).toNat)
      case atStart => exact ⟨0, by omega, rfl, Below.refl _ _⟩
      case round =>
        obtain ⟨k, hk, rfl, hbel⟩ := hrel
        by_cases hlt : k < ps.length
        · obtain ⟨b, off, x, y, rfl, hb, hxy, cx, cy⟩ := prow_at (hp8.below hbel) hlt
          obtain ⟨b2, off2, x2, y2, rfl, hb2, hxy2, cx2, cy2⟩ := prow_at (hq8.below hbel) hlt
          rw [hxy] at hxy2
          obtain ⟨rfl, rfl⟩ : x = x2 ∧ y = y2 := by simpa using hxy2
          have hd3 : (x != x) = false := by simp
          have hd4 : (y != y) = false := by simp
          clear hxy hxy2
          go_wp2_with fail
          go_quiet (fail)
          go_wp2
          exact ⟨⟨k + 1, by omega, by go_num, bel_drewN hbel _⟩, by simp [intOf]; omega⟩
        · have hb09 := below_trans hb08 hbel
          have hs9 := hs8.up hbel
          have ht9 := ht8.up hbel
          clear hb08 hbel hs8 ht8 hp8 hq8
          go_wp2_with fail
          go_loopw [112] (CRel3 wr bs.length) (fun i _ => bs.length - (intOf i).toNat)
          case atStart => exact ⟨0, by omega, rfl, Below.refl _ _⟩
          case round =>
            obtain ⟨k2, hk2, rfl, hbel⟩ := hrel
            by_cases hlt : k2 < bs.length
            · obtain ⟨b, off, x, rfl, hb, hx, cx⟩ := brow_at (hs9.below hbel) hlt
              obtain ⟨b2, off2, x2, rfl, hb2, hx2, cx2⟩ := brow_at (ht9.below hbel) hlt
              obtain rfl : x = x2 := by rw [hx, hx2]
              clear hx hx2
              have hd3 : (x != x) = false := by simp
              go_wp2_with fail
              go_quiet (fail)
              go_wp2
              exact ⟨⟨k2 + 1, by omega, by go_num, bel_drewN hbel _⟩, by simp [intOf]; omega⟩
            · have hb010 := below_trans hb09 hbel
              clear hb09 hbel hs9 ht9
              go_wp2_with fail
              refine (same_law _).mono ?_
              rintro e w11 ⟨rfl, hb11⟩
              go_wp2_with fail
              go_ret
              exact ⟨rfl, below_trans hb010 hb11⟩
end Go.Proofs.Ytlpjjnpafmakhaa
