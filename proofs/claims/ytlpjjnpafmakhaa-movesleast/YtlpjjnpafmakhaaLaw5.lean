/-
  The law MovesLeast, walked.
-/
import Derived.Test.YtlpjjnpafmakhaaLaw4
namespace Go.Proofs.Ytlpjjnpafmakhaa
open Go.RowKit
set_option linter.unusedVariables false

theorem movedL_take {ps : List (Int × Int)} {m i : Nat} (hm : m < ps.length) : movedL (ps.take (m + 1)) i = (movedL (ps.take m) i || (ps[m].1 == (i : Int))) := by
  unfold movedL
  rw [List.take_succ_eq_append_getElem hm, List.any_append]
  simp
def hitP (l : List Int) (p : Int × Int) : Bool := decide (0 ≤ p.1 ∧ p.1 < l.length ∧ 0 ≤ el l p.1.toNat)
def hits (l : List Int) (ps : List (Int × Int)) (k : Nat) : Nat := (ps.take k).countP (hitP l)
theorem hits_succ {l : List Int} {ps : List (Int × Int)} {k : Nat} (hk : k < ps.length) : hits l ps (k + 1) = hits l ps k + (if hitP l ps[k] then 1 else 0) := by
  unfold hits
  rw [List.take_succ_eq_append_getElem hk, List.countP_append]
  simp [List.countP_cons]
theorem hits_le (l : List Int) (ps : List (Int × Int)) (k : Nat) : hits l ps k ≤ ps.length := by
  unfold hits
  have h1 := List.countP_le_length (p := hitP l) (l := ps.take k)
  rw [List.length_take] at h1; omega
theorem hits_plan (l : List Int) : hits l (planL l) (planL l).length = least l := by
  unfold hits
  rw [List.take_of_length_le (Nat.le_refl _)]
  have h := plan_count l l.length (Nat.le_refl _)
  rw [Nat.sub_self] at h
  have h0 : leastTo l 0 = 0 := rfl
  rw [h0] at h
  exact h
theorem movedTo_yes {l : List Int} {ps : List (Int × Int)} {n : Nat} (h1 : movedL ps n = true) (h2 : 0 ≤ el l n) : movedTo l ps (n + 1) = movedTo l ps n + 1 := by rw [movedTo_succ, h1]; simp [h2]
theorem movedTo_neg {l : List Int} {ps : List (Int × Int)} {n : Nat} (h2 : el l n < 0) : movedTo l ps (n + 1) = movedTo l ps n := by
  have : ¬ 0 ≤ el l n := by omega
  rw [movedTo_succ]; simp [this]
theorem movedTo_not {l : List Int} {ps : List (Int × Int)} {n : Nat} (h1 : movedL ps n = false) : movedTo l ps (n + 1) = movedTo l ps n := by rw [movedTo_succ, h1]; simp

set_option maxRecDepth 100000 in
set_option maxHeartbeats 8000000 in
theorem law5_any (A : Option Addr) (c : Nat) (l : List Int) (A2 : Option Addr) (c2 : Nat) (ps : List (Int × Int)) (w : World) (hr : Row w w.heap.size A l) (hc : l.length ≤ c) (hm : c ≤ maxLen) (hwf : Wf l) (hp : PRow w w.heap.size A2 ps) (hc2 : ps.length ≤ c2) (hm2 : c2 ≤ maxLen) :
    Calls Try.prog 5 #[.slice A l.length c, .slice A2 ps.length c2] w fun e w' => e = .returned (.bool true) ∧ Below w.heap.size w w' := by
  unfold maxLen at hm hm2
  by_cases hb : 80 < l.length
  · have hd : decide (80 < l.length) = true := by simpa using hb
    have hd' : decide ((80 : Int) < (l.length : Int)) = true := by simp; omega
    clear hwf hr hp
    go_enter Try.func5, Try.ntmps5
    go_wp2_with fail
    refine (same_law w).mono ?_
    rintro e w1 ⟨rfl, hb1⟩
    go_wp2_with fail
    go_ret
    exact ⟨rfl, hb1⟩
  · have hd : decide (80 < l.length) = false := by simpa using hb
    have hd' : decide ((80 : Int) < (l.length : Int)) = false := by simp; omega
    by_cases hbp : 200 < ps.length
    · have hd2 : decide (200 < ps.length) = true := by simpa using hbp
      have hd2' : decide ((200 : Int) < (ps.length : Int)) = true := by simp; omega
      clear hwf hr hp
      go_enter Try.func5, Try.ntmps5
      go_wp2_with fail
      refine (same_law w).mono ?_
      rintro e w1 ⟨rfl, hb1⟩
      go_wp2_with fail
      go_ret
      exact ⟨rfl, hb1⟩
    · have hd2 : decide (200 < ps.length) = false := by simpa using hbp
      have hd2' : decide ((200 : Int) < (ps.length : Int)) = false := by simp; omega
      have hl : l.length ≤ 1000000 := by omega
      have hpl : ps.length ≤ 1000000 := by omega
      have HF := Lib.hid hwf
      clear hwf
      cases ht : twice l with
      | true =>
        have HT := Lib.hid ht
        clear ht
        go_enter Try.func5, Try.ntmps5
        go_wp2_with fail
        refine (twice_is A c l w hr hl true HT.out).mono ?_
        rintro e w1 ⟨rfl, hb1⟩
        go_wp2_with fail
        refine (same_law w1).mono ?_
        rintro e w3 ⟨rfl, hb3⟩
        go_wp2_with fail
        go_ret
        exact ⟨rfl, below_trans hb1 hb3⟩
      | false =>
        have HT := Lib.hid ht
        have HP := Lib.hid (planB_no ht); have HE := Lib.hid (errOf_no ht); have HLB := Lib.hid (leastB_no ht)
        have hpll := planR_length l l.length
        have hhp := hits_plan l
        obtain ⟨qs, hqs⟩ : ∃ qs, qs = planL l := ⟨_, rfl⟩
        have hql : qs.length ≤ l.length := by rw [hqs]; exact hpll
        rw [← hqs] at HP hhp
        have HHP := Lib.hid hhp
        obtain ⟨r, hrr⟩ : ∃ r, r = runL l.length (startL l) ps := ⟨_, rfl⟩
        have hol := out_len (start_is ht).fine hrr.symm
        have HRR := Lib.hid hrr
        have hml : least l ≤ l.length := leastTo_le l l.length
        clear ht hqs hrr hpll hhp
        go_enter Try.func5, Try.ntmps5
        go_wp2_with fail
        refine (twice_is A c l w hr hl false HT.out).mono ?_
        rintro e w1 ⟨rfl, hb1⟩
        have hr1 := hr.up hb1
        have hp1 := hp.up hb1
        go_wp2_with fail
        refine (run_is A c l A2 c2 ps w1 hr1 hl HT.out hp1 hpl r HRR.out.symm).mono ?_
        rintro e w3 ⟨A3, c3, rfl, hy3, -, hb3⟩
        have hb03 := below_trans hb1 hb3
        have hr3 := hr.up hb03
        have hp3 := hp.up hb03
        clear hb1 hb3 hr1 hp1
        cases r with
        | none =>
          have e1 : (outL none).length = 0 := rfl
          rw [e1]
          simp only [Option.isSome_none]
          clear e1 hy3 hr3 hp3
          go_wp2_with fail
          refine (same_law w3).mono ?_
          rintro e w4 ⟨rfl, hb4⟩
          go_wp2_with fail
          go_ret
          exact ⟨rfl, below_trans hb03 hb4⟩
        | some s =>
          have e1 : outL (some s) = s := rfl
          rw [e1] at hy3 hol
          rw [e1]
          simp only [Option.isSome_some]
          clear e1
          by_cases hup : s = List.range l.length
          · have HLM := Lib.hid (least_moves (start_is HT.out) (by rw [← hup]; exact HRR.out.symm))
            have HUP := Lib.hid hup
            clear hup
            go_wp2_with fail
            refine (up_is A3 c3 s l.length w3 hy3 (by omega) hl true (by simp [HUP.out])).mono ?_
            rintro e w4 ⟨rfl, rfl⟩
            clear hy3
            go_wp2_with fail
            go_loop [7, 46] (fun n i => ∃ k : Nat, k ≤ l.length ∧ i = .int .i64 k ∧ n = .int .i64 (movedTo l ps k)) (fun _ i => l.length - (intOf i).toNat)
            case atStart => exact ⟨0, by omega, rfl, rfl⟩
            case round =>
              obtain ⟨k, hk, rfl, rfl⟩ := hrel
              have hmt := movedTo_le l ps k
              by_cases hlt : k < l.length
              · go_wp2_with fail
                go_loop [9, 51] (fun v i => ∃ m : Nat, m ≤ ps.length ∧ i = .int .i64 m ∧ v = .bool (movedL (ps.take m) k)) (fun _ i => ps.length - (intOf i).toNat)
                case atStart => exact ⟨0, by omega, rfl, rfl⟩
                case round =>
                  obtain ⟨m, hmm, rfl, rfl⟩ := hrel
                  by_cases hmp : m < ps.length
                  · obtain ⟨b, off, x, y, rfl, hb, hxy, cx, cy⟩ := prow_at hp3 hmp
                    have hst := movedL_take (i := k) hmp
                    rw [hxy] at hst
                    have HST := Lib.hid hst
                    clear hst hxy
                    generalize movedL (ps.take m) k = r at HST ⊢
                    cases r with
                    | true =>
                      go_wp2_with fail
                      exact ⟨⟨m + 1, by omega, by go_num, by rw [HST.out]; rfl⟩, by simp [intOf]; omega⟩
                    | false =>
                      by_cases hxk : x = (k : Int)
                      · have hd3 : (x == (k : Int)) = true := by simpa using hxk
                        have HD := Lib.hid hd3
                        clear hxk
                        go_wp2_with fail
                        exact ⟨⟨m + 1, by omega, by go_num, by rw [HST.out]; show _ = Value.bool (false || (x == (k : Int))); rw [HD.out]; rfl⟩, by simp [intOf]; omega⟩
                      · have hd3 : (x == (k : Int)) = false := by simpa using hxk
                        have HD := Lib.hid hd3
                        go_wp2_with fail
                        exact ⟨⟨m + 1, by omega, by go_num, by rw [HST.out]; show _ = Value.bool (false || (x == (k : Int))); rw [HD.out]; rfl⟩, by simp [intOf]; omega⟩
                  · obtain rfl : m = ps.length := by omega
                    have hmv : movedL (ps.take ps.length) k = movedL ps k := by rw [List.take_of_length_le (Nat.le_refl _)]
                    rw [hmv]
                    clear hmv
                    obtain ⟨b, off, x, rfl, hb, hx, hcx⟩ := row_at hr3 hlt
                    have ex : el l k = x := hx.symm
                    cases hmv : movedL ps k with
                    | true =>
                      by_cases h0 : x < 0
                      · have hd3 : decide (0 ≤ x) = false := by simpa using h0
                        have HM := Lib.hid (movedTo_neg (ps := ps) (show el l k < 0 by rw [ex]; exact h0))
                        clear hx ex hmv
                        go_wp2_with fail
                        exact ⟨⟨k + 1, by omega, by go_num, by rw [HM.out]⟩, by simp [intOf]; omega⟩
                      · have hd3 : decide (0 ≤ x) = true := by simp; omega
                        have HM := Lib.hid (movedTo_yes hmv (show 0 ≤ el l k by rw [ex]; omega))
                        clear hx ex hmv
                        go_wp2_with fail
                        exact ⟨⟨k + 1, by omega, by go_num, by rw [HM.out]; go_num⟩, by simp [intOf]; omega⟩
                    | false =>
                      have HM := Lib.hid (movedTo_not (l := l) hmv)
                      clear hx ex hmv
                      go_wp2_with fail
                      exact ⟨⟨k + 1, by omega, by go_num, by rw [HM.out]⟩, by simp [intOf]; omega⟩
              · obtain rfl : k = l.length := by omega
                have hnl := HLM.out
                obtain ⟨nm, hnm⟩ : ∃ nm, nm = movedTo l ps l.length := ⟨_, rfl⟩
                rw [← hnm] at hnl hmt
                rw [← hnm]
                clear hnm hlt
                go_wp2_with fail
                refine (plan_is A c l w3 hr3 hl HF.out qs 0 HP.out HE.out).mono ?_
                rintro e w5 ⟨A5, c5, rfl, hp5, hcm5, hb5⟩
                have hb05 := below_trans hb03 hb5
                have hr5 := hr.up hb05
                clear hb03 hb5 hr3 hp3
                go_wp2_with fail
                go_loop [13, 83] (fun n i => ∃ k : Nat, k ≤ qs.length ∧ i = .int .i64 k ∧ n = .int .i64 (hits l qs k)) (fun _ i => qs.length - (intOf i).toNat)
                case atStart => exact ⟨0, by omega, rfl, rfl⟩
                case round =>
                  obtain ⟨k, hk, rfl, rfl⟩ := hrel
                  have hhl := hits_le l qs k
                  by_cases hlt : k < qs.length
                  · obtain ⟨b, off, x, y, rfl, hb, hxy, cx, cy⟩ := prow_at hp5 hlt
                    have hst := hits_succ (l := l) hlt
                    rw [hxy] at hst
                    have HST := Lib.hid hst
                    clear hst hxy
                    by_cases h0 : x < 0
                    · have hd3 : decide (0 ≤ x) = false := by simpa using h0
                      have HI := Lib.hid (show hitP l (x, y) = false by simp [hitP]; omega)
                      go_wp2_with fail
                      exact ⟨⟨k + 1, by omega, by go_num, by rw [HST.out, HI.out]; rfl⟩, by simp [intOf]; omega⟩
                    · have hd3 : decide (0 ≤ x) = true := by simp; omega
                      obtain ⟨t, rfl⟩ : ∃ t : Nat, x = t := ⟨x.toNat, by omega⟩
                      by_cases h1 : t < l.length
                      · have hd4 : decide (t < l.length) = true := by simpa using h1
                        have hd4' : decide ((t : Int) < (l.length : Int)) = true := by simp; omega
                        obtain ⟨b2, off2, z, rfl, hb2, hz, hcz⟩ := row_at hr5 h1
                        have ez : el l t = z := hz.symm
                        by_cases h2 : z < 0
                        · have hd5 : decide (0 ≤ z) = false := by simpa using h2
                          have HI := Lib.hid (show hitP l ((t : Int), y) = false by simp [hitP, ez]; omega)
                          clear hz ez
                          go_wp2_with fail
                          exact ⟨⟨k + 1, by omega, by go_num, by rw [HST.out, HI.out]; rfl⟩, by simp [intOf]; omega⟩
                        · have hd5 : decide (0 ≤ z) = true := by simp; omega
                          have HI := Lib.hid (show hitP l ((t : Int), y) = true by simp [hitP, ez]; omega)
                          clear hz ez
                          go_wp2_with fail
                          exact ⟨⟨k + 1, by omega, by go_num, by rw [HST.out, HI.out]; go_num⟩, by simp [intOf]; omega⟩
                      · have hd4 : decide (t < l.length) = false := by simpa using h1
                        have hd4' : decide ((t : Int) < (l.length : Int)) = false := by simp; omega
                        have HI := Lib.hid (show hitP l ((t : Int), y) = false by simp [hitP]; omega)
                        go_wp2_with fail
                        exact ⟨⟨k + 1, by omega, by go_num, by rw [HST.out, HI.out]; rfl⟩, by simp [intOf]; omega⟩
                  · obtain rfl : k = qs.length := by omega
                    rw [HHP.out]
                    rw [HHP.out] at hhl
                    obtain ⟨mm, hmm⟩ : ∃ mm, mm = least l := ⟨_, rfl⟩
                    rw [← hmm] at hnl hml hhl HLB
                    rw [← hmm]
                    have hd6 : decide (mm ≤ nm) = true := by simpa using hnl
                    have hd6' : decide ((mm : Int) ≤ (nm : Int)) = true := by simp; omega
                    have hd7 : (mm == mm) = true := by simp
                    have hd7' : ((mm : Int) == (mm : Int)) = true := by simp
                    clear hmm hlt hp5
                    go_wp2_with fail
                    refine (least_is A c l w5 hr5 hl HF.out mm HLB.out).mono ?_
                    rintro e w6 ⟨rfl, hb6⟩
                    have hb06 := below_trans hb05 hb6
                    have hr6 := hr.up hb06
                    clear hb05 hb6 hr5
                    go_wp2_with fail
                    refine (least_is A c l w6 hr6 hl HF.out mm HLB.out).mono ?_
                    rintro e w7 ⟨rfl, hb7⟩
                    have hb07 := below_trans hb06 hb7
                    clear hb06 hb7 hr6
                    go_wp2_with fail
                    refine (same_law w7).mono ?_
                    rintro e w8 ⟨rfl, hb8⟩
                    go_wp2_with fail
                    go_ret
                    exact ⟨rfl, below_trans hb07 hb8⟩
          · have HUP := Lib.hid (show decide (s = List.range l.length) = false by simpa using hup)
            clear hup
            go_wp2_with fail
            refine (up_is A3 c3 s l.length w3 hy3 (by omega) hl false HUP.out).mono ?_
            rintro e w4 ⟨rfl, rfl⟩
            clear hy3
            go_wp2_with fail
            refine (same_law w3).mono ?_
            rintro e w5 ⟨rfl, hb5⟩
            go_wp2_with fail
            go_ret
            exact ⟨rfl, below_trans hb03 hb5⟩
end Go.Proofs.Ytlpjjnpafmakhaa
