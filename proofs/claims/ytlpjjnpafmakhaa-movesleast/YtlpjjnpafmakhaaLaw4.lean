/-
  The law MovesDo, walked.
-/
import Derived.Test.YtlpjjnpafmakhaaLaw3
namespace Go.Proofs.Ytlpjjnpafmakhaa
open Go.RowKit
set_option linter.unusedVariables false

theorem do_is (A : Option Addr) (c : Nat) (l : List Int) (A2 : Option Addr) (c2 : Nat) (ps : List (Int × Int)) (w : World) (hr : Row w w.heap.size A l) (hl : l.length ≤ 1000000) (hwf : Wf l) (hp : PRow w w.heap.size A2 ps) (hpl : ps.length ≤ 1000000) (r : Option (List Nat)) (h : runB l ps = r) :
    Calls Try.prog 15 #[.slice A l.length c, .slice A2 ps.length c2] w (DoAns w r) := by rw [← h]; exact doAll_any A c l A2 c2 ps w hr hl hwf hp hpl
theorem run_is (A : Option Addr) (c : Nat) (l : List Int) (A2 : Option Addr) (c2 : Nat) (ps : List (Int × Int)) (w : World) (hr : Row w w.heap.size A l) (hl : l.length ≤ 1000000) (ht : twice l = false) (hp : PRow w w.heap.size A2 ps) (hpl : ps.length ≤ 1000000) (r : Option (List Nat)) (h : runL l.length (startL l) ps = r) :
    Calls Try.prog 16 #[.slice A l.length c, .slice A2 ps.length c2] w (DoAns w r) := by rw [← h]; exact run_any A c l A2 c2 ps w hr hl ht hp hpl
theorem up_is (A : Option Addr) (c : Nat) (s : List Nat) (n : Nat) (w : World) (hr : Row w w.heap.size A (nats s)) (hl : s.length ≤ 1000000) (hn : n ≤ 1000000) (b : Bool) (h : decide (s = List.range n) = b) :
    Calls Try.prog 18 #[.slice A s.length c, .int .i64 n] w fun e w' => e = .returned (.bool b) ∧ w = w' := by rw [← h]; exact up_any A c s n w hr hl hn
theorem ints_same (A1 A2 : Option Addr) (c1 c2 : Nat) (s : List Nat) (w : World) (h1 : Row w w.heap.size A1 (nats s)) (h2 : Row w w.heap.size A2 (nats s)) (hl : s.length ≤ 1000000000) :
    Calls Try.prog 17 #[.slice A1 s.length c1, .slice A2 s.length c2] w fun e w' => e = .returned (.bool true) ∧ Below w.heap.size w w' := by
  have := ints_any A1 A2 c1 c2 (nats s) w h1 h2 (by rw [nats_length]; exact hl)
  rwa [nats_length] at this
theorem out_len {n : Nat} {s : List Nat} {ps : List (Int × Int)} {r : Option (List Nat)} (hf : Fine n s) (h : runL n s ps = r) : (outL r).length ≤ n := by
  cases r with
  | none => simp [outL]
  | some t => exact (hf.run h).len

set_option maxRecDepth 100000 in
set_option maxHeartbeats 8000000 in
theorem law4_any (A : Option Addr) (c : Nat) (l : List Int) (A2 : Option Addr) (c2 : Nat) (ps : List (Int × Int)) (w : World) (hr : Row w w.heap.size A l) (hc : l.length ≤ c) (hm : c ≤ maxLen) (hwf : Wf l) (hp : PRow w w.heap.size A2 ps) (hc2 : ps.length ≤ c2) (hm2 : c2 ≤ maxLen) :
    Calls Try.prog 4 #[.slice A l.length c, .slice A2 ps.length c2] w fun e w' => e = .returned (.bool true) ∧ Below w.heap.size w w' := by
  unfold maxLen at hm hm2
  by_cases hb : 80 < l.length
  · have hd : decide (80 < l.length) = true := by simpa using hb
    have hd' : decide ((80 : Int) < (l.length : Int)) = true := by simp; omega
    clear hwf hr hp
    go_enter Try.func4, Try.ntmps4
    go_wp2_with fail
    refine (same_law w).mono ?_
    rintro e w1 ⟨rfl, hb1⟩
    go_wp2_with fail
    go_ret
    exact ⟨rfl, hb1⟩
  · have hd : decide (80 < l.length) = false := by simpa using hb
    have hd' : decide ((80 : Int) < (l.length : Int)) = false := by simp; omega
    by_cases hbp : 80 < ps.length
    · have hd2 : decide (80 < ps.length) = true := by simpa using hbp
      have hd2' : decide ((80 : Int) < (ps.length : Int)) = true := by simp; omega
      clear hwf hr hp
      go_enter Try.func4, Try.ntmps4
      go_wp2_with fail
      refine (same_law w).mono ?_
      rintro e w1 ⟨rfl, hb1⟩
      go_wp2_with fail
      go_ret
      exact ⟨rfl, hb1⟩
    · have hd2 : decide (80 < ps.length) = false := by simpa using hbp
      have hd2' : decide ((80 : Int) < (ps.length : Int)) = false := by simp; omega
      have hl : l.length ≤ 1000000 := by omega
      have hpl : ps.length ≤ 1000000 := by omega
      have HF := Lib.hid hwf
      clear hwf
      cases ht : twice l with
      | true =>
        have HRB := Lib.hid (runB_yes ht ps); have HT := Lib.hid ht
        clear ht
        go_enter Try.func4, Try.ntmps4
        go_wp2_with fail
        refine (do_is A c l A2 c2 ps w hr hl HF.out hp hpl none HRB.out).mono ?_
        rintro e w1 ⟨A1, c1, rfl, -, -, hb1⟩
        have e1 : (outL none).length = 0 := rfl
        rw [e1]
        simp only [Option.isSome_none]
        clear e1
        have hr1 := hr.up hb1
        go_wp2_with fail
        refine (twice_is A c l w1 hr1 hl true HT.out).mono ?_
        rintro e w2 ⟨rfl, hb2⟩
        have hb02 := below_trans hb1 hb2
        clear hb1 hb2 hr1
        go_wp2_with fail
        refine (same_law w2).mono ?_
        rintro e w3 ⟨rfl, hb3⟩
        go_wp2_with fail
        go_ret
        exact ⟨rfl, below_trans hb02 hb3⟩
      | false =>
        have HRB := Lib.hid (runB_no ht ps); have HT := Lib.hid ht
        have HP := Lib.hid (planB_no ht); have HE := Lib.hid (errOf_no ht)
        have hpm := plan_makes ht
        have hrb2 := runB_no ht (planL l)
        rw [hpm] at hrb2
        have hpll := planR_length l l.length
        obtain ⟨qs, hqs⟩ : ∃ qs, qs = planL l := ⟨_, rfl⟩
        have hql : qs.length ≤ l.length := by rw [hqs]; exact hpll
        rw [← hqs] at HP hrb2
        have HRB2 := Lib.hid hrb2
        obtain ⟨r, hrr⟩ : ∃ r, r = runL l.length (startL l) ps := ⟨_, rfl⟩
        rw [← hrr] at HRB
        have hol := out_len (start_is ht).fine hrr.symm
        have HRR := Lib.hid hrr
        obtain ⟨ys, hys⟩ : ∃ ys, ys = outL r := ⟨_, rfl⟩
        have HYS := Lib.hid hys
        obtain ⟨ok, hok⟩ : ∃ ok, ok = r.isSome := ⟨_, rfl⟩
        have HOK := Lib.hid hok
        have hol' : ys.length ≤ l.length := by rw [hys]; exact hol
        obtain ⟨us, hus⟩ : ∃ us, us = List.range l.length := ⟨_, rfl⟩
        have hul : us.length = l.length := by rw [hus]; simp
        have hul' : us.length ≤ 1000000 := by omega
        have HUS := Lib.hid hus
        rw [← hus] at HRB2
        clear ht hpm hrb2 hqs hrr hpll hol hys hok hus hul
        go_enter Try.func4, Try.ntmps4
        go_wp2_with fail
        refine (do_is A c l A2 c2 ps w hr hl HF.out hp hpl r HRB.out).mono ?_
        rintro e w1 ⟨A1, c1, rfl, hx1, -, hb1⟩
        rw [← HYS.out] at hx1
        rw [← HYS.out, ← HOK.out]
        have hr1 := hr.up hb1
        have hp1 := hp.up hb1
        go_wp2_with fail
        refine (twice_is A c l w1 hr1 hl false HT.out).mono ?_
        rintro e w2 ⟨rfl, hb2⟩
        have hb02 := below_trans hb1 hb2
        have hr2 := hr.up hb02
        have hp2 := hp.up hb02
        have hx2 := hx1.up hb2
        clear hb1 hb2 hr1 hp1 hx1
        go_wp2_with fail
        refine (run_is A c l A2 c2 ps w2 hr2 hl HT.out hp2 hpl r HRR.out.symm).mono ?_
        rintro e w3 ⟨A3, c3, rfl, hy3, -, hb3⟩
        rw [← HYS.out] at hy3
        rw [← HYS.out, ← HOK.out]
        have hb03 := below_trans hb02 hb3
        have hr3 := hr.up hb03
        have hx3 := hx2.up hb3
        have hd3 : (ok != ok) = false := by simp
        clear hb02 hb3 hr2 hp2 hx2
        go_wp2_with fail
        refine (ints_same A1 A3 c1 c3 ys w3 hx3 hy3 (by omega)).mono ?_
        rintro e w4 ⟨rfl, hb4⟩
        have hb04 := below_trans hb03 hb4
        have hr4 := hr.up hb04
        clear hb03 hb4 hr3 hx3 hy3
        go_wp2_with fail
        refine (plan_is A c l w4 hr4 hl HF.out qs 0 HP.out HE.out).mono ?_
        rintro e w5 ⟨A5, c5, rfl, hp5, hcm5, hb5⟩
        have hb05 := below_trans hb04 hb5
        have hr5 := hr.up hb05
        clear hb04 hb5 hr4
        go_wp2_with fail
        refine (do_is A c l A5 c5 qs w5 hr5 hl HF.out hp5 (by omega) (some us) HRB2.out).mono ?_
        rintro e w6 ⟨A6, c6, rfl, hz6, -, hb6⟩
        have e1 : outL (some us) = us := rfl
        rw [e1] at hz6
        rw [e1]
        simp only [Option.isSome_some]
        have hb06 := below_trans hb05 hb6
        clear hb05 hb6 hr5 hp5 e1
        go_wp2_with fail
        refine (up_is A6 c6 us l.length w6 hz6 hul' hl true (by rw [HUS.out]; simp)).mono ?_
        rintro e w7 ⟨rfl, rfl⟩
        clear hz6
        go_wp2_with fail
        refine (same_law w6).mono ?_
        rintro e w8 ⟨rfl, hb8⟩
        go_wp2_with fail
        go_ret
        exact ⟨rfl, below_trans hb06 hb8⟩
end Go.Proofs.Ytlpjjnpafmakhaa
