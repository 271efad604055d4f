/-
  tendrilref08.Twice, Stay, Least: what they answer.
-/
import Derived.Test.YtlpjjnpafmakhaaStay
import Derived.Test.YtlpjjnpafmakhaaRefLong
namespace Go.Proofs.Ytlpjjnpafmakhaa
open Go.RowKit
set_option linter.unusedVariables false

theorem twiceAt_yes {l : List Int} {i m n : Nat} (hm : m < n) (h0 : 0 ≤ el l i) (he : el l i = el l m) : twiceAt l i n = true := by
  simp only [twiceAt, List.any_eq_true, List.mem_range, decide_eq_true_eq]
  exact ⟨m, hm, h0, he⟩
def TWRel (w : World) (l : List Int) (i : Value) (wr : World) : Prop := ∃ k : Nat, k ≤ l.length ∧ i = .int .i64 k ∧ twiceTo l k = false ∧ Below w.heap.size w wr
def TWIn (w : World) (l : List Int) (i : Nat) (k : Value) (wr : World) : Prop := ∃ m : Nat, m ≤ i ∧ k = .int .i64 m ∧ twiceAt l i m = false ∧ Below w.heap.size w wr
set_option maxRecDepth 100000 in
set_option maxHeartbeats 4000000 in
theorem refTwice_any (A : Option Addr) (c : Nat) (l : List Int) (w : World) (hr : Row w w.heap.size A l) (hl : l.length ≤ 1000000) :
    Calls Try.prog 9 #[.slice A l.length c] w fun e w' => e = .returned (.bool (twice l)) ∧ Below w.heap.size w w' := by
  go_enter Try.func9, Try.ntmps9
  go_wp2
  go_loopw [7] (TWRel w l) (fun i _ => l.length - (intOf i).toNat)
  case atStart => exact ⟨0, by omega, rfl, rfl, Below.refl _ _⟩
  case round =>
    obtain ⟨i, hil, rfl, htw, hbel⟩ := hrel
    have HT := Lib.hid htw; clear htw
    by_cases hlt : i < l.length
    · have hts := twiceTo_succ l i
      rw [HT.out, Bool.false_or] at hts
      have HS := Lib.hid hts; clear hts
      go_wp2_with fail
      go_loopw [11] (TWIn w l i) (fun k _ => i - (intOf k).toNat)
      case atStart => exact ⟨0, by omega, rfl, rfl, hbel⟩
      case round =>
        clear hbel
        obtain ⟨m, hm, rfl, hin, hbel⟩ := hrel
        have HI := Lib.hid hin; clear hin
        by_cases hml : m < i
        · obtain ⟨b, off, y, rfl, hb, hy, hc2⟩ := row_at (hr.below hbel) hlt
          have hc1 := Row.at2 (hr.below hbel) (show m < l.length by omega)
          obtain ⟨x, hx⟩ : ∃ x, x = l.getD m 0 := ⟨_, rfl⟩
          rw [← hx] at hc1
          have ey : el l i = y := hy.symm
          have ex : el l m = x := hx.symm
          have hst := twiceAt_succ l i m
          rw [HI.out, Bool.false_or, ey, ex] at hst
          have HST := Lib.hid hst; have HY := Lib.hid ey; have HX := Lib.hid ex
          clear hst hx hy ey ex
          by_cases h0 : y < 0
          · have hd0 : decide (0 ≤ y) = false := by simpa using h0
            go_wp2_with fail
            go_quiet (fail)
            go_wp2
            exact ⟨⟨m + 1, by omega, by go_num, by rw [HST.out]; simp; omega, bel_drewN hbel _⟩, by simp [intOf]; omega⟩
          · have hd0 : decide (0 ≤ y) = true := by simp; omega
            by_cases h1 : y = x
            · have hd1 : (y == x) = true := by simpa using h1
              have H1 := Lib.hid h1; clear h1
              go_wp2_with fail
              go_quiet (fail)
              go_wp2
              go_ret
              have : twice l = true := twiceTo_mono (n := i + 1) (by rw [HS.out]; exact twiceAt_yes hml (by rw [HY.out]; omega) (by rw [HY.out, HX.out]; exact H1.out)) (by omega)
              exact ⟨ret_bool this.symm, bel_drewN hbel _⟩
            · have hd1 : (y == x) = false := by simpa using h1
              go_wp2_with fail
              go_quiet (fail)
              go_wp2
              exact ⟨⟨m + 1, by omega, by go_num, by rw [HST.out]; simp [h1], bel_drewN hbel _⟩, by simp [intOf]; omega⟩
        · obtain rfl : m = i := by omega
          go_wp2
          exact ⟨⟨m + 1, by omega, by go_num, by rw [HS.out, HI.out], hbel⟩, by simp [intOf]; omega⟩
    · obtain rfl : i = l.length := by omega
      go_wp2
      go_ret
      exact ⟨ret_bool (HT.out).symm, hbel⟩

/-- Stay. -/
def staysTo (l : List Int) (i m : Nat) : Bool := decide (i ∈ (longL l).take m)
theorem staysTo_succ {l : List Int} {i m : Nat} (hm : m < (longL l).length) : staysTo l i (m + 1) = (staysTo l i m || ((longL l)[m] == i)) := by
  unfold staysTo
  rw [List.take_succ_eq_append_getElem hm]
  rw [Bool.eq_iff_iff]
  simp only [decide_eq_true_eq, Bool.or_eq_true, beq_iff_eq, List.mem_append, List.mem_singleton]
  exact ⟨fun h => h.imp id Eq.symm, fun h => h.imp id Eq.symm⟩
theorem staysTo_end (l : List Int) (i : Nat) : staysTo l i (longL l).length = stays l i := by simp [staysTo, stays]
def stayTo (l : List Int) (k : Nat) : List Bool := (List.range k).map (stays l)
theorem stayTo_succ (l : List Int) (k : Nat) : stayTo l (k + 1) = stayTo l k ++ [stays l k] := by simp [stayTo, List.range_succ]
theorem stayTo_length (l : List Int) (k : Nat) : (stayTo l k).length = k := by simp [stayTo]
def RSRel (w : World) (l : List Int) (v i : Value) (wr : World) : Prop := ∃ k : Nat, k ≤ l.length ∧ i = .int .i64 k ∧ wr.ownsRow w.heap.size 4 1 v k (bools (stayTo l k)) ∧ Below w.heap.size w wr
def RSIn (l : List Int) (i : Nat) (is k : Value) : Prop := ∃ m : Nat, m ≤ (longL l).length ∧ k = .int .i64 m ∧ is = .bool (staysTo l i m)
set_option maxRecDepth 100000 in
set_option maxHeartbeats 4000000 in
theorem refStay_any (A : Option Addr) (c : Nat) (l : List Int) (w : World) (hr : Row w w.heap.size A l) (hl : l.length ≤ 1000000) :
    Calls Try.prog 13 #[.slice A l.length c] w (MadeB w (stayL l)) := by
  obtain ⟨i0, hi, hz0, hz1, hz2⟩ := info_parts Try.info4
  have hLl : (longL l).length ≤ l.length := by
    have h1 : (longL l).length = lenL l := longL_length l
    have h2 := lenL_le l
    omega
  go_enter Try.func13, Try.ntmps13
  go_wp2_with fail
  refine (refLongest_any A c l w hr hl).mono ?_
  rintro e w1 ⟨A1, c1, rfl, hrow, -, -, -, hb1⟩
  rw [nats_length]
  go_wp2_with fail
  go_loopw [4, 12] (RSRel w1 l) (fun _ i _ => l.length - (intOf i).toNat)
  case atStart => exact ⟨0, by omega, rfl, World.ownsRow_nil _ _ _ _, Below.refl _ _⟩
  case round =>
    obtain ⟨i, hil, rfl, hown, hbel⟩ := hrel
    have hsz := hbel.size
    by_cases hlt : i < l.length
    · have HO := Lib.hid hown; clear hown
      go_wp2_with fail
      go_loop [6, 17] (RSIn l i) (fun _ k => (longL l).length - (intOf k).toNat)
      case atStart => exact ⟨0, by omega, rfl, by simp [staysTo]⟩
      case round =>
        obtain ⟨m, hm, rfl, rfl⟩ := hrel
        by_cases hml : m < (longL l).length
        · obtain ⟨b, off, x, rfl, hb, hx, hc⟩ := row_at (hrow.below hbel) (show m < (nats (longL l)).length by rw [nats_length]; exact hml)
          obtain ⟨t, htd⟩ : ∃ t, t = (longL l)[m] := ⟨_, rfl⟩
          have etk : x = (t : Int) := by rw [hx]; simp [nats, List.getD_eq_getElem?_getD, hml, htd]
          subst etk
          have hst := staysTo_succ (i := i) hml
          rw [← htd] at hst
          have HST := Lib.hid hst
          clear hx htd hst
          generalize staysTo l i m = r at HST ⊢
          cases r with
          | true =>
            go_wp2_with fail
            exact ⟨⟨m + 1, by omega, by go_num, by rw [HST.out]; rfl⟩, by simp [intOf]; omega⟩
          | false =>
            by_cases hti : t = i
            · have hd : (t == i) = true := by simpa using hti
              have hd2 : ((t : Int) == (i : Int)) = true := by simp [hti]
              have HTI := Lib.hid hd; clear hti
              go_wp2_with fail
              exact ⟨⟨m + 1, by omega, by go_num, by rw [HST.out, HTI.out]; rfl⟩, by simp [intOf]; omega⟩
            · have hd : (t == i) = false := by simpa using hti
              have hd2 : ((t : Int) == (i : Int)) = false := by simp; omega
              have HTI := Lib.hid hd
              go_wp2_with fail
              exact ⟨⟨m + 1, by omega, by go_num, by rw [HST.out, HTI.out]; rfl⟩, by simp [intOf]; omega⟩
        · obtain rfl : m = (longL l).length := by omega
          rw [staysTo_end]
          have hown := HO.out
          obtain ⟨r, hrr⟩ : ∃ r, r = stays l i := ⟨_, rfl⟩
          rw [← hrr]
          have HRR := Lib.hid hrr; clear hrr
          go_wp2_with (at_builtin; refine wpList_app1 rfl _ _ 28 rfl w1.heap.size 4 i0 (.bool false) 1 Try.underlying28 hi hz0 hz1 hz2 rfl _ _ _ rfl hown (.bool r) rfl rfl (by omega) (by simp [maxLen]; omega) (by omega) ?_; intro v' w2 hown2 hbel2)
          refine ⟨⟨i + 1, by omega, by go_num, ?_, hbel.trans hbel2⟩, by simp [intOf]; omega⟩
          rw [stayTo_succ, ← HRR.out]
          simpa [bools] using hown2
    · obtain rfl : i = l.length := by omega
      have HO := Lib.hid hown; clear hown
      go_wp2_with fail
      go_ret
      refine madeB_own (base := w1.heap.size) (w := w) ?_ (hb1.trans (hbel.mono hb1.size))
      rw [stayL_length]
      exact HO.out

set_option maxHeartbeats 2000000 in
theorem refLeast_any (A : Option Addr) (c : Nat) (l : List Int) (w : World) (hr : Row w w.heap.size A l) (hl : l.length ≤ 1000000) :
    Calls Try.prog 14 #[.slice A l.length c] w fun e w' => e = .returned (.int .i64 (least l)) ∧ Below w.heap.size w w' := by
  go_enter Try.func14, Try.ntmps14
  go_wp2_with fail
  refine (refStay_any A c l w hr hl).mono ?_
  rintro e w1 ⟨A1, c1, rfl, hrow, -, -, -, hb1⟩
  have hr1 := hr.below hb1
  rw [stayL_length]
  go_wp2_with fail
  go_loop [3, 10] (fun n i => ∃ k : Nat, k ≤ l.length ∧ i = .int .i64 k ∧ n = .int .i64 (leastTo l k)) (fun _ i => l.length - (intOf i).toNat)
  case atStart => exact ⟨0, by omega, rfl, rfl⟩
  case round =>
    obtain ⟨k, hk, rfl, rfl⟩ := hrel
    have hle := leastTo_le l k
    by_cases hlt : k < l.length
    · obtain ⟨b, off, x, rfl, hb, hx, hc⟩ := row_at hr1 hlt
      obtain ⟨b2, off2, y, rfl, hb2, hy, hc2⟩ := brow_at hrow (j := k) (by rw [stayL_length]; exact hlt)
      rw [stayL_at hlt] at hy
      have hx' : el l k = x := hx.symm
      by_cases h0 : x < 0
      · have hd : decide (0 ≤ x) = false := by simp; omega
        have HT := Lib.hid (leastTo_neg (show el l k < 0 by rw [hx']; exact h0))
        clear hx hy hx'
        go_wp2_with fail
        exact ⟨⟨k + 1, by omega, by go_num, by rw [HT.out]⟩, by simp [intOf]; omega⟩
      · have hd : decide (0 ≤ x) = true := by simp; omega
        cases y with
        | true =>
          have HT := Lib.hid (leastTo_stay hy.symm)
          clear hx hy hx'
          go_wp2_with fail
          exact ⟨⟨k + 1, by omega, by go_num, by rw [HT.out]⟩, by simp [intOf]; omega⟩
        | false =>
          have HT := Lib.hid (leastTo_yes (show 0 ≤ el l k by rw [hx']; omega) hy.symm)
          clear hx hy hx'
          go_wp2_with fail
          exact ⟨⟨k + 1, by omega, by go_num, by rw [HT.out]; go_num⟩, by simp [intOf]; omega⟩
    · obtain rfl : k = l.length := by omega
      go_wp2
      go_ret
      exact ⟨rfl, hb1⟩
end Go.Proofs.Ytlpjjnpafmakhaa
