/-
  tendrillaw05.RanksPlaces and RanksTurned: they answer true.
-/
import Derived.Test.YtdfalejldjbaiaaSame
import Derived.Test.YtdfalejldjbaiaaRefs
namespace Go.Proofs.Ytdfalejldjbaiaa
open Go.RowKit
set_option linter.unusedVariables false

theorem turn_of_ranks (l : List Int) : turnR (ranksL l) = sortedL l := by
  obtain ⟨s, h⟩ := exists_sorted l
  unfold turnR
  rw [if_pos (ranksL_isP h)]; rfl

set_option maxRecDepth 100000 in
set_option maxHeartbeats 4000000 in
theorem places_any (A1 A2 : Option Addr) (c1 c2 : Nat) (p l : List Int) (w : World) (h1 : Row w w.heap.size A1 p) (h2 : Row w w.heap.size A2 l) (hm1 : p.length ≤ maxLen) (hm2 : l.length ≤ maxLen) :
    Calls Try.prog 3 #[.slice A1 p.length c1, .slice A2 l.length c2] w fun e w' => e = .returned (.bool true) ∧ Below w.heap.size w w' := by
  unfold maxLen at hm1 hm2
  by_cases hp : 200 < p.length
  · have hp' : (200 : Int) < p.length := by omega
    go_enter Try.func3, Try.ntmps3
    go_wp2_with fail
    refine (same_law _).mono ?_
    rintro e w1 ⟨rfl, hb1⟩
    go_wp2
    go_ret
    exact ⟨rfl, hb1⟩
  · have hp' : ¬ (200 : Int) < p.length := by omega
    by_cases hl : 200 < l.length
    · have hl' : (200 : Int) < l.length := by omega
      go_enter Try.func3, Try.ntmps3
      go_wp2_with fail
      refine (same_law _).mono ?_
      rintro e w1 ⟨rfl, hb1⟩
      go_wp2
      go_ret
      exact ⟨rfl, hb1⟩
    · have hl' : ¬ (200 : Int) < l.length := by omega
      clear hm1 hm2
      go_enter Try.func3, Try.ntmps3
      go_wp2_with fail
      refine (refRanks_any A2 c2 l w h2 (by omega)).mono ?_
      rintro e w1 ⟨Ar, cr, rfl, hr1, -, -, -, hb1⟩
      have hp1 := h1.up hb1
      have hl1 := h2.up hb1
      clear h1 h2
      go_wp2_with fail
      refine (is_any A1 c1 p w1 hp1 (by omega)).mono ?_
      rintro e w2 ⟨rfl, hb2⟩
      have hp2 := hp1.up hb2
      have hl2 := hl1.up hb2
      have hr2 := hr1.up hb2
      have hb2' := below_trans hb1 hb2
      clear hp1 hl1 hr1 hb1 hb2
      go_wp2_with fail
      refine (refIs_any A1 c1 p w2 hp2 (by omega)).mono ?_
      rintro e w2' ⟨rfl, rfl⟩
      generalize isP p = bp
      have hbb : (bp == bp) = true := by simp
      go_wp2_with fail
      refine (turn_any A1 c1 p w2 hp2 (by omega)).mono ?_
      rintro e w3 ⟨A3, c3, rfl, hr3, -, -, -, hb3⟩
      have hp3 := hp2.up hb3
      have hl3 := hl2.up hb3
      have hrr3 := hr2.up hb3
      have hb3' := below_trans hb2' hb3
      clear hp2 hl2 hr2 hb2' hb3
      go_wp2_with fail
      refine (refTurn_any A1 c1 p w3 hp3 (by omega)).mono ?_
      rintro e w4 ⟨A4, c4, rfl, hr4, -, -, -, hb4⟩
      have hl4 := hl3.up hb4
      have hrr4 := hrr3.up hb4
      have ht4 := hr3.up hb4
      have hb4' := below_trans hb3' hb4
      clear hp3 hl3 hrr3 hr3 hb3' hb4
      go_wp2_with fail
      refine (ints_any A3 A4 c3 c4 (turnR p) w4 ht4 hr4 (by have := turnR_length (p := p); omega)).mono ?_
      rintro e w5 ⟨rfl, hb5⟩
      have hl5 := hl4.up hb5
      have hrr5 := hrr4.up hb5
      have hb5' := below_trans hb4' hb5
      clear hl4 hrr4 ht4 hr4 hb4' hb5
      go_wp2_with fail
      refine (ranks_any A2 c2 l w5 hl5 (by omega)).mono ?_
      rintro e w6 ⟨A6, c6, rfl, hr6, -, -, -, hb6⟩
      have hl6 := hl5.up hb6
      have hrr6 := hrr5.up hb6
      have hb6' := below_trans hb5' hb6
      clear hl5 hrr5 hb5' hb6
      go_wp2_with fail
      refine (ints_any A6 Ar c6 cr (ranksL l) w6 hr6 hrr6 (by rw [ranksL_length]; omega)).mono ?_
      rintro e w7 ⟨rfl, hb7⟩
      have hl7 := hl6.up hb7
      have hrr7 := hrr6.up hb7
      have hb7' := below_trans hb6' hb7
      clear hl6 hrr6 hb6' hb7 hr6
      go_wp2_with fail
      refine (sorted_any A2 c2 l w7 hl7 (by omega)).mono ?_
      rintro e w8 ⟨A8, c8, rfl, hr8, -, -, -, hb8⟩
      have hrr8 := hrr7.up hb8
      have hb8' := below_trans hb7' hb8
      clear hl7 hrr7 hb7' hb8
      go_wp2_with fail
      have c9 := refTurn_any Ar cr (ranksL l) w8 hrr8 (by rw [ranksL_length]; omega)
      rw [turn_of_ranks] at c9
      refine c9.mono ?_
      clear c9
      rintro e w9 ⟨A9, c9, rfl, hr9, -, -, -, hb9⟩
      have hs9 := hr8.up hb9
      have hb9' := below_trans hb8' hb9
      clear hrr8 hb8' hb9 hr8
      go_wp2_with fail
      refine (ints_any A8 A9 c8 c9 (sortedL l) w9 hs9 hr9 (by rw [sortedL_length]; omega)).mono ?_
      rintro e w10 ⟨rfl, hb10⟩
      have hb10' := below_trans hb9' hb10
      clear hb9' hb10 hr9 hs9
      go_wp2_with fail
      refine (same_law _).mono ?_
      rintro e w11 ⟨rfl, hb11⟩
      have hb11' := below_trans hb10' hb11
      go_wp2
      go_ret
      exact ⟨rfl, hb11'⟩

def FallRel (w : World) (l : List Int) (f i : Value) (wr : World) : Prop := ∃ k : Nat, k ≤ l.length ∧ i = .int .i64 k ∧ f = .bool (fallsL l k) ∧ Below w.heap.size w wr

set_option maxRecDepth 100000 in
set_option maxHeartbeats 4000000 in
theorem turnedLaw_any (A : Option Addr) (c : Nat) (l : List Int) (w : World) (h : Row w w.heap.size A l) (hm : l.length ≤ maxLen) :
    Calls Try.prog 4 #[.slice A l.length c] w fun e w' => e = .returned (.bool true) ∧ Below w.heap.size w w' := by
  unfold maxLen at hm
  by_cases hp : 300 < l.length
  · have hp' : (300 : Int) < l.length := by omega
    go_enter Try.func4, Try.ntmps4
    go_wp2_with fail
    refine (same_law _).mono ?_
    rintro e w1 ⟨rfl, hb1⟩
    go_wp2
    go_ret
    exact ⟨rfl, hb1⟩
  · have hp' : ¬ (300 : Int) < l.length := by omega
    clear hm
    go_enter Try.func4, Try.ntmps4
    go_wp2_with fail
    refine (turned_any A c l w h (by omega)).mono ?_
    rintro e w1 ⟨rfl, hb1⟩
    go_wp2
    go_loopw [4, 14] (FallRel w l) (fun _ i _ => l.length - (intOf i).toNat)
    case atStart => exact ⟨0, by omega, rfl, rfl, hb1⟩
    case round =>
      clear hb1
      obtain ⟨k, hk, rfl, rfl, hbel⟩ := hrel
      by_cases hlt : k < l.length
      · have hfs := falls_succ l k
        have HF := Lib.hid hfs; clear hfs
        cases hf : fallsL l k with
        | true =>
          rw [hf] at HF
          clear hf
          go_wp2_with fail
          go_quiet (fail)
          go_wp2
          exact ⟨⟨k + 1, by omega, by go_num, by rw [HF.out]; rfl, bel_drewN hbel _⟩, by simp [intOf]; omega⟩
        | false =>
          rw [hf] at HF
          clear hf
          rcases Nat.eq_zero_or_pos k with rfl | h0
          · go_wp2_with fail
            go_quiet (fail)
            go_wp2
            exact ⟨⟨1, by omega, by go_num, by rw [HF.out]; rfl, bel_drewN hbel _⟩, by simp [intOf]; omega⟩
          · obtain ⟨b, off, x, rfl, hb, hx, hc⟩ := row_at (h.below hbel) hlt
            have hc2 := Row.at2 (h.below hbel) (show k - 1 < l.length by omega)
            obtain ⟨y, hy⟩ : ∃ y, y = l.getD (k - 1) 0 := ⟨_, rfl⟩
            rw [← hy] at hc2
            have e1 : decide (el l k < el l (k - 1)) = decide (x < y) := by subst hx hy; rfl
            rw [e1] at HF
            clear e1 hx hy
            obtain ⟨j, rfl⟩ : ∃ j, k = j + 1 := ⟨k - 1, by omega⟩
            simp only [Nat.add_sub_cancel] at hc2
            by_cases hxy : x < y
            · go_wp2_with fail
              go_quiet (fail)
              go_wp2
              refine ⟨⟨j + 1 + 1, by omega, by go_num, ?_, bel_drewN hbel _⟩, by simp [intOf]; omega⟩
              rw [HF.out]; simp [hxy]
            · go_wp2_with fail
              go_quiet (fail)
              go_wp2
              refine ⟨⟨j + 1 + 1, by omega, by go_num, ?_, bel_drewN hbel _⟩, by simp [intOf]; omega⟩
              rw [HF.out]; simp
      · obtain rfl : k = l.length := by omega
        have hfall : fallsL l l.length = decide (0 < turned l) := by
          have := tur_pos l l.length
          unfold turned
          cases hf : fallsL l l.length with
          | true => exact (decide_eq_true (this.2 hf)).symm
          | false => exact (decide_eq_false (fun h => by rw [this.1 h] at hf; cases hf)).symm
        have hle : turned l ≤ 1000000 := by
          have h1 := tur_le l l.length
          have h2 : l.length * l.length ≤ 300 * 300 := Nat.mul_le_mul (by omega) (by omega)
          unfold turned; omega
        have hlr := h.up hbel
        have k1 : ∀ wr, Row wr wr.heap.size A l → Calls Try.prog 16 #[.slice A l.length c] wr fun e w' => e = .returned (.int .i64 (turned l)) ∧ Below wr.heap.size wr w' := fun wr h => refTurned_any A c l wr h (by omega)
        have k2 : ∀ wr A' c', Row wr wr.heap.size A' (ranksL l) → Calls Try.prog 15 #[.slice A' (ranksL l).length c'] wr fun e w' => e = .returned (.int .i64 (turned l)) ∧ Below wr.heap.size wr w' := fun wr A' c' h => by
          have := turned_any A' c' (ranksL l) wr h (by rw [ranksL_length]; omega)
          rwa [turned_ranks] at this
        rw [hfall]
        clear hfall
        generalize turned l = t at hle k1 k2 ⊢
        have K1 := Lib.hid k1
        have K2 := Lib.hid k2
        clear k1 k2
        obtain ⟨bt, hbt⟩ : ∃ bt, decide (0 < t) = bt := ⟨_, rfl⟩
        rw [hbt]
        have hbb : (bt == bt) = true := by simp
        go_wp2_with fail
        refine (K1.out _ hlr).mono ?_
        rintro e w2 ⟨rfl, hb2⟩
        have hb2' := hbel.trans (hb2.mono hbel.size)
        have hlr2 := hlr.up hb2
        go_wp2_with fail
        refine (ranks_any A c l w2 hlr2 (by omega)).mono ?_
        rintro e w3 ⟨A3, c3, rfl, hr3, -, -, -, hb3⟩
        have hb3' := below_trans hb2' hb3
        go_wp2_with fail
        refine (K2.out w3 A3 c3 hr3).mono ?_
        rintro e w4 ⟨rfl, hb4⟩
        have hb4' := below_trans hb3' hb4
        go_wp2_with fail
        refine (same_law _).mono ?_
        rintro e w5 ⟨rfl, hb5⟩
        go_wp2
        go_ret
        exact ⟨rfl, below_trans hb4' hb5⟩
end Go.Proofs.Ytdfalejldjbaiaa
