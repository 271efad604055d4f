/-
  tendrilref05.Ranks and tendrilref05.Turned: what they answer.
-/
import Derived.Test.YtdfalejldjbaiaaTurn
namespace Go.Proofs.Ytdfalejldjbaiaa
open Go.RowKit
set_option linter.unusedVariables false

def RRRel (w : World) (l : List Int) (v i : Value) (wr : World) : Prop := ∃ k : Nat, k ≤ l.length ∧ i = .int .i64 k ∧ OwnI wr w.heap.size v ((ranksL l).take k) ∧ Below w.heap.size w wr
def RRIn (w : World) (l : List Int) (v : Value) (i : Nat) (n k : Value) (wr : World) : Prop :=
  ∃ m : Nat, m ≤ l.length ∧ k = .int .i64 m ∧ n = .int .i64 ((List.range m).countP (fun k => bef l k i)) ∧ OwnI wr w.heap.size v ((ranksL l).take i) ∧ Below w.heap.size w wr

theorem bef_el {l : List Int} {k i : Nat} {x y : Int} (hx : x = l.getD k 0) (hy : y = l.getD i 0) : bef l k i = decide (x < y ∨ (x = y ∧ k < i)) := by
  subst hx hy; rfl

set_option maxHeartbeats 2000000 in
theorem refRanks_any (A : Option Addr) (c : Nat) (l : List Int) (w : World) (hr : Row w w.heap.size A l) (hl : l.length ≤ 1000000) :
    Calls Try.prog 7 #[.slice A l.length c] w (Made w (ranksL l)) := by
  obtain ⟨i0, hi, hz0, hz1, hz2⟩ := info_parts Try.info3
  go_enter Try.func7, Try.ntmps7
  go_wp2
  go_loopw [3, 9] (RRRel w l) (fun _ i _ => l.length - (intOf i).toNat)
  case atStart => exact ⟨0, by omega, rfl, by simpa [OwnI] using World.ownsRow_nil _ _ _ _, Below.refl _ _⟩
  case round =>
    obtain ⟨i, hil, rfl, hown, hbel⟩ := hrel
    by_cases hlt : i < l.length
    · go_wp2
      go_loopw [5, 14] (RRIn w l u3 i) (fun _ k _ => l.length - (intOf k).toNat)
      case atStart => exact ⟨0, by omega, rfl, by simp, hown, hbel⟩
      case round =>
        clear hown hbel
        obtain ⟨m, hm, rfl, rfl, hown, hbel⟩ := hrel
        have hle := rank_le l i m
        by_cases hml : m < l.length
        · obtain ⟨b, off, x, rfl, hb, hx, hc⟩ := row_at (hr.below hbel) hml
          have hc2 := Row.at2 (hr.below hbel) hlt
          obtain ⟨y, hy⟩ : ∃ y, y = l.getD i 0 := ⟨_, rfl⟩
          rw [← hy] at hc2
          have hst := countP_range_succ (fun k => bef l k i) m
          rw [bef_el hx hy] at hst
          have HS := Lib.hid hst; clear hst hx hy
          have HO := Lib.hid hown; clear hown
          generalize (List.range m).countP (fun k => bef l k i) = q at hle HS ⊢
          by_cases h1 : x < y
          · have hd1 : decide (x < y) = true := by simpa using h1
            go_wp2_with fail
            go_quiet (fail)
            go_wp2
            refine ⟨⟨m + 1, by omega, by go_num, ?_, HO.out, bel_drewN hbel _⟩, by simp [intOf]; omega⟩
            rw [HS.out, if_pos (by simp; omega)]; go_num
          · have hd1 : decide (x < y) = false := by simpa using h1
            by_cases h2 : x = y
            · subst h2
              by_cases h3 : m < i
              · have hd3 : decide (m < i) = true := by simpa using h3
                go_wp2_with fail
                go_quiet (fail)
                go_wp2
                refine ⟨⟨m + 1, by omega, by go_num, ?_, HO.out, bel_drewN hbel _⟩, by simp [intOf]; omega⟩
                rw [HS.out, if_pos (by simp; omega)]; go_num
              · have hd3 : decide (m < i) = false := by simpa using h3
                go_wp2_with fail
                go_quiet (fail)
                go_wp2
                refine ⟨⟨m + 1, by omega, by go_num, ?_, HO.out, bel_drewN hbel _⟩, by simp [intOf]; omega⟩
                rw [HS.out, if_neg (by simp; omega)]; go_num
            · have hd2 : (x == y) = false := by simpa using h2
              go_wp2_with fail
              go_quiet (fail)
              go_wp2
              refine ⟨⟨m + 1, by omega, by go_num, ?_, HO.out, bel_drewN hbel _⟩, by simp [intOf]; omega⟩
              rw [HS.out, if_neg (by simp; omega)]; go_num
        · obtain rfl : m = l.length := by omega
          have htr := take_ranksL hlt
          have htl : ((ranksL l).take i).length = i := by simp [ranksL_length]; omega
          have HTR := Lib.hid htr
          have HTL := Lib.hid htl
          clear htr htl
          have hsz := hbel.size
          unfold rank at HTR
          generalize (List.range l.length).countP (fun k => bef l k i) = q at hle HTR ⊢
          unfold OwnI at hown
          rw [HTL.out] at hown
          go_wp2_with (at_builtin; refine wpList_app1 rfl _ _ 22 rfl w.heap.size 3 i0 (.int .i64 0) 8 Try.underlying22 hi hz0 hz1 hz2 rfl _ _ _ rfl hown (.int .i64 (q : Int)) rfl rfl (by omega) (by simp [maxLen]; omega) (by omega) ?_; intro v' w2 hown2 hbel2)
          refine ⟨⟨i + 1, by omega, by go_num, ?_, hbel.trans hbel2⟩, by simp [intOf]; omega⟩
          rw [HTR.out]
          exact own_next (by rw [HTL.out]; exact hown2)
    · obtain rfl : i = l.length := by omega
      rw [List.take_of_length_le (by rw [ranksL_length]; omega)] at hown
      go_wp2
      go_ret
      exact made_own hown hbel

set_option maxHeartbeats 2000000 in
theorem refTurned_any (A : Option Addr) (c : Nat) (l : List Int) (w : World) (hr : Row w w.heap.size A l) (hl : l.length ≤ 1000000) :
    Calls Try.prog 16 #[.slice A l.length c] w fun e w' => e = .returned (.int .i64 (turned l)) ∧ Below w.heap.size w w' := by
  go_enter Try.func16, Try.ntmps16
  go_wp2
  go_loopw [3, 8] (fun n i wr => ∃ k : Nat, k ≤ l.length ∧ i = .int .i64 k ∧ n = .int .i64 (tur l k) ∧ Below w.heap.size w wr) (fun _ i _ => l.length - (intOf i).toNat)
  case atStart => exact ⟨0, by omega, rfl, rfl, Below.refl _ _⟩
  case round =>
    obtain ⟨i, hil, rfl, rfl, hbel⟩ := hrel
    have htl := tur_le l i
    have hii : i * i ≤ 1000000 * 1000000 := Nat.mul_le_mul (by omega) (by omega)
    have htl' : tur l i ≤ 1000000000000 := by omega
    clear htl hii
    by_cases hlt : i < l.length
    · have hnx : tur l (i + 1) = tur l i + (List.range i).countP (fun k => decide (el l i < el l k)) := rfl
      have HNX := Lib.hid hnx; clear hnx
      generalize tur l i = t at htl' HNX ⊢
      go_wp2
      go_loopw [3, 12] (fun n k wr => ∃ m : Nat, m ≤ i ∧ k = .int .i64 m ∧ n = .int .i64 ((t + (List.range m).countP (fun k => decide (el l i < el l k)) : Nat) : Int) ∧ Below w.heap.size w wr) (fun _ k _ => i - (intOf k).toNat)
      case atStart => exact ⟨0, by omega, rfl, by simp, hbel⟩
      case round =>
        clear hbel
        obtain ⟨m, hm, rfl, rfl, hbel⟩ := hrel
        have hle := List.countP_le_length (p := fun k => decide (el l i < el l k)) (l := List.range m)
        rw [List.length_range] at hle
        by_cases hml : m < i
        · obtain ⟨b, off, x, rfl, hb, hx, hc⟩ := row_at (hr.below hbel) (show m < l.length by omega)
          have hc2 := Row.at2 (hr.below hbel) hlt
          obtain ⟨y, hy⟩ : ∃ y, y = l.getD i 0 := ⟨_, rfl⟩
          have hst := countP_range_succ (fun k => decide (el l i < el l k)) m
          have e1 : decide (el l i < el l m) = decide (y < x) := by subst hx hy; rfl
          rw [e1] at hst
          rw [← hy] at hc2
          have HS := Lib.hid hst; clear hst hx hy e1
          generalize (List.range m).countP (fun k => decide (el l i < el l k)) = q at hle HS ⊢
          by_cases h1 : y < x
          · go_wp2_with fail
            go_quiet (fail)
            go_wp2
            refine ⟨⟨m + 1, by omega, by go_num, ?_, bel_drewN hbel _⟩, by simp [intOf]; omega⟩
            rw [HS.out, if_pos (by simpa using h1)]; go_num
          · go_wp2_with fail
            go_quiet (fail)
            go_wp2
            refine ⟨⟨m + 1, by omega, by go_num, ?_, bel_drewN hbel _⟩, by simp [intOf]; omega⟩
            rw [HS.out, if_neg (by simpa using h1)]; go_num
        · obtain rfl : m = i := by omega
          generalize (List.range m).countP (fun k => decide (el l m < el l k)) = q at hle HNX ⊢
          go_wp2
          exact ⟨⟨m + 1, by omega, by go_num, by rw [HNX.out], hbel⟩, by simp [intOf]; omega⟩
    · obtain rfl : i = l.length := by omega
      go_wp2
      go_ret
      exact ⟨rfl, hbel⟩
end Go.Proofs.Ytdfalejldjbaiaa
