/-
  tendrilref06.Rising: what it answers.
-/
import Derived.Test.YtplkfiffgcjmdaaBase
import Derived.Test.YtplkfiffgcjmdaaMath
namespace Go.Proofs.Ytplkfiffgcjmdaa
open Go.RowKit
set_option linter.unusedVariables false

theorem not_rising {l s : List Int} {i : Nat} (hi : i < s.length) (h : ¬ (0 ≤ s.getD i 0 ∧ s.getD i 0 < l.length ∧ 0 ≤ el l (s.getD i 0).toNat ∧ (0 < i → s.getD (i - 1) 0 < s.getD i 0 ∧ el l (s.getD (i - 1) 0).toNat < el l (s.getD i 0).toNat))) : risingL l s = false := by
  cases hr : risingL l s with
  | false => rfl
  | true => exact absurd (rising_at hr i hi) h
theorem rising_succ {l s : List Int} {i : Nat} (hr : risingTo l s i = true) (h : 0 ≤ s.getD i 0 ∧ s.getD i 0 < l.length ∧ 0 ≤ el l (s.getD i 0).toNat ∧ (0 < i → s.getD (i - 1) 0 < s.getD i 0 ∧ el l (s.getD (i - 1) 0).toNat < el l (s.getD i 0).toNat)) : risingTo l s (i + 1) = true := by
  simp only [risingTo, Bool.and_eq_true, decide_eq_true_eq]
  exact ⟨hr, h⟩

set_option maxRecDepth 100000 in
set_option maxHeartbeats 4000000 in
theorem rising_any (A1 A2 : Option Addr) (c1 c2 : Nat) (l s : List Int) (w : World) (h1 : Row w w.heap.size A1 l) (h2 : Row w w.heap.size A2 s) (hl : l.length ≤ 1000000) (hs : s.length ≤ 1000000) :
    Calls Try.prog 15 #[.slice A1 l.length c1, .slice A2 s.length c2] w fun e w' => e = .returned (.bool (risingL l s)) ∧ Below w.heap.size w w' := by
  go_enter Try.func15, Try.ntmps15
  go_wp2
  go_loopw [8] (fun i wr => ∃ k : Nat, k ≤ s.length ∧ i = .int .i64 k ∧ risingTo l s k = true ∧ Below w.heap.size w wr) (fun i _ => s.length - (intOf i).toNat)
  case atStart => exact ⟨0, by omega, rfl, rfl, Below.refl _ _⟩
  case round =>
    obtain ⟨k, hk, rfl, hris, hbel⟩ := hrel
    have HR := Lib.hid hris; clear hris
    by_cases hlt : k < s.length
    · obtain ⟨b, off, x, rfl, hb, hx, hc⟩ := row_at (h2.below hbel) hlt
      have HX := Lib.hid hx; clear hx
      by_cases hx0 : x < 0
      · have HN := Lib.hid (not_rising (l := l) hlt (fun h => by have := h.1; rw [← HX.out] at this; omega))
        go_wp2_with fail
        go_ret
        exact ⟨ret_bool HN.out.symm, hbel⟩
      · obtain ⟨m, rfl⟩ := Int.eq_ofNat_of_zero_le (show 0 ≤ x by omega)
        by_cases hm : m < l.length
        · obtain ⟨b', off', y, rfl, hb', hy, hcy⟩ := row_at (h1.below hbel) hm
          have HY := Lib.hid hy; clear hy
          by_cases hy0 : y < 0
          · have HN := Lib.hid (not_rising (l := l) hlt (fun h => by have := h.2.2.1; rw [← HX.out, Int.toNat_natCast] at this; unfold el at this; rw [← HY.out] at this; omega))
            go_wp2_with fail
            go_ret
            exact ⟨ret_bool HN.out.symm, hbel⟩
          · cases k with
            | zero =>
              have HS := Lib.hid (rising_succ HR.out ⟨by rw [← HX.out]; omega, by rw [← HX.out]; omega, by rw [← HX.out, Int.toNat_natCast]; unfold el; rw [← HY.out]; omega, fun h => by omega⟩)
              rw [Nat.add_zero] at hc
              go_wp2_with fail
              go_quiet (fail)
              go_wp2
              exact ⟨⟨1, by omega, by go_num, HS.out, bel_drewN hbel _⟩, by simp [intOf]; omega⟩
            | succ j =>
              have hpr := rising_at HR.out j (by omega)
              have hc0 := Row.at2 (h2.below hbel) (show j < s.length by omega)
              obtain ⟨p, hp⟩ := Int.eq_ofNat_of_zero_le hpr.1
              rw [hp] at hpr hc0
              rw [Int.toNat_natCast] at hpr
              have hpl : p < l.length := by omega
              have hcz := Row.at2 (h1.below hbel) hpl
              obtain ⟨z, hz⟩ : ∃ z, z = l.getD p 0 := ⟨_, rfl⟩
              rw [← hz] at hcz
              have HZ := Lib.hid hz
              have HP := Lib.hid hp
              clear hz hp hpr
              have hkey : (0 < j + 1 → s.getD (j + 1 - 1) 0 < s.getD (j + 1) 0 ∧ el l (s.getD (j + 1 - 1) 0).toNat < el l (s.getD (j + 1) 0).toNat) ↔ (p < m ∧ z < y) := by
                rw [Nat.add_sub_cancel, HP.out, ← HX.out, Int.toNat_natCast, Int.toNat_natCast]
                unfold el
                rw [← HZ.out, ← HY.out]
                constructor
                · intro h; have := h (by omega); omega
                · intro h _; omega
              have HK := Lib.hid hkey; clear hkey
              by_cases hpm : p < m
              · have hd1 : decide (m ≤ p) = false := by simpa using hpm
                by_cases hzy : z < y
                · have hd2 : decide (y ≤ z) = false := by simpa using hzy
                  have HS := Lib.hid (rising_succ HR.out ⟨by rw [← HX.out]; omega, by rw [← HX.out]; omega, by rw [← HX.out, Int.toNat_natCast]; unfold el; rw [← HY.out]; omega, HK.out.2 ⟨hpm, hzy⟩⟩)
                  go_wp2_with fail
                  go_quiet (fail)
                  go_wp2
                  exact ⟨⟨j + 1 + 1, by omega, by go_num, HS.out, bel_drewN hbel _⟩, by simp [intOf]; omega⟩
                · have hd2 : decide (y ≤ z) = true := by simp; omega
                  have HN := Lib.hid (not_rising (l := l) hlt (fun h => hzy (HK.out.1 h.2.2.2).2))
                  go_wp2_with fail
                  go_quiet (fail)
                  go_wp2
                  go_ret
                  exact ⟨ret_bool HN.out.symm, bel_drewN hbel _⟩
              · have hd1 : decide (m ≤ p) = true := by simp; omega
                have HN := Lib.hid (not_rising (l := l) hlt (fun h => hpm (HK.out.1 h.2.2.2).1))
                go_wp2_with fail
                go_quiet (fail)
                go_wp2
                go_ret
                exact ⟨ret_bool HN.out.symm, bel_drewN hbel _⟩
        · have HN := Lib.hid (not_rising (l := l) hlt (fun h => by have := h.2.1; rw [← HX.out] at this; omega))
          have hm' : (l.length : Int) ≤ m := by omega
          go_wp2_with fail
          go_ret
          exact ⟨ret_bool HN.out.symm, hbel⟩
    · obtain rfl : k = s.length := by omega
      go_wp2
      go_ret
      exact ⟨ret_bool HR.out.symm, hbel⟩
end Go.Proofs.Ytplkfiffgcjmdaa
