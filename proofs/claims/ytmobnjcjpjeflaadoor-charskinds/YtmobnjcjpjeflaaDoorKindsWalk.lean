/-
  tendrilref02.Named, and tendrillaw02.CharsKinds: it answers true, whatever the text.
-/
import Derived.Test.YtmobnjcjpjeflaaDoorSame
namespace Go.Proofs.YtmobnjcjpjeflaaDoor
open Go.RowKit
set_option linter.unusedVariables false

theorem inner_any (c : Int) (m : Bool) (w : World) (h0 : 0 ≤ c) (h1 : c ≤ 255) : Calls Tryd.prog 25 #[.int .u8 c, .bool m] w fun e w' => e = .returned (.bool (innerB m c)) ∧ w = w' := by
  cases m
  all_goals
    go_enter Tryd.func25, Tryd.ntmps25
    go_wp2
    all_goals (go_ret; refine ⟨ret_bool ?_, rfl⟩; rw [Bool.eq_iff_iff]; simp [innerB, nameB, tagB, lowB] <;> omega)

set_option maxHeartbeats 1000000 in
theorem named_any (s : ByteArray) (m : Bool) (w : World) (hs : s.size ≤ maxLen) : Calls Tryd.prog 9 #[.string s, .bool m] w fun e w' => e = .returned (.bool (wfB (innerB m) s)) ∧ w = w' := by
  unfold maxLen at hs
  by_cases h1 : s.size < 1
  · have hr : wfB (innerB m) s = false := by simp [wfB]; omega
    have HR := Lib.hid hr; clear hr
    have h1' : (s.size : Int) < 1 := by omega
    go_enter Tryd.func9, Tryd.ntmps9
    go_wp2_with fail
    go_ret
    exact ⟨ret_bool HR.out.symm, rfl⟩
  · by_cases h2 : 32 < s.size
    · have hr : wfB (innerB m) s = false := by simp [wfB]; omega
      have HR := Lib.hid hr; clear hr
      have h1' : ¬ (s.size : Int) < 1 := by omega
      have h2' : (32 : Int) < (s.size : Int) := by omega
      go_enter Tryd.func9, Tryd.ntmps9
      go_wp2_with fail
      go_ret
      exact ⟨ret_bool HR.out.symm, rfl⟩
    · have h1' : ¬ (s.size : Int) < 1 := by omega
      have h2' : ¬ (32 : Int) < (s.size : Int) := by omega
      have h0 : 0 < s.size := by omega
      have hb0 := byte_bounds s 0
      have e0 := byte_eq s 0 h0
      by_cases hl : lowB (byte s 0) = true
      · have hl1 : 97 ≤ byte s 0 ∧ byte s 0 ≤ 122 := by simpa [lowB] using hl
        obtain ⟨hl1, hl2⟩ := hl1
        have HL := Lib.hid hl; clear hl
        go_enter Tryd.func9, Tryd.ntmps9
        go_wp2_with fail
        go_loop [5] (fun i => ∃ k : Nat, 1 ≤ k ∧ k ≤ s.size ∧ i = .int .i64 k ∧ AllP (innerB m) s k) (fun i => s.size - (intOf i).toNat)
        case atStart => exact ⟨1, by omega, by omega, rfl, fun j h1 h2 => by omega⟩
        case round =>
          obtain ⟨k, hk1, hk, rfl, hall⟩ := hrel
          have HA := Lib.hid hall; clear hall
          by_cases hlt : k < s.size
          · have hbk := byte_bounds s k
            have ek := byte_eq s k hlt
            go_wp2_with fail
            refine (inner_any _ _ _ hbk.1 hbk.2).mono ?_
            rintro e w' ⟨rfl, rfl⟩
            by_cases hp : innerB m (byte s k) = true
            · rw [hp]
              go_wp2_with fail
              exact ⟨⟨k + 1, by omega, by omega, by go_num, allP_succ HA.out hp⟩, by simp [intOf]; omega⟩
            · have hp' : innerB m (byte s k) = false := by simpa using hp
              rw [hp']
              have hr : wfB (innerB m) s = false := wfB_fail hk1 hlt hp'
              have HR := Lib.hid hr; clear hr
              go_wp2_with fail
              go_ret
              exact ⟨ret_bool HR.out.symm, rfl⟩
          · have hr : wfB (innerB m) s = true := wfB_ok (by omega) (by omega) HL.out (allP_eq HA.out (by omega))
            have HR := Lib.hid hr; clear hr
            go_wp2_with fail
            go_ret
            exact ⟨ret_bool HR.out.symm, rfl⟩
      · have hl' : lowB (byte s 0) = false := by simpa using hl
        have hr : wfB (innerB m) s = false := by simp [wfB, hl']
        have HR := Lib.hid hr; clear hr
        have hx : byte s 0 < 97 ∨ ¬ byte s 0 < 97 ∧ 122 < byte s 0 := by simp [lowB] at hl'; omega
        clear hl hl'
        rcases hx with hx | ⟨hx1, hx2⟩
        all_goals
          go_enter Tryd.func9, Tryd.ntmps9
          go_wp2_with fail
          go_ret
          exact ⟨ret_bool HR.out.symm, rfl⟩

theorem inner_tag (s : ByteArray) : wfB (innerB false) s = wfB tagB s := rfl
theorem inner_name (s : ByteArray) : wfB (innerB true) s = wfB nameB s := rfl

set_option maxHeartbeats 1000000 in
theorem kinds_law (s : ByteArray) (w : World) (hs : s.size ≤ maxLen) (hv : Vars w) : Calls Tryd.prog 3 #[.string s] w fun e w' => e = .returned (.bool true) ∧ Below w.heap.size w w' := by
  by_cases hl : 100000 < s.size
  · have hl' : (100000 : Int) < (s.size : Int) := by omega
    go_enter Tryd.func3, Tryd.ntmps3
    go_wp2_with fail
    refine (same_law w hv).mono ?_
    rintro e w1 ⟨rfl, hb⟩
    go_wp2_with fail
    go_ret
    exact ⟨rfl, hb⟩
  · have hl' : ¬ (100000 : Int) < (s.size : Int) := by omega
    have e1 : (wfB tagB s == wfB tagB s) = true := by simp
    have e2 : (wfB nameB s == wfB nameB s) = true := by simp
    go_enter Tryd.func3, Tryd.ntmps3
    go_wp2_with fail
    refine (tag_any s w hs).mono ?_
    rintro e w1 ⟨rfl, rfl⟩
    go_wp2_with fail
    refine (named_any s false w hs).mono ?_
    rintro e w1 ⟨rfl, rfl⟩
    rw [inner_tag]
    go_wp2_with fail
    refine (name_any s w hs).mono ?_
    rintro e w1 ⟨rfl, rfl⟩
    go_wp2_with fail
    refine (named_any s true w hs).mono ?_
    rintro e w1 ⟨rfl, rfl⟩
    rw [inner_name]
    go_wp2_with fail
    refine (fits_any s w).mono ?_
    rintro e w1 ⟨rfl, rfl⟩
    go_wp2_with fail
    all_goals
      refine (same_law w hv).mono ?_
      rintro e w1 ⟨rfl, hb⟩
      go_wp2_with fail
      go_ret
      exact ⟨rfl, hb⟩
end Go.Proofs.YtmobnjcjpjeflaaDoor
