/-
  chars.Name, chars.Fits and tendrilref02.Named: what they answer.
-/
import Derived.Test.YtlkdklpglmglkaaCmp
import Derived.WalkLawsBesides
import Derived.Outline
namespace Go.Proofs.Ytlkdklpglmglkaa
open Go.RowKit Go.Sort
set_option linter.unusedVariables false
set_option maxRecDepth 100000

def lowB (c : Int) : Bool := decide (97 ≤ c) && decide (c ≤ 122)
def tagB (c : Int) : Bool := lowB c || (decide (48 ≤ c) && decide (c ≤ 57)) || c == 45
def nameB (c : Int) : Bool := tagB c || c == 58 || c == 46

theorem isLower_any (c : Int) (w : World) (h0 : 0 ≤ c) (h1 : c ≤ 255) : Calls Try.prog 90 #[.int .u8 c] w fun e w' => e = .returned (.bool (lowB c)) ∧ w = w' := by
  go_enter Try.func90, Try.ntmps90
  go_wp2
  all_goals (go_ret; refine ⟨ret_bool ?_, rfl⟩; rw [Bool.eq_iff_iff]; simp [lowB]; omega)

theorem inTag_any (c : Int) (w : World) (h0 : 0 ≤ c) (h1 : c ≤ 255) : Calls Try.prog 88 #[.int .u8 c] w fun e w' => e = .returned (.bool (tagB c)) ∧ w = w' := by
  by_cases hl : lowB c = true
  · go_enter Try.func88, Try.ntmps88
    go_wp2_with fail
    refine (isLower_any _ _ h0 h1).mono ?_
    rintro e w' ⟨rfl, rfl⟩
    go_wp2_with fail
    all_goals (go_ret; refine ⟨ret_bool ?_, rfl⟩; simp [tagB, hl])
  · have hl' : lowB c = false := by simpa using hl
    go_enter Try.func88, Try.ntmps88
    go_wp2_with fail
    refine (isLower_any _ _ h0 h1).mono ?_
    rintro e w' ⟨rfl, rfl⟩
    go_wp2_with fail
    all_goals (go_ret; refine ⟨ret_bool ?_, rfl⟩; rw [Bool.eq_iff_iff]; simp [tagB, hl']; omega)

theorem inName_any (c : Int) (w : World) (h0 : 0 ≤ c) (h1 : c ≤ 255) : Calls Try.prog 94 #[.int .u8 c] w fun e w' => e = .returned (.bool (nameB c)) ∧ w = w' := by
  by_cases hl : tagB c = true
  · go_enter Try.func94, Try.ntmps94
    go_wp2_with fail
    refine (inTag_any _ _ h0 h1).mono ?_
    rintro e w' ⟨rfl, rfl⟩
    go_wp2_with fail
    all_goals (go_ret; refine ⟨ret_bool ?_, rfl⟩; simp [nameB, hl])
  · have hl' : tagB c = false := by simpa using hl
    go_enter Try.func94, Try.ntmps94
    go_wp2_with fail
    refine (inTag_any _ _ h0 h1).mono ?_
    rintro e w' ⟨rfl, rfl⟩
    go_wp2_with fail
    all_goals (go_ret; refine ⟨ret_bool ?_, rfl⟩; rw [Bool.eq_iff_iff]; simp [nameB, hl'] <;> omega)

def AllP (p : Int → Bool) (s : ByteArray) (k : Nat) : Prop := ∀ j, 1 ≤ j → j < k → p (byte s j) = true
def wfB (p : Int → Bool) (s : ByteArray) : Bool := decide (1 ≤ s.size) && decide (s.size ≤ 32) && lowB (byte s 0) && (List.range s.size).all fun j => j == 0 || p (byte s j)
theorem allP_succ {p : Int → Bool} {s : ByteArray} {k : Nat} (h : AllP p s k) (hp : p (byte s k) = true) : AllP p s (k + 1) := by
  intro j h1 h2
  rcases Nat.lt_or_ge j k with h3 | h3
  · exact h j h1 h3
  · have : j = k := by omega
    subst this; exact hp
theorem allP_eq {p : Int → Bool} {s : ByteArray} {k n : Nat} (h : AllP p s k) (e : k = n) : AllP p s n := e ▸ h
theorem wfB_ok {p : Int → Bool} {s : ByteArray} (h1 : 1 ≤ s.size) (h2 : s.size ≤ 32) (hl : lowB (byte s 0) = true) (h : AllP p s s.size) : wfB p s = true := by
  simp only [wfB, h1, h2, hl, decide_true, Bool.true_and, List.all_eq_true, List.mem_range]
  intro j hj
  rcases Nat.eq_zero_or_pos j with h0 | h0
  · simp [h0]
  · simp [h j h0 hj]
theorem wfB_fail {p : Int → Bool} {s : ByteArray} {k : Nat} (h1 : 1 ≤ k) (h2 : k < s.size) (hp : p (byte s k) = false) : wfB p s = false := by
  have : ((List.range s.size).all fun j => j == 0 || p (byte s j)) = false := by
    rw [List.all_eq_false]
    exact ⟨k, by simpa using h2, by simp [hp]; omega⟩
  simp [wfB, this]

set_option maxHeartbeats 1000000 in
theorem wellFormed_nameB (s : ByteArray) (w : World) (hs : s.size ≤ maxLen) : Calls Try.prog 87 #[.string s, .func (.func 94) #[] #[]] w fun e w' => e = .returned (.bool (wfB nameB s)) ∧ w = w' := by
  unfold maxLen at hs
  by_cases h1 : s.size < 1
  · have hr : wfB nameB s = false := by simp [wfB]; omega
    have HR := Lib.hid hr; clear hr
    have h1' : (s.size : Int) < 1 := by omega
    go_enter Try.func87, Try.ntmps87
    go_wp2_with fail
    go_ret
    exact ⟨ret_bool HR.out.symm, rfl⟩
  · by_cases h2 : 32 < s.size
    · have hr : wfB nameB s = false := by simp [wfB]; omega
      have HR := Lib.hid hr; clear hr
      have h1' : ¬ (s.size : Int) < 1 := by omega
      have h2' : (32 : Int) < (s.size : Int) := by omega
      go_enter Try.func87, Try.ntmps87
      go_wp2_with fail
      go_ret
      exact ⟨ret_bool HR.out.symm, rfl⟩
    · have h1' : ¬ (s.size : Int) < 1 := by omega
      have h2' : ¬ (32 : Int) < (s.size : Int) := by omega
      have h0 : 0 < s.size := by omega
      have hb0 := byte_bounds s 0
      by_cases hl : lowB (byte s 0) = true
      · go_enter Try.func87, Try.ntmps87
        go_wp2_with fail
        rw [byte_eq s 0 h0]
        refine (isLower_any _ _ hb0.1 hb0.2).mono ?_
        rintro e w' ⟨rfl, rfl⟩
        rw [hl]
        go_wp2_with fail
        go_loop [5] (fun i => ∃ k : Nat, 1 ≤ k ∧ k ≤ s.size ∧ i = .int .i64 k ∧ AllP nameB s k) (fun i => s.size - (intOf i).toNat)
        case atStart => exact ⟨1, by omega, by omega, rfl, fun j h1 h2 => by omega⟩
        case round =>
          obtain ⟨k, hk1, hk, rfl, hall⟩ := hrel
          have HA := Lib.hid hall; clear hall
          by_cases hlt : k < s.size
          · have hbk := byte_bounds s k
            go_wp2_with fail
            rw [byte_eq s k hlt]
            refine (inName_any _ _ hbk.1 hbk.2).mono ?_
            rintro e w' ⟨rfl, rfl⟩
            by_cases hp : nameB (byte s k) = true
            · rw [hp]
              go_wp2_with fail
              exact ⟨⟨k + 1, by omega, by omega, by go_num, allP_succ HA.out hp⟩, by simp [intOf]; omega⟩
            · have hp' : nameB (byte s k) = false := by simpa using hp
              rw [hp']
              have hr : wfB nameB s = false := wfB_fail hk1 hlt hp'
              have HR := Lib.hid hr; clear hr
              go_wp2_with fail
              go_ret
              exact ⟨ret_bool HR.out.symm, rfl⟩
          · have hr : wfB nameB s = true := wfB_ok (by omega) (by omega) hl (allP_eq HA.out (by omega))
            have HR := Lib.hid hr; clear hr
            go_wp2_with fail
            go_ret
            exact ⟨ret_bool HR.out.symm, rfl⟩
      · have hl' : lowB (byte s 0) = false := by simpa using hl
        have hr : wfB nameB s = false := by simp [wfB, hl']
        have HR := Lib.hid hr; clear hr
        go_enter Try.func87, Try.ntmps87
        go_wp2_with fail
        rw [byte_eq s 0 h0]
        refine (isLower_any _ _ hb0.1 hb0.2).mono ?_
        rintro e w' ⟨rfl, rfl⟩
        rw [hl']
        go_wp2_with fail
        go_ret
        exact ⟨ret_bool HR.out.symm, rfl⟩

theorem name_any (s : ByteArray) (w : World) (hs : s.size ≤ maxLen) : Calls Try.prog 92 #[.string s] w fun e w' => e = .returned (.bool (wfB nameB s)) ∧ w = w' := by
  go_enter Try.func92, Try.ntmps92
  go_wp2_with fail
  refine (wellFormed_nameB s _ hs).mono ?_
  rintro e w' ⟨rfl, rfl⟩
  go_wp2_with fail
  go_ret
  exact ⟨rfl, rfl⟩
set_option maxHeartbeats 1000000 in
theorem wellFormed_tagB (s : ByteArray) (w : World) (hs : s.size ≤ maxLen) : Calls Try.prog 87 #[.string s, .func (.func 88) #[] #[]] w fun e w' => e = .returned (.bool (wfB tagB s)) ∧ w = w' := by
  unfold maxLen at hs
  by_cases h1 : s.size < 1
  · have hr : wfB tagB s = false := by simp [wfB]; omega
    have HR := Lib.hid hr; clear hr
    have h1' : (s.size : Int) < 1 := by omega
    go_enter Try.func87, Try.ntmps87
    go_wp2_with fail
    go_ret
    exact ⟨ret_bool HR.out.symm, rfl⟩
  · by_cases h2 : 32 < s.size
    · have hr : wfB tagB s = false := by simp [wfB]; omega
      have HR := Lib.hid hr; clear hr
      have h1' : ¬ (s.size : Int) < 1 := by omega
      have h2' : (32 : Int) < (s.size : Int) := by omega
      go_enter Try.func87, Try.ntmps87
      go_wp2_with fail
      go_ret
      exact ⟨ret_bool HR.out.symm, rfl⟩
    · have h1' : ¬ (s.size : Int) < 1 := by omega
      have h2' : ¬ (32 : Int) < (s.size : Int) := by omega
      have h0 : 0 < s.size := by omega
      have hb0 := byte_bounds s 0
      by_cases hl : lowB (byte s 0) = true
      · go_enter Try.func87, Try.ntmps87
        go_wp2_with fail
        rw [byte_eq s 0 h0]
        refine (isLower_any _ _ hb0.1 hb0.2).mono ?_
        rintro e w' ⟨rfl, rfl⟩
        rw [hl]
        go_wp2_with fail
        go_loop [5] (fun i => ∃ k : Nat, 1 ≤ k ∧ k ≤ s.size ∧ i = .int .i64 k ∧ AllP tagB s k) (fun i => s.size - (intOf i).toNat)
        case atStart => exact ⟨1, by omega, by omega, rfl, fun j h1 h2 => by omega⟩
        case round =>
          obtain ⟨k, hk1, hk, rfl, hall⟩ := hrel
          have HA := Lib.hid hall; clear hall
          by_cases hlt : k < s.size
          · have hbk := byte_bounds s k
            go_wp2_with fail
            rw [byte_eq s k hlt]
            refine (inTag_any _ _ hbk.1 hbk.2).mono ?_
            rintro e w' ⟨rfl, rfl⟩
            by_cases hp : tagB (byte s k) = true
            · rw [hp]
              go_wp2_with fail
              exact ⟨⟨k + 1, by omega, by omega, by go_num, allP_succ HA.out hp⟩, by simp [intOf]; omega⟩
            · have hp' : tagB (byte s k) = false := by simpa using hp
              rw [hp']
              have hr : wfB tagB s = false := wfB_fail hk1 hlt hp'
              have HR := Lib.hid hr; clear hr
              go_wp2_with fail
              go_ret
              exact ⟨ret_bool HR.out.symm, rfl⟩
          · have hr : wfB tagB s = true := wfB_ok (by omega) (by omega) hl (allP_eq HA.out (by omega))
            have HR := Lib.hid hr; clear hr
            go_wp2_with fail
            go_ret
            exact ⟨ret_bool HR.out.symm, rfl⟩
      · have hl' : lowB (byte s 0) = false := by simpa using hl
        have hr : wfB tagB s = false := by simp [wfB, hl']
        have HR := Lib.hid hr; clear hr
        go_enter Try.func87, Try.ntmps87
        go_wp2_with fail
        rw [byte_eq s 0 h0]
        refine (isLower_any _ _ hb0.1 hb0.2).mono ?_
        rintro e w' ⟨rfl, rfl⟩
        rw [hl']
        go_wp2_with fail
        go_ret
        exact ⟨ret_bool HR.out.symm, rfl⟩

theorem tag_any (s : ByteArray) (w : World) (hs : s.size ≤ maxLen) : Calls Try.prog 83 #[.string s] w fun e w' => e = .returned (.bool (wfB tagB s)) ∧ w = w' := by
  go_enter Try.func83, Try.ntmps83
  go_wp2_with fail
  refine (wellFormed_tagB s _ hs).mono ?_
  rintro e w' ⟨rfl, rfl⟩
  go_wp2_with fail
  go_ret
  exact ⟨rfl, rfl⟩
theorem fits_any (s : ByteArray) (w : World) : Calls Try.prog 84 #[.string s] w fun e w' => e = .returned (.bool (decide (s.size ≤ 65536))) ∧ w = w' := by
  go_enter Try.func84, Try.ntmps84
  go_wp2_with fail
  go_ret
  exact ⟨ret_bool (by rw [Bool.eq_iff_iff]; simp; omega), rfl⟩

def innerB (more : Bool) (c : Int) : Bool := if more then nameB c else tagB c

theorem inner_any (c : Int) (m : Bool) (w : World) (h0 : 0 ≤ c) (h1 : c ≤ 255) : Calls Try.prog 77 #[.int .u8 c, .bool m] w fun e w' => e = .returned (.bool (innerB m c)) ∧ w = w' := by
  cases m
  all_goals
    go_enter Try.func77, Try.ntmps77
    go_wp2
    all_goals (go_ret; refine ⟨ret_bool ?_, rfl⟩; rw [Bool.eq_iff_iff]; simp [innerB, nameB, tagB, lowB] <;> omega)

set_option maxHeartbeats 1000000 in
theorem named_any (s : ByteArray) (m : Bool) (w : World) (hs : s.size ≤ maxLen) : Calls Try.prog 66 #[.string s, .bool m] w fun e w' => e = .returned (.bool (wfB (innerB m) s)) ∧ w = w' := by
  unfold maxLen at hs
  by_cases h1 : s.size < 1
  · have hr : wfB (innerB m) s = false := by simp [wfB]; omega
    have HR := Lib.hid hr; clear hr
    have h1' : (s.size : Int) < 1 := by omega
    go_enter Try.func66, Try.ntmps66
    go_wp2_with fail
    go_ret
    exact ⟨ret_bool HR.out.symm, rfl⟩
  · by_cases h2 : 32 < s.size
    · have hr : wfB (innerB m) s = false := by simp [wfB]; omega
      have HR := Lib.hid hr; clear hr
      have h1' : ¬ (s.size : Int) < 1 := by omega
      have h2' : (32 : Int) < (s.size : Int) := by omega
      go_enter Try.func66, Try.ntmps66
      go_wp2_with fail
      go_ret
      exact ⟨ret_bool HR.out.symm, rfl⟩
    · have h1' : ¬ (s.size : Int) < 1 := by omega
      have h2' : ¬ (32 : Int) < (s.size : Int) := by omega
      have h0 : 0 < s.size := by omega
      have hb0 := byte_bounds s 0
      have e0 := byte_eq s 0 h0
      by_cases hl : lowB (byte s 0) = true
      · have hl1 : 97 ≤ byte s 0 ∧ byte s 0 ≤ 122 := by simpa [lowB] using hl
        obtain ⟨hl1, hl2⟩ := hl1
        have HL := Lib.hid hl; clear hl
        go_enter Try.func66, Try.ntmps66
        go_wp2_with fail
        go_loop [5] (fun i => ∃ k : Nat, 1 ≤ k ∧ k ≤ s.size ∧ i = .int .i64 k ∧ AllP (innerB m) s k) (fun i => s.size - (intOf i).toNat)
        case atStart => exact ⟨1, by omega, by omega, rfl, fun j h1 h2 => by omega⟩
        case round =>
          obtain ⟨k, hk1, hk, rfl, hall⟩ := hrel
          have HA := Lib.hid hall; clear hall
          by_cases hlt : k < s.size
          · have hbk := byte_bounds s k
            have ek := byte_eq s k hlt
            go_wp2_with fail
            refine (inner_any _ _ _ hbk.1 hbk.2).mono ?_
            rintro e w' ⟨rfl, rfl⟩
            by_cases hp : innerB m (byte s k) = true
            · rw [hp]
              go_wp2_with fail
              exact ⟨⟨k + 1, by omega, by omega, by go_num, allP_succ HA.out hp⟩, by simp [intOf]; omega⟩
            · have hp' : innerB m (byte s k) = false := by simpa using hp
              rw [hp']
              have hr : wfB (innerB m) s = false := wfB_fail hk1 hlt hp'
              have HR := Lib.hid hr; clear hr
              go_wp2_with fail
              go_ret
              exact ⟨ret_bool HR.out.symm, rfl⟩
          · have hr : wfB (innerB m) s = true := wfB_ok (by omega) (by omega) HL.out (allP_eq HA.out (by omega))
            have HR := Lib.hid hr; clear hr
            go_wp2_with fail
            go_ret
            exact ⟨ret_bool HR.out.symm, rfl⟩
      · have hl' : lowB (byte s 0) = false := by simpa using hl
        have hr : wfB (innerB m) s = false := by simp [wfB, hl']
        have HR := Lib.hid hr; clear hr
        have hx : byte s 0 < 97 ∨ ¬ byte s 0 < 97 ∧ 122 < byte s 0 := by simp [lowB] at hl'; omega
        clear hl hl'
        rcases hx with hx | ⟨hx1, hx2⟩
        all_goals
          go_enter Try.func66, Try.ntmps66
          go_wp2_with fail
          go_ret
          exact ⟨ret_bool HR.out.symm, rfl⟩

theorem inner_name : innerB true = nameB := rfl
def okN (s : ByteArray) : Bool := wfB nameB s
end Go.Proofs.Ytlkdklpglmglkaa
