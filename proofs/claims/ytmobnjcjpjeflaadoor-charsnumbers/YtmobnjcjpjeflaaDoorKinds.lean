/-
  chars.Tag, chars.Name, chars.Fits and tendrilref02.Named: what they answer.
-/
import Derived.Test.YtmobnjcjpjeflaaDoorProg
import Derived.WalkKit
import Derived.WalkLawsBesides
import Derived.Outline
import Derived.Below
import Derived.Lib.Hide
namespace Go.Proofs.YtmobnjcjpjeflaaDoor
open Go.RowKit
set_option linter.unusedVariables false

theorem ret_int {k : IntKind} {a b : Int} (h : a = b) : Ending.returned (.int k a) = .returned (.int k b) := by rw [h]
theorem ret_bool {a b : Bool} (h : a = b) : Ending.returned (.bool a) = .returned (.bool b) := by rw [h]

/-- Byte j of a string, as a number. -/
def byte (s : ByteArray) (j : Nat) : Int := ((s.data.toList.getD j 0).toNat : Int)
theorem byte_eq (s : ByteArray) (j : Nat) (h : j < s.size) : ((s[j]'h).toNat : Int) = byte s j := by
  unfold byte
  have h' : j < s.data.toList.length := by simpa using h
  simp [List.getD_eq_getElem?_getD, List.getElem?_eq_getElem h']
  rfl
theorem byte_bounds (s : ByteArray) (j : Nat) : 0 ≤ byte s j ∧ byte s j ≤ 255 := by
  unfold byte
  have := (s.data.toList.getD j 0).toNat_lt
  omega

def lowB (c : Int) : Bool := decide (97 ≤ c) && decide (c ≤ 122)
def tagB (c : Int) : Bool := lowB c || (decide (48 ≤ c) && decide (c ≤ 57)) || c == 45
def nameB (c : Int) : Bool := tagB c || c == 58 || c == 46

theorem isLower_any (c : Int) (w : World) (h0 : 0 ≤ c) (h1 : c ≤ 255) : Calls Tryd.prog 32 #[.int .u8 c] w fun e w' => e = .returned (.bool (lowB c)) ∧ w = w' := by
  go_enter Tryd.func32, Tryd.ntmps32
  go_wp2
  all_goals (go_ret; refine ⟨ret_bool ?_, rfl⟩; rw [Bool.eq_iff_iff]; simp [lowB]; omega)

theorem inTag_any (c : Int) (w : World) (h0 : 0 ≤ c) (h1 : c ≤ 255) : Calls Tryd.prog 24 #[.int .u8 c] w fun e w' => e = .returned (.bool (tagB c)) ∧ w = w' := by
  by_cases hl : lowB c = true
  · go_enter Tryd.func24, Tryd.ntmps24
    go_wp2_with fail
    refine (isLower_any _ _ h0 h1).mono ?_
    rintro e w' ⟨rfl, rfl⟩
    go_wp2_with fail
    all_goals (go_ret; refine ⟨ret_bool ?_, rfl⟩; simp [tagB, hl])
  · have hl' : lowB c = false := by simpa using hl
    go_enter Tryd.func24, Tryd.ntmps24
    go_wp2_with fail
    refine (isLower_any _ _ h0 h1).mono ?_
    rintro e w' ⟨rfl, rfl⟩
    go_wp2_with fail
    all_goals (go_ret; refine ⟨ret_bool ?_, rfl⟩; rw [Bool.eq_iff_iff]; simp [tagB, hl']; omega)

theorem inName_any (c : Int) (w : World) (h0 : 0 ≤ c) (h1 : c ≤ 255) : Calls Tryd.prog 26 #[.int .u8 c] w fun e w' => e = .returned (.bool (nameB c)) ∧ w = w' := by
  by_cases hl : tagB c = true
  · go_enter Tryd.func26, Tryd.ntmps26
    go_wp2_with fail
    refine (inTag_any _ _ h0 h1).mono ?_
    rintro e w' ⟨rfl, rfl⟩
    go_wp2_with fail
    all_goals (go_ret; refine ⟨ret_bool ?_, rfl⟩; simp [nameB, hl])
  · have hl' : tagB c = false := by simpa using hl
    go_enter Tryd.func26, Tryd.ntmps26
    go_wp2_with fail
    refine (inTag_any _ _ h0 h1).mono ?_
    rintro e w' ⟨rfl, rfl⟩
    go_wp2_with fail
    all_goals (go_ret; refine ⟨ret_bool ?_, rfl⟩; rw [Bool.eq_iff_iff]; simp [nameB, hl'] <;> omega)

def AllP (p : Int → Bool) (s : ByteArray) (k : Nat) : Prop := ∀ j, 1 ≤ j → j < k → p (byte s j) = true
def wfB (p : Int → Bool) (s : ByteArray) : Bool := decide (1 ≤ s.size) && decide (s.size ≤ 32) && lowB (byte s 0) && (List.range s.size).all fun j => j == 0 || p (byte s j)
theorem allP_succ {p : Int → Bool} {s : ByteArray} {k : Nat} (h : AllP p s k) (hp : p (byte s k) = true) : AllP p s (k + 1) := by
  intro j h1 h2
  rcases Nat.lt_or_ge j k with h3 | h3
  · exact h j h1 h3
  · have : j = k := by omega
    subst this; exact hp
theorem allP_eq {p : Int → Bool} {s : ByteArray} {k n : Nat} (h : AllP p s k) (e : k = n) : AllP p s n := e ▸ h
theorem wfB_ok {p : Int → Bool} {s : ByteArray} (h1 : 1 ≤ s.size) (h2 : s.size ≤ 32) (hl : lowB (byte s 0) = true) (h : AllP p s s.size) : wfB p s = true := by
  simp only [wfB, h1, h2, hl, decide_true, Bool.true_and, List.all_eq_true, List.mem_range]
  intro j hj
  rcases Nat.eq_zero_or_pos j with h0 | h0
  · simp [h0]
  · simp [h j h0 hj]
theorem wfB_fail {p : Int → Bool} {s : ByteArray} {k : Nat} (h1 : 1 ≤ k) (h2 : k < s.size) (hp : p (byte s k) = false) : wfB p s = false := by
  have : ((List.range s.size).all fun j => j == 0 || p (byte s j)) = false := by
    rw [List.all_eq_false]
    exact ⟨k, by simpa using h2, by simp [hp]; omega⟩
  simp [wfB, this]

set_option maxHeartbeats 1000000 in
theorem wellFormed_tagB (s : ByteArray) (w : World) (hs : s.size ≤ maxLen) : Calls Tryd.prog 23 #[.string s, .func (.func 24) #[] #[]] w fun e w' => e = .returned (.bool (wfB tagB s)) ∧ w = w' := by
  unfold maxLen at hs
  by_cases h1 : s.size < 1
  · have hr : wfB tagB s = false := by simp [wfB]; omega
    have HR := Lib.hid hr; clear hr
    have h1' : (s.size : Int) < 1 := by omega
    go_enter Tryd.func23, Tryd.ntmps23
    go_wp2_with fail
    go_ret
    exact ⟨ret_bool HR.out.symm, rfl⟩
  · by_cases h2 : 32 < s.size
    · have hr : wfB tagB s = false := by simp [wfB]; omega
      have HR := Lib.hid hr; clear hr
      have h1' : ¬ (s.size : Int) < 1 := by omega
      have h2' : (32 : Int) < (s.size : Int) := by omega
      go_enter Tryd.func23, Tryd.ntmps23
      go_wp2_with fail
      go_ret
      exact ⟨ret_bool HR.out.symm, rfl⟩
    · have h1' : ¬ (s.size : Int) < 1 := by omega
      have h2' : ¬ (32 : Int) < (s.size : Int) := by omega
      have h0 : 0 < s.size := by omega
      have hb0 := byte_bounds s 0
      by_cases hl : lowB (byte s 0) = true
      · go_enter Tryd.func23, Tryd.ntmps23
        go_wp2_with fail
        rw [byte_eq s 0 h0]
        refine (isLower_any _ _ hb0.1 hb0.2).mono ?_
        rintro e w' ⟨rfl, rfl⟩
        rw [hl]
        go_wp2_with fail
        go_loop [5] (fun i => ∃ k : Nat, 1 ≤ k ∧ k ≤ s.size ∧ i = .int .i64 k ∧ AllP tagB s k) (fun i => s.size - (intOf i).toNat)
        case atStart => exact ⟨1, by omega, by omega, rfl, fun j h1 h2 => by omega⟩
        case round =>
          obtain ⟨k, hk1, hk, rfl, hall⟩ := hrel
          have HA := Lib.hid hall; clear hall
          by_cases hlt : k < s.size
          · have hbk := byte_bounds s k
            go_wp2_with fail
            rw [byte_eq s k hlt]
            refine (inTag_any _ _ hbk.1 hbk.2).mono ?_
            rintro e w' ⟨rfl, rfl⟩
            by_cases hp : tagB (byte s k) = true
            · rw [hp]
              go_wp2_with fail
              exact ⟨⟨k + 1, by omega, by omega, by go_num, allP_succ HA.out hp⟩, by simp [intOf]; omega⟩
            · have hp' : tagB (byte s k) = false := by simpa using hp
              rw [hp']
              have hr : wfB tagB s = false := wfB_fail hk1 hlt hp'
              have HR := Lib.hid hr; clear hr
              go_wp2_with fail
              go_ret
              exact ⟨ret_bool HR.out.symm, rfl⟩
          · have hr : wfB tagB s = true := wfB_ok (by omega) (by omega) hl (allP_eq HA.out (by omega))
            have HR := Lib.hid hr; clear hr
            go_wp2_with fail
            go_ret
            exact ⟨ret_bool HR.out.symm, rfl⟩
      · have hl' : lowB (byte s 0) = false := by simpa using hl
        have hr : wfB tagB s = false := by simp [wfB, hl']
        have HR := Lib.hid hr; clear hr
        go_enter Tryd.func23, Tryd.ntmps23
        go_wp2_with fail
        rw [byte_eq s 0 h0]
        refine (isLower_any _ _ hb0.1 hb0.2).mono ?_
        rintro e w' ⟨rfl, rfl⟩
        rw [hl']
        go_wp2_with fail
        go_ret
        exact ⟨ret_bool HR.out.symm, rfl⟩

set_option maxHeartbeats 1000000 in
theorem wellFormed_nameB (s : ByteArray) (w : World) (hs : s.size ≤ maxLen) : Calls Tryd.prog 23 #[.string s, .func (.func 26) #[] #[]] w fun e w' => e = .returned (.bool (wfB nameB s)) ∧ w = w' := by
  unfold maxLen at hs
  by_cases h1 : s.size < 1
  · have hr : wfB nameB s = false := by simp [wfB]; omega
    have HR := Lib.hid hr; clear hr
    have h1' : (s.size : Int) < 1 := by omega
    go_enter Tryd.func23, Tryd.ntmps23
    go_wp2_with fail
    go_ret
    exact ⟨ret_bool HR.out.symm, rfl⟩
  · by_cases h2 : 32 < s.size
    · have hr : wfB nameB s = false := by simp [wfB]; omega
      have HR := Lib.hid hr; clear hr
      have h1' : ¬ (s.size : Int) < 1 := by omega
      have h2' : (32 : Int) < (s.size : Int) := by omega
      go_enter Tryd.func23, Tryd.ntmps23
      go_wp2_with fail
      go_ret
      exact ⟨ret_bool HR.out.symm, rfl⟩
    · have h1' : ¬ (s.size : Int) < 1 := by omega
      have h2' : ¬ (32 : Int) < (s.size : Int) := by omega
      have h0 : 0 < s.size := by omega
      have hb0 := byte_bounds s 0
      by_cases hl : lowB (byte s 0) = true
      · go_enter Tryd.func23, Tryd.ntmps23
        go_wp2_with fail
        rw [byte_eq s 0 h0]
        refine (isLower_any _ _ hb0.1 hb0.2).mono ?_
        rintro e w' ⟨rfl, rfl⟩
        rw [hl]
        go_wp2_with fail
        go_loop [5] (fun i => ∃ k : Nat, 1 ≤ k ∧ k ≤ s.size ∧ i = .int .i64 k ∧ AllP nameB s k) (fun i => s.size - (intOf i).toNat)
        case atStart => exact ⟨1, by omega, by omega, rfl, fun j h1 h2 => by omega⟩
        case round =>
          obtain ⟨k, hk1, hk, rfl, hall⟩ := hrel
          have HA := Lib.hid hall; clear hall
          by_cases hlt : k < s.size
          · have hbk := byte_bounds s k
            go_wp2_with fail
            rw [byte_eq s k hlt]
            refine (inName_any _ _ hbk.1 hbk.2).mono ?_
            rintro e w' ⟨rfl, rfl⟩
            by_cases hp : nameB (byte s k) = true
            · rw [hp]
              go_wp2_with fail
              exact ⟨⟨k + 1, by omega, by omega, by go_num, allP_succ HA.out hp⟩, by simp [intOf]; omega⟩
            · have hp' : nameB (byte s k) = false := by simpa using hp
              rw [hp']
              have hr : wfB nameB s = false := wfB_fail hk1 hlt hp'
              have HR := Lib.hid hr; clear hr
              go_wp2_with fail
              go_ret
              exact ⟨ret_bool HR.out.symm, rfl⟩
          · have hr : wfB nameB s = true := wfB_ok (by omega) (by omega) hl (allP_eq HA.out (by omega))
            have HR := Lib.hid hr; clear hr
            go_wp2_with fail
            go_ret
            exact ⟨ret_bool HR.out.symm, rfl⟩
      · have hl' : lowB (byte s 0) = false := by simpa using hl
        have hr : wfB nameB s = false := by simp [wfB, hl']
        have HR := Lib.hid hr; clear hr
        go_enter Tryd.func23, Tryd.ntmps23
        go_wp2_with fail
        rw [byte_eq s 0 h0]
        refine (isLower_any _ _ hb0.1 hb0.2).mono ?_
        rintro e w' ⟨rfl, rfl⟩
        rw [hl']
        go_wp2_with fail
        go_ret
        exact ⟨ret_bool HR.out.symm, rfl⟩

theorem tag_any (s : ByteArray) (w : World) (hs : s.size ≤ maxLen) : Calls Tryd.prog 8 #[.string s] w fun e w' => e = .returned (.bool (wfB tagB s)) ∧ w = w' := by
  go_enter Tryd.func8, Tryd.ntmps8
  go_wp2_with fail
  refine (wellFormed_tagB s _ hs).mono ?_
  rintro e w' ⟨rfl, rfl⟩
  go_wp2_with fail
  go_ret
  exact ⟨rfl, rfl⟩
theorem name_any (s : ByteArray) (w : World) (hs : s.size ≤ maxLen) : Calls Tryd.prog 10 #[.string s] w fun e w' => e = .returned (.bool (wfB nameB s)) ∧ w = w' := by
  go_enter Tryd.func10, Tryd.ntmps10
  go_wp2_with fail
  refine (wellFormed_nameB s _ hs).mono ?_
  rintro e w' ⟨rfl, rfl⟩
  go_wp2_with fail
  go_ret
  exact ⟨rfl, rfl⟩
theorem fits_any (s : ByteArray) (w : World) : Calls Tryd.prog 11 #[.string s] w fun e w' => e = .returned (.bool (decide (s.size ≤ 65536))) ∧ w = w' := by
  go_enter Tryd.func11, Tryd.ntmps11
  go_wp2_with fail
  go_ret
  exact ⟨ret_bool (by rw [Bool.eq_iff_iff]; simp; omega), rfl⟩

def innerB (more : Bool) (c : Int) : Bool := if more then nameB c else tagB c

end Go.Proofs.YtmobnjcjpjeflaaDoor
