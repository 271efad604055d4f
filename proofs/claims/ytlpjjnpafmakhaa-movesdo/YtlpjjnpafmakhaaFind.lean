/-
  lis.find, slices.Max over integers, lis.greatest: what they answer.
-/
import Derived.Test.YtlpjjnpafmakhaaBase
import Derived.Test.YtlpjjnpafmakhaaMath
namespace Go.Proofs.Ytlpjjnpafmakhaa
open Go.RowKit
set_option linter.unusedVariables false

def FindRel (T : List Int) (x : Int) (lo hi : Value) : Prop :=
  ∃ a b : Nat, lo = .int .i64 a ∧ hi = .int .i64 b ∧ a ≤ b ∧ b ≤ T.length ∧ (∀ j, j < a → T.getD j 0 < x) ∧ (∀ j, b ≤ j → j < T.length → x ≤ T.getD j 0)
def FindPost (w : World) (T : List Int) (x : Int) (e : Ending) (w' : World) : Prop := ∃ p : Nat, e = .returned (.int .i64 p) ∧ Pile T x p ∧ w = w'

set_option maxHeartbeats 2000000 in
theorem find_any (A : Option Addr) (c : Nat) (T : List Int) (x : Int) (B : Nat) (w : World) (hr : Row w B A T) (hup : ∀ j k, j < k → k < T.length → T.getD j 0 < T.getD k 0) (hl : T.length ≤ 1000000) :
    Calls Try.prog 43 #[.slice A T.length c, .int .i64 x] w (FindPost w T x) := by
  have HU := Lib.hid hup; clear hup
  go_enter Try.func43, Try.ntmps43
  go_wp2
  repeat (first | (go_step3; go_wp2) | go_step3)
  go_loop [5, 6] (FindRel T x) (fun a b => (intOf b - intOf a).toNat)
  case atStart => exact ⟨0, T.length, rfl, rfl, by omega, by omega, fun j hj => by omega, fun j h1 h2 => by omega⟩
  case round =>
    obtain ⟨a, b, rfl, rfl, hab, hb, hlo, hhi⟩ := hrel
    have HLO := Lib.hid hlo
    have HHI := Lib.hid hhi
    clear hlo hhi
    by_cases hlt : a < b
    · obtain ⟨h, hh⟩ : ∃ h : Nat, h = (b - a) / 2 := ⟨_, rfl⟩
      have hq : ((b : Int) - a).tdiv 2 = (h : Int) := by
        have : (b : Int) - a = ((b - a : Nat) : Int) := by omega
        rw [this, hh]; rfl
      have hm : a + h < b := by omega
      have HH := Lib.hid hh; clear hh
      obtain ⟨bk, off, t, rfl, hbk, ht, hc⟩ := row_at hr (show a + h < T.length by omega)
      have HT := Lib.hid ht; clear ht
      by_cases h1 : t < x
      · go_wp2_with fail
        refine ⟨⟨a + h + 1, b, by go_num, rfl, by omega, by omega, fun j hj => ?_, HHI.out⟩, by simp [intOf]; omega⟩
        rcases Nat.lt_or_ge j (a + h) with h2 | h2
        · have := HU.out j (a + h) h2 (by omega); rw [← HT.out] at this; omega
        · obtain rfl : j = a + h := by omega
          rw [← HT.out]; exact h1
      · by_cases h2 : x < t
        · go_wp2_with fail
          refine ⟨⟨a, a + h, rfl, by go_num, by omega, by omega, HLO.out, fun j h3 h4 => ?_⟩, by simp [intOf]; omega⟩
          rcases Nat.lt_or_ge (a + h) j with h5 | h5
          · have := HU.out (a + h) j h5 h4; rw [← HT.out] at this; omega
          · obtain rfl : j = a + h := by omega
            rw [← HT.out]; omega
        · have hx : t = x := by omega
          subst hx
          go_wp2_with fail
          go_ret
          refine ⟨a + h, ret_int (by omega), ⟨by omega, fun j hj => ?_, fun j h3 h4 => ?_⟩, rfl⟩
          · have := HU.out j (a + h) hj (by omega); rw [← HT.out] at this; exact this
          · rcases Nat.lt_or_ge (a + h) j with h5 | h5
            · have := HU.out (a + h) j h5 h4; rw [← HT.out] at this; omega
            · obtain rfl : j = a + h := by omega
              rw [← HT.out]; omega
    · obtain rfl : a = b := by omega
      go_wp2
      go_ret
      exact ⟨a, rfl, ⟨hb, HLO.out, HHI.out⟩, rfl⟩

/-- The greatest of the first numbers. -/
def mxs (es : List Nat) (n : Nat) : Nat := mx (fun i => es.getD i 0) n
theorem max_val (a b : Nat) : (if (b : Int) > (a : Int) then (b : Int) else (a : Int)) = ((max a b : Nat) : Int) := by
  split <;> omega

set_option maxHeartbeats 1000000 in
theorem max_any (A : Option Addr) (c : Nat) (es : List Nat) (B : Nat) (w : World) (hr : Row w B A (nats es)) (h0 : 0 < es.length) (hl : es.length ≤ 1000000) :
    Calls Try.prog 44 #[.slice A es.length c] w fun e w' => e = .returned (.int .i64 (mxs es es.length)) ∧ w = w' := by
  obtain ⟨b, off, x, rfl, hb, hx, hc⟩ := row_at hr (show 0 < (nats es).length by rw [nats_length]; exact h0)
  rw [nats_at h0] at hx
  have hm1 : mxs es 1 = es.getD 0 0 := by simp [mxs, mx]
  rw [← hm1] at hx
  clear hm1
  subst hx
  rw [Nat.add_zero] at hc
  go_enter Try.func44, Try.ntmps44
  go_wp2
  go_loop [3, 4] (fun m i => ∃ k : Nat, 1 ≤ k ∧ k ≤ es.length ∧ i = .int .i64 k ∧ m = .int .i64 (mxs es k)) (fun _ i => es.length - (intOf i).toNat)
  case atStart => exact ⟨1, by omega, by omega, rfl, rfl⟩
  case round =>
    obtain ⟨k, hk1, hk, rfl, rfl⟩ := hrel
    by_cases hlt : k < es.length
    · have hc2 := Row.at2 hr (show k < (nats es).length by rw [nats_length]; exact hlt)
      rw [nats_at hlt] at hc2
      have hst : mxs es (k + 1) = max (mxs es k) (es.getD k 0) := rfl
      have HS := Lib.hid hst; clear hst hc
      generalize mxs es k = m at HS ⊢
      generalize es.getD k 0 = y at HS hc2
      by_cases hmy : m ≤ y
      · have hmax : max (m : Int) (y : Int) = y := by omega
        go_wp2_with fail
        all_goals (refine ⟨⟨k + 1, by omega, by omega, by go_num, ?_⟩, by simp [intOf]; omega⟩; rw [HS.out]; go_num)
      · have hmax : max (m : Int) (y : Int) = m := by omega
        go_wp2_with fail
        all_goals (refine ⟨⟨k + 1, by omega, by omega, by go_num, ?_⟩, by simp [intOf]; omega⟩; rw [HS.out]; go_num)
    · obtain rfl : k = es.length := by omega
      go_wp2
      go_ret
      exact ⟨rfl, rfl⟩
theorem greatest_any (A : Option Addr) (c : Nat) (es : List Nat) (B : Nat) (w : World) (hr : Row w B A (nats es)) (hl : es.length ≤ 1000000) :
    Calls Try.prog 39 #[.slice A es.length c] w fun e w' => e = .returned (.int .i64 (mxs es es.length)) ∧ w = w' := by
  by_cases h0 : es.length = 0
  · rw [h0]
    go_enter Try.func39, Try.ntmps39
    go_wp2
    go_ret
    exact ⟨rfl, rfl⟩
  · have h0' : ((es.length : Int) == 0) = false := by simp only [beq_eq_false_iff_ne, ne_eq]; omega
    go_enter Try.func39, Try.ntmps39
    go_wp2_with fail
    refine (max_any A c es B w hr (by omega) hl).mono ?_
    rintro e w' ⟨rfl, rfl⟩
    go_wp2
    go_ret
    exact ⟨rfl, rfl⟩
end Go.Proofs.Ytlpjjnpafmakhaa
