/-
  tendrilref06.Ends, tendrilref06.Length: what they answer.
-/
import Derived.Test.YtlpjjnpafmakhaaEnds
namespace Go.Proofs.Ytlpjjnpafmakhaa
open Go.RowKit
set_option linter.unusedVariables false

theorem own_next {w : World} {base : Nat} {v : Value} {L : List Int} {x : Int} (h : w.ownsRow base 3 1 v (L.length + 1) (ints L ++ [.int .i64 x])) : OwnI w base v (L ++ [x]) := by
  unfold OwnI
  simpa using h
theorem enIn_step {l : List Int} {o : List Nat} {i m q n : Nat} {x y : Int} (hx : x = l.getD m 0) (hy : y = l.getD i 0) (hq : o.getD m 0 = q) (hn : enIn l o i m = n) :
    enIn l o i (m + 1) = if 0 ≤ y ∧ 0 ≤ x ∧ x < y ∧ n < q + 1 then q + 1 else n := by
  subst hx hy hq hn; rfl
theorem enIn_le (l : List Int) (i m : Nat) (hm : m ≤ i) : enIn l (enTo l i) i m ≤ i + 1 := by
  rcases Int.lt_or_le (el l i) 0 with h | h
  · rw [enIn_neg h]; omega
  · rcases (enIn_pos (o := enTo l i) h m).2.2 with h1 | ⟨k, hk, _, _, h2⟩
    · omega
    · rw [enTo_at l (by omega)] at h2
      have := en_le l k; omega

def RERel (w : World) (l : List Int) (v i : Value) (wr : World) : Prop := ∃ k : Nat, k ≤ l.length ∧ i = .int .i64 k ∧ OwnI wr w.heap.size v (nats (enTo l k)) ∧ Below w.heap.size w wr
def REIn (w : World) (l : List Int) (v : Value) (i : Nat) (n k : Value) (wr : World) : Prop :=
  ∃ m : Nat, m ≤ i ∧ k = .int .i64 m ∧ n = .int .i64 (enIn l (enTo l i) i m) ∧ OwnI wr w.heap.size v (nats (enTo l i)) ∧ Below w.heap.size w wr

set_option maxRecDepth 100000 in
set_option maxHeartbeats 4000000 in
theorem refEnds_any (A : Option Addr) (c : Nat) (l : List Int) (w : World) (hr : Row w w.heap.size A l) (hl : l.length ≤ 1000000) :
    Calls Try.prog 29 #[.slice A l.length c] w (Made w (endsL l)) := by
  obtain ⟨i0, hi, hz0, hz1, hz2⟩ := info_parts Try.info3
  go_enter Try.func29, Try.ntmps29
  go_wp2
  go_loopw [3, 9] (RERel w l) (fun _ i _ => l.length - (intOf i).toNat)
  case atStart => exact ⟨0, by omega, rfl, World.ownsRow_nil _ _ _ _, Below.refl _ _⟩
  case round =>
    obtain ⟨i, hil, rfl, hown, hbel⟩ := hrel
    by_cases hlt : i < l.length
    · have hlen : (nats (enTo l i)).length = i := by rw [nats_length, enTo_length]
      obtain ⟨Ao, co, hv, -, hco, hcm, -⟩ := row_own hown
      rw [hlen] at hv hco
      subst hv
      obtain ⟨b, off, y, rfl, hb, hy, hc⟩ := row_at (hr.below hbel) hlt
      have HLEN := Lib.hid hlen
      have HY := Lib.hid hy
      clear hlen hy
      have hgo : ∀ n0 : Nat, n0 = enIn l (enTo l i) i 0 → n0 = if 0 ≤ y then 1 else 0 := by
        intro n0 h; rw [h]; show (if 0 ≤ el l i then 1 else 0) = _; rw [show el l i = y from HY.out.symm]
      have HGO := Lib.hid hgo; clear hgo
      by_cases h0 : y < 0
      · have hd0 : decide (0 ≤ y) = false := by simpa using h0
        go_wp2_with fail
        go_loopw [5, 18] (REIn w l (.slice Ao i co) i) (fun _ k _ => i - (intOf k).toNat)
        case atStart => exact ⟨0, by omega, rfl, by rw [HGO.out _ rfl, if_neg (by omega)]; rfl, hown, hbel⟩
        case round =>
          clear hown hbel hc
          obtain ⟨m, hm, rfl, rfl, hown, hbel⟩ := hrel
          have hz : enIn l (enTo l i) i m = 0 := enIn_neg (by unfold el; rw [← HY.out]; exact h0) m
          rw [hz]
          by_cases hml : m < i
          · have hc2 := Row.at2 (hr.below hbel) hlt
            rw [← HY.out] at hc2
            have hz' : enIn l (enTo l i) i (m + 1) = 0 := enIn_neg (by unfold el; rw [← HY.out]; exact h0) _
            have HZ := Lib.hid hz'
            have HO := Lib.hid hown
            clear hz hz' hown
            go_wp2_with fail
            go_quiet (fail)
            go_wp2
            exact ⟨⟨m + 1, by omega, by go_num, by rw [HZ.out], HO.out, bel_drewN hbel _⟩, by simp [intOf]; omega⟩
          · obtain rfl : m = i := by omega
            have hen : en l m = 0 := hz
            have HEN := Lib.hid hen
            clear hz hen
            have hsz := hbel.size
            unfold OwnI at hown
            rw [HLEN.out] at hown
            go_wp2_with (at_builtin; refine wpList_app1 rfl _ _ 22 rfl w.heap.size 3 i0 (.int .i64 0) 8 Try.underlying22 hi hz0 hz1 hz2 rfl _ _ _ rfl hown (.int .i64 0) rfl rfl (by omega) (by simp [maxLen]; omega) (by omega) ?_; intro v' w2 hown2 hbel2)
            refine ⟨⟨m + 1, by omega, by go_num, ?_, hbel.trans hbel2⟩, by simp [intOf]; omega⟩
            rw [enTo_succ, HEN.out]
            have := own_next (L := nats (enTo l m)) (x := 0) (by rw [HLEN.out]; exact hown2)
            simpa [nats] using this
      · have hd0 : decide (0 ≤ y) = true := by simp; omega
        go_wp2_with fail
        go_loopw [5, 18] (REIn w l (.slice Ao i co) i) (fun _ k _ => i - (intOf k).toNat)
        case atStart => exact ⟨0, by omega, rfl, by rw [HGO.out _ rfl, if_pos (by omega)]; rfl, hown, hbel⟩
        case round =>
          clear hown hbel hc
          obtain ⟨m, hm, rfl, rfl, hown, hbel⟩ := hrel
          have hnb := enIn_le l i m hm
          by_cases hml : m < i
          · have hc2 := Row.at2 (hr.below hbel) hlt
            have hc1 := Row.at2 (hr.below hbel) (show m < l.length by omega)
            obtain ⟨x, hx⟩ : ∃ x, x = l.getD m 0 := ⟨_, rfl⟩
            rw [← hx] at hc1
            rw [← HY.out] at hc2
            obtain ⟨Ao', co', hv', hro, -, -, -⟩ := row_own hown
            rw [HLEN.out] at hv'
            obtain ⟨rfl, rfl⟩ : Ao = Ao' ∧ co = co' := by simpa using hv'
            obtain ⟨bo, oo, z, rfl, hbo, hz, hcz⟩ := row_at hro (show m < (nats (enTo l i)).length by rw [HLEN.out]; exact hml)
            rw [nats_at (by rw [enTo_length]; exact hml)] at hz
            obtain ⟨q, hq⟩ : ∃ q, (enTo l i).getD m 0 = q := ⟨_, rfl⟩
            rw [hq] at hz
            subst hz
            have hqb : q ≤ m + 1 := by rw [← hq, enTo_at l hml]; exact en_le l m
            have hst := enIn_step (o := enTo l i) hx HY.out hq rfl
            have HS := Lib.hid hst
            have HO := Lib.hid hown
            clear hst hx hq hown hv' hro
            generalize enIn l (enTo l i) i m = n at hnb HS ⊢
            by_cases h1 : x < 0
            · have hd1 : decide (0 ≤ x) = false := by simpa using h1
              go_wp2_with fail
              go_quiet (fail)
              go_wp2
              exact ⟨⟨m + 1, by omega, by go_num, by rw [HS.out, if_neg (by omega)], HO.out, bel_drewN hbel _⟩, by simp [intOf]; omega⟩
            · have hd1 : decide (0 ≤ x) = true := by simp; omega
              by_cases h2 : x < y
              · have hd2 : decide (x < y) = true := by simpa using h2
                by_cases h3 : n < q + 1
                · have hd3 : decide (n < q + 1) = true := by simpa using h3
                  have hd3' : decide ((n : Int) < q + 1) = true := by simp; omega
                  go_wp2_with fail
                  go_quiet (fail)
                  go_wp2
                  exact ⟨⟨m + 1, by omega, by go_num, by rw [HS.out, if_pos (by omega)]; go_num, HO.out, bel_drewN hbel _⟩, by simp [intOf]; omega⟩
                · have hd3 : decide (n < q + 1) = false := by simpa using h3
                  have hd3' : decide ((n : Int) < q + 1) = false := by simp; omega
                  go_wp2_with fail
                  go_quiet (fail)
                  go_wp2
                  exact ⟨⟨m + 1, by omega, by go_num, by rw [HS.out, if_neg (by omega)], HO.out, bel_drewN hbel _⟩, by simp [intOf]; omega⟩
              · have hd2 : decide (x < y) = false := by simpa using h2
                go_wp2_with fail
                go_quiet (fail)
                go_wp2
                exact ⟨⟨m + 1, by omega, by go_num, by rw [HS.out, if_neg (by omega)], HO.out, bel_drewN hbel _⟩, by simp [intOf]; omega⟩
          · obtain rfl : m = i := by omega
            have hen : en l m = enIn l (enTo l m) m m := rfl
            have HEN := Lib.hid hen
            clear hen
            generalize enIn l (enTo l m) m m = n at hnb HEN ⊢
            have hsz := hbel.size
            unfold OwnI at hown
            rw [HLEN.out] at hown
            go_wp2_with (at_builtin; refine wpList_app1 rfl _ _ 22 rfl w.heap.size 3 i0 (.int .i64 0) 8 Try.underlying22 hi hz0 hz1 hz2 rfl _ _ _ rfl hown (.int .i64 (n : Int)) rfl rfl (by omega) (by simp [maxLen]; omega) (by omega) ?_; intro v' w2 hown2 hbel2)
            refine ⟨⟨m + 1, by omega, by go_num, ?_, hbel.trans hbel2⟩, by simp [intOf]; omega⟩
            rw [enTo_succ, HEN.out]
            have := own_next (L := nats (enTo l m)) (x := (n : Int)) (by rw [HLEN.out]; exact hown2)
            simpa [nats] using this
    · obtain rfl : i = l.length := by omega
      go_wp2
      go_ret
      exact made_own hown hbel

theorem lenL_step (l : List Int) (k : Nat) : mx (en l) (k + 1) = max (mx (en l) k) (en l k) := rfl
set_option maxHeartbeats 1000000 in
theorem refLength_any (A : Option Addr) (c : Nat) (l : List Int) (w : World) (hr : Row w w.heap.size A l) (hl : l.length ≤ 1000000) :
    Calls Try.prog 30 #[.slice A l.length c] w fun e w' => e = .returned (.int .i64 (lenL l)) ∧ Below w.heap.size w w' := by
  go_enter Try.func30, Try.ntmps30
  go_wp2_with fail
  refine (refEnds_any A c l w hr hl).mono ?_
  rintro e w1 ⟨A1, c1, rfl, hrow, -, -, -, hb1⟩
  have hel := endsL_length l
  rw [hel]
  have HEL := Lib.hid hel; clear hel
  go_wp2
  go_loop [3, 10] (fun n i => ∃ k : Nat, k ≤ l.length ∧ i = .int .i64 k ∧ n = .int .i64 (mx (en l) k)) (fun _ i => l.length - (intOf i).toNat)
  case atStart => exact ⟨0, by omega, rfl, rfl⟩
  case round =>
    obtain ⟨k, hk, rfl, rfl⟩ := hrel
    by_cases hlt : k < l.length
    · obtain ⟨b, off, x, rfl, hb, hx, hc⟩ := row_at hrow (show k < (endsL l).length by rw [HEL.out]; exact hlt)
      rw [endsL_at hlt] at hx
      subst hx
      have hst := lenL_step l k
      have HS := Lib.hid hst; clear hst
      generalize mx (en l) k = m at HS ⊢
      generalize en l k = y at HS hc
      by_cases hmy : m ≤ y
      · have hmax : max (m : Int) (y : Int) = y := by omega
        go_wp2_with fail
        all_goals (refine ⟨⟨k + 1, by omega, by go_num, ?_⟩, by simp [intOf]; omega⟩; rw [HS.out]; go_num)
      · have hmax : max (m : Int) (y : Int) = m := by omega
        go_wp2_with fail
        all_goals (refine ⟨⟨k + 1, by omega, by go_num, ?_⟩, by simp [intOf]; omega⟩; rw [HS.out]; go_num)
    · obtain rfl : k = l.length := by omega
      go_wp2
      go_ret
      exact ⟨rfl, hb1⟩
end Go.Proofs.Ytlpjjnpafmakhaa
