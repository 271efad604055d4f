/-
  tendrilref03.Span, and tendrillaw03.EscapeReads: it answers true.
-/
import Derived.Test.YtjekdnmjaobohaaDoorOnly
import Derived.Test.YtjekdnmjaobohaaDoorRefUn
import Derived.Test.YtjekdnmjaobohaaDoorSpan
namespace Go.Proofs.YtjekdnmjaobohaaDoor
open Go.RowKit
set_option linter.unusedVariables false

/-- After n plain bytes the span is still to be counted. -/
def SpRel (s : ByteArray) (k : Nat) (i : Value) : Prop :=
  ∃ n : Nat, k + n ≤ s.size ∧ i = .int .i64 n ∧ spanN (s.data.toList.drop k) = n + spanN (s.data.toList.drop (k + n))

theorem span_step {l : List UInt8} {c : UInt8} {r : List UInt8} (h : l = c :: r) (hc : signs.contains c = false) : spanN l = 1 + spanN r := by
  subst h
  rw [show spanN (c :: r) = if signs.contains c = true then 0 else spanN r + 1 from rfl, if_neg (by rw [hc]; simp)]
  omega
theorem span_stop {l : List UInt8} {c : UInt8} {r : List UInt8} (h : l = c :: r) (hc : signs.contains c = true) : spanN l = 0 := by
  subst h
  rw [show spanN (c :: r) = if signs.contains c = true then 0 else spanN r + 1 from rfl, if_pos hc]

set_option maxRecDepth 100000 in
set_option maxHeartbeats 2000000 in
theorem refSpan_any (s : ByteArray) (p : Int) (w : World) (hs : s.size ≤ 100000) (hp0 : -9223372036854775808 ≤ p) (hp1 : p ≤ 9223372036854775807) : Calls Tryd.prog 10 #[.string s, .int .i64 p] w fun e w' => e = .returned (.int .i64 (spanI s.data.toList p)) ∧ w = w' := by
  have hsl : s.data.toList.length = s.size := by simp
  by_cases hneg : p < 0
  · have e : spanI s.data.toList p = 0 := by unfold spanI; rw [if_pos (.inl hneg)]
    have E := Lib.hid e; clear e hsl
    go_enter Tryd.func10, Tryd.ntmps10
    go_wp2
    go_ret
    exact ⟨ret_int E.out.symm, rfl⟩
  · obtain ⟨k, rfl⟩ := Int.eq_ofNat_of_zero_le (show 0 ≤ p by omega)
    by_cases hge : s.size ≤ k
    · have e : spanI s.data.toList k = 0 := by unfold spanI; rw [hsl, if_pos (.inr (by omega))]
      have E := Lib.hid e; clear e hsl
      have hd : decide (s.size ≤ k) = true := by simpa using hge
      go_enter Tryd.func10, Tryd.ntmps10
      go_wp2
      go_ret
      exact ⟨ret_int E.out.symm, rfl⟩
    · have hd : decide (s.size ≤ k) = false := by simpa using hge
      have e : spanI s.data.toList k = spanN (s.data.toList.drop k) := by unfold spanI; rw [hsl, if_neg (by omega), Int.toNat_natCast]
      have E := Lib.hid e
      have HSL := Lib.hid hsl
      clear e hsl
      go_enter Tryd.func10, Tryd.ntmps10
      go_wp2
      go_loop [5] (SpRel s k) (fun i => s.size - (intOf i).toNat)
      case atStart => exact ⟨0, by omega, rfl, by simp⟩
      case round =>
        obtain ⟨n, hn, rfl, hsp⟩ := hrel
        have HS := Lib.hid hsp; clear hsp
        by_cases hlt : k + n < s.size
        · obtain ⟨c, hc⟩ : ∃ c, s[k + n]'hlt = c := ⟨_, rfl⟩
          have HD := Lib.hid (drop_cons s (k + n) hlt hc)
          have hlt' : (k : Int) + (n : Int) < (s.size : Int) := by omega
          have htn : ((k : Int) + (n : Int)).toNat = k + n := by omega
          by_cases hcs : signs.contains c = true
          · have h0 := span_stop HD.out hcs
            have hres : spanN (s.data.toList.drop k) = n := by rw [HS.out, h0]; omega
            have HRES := Lib.hid hres
            have hcc : c = 60 ∨ c = 62 ∨ c = 34 := by simpa [signs] using hcs
            clear h0 hres hcs HD
            rcases hcc with rfl | rfl | rfl
            all_goals
              go_wp2
              go_ret
              exact ⟨ret_int (by rw [E.out, HRES.out]), rfl⟩
          · have hcf : signs.contains c = false := by simpa using hcs
            have h1 := span_step HD.out hcf
            have hst : spanN (s.data.toList.drop k) = (n + 1) + spanN (s.data.toList.drop (k + (n + 1))) := by rw [HS.out, h1]; rw [show k + n + 1 = k + (n + 1) by omega]; omega
            have HST := Lib.hid hst
            have hcc : c ≠ 60 ∧ c ≠ 62 ∧ c ≠ 34 := by simpa [signs] using hcf
            have g1 : ((c.toNat : Int) != 60) = true := by have := nat_ne hcc.1; simp at this ⊢; omega
            have g2 : ((c.toNat : Int) != 62) = true := by have := nat_ne hcc.2.1; simp at this ⊢; omega
            have g3 : ((c.toNat : Int) != 34) = true := by have := nat_ne hcc.2.2; simp at this ⊢; omega
            clear h1 hst hcs hcf hcc HD
            go_wp2
            exact ⟨⟨n + 1, by omega, by go_num, HST.out⟩, by simp [intOf]; omega⟩
        · have hkn : k + n = s.size := by omega
          have hres : spanN (s.data.toList.drop k) = n := by rw [HS.out, List.drop_eq_nil_of_le (by rw [HSL.out]; omega)]; rfl
          have HRES := Lib.hid hres
          have hlt' : ¬ (k : Int) + (n : Int) < (s.size : Int) := by omega
          clear hres hkn
          go_wp2
          go_ret
          exact ⟨ret_int (by rw [E.out, HRES.out]), rfl⟩

set_option maxRecDepth 100000 in
set_option maxHeartbeats 2000000 in
theorem reads_any (s : ByteArray) (p : Int) (w : World) (hs : s.size ≤ maxLen) (hp : (Lit.int .i64 p).wf = true) (hv : Vars w) : Calls Tryd.prog 3 #[.string s, .int .i64 p] w fun e w' => e = .returned (.bool true) ∧ Below w.heap.size w w' := by
  have h4 := hv.2.2.2
  have hpb : -9223372036854775808 ≤ p ∧ p ≤ 9223372036854775807 := by simpa [Lit.wf, IntKind.min, IntKind.max, IntKind.signed, IntKind.bits] using hp
  obtain ⟨hp0, hp1⟩ := hpb
  unfold maxLen at hs
  clear hp
  by_cases h1 : 2000 < s.size
  · have h1' : (2000 : Int) < s.size := by omega
    go_enter Tryd.func3, Tryd.ntmps3
    go_wp2_with fail
    refine (same_law w hv).mono ?_
    rintro e w1 ⟨rfl, hb1⟩
    go_wp2
    go_ret
    exact ⟨rfl, hb1⟩
  · have h1' : ¬ (2000 : Int) < s.size := by omega
    obtain ⟨a, ha⟩ : ∃ a, a = str (unesc s.data.toList).1 := ⟨_, rfl⟩
    obtain ⟨b, hb⟩ : ∃ b : Int, b = ((unesc s.data.toList).2.1 : Int) := ⟨_, rfl⟩
    obtain ⟨c, hc⟩ : ∃ c : Int, c = (unesc s.data.toList).2.2 := ⟨_, rfl⟩
    obtain ⟨d, hd⟩ : ∃ d : Int, d = spanI s.data.toList p := ⟨_, rfl⟩
    have HA := Lib.hid ha
    have HB := Lib.hid hb
    have HC := Lib.hid hc
    have HD := Lib.hid hd
    clear ha hb hc hd
    go_enter Tryd.func3, Tryd.ntmps3
    go_wp2_with fail
    refine (unescape_any s w (by omega) hv).mono ?_
    rintro e w1 ⟨rfl, hb1⟩
    rw [← HA.out, ← HB.out, ← HC.out]
    go_wp2_with fail
    refine (refUnescape_any s w1 (by omega)).mono ?_
    rintro e w2 ⟨rfl, hb2⟩
    rw [← HA.out, ← HB.out, ← HC.out]
    have hb02 := hb1.trans (hb2.mono hb1.size)
    go_wp2_with fail
    refine (span_any s p w2 (by omega) hp0 hp1).mono ?_
    rintro e w3 ⟨rfl, hb3⟩
    rw [← HD.out]
    have hb03 := hb02.trans (hb3.mono hb02.size)
    go_wp2_with fail
    refine (refSpan_any s p w3 (by omega) hp0 hp1).mono ?_
    rintro e w4 ⟨rfl, rfl⟩
    rw [← HD.out]
    go_wp2_with fail
    refine (same_law w3 (hv.below h4 hb03)).mono ?_
    rintro e w5 ⟨rfl, hb5⟩
    go_wp2
    go_ret
    exact ⟨rfl, hb03.trans (hb5.mono hb03.size)⟩
end Go.Proofs.YtjekdnmjaobohaaDoor
