/-
  tendrillaw06.LisSkips: it answers true.
-/
import Derived.Test.YtplkfiffgcjmdaaSame
import Derived.Test.YtplkfiffgcjmdaaSMath
namespace Go.Proofs.Ytplkfiffgcjmdaa
open Go.RowKit
set_option linter.unusedVariables false

theorem own_next {w : World} {base : Nat} {v : Value} {L : List Int} {x : Int} (h : w.ownsRow base 3 1 v (L.length + 1) (ints L ++ [.int .i64 x])) : OwnI w base v (L ++ [x]) := by
  unfold OwnI
  simpa using h
def SkRel (w : World) (l : List Int) (v i : Value) (wr : World) : Prop := ∃ k : Nat, k ≤ l.length ∧ i = .int .i64 k ∧ OwnI wr w.heap.size v (restTo l k) ∧ Below w.heap.size w wr

set_option maxRecDepth 100000 in
set_option maxHeartbeats 4000000 in
theorem skipsLaw_any (A : Option Addr) (c : Nat) (l : List Int) (w : World) (h : Row w w.heap.size A l) (hm : l.length ≤ maxLen) :
    Calls Try.prog 6 #[.slice A l.length c] w fun e w' => e = .returned (.bool true) ∧ Below w.heap.size w w' := by
  unfold maxLen at hm
  by_cases hp : 300 < l.length
  · have hp' : (300 : Int) < l.length := by omega
    go_enter Try.func6, Try.ntmps6
    go_wp2_with fail
    refine (same_law _).mono ?_
    rintro e w1 ⟨rfl, hb1⟩
    go_wp2
    go_ret
    exact ⟨rfl, hb1⟩
  · have hp' : ¬ (300 : Int) < l.length := by omega
    clear hm
    obtain ⟨i0, hi, hz0, hz1, hz2⟩ := info_parts Try.info3
    go_enter Try.func6, Try.ntmps6
    go_wp2
    go_loopw [3, 14] (SkRel w l) (fun _ i _ => l.length - (intOf i).toNat)
    case atStart => exact ⟨0, by omega, rfl, World.ownsRow_nil _ _ _ _, Below.refl _ _⟩
    case round =>
      obtain ⟨k, hk, rfl, hown, hbel⟩ := hrel
      have hpl := pos_le l k
      unfold pos at hpl
      by_cases hlt : k < l.length
      · obtain ⟨b, off, x, rfl, hb, hx, hc⟩ := row_at (h.below hbel) hlt
        have hxe : el l k = x := hx.symm
        have hsz := hbel.size
        clear hx
        by_cases h0 : 0 ≤ x
        · have hst := rest_hit hlt (by rw [hxe]; exact h0)
          rw [hxe] at hst
          have HS := Lib.hid hst; clear hst hxe
          generalize restTo l k = L at hown hpl HS
          unfold OwnI at hown
          go_wp2_with (at_builtin; refine wpList_app1 rfl _ _ 22 rfl w.heap.size 3 i0 (.int .i64 0) 8 Try.underlying22 hi hz0 hz1 hz2 rfl _ _ _ rfl hown (.int .i64 x) rfl rfl (by omega) (by simp [maxLen]; omega) (by omega) ?_; intro v' w2 hown2 hbel2)
          exact ⟨⟨k + 1, by omega, by go_num, by rw [HS.out]; exact own_next hown2, hbel.trans hbel2⟩, by simp [intOf]; omega⟩
        · have hst := rest_miss hlt (by rw [hxe]; omega)
          rw [← hst] at hown
          have HO := Lib.hid hown; clear hst hxe hown
          go_wp2_with fail
          exact ⟨⟨k + 1, by omega, by go_num, HO.out, hbel⟩, by simp [intOf]; omega⟩
      · obtain rfl : k = l.length := by omega
        obtain ⟨Ar, cr, hvr, hrr, -⟩ := row_own hown
        subst hvr
        have hrr' : Row wr wr.heap.size Ar (restL l) := hrr
        have hlr := h.up hbel
        have hrl : (restL l).length ≤ 300 := by have := hpl; unfold restL; omega
        have hll := lenL_le l
        have hla : (nats (longL l)).length = lenL l := by rw [nats_length, longL_length]
        have hlb : (nats (longL (restL l))).length = lenL l := by rw [nats_length, longL_length, lenL_rest]
        have hsk : ∀ i, i < lenL l → (longL l).getD i 0 < l.length ∧ (longL (restL l)).getD i 0 < (restL l).length ∧ el (restL l) ((longL (restL l)).getD i 0) = el l ((longL l).getD i 0) := fun i hi => skips_at (by rw [longL_length]; exact hi)
        have hra : ∀ wq, Row wq wq.heap.size Ar (restL l) → Calls Try.prog 8 #[.slice Ar (restL l).length cr] wq (Made wq (nats (longL (restL l)))) := fun wq hq => longest_any Ar cr (restL l) wq hq (by omega)
        have ha : ∀ wq, Row wq wq.heap.size A l → Calls Try.prog 8 #[.slice A l.length c] wq (Made wq (nats (longL l))) := fun wq hq => longest_any A c l wq hq (by omega)
        have hna : ∀ i, i < lenL l → (nats (longL l)).getD i 0 = ((longL l).getD i 0 : Nat) := fun i hi => nats_at (by rw [longL_length]; exact hi)
        have hnb : ∀ i, i < lenL l → (nats (longL (restL l))).getD i 0 = ((longL (restL l)).getD i 0 : Nat) := fun i hi => nats_at (by rw [longL_length, lenL_rest]; exact hi)
        have e0 : (restTo l l.length).length = (restL l).length := rfl
        rw [e0]
        clear e0 hown hrr hpl
        generalize restL l = R at hrr' hrl hlb hsk hra hnb ⊢
        generalize lenL l = m at hll hla hlb hsk hna hnb
        generalize nats (longL l) = XA at hla ha hna
        generalize nats (longL R) = XB at hlb hra hnb
        generalize longL l = SA at hsk hna
        generalize longL R = SB at hsk hnb
        have HA := Lib.hid ha
        have HRA := Lib.hid hra
        have HLA := Lib.hid hla
        have HLB := Lib.hid hlb
        have HSK := Lib.hid hsk
        have HNA := Lib.hid hna
        have HNB := Lib.hid hnb
        clear ha hra hla hlb hsk hna hnb
        go_wp2_with fail
        refine (HA.out wr hlr).mono ?_
        rintro e w3 ⟨Aa, ca, rfl, hra3, -, -, -, hb3⟩
        rw [HLA.out]
        have hl3 := hlr.up hb3
        have hr3 := hrr'.up hb3
        have hb3' := hbel.trans (hb3.mono hbel.size)
        clear hlr hrr' hb3
        go_wp2_with fail
        refine (HRA.out w3 hr3).mono ?_
        rintro e w4 ⟨Ab, cb, rfl, hrb4, -, -, -, hb4⟩
        rw [HLB.out]
        have hl4 := hl3.up hb4
        have hr4 := hr3.up hb4
        have ha4 := hra3.up hb4
        have hb4' := below_trans hb3' hb4
        clear hl3 hr3 hra3 hb4 hb3'
        go_wp2
        go_loopw [41] (fun i wq => ∃ k : Nat, k ≤ m ∧ i = .int .i64 k ∧ Below w4.heap.size w4 wq) (fun i _ => m - (intOf i).toNat)
        case atStart => exact ⟨0, by omega, rfl, Below.refl _ _⟩
        case round =>
          obtain ⟨i, hil, rfl, hbq⟩ := hrel
          by_cases hlt2 : i < m
          · obtain ⟨ba, oa, xa, rfl, hba, hxa, hca⟩ := row_at (ha4.below hbq) (show i < XA.length by rw [HLA.out]; exact hlt2)
            obtain ⟨bb, ob, xb, rfl, hbb, hxb, hcb⟩ := row_at (hrb4.below hbq) (show i < XB.length by rw [HLB.out]; exact hlt2)
            obtain ⟨s1, s2, s3⟩ := HSK.out i hlt2
            rw [HNA.out i hlt2] at hxa
            rw [HNB.out i hlt2] at hxb
            generalize SA.getD i 0 = p at hxa s1 s3
            generalize SB.getD i 0 = q at hxb s2 s3
            subst hxa hxb
            obtain ⟨bl, ol, y, rfl, hbl, hy, hcy⟩ := row_at (hl4.below hbq) s1
            obtain ⟨br, or', z, rfl, hbr, hz, hcz⟩ := row_at (hr4.below hbq) s2
            obtain rfl : z = y := by rw [hz, hy]; exact s3
            clear hz hy s3
            have hd1 : decide ((p : Int) < 0) = false := by simp only [decide_eq_false_iff_not]; omega
            have hd2 : decide ((q : Int) < 0) = false := by simp only [decide_eq_false_iff_not]; omega
            have hd3 : decide (l.length ≤ p) = false := by simp only [decide_eq_false_iff_not]; omega
            have hd4 : decide (R.length ≤ q) = false := by simp only [decide_eq_false_iff_not]; omega
            go_wp2_with fail
            go_quiet (fail)
            go_wp2
            exact ⟨⟨i + 1, by omega, by go_num, bel_drewN hbq _⟩, by simp [intOf]; omega⟩
          · obtain rfl : i = m := by omega
            have hb5 := below_trans hb4' hbq
            go_wp2_with fail
            refine (same_law _).mono ?_
            rintro e w5 ⟨rfl, hb6⟩
            go_wp2
            go_ret
            exact ⟨rfl, below_trans hb5 hb6⟩
end Go.Proofs.Ytplkfiffgcjmdaa
