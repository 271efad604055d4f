/-
  tendrillaw06.LisChosen: it answers true.
-/
import Derived.Test.YtplkfiffgcjmdaaSame
import Derived.Test.YtplkfiffgcjmdaaRefLong
import Derived.Test.YtplkfiffgcjmdaaRising
namespace Go.Proofs.Ytplkfiffgcjmdaa
open Go.RowKit
set_option linter.unusedVariables false

set_option maxRecDepth 100000 in
set_option maxHeartbeats 4000000 in
theorem chosenLaw_any (A : Option Addr) (c : Nat) (l : List Int) (w : World) (h : Row w w.heap.size A l) (hm : l.length ≤ maxLen) :
    Calls Try.prog 3 #[.slice A l.length c] w fun e w' => e = .returned (.bool true) ∧ Below w.heap.size w w' := by
  unfold maxLen at hm
  by_cases hp : 120 < l.length
  · have hp' : (120 : Int) < l.length := by omega
    go_enter Try.func3, Try.ntmps3
    go_wp2_with fail
    refine (same_law _).mono ?_
    rintro e w1 ⟨rfl, hb1⟩
    go_wp2
    go_ret
    exact ⟨rfl, hb1⟩
  · have hp' : ¬ (120 : Int) < l.length := by omega
    clear hm
    have hll := lenL_le l
    have hlo : (nats (longL l)).length = lenL l := by rw [nats_length, longL_length]
    have hris := longL_rising l
    have HLO := Lib.hid hlo
    have HRIS := Lib.hid hris
    clear hlo hris
    go_enter Try.func3, Try.ntmps3
    go_wp2_with fail
    refine (longest_any A c l w h (by omega)).mono ?_
    rintro e w1 ⟨Ax, cx, rfl, hx1, -, -, -, hb1⟩
    have hl1 := h.up hb1
    go_wp2_with fail
    refine (ends_any A c l w1 hl1 (by omega)).mono ?_
    rintro e w2 ⟨A2, c2, rfl, hr2, -, -, -, hb2⟩
    have hl2 := hl1.up hb2
    have hx2 := hx1.up hb2
    have hb2' := below_trans hb1 hb2
    clear hl1 hx1 hb1 hb2
    go_wp2_with fail
    refine (refEnds_any A c l w2 hl2 (by omega)).mono ?_
    rintro e w3 ⟨A3, c3, rfl, hr3, -, -, -, hb3⟩
    have hl3 := hl2.up hb3
    have hx3 := hx2.up hb3
    have he3 := hr2.up hb3
    have hb3' := below_trans hb2' hb3
    clear hl2 hx2 hr2 hb2' hb3
    go_wp2_with fail
    refine (ints_any A2 A3 c2 c3 (endsL l) w3 he3 hr3 (by rw [endsL_length]; omega)).mono ?_
    rintro e w4 ⟨rfl, hb4⟩
    have hl4 := hl3.up hb4
    have hx4 := hx3.up hb4
    have hb4' := below_trans hb3' hb4
    clear hl3 hx3 hr3 he3 hb3' hb4
    go_wp2_with fail
    refine (length_any A c l w4 hl4 (by omega)).mono ?_
    rintro e w5 ⟨rfl, hb5⟩
    have hl5 := hl4.up hb5
    have hx5 := hx4.up hb5
    have hb5' := below_trans hb4' hb5
    clear hl4 hx4 hb4' hb5
    go_wp2_with fail
    refine (refLength_any A c l w5 hl5 (by omega)).mono ?_
    rintro e w6 ⟨rfl, hb6⟩
    have hl6 := hl5.up hb6
    have hx6 := hx5.up hb6
    have hb6' := below_trans hb5' hb6
    clear hl5 hx5 hb5' hb6
    go_wp2_with fail
    refine (refLongest_any A c l w6 hl6 (by omega)).mono ?_
    rintro e w7 ⟨A7, c7, rfl, hr7, -, -, -, hb7⟩
    have hl7 := hl6.up hb7
    have hx7 := hx6.up hb7
    have hb7' := below_trans hb6' hb7
    clear hl6 hx6 hb6' hb7
    go_wp2_with fail
    refine (ints_any Ax A7 cx c7 (nats (longL l)) w7 hx7 hr7 (by rw [HLO.out]; omega)).mono ?_
    rintro e w8 ⟨rfl, hb8⟩
    have hl8 := hl7.up hb8
    have hx8 := hx7.up hb8
    have hb8' := below_trans hb7' hb8
    clear hl7 hx7 hr7 hb7' hb8
    go_wp2_with fail
    have c9 := rising_any A Ax c cx l (nats (longL l)) w8 hl8 hx8 (by omega) (by rw [HLO.out]; omega)
    rw [HRIS.out] at c9
    refine c9.mono ?_
    clear c9
    rintro e w9 ⟨rfl, hb9⟩
    have hl9 := hl8.up hb9
    have hb9' := below_trans hb8' hb9
    clear hl8 hx8 hb8' hb9
    rw [HLO.out]
    go_wp2_with fail
    refine (length_any A c l w9 hl9 (by omega)).mono ?_
    rintro e w10 ⟨rfl, hb10⟩
    have hb10' := below_trans hb9' hb10
    clear hl9 hb9' hb10
    go_wp2_with fail
    refine (same_law _).mono ?_
    rintro e w11 ⟨rfl, hb11⟩
    go_wp2
    go_ret
    exact ⟨rfl, below_trans hb10' hb11⟩

end Go.Proofs.Ytplkfiffgcjmdaa
