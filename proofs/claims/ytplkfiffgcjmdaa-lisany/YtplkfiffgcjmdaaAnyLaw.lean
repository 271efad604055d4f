/-
  tendrillaw06.LisAny: it answers true.
-/
import Derived.Test.YtplkfiffgcjmdaaSame
import Derived.Test.YtplkfiffgcjmdaaRising
namespace Go.Proofs.Ytplkfiffgcjmdaa
open Go.RowKit
set_option linter.unusedVariables false

set_option maxRecDepth 100000 in
set_option maxHeartbeats 4000000 in
theorem anyLaw_any (A1 A2 : Option Addr) (c1 c2 : Nat) (l s : List Int) (w : World) (h1 : Row w w.heap.size A1 l) (h2 : Row w w.heap.size A2 s) (hm1 : l.length ≤ maxLen) (hm2 : s.length ≤ maxLen) :
    Calls Try.prog 5 #[.slice A1 l.length c1, .slice A2 s.length c2] w fun e w' => e = .returned (.bool true) ∧ Below w.heap.size w w' := by
  unfold maxLen at hm1 hm2
  by_cases hp : 300 < l.length
  · have hp' : (300 : Int) < l.length := by omega
    go_enter Try.func5, Try.ntmps5
    go_wp2_with fail
    refine (same_law _).mono ?_
    rintro e w1 ⟨rfl, hb1⟩
    go_wp2
    go_ret
    exact ⟨rfl, hb1⟩
  · have hp' : ¬ (300 : Int) < l.length := by omega
    by_cases hs : 300 < s.length
    · have hs' : (300 : Int) < s.length := by omega
      go_enter Try.func5, Try.ntmps5
      go_wp2_with fail
      refine (same_law _).mono ?_
      rintro e w1 ⟨rfl, hb1⟩
      go_wp2
      go_ret
      exact ⟨rfl, hb1⟩
    · have hs' : ¬ (300 : Int) < s.length := by omega
      clear hm1 hm2
      go_enter Try.func5, Try.ntmps5
      go_wp2_with fail
      refine (rising_any A1 A2 c1 c2 l s w h1 h2 (by omega) (by omega)).mono ?_
      rintro e w1 ⟨rfl, hb1⟩
      have hl1 := h1.up hb1
      cases hris : risingL l s with
      | false =>
        clear hris
        go_wp2_with fail
        refine (same_law _).mono ?_
        rintro e w2 ⟨rfl, hb2⟩
        go_wp2
        go_ret
        exact ⟨rfl, below_trans hb1 hb2⟩
      | true =>
        have hlen := rising_len hris
        clear hris
        go_wp2_with fail
        refine (length_any A1 c1 l w1 hl1 (by omega)).mono ?_
        rintro e w2 ⟨rfl, hb2⟩
        have hb2' := below_trans hb1 hb2
        have hle : (s.length : Int) ≤ (lenL l : Int) := by omega
        go_wp2_with fail
        refine (same_law _).mono ?_
        rintro e w3 ⟨rfl, hb3⟩
        go_wp2
        go_ret
        exact ⟨rfl, below_trans hb2' hb3⟩
end Go.Proofs.Ytplkfiffgcjmdaa
