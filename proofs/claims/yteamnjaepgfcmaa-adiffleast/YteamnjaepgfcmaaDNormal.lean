/-
  adiff.normal: the list as it is compared.
-/
import Derived.Test.YteamnjaepgfcmaaNorm
import Derived.Test.YteamnjaepgfcmaaValid
import Derived.Test.YteamnjaepgfcmaaDRow
namespace Go.Proofs.Yteamnjaepgfcmaa
open Go.RowKit Go.Sort
set_option linter.unusedVariables false
set_option maxHeartbeats 1000000 in
theorem normal_any (A : Option Addr) (c : Nat) (l : List At) (w : World) (h : TRow w w.heap.size A l) (hl : l.length ≤ 1000000) (hs : Short l) (hc : l.length ≤ c) (hm : c ≤ maxLen) (hc0 : A = none → c = 0) :
    Calls Try.prog 48 #[.slice A l.length c] w (MadeN w (normL l)) := by
  have HC := Lib.hid (check_any A c l w h hl hs)
  have HR := Lib.hid h
  have HQ := Lib.hid (And.intro hc (And.intro hm hc0))
  clear h hs hc hm hc0
  go_enter Try.func48, Try.ntmps48
  go_wp2_with fail
  refine HC.out.mono ?_
  rintro e w1 ⟨a, x, rfl, hp, hb⟩
  have HP := Lib.hid hp; have HB := Lib.hid hb; have HR1 := Lib.hid (HR.out.up hb)
  clear hp hb HC
  by_cases hx : x = 0
  · subst hx
    go_wp2_with fail
    go_ret
    have e := norm_self (valid_good (check_zero HP.out)).sts
    exact ⟨A, c, by rw [e]; rfl, by rw [e]; exact HR1.out, by rw [e]; exact HQ.out.1, HQ.out.2.1, HQ.out.2.2, HB.out⟩
  · have hx1 : (x == 0) = false := by simpa using hx
    have C2 := Lib.hid (norm_any A c l w1 HR1.out hl HQ.out.2.2)
    clear hx
    go_wp2_with fail
    refine C2.out.mono ?_
    rintro e w2 ⟨A2, c2, rfl, r1, r2, r3, r4, hb2⟩
    go_wp2_with fail
    go_ret
    exact ⟨A2, c2, rfl, r1, r2, r3, r4, HB.out.trans (hb2.mono HB.out.size)⟩
end Go.Proofs.Yteamnjaepgfcmaa
