/-
  tendrillaw09.AttrsChecks: true, whatever the list.
-/
import Derived.Test.YteamnjaepgfcmaaSame
namespace Go.Proofs.Yteamnjaepgfcmaa
open Go.RowKit Go.Sort Go.Lib
set_option linter.unusedVariables false
def TrueB (w : World) (e : Ending) (w' : World) : Prop := e = .returned (.bool true) ∧ Below w.heap.size w w'
set_option maxHeartbeats 2000000 in
theorem checks_any (A : Option Addr) (c : Nat) (l : List At) (w : World) (h : TRow w w.heap.size A l) (hf : Fit l) (hm : l.length ≤ maxLen) : Calls Try.prog 3 #[.slice A l.length c] w (TrueB w) := by
  have HR := Lib.hid h
  have C1 := Lib.hid (heavy09_any A c l w h hf hm)
  clear h hm
  go_enter Try.func3, Try.ntmps3
  go_wp2_with fail
  refine C1.out.mono ?_
  rintro e w1 ⟨hb, rfl, hb1, hs⟩
  have HB1 := Lib.hid hb1
  cases hb with
  | true =>
    clear hs
    go_wp2_with fail
    refine (same09_any w1).mono ?_
    rintro e w2 ⟨rfl, hb2⟩
    go_wp2_with fail
    go_ret
    exact ⟨rfl, HB1.out.trans (hb2.mono HB1.out.size)⟩
  | false =>
    obtain ⟨hl, hsz⟩ := hs rfl
    have hsh := few_short (by omega) hsz
    have HR1 := Lib.hid (HR.out.up hb1)
    have C2 := Lib.hid (check_any A c l w1 HR1.out (by omega) hsh)
    have HSH := Lib.hid hsh
    clear hs hsz hsh hb1 C1
    go_wp2_with fail
    refine C2.out.mono ?_
    rintro e w2 ⟨a, x, rfl, hcp, hb2⟩
    have HB2 := Lib.hid (HB1.out.trans (hb2.mono HB1.out.size))
    have HR2 := Lib.hid (HR1.out.up hb2)
    have C3 := Lib.hid (refCheck_any A c l w2 HR2.out (by omega) HSH.out)
    have HCP := Lib.hid hcp
    clear hb2 C2 hcp
    go_wp2_with fail
    refine C3.out.mono ?_
    rintro e w3 ⟨a', x', rfl, hcp', hb3⟩
    obtain ⟨rfl, rfl⟩ := checkP_unique HCP.out hcp'
    have HB3 := Lib.hid (HB2.out.trans (hb3.mono HB2.out.size))
    clear hb3 C3 hcp' HCP
    go_wp2_with fail
    refine (same09_any w3).mono ?_
    rintro e w4 ⟨rfl, hb4⟩
    go_wp2_with fail
    go_ret
    exact ⟨rfl, HB3.out.trans (hb4.mono HB3.out.size)⟩
end Go.Proofs.Yteamnjaepgfcmaa
