/-
  tendrillaw13.FlatSame.
-/
import Derived.Test.YtlkdklpglmglkaaFS13
import Derived.Test.YtlkdklpglmglkaaFSame
import Derived.Test.YtlkdklpglmglkaaFFew
namespace Go.Proofs.Ytlkdklpglmglkaa
open Go.RowKit Go.Sort Go.Lib
set_option linter.unusedVariables false
set_option maxRecDepth 100000
/-- A slice of rows that came in. -/
structure RIn (w : World) (A : Option Addr) (c : Nat) (rs : List Rw) : Prop where
  row : RRow w w.heap.size A rs
  fit : FitRs rs
  len : rs.length ≤ 140737488355328
  cap : rs.length ≤ c
set_option maxHeartbeats 8000000 in
theorem law6_any (A B : Option Addr) (c d : Nat) (a b : List Rw) (w : World) (ha : RIn w A c a) (hb : RIn w B d b) : Calls Try.prog 6 #[.slice A a.length c, .slice B b.length d] w (TrueB w) := by
  have CA := Lib.hid (fewRows_any A c a 400 w ha.row ha.fit (by omega) ha.len)
  have HA := Lib.hid ha; have HB := Lib.hid hb
  rw [show ((400 : Nat) : Int) = 400 from rfl] at CA
  clear ha hb
  go_enter Try.func6, Try.ntmps6
  go_wp2_with fail
  refine CA.out.mono ?_
  rintro e w1 ⟨r1, rfl, h1, hb1⟩
  have HB1 := Lib.hid hb1
  have CB := Lib.hid (fewRows_any B d b 400 w1 (HB.out.row.up hb1) HB.out.fit (by omega) HB.out.len)
  rw [show ((400 : Nat) : Int) = 400 from rfl] at CB
  clear CA hb1
  cases r1 with
  | false =>
    have CS := Lib.hid (same13_any w1)
    clear h1 CB
    go_wp2_with fail
    refine CS.out.mono ?_
    rintro e w2 ⟨rfl, hb2⟩
    have HB2 := Lib.hid (HB1.out.trans (hb2.mono HB1.out.size))
    clear hb2 CS
    go_wp2_with fail
    go_ret
    exact ⟨rfl, HB2.out⟩
  | true =>
    have HGA := Lib.hid (h1 rfl)
    clear h1
    go_wp2_with fail
    refine CB.out.mono ?_
    rintro e w2 ⟨r2, rfl, h2, hb2⟩
    have HB2 := Lib.hid (HB1.out.trans (hb2.mono HB1.out.size))
    clear hb2 CB
    cases r2 with
    | false =>
      have CS := Lib.hid (same13_any w2)
      clear h2
      go_wp2_with fail
      refine CS.out.mono ?_
      rintro e w3 ⟨rfl, hb3⟩
      have HB3 := Lib.hid (HB2.out.trans (hb3.mono HB2.out.size))
      clear hb3 CS
      go_wp2_with fail
      go_ret
      exact ⟨rfl, HB3.out⟩
    | true =>
      have HGB := Lib.hid (h2 rfl)
      clear h2
      have C1 := Lib.hid (fsame_any A B c d a b w2 (HA.out.row.up HB2.out) (HB.out.row.up HB2.out) HGA.out.1 HGB.out.1 (by have := HGA.out.2; omega) (by have := HGB.out.2; omega))
      go_wp2_with fail
      refine C1.out.mono ?_
      rintro e w3 ⟨r3, rfl, h3, hb3⟩
      have HB3 := Lib.hid (HB2.out.trans (hb3.mono HB2.out.size))
      have H3 := Lib.hid h3
      have C2 := Lib.hid (shapes_any A B c d a b w3 (HA.out.row.up HB3.out) (HB.out.row.up HB3.out) HGA.out.1 HGB.out.1 (by have := HGA.out.2; omega) (by have := HGB.out.2; omega))
      clear C1 hb3 h3
      go_wp2_with fail
      refine C2.out.mono ?_
      rintro e w4 ⟨r4, rfl, h4, hb4⟩
      obtain rfl : r3 = r4 := by
        have := H3.out.trans h4.symm
        exact Bool.eq_iff_iff.2 this
      have HB4 := Lib.hid (HB3.out.trans (hb4.mono HB3.out.size))
      have C3 := Lib.hid (fsame_any A A c c a a w4 (HA.out.row.up HB4.out) (HA.out.row.up HB4.out) HGA.out.1 HGA.out.1 (by have := HGA.out.2; omega) (by have := HGA.out.2; omega))
      clear C2 hb4 h4
      have hrr : (r3 == r3) = true := by simp
      go_wp2_with fail
      refine C3.out.mono ?_
      rintro e w5 ⟨r5, rfl, h5, hb5⟩
      have hr5 : r5 = true := by simpa using h5
      subst hr5
      have HB5 := Lib.hid (HB4.out.trans (hb5.mono HB4.out.size))
      have CS := Lib.hid (same13_any w5)
      clear C3 hb5 h5
      go_wp2_with fail
      refine CS.out.mono ?_
      rintro e w6 ⟨rfl, hb6⟩
      have HB6 := Lib.hid (HB5.out.trans (hb6.mono HB5.out.size))
      clear hb6 CS
      go_wp2_with fail
      go_ret
      exact ⟨ret_bool (by simp), HB6.out⟩
end Go.Proofs.Ytlkdklpglmglkaa
