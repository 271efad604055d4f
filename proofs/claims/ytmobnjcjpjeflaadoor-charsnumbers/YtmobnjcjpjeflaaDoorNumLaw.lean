/-
  tendrillaw02.CharsNumbers: it answers true, whatever the number and the text.
-/
import Derived.Test.YtmobnjcjpjeflaaDoorWholeWalk
namespace Go.Proofs.YtmobnjcjpjeflaaDoor
open Go.RowKit
set_option linter.unusedVariables false

set_option maxHeartbeats 2000000 in
theorem numbers_law' (n : Int) (s : ByteArray) (w : World) (hn : I64 n) (hs : s.size ≤ maxLen) (hv : Vars w) : Calls Tryd.prog 6 #[.int .i64 n, .string s] w fun e w' => e = .returned (.bool true) ∧ Below w.heap.size w w' := by
  by_cases hl : 500 < s.size
  · have hl' : (500 : Int) < (s.size : Int) := by omega
    go_enter Tryd.func6, Tryd.ntmps6
    go_wp2_with fail
    refine (same_law w hv).mono ?_
    rintro e w1 ⟨rfl, hb⟩
    go_wp2_with fail
    go_ret
    exact ⟨rfl, hb⟩
  · have hl' : ¬ (500 : Int) < (s.size : Int) := by omega
    have hnum : IsNum (Lib.itoa n) n := ⟨hn, rfl⟩
    have hlen := (isNum_facts hnum).2.2.2.2.2.1
    have hwn := whN_num hnum
    have hsz : (str (Lib.itoa n)).size ≤ 100000 := by
      rw [← size_list, str_data]; omega
    have HWN := Lib.hid hwn; clear hwn hnum
    obtain ⟨x, hx⟩ : ∃ x, x = str (Lib.itoa n) := ⟨_, rfl⟩
    have hxl : x.data.toList = Lib.itoa n := by rw [hx]; rfl
    have HXL := Lib.hid hxl
    rw [← hx] at hsz
    have HX := Lib.hid hx; clear hx hxl
    have hbx : (whN s.data.toList).2 = (whN s.data.toList).2 := rfl
    generalize hq : whN s.data.toList = q at *
    have HQ := Lib.hid hq; clear hq hbx
    obtain ⟨m, b⟩ := q
    go_enter Tryd.func6, Tryd.ntmps6
    go_wp2_with fail
    refine (whole_any s w (by omega) hv).mono ?_
    rintro e w1 ⟨rfl, hb1⟩
    rw [HQ.out]
    go_wp2_with fail
    refine (refWhole_any s w1 (by omega)).mono ?_
    rintro e w2 ⟨rfl, hb2⟩
    rw [HQ.out]
    have hb02 := hb1.trans (hb2.mono hb1.size)
    go_wp2_with fail
    refine (decimal_any n w2 hn (hv.below hb02)).mono ?_
    rintro e w3 ⟨rfl, hb3⟩
    have hb03 := hb02.trans (hb3.mono hb02.size)
    rw [← HX.out]
    go_wp2_with fail
    refine (whole_any x w3 hsz (hv.below hb03)).mono ?_
    rintro e w4 ⟨rfl, hb4⟩
    have hb04 := hb03.trans (hb4.mono hb03.size)
    rw [HXL.out, HWN.out]
    go_wp2_with fail
    refine (decimal_any n w4 hn (hv.below hb04)).mono ?_
    rintro e w5 ⟨rfl, hb5⟩
    have hb05 := hb04.trans (hb5.mono hb04.size)
    rw [← HX.out]
    go_wp2_with fail
    refine (refDecimal_any n w5 hn).mono ?_
    rintro e w6 ⟨rfl, hb6⟩
    have hb06 := hb05.trans (hb6.mono hb05.size)
    rw [← HX.out]
    have hbb : (b == b) = true := by simp
    go_wp2_with fail
    refine (same_law w6 (hv.below hb06)).mono ?_
    rintro e w7 ⟨rfl, hb7⟩
    go_wp2_with fail
    go_ret
    exact ⟨rfl, hb06.trans (hb7.mono hb06.size)⟩
theorem i64_of {n : Int} (h : (Lit.int .i64 n).wf = true) : I64 n := by
  simp [Lit.wf, IntKind.min, IntKind.max, IntKind.signed, IntKind.bits] at h
  exact ⟨by omega, by omega⟩
theorem numbers_law (n : Int) (s : ByteArray) (w : World) (hn : (Lit.int .i64 n).wf = true) (hs : s.size ≤ maxLen) (hv : Vars w) : Calls Tryd.prog 6 #[.int .i64 n, .string s] w fun e w' => e = .returned (.bool true) ∧ Below w.heap.size w w' :=
  numbers_law' n s w (i64_of hn) hs hv
end Go.Proofs.YtmobnjcjpjeflaaDoor
