/-
  tendrillaw03.same and tendrillaw03.EscapeOnly: they answer true.
-/
import Derived.Test.YtjekdnmjaobohaaDoorUnescape
namespace Go.Proofs.YtjekdnmjaobohaaDoor
open Go.RowKit
set_option linter.unusedVariables false

theorem esc1 : escL [97, 60, 98, 10] = [97, 38, 108, 116, 59, 98, 38, 35, 49, 48, 59] := by decide +kernel
theorem un1 : unesc [97, 38, 108, 116, 59, 98, 38, 35, 49, 48, 59] = ([97, 60, 98, 10], 0, 0) := by rw [← esc1]; exact unesc_esc _
theorem un2 : unesc [120, 38, 108, 116] = ([], 1, 2) := by decide +kernel

set_option maxHeartbeats 1000000 in
theorem same_law (w : World) (hv : Vars w) : Calls Tryd.prog 6 #[] w fun e w' => e = .returned (.bool true) ∧ Below w.heap.size w w' := by
  have h4 := hv.2.2.2
  go_enter Tryd.func6, Tryd.ntmps6
  go_wp2_with fail
  refine (unescape_any { data := #[97, 38, 108, 116, 59, 98, 38, 35, 49, 48, 59] } w (by decide) hv).mono ?_
  rintro e w1 ⟨rfl, hb1⟩
  rw [show unesc ({ data := #[97, 38, 108, 116, 59, 98, 38, 35, 49, 48, 59] } : ByteArray).data.toList = ([97, 60, 98, 10], 0, 0) from un1]
  go_wp2_with fail
  refine (unescape_any { data := #[120, 38, 108, 116] } w1 (by decide) (hv.below h4 hb1)).mono ?_
  rintro e w2 ⟨rfl, hb2⟩
  rw [show unesc ({ data := #[120, 38, 108, 116] } : ByteArray).data.toList = ([], 1, 2) from un2]
  have hb02 := hb1.trans (hb2.mono hb1.size)
  go_wp2_with fail
  refine (escape_any { data := #[97, 60, 98, 10] } w2 (by decide) (hv.below h4 hb02)).mono ?_
  rintro e w3 ⟨rfl, hb3⟩
  rw [show escL ({ data := #[97, 60, 98, 10] } : ByteArray).data.toList = [97, 38, 108, 116, 59, 98, 38, 35, 49, 48, 59] from esc1]
  have hb03 := hb02.trans (hb3.mono hb02.size)
  have q1 : ((str [97, 38, 108, 116, 59, 98, 38, 35, 49, 48, 59]).toList == [97, 38, 108, 116, 59, 98, 38, 35, 49, 48, 59]) = true := by rw [Lib.toList_data, str_data]; rfl
  have q2 : ((str [97, 60, 98, 10]).toList == [97, 60, 98, 10]) = true := by rw [Lib.toList_data, str_data]; rfl
  go_wp2_with fail
  go_ret
  exact ⟨rfl, hb03⟩

set_option maxHeartbeats 1000000 in
theorem only_any (s : ByteArray) (w : World) (hs : s.size ≤ maxLen) (hv : Vars w) : Calls Tryd.prog 5 #[.string s] w fun e w' => e = .returned (.bool true) ∧ Below w.heap.size w w' := by
  have h4 := hv.2.2.2
  unfold maxLen at hs
  by_cases h1 : 2000 < s.size
  · have h1' : (2000 : Int) < s.size := by omega
    go_enter Tryd.func5, Tryd.ntmps5
    go_wp2_with fail
    refine (same_law w hv).mono ?_
    rintro e w1 ⟨rfl, hb1⟩
    go_wp2
    go_ret
    exact ⟨rfl, hb1⟩
  · have h1' : ¬ (2000 : Int) < s.size := by omega
    have cu := unescape_any s w (by omega) hv
    rcases unesc_only s.data.toList with ⟨e1, e2, e3⟩ | ⟨e1, e2, e3⟩
    · obtain ⟨t, ht⟩ : ∃ t, t = (unesc s.data.toList).1 := ⟨_, rfl⟩
      have CU : Calls Tryd.prog 7 #[.string s] w fun e w' => e = .returned (.tuple #[.string (str t), .int .i64 0, .int .i64 0]) ∧ Below w.heap.size w w' := by
        refine cu.mono ?_
        rintro e w' ⟨rfl, hb⟩
        rw [e1, e2, ← ht]
        exact ⟨rfl, hb⟩
      rw [← ht] at e3
      have hlt : t.length ≤ s.size := by
        have hsl : s.data.toList.length = s.size := by simp
        rw [← e3] at hsl
        have : t.length ≤ (escL t).length := by
          clear hsl ht e3 CU
          induction t with
          | nil => simp
          | cons c r ih => have := form_pos c; simp [escL] at ih ⊢; omega
        omega
      have hst : str (escL t) = s := ext_toList (by rw [str_data, e3])
      have HST := Lib.hid hst
      have C1 := Lib.hid CU
      clear cu e1 e2 e3 ht CU hst
      have HTS := Lib.hid (str_size t)
      have hts : (str t).size ≤ 100000 := by rw [HTS.out]; omega
      go_enter Tryd.func5, Tryd.ntmps5
      go_wp2_with fail
      refine C1.out.mono ?_
      rintro e w1 ⟨rfl, hb1⟩
      go_wp2_with fail
      refine (escape_any (str t) w1 hts (hv.below h4 hb1)).mono ?_
      rintro e w2 ⟨rfl, hb2⟩
      rw [str_data, HST.out]
      have hb02 := hb1.trans (hb2.mono hb1.size)
      go_wp2_with fail
      refine (same_law w2 (hv.below h4 hb02)).mono ?_
      rintro e w3 ⟨rfl, hb3⟩
      go_wp2
      go_ret
      exact ⟨rfl, hb02.trans (hb3.mono hb02.size)⟩
    · obtain ⟨p, hp⟩ : ∃ p, p = (unesc s.data.toList).2.1 := ⟨_, rfl⟩
      have CU : Calls Tryd.prog 7 #[.string s] w fun e w' => e = .returned (.tuple #[.string { data := #[] }, .int .i64 p, .int .i64 2]) ∧ Below w.heap.size w w' := by
        refine cu.mono ?_
        rintro e w' ⟨rfl, hb⟩
        rw [e1, e2, ← hp]
        exact ⟨rfl, hb⟩
      rw [← hp] at e3
      have hps : p < s.size := by simpa using e3
      have C1 := Lib.hid CU
      clear cu e1 e2 e3 hp CU
      go_enter Tryd.func5, Tryd.ntmps5
      go_wp2_with fail
      refine C1.out.mono ?_
      rintro e w1 ⟨rfl, hb1⟩
      go_wp2_with fail
      refine (same_law w1 (hv.below h4 hb1)).mono ?_
      rintro e w3 ⟨rfl, hb3⟩
      go_wp2
      go_ret
      exact ⟨rfl, hb1.trans (hb3.mono hb1.size)⟩
end Go.Proofs.YtjekdnmjaobohaaDoor
