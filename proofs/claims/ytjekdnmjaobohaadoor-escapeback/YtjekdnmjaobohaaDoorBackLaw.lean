/-
  tendrillaw03.EscapeBack: it answers true.
-/
import Derived.Test.YtjekdnmjaobohaaDoorOnly
import Derived.Test.YtjekdnmjaobohaaDoorRef
import Derived.Test.YtjekdnmjaobohaaDoorSpan
namespace Go.Proofs.YtjekdnmjaobohaaDoor
open Go.RowKit
set_option linter.unusedVariables false

theorem clean_b : ((List.range 256).all fun i => (form (UInt8.ofNat i)).all fun b => !signs.contains b) = true := by decide +kernel
theorem form_clean (c : UInt8) : ∀ b ∈ form c, signs.contains b = false := by
  have := byte_all (p := fun c => (form c).all fun b => !signs.contains b) clean_b c
  intro b hb
  have h := List.all_eq_true.1 this b hb
  revert h
  cases signs.contains b <;> simp
theorem spanN_clean : ∀ l : List UInt8, (∀ b ∈ l, signs.contains b = false) → spanN l = l.length
  | [], _ => rfl
  | b :: l, h => by
    unfold spanN
    rw [if_neg (by rw [h b (by simp)]; simp), spanN_clean l (fun c hc => h c (by simp [hc]))]
    rfl
theorem esc_clean (l : List UInt8) : ∀ b ∈ escL l, signs.contains b = false := by
  intro b hb
  obtain ⟨c, _, hc⟩ := List.mem_flatMap.1 hb
  exact form_clean c b hc
theorem span_esc (l : List UInt8) : spanI (escL l) 0 = ((escL l).length : Int) := by
  unfold spanI
  split
  · rename_i h; omega
  · simp only [Int.toNat_zero, List.drop_zero]
    rw [spanN_clean _ (esc_clean l)]

set_option maxRecDepth 100000 in
set_option maxHeartbeats 2000000 in
theorem back_any (s t : ByteArray) (w : World) (hs : s.size ≤ maxLen) (ht : t.size ≤ maxLen) (hv : Vars w) : Calls Tryd.prog 4 #[.string s, .string t] w fun e w' => e = .returned (.bool true) ∧ Below w.heap.size w w' := by
  have h4 := hv.2.2.2
  unfold maxLen at hs ht
  by_cases h1 : 2000 < s.size
  · have h1' : (2000 : Int) < s.size := by omega
    go_enter Tryd.func4, Tryd.ntmps4
    go_wp2_with fail
    refine (same_law w hv).mono ?_
    rintro e w1 ⟨rfl, hb1⟩
    go_wp2
    go_ret
    exact ⟨rfl, hb1⟩
  by_cases h2 : 2000 < t.size
  · have h1' : ¬ (2000 : Int) < s.size := by omega
    have h2' : (2000 : Int) < t.size := by omega
    go_enter Tryd.func4, Tryd.ntmps4
    go_wp2_with fail
    refine (same_law w hv).mono ?_
    rintro e w1 ⟨rfl, hb1⟩
    go_wp2
    go_ret
    exact ⟨rfl, hb1⟩
  have h1' : ¬ (2000 : Int) < s.size := by omega
  have h2' : ¬ (2000 : Int) < t.size := by omega
  have hsl : s.data.toList.length = s.size := by simp
  have htl : t.data.toList.length = t.size := by simp
  obtain ⟨x, hx⟩ : ∃ x, x = str (escL s.data.toList) := ⟨_, rfl⟩
  have hxl : x.data.toList = escL s.data.toList := by rw [hx, str_data]
  have hxs : x.size = (escL s.data.toList).length := by rw [hx, str_size]
  have hxb := escL_length s.data.toList
  have hyb := escL_length t.data.toList
  rw [hsl, ← hxs] at hxb
  rw [htl] at hyb
  obtain ⟨y, hy⟩ : ∃ y, y = str (escL t.data.toList) := ⟨_, rfl⟩
  have hys : y.size ≤ 12000 := by rw [hy, str_size]; omega
  have hxs' : x.size ≤ 12000 := by omega
  have hst : (s ++ t).size = s.size + t.size := by rw [Lib.size_eq, app_list, List.length_append, hsl, htl]
  have hcat : str (escL (s ++ t).data.toList) = x ++ y := ext_toList (by rw [str_data, app_list, escL_append, app_list, hxl, hy, str_data])
  have hun : unesc x.data.toList = (s.data.toList, 0, 0) := by rw [hxl]; exact unesc_esc _
  have hss : str s.data.toList = s := ext_toList (str_data _)
  have hsp : spanI x.data.toList 0 = (x.size : Int) := by rw [hxl, hxs]; exact span_esc _
  have q1 : ¬ 9223372036854775807 < s.size + t.size := by omega
  have q2 : ¬ 9223372036854775807 < x.size + y.size := by omega
  have HX := Lib.hid hx
  have HY := Lib.hid hy
  have HCAT := Lib.hid hcat
  have HUN := Lib.hid hun
  have HSS := Lib.hid hss
  have HSP := Lib.hid hsp
  have HXS := Lib.hid hxs
  have hst' : (s ++ t).size ≤ 100000 := by omega
  clear hx hxl hxs hxb hyb hy hst hcat hun hss hsp hsl htl
  go_enter Tryd.func4, Tryd.ntmps4
  go_wp2_with fail
  refine (escape_any s w (by omega) hv).mono ?_
  rintro e w1 ⟨rfl, hb1⟩
  rw [← HX.out]
  go_wp2_with fail
  refine (unescape_any x w1 (by omega) (hv.below h4 hb1)).mono ?_
  rintro e w2 ⟨rfl, hb2⟩
  rw [HUN.out]
  simp only []
  rw [HSS.out]
  have hb02 := hb1.trans (hb2.mono hb1.size)
  go_wp2_with fail
  refine (refEscape_any s w2 (by omega)).mono ?_
  rintro e w3 ⟨rfl, hb3⟩
  rw [← HX.out]
  have hb03 := hb02.trans (hb3.mono hb02.size)
  go_wp2_with fail
  refine (length_any s w3 (by omega) (hv.below h4 hb03)).mono ?_
  rintro e w4 ⟨rfl, hb4⟩
  rw [← HXS.out]
  have hb04 := hb03.trans (hb4.mono hb03.size)
  go_wp2_with fail
  refine (escape_any (s ++ t) w4 hst' (hv.below h4 hb04)).mono ?_
  rintro e w5 ⟨rfl, hb5⟩
  rw [HCAT.out]
  have hb05 := hb04.trans (hb5.mono hb04.size)
  go_wp2_with fail
  refine (escape_any t w5 (by omega) (hv.below h4 hb05)).mono ?_
  rintro e w6 ⟨rfl, hb6⟩
  rw [← HY.out]
  have hb06 := hb05.trans (hb6.mono hb05.size)
  go_wp2_with fail
  refine (span_any x 0 w6 (by omega) (by omega) (by omega)).mono ?_
  rintro e w7 ⟨rfl, hb7⟩
  rw [HSP.out]
  have hb07 := hb06.trans (hb7.mono hb06.size)
  go_wp2_with fail
  refine (same_law w7 (hv.below h4 hb07)).mono ?_
  rintro e w8 ⟨rfl, hb8⟩
  go_wp2
  go_ret
  exact ⟨rfl, hb07.trans (hb8.mono hb07.size)⟩
end Go.Proofs.YtjekdnmjaobohaaDoor
