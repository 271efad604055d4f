/-
  tendrillaw02.CharsWords: it answers true, whatever the text.
-/
import Derived.Test.YtmobnjcjpjeflaaDoorWordsWalk
namespace Go.Proofs.YtmobnjcjpjeflaaDoor
open Go.RowKit
set_option linter.unusedVariables false

theorem joinW_take_succ (ps : List (List UInt8)) (k : Nat) (h : k < ps.length) : joinW (ps.take (k + 1)) = if k = 0 then ps.getD 0 [] else joinW (ps.take k) ++ 32 :: ps.getD k [] := by
  have e : ps.take (k + 1) = ps.take k ++ [ps.getD k []] := by
    rw [List.take_succ_eq_append_getElem h]; simp [List.getD_eq_getElem?_getD, List.getElem?_eq_getElem h]
  rw [e]
  split
  · rename_i hk; subst hk; simp [joinW]
  · rename_i hk
    rw [joinW_snoc]
    intro he
    have := congrArg List.length he
    rw [List.length_take, List.length_nil] at this
    omega
theorem joinW_mono (ps : List (List UInt8)) (k : Nat) (h : k ≤ ps.length) : (joinW (ps.take k)).length ≤ (joinW ps).length := by
  obtain ⟨d, hd⟩ : ∃ d, ps.length = k + d := ⟨ps.length - k, by omega⟩
  induction d generalizing k with
  | zero => rw [List.take_of_length_le (by omega)]; exact Nat.le_refl _
  | succ d ih =>
    have h1 := ih (k + 1) (by omega) (by omega)
    rw [joinW_take_succ ps k (by omega)] at h1
    split at h1
    · rename_i hk; subst hk; simp [joinW]
    · simp at h1; omega
theorem okW_len (l : List UInt8) : (joinW (okW l).1).length ≤ l.length := by
  cases h : (okW l).2 with
  | true => rw [okW_join l h]; exact Nat.le_refl _
  | false =>
    have : (okW l).1 = [] := by
      unfold okW at h ⊢
      split
      · rfl
      · split
        · rfl
        · rename_i h1 h2; simp [h1, h2] at h
    rw [this]; simp [joinW]

theorem split_count (l : List UInt8) : (splitSp l).length ≤ l.length + 1 := by
  induction l with
  | nil => simp [splitSp]
  | cons c l ih =>
    simp only [splitSp]
    split
    · simp; omega
    · simp; omega
theorem okW_count (l : List UInt8) : (okW l).1.length ≤ l.length + 1 := by
  have := split_count l
  unfold okW
  split
  · simp
  · split
    · simp
    · exact this
def JRel (ws : List ByteArray) (t i : Value) : Prop :=
  ∃ (k : Nat) (x : ByteArray), k ≤ ws.length ∧ i = .int .i64 k ∧ t = .string x ∧ x.data.toList = joinW ((ws.map (·.data.toList)).take k)

set_option maxHeartbeats 2000000 in
theorem words_law (s : ByteArray) (w : World) (hs : s.size ≤ maxLen) (hv : Vars w) : Calls Tryd.prog 5 #[.string s] w fun e w' => e = .returned (.bool true) ∧ Below w.heap.size w w' := by
  by_cases hl : 500 < s.size
  · have hl' : (500 : Int) < (s.size : Int) := by omega
    go_enter Tryd.func5, Tryd.ntmps5
    go_wp2_with fail
    refine (same_law w hv).mono ?_
    rintro e w1 ⟨rfl, hb⟩
    go_wp2_with fail
    go_ret
    exact ⟨rfl, hb⟩
  · have hl' : ¬ (500 : Int) < (s.size : Int) := by omega
    have hol := okW_len s.data.toList
    rw [size_list] at hol
    have hoj := okW_join s.data.toList
    go_enter Tryd.func5, Tryd.ntmps5
    go_wp2_with fail
    refine (words_any s w (by omega)).mono ?_
    rintro e w1 ⟨v1, ws, rfl, hws1, hown1, hb1⟩
    go_wp2_with fail
    refine (refWords_any s w1 (by omega)).mono ?_
    rintro e w2 ⟨v2, ws2, rfl, hws2, hown2, hb2⟩
    obtain rfl : ws = ws2 := map_inj (hws1.trans hws2.symm)
    have hwl : ws.length ≤ 1000000 := by
      have h1 := okW_count s.data.toList
      rw [← hws1, List.length_map, size_list] at h1
      omega
    rw [← hws1] at hol hoj
    generalize (okW s.data.toList).2 = ok at *
    obtain ⟨A1, cap1, hv1, hr1, -⟩ := rowS_own hown1
    obtain ⟨A2, cap2, hv2, hr2, -⟩ := rowS_own hown2
    rw [hv1, hv2]
    clear hv1 hv2 hown1 hown2 hws1 hws2
    have hb02 := hb1.trans (hb2.mono hb1.size)
    have HOJ := Lib.hid hoj; clear hoj
    have hbb : (ok != ok) = false := by simp
    go_wp2_with fail
    refine (texts_any A1 A2 cap1 cap2 ws w2.heap.size w2 (rowS_more (rowS_below hr1 hb2) hb2.size) hr2 hwl).mono ?_
    rintro e w3 ⟨rfl, m, hw3⟩
    have hb03 : Below w.heap.size w w3 := by rw [hw3]; exact below_drewN hb02 m
    have hr3 : RowS w3 w1.heap.size A1 ws := by rw [hw3]; exact rowS_below hr1 (below_drewN hb2 m)
    clear hw3 hr1 hr2
    go_wp2_with fail
    go_loop [7, 34] (JRel ws) (fun _ i => ws.length - (intOf i).toNat)
    case atStart => exact ⟨0, ⟨#[]⟩, by omega, rfl, rfl, by simp [joinW]⟩
    case round =>
      obtain ⟨k, x, hk, rfl, rfl, hx⟩ := hrel
      by_cases hlt : k < ws.length
      · obtain ⟨b, off, y, rfl, hbB, hy, hcy⟩ := rowS_at hr3 hlt
        have hyl : y.data.toList = (ws.map (·.data.toList)).getD k [] := by
          rw [hy]; simp [List.getD_eq_getElem?_getD, List.getElem?_eq_getElem hlt]
        have hts := joinW_take_succ (ws.map (·.data.toList)) k (by simpa using hlt)
        have hmo := joinW_mono (ws.map (·.data.toList)) (k + 1) (by simp; omega)
        have HY := Lib.hid hyl
        have HT := Lib.hid hts
        have HX := Lib.hid hx
        clear hy
        by_cases hk0 : k = 0
        · subst hk0
          have hys : y.size ≤ 500 := by
            rw [hts, if_pos rfl, ← hyl, size_list] at hmo
            omega
          have hxs : x.size = 0 := by rw [← size_list, hx]; simp [joinW]
          have hxs' : x.size ≤ 0 := by omega
          clear hxs hts hyl hx hmo
          rw [Nat.add_zero] at hcy
          go_wp2_with fail
          refine ⟨⟨1, x ++ y, by omega, by go_num, rfl, ?_⟩, by simp [intOf]; omega⟩
          rw [HT.out, if_pos rfl, app_list, HX.out, HY.out]
          simp [joinW]
        · have hsum : x.size + 1 + y.size ≤ 500 := by
            rw [hts, if_neg hk0, ← hyl, ← hx, List.length_append, List.length_cons, size_list, size_list] at hmo
            omega
          have hk0' : (0 : Int) < (k : Int) := by omega
          clear hts hyl hx hmo
          go_wp2_with fail
          refine ⟨⟨k + 1, x ++ ⟨#[32]⟩ ++ y, by omega, by go_num, rfl, ?_⟩, by simp [intOf]; omega⟩
          rw [HT.out, if_neg hk0, app_list, app_list, HX.out, HY.out]
          simp
      · have hx' : x.data.toList = joinW (ws.map (·.data.toList)) := by rw [hx, List.take_of_length_le (by simp; omega)]
        cases hok : ok
        · go_wp2_with fail
          refine (same_law w3 (hv.below hb03)).mono ?_
          rintro e w4 ⟨rfl, hb4⟩
          go_wp2_with fail
          go_ret
          exact ⟨rfl, hb03.trans (hb4.mono hb03.size)⟩
        · have hxs : x = s := ext_toList (hx'.trans (HOJ.out hok))
          subst hxs
          go_wp2_with fail
          refine (same_law w3 (hv.below hb03)).mono ?_
          rintro e w4 ⟨rfl, hb4⟩
          go_wp2_with fail
          go_ret
          exact ⟨rfl, hb03.trans (hb4.mono hb03.size)⟩
end Go.Proofs.YtmobnjcjpjeflaaDoor
