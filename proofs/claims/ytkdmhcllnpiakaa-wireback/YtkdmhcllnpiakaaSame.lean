/-
  tendrillaw04.same: it answers true.
-/
import Derived.Test.YtkdmhcllnpiakaaReads
namespace Go.Proofs.Ytkdmhcllnpiakaa
open Go.RowKit
set_option linter.unusedVariables false

abbrev ab : ByteArray := { data := #[97, 98] }
theorem encs300 : encs [300] = [172, 2] := by decide +kernel
theorem txab : tx ab = [2, 97, 98] := by decide +kernel
theorem rn1 : rNumE [172, 2, 2, 97, 98] 0 300 = 0 ∧ rNumV [172, 2, 2, 97, 98] 0 300 = 300 ∧ rNumR [172, 2, 2, 97, 98] 0 300 = [2, 97, 98] := by decide +kernel
theorem rt1 : rTxtE [2, 97, 98] 0 2 = 0 ∧ rTxtV [2, 97, 98] 0 2 = [97, 98] ∧ rTxtR [2, 97, 98] 0 2 = [] := by decide +kernel
theorem so1 : strOfNums [97, 98] = { data := #[97, 98] } := by decide +kernel
theorem so2 : strOfNums [172, 2, 2, 97, 98] = { data := #[172, 2, 2, 97, 98] } := by decide +kernel
theorem bytes5 : Bytes [172, 2, 2, 97, 98] := by
  intro j hj
  match j, hj with
  | 0, _ => decide
  | 1, _ => decide
  | 2, _ => decide
  | 3, _ => decide
  | 4, _ => decide

theorem wr_ge {w : World} {p : Nat} {v : Value} {bs : List Int} (h : Wr w p v bs) : ∀ k, (k = p ∨ v.ownBlock = some k) → p ≤ k := by
  intro k hk
  rcases hk with rfl | hk
  · exact Nat.le_refl _
  · have := (h.2.2.lt k hk).1; omega

set_option maxHeartbeats 1000000 in
theorem same_law (w : World) : Calls Try.prog 6 #[] w fun e w' => e = .returned (.bool true) ∧ Below w.heap.size w w' := by
  go_enter Try.func6, Try.ntmps6
  go_wp2_with fail
  refine (new_any w).mono ?_
  rintro e w1 ⟨rfl, hw1, hb1, -⟩
  go_wp2_with fail
  have hba : Below w1.heap.size w1 (w1.alloc (.cells #[.int .u64 300] 27)) := (Below.refl _ _).alloc (Nat.le_refl _) _
  have c2 := num_any w.heap.size _ _ (some ⟨w1.heap.size, 0, none⟩) 1 [300] _ (hw1.below hba) (by simpa using row_lit (k := .u64) (w := w1) 27 [300]) (words1 (by omega) (by omega)) (by simp) (by simp)
  rw [encs300] at c2
  refine c2.mono ?_
  rintro e w2 ⟨v2, rfl, hw2, hk2, hf2⟩
  clear c2
  go_wp2_with fail
  have hbb : Below w2.heap.size w2 (w2.alloc (.cells #[.string ab] 9)) := (Below.refl _ _).alloc (Nat.le_refl _) _
  have c3 := text_any w.heap.size _ _ w2.heap.size 0 1 ab _ (hw2.below hbb) (by simp) (by simp) (by decide)
  rw [txab] at c3
  refine c3.mono ?_
  rintro e w3 ⟨v3, rfl, hw3, hk3, hf3⟩
  clear c3
  go_wp2_with fail
  have c4 := bytes_any w.heap.size _ _ w3 hw3 (by simp)
  refine c4.mono ?_
  rintro e w4 ⟨v4, rfl, ho4, hb4⟩
  clear c4
  have ho4' : OwnB w4 w3.heap.size v4 [172, 2, 2, 97, 98] := ho4
  obtain ⟨A4, c4, rfl, hn4, hr4⟩ := row_of_own ho4'
  clear ho4 ho4'
  go_wp2_with fail
  have c5 := read_any A4 c4 _ [172, 2, 2, 97, 98] w4 hr4 hn4 bytes5 (by simp)
  refine c5.mono ?_
  rintro e w5 ⟨q, A5, c5', rfl, hq5, -, hrd5, hb5⟩
  clear c5
  go_wp2_with fail
  have c6 := rnum_any w5 q _ _ _ _ 0 300 hrd5 (by omega) (by omega)
  refine c6.mono ?_
  rintro e w6 ⟨A6, c6', rfl, hrd6, hk6⟩
  clear c6
  rw [rn1.1, rn1.2.2] at hrd6
  rw [rn1.1, rn1.2.1]
  go_wp2_with fail
  have c7 := rtxt_any w6 q _ _ _ _ 0 2 hrd6 (by omega) (by omega)
  refine c7.mono ?_
  rintro e w7 ⟨A7, c7', rfl, hrd7, hk7⟩
  clear c7
  rw [rt1.1, rt1.2.2] at hrd7
  rw [rt1.1, rt1.2.1, so1]
  have hk47 : Below w4.heap.size w4 w7 := hb5.trans ((hk6.trans hk7).below (Nat.le_trans hb5.size (Nat.le_refl _)) (fun k hk => by have : k = q := hk; omega))
  have hcv := conv_row (P := Try.prog) 26 5 9 Try.underlying26 Try.underlying5 Try.underlying9 (row_below hr4 hk47) c4
  rw [so2] at hcv
  have hw7 : Wr w7 w.heap.size v3 [172, 2, 2, 97, 98] := (hw3.below hb4).below hk47
  have c8 := end_any w7 q _ _ _ _ 0 hrd7
  have c9 := len_any w.heap.size v3 [172, 2, 2, 97, 98] w7 hw7 (by simp)
  have C8 := Lib.hid c8
  have C9 := Lib.hid c9
  clear c8 c9
  simp only [List.length_cons, List.length_nil, Nat.zero_add, Nat.reduceAdd] at hcv
  go_wp2_with (first
    | (go_at_call 16; refine C8.out.mono ?_; rintro e w' ⟨rfl, rfl⟩)
    | (go_at_call 13; refine C9.out.mono ?_; rintro e w' ⟨rfl, rfl⟩))
  go_ret
  refine ⟨rfl, ?_⟩
  have h12 : Below w.heap.size w (w1.alloc (.cells #[.int .u64 300] 27)) := hb1.alloc hb1.size _
  have h13 : Below w.heap.size w w2 := h12.trans (hk2.below h12.size (wr_ge hw1))
  have h14 : Below w.heap.size w (w2.alloc (.cells #[.string ab] 9)) := h13.alloc h13.size _
  have h15 : Below w.heap.size w w3 := h14.trans (hk3.below h14.size (wr_ge hw2))
  have h16 : Below w.heap.size w w4 := h15.trans (hb4.mono h15.size)
  exact h16.trans (hk47.mono h16.size)
end Go.Proofs.Ytkdmhcllnpiakaa
