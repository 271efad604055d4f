/-
  The reference's Depth and Right.
-/
import Derived.Test.YtlebcebihieiiaaWeigh
namespace Go.Proofs.Ytlebcebihieiiaa
open Go.RowKit Go.Sort
set_option linter.unusedVariables false
set_option maxHeartbeats 2000000 in
theorem right_any (t : Tr) (x : NV) (w : World) (h : TreeAt w w.heap.size t x) (hg : GoodT t) : Calls Try.prog 14 #[nodeV t x] w fun e w' => ∃ b, e = .returned (.bool b) ∧ (b = true ↔ okT t) ∧ Below w.heap.size w w' := by
  obtain ⟨w1, hw1⟩ : ∃ w1, w1 = boxW w t x := ⟨_, rfl⟩
  have hb1 : Below w.heap.size w w1 := by rw [hw1]; exact below_box w t x
  obtain ⟨c0, c1, c2, c3, c4⟩ : KidCells w1 w.heap.size 0 t x := by rw [hw1]; exact box_node w t x
  have C := Lib.hid (icheck_any t x w1 (h.up hb1) hg)
  have HW := Lib.hid hw1; have HB1 := Lib.hid hb1
  clear h hw1 hb1 hg
  go_enter Try.func14, Try.ntmps14
  go_wp2_with fail
  rw [box_out HW]
  refine C.out.mono ?_
  rintro e w2 ⟨a, f, rfl, hf, hb2⟩
  have HB2 := Lib.hid (HB1.out.trans (hb2.mono HB1.out.size))
  have HF := Lib.hid (show f = (seenL aloneT t).2 from (firstF_unique hf (seen_first aloneT t)).2)
  clear hb2 hf c0 c1 c2 c3 c4 C
  by_cases h0 : f = 0
  · have HZ := Lib.hid h0
    subst h0
    go_wp2_with fail
    go_ret
    exact ⟨true, rfl, ⟨fun _ => HF.out.symm, fun _ => rfl⟩, HB2.out⟩
  · have h0' : (f == 0) = false := by simpa using h0
    have HZ := Lib.hid h0
    clear h0
    go_wp2_with fail
    go_ret
    exact ⟨false, rfl, ⟨(fun h => by cases h), fun h => absurd (HF.out.trans h) HZ.out⟩, HB2.out⟩
set_option maxHeartbeats 2000000 in
theorem rdepth_any (t : Tr) (x : NV) (w : World) (h : TreeAt w w.heap.size t x) : Calls Try.prog 13 #[nodeV t x] w fun e w' => e = .returned (.int .i64 (maxD (itemsL t))) ∧ Below w.heap.size w w' := by
  obtain ⟨w1, hw1⟩ : ∃ w1, w1 = boxW w t x := ⟨_, rfl⟩
  have hb1 : Below w.heap.size w w1 := by rw [hw1]; exact below_box w t x
  obtain ⟨c0, c1, c2, c3, c4⟩ : KidCells w1 w.heap.size 0 t x := by rw [hw1]; exact box_node w t x
  have C := Lib.hid (items_any t x w1 (h.up hb1))
  have HW := Lib.hid hw1; have HB1 := Lib.hid hb1
  have HLEN := Lib.hid (items_len t)
  clear h hw1 hb1
  go_enter Try.func13, Try.ntmps13
  go_wp2_with fail
  rw [box_out HW]
  refine C.out.mono ?_
  rintro e w2 ⟨A, cap, ps, rfl, hrow, hm, ha, hb2⟩
  have HROW := Lib.hid hrow; have HM := Lib.hid hm
  have HB2 := Lib.hid (HB1.out.trans (hb2.mono HB1.out.size))
  have hlen : ps.length ≤ 4097 := by have := HLEN.out; rw [← hm] at this; simpa using this
  clear hrow hm ha hb2 c0 c1 c2 c3 c4 C HLEN
  go_wp2_with fail
  go_loopg [3, 10] ps.length (fun g s3 s10 wr => ∃ (i m : Nat), s10 = .int .i64 i ∧ s3 = .int .i64 m ∧ i ≤ ps.length ∧ ps.length - i ≤ g ∧ RowKit.Hid (m = maxD ((itemsL t).take i)) ∧ RowKit.Hid (Below w2.heap.size w2 wr))
  case atStart => exact ⟨0, 0, rfl, rfl, by omega, by omega, Lib.hid (by simp [maxD]), Lib.hid (Below.refl _ _)⟩
  case round =>
    obtain ⟨i, m, rfl, rfl, hi, hg, HMX, HB⟩ := hrel
    by_cases hlt : i < ps.length
    · have h1 : (i : Int) < (ps.length : Int) := by omega
      obtain ⟨gb, p, rfl, hgb, hp, hpc⟩ := irow_at (HROW.out.up HB.out) hlt
      have hmi : i < (itemsL t).length := by rw [← HM.out]; simpa using hlt
      have HMN := Lib.hid (show (max m p.1.d : Nat) = maxD ((itemsL t).take (i + 1)) by
        have hpi : (itemsL t)[i] = p.1 := by simp only [← HM.out]; rw [List.getElem_map, hp]
        have e : (itemsL t).take (i + 1) = (itemsL t).take i ++ [(itemsL t)[i]] := by simp
        rw [e, maxD_snoc, ← HMX.out, hpi])
      obtain ⟨⟨q0, q1, q2, q3, q4⟩, q5, q6⟩ := hpc
      clear hp
      go_wp2_with fail
      go_roundg (ps.length - (i + 1))
      case measure => omega
      case rel => exact ⟨i + 1, max m p.1.d, by go_num, by congr 1; omega, by omega, by omega, HMN, HB⟩
    · have h1 : ¬ (i : Int) < (ps.length : Int) := by omega
      have HML := Lib.hid (show m = maxD (itemsL t) by rw [HMX.out, List.take_of_length_le (by rw [← HM.out]; simp; omega)])
      go_wp2_with fail
      go_ret
      exact ⟨ret_int (by rw [HML.out]), HB2.out.trans (HB.out.mono HB2.out.size)⟩
end Go.Proofs.Ytlebcebihieiiaa
