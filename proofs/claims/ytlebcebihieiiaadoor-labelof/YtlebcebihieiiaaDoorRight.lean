/-
  The reference's Depth and Right.
-/
import Derived.Test.YtlebcebihieiiaaDoorWeigh
namespace Go.Proofs.YtlebcebihieiiaaDoor
open Go.RowKit Go.Sort
set_option linter.unusedVariables false
def okT (t : Tr) : Prop := (seenL aloneT t).2 = 0
set_option maxRecDepth 100000 in
set_option maxHeartbeats 2000000 in
theorem right_any (t : Tr) (x : NV) (w : World) (h : TreeAt w w.heap.size t x) (hg : GoodT t) : Calls Tryd.prog 11 #[nodeV t x] w fun e w' => ∃ b, e = .returned (.bool b) ∧ (b = true ↔ okT t) ∧ Below w.heap.size w w' := by
  obtain ⟨w1, hw1⟩ : ∃ w1, w1 = boxW w t x := ⟨_, rfl⟩
  have hb1 : Below w.heap.size w w1 := by rw [hw1]; exact below_box w t x
  obtain ⟨c0, c1, c2, c3, c4⟩ : KidCells w1 w.heap.size 0 t x := by rw [hw1]; exact box_node w t x
  have C := Lib.hid (icheck_any t x w1 (h.up hb1) hg)
  have HW := Lib.hid hw1; have HB1 := Lib.hid hb1
  clear h hw1 hb1 hg
  go_enter Tryd.func11, Tryd.ntmps11
  go_wp2_with fail
  rw [box_out HW]
  refine C.out.mono ?_
  rintro e w2 ⟨a, f, rfl, hf, hb2⟩
  have HB2 := Lib.hid (HB1.out.trans (hb2.mono HB1.out.size))
  have HF := Lib.hid (show f = (seenL aloneT t).2 from (firstF_unique hf (seen_first aloneT t)).2)
  clear hb2 hf c0 c1 c2 c3 c4 C
  by_cases h0 : f = 0
  · have HZ := Lib.hid h0
    subst h0
    go_wp2_with fail
    go_ret
    exact ⟨true, rfl, ⟨fun _ => HF.out.symm, fun _ => rfl⟩, HB2.out⟩
  · have h0' : (f == 0) = false := by simpa using h0
    have HZ := Lib.hid h0
    clear h0
    go_wp2_with fail
    go_ret
    exact ⟨false, rfl, ⟨(fun h => by cases h), fun h => absurd (HF.out.trans h) HZ.out⟩, HB2.out⟩
end Go.Proofs.YtlebcebihieiiaaDoor
