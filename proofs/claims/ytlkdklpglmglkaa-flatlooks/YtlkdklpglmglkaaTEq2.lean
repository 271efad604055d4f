/-
  Trees held against each other: equal, isValid, vtree.Same, tendrilplain.Nodes.
-/
import Derived.Test.YtlkdklpglmglkaaTEq
import Derived.Deep.RegionHeld3
namespace Go.Proofs.Ytlkdklpglmglkaa
open Go.RowKit Go.Sort Go.Lib
set_option linter.unusedVariables false
set_option maxRecDepth 100000
theorem two_cells (w : World) (a b : Tr) (x y : NV) : KidCells (boxW (boxW w a x) b y) w.heap.size 0 a x ∧ KidCells (boxW (boxW w a x) b y) (w.heap.size + 1) 0 b y := by
  refine ⟨(box_node w a x).kept (kept_alloc _ _ (fun _ => False)) (fun h => h), ?_⟩
  have := box_node (boxW w a x) b y
  simpa [boxW] using this
set_option maxHeartbeats 2000000 in
theorem isValid_any (t : Tr) (x : NV) (w : World) (h : TreeAt w w.heap.size t x) (hg : GoodT t) : Calls Try.prog 64 #[nodeV t x] w fun e w' => ∃ b, e = .returned (.bool b) ∧ (b = true ↔ okT t) ∧ Below w.heap.size w w' := by
  obtain ⟨w1, hw1⟩ : ∃ w1, w1 = boxW w t x := ⟨_, rfl⟩
  have hb1 : Below w.heap.size w w1 := by rw [hw1]; exact below_box w t x
  obtain ⟨c0, c1, c2, c3, c4⟩ : KidCells w1 w.heap.size 0 t x := by rw [hw1]; exact box_node w t x
  have C := Lib.hid (vcheck_any t x w1 (h.up hb1) hg)
  have HW := Lib.hid hw1; have HB1 := Lib.hid hb1
  obtain ⟨r, hr⟩ : ∃ r, r = seenL aloneT t := ⟨_, rfl⟩
  rw [← hr] at C
  have HR := Lib.hid (show r.2 = 0 ↔ okT t by rw [hr]; exact Iff.rfl)
  clear h hw1 hb1 hg hr
  obtain ⟨l, f⟩ := r
  obtain ⟨a, ha⟩ : ∃ a : Int, a = if (l, f).2 = 0 then (0 : Int) else ((l, f).1.length : Int) := ⟨_, rfl⟩
  rw [← ha] at C
  clear ha
  go_enter Try.func64, Try.ntmps64
  go_wp2_with fail
  rw [box_out HW]
  refine C.out.mono ?_
  rintro e w2 ⟨rfl, hb2⟩
  have HB2 := Lib.hid (HB1.out.trans (hb2.mono HB1.out.size))
  clear hb2 c0 c1 c2 c3 c4 C
  by_cases h0 : f = 0
  · have HZ := Lib.hid h0
    subst h0
    go_wp2_with fail
    go_ret
    exact ⟨true, rfl, ⟨fun _ => HR.out.1 (by first | exact rfl | exact trivial), fun _ => rfl⟩, HB2.out⟩
  · have h0' : (f == 0) = false := by simpa using h0
    have HZ := Lib.hid (show ¬ okT t from fun h => h0 (HR.out.2 h))
    clear h0
    go_wp2_with fail
    go_ret
    exact ⟨false, rfl, ⟨(fun h => by cases h), fun h => absurd h HZ.out⟩, HB2.out⟩
end Go.Proofs.Ytlkdklpglmglkaa
