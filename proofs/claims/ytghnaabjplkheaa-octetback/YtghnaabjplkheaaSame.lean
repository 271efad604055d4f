/-
  tendrillaw01.same: it answers true.
-/
import Derived.Test.YtghnaabjplkheaaPut
namespace Go.Proofs.Ytghnaabjplkheaa
open Go.RowKit
set_option linter.unusedVariables false

theorem encs300 : encs [300] = [172, 2] := by decide
theorem tk300 : tkNum [172, 2, 9] = 300 ∧ tkLen [172, 2, 9] = 2 ∧ tkErr [172, 2, 9] = 0 := by decide
theorem sizes300 : sizes [300, 1] = 3 := by decide +kernel

theorem row_lit {k : IntKind} {w : World} (e : TypeId) (zs : List Int) : Row k (w.alloc (.cells (zs.map (Value.int k)).toArray e)) (w.heap.size + 1) (some ⟨w.heap.size, 0, none⟩) zs := by
  intro _
  refine ⟨w.heap.size, 0, rfl, by omega, fun j hj => ?_⟩
  have : (w.alloc (.cells (zs.map (Value.int k)).toArray e)).cell? ⟨w.heap.size, 0 + j, none⟩ = (zs.map (Value.int k)).toArray[0 + j]? := cell_of_row _ _ _ _ _ (0, 0) (heap_alloc_new w _)
  rw [this]
  simp [List.getD_eq_getElem?_getD, List.getElem?_eq_getElem hj]

set_option maxHeartbeats 1000000 in
theorem same_law (w : World) : Calls Try.prog 6 #[] w fun e w' => e = .returned (.bool true) ∧ Below w.heap.size w w' := by
  go_enter Try.func6, Try.ntmps6
  go_wp2_with fail
  have c1 := put_any (some ⟨w.heap.size, 0, none⟩) 1 [300] (w.heap.size + 1) (w.alloc (.cells #[.int .u64 300] 24)) (by simp) (row_lit 24 [300]) (by intro j hj; match j, hj with | 0, _ => decide) (by simp)
  rw [encs300] at c1
  refine c1.mono ?_
  rintro e w1 ⟨v1, rfl, hown1, hbel1⟩
  have hshape : ∃ g cap, v1 = .slice (some ⟨g, 0, none⟩) 2 cap ∧ g < w1.heap.size ∧ w1.cell? ⟨g, 0, none⟩ = some (.int .u8 172) ∧ w1.cell? ⟨g, 1, none⟩ = some (.int .u8 2) := by
    obtain ⟨A, cap, hv, hr, _, _⟩ := row_own hown1
    obtain ⟨g, off, rfl, hg, hcell⟩ := hr (by simp)
    rcases hown1.2 with ⟨rfl, h⟩ | ⟨g', cap', cur, rfl, _⟩
    · simp at h
    · simp at hv
      obtain ⟨⟨rfl, rfl⟩, rfl⟩ := hv
      have h0 := hcell 0 (by simp)
      have h1 := hcell 1 (by simp)
      exact ⟨g', cap', rfl, hg, by simpa using h0, by simpa using h1⟩
  obtain ⟨g, cap, hv, hg, hc0, hc1⟩ := hshape
  rw [hv]
  have hc0' : ∀ o, (w1.alloc o).cell? ⟨g, 0, none⟩ = some (.int .u8 172) := fun o => (World.cell?_alloc_lt w1 o ⟨g, 0, none⟩ hg).trans hc0
  have hc1' : ∀ o, (w1.alloc o).cell? ⟨g, 1, none⟩ = some (.int .u8 2) := fun o => (World.cell?_alloc_lt w1 o ⟨g, 1, none⟩ hg).trans hc1
  clear hv hown1 hc0 hc1
  go_wp2_with fail
  have c2 := take_any (some ⟨w1.heap.size, 0, none⟩) 3 [172, 2, 9] (w1.heap.size + 1) (w1.alloc (.cells #[.int .u8 172, .int .u8 2, .int .u8 9] 5)) (row_lit 5 [172, 2, 9]) (by intro j hj; match j, hj with | 0, _ => decide | 1, _ => decide | 2, _ => decide) (by simp)
  rw [tk300.1, tk300.2.1, tk300.2.2] at c2
  refine c2.mono ?_
  rintro e w2 ⟨rfl, rfl⟩
  clear c1 c2
  go_wp2_with fail
  have hr2 : Row .u64 ((w1.alloc (.cells #[.int .u8 172, .int .u8 2, .int .u8 9] 5)).alloc (.cells #[.int .u64 300, .int .u64 1] 24)) (w1.heap.size + 2) (some ⟨w1.heap.size + 1, 0, none⟩) [300, 1] := by
    have := row_lit (k := .u64) (w := w1.alloc (.cells #[.int .u8 172, .int .u8 2, .int .u8 9] 5)) 24 [300, 1]
    simpa using this
  have c3 := size_any (some ⟨w1.heap.size + 1, 0, none⟩) 2 [300, 1] (w1.heap.size + 2) _ hr2 (by intro j hj; match j, hj with | 0, _ => decide | 1, _ => decide) (by simp)
  rw [sizes300] at c3
  refine c3.mono ?_
  rintro e w3 ⟨rfl, rfl⟩
  clear c3 hr2
  go_wp2_with fail
  go_ret
  refine ⟨rfl, ?_⟩
  have hb1 : Below w.heap.size w w1 := ((Below.refl _ w).alloc (Nat.le_refl _) _).trans (hbel1.mono (by simp))
  exact (hb1.alloc hb1.size _).alloc (by have := hb1.size; simp; omega) _
end Go.Proofs.Ytghnaabjplkheaa
