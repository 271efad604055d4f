/-
  tendrillaw11.VtreeParts: true, whatever the tree.
-/
import Derived.Test.YtlebcebihieiiaaDoorVMath2
namespace Go.Proofs.YtlebcebihieiiaaDoor
open Go.RowKit Go.Sort
set_option linter.unusedVariables false
theorem ok_char (t : Tr) : (okT t ↔ GoodV t ∧ depT t ≤ 64 ∧ sizeT t ≤ 4096) ∧ (okT t → (seenL aloneT t).1.length = sizeT t ∧ maxD (seenL aloneT t).1 = depT t) := by
  obtain ⟨h1, h2⟩ := vis_char t 1 (-1) [] (fun x hx => by simp at hx) (by simp) (by simp) (by omega)
  refine ⟨?_, fun h => ?_⟩
  · refine Iff.trans h1 ⟨fun ⟨a, b, c, _⟩ => ⟨a, by omega, by simpa using c⟩, fun ⟨a, b, c⟩ => ⟨a, by omega, by simpa using c, fun h => by simp at h⟩⟩
  · obtain ⟨a, b⟩ := h2 h
    refine ⟨by simpa [seenL] using a, ?_⟩
    have b' : maxD (seenL aloneT t).1 = max (maxD []) (1 + depT t - 1) := b
    rw [b']; simp [maxD]
end Go.Proofs.YtlebcebihieiiaaDoor
