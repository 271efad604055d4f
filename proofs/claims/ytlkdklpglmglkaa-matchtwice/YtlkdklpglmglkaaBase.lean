/-
  An attribute in memory: two cells.
-/
import Derived.WalkKit
import Derived.Lib.Hide
import Derived.Below
import Derived.Test.YtlkdklpglmglkaaChecked
import Derived.Test.YtlkdklpglmglkaaTMath
import Derived.Sort.WalkB2
import Derived.Sort.WalkB12
import Derived.Deep.LoopGhost
import Derived.Sort.Grow
import Derived.Shelf.SlSortCmp.QuietGrown
namespace Go.Proofs.Ytlkdklpglmglkaa
open Go.RowKit Go.Sort
set_option linter.unusedVariables false
set_option maxRecDepth 100000

def encA (x : At) : List Value := [.string x.1, .string x.2]
theorem encA_len (x : At) : (encA x).length = 2 := rfl
theorem encA_one (x : At) : ∀ v ∈ encA x, v.oneCell' = true := by
  intro v hv
  simp [encA] at hv
  rcases hv with rfl | rfl <;> rfl
end Go.Proofs.Ytlkdklpglmglkaa
