/-
  What the library's variables hold.
-/
import Derived.Test.YtjnhcoflmechmaaGreatDoorShelf
import Derived.Test.YtjnhcoflmechmaaGreatDoorTMath
import Derived.WalkKit
import Derived.Below
import Derived.WalkSmall
import Derived.Lib.SmallJoins
import Derived.WalkMore
import Derived.WalkSpells
import Derived.Lib.AppendIntMem
namespace Go.Proofs.YtjnhcoflmechmaaGreatDoor
open Go.RowKit
set_option linter.unusedVariables false
theorem gPow : Tryz.prog.globalNamed "internal/strconv.uint64pow10" = some 3 := by kernel_rfl
/-- What the library's variables hold. -/
def Vars (w : World) : Prop :=
  Lib.TabIs Tryz.prog w "internal/strconv.uint64pow10" .u64 Lib.pow10Tab ∧ (∃ t p, w.cell? ⟨1, 0, none⟩ = some (.iface t p)) ∧ (∃ t p, w.cell? ⟨2, 0, none⟩ = some (.iface t p)) ∧ 4 ≤ w.heap.size
theorem Vars.below {w w' : World} (h : Vars w) {B : Nat} (hB : 4 ≤ B) (hb : Below B w w') : Vars w' := by
  obtain ⟨h1, ⟨t, p, h2⟩, ⟨t', p', h3⟩, h4⟩ := h
  refine ⟨var?_below hb gPow (by omega) h1, ⟨t, p, (hb.cell (p := ⟨1, 0, none⟩) (by show 1 < _; omega)).trans h2⟩, ⟨t', p', (hb.cell (p := ⟨2, 0, none⟩) (by show 2 < _; omega)).trans h3⟩, ?_⟩
  have := hb.size; omega
theorem Vars.belowC {w w' : World} (h : Vars w) (hb : Below w.heap.size w w') : Vars w' := h.below h.2.2.2 hb
end Go.Proofs.YtjnhcoflmechmaaGreatDoor
