/-
  What the listed variables of the library hold, as the walks ask for it; a start that meets it.
-/
import Derived.Test.YtjnhcoflmechmaaGreatDoorRows
import Derived.Test.YtjnhcoflmechmaaGreatDoorVars
import Derived.ProofKit
import Derived.LaidMore
import Derived.OpenShut
import Derived.ShutString
import Derived.ChangeOld
import Derived.Stop.Joined
import Derived.Stop.LaidErr
import Derived.Lib.LaidTab
namespace Go.Proofs.YtjnhcoflmechmaaGreatDoor
open Go.ChangeShapes Go.WideShapes Go.ChangeAt Go.RowKit
set_option linter.unusedVariables false
set_option maxRecDepth 100000

theorem own : ownKnob Tryz.prog.godebug = none := by kernel_rfl
theorem laidOut : laidOutB Tryz.prog = true := by kernel_rfl
theorem gSyntax : Tryz.prog.globalNamed "strconv.ErrSyntax" = some 1 := by kernel_rfl
theorem gRange : Tryz.prog.globalNamed "strconv.ErrRange" = some 2 := by kernel_rfl
theorem tSyntax : (Tryz.prog.globals[1]?).map (·.type) = some 117 := by kernel_rfl
theorem tRange : (Tryz.prog.globals[2]?).map (·.type) = some 117 := by kernel_rfl
theorem tPow : (Tryz.prog.globals[3]?).map (·.type) = some 216 := by kernel_rfl
theorem c216 : Tryz.prog.cellsOf 216 = 20 := by kernel_rfl
theorem c138 : Tryz.prog.cellsOf 138 = 1 := by kernel_rfl

abbrev laid5 : List (String × DataW Unit) := Rows.datumReadsRow.laid

theorem door_met (os : Os) (args : Array Value) : laidMetH Tryz.prog laid5 ((World.doorLaid Tryz.prog 400 os).forCall (fun _ _ => 0) ⟨#[], args, []⟩).memory :=
  laidMetH_of_parts3 (fuel := 8) (laidMet_of_run' 8 (by kernel_rfl) (by kernel_rfl)) (by kernel_rfl) (by kernel_rfl)

theorem sentinel_var {P : Program} {n nm : String} {d : DataW Unit} {r : List (String × DataW Unit)} {W : World} {g : Nat} {ti : TypeId} {ms : Array (String × TypeId)}
    (h : laidMet P ((n, .iface nm d) :: r) W) (hg : P.globalNamed n = some g) (ht : (P.globals[g]?).map (·.type) = some ti) (hi : P.underlying ti = some (.interface ms)) :
    ∃ u v, W.cell? ⟨g, 0, none⟩ = some (.iface u v) := by
  obtain ⟨ps, ⟨g0, t0, cs0, f0, p0, q0, hg0, ht0, hv0, hd0, _, e0⟩, _, hrows⟩ := h
  obtain rfl := Option.some.inj (hg.symm.trans hg0)
  obtain rfl := Option.some.inj (ht.symm.trans ht0)
  obtain ⟨f1, u, v, hcs, -, -⟩ := iface_of_trod hi hd0
  have := World.var?_cell hg hv0 0
  have hc : cs0[0]? = some (.iface u v) := by
    have := congrArg (·[0]?) hcs
    simpa using this
  rw [hc] at this
  exact ⟨u, v, this⟩

theorem vars_of_laid {W : World} (h : laidMetH Tryz.prog laid5 W) : Vars W := by
  rw [MakeChecks.laidMetH_plain _ _ _ (by kernel_rfl)] at h
  have h2 : laidMet Tryz.prog (("internal/strconv.uint64pow10", Lib.tabData .u64 Lib.pow10Tab) :: [("strconv.ErrRange", Rows.laid_strconv_ErrRange), ("strconv.ErrSyntax", Rows.laid_strconv_ErrSyntax)]) W := laidMet.tail (laidMet.tail h)
  have hT := Lib.tabIs_of_head gPow tPow Tryz.underlying216 Tryz.underlying138 c138 c216 h2
  have h3 := laidMet.tail h2
  have h4 := laidMet.tail h3
  obtain ⟨u, v, hR⟩ := sentinel_var h3 gRange tRange Tryz.underlying117
  obtain ⟨u', v', hS⟩ := sentinel_var h4 gSyntax tSyntax Tryz.underlying117
  have hc := hT.cell gPow 0 (by decide)
  have := World.block_lt_of_cell? W _ hc
  exact ⟨hT, ⟨_, _, hS⟩, ⟨_, _, hR⟩, Nat.succ_le_of_lt (show 3 < W.heap.size from this)⟩
end Go.Proofs.YtjnhcoflmechmaaGreatDoor
