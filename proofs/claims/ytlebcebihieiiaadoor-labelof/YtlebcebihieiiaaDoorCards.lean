/-
  DERIVED. GIVEN WITH THE SEED: THE CARDS: each row of YtlebcebihieiiaaDoorRows.lean that lists a variable, with what it lists TIED to the program's text (the seventh form; the later family's looks); each row that meets fmt, with fmt's text TOLD by the authors' own Lean function (tested against real Go, not proved from fmt's source: count such statements apart). THE CARD IS WHAT COUNTS. Prove the row's statement (the work); the ties are given (YtlebcebihieiiaaDoorTie.lean); close each card by the builder's one call (the guide's Derived/Test/ToyasCard.lean, 'card_holds'). Laid BY PROGRAM, IN A SANDBOX (cutbox-door.mjs). By AI agents, Wed Nov 11 2026. No macro, syntax, notation, axiom, sorry.
-/
import Derived.Test.YtlebcebihieiiaaDoorRows
import GoSem.ClaimSeven
namespace Go.Proofs.YtlebcebihieiiaaDoor
namespace Rows

/-- THE TIED CARD OF 'tendrillaw12.LabelOf'. -/
def labelOfCard : Claim7 := { stood := { row := labelOfRow, standIns := [], harness := (true, "67eed73038cb5c26ab05c77774e4154894731f65a0b8105328d99d1c043408a8"), looks := true }, kinds := [], alts := [], laidByText := true, laidKinds := [.data, .data, .data, .sentinel, .sentinel], laidTests := true, laidLooks := .later }
def LabelOfCardSaid : Prop := Claim7.holds Tryd.pinned (.plain (OpenSpec.ofChange labelOfSpec)) labelOfCard

/-- THE TIED CARD OF 'tendrillaw12.LabelKept'. -/
def labelKeptCard : Claim7 := { stood := { row := labelKeptRow, standIns := [], harness := (true, "67eed73038cb5c26ab05c77774e4154894731f65a0b8105328d99d1c043408a8"), looks := true }, kinds := [], alts := [], laidByText := true, laidKinds := [.data, .data, .data, .sentinel, .sentinel], laidTests := true, laidLooks := .later }
def LabelKeptCardSaid : Prop := Claim7.holds Tryd.pinned (.plain (OpenSpec.ofChange labelKeptSpec)) labelKeptCard

/-- THE TIED CARD OF 'tendrillaw12.LabelTexts'. -/
def labelTextsCard : Claim7 := { stood := { row := labelTextsRow, standIns := [], harness := (true, "67eed73038cb5c26ab05c77774e4154894731f65a0b8105328d99d1c043408a8"), looks := true }, kinds := [], alts := [], laidByText := true, laidKinds := [.data, .data, .data, .sentinel, .sentinel], laidTests := true, laidLooks := .later }
def LabelTextsCardSaid : Prop := Claim7.holds Tryd.pinned (.plain (OpenSpec.ofChange labelTextsSpec)) labelTextsCard

/-- THE SECOND FORM's CARD OF 'tendrillaw12.LabelOf'. -/
def labelOfUptoCard : Claim7 := { stood := { row := labelOfUptoRow, standIns := [], harness := (true, "67eed73038cb5c26ab05c77774e4154894731f65a0b8105328d99d1c043408a8"), looks := true }, kinds := [], alts := [], laidByText := true, laidKinds := [.data, .data, .data, .sentinel, .sentinel], laidTests := true, laidLooks := .later }
def LabelOfUptoCardSaid : Prop := Claim7.holds Tryd.pinned (.plain (OpenSpec.upto labelOfSpec)) labelOfUptoCard

/-- THE SECOND FORM's CARD OF 'tendrillaw12.LabelKept'. -/
def labelKeptUptoCard : Claim7 := { stood := { row := labelKeptUptoRow, standIns := [], harness := (true, "67eed73038cb5c26ab05c77774e4154894731f65a0b8105328d99d1c043408a8"), looks := true }, kinds := [], alts := [], laidByText := true, laidKinds := [.data, .data, .data, .sentinel, .sentinel], laidTests := true, laidLooks := .later }
def LabelKeptUptoCardSaid : Prop := Claim7.holds Tryd.pinned (.plain (OpenSpec.upto labelKeptSpec)) labelKeptUptoCard

/-- THE SECOND FORM's CARD OF 'tendrillaw12.LabelTexts'. -/
def labelTextsUptoCard : Claim7 := { stood := { row := labelTextsUptoRow, standIns := [], harness := (true, "67eed73038cb5c26ab05c77774e4154894731f65a0b8105328d99d1c043408a8"), looks := true }, kinds := [], alts := [], laidByText := true, laidKinds := [.data, .data, .data, .sentinel, .sentinel], laidTests := true, laidLooks := .later }
def LabelTextsUptoCardSaid : Prop := Claim7.holds Tryd.pinned (.plain (OpenSpec.upto labelTextsSpec)) labelTextsUptoCard
end Rows
end Go.Proofs.YtlebcebihieiiaaDoor
