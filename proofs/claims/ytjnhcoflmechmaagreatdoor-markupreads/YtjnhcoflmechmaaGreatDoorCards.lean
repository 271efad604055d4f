/-
  DERIVED. GIVEN WITH THE SEED: THE CARDS: each row of YtjnhcoflmechmaaGreatDoorRows.lean that lists a variable, with what it lists TIED to the program's text (the seventh form; the later family's looks); each row that meets fmt, with fmt's text TOLD by the authors' own Lean function (tested against real Go, not proved from fmt's source: count such statements apart). THE CARD IS WHAT COUNTS. Prove the row's statement (the work); the ties are given (YtjnhcoflmechmaaGreatDoorTie.lean); close each card by the builder's one call (the guide's Derived/Test/ToyasCard.lean, 'card_holds'). Laid BY PROGRAM, IN A SANDBOX (cutbox-door.mjs). By AI agents, Wed Nov 11 2026. No macro, syntax, notation, axiom, sorry.
-/
import Derived.Test.YtjnhcoflmechmaaGreatDoorRows
import GoSem.ClaimSeven
namespace Go.Proofs.YtjnhcoflmechmaaGreatDoor
namespace Rows

/-- THE TIED CARD OF 'tendrillaw15.MarkupBack'. -/
def markupBackCard : Claim7 := { stood := { row := markupBackRow, standIns := [], harness := (true, "7073eec0918b477e7d016ce7534ed2127f2ad5f8c4b24de5ee317a0367086ad1"), looks := true }, kinds := [], alts := [], laidByText := true, laidKinds := [.data, .data, .data, .sentinel, .sentinel], laidTests := true, laidLooks := .later }
def MarkupBackCardSaid : Prop := Claim7.holds Tryz.pinned (.plain (OpenSpec.ofChange markupBackSpec)) markupBackCard

/-- THE TIED CARD OF 'tendrillaw15.MarkupReads'. -/
def markupReadsCard : Claim7 := { stood := { row := markupReadsRow, standIns := [], harness := (true, "7073eec0918b477e7d016ce7534ed2127f2ad5f8c4b24de5ee317a0367086ad1"), looks := true }, kinds := [], alts := [], laidByText := true, laidKinds := [.data, .data, .data, .sentinel, .sentinel], laidTests := true, laidLooks := .later }
def MarkupReadsCardSaid : Prop := Claim7.holds Tryz.pinned (.plain (OpenSpec.ofChange markupReadsSpec)) markupReadsCard

/-- THE TIED CARD OF 'tendrillaw15.MarkupOnly'. -/
def markupOnlyCard : Claim7 := { stood := { row := markupOnlyRow, standIns := [], harness := (true, "7073eec0918b477e7d016ce7534ed2127f2ad5f8c4b24de5ee317a0367086ad1"), looks := true }, kinds := [], alts := [], laidByText := true, laidKinds := [.data, .data, .data, .sentinel, .sentinel], laidTests := true, laidLooks := .later }
def MarkupOnlyCardSaid : Prop := Claim7.holds Tryz.pinned (.plain (OpenSpec.ofChange markupOnlySpec)) markupOnlyCard

/-- THE TIED CARD OF 'tendrillaw15.MarkupDeep'. -/
def markupDeepCard : Claim7 := { stood := { row := markupDeepRow, standIns := [], harness := (true, "7073eec0918b477e7d016ce7534ed2127f2ad5f8c4b24de5ee317a0367086ad1"), looks := true }, kinds := [], alts := [], laidByText := true, laidKinds := [.data, .data, .data, .sentinel, .sentinel], laidTests := true, laidLooks := .later }
def MarkupDeepCardSaid : Prop := Claim7.holds Tryz.pinned (.plain (OpenSpec.ofChange markupDeepSpec)) markupDeepCard

/-- THE TIED CARD OF 'tendrillaw16.DatumBack'. -/
def datumBackCard : Claim7 := { stood := { row := datumBackRow, standIns := [], harness := (true, "7073eec0918b477e7d016ce7534ed2127f2ad5f8c4b24de5ee317a0367086ad1"), looks := true }, kinds := [], alts := [], laidByText := true, laidKinds := [.data, .data, .data, .sentinel, .sentinel], laidTests := true, laidLooks := .later }
def DatumBackCardSaid : Prop := Claim7.holds Tryz.pinned (.plain (OpenSpec.ofChange datumBackSpec)) datumBackCard

/-- THE TIED CARD OF 'tendrillaw16.DatumReads'. -/
def datumReadsCard : Claim7 := { stood := { row := datumReadsRow, standIns := [], harness := (true, "7073eec0918b477e7d016ce7534ed2127f2ad5f8c4b24de5ee317a0367086ad1"), looks := true }, kinds := [], alts := [], laidByText := true, laidKinds := [.data, .data, .data, .sentinel, .sentinel], laidTests := true, laidLooks := .later }
def DatumReadsCardSaid : Prop := Claim7.holds Tryz.pinned (.plain (OpenSpec.ofChange datumReadsSpec)) datumReadsCard

/-- THE TIED CARD OF 'tendrillaw16.DatumOrder'. -/
def datumOrderCard : Claim7 := { stood := { row := datumOrderRow, standIns := [], harness := (true, "7073eec0918b477e7d016ce7534ed2127f2ad5f8c4b24de5ee317a0367086ad1"), looks := true }, kinds := [], alts := [], laidByText := true, laidKinds := [.data, .data, .data, .sentinel, .sentinel], laidTests := true, laidLooks := .later }
def DatumOrderCardSaid : Prop := Claim7.holds Tryz.pinned (.plain (OpenSpec.ofChange datumOrderSpec)) datumOrderCard

/-- THE TIED CARD OF 'tendrillaw16.DatumGets'. -/
def datumGetsCard : Claim7 := { stood := { row := datumGetsRow, standIns := [], harness := (true, "7073eec0918b477e7d016ce7534ed2127f2ad5f8c4b24de5ee317a0367086ad1"), looks := true }, kinds := [], alts := [], laidByText := true, laidKinds := [.data, .data, .data, .sentinel, .sentinel], laidTests := true, laidLooks := .later }
def DatumGetsCardSaid : Prop := Claim7.holds Tryz.pinned (.plain (OpenSpec.ofChange datumGetsSpec)) datumGetsCard

/-- THE SECOND FORM's CARD OF 'tendrillaw15.MarkupBack'. -/
def markupBackUptoCard : Claim7 := { stood := { row := markupBackUptoRow, standIns := [], harness := (true, "7073eec0918b477e7d016ce7534ed2127f2ad5f8c4b24de5ee317a0367086ad1"), looks := true }, kinds := [], alts := [], laidByText := true, laidKinds := [.data, .data, .data, .sentinel, .sentinel], laidTests := true, laidLooks := .later }
def MarkupBackUptoCardSaid : Prop := Claim7.holds Tryz.pinned (.plain (OpenSpec.upto markupBackSpec)) markupBackUptoCard

/-- THE SECOND FORM's CARD OF 'tendrillaw15.MarkupReads'. -/
def markupReadsUptoCard : Claim7 := { stood := { row := markupReadsUptoRow, standIns := [], harness := (true, "7073eec0918b477e7d016ce7534ed2127f2ad5f8c4b24de5ee317a0367086ad1"), looks := true }, kinds := [], alts := [], laidByText := true, laidKinds := [.data, .data, .data, .sentinel, .sentinel], laidTests := true, laidLooks := .later }
def MarkupReadsUptoCardSaid : Prop := Claim7.holds Tryz.pinned (.plain (OpenSpec.upto markupReadsSpec)) markupReadsUptoCard

/-- THE SECOND FORM's CARD OF 'tendrillaw15.MarkupOnly'. -/
def markupOnlyUptoCard : Claim7 := { stood := { row := markupOnlyUptoRow, standIns := [], harness := (true, "7073eec0918b477e7d016ce7534ed2127f2ad5f8c4b24de5ee317a0367086ad1"), looks := true }, kinds := [], alts := [], laidByText := true, laidKinds := [.data, .data, .data, .sentinel, .sentinel], laidTests := true, laidLooks := .later }
def MarkupOnlyUptoCardSaid : Prop := Claim7.holds Tryz.pinned (.plain (OpenSpec.upto markupOnlySpec)) markupOnlyUptoCard

/-- THE SECOND FORM's CARD OF 'tendrillaw15.MarkupDeep'. -/
def markupDeepUptoCard : Claim7 := { stood := { row := markupDeepUptoRow, standIns := [], harness := (true, "7073eec0918b477e7d016ce7534ed2127f2ad5f8c4b24de5ee317a0367086ad1"), looks := true }, kinds := [], alts := [], laidByText := true, laidKinds := [.data, .data, .data, .sentinel, .sentinel], laidTests := true, laidLooks := .later }
def MarkupDeepUptoCardSaid : Prop := Claim7.holds Tryz.pinned (.plain (OpenSpec.upto markupDeepSpec)) markupDeepUptoCard

/-- THE SECOND FORM's CARD OF 'tendrillaw16.DatumBack'. -/
def datumBackUptoCard : Claim7 := { stood := { row := datumBackUptoRow, standIns := [], harness := (true, "7073eec0918b477e7d016ce7534ed2127f2ad5f8c4b24de5ee317a0367086ad1"), looks := true }, kinds := [], alts := [], laidByText := true, laidKinds := [.data, .data, .data, .sentinel, .sentinel], laidTests := true, laidLooks := .later }
def DatumBackUptoCardSaid : Prop := Claim7.holds Tryz.pinned (.plain (OpenSpec.upto datumBackSpec)) datumBackUptoCard

/-- THE SECOND FORM's CARD OF 'tendrillaw16.DatumReads'. -/
def datumReadsUptoCard : Claim7 := { stood := { row := datumReadsUptoRow, standIns := [], harness := (true, "7073eec0918b477e7d016ce7534ed2127f2ad5f8c4b24de5ee317a0367086ad1"), looks := true }, kinds := [], alts := [], laidByText := true, laidKinds := [.data, .data, .data, .sentinel, .sentinel], laidTests := true, laidLooks := .later }
def DatumReadsUptoCardSaid : Prop := Claim7.holds Tryz.pinned (.plain (OpenSpec.upto datumReadsSpec)) datumReadsUptoCard

/-- THE SECOND FORM's CARD OF 'tendrillaw16.DatumOrder'. -/
def datumOrderUptoCard : Claim7 := { stood := { row := datumOrderUptoRow, standIns := [], harness := (true, "7073eec0918b477e7d016ce7534ed2127f2ad5f8c4b24de5ee317a0367086ad1"), looks := true }, kinds := [], alts := [], laidByText := true, laidKinds := [.data, .data, .data, .sentinel, .sentinel], laidTests := true, laidLooks := .later }
def DatumOrderUptoCardSaid : Prop := Claim7.holds Tryz.pinned (.plain (OpenSpec.upto datumOrderSpec)) datumOrderUptoCard

/-- THE SECOND FORM's CARD OF 'tendrillaw16.DatumGets'. -/
def datumGetsUptoCard : Claim7 := { stood := { row := datumGetsUptoRow, standIns := [], harness := (true, "7073eec0918b477e7d016ce7534ed2127f2ad5f8c4b24de5ee317a0367086ad1"), looks := true }, kinds := [], alts := [], laidByText := true, laidKinds := [.data, .data, .data, .sentinel, .sentinel], laidTests := true, laidLooks := .later }
def DatumGetsUptoCardSaid : Prop := Claim7.holds Tryz.pinned (.plain (OpenSpec.upto datumGetsSpec)) datumGetsUptoCard
end Rows
end Go.Proofs.YtjnhcoflmechmaaGreatDoor
