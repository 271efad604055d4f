/-
  DERIVED. GIVEN WITH THE SEED: THE CARDS: each row of YtjekdnmjaobohaaDoorRows.lean that lists a variable, with what it lists TIED to the program's text (the seventh form; the later family's looks); each row that meets fmt, with fmt's text TOLD by the authors' own Lean function (tested against real Go, not proved from fmt's source: count such statements apart). THE CARD IS WHAT COUNTS. Prove the row's statement (the work); the ties are given (YtjekdnmjaobohaaDoorTie.lean); close each card by the builder's one call (the guide's Derived/Test/ToyasCard.lean, 'card_holds'). Laid BY PROGRAM, IN A SANDBOX (cutbox-door.mjs). By AI agents, Wed Nov 11 2026. No macro, syntax, notation, axiom, sorry.
-/
import Derived.Test.YtjekdnmjaobohaaDoorRows
import GoSem.ClaimSeven
namespace Go.Proofs.YtjekdnmjaobohaaDoor
namespace Rows

/-- THE TIED CARD OF 'tendrillaw03.EscapeReads'. -/
def escapeReadsCard : Claim7 := { stood := { row := escapeReadsRow, standIns := [], harness := (true, "2b07ec1a43ef124472a88909595499347ee31cdcfd5b3cd3a23c6830b0d27bfc"), looks := true }, kinds := [], alts := [], laidByText := true, laidKinds := [.data, .data, .data, .sentinel, .sentinel], laidTests := true, laidLooks := .later }
def EscapeReadsCardSaid : Prop := Claim7.holds Tryd.pinned (.plain (OpenSpec.ofChange escapeReadsSpec)) escapeReadsCard

/-- THE TIED CARD OF 'tendrillaw03.EscapeBack'. -/
def escapeBackCard : Claim7 := { stood := { row := escapeBackRow, standIns := [], harness := (true, "2b07ec1a43ef124472a88909595499347ee31cdcfd5b3cd3a23c6830b0d27bfc"), looks := true }, kinds := [], alts := [], laidByText := true, laidKinds := [.data, .data, .data, .sentinel, .sentinel], laidTests := true, laidLooks := .later }
def EscapeBackCardSaid : Prop := Claim7.holds Tryd.pinned (.plain (OpenSpec.ofChange escapeBackSpec)) escapeBackCard

/-- THE TIED CARD OF 'tendrillaw03.EscapeOnly'. -/
def escapeOnlyCard : Claim7 := { stood := { row := escapeOnlyRow, standIns := [], harness := (true, "2b07ec1a43ef124472a88909595499347ee31cdcfd5b3cd3a23c6830b0d27bfc"), looks := true }, kinds := [], alts := [], laidByText := true, laidKinds := [.data, .data, .data, .sentinel, .sentinel], laidTests := true, laidLooks := .later }
def EscapeOnlyCardSaid : Prop := Claim7.holds Tryd.pinned (.plain (OpenSpec.ofChange escapeOnlySpec)) escapeOnlyCard

/-- THE SECOND FORM's CARD OF 'tendrillaw03.EscapeReads'. -/
def escapeReadsUptoCard : Claim7 := { stood := { row := escapeReadsUptoRow, standIns := [], harness := (true, "2b07ec1a43ef124472a88909595499347ee31cdcfd5b3cd3a23c6830b0d27bfc"), looks := true }, kinds := [], alts := [], laidByText := true, laidKinds := [.data, .data, .data, .sentinel, .sentinel], laidTests := true, laidLooks := .later }
def EscapeReadsUptoCardSaid : Prop := Claim7.holds Tryd.pinned (.plain (OpenSpec.upto escapeReadsSpec)) escapeReadsUptoCard

/-- THE SECOND FORM's CARD OF 'tendrillaw03.EscapeBack'. -/
def escapeBackUptoCard : Claim7 := { stood := { row := escapeBackUptoRow, standIns := [], harness := (true, "2b07ec1a43ef124472a88909595499347ee31cdcfd5b3cd3a23c6830b0d27bfc"), looks := true }, kinds := [], alts := [], laidByText := true, laidKinds := [.data, .data, .data, .sentinel, .sentinel], laidTests := true, laidLooks := .later }
def EscapeBackUptoCardSaid : Prop := Claim7.holds Tryd.pinned (.plain (OpenSpec.upto escapeBackSpec)) escapeBackUptoCard

/-- THE SECOND FORM's CARD OF 'tendrillaw03.EscapeOnly'. -/
def escapeOnlyUptoCard : Claim7 := { stood := { row := escapeOnlyUptoRow, standIns := [], harness := (true, "2b07ec1a43ef124472a88909595499347ee31cdcfd5b3cd3a23c6830b0d27bfc"), looks := true }, kinds := [], alts := [], laidByText := true, laidKinds := [.data, .data, .data, .sentinel, .sentinel], laidTests := true, laidLooks := .later }
def EscapeOnlyUptoCardSaid : Prop := Claim7.holds Tryd.pinned (.plain (OpenSpec.upto escapeOnlySpec)) escapeOnlyUptoCard
end Rows
end Go.Proofs.YtjekdnmjaobohaaDoor
