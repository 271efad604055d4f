/-
  No cell of these rows narrows 'for every input' (looked for: loops, veiled, ifaces, maps, wideKeys, modest, calm, conditions, laid).
  DERIVED. THE GIVEN ROWS OF THIS SEAT. 7 by the template 'for every input the law returns true; each argument reads behind the call as it read before'; 0 by the template 'total and deterministic' (their statements: YteamnjaepgfcmaaTotals.lean).
  GIVEN WITH THE SEED: the statements are not yours to turn. If you find one false, say at which input.
  Laid BY PROGRAM, IN A SANDBOX (cutbox-rows.mjs): the forced cells as the released guide's own fill.sh prints them over the translation 860665c65510d79f… (all of the seat's roots in one cut). By AI agents, Wed Nov 11 2026. No macro, syntax, notation, axiom, sorry.
-/
import Derived.Test.YteamnjaepgfcmaaChecked
import GoSem.Claim
import GoSem.ClaimJoined
import GoSem.ClaimMapViews
import Derived.JoinedTies
import Derived.KernelRfl
namespace Go.Proofs.Yteamnjaepgfcmaa
/- THE CELL 'sum', in the pinned program and in every row, IS THE sha256 OF THE DUMP (.gsa) THAT YteamnjaepgfcmaaProg.lean LOADS. Nothing in Lean hashes anything: it is a label: what it is worth is what the hold of that sum in a sandbox is worth. -/
noncomputable def Try.pinned : Pinned := { name := "yteamnjaepgfcmaa", sum := "860665c65510d79f8516a63f984521a394d572fb9dd5f348c2b1e4257579a1bb", checked := Try.checked }
namespace Rows
def none {H : Type} : Left H := { results := [], args := [] }

/-- 'tendrillaw09.AttrsChecks': WHATEVER THE INPUT: true; the input reads as it did. -/
def attrsChecksSpec : ChangeSpec := { name := "attrsChecks", fn := fun _ => fun
  | [d] => { results := [.lit (.bool true)], args := [d] }
  | _ => none }
def attrsChecksRow : OpenClaim := { program := "yteamnjaepgfcmaa", sum := "860665c65510d79f8516a63f984521a394d572fb9dd5f348c2b1e4257579a1bb", func := "tendril/tendrillaw09.AttrsChecks", spec := "attrsChecks", inPlace := ["internal/bytealg.abigen_runtime_cmpstring"], unfollowed := true, recurses := true, apart := false }
def AttrsChecksSaid : Prop := attrsChecksRow.holds Try.pinned (OpenSpec.ofChange attrsChecksSpec)

/-- ITS FALSE NEIGHBOUR: 'it returns false'. Refute it at one input. -/
def attrsChecksWrong : ChangeSpec := { name := "attrsChecks", fn := fun _ => fun
  | [d] => { results := [.lit (.bool false)], args := [d] }
  | _ => none }
def AttrsChecksWrongFalsely : Prop := attrsChecksRow.holds Try.pinned (OpenSpec.ofChange attrsChecksWrong)

/-- 'tendrillaw09.AttrsLooks': WHATEVER THE INPUT: true; the input reads as it did. -/
def attrsLooksSpec : ChangeSpec := { name := "attrsLooks", fn := fun _ => fun
  | [d1, d2, d3] => { results := [.lit (.bool true)], args := [d1, d2, d3] }
  | _ => none }
def attrsLooksRow : OpenClaim := { program := "yteamnjaepgfcmaa", sum := "860665c65510d79f8516a63f984521a394d572fb9dd5f348c2b1e4257579a1bb", func := "tendril/tendrillaw09.AttrsLooks", spec := "attrsLooks", inPlace := ["internal/bytealg.abigen_runtime_cmpstring"], unfollowed := true, recurses := true, apart := false }
def AttrsLooksSaid : Prop := attrsLooksRow.holds Try.pinned (OpenSpec.ofChange attrsLooksSpec)

/-- ITS FALSE NEIGHBOUR: 'it returns false'. Refute it at one input. -/
def attrsLooksWrong : ChangeSpec := { name := "attrsLooks", fn := fun _ => fun
  | [d1, d2, d3] => { results := [.lit (.bool false)], args := [d1, d2, d3] }
  | _ => none }
def AttrsLooksWrongFalsely : Prop := attrsLooksRow.holds Try.pinned (OpenSpec.ofChange attrsLooksWrong)

/-- 'tendrillaw09.AttrsNorm': WHATEVER THE INPUT: true; the input reads as it did. -/
def attrsNormSpec : ChangeSpec := { name := "attrsNorm", fn := fun _ => fun
  | [d1, d2] => { results := [.lit (.bool true)], args := [d1, d2] }
  | _ => none }
def attrsNormRow : OpenClaim := { program := "yteamnjaepgfcmaa", sum := "860665c65510d79f8516a63f984521a394d572fb9dd5f348c2b1e4257579a1bb", func := "tendril/tendrillaw09.AttrsNorm", spec := "attrsNorm", inPlace := ["internal/bytealg.abigen_runtime_cmpstring"], unfollowed := true, recurses := true, apart := false }
def AttrsNormSaid : Prop := attrsNormRow.holds Try.pinned (OpenSpec.ofChange attrsNormSpec)

/-- ITS FALSE NEIGHBOUR: 'it returns false'. Refute it at one input. -/
def attrsNormWrong : ChangeSpec := { name := "attrsNorm", fn := fun _ => fun
  | [d1, d2] => { results := [.lit (.bool false)], args := [d1, d2] }
  | _ => none }
def AttrsNormWrongFalsely : Prop := attrsNormRow.holds Try.pinned (OpenSpec.ofChange attrsNormWrong)

/-- 'tendrillaw09.AttrsStay': WHATEVER THE INPUT: true; the input reads as it did. -/
def attrsStaySpec : ChangeSpec := { name := "attrsStay", fn := fun _ => fun
  | [d1, d2, d3] => { results := [.lit (.bool true)], args := [d1, d2, d3] }
  | _ => none }
def attrsStayRow : OpenClaim := { program := "yteamnjaepgfcmaa", sum := "860665c65510d79f8516a63f984521a394d572fb9dd5f348c2b1e4257579a1bb", func := "tendril/tendrillaw09.AttrsStay", spec := "attrsStay", inPlace := ["internal/bytealg.abigen_runtime_cmpstring"], unfollowed := true, recurses := true, apart := false }
def AttrsStaySaid : Prop := attrsStayRow.holds Try.pinned (OpenSpec.ofChange attrsStaySpec)

/-- ITS FALSE NEIGHBOUR: 'it returns false'. Refute it at one input. -/
def attrsStayWrong : ChangeSpec := { name := "attrsStay", fn := fun _ => fun
  | [d1, d2, d3] => { results := [.lit (.bool false)], args := [d1, d2, d3] }
  | _ => none }
def AttrsStayWrongFalsely : Prop := attrsStayRow.holds Try.pinned (OpenSpec.ofChange attrsStayWrong)

/-- 'tendrillaw10.AdiffOf': WHATEVER THE INPUT: true; the input reads as it did. -/
def adiffOfSpec : ChangeSpec := { name := "adiffOf", fn := fun _ => fun
  | [d1, d2] => { results := [.lit (.bool true)], args := [d1, d2] }
  | _ => none }
def adiffOfRow : OpenClaim := { program := "yteamnjaepgfcmaa", sum := "860665c65510d79f8516a63f984521a394d572fb9dd5f348c2b1e4257579a1bb", func := "tendril/tendrillaw10.AdiffOf", spec := "adiffOf", inPlace := ["internal/bytealg.abigen_runtime_cmpstring"], unfollowed := true, recurses := true, apart := false }
def AdiffOfSaid : Prop := adiffOfRow.holds Try.pinned (OpenSpec.ofChange adiffOfSpec)

/-- ITS FALSE NEIGHBOUR: 'it returns false'. Refute it at one input. -/
def adiffOfWrong : ChangeSpec := { name := "adiffOf", fn := fun _ => fun
  | [d1, d2] => { results := [.lit (.bool false)], args := [d1, d2] }
  | _ => none }
def AdiffOfWrongFalsely : Prop := adiffOfRow.holds Try.pinned (OpenSpec.ofChange adiffOfWrong)

/-- 'tendrillaw10.AdiffBack': WHATEVER THE INPUT: true; the input reads as it did. -/
def adiffBackSpec : ChangeSpec := { name := "adiffBack", fn := fun _ => fun
  | [d1, d2] => { results := [.lit (.bool true)], args := [d1, d2] }
  | _ => none }
def adiffBackRow : OpenClaim := { program := "yteamnjaepgfcmaa", sum := "860665c65510d79f8516a63f984521a394d572fb9dd5f348c2b1e4257579a1bb", func := "tendril/tendrillaw10.AdiffBack", spec := "adiffBack", inPlace := ["internal/bytealg.abigen_runtime_cmpstring"], unfollowed := true, recurses := true, apart := false }
def AdiffBackSaid : Prop := adiffBackRow.holds Try.pinned (OpenSpec.ofChange adiffBackSpec)

/-- ITS FALSE NEIGHBOUR: 'it returns false'. Refute it at one input. -/
def adiffBackWrong : ChangeSpec := { name := "adiffBack", fn := fun _ => fun
  | [d1, d2] => { results := [.lit (.bool false)], args := [d1, d2] }
  | _ => none }
def AdiffBackWrongFalsely : Prop := adiffBackRow.holds Try.pinned (OpenSpec.ofChange adiffBackWrong)

/-- 'tendrillaw10.AdiffLeast': WHATEVER THE INPUT: true; the input reads as it did. -/
def adiffLeastSpec : ChangeSpec := { name := "adiffLeast", fn := fun _ => fun
  | [d1, d2] => { results := [.lit (.bool true)], args := [d1, d2] }
  | _ => none }
def adiffLeastRow : OpenClaim := { program := "yteamnjaepgfcmaa", sum := "860665c65510d79f8516a63f984521a394d572fb9dd5f348c2b1e4257579a1bb", func := "tendril/tendrillaw10.AdiffLeast", spec := "adiffLeast", inPlace := ["internal/bytealg.abigen_runtime_cmpstring"], unfollowed := true, recurses := true, apart := false }
def AdiffLeastSaid : Prop := adiffLeastRow.holds Try.pinned (OpenSpec.ofChange adiffLeastSpec)

/-- ITS FALSE NEIGHBOUR: 'it returns false'. Refute it at one input. -/
def adiffLeastWrong : ChangeSpec := { name := "adiffLeast", fn := fun _ => fun
  | [d1, d2] => { results := [.lit (.bool false)], args := [d1, d2] }
  | _ => none }
def AdiffLeastWrongFalsely : Prop := adiffLeastRow.holds Try.pinned (OpenSpec.ofChange adiffLeastWrong)

/- THE SECOND FORM. 'bulk': how many values and letters a reading holds, each counted each time it is reached (what is shared counts as often as it is met; a slice's spare places count too). A statement '..UptoSaid' is the law's where the arguments, and the package variables that the reading takes, are together of bulk at most 1048576: NARROWER than '..Said'. Prove '..Said' where nothing that the law and all that it calls make is longer than what came in: it says more and counts as full. Else prove '..UptoSaid'. A law counts once. -/
mutual
def uptoBulk {H : Type} : DataW H → Nat
  | .lit (.string bytes) => bytes.length + 1
  | .lit _ => 1
  | .nil => 1
  | .ptr d => uptoBulk d + 1
  | .slice elems spare => uptoBulkAll elems + uptoBulkAll spare + 1
  | .agg parts => uptoBulkAll parts + 1
  | .iface _ d => uptoBulk d + 1
  | .map entries => uptoBulkEntries entries + 1
  | .held _ => 1
def uptoBulkAll {H : Type} : List (DataW H) → Nat
  | [] => 0
  | d :: r => uptoBulk d + uptoBulkAll r
def uptoBulkEntries {H : Type} : List (Lit × DataW H) → Nat
  | [] => 0
  | x :: r => uptoBulkEntry x + uptoBulkEntries r
def uptoBulkEntry {H : Type} : Lit × DataW H → Nat
  | (.string bytes, d) => bytes.length + uptoBulk d + 1
  | (_, d) => uptoBulk d + 1
 end
def uptoSmall : (H : Type) → List (DataW H) → Bool := fun _ ds => decide (uptoBulkAll ds ≤ 1048576)
def OpenSpec.upto (s : _root_.Go.ChangeSpec) : _root_.Go.OpenSpec := { _root_.Go.OpenSpec.ofChange s with cond := some uptoSmall }

/-- 'tendrillaw09.AttrsChecks', WHERE WHAT IT READS IS OF BULK AT MOST 1048576: true; the input reads as it did. -/
def attrsChecksUptoRow : OpenClaim := { program := "yteamnjaepgfcmaa", sum := "860665c65510d79f8516a63f984521a394d572fb9dd5f348c2b1e4257579a1bb", func := "tendril/tendrillaw09.AttrsChecks", spec := "attrsChecks", inPlace := ["internal/bytealg.abigen_runtime_cmpstring"], unfollowed := true, recurses := true, apart := false, narrowed := true }
def AttrsChecksUptoSaid : Prop := attrsChecksUptoRow.holds Try.pinned (OpenSpec.upto attrsChecksSpec)

/-- 'tendrillaw09.AttrsLooks', WHERE WHAT IT READS IS OF BULK AT MOST 1048576: true; the input reads as it did. -/
def attrsLooksUptoRow : OpenClaim := { program := "yteamnjaepgfcmaa", sum := "860665c65510d79f8516a63f984521a394d572fb9dd5f348c2b1e4257579a1bb", func := "tendril/tendrillaw09.AttrsLooks", spec := "attrsLooks", inPlace := ["internal/bytealg.abigen_runtime_cmpstring"], unfollowed := true, recurses := true, apart := false, narrowed := true }
def AttrsLooksUptoSaid : Prop := attrsLooksUptoRow.holds Try.pinned (OpenSpec.upto attrsLooksSpec)

/-- 'tendrillaw09.AttrsNorm', WHERE WHAT IT READS IS OF BULK AT MOST 1048576: true; the input reads as it did. -/
def attrsNormUptoRow : OpenClaim := { program := "yteamnjaepgfcmaa", sum := "860665c65510d79f8516a63f984521a394d572fb9dd5f348c2b1e4257579a1bb", func := "tendril/tendrillaw09.AttrsNorm", spec := "attrsNorm", inPlace := ["internal/bytealg.abigen_runtime_cmpstring"], unfollowed := true, recurses := true, apart := false, narrowed := true }
def AttrsNormUptoSaid : Prop := attrsNormUptoRow.holds Try.pinned (OpenSpec.upto attrsNormSpec)

/-- 'tendrillaw09.AttrsStay', WHERE WHAT IT READS IS OF BULK AT MOST 1048576: true; the input reads as it did. -/
def attrsStayUptoRow : OpenClaim := { program := "yteamnjaepgfcmaa", sum := "860665c65510d79f8516a63f984521a394d572fb9dd5f348c2b1e4257579a1bb", func := "tendril/tendrillaw09.AttrsStay", spec := "attrsStay", inPlace := ["internal/bytealg.abigen_runtime_cmpstring"], unfollowed := true, recurses := true, apart := false, narrowed := true }
def AttrsStayUptoSaid : Prop := attrsStayUptoRow.holds Try.pinned (OpenSpec.upto attrsStaySpec)

/-- 'tendrillaw10.AdiffOf', WHERE WHAT IT READS IS OF BULK AT MOST 1048576: true; the input reads as it did. -/
def adiffOfUptoRow : OpenClaim := { program := "yteamnjaepgfcmaa", sum := "860665c65510d79f8516a63f984521a394d572fb9dd5f348c2b1e4257579a1bb", func := "tendril/tendrillaw10.AdiffOf", spec := "adiffOf", inPlace := ["internal/bytealg.abigen_runtime_cmpstring"], unfollowed := true, recurses := true, apart := false, narrowed := true }
def AdiffOfUptoSaid : Prop := adiffOfUptoRow.holds Try.pinned (OpenSpec.upto adiffOfSpec)

/-- 'tendrillaw10.AdiffBack', WHERE WHAT IT READS IS OF BULK AT MOST 1048576: true; the input reads as it did. -/
def adiffBackUptoRow : OpenClaim := { program := "yteamnjaepgfcmaa", sum := "860665c65510d79f8516a63f984521a394d572fb9dd5f348c2b1e4257579a1bb", func := "tendril/tendrillaw10.AdiffBack", spec := "adiffBack", inPlace := ["internal/bytealg.abigen_runtime_cmpstring"], unfollowed := true, recurses := true, apart := false, narrowed := true }
def AdiffBackUptoSaid : Prop := adiffBackUptoRow.holds Try.pinned (OpenSpec.upto adiffBackSpec)

/-- 'tendrillaw10.AdiffLeast', WHERE WHAT IT READS IS OF BULK AT MOST 1048576: true; the input reads as it did. -/
def adiffLeastUptoRow : OpenClaim := { program := "yteamnjaepgfcmaa", sum := "860665c65510d79f8516a63f984521a394d572fb9dd5f348c2b1e4257579a1bb", func := "tendril/tendrillaw10.AdiffLeast", spec := "adiffLeast", inPlace := ["internal/bytealg.abigen_runtime_cmpstring"], unfollowed := true, recurses := true, apart := false, narrowed := true }
def AdiffLeastUptoSaid : Prop := adiffLeastUptoRow.holds Try.pinned (OpenSpec.upto adiffLeastSpec)

end Rows
end Go.Proofs.Yteamnjaepgfcmaa
