/-
  DERIVED. GIVEN WITH THE SEED: THE CARDS: each row of YtccehdlgpbeijaaGreatDoorRows.lean that lists a variable, with what it lists TIED to the program's text (the seventh form; the later family's looks); each row that meets fmt, with fmt's text TOLD by the authors' own Lean function (tested against real Go, not proved from fmt's source: count such statements apart). THE CARD IS WHAT COUNTS. Prove the row's statement (the work); the ties are given (YtccehdlgpbeijaaGreatDoorTie.lean); close each card by the builder's one call (the guide's Derived/Test/ToyasCard.lean, 'card_holds'). Laid BY PROGRAM, IN A SANDBOX (cutbox-door.mjs). By AI agents, Wed Nov 11 2026. No macro, syntax, notation, axiom, sorry.
-/
import Derived.Test.YtccehdlgpbeijaaGreatDoorRows
import GoSem.ClaimSeven
namespace Go.Proofs.YtccehdlgpbeijaaGreatDoor
namespace Rows

/-- THE TIED CARD OF 'laws.FnNodes'. -/
def fnNodesCard : Claim7 := { stood := { row := fnNodesRow, standIns := [], harness := (true, "ee89fcb55f0d8f17585dc3eb694218a6ac6a892b5db5ba1bdd43fb121942a5dc"), looks := true }, kinds := [], alts := [], laidByText := true, laidKinds := [.data, .data, .data, .sentinel, .sentinel], laidTests := true, laidLooks := .later }
def FnNodesCardSaid : Prop := Claim7.holds Tryz.pinned (.plain (OpenSpec.ofChange fnNodesSpec)) fnNodesCard

/-- THE TIED CARD OF 'laws.FnExactParseNode'. -/
def fnExactParseNodeCard : Claim7 := { stood := { row := fnExactParseNodeRow, standIns := [], harness := (true, "ee89fcb55f0d8f17585dc3eb694218a6ac6a892b5db5ba1bdd43fb121942a5dc"), looks := true }, kinds := [], alts := [], laidByText := true, laidKinds := [.data, .data, .data, .sentinel, .sentinel], laidTests := true, laidLooks := .later }
def FnExactParseNodeCardSaid : Prop := Claim7.holds Tryz.pinned (.plain (OpenSpec.ofChange fnExactParseNodeSpec)) fnExactParseNodeCard

/-- THE SECOND FORM's CARD OF 'laws.FnNodes'. -/
def fnNodesUptoCard : Claim7 := { stood := { row := fnNodesUptoRow, standIns := [], harness := (true, "ee89fcb55f0d8f17585dc3eb694218a6ac6a892b5db5ba1bdd43fb121942a5dc"), looks := true }, kinds := [], alts := [], laidByText := true, laidKinds := [.data, .data, .data, .sentinel, .sentinel], laidTests := true, laidLooks := .later }
def FnNodesUptoCardSaid : Prop := Claim7.holds Tryz.pinned (.plain (OpenSpec.upto fnNodesSpec)) fnNodesUptoCard

/-- THE SECOND FORM's CARD OF 'laws.FnExactParseNode'. -/
def fnExactParseNodeUptoCard : Claim7 := { stood := { row := fnExactParseNodeUptoRow, standIns := [], harness := (true, "ee89fcb55f0d8f17585dc3eb694218a6ac6a892b5db5ba1bdd43fb121942a5dc"), looks := true }, kinds := [], alts := [], laidByText := true, laidKinds := [.data, .data, .data, .sentinel, .sentinel], laidTests := true, laidLooks := .later }
def FnExactParseNodeUptoCardSaid : Prop := Claim7.holds Tryz.pinned (.plain (OpenSpec.upto fnExactParseNodeSpec)) fnExactParseNodeUptoCard
end Rows
end Go.Proofs.YtccehdlgpbeijaaGreatDoor
