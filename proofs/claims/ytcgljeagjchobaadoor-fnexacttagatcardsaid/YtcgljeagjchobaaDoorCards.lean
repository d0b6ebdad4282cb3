/-
  DERIVED. GIVEN WITH THE SEED: THE CARDS: each row of YtcgljeagjchobaaDoorRows.lean that lists a variable, with what it lists TIED to the program's text (the seventh form; the later family's looks); each row that meets fmt, with fmt's text TOLD by the authors' own Lean function (tested against real Go, not proved from fmt's source: count such statements apart). THE CARD IS WHAT COUNTS. Prove the row's statement (the work); the ties are given (YtcgljeagjchobaaDoorTie.lean); close each card by the builder's one call (the guide's Derived/Test/ToyasCard.lean, 'card_holds'). Laid BY PROGRAM, IN A SANDBOX (cutbox-door.mjs). By AI agents, Wed Nov 11 2026. No macro, syntax, notation, axiom, sorry.
-/
import Derived.Test.YtcgljeagjchobaaDoorRows
import GoSem.ClaimSeven
namespace Go.Proofs.YtcgljeagjchobaaDoor
namespace Rows

/-- THE TIED CARD OF 'laws.FnExactTagAt'. -/
def fnExactTagAtCard : Claim7 := { stood := { row := fnExactTagAtRow, standIns := [], harness := (true, "3b3d1ba9ac4d70bada9a36285bcd811b9c184c20623506b9396f16ca3e0fdafa"), looks := false }, kinds := [], alts := [], laidByText := true, laidKinds := [.data, .data, .data], laidTests := true, laidLooks := .later }
def FnExactTagAtCardSaid : Prop := Claim7.holds Tryd.pinned (.plain (OpenSpec.ofChange fnExactTagAtSpec)) fnExactTagAtCard

/-- THE SECOND FORM's CARD OF 'laws.FnExactTagAt'. -/
def fnExactTagAtUptoCard : Claim7 := { stood := { row := fnExactTagAtUptoRow, standIns := [], harness := (true, "3b3d1ba9ac4d70bada9a36285bcd811b9c184c20623506b9396f16ca3e0fdafa"), looks := false }, kinds := [], alts := [], laidByText := true, laidKinds := [.data, .data, .data], laidTests := true, laidLooks := .later }
def FnExactTagAtUptoCardSaid : Prop := Claim7.holds Tryd.pinned (.plain (OpenSpec.upto fnExactTagAtSpec)) fnExactTagAtUptoCard
end Rows
end Go.Proofs.YtcgljeagjchobaaDoor
