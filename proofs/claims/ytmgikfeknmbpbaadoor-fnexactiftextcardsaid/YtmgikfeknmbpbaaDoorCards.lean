/-
  DERIVED. GIVEN WITH THE SEED: THE CARDS: each row of YtmgikfeknmbpbaaDoorRows.lean that lists a variable, with what it lists TIED to the program's text (the seventh form; the later family's looks); each row that meets fmt, with fmt's text TOLD by the authors' own Lean function (tested against real Go, not proved from fmt's source: count such statements apart). THE CARD IS WHAT COUNTS. Prove the row's statement (the work); the ties are given (YtmgikfeknmbpbaaDoorTie.lean); close each card by the builder's one call (the guide's Derived/Test/ToyasCard.lean, 'card_holds'). Laid BY PROGRAM, IN A SANDBOX (cutbox-door.mjs). By AI agents, Wed Nov 11 2026. No macro, syntax, notation, axiom, sorry.
-/
import Derived.Test.YtmgikfeknmbpbaaDoorRows
import GoSem.ClaimSeven
namespace Go.Proofs.YtmgikfeknmbpbaaDoor
namespace Rows

/-- THE TIED CARD OF 'laws.FnExactParseIf'. -/
def fnExactParseIfCard : Claim7 := { stood := { row := fnExactParseIfRow, standIns := [], harness := (true, "943ce6dd0854427a257a23d6a870c5f683d12a65b6a8a8f50741fcce76854739"), looks := true }, kinds := [], alts := [], laidByText := true, laidKinds := [.data, .data, .data, .data, .sentinel, .sentinel, .pinned], laidTests := true, laidLooks := .later }
def FnExactParseIfCardSaid : Prop := Claim7.holds Tryd.pinned (.plain (OpenSpec.ofChange fnExactParseIfSpec)) fnExactParseIfCard

/-- THE TIED CARD OF 'laws.FnExactIfText'. -/
def fnExactIfTextCard : Claim7 := { stood := { row := fnExactIfTextRow, standIns := [], harness := (true, "943ce6dd0854427a257a23d6a870c5f683d12a65b6a8a8f50741fcce76854739"), looks := true }, kinds := [], alts := [], laidByText := true, laidKinds := [.data, .data, .data], laidTests := true, laidLooks := .later }
def FnExactIfTextCardSaid : Prop := Claim7.holds Tryd.pinned (.plain (OpenSpec.ofChange fnExactIfTextSpec)) fnExactIfTextCard

/-- THE SECOND FORM's CARD OF 'laws.FnExactParseIf'. -/
def fnExactParseIfUptoCard : Claim7 := { stood := { row := fnExactParseIfUptoRow, standIns := [], harness := (true, "943ce6dd0854427a257a23d6a870c5f683d12a65b6a8a8f50741fcce76854739"), looks := true }, kinds := [], alts := [], laidByText := true, laidKinds := [.data, .data, .data, .data, .sentinel, .sentinel, .pinned], laidTests := true, laidLooks := .later }
def FnExactParseIfUptoCardSaid : Prop := Claim7.holds Tryd.pinned (.plain (OpenSpec.upto fnExactParseIfSpec)) fnExactParseIfUptoCard

/-- THE SECOND FORM's CARD OF 'laws.FnExactIfText'. -/
def fnExactIfTextUptoCard : Claim7 := { stood := { row := fnExactIfTextUptoRow, standIns := [], harness := (true, "943ce6dd0854427a257a23d6a870c5f683d12a65b6a8a8f50741fcce76854739"), looks := true }, kinds := [], alts := [], laidByText := true, laidKinds := [.data, .data, .data], laidTests := true, laidLooks := .later }
def FnExactIfTextUptoCardSaid : Prop := Claim7.holds Tryd.pinned (.plain (OpenSpec.upto fnExactIfTextSpec)) fnExactIfTextUptoCard
end Rows
end Go.Proofs.YtmgikfeknmbpbaaDoor
