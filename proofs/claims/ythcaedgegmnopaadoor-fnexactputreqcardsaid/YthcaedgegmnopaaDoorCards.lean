/-
  DERIVED. GIVEN WITH THE SEED: THE CARDS: each row of YthcaedgegmnopaaDoorRows.lean that lists a variable, with what it lists TIED to the program's text (the seventh form; the later family's looks); each row that meets fmt, with fmt's text TOLD by the authors' own Lean function (tested against real Go, not proved from fmt's source: count such statements apart). THE CARD IS WHAT COUNTS. Prove the row's statement (the work); the ties are given (YthcaedgegmnopaaDoorTie.lean); close each card by the builder's one call (the guide's Derived/Test/ToyasCard.lean, 'card_holds'). Laid BY PROGRAM, IN A SANDBOX (cutbox-door.mjs). By AI agents, Wed Nov 11 2026. No macro, syntax, notation, axiom, sorry.
-/
import Derived.Test.YthcaedgegmnopaaDoorRows
import GoSem.ClaimSeven
namespace Go.Proofs.YthcaedgegmnopaaDoor
namespace Rows

/-- THE TIED CARD OF 'laws.FnResps'. -/
def fnRespsCard : Claim7 := { stood := { row := fnRespsRow, standIns := [], harness := (true, "608bf0f70f0539750060470984b28f060c7284c9d7afb1144cce302e6397e10c"), looks := true }, kinds := [], alts := [], laidByText := true, laidKinds := [.data, .data, .data, .sentinel, .sentinel], laidTests := true, laidLooks := .later }
def FnRespsCardSaid : Prop := Claim7.holds Tryd.pinned (.plain (OpenSpec.ofChange fnRespsSpec)) fnRespsCard

/-- THE TIED CARD OF 'laws.FnExactPutReq'. -/
def fnExactPutReqCard : Claim7 := { stood := { row := fnExactPutReqRow, standIns := [], harness := (true, "608bf0f70f0539750060470984b28f060c7284c9d7afb1144cce302e6397e10c"), looks := true }, kinds := [], alts := [], laidByText := true, laidKinds := [.data, .data, .data], laidTests := true, laidLooks := .later }
def FnExactPutReqCardSaid : Prop := Claim7.holds Tryd.pinned (.plain (OpenSpec.ofChange fnExactPutReqSpec)) fnExactPutReqCard

/-- THE SECOND FORM's CARD OF 'laws.FnResps'. -/
def fnRespsUptoCard : Claim7 := { stood := { row := fnRespsUptoRow, standIns := [], harness := (true, "608bf0f70f0539750060470984b28f060c7284c9d7afb1144cce302e6397e10c"), looks := true }, kinds := [], alts := [], laidByText := true, laidKinds := [.data, .data, .data, .sentinel, .sentinel], laidTests := true, laidLooks := .later }
def FnRespsUptoCardSaid : Prop := Claim7.holds Tryd.pinned (.plain (OpenSpec.upto fnRespsSpec)) fnRespsUptoCard

/-- THE SECOND FORM's CARD OF 'laws.FnExactPutReq'. -/
def fnExactPutReqUptoCard : Claim7 := { stood := { row := fnExactPutReqUptoRow, standIns := [], harness := (true, "608bf0f70f0539750060470984b28f060c7284c9d7afb1144cce302e6397e10c"), looks := true }, kinds := [], alts := [], laidByText := true, laidKinds := [.data, .data, .data], laidTests := true, laidLooks := .later }
def FnExactPutReqUptoCardSaid : Prop := Claim7.holds Tryd.pinned (.plain (OpenSpec.upto fnExactPutReqSpec)) fnExactPutReqUptoCard
end Rows
end Go.Proofs.YthcaedgegmnopaaDoor
