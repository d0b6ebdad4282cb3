/-
  DERIVED. GIVEN WITH THE SEED: THE CARDS: each row of YtklhplhjnpdigabDoorRows.lean that lists a variable, with what it lists TIED to the program's text (the seventh form; the later family's looks); each row that meets fmt, with fmt's text TOLD by the authors' own Lean function (tested against real Go, not proved from fmt's source: count such statements apart). THE CARD IS WHAT COUNTS. Prove the row's statement (the work); the ties are given (YtklhplhjnpdigabDoorTie.lean); close each card by the builder's one call (the guide's Derived/Test/ToyasCard.lean, 'card_holds'). Laid BY PROGRAM, IN A SANDBOX (cutbox-door.mjs). By AI agents, Wed Nov 11 2026. No macro, syntax, notation, axiom, sorry.
-/
import Derived.Test.YtklhplhjnpdigabDoorRows
import GoSem.ClaimSeven
namespace Go.Proofs.YtklhplhjnpdigabDoor
namespace Rows

/-- THE TIED CARD OF 'laws.FnExactPutReq'. -/
def fnExactPutReqCard : Claim7 := { stood := { row := fnExactPutReqRow, standIns := [], harness := (true, "0619b4b755208f4cd300265ab03d328e5c0f0f174575a7910e9a87f3d5565ef2"), looks := true }, kinds := [], alts := [], laidByText := true, laidKinds := [.data, .data, .data], laidTests := true, laidLooks := .later }
def FnExactPutReqCardSaid : Prop := Claim7.holds Tryd.pinned (.plain (OpenSpec.ofChange fnExactPutReqSpec)) fnExactPutReqCard

/-- THE TIED CARD OF 'laws.FnExactGetChunks'. -/
def fnExactGetChunksCard : Claim7 := { stood := { row := fnExactGetChunksRow, standIns := [], harness := (true, "0619b4b755208f4cd300265ab03d328e5c0f0f174575a7910e9a87f3d5565ef2"), looks := true }, kinds := [], alts := [], laidByText := true, laidKinds := [.data, .data, .data, .sentinel, .sentinel], laidTests := true, laidLooks := .later }
def FnExactGetChunksCardSaid : Prop := Claim7.holds Tryd.pinned (.plain (OpenSpec.ofChange fnExactGetChunksSpec)) fnExactGetChunksCard

/-- THE SECOND FORM's CARD OF 'laws.FnExactPutReq'. -/
def fnExactPutReqUptoCard : Claim7 := { stood := { row := fnExactPutReqUptoRow, standIns := [], harness := (true, "0619b4b755208f4cd300265ab03d328e5c0f0f174575a7910e9a87f3d5565ef2"), looks := true }, kinds := [], alts := [], laidByText := true, laidKinds := [.data, .data, .data], laidTests := true, laidLooks := .later }
def FnExactPutReqUptoCardSaid : Prop := Claim7.holds Tryd.pinned (.plain (OpenSpec.upto fnExactPutReqSpec)) fnExactPutReqUptoCard

/-- THE SECOND FORM's CARD OF 'laws.FnExactGetChunks'. -/
def fnExactGetChunksUptoCard : Claim7 := { stood := { row := fnExactGetChunksUptoRow, standIns := [], harness := (true, "0619b4b755208f4cd300265ab03d328e5c0f0f174575a7910e9a87f3d5565ef2"), looks := true }, kinds := [], alts := [], laidByText := true, laidKinds := [.data, .data, .data, .sentinel, .sentinel], laidTests := true, laidLooks := .later }
def FnExactGetChunksUptoCardSaid : Prop := Claim7.holds Tryd.pinned (.plain (OpenSpec.upto fnExactGetChunksSpec)) fnExactGetChunksUptoCard
end Rows
end Go.Proofs.YtklhplhjnpdigabDoor
