/-
  DERIVED. GIVEN WITH THE SEED: THE CARDS: each row of YtnoijfnpchihoaaGreatDoorRows.lean that lists a variable, with what it lists TIED to the program's text (the seventh form; the later family's looks); each row that meets fmt, with fmt's text TOLD by the authors' own Lean function (tested against real Go, not proved from fmt's source: count such statements apart). THE CARD IS WHAT COUNTS. Prove the row's statement (the work); the ties are given (YtnoijfnpchihoaaGreatDoorTie.lean); close each card by the builder's one call (the guide's Derived/Test/ToyasCard.lean, 'card_holds'). Laid BY PROGRAM, IN A SANDBOX (cutbox-door.mjs). By AI agents, Wed Nov 11 2026. No macro, syntax, notation, axiom, sorry.
-/
import Derived.Test.YtnoijfnpchihoaaGreatDoorRows
import GoSem.ClaimSeven
namespace Go.Proofs.YtnoijfnpchihoaaGreatDoor
namespace Rows

/-- THE TIED CARD OF 'laws.FnReqs'. -/
def fnReqsCard : Claim7 := { stood := { row := fnReqsRow, standIns := [], harness := (true, "d4e7e174abc895cc8c2aefa2f5f2040553484f0425c777533c88aa46f9d84a9b"), looks := true }, kinds := [], alts := [], laidByText := true, laidKinds := [.data, .data, .data, .sentinel, .sentinel], laidTests := true, laidLooks := .later }
def FnReqsCardSaid : Prop := Claim7.holds Tryz.pinned (.plain (OpenSpec.ofChange fnReqsSpec)) fnReqsCard

/-- THE TIED CARD OF 'laws.FnMore'. -/
def fnMoreCard : Claim7 := { stood := { row := fnMoreRow, standIns := [], harness := (true, "d4e7e174abc895cc8c2aefa2f5f2040553484f0425c777533c88aa46f9d84a9b"), looks := true }, kinds := [], alts := [], laidByText := true, laidKinds := [.data, .data, .data, .sentinel, .sentinel], laidTests := true, laidLooks := .later }
def FnMoreCardSaid : Prop := Claim7.holds Tryz.pinned (.plain (OpenSpec.ofChange fnMoreSpec)) fnMoreCard

/-- THE TIED CARD OF 'laws.FnChunks'. -/
def fnChunksCard : Claim7 := { stood := { row := fnChunksRow, standIns := [], harness := (true, "d4e7e174abc895cc8c2aefa2f5f2040553484f0425c777533c88aa46f9d84a9b"), looks := true }, kinds := [], alts := [], laidByText := true, laidKinds := [.data, .data, .data, .sentinel, .sentinel], laidTests := true, laidLooks := .later }
def FnChunksCardSaid : Prop := Claim7.holds Tryz.pinned (.plain (OpenSpec.ofChange fnChunksSpec)) fnChunksCard

/-- THE TIED CARD OF 'laws.FnExactGetReq'. -/
def fnExactGetReqCard : Claim7 := { stood := { row := fnExactGetReqRow, standIns := [], harness := (true, "d4e7e174abc895cc8c2aefa2f5f2040553484f0425c777533c88aa46f9d84a9b"), looks := true }, kinds := [], alts := [], laidByText := true, laidKinds := [.data, .data, .data, .sentinel, .sentinel], laidTests := true, laidLooks := .later }
def FnExactGetReqCardSaid : Prop := Claim7.holds Tryz.pinned (.plain (OpenSpec.ofChange fnExactGetReqSpec)) fnExactGetReqCard

/-- THE SECOND FORM's CARD OF 'laws.FnReqs'. -/
def fnReqsUptoCard : Claim7 := { stood := { row := fnReqsUptoRow, standIns := [], harness := (true, "d4e7e174abc895cc8c2aefa2f5f2040553484f0425c777533c88aa46f9d84a9b"), looks := true }, kinds := [], alts := [], laidByText := true, laidKinds := [.data, .data, .data, .sentinel, .sentinel], laidTests := true, laidLooks := .later }
def FnReqsUptoCardSaid : Prop := Claim7.holds Tryz.pinned (.plain (OpenSpec.upto fnReqsSpec)) fnReqsUptoCard

/-- THE SECOND FORM's CARD OF 'laws.FnMore'. -/
def fnMoreUptoCard : Claim7 := { stood := { row := fnMoreUptoRow, standIns := [], harness := (true, "d4e7e174abc895cc8c2aefa2f5f2040553484f0425c777533c88aa46f9d84a9b"), looks := true }, kinds := [], alts := [], laidByText := true, laidKinds := [.data, .data, .data, .sentinel, .sentinel], laidTests := true, laidLooks := .later }
def FnMoreUptoCardSaid : Prop := Claim7.holds Tryz.pinned (.plain (OpenSpec.upto fnMoreSpec)) fnMoreUptoCard

/-- THE SECOND FORM's CARD OF 'laws.FnChunks'. -/
def fnChunksUptoCard : Claim7 := { stood := { row := fnChunksUptoRow, standIns := [], harness := (true, "d4e7e174abc895cc8c2aefa2f5f2040553484f0425c777533c88aa46f9d84a9b"), looks := true }, kinds := [], alts := [], laidByText := true, laidKinds := [.data, .data, .data, .sentinel, .sentinel], laidTests := true, laidLooks := .later }
def FnChunksUptoCardSaid : Prop := Claim7.holds Tryz.pinned (.plain (OpenSpec.upto fnChunksSpec)) fnChunksUptoCard

/-- THE SECOND FORM's CARD OF 'laws.FnExactGetReq'. -/
def fnExactGetReqUptoCard : Claim7 := { stood := { row := fnExactGetReqUptoRow, standIns := [], harness := (true, "d4e7e174abc895cc8c2aefa2f5f2040553484f0425c777533c88aa46f9d84a9b"), looks := true }, kinds := [], alts := [], laidByText := true, laidKinds := [.data, .data, .data, .sentinel, .sentinel], laidTests := true, laidLooks := .later }
def FnExactGetReqUptoCardSaid : Prop := Claim7.holds Tryz.pinned (.plain (OpenSpec.upto fnExactGetReqSpec)) fnExactGetReqUptoCard
end Rows
end Go.Proofs.YtnoijfnpchihoaaGreatDoor
