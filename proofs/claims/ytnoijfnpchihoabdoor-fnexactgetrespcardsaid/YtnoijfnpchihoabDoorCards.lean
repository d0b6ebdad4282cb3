/-
  DERIVED. GIVEN WITH THE SEED: THE CARDS: each row of YtnoijfnpchihoabDoorRows.lean that lists a variable, with what it lists TIED to the program's text (the seventh form; the later family's looks); each row that meets fmt, with fmt's text TOLD by the authors' own Lean function (tested against real Go, not proved from fmt's source: count such statements apart). THE CARD IS WHAT COUNTS. Prove the row's statement (the work); the ties are given (YtnoijfnpchihoabDoorTie.lean); close each card by the builder's one call (the guide's Derived/Test/ToyasCard.lean, 'card_holds'). Laid BY PROGRAM, IN A SANDBOX (cutbox-door.mjs). By AI agents, Wed Nov 11 2026. No macro, syntax, notation, axiom, sorry.
-/
import Derived.Test.YtnoijfnpchihoabDoorRows
import GoSem.ClaimSeven
namespace Go.Proofs.YtnoijfnpchihoabDoor
namespace Rows

/-- THE TIED CARD OF 'laws.FnExactPutChunked'. -/
def fnExactPutChunkedCard : Claim7 := { stood := { row := fnExactPutChunkedRow, standIns := [], harness := (true, "06aa90da06f2408d93409aff9397a3b76b263f8c7c6bf1fa922a680d1d7cdd0b"), looks := true }, kinds := [], alts := [], laidByText := true, laidKinds := [.data, .data, .data], laidTests := true, laidLooks := .later }
def FnExactPutChunkedCardSaid : Prop := Claim7.holds Tryd.pinned (.plain (OpenSpec.ofChange fnExactPutChunkedSpec)) fnExactPutChunkedCard

/-- THE TIED CARD OF 'laws.FnExactPutResp'. -/
def fnExactPutRespCard : Claim7 := { stood := { row := fnExactPutRespRow, standIns := [], harness := (true, "06aa90da06f2408d93409aff9397a3b76b263f8c7c6bf1fa922a680d1d7cdd0b"), looks := true }, kinds := [], alts := [], laidByText := true, laidKinds := [.data, .data, .data], laidTests := true, laidLooks := .later }
def FnExactPutRespCardSaid : Prop := Claim7.holds Tryd.pinned (.plain (OpenSpec.ofChange fnExactPutRespSpec)) fnExactPutRespCard

/-- THE TIED CARD OF 'laws.FnExactGetResp'. -/
def fnExactGetRespCard : Claim7 := { stood := { row := fnExactGetRespRow, standIns := [], harness := (true, "06aa90da06f2408d93409aff9397a3b76b263f8c7c6bf1fa922a680d1d7cdd0b"), looks := true }, kinds := [], alts := [], laidByText := true, laidKinds := [.data, .data, .data, .sentinel, .sentinel], laidTests := true, laidLooks := .later }
def FnExactGetRespCardSaid : Prop := Claim7.holds Tryd.pinned (.plain (OpenSpec.ofChange fnExactGetRespSpec)) fnExactGetRespCard

/-- THE SECOND FORM's CARD OF 'laws.FnExactPutChunked'. -/
def fnExactPutChunkedUptoCard : Claim7 := { stood := { row := fnExactPutChunkedUptoRow, standIns := [], harness := (true, "06aa90da06f2408d93409aff9397a3b76b263f8c7c6bf1fa922a680d1d7cdd0b"), looks := true }, kinds := [], alts := [], laidByText := true, laidKinds := [.data, .data, .data], laidTests := true, laidLooks := .later }
def FnExactPutChunkedUptoCardSaid : Prop := Claim7.holds Tryd.pinned (.plain (OpenSpec.upto fnExactPutChunkedSpec)) fnExactPutChunkedUptoCard

/-- THE SECOND FORM's CARD OF 'laws.FnExactPutResp'. -/
def fnExactPutRespUptoCard : Claim7 := { stood := { row := fnExactPutRespUptoRow, standIns := [], harness := (true, "06aa90da06f2408d93409aff9397a3b76b263f8c7c6bf1fa922a680d1d7cdd0b"), looks := true }, kinds := [], alts := [], laidByText := true, laidKinds := [.data, .data, .data], laidTests := true, laidLooks := .later }
def FnExactPutRespUptoCardSaid : Prop := Claim7.holds Tryd.pinned (.plain (OpenSpec.upto fnExactPutRespSpec)) fnExactPutRespUptoCard

/-- THE SECOND FORM's CARD OF 'laws.FnExactGetResp'. -/
def fnExactGetRespUptoCard : Claim7 := { stood := { row := fnExactGetRespUptoRow, standIns := [], harness := (true, "06aa90da06f2408d93409aff9397a3b76b263f8c7c6bf1fa922a680d1d7cdd0b"), looks := true }, kinds := [], alts := [], laidByText := true, laidKinds := [.data, .data, .data, .sentinel, .sentinel], laidTests := true, laidLooks := .later }
def FnExactGetRespUptoCardSaid : Prop := Claim7.holds Tryd.pinned (.plain (OpenSpec.upto fnExactGetRespSpec)) fnExactGetRespUptoCard
end Rows
end Go.Proofs.YtnoijfnpchihoabDoor
