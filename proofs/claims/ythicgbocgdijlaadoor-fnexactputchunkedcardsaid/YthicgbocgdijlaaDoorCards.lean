/-
  DERIVED. GIVEN WITH THE SEED: THE CARDS: each row of YthicgbocgdijlaaDoorRows.lean that lists a variable, with what it lists TIED to the program's text (the seventh form; the later family's looks); each row that meets fmt, with fmt's text TOLD by the authors' own Lean function (tested against real Go, not proved from fmt's source: count such statements apart). THE CARD IS WHAT COUNTS. Prove the row's statement (the work); the ties are given (YthicgbocgdijlaaDoorTie.lean); close each card by the builder's one call (the guide's Derived/Test/ToyasCard.lean, 'card_holds'). Laid BY PROGRAM, IN A SANDBOX (cutbox-door.mjs). By AI agents, Wed Nov 11 2026. No macro, syntax, notation, axiom, sorry.
-/
import Derived.Test.YthicgbocgdijlaaDoorRows
import GoSem.ClaimSeven
namespace Go.Proofs.YthicgbocgdijlaaDoor
namespace Rows

/-- THE TIED CARD OF 'laws.FnExactGetChunks'. -/
def fnExactGetChunksCard : Claim7 := { stood := { row := fnExactGetChunksRow, standIns := [], harness := (true, "6cd55c111c46dcee22f749737b605d63224225d250754470cccfe2154813c153"), looks := true }, kinds := [], alts := [], laidByText := true, laidKinds := [.data, .data, .data, .sentinel, .sentinel], laidTests := true, laidLooks := .later }
def FnExactGetChunksCardSaid : Prop := Claim7.holds Tryd.pinned (.plain (OpenSpec.ofChange fnExactGetChunksSpec)) fnExactGetChunksCard

/-- THE TIED CARD OF 'laws.FnExactPutChunks'. -/
def fnExactPutChunksCard : Claim7 := { stood := { row := fnExactPutChunksRow, standIns := [], harness := (true, "6cd55c111c46dcee22f749737b605d63224225d250754470cccfe2154813c153"), looks := true }, kinds := [], alts := [], laidByText := true, laidKinds := [.data, .data, .data], laidTests := true, laidLooks := .later }
def FnExactPutChunksCardSaid : Prop := Claim7.holds Tryd.pinned (.plain (OpenSpec.ofChange fnExactPutChunksSpec)) fnExactPutChunksCard

/-- THE TIED CARD OF 'laws.FnExactPutChunked'. -/
def fnExactPutChunkedCard : Claim7 := { stood := { row := fnExactPutChunkedRow, standIns := [], harness := (true, "6cd55c111c46dcee22f749737b605d63224225d250754470cccfe2154813c153"), looks := true }, kinds := [], alts := [], laidByText := true, laidKinds := [.data, .data, .data], laidTests := true, laidLooks := .later }
def FnExactPutChunkedCardSaid : Prop := Claim7.holds Tryd.pinned (.plain (OpenSpec.ofChange fnExactPutChunkedSpec)) fnExactPutChunkedCard

/-- THE TIED CARD OF 'laws.FnExactPutReq'. -/
def fnExactPutReqCard : Claim7 := { stood := { row := fnExactPutReqRow, standIns := [], harness := (true, "6cd55c111c46dcee22f749737b605d63224225d250754470cccfe2154813c153"), looks := true }, kinds := [], alts := [], laidByText := true, laidKinds := [.data, .data, .data], laidTests := true, laidLooks := .later }
def FnExactPutReqCardSaid : Prop := Claim7.holds Tryd.pinned (.plain (OpenSpec.ofChange fnExactPutReqSpec)) fnExactPutReqCard

/-- THE SECOND FORM's CARD OF 'laws.FnExactGetChunks'. -/
def fnExactGetChunksUptoCard : Claim7 := { stood := { row := fnExactGetChunksUptoRow, standIns := [], harness := (true, "6cd55c111c46dcee22f749737b605d63224225d250754470cccfe2154813c153"), looks := true }, kinds := [], alts := [], laidByText := true, laidKinds := [.data, .data, .data, .sentinel, .sentinel], laidTests := true, laidLooks := .later }
def FnExactGetChunksUptoCardSaid : Prop := Claim7.holds Tryd.pinned (.plain (OpenSpec.upto fnExactGetChunksSpec)) fnExactGetChunksUptoCard

/-- THE SECOND FORM's CARD OF 'laws.FnExactPutChunks'. -/
def fnExactPutChunksUptoCard : Claim7 := { stood := { row := fnExactPutChunksUptoRow, standIns := [], harness := (true, "6cd55c111c46dcee22f749737b605d63224225d250754470cccfe2154813c153"), looks := true }, kinds := [], alts := [], laidByText := true, laidKinds := [.data, .data, .data], laidTests := true, laidLooks := .later }
def FnExactPutChunksUptoCardSaid : Prop := Claim7.holds Tryd.pinned (.plain (OpenSpec.upto fnExactPutChunksSpec)) fnExactPutChunksUptoCard

/-- THE SECOND FORM's CARD OF 'laws.FnExactPutChunked'. -/
def fnExactPutChunkedUptoCard : Claim7 := { stood := { row := fnExactPutChunkedUptoRow, standIns := [], harness := (true, "6cd55c111c46dcee22f749737b605d63224225d250754470cccfe2154813c153"), looks := true }, kinds := [], alts := [], laidByText := true, laidKinds := [.data, .data, .data], laidTests := true, laidLooks := .later }
def FnExactPutChunkedUptoCardSaid : Prop := Claim7.holds Tryd.pinned (.plain (OpenSpec.upto fnExactPutChunkedSpec)) fnExactPutChunkedUptoCard

/-- THE SECOND FORM's CARD OF 'laws.FnExactPutReq'. -/
def fnExactPutReqUptoCard : Claim7 := { stood := { row := fnExactPutReqUptoRow, standIns := [], harness := (true, "6cd55c111c46dcee22f749737b605d63224225d250754470cccfe2154813c153"), looks := true }, kinds := [], alts := [], laidByText := true, laidKinds := [.data, .data, .data], laidTests := true, laidLooks := .later }
def FnExactPutReqUptoCardSaid : Prop := Claim7.holds Tryd.pinned (.plain (OpenSpec.upto fnExactPutReqSpec)) fnExactPutReqUptoCard
end Rows
end Go.Proofs.YthicgbocgdijlaaDoor
