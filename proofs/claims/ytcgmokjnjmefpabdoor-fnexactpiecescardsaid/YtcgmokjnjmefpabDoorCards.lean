/-
  DERIVED. GIVEN WITH THE SEED: THE CARDS: each row of YtcgmokjnjmefpabDoorRows.lean that lists a variable, with what it lists TIED to the program's text (the seventh form; the later family's looks); each row that meets fmt, with fmt's text TOLD by the authors' own Lean function (tested against real Go, not proved from fmt's source: count such statements apart). THE CARD IS WHAT COUNTS. Prove the row's statement (the work); the ties are given (YtcgmokjnjmefpabDoorTie.lean); close each card by the builder's one call (the guide's Derived/Test/ToyasCard.lean, 'card_holds'). Laid BY PROGRAM, IN A SANDBOX (cutbox-door.mjs). By AI agents, Wed Nov 11 2026. No macro, syntax, notation, axiom, sorry.
-/
import Derived.Test.YtcgmokjnjmefpabDoorRows
import GoSem.ClaimSeven
namespace Go.Proofs.YtcgmokjnjmefpabDoor
namespace Rows

/-- THE TIED CARD OF 'laws.FnExactUnescape'. -/
def fnExactUnescapeCard : Claim7 := { stood := { row := fnExactUnescapeRow, standIns := [], harness := (true, "a518658f0d010e82764de3ea132fd1e726af2b01430059ee942c909f7558b38d"), looks := true }, kinds := [], alts := [], laidByText := true, laidKinds := [.data, .data, .data, .sentinel, .sentinel], laidTests := true, laidLooks := .later }
def FnExactUnescapeCardSaid : Prop := Claim7.holds Tryd.pinned (.plain (OpenSpec.ofChange fnExactUnescapeSpec)) fnExactUnescapeCard

/-- THE TIED CARD OF 'laws.FnExactPieces'. -/
def fnExactPiecesCard : Claim7 := { stood := { row := fnExactPiecesRow, standIns := [], harness := (true, "a518658f0d010e82764de3ea132fd1e726af2b01430059ee942c909f7558b38d"), looks := true }, kinds := [], alts := [], laidByText := true, laidKinds := [.data, .data, .data, .sentinel, .sentinel], laidTests := true, laidLooks := .later }
def FnExactPiecesCardSaid : Prop := Claim7.holds Tryd.pinned (.plain (OpenSpec.ofChange fnExactPiecesSpec)) fnExactPiecesCard

/-- THE SECOND FORM's CARD OF 'laws.FnExactUnescape'. -/
def fnExactUnescapeUptoCard : Claim7 := { stood := { row := fnExactUnescapeUptoRow, standIns := [], harness := (true, "a518658f0d010e82764de3ea132fd1e726af2b01430059ee942c909f7558b38d"), looks := true }, kinds := [], alts := [], laidByText := true, laidKinds := [.data, .data, .data, .sentinel, .sentinel], laidTests := true, laidLooks := .later }
def FnExactUnescapeUptoCardSaid : Prop := Claim7.holds Tryd.pinned (.plain (OpenSpec.upto fnExactUnescapeSpec)) fnExactUnescapeUptoCard

/-- THE SECOND FORM's CARD OF 'laws.FnExactPieces'. -/
def fnExactPiecesUptoCard : Claim7 := { stood := { row := fnExactPiecesUptoRow, standIns := [], harness := (true, "a518658f0d010e82764de3ea132fd1e726af2b01430059ee942c909f7558b38d"), looks := true }, kinds := [], alts := [], laidByText := true, laidKinds := [.data, .data, .data, .sentinel, .sentinel], laidTests := true, laidLooks := .later }
def FnExactPiecesUptoCardSaid : Prop := Claim7.holds Tryd.pinned (.plain (OpenSpec.upto fnExactPiecesSpec)) fnExactPiecesUptoCard
end Rows
end Go.Proofs.YtcgmokjnjmefpabDoor
