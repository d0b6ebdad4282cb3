/-
  DERIVED. GIVEN WITH THE SEED: THE CARDS: each row of YtkhnkockdfmkgaaDoorRows.lean that lists a variable, with what it lists TIED to the program's text (the seventh form; the later family's looks); each row that meets fmt, with fmt's text TOLD by the authors' own Lean function (tested against real Go, not proved from fmt's source: count such statements apart). THE CARD IS WHAT COUNTS. Prove the row's statement (the work); the ties are given (YtkhnkockdfmkgaaDoorTie.lean); close each card by the builder's one call (the guide's Derived/Test/ToyasCard.lean, 'card_holds'). Laid BY PROGRAM, IN A SANDBOX (cutbox-door.mjs). By AI agents, Wed Nov 11 2026. No macro, syntax, notation, axiom, sorry.
-/
import Derived.Test.YtkhnkockdfmkgaaDoorRows
import GoSem.ClaimSeven
namespace Go.Proofs.YtkhnkockdfmkgaaDoor
namespace Rows

/-- THE TIED CARD OF 'laws.FnResps'. -/
def fnRespsCard : Claim7 := { stood := { row := fnRespsRow, standIns := [], harness := (true, "ecd7d6cdb126808fa2f780b32e7a49b98c1a2edfc51d5f4f336fa869c1e3f34b"), looks := true }, kinds := [], alts := [], laidByText := true, laidKinds := [.data, .data, .data, .sentinel, .sentinel], laidTests := true, laidLooks := .later }
def FnRespsCardSaid : Prop := Claim7.holds Tryd.pinned (.plain (OpenSpec.ofChange fnRespsSpec)) fnRespsCard

/-- THE SECOND FORM's CARD OF 'laws.FnResps'. -/
def fnRespsUptoCard : Claim7 := { stood := { row := fnRespsUptoRow, standIns := [], harness := (true, "ecd7d6cdb126808fa2f780b32e7a49b98c1a2edfc51d5f4f336fa869c1e3f34b"), looks := true }, kinds := [], alts := [], laidByText := true, laidKinds := [.data, .data, .data, .sentinel, .sentinel], laidTests := true, laidLooks := .later }
def FnRespsUptoCardSaid : Prop := Claim7.holds Tryd.pinned (.plain (OpenSpec.upto fnRespsSpec)) fnRespsUptoCard
end Rows
end Go.Proofs.YtkhnkockdfmkgaaDoor
