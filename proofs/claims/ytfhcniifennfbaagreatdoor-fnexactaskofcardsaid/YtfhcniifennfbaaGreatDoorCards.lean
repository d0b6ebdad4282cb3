/-
  DERIVED. GIVEN WITH THE SEED: THE CARDS: each row of YtfhcniifennfbaaGreatDoorRows.lean that lists a variable, with what it lists TIED to the program's text (the seventh form; the later family's looks); each row that meets fmt, with fmt's text TOLD by the authors' own Lean function (tested against real Go, not proved from fmt's source: count such statements apart). THE CARD IS WHAT COUNTS. Prove the row's statement (the work); the ties are given (YtfhcniifennfbaaGreatDoorTie.lean); close each card by the builder's one call (the guide's Derived/Test/ToyasCard.lean, 'card_holds'). Laid BY PROGRAM, IN A SANDBOX (cutbox-door.mjs). By AI agents, Wed Nov 11 2026. No macro, syntax, notation, axiom, sorry.
-/
import Derived.Test.YtfhcniifennfbaaGreatDoorRows
import GoSem.ClaimSeven
namespace Go.Proofs.YtfhcniifennfbaaGreatDoor
namespace Rows

/-- THE TIED CARD OF 'laws.FnExactAskOf'. -/
def fnExactAskOfCard : Claim7 := { stood := { row := fnExactAskOfRow, standIns := [], harness := (true, "d169607aba8bbff68d17eca64ee79d102e62f131470ee88d9db0804ec084c3e2"), looks := true }, kinds := [], alts := [], laidByText := true, laidKinds := [.data, .data, .data, .data, .sentinel, .sentinel, .pinned], laidTests := true, laidLooks := .later }
def FnExactAskOfCardSaid : Prop := Claim7.holds Tryz.pinned (.plain (OpenSpec.ofChange fnExactAskOfSpec)) fnExactAskOfCard

/-- THE SECOND FORM's CARD OF 'laws.FnExactAskOf'. -/
def fnExactAskOfUptoCard : Claim7 := { stood := { row := fnExactAskOfUptoRow, standIns := [], harness := (true, "d169607aba8bbff68d17eca64ee79d102e62f131470ee88d9db0804ec084c3e2"), looks := true }, kinds := [], alts := [], laidByText := true, laidKinds := [.data, .data, .data, .data, .sentinel, .sentinel, .pinned], laidTests := true, laidLooks := .later }
def FnExactAskOfUptoCardSaid : Prop := Claim7.holds Tryz.pinned (.plain (OpenSpec.upto fnExactAskOfSpec)) fnExactAskOfUptoCard
end Rows
end Go.Proofs.YtfhcniifennfbaaGreatDoor
