/-
  DERIVED. GIVEN WITH THE SEED: THE CARDS: each row of YtanebchmeaomgaaGreatDoorRows.lean that lists a variable, with what it lists TIED to the program's text (the seventh form; the later family's looks); each row that meets fmt, with fmt's text TOLD by the authors' own Lean function (tested against real Go, not proved from fmt's source: count such statements apart). THE CARD IS WHAT COUNTS. Prove the row's statement (the work); the ties are given (YtanebchmeaomgaaGreatDoorTie.lean); close each card by the builder's one call (the guide's Derived/Test/ToyasCard.lean, 'card_holds'). Laid BY PROGRAM, IN A SANDBOX (cutbox-door.mjs). By AI agents, Wed Nov 11 2026. No macro, syntax, notation, axiom, sorry.
-/
import Derived.Test.YtanebchmeaomgaaGreatDoorRows
import GoSem.ClaimSeven
namespace Go.Proofs.YtanebchmeaomgaaGreatDoor
namespace Rows

/-- THE TIED CARD OF 'laws.FnWires'. -/
def fnWiresCard : Claim7 := { stood := { row := fnWiresRow, standIns := [], harness := (true, "47e947bfbb9b5f117d5c6ca5e15cf2ca39364a950220a59dcfb58ef4ffdaf5d1"), looks := true }, kinds := [], alts := [], laidByText := true, laidKinds := [.data, .data, .data, .sentinel, .sentinel], laidTests := true, laidLooks := .later }
def FnWiresCardSaid : Prop := Claim7.holds Tryz.pinned (.plain (OpenSpec.ofChange fnWiresSpec)) fnWiresCard

/-- THE TIED CARD OF 'laws.FnPipes'. -/
def fnPipesCard : Claim7 := { stood := { row := fnPipesRow, standIns := [], harness := (true, "47e947bfbb9b5f117d5c6ca5e15cf2ca39364a950220a59dcfb58ef4ffdaf5d1"), looks := true }, kinds := [], alts := [], laidByText := true, laidKinds := [.data, .data, .data, .sentinel, .sentinel], laidTests := true, laidLooks := .later }
def FnPipesCardSaid : Prop := Claim7.holds Tryz.pinned (.plain (OpenSpec.ofChange fnPipesSpec)) fnPipesCard

/-- THE TIED CARD OF 'laws.FnNodes'. -/
def fnNodesCard : Claim7 := { stood := { row := fnNodesRow, standIns := [], harness := (true, "47e947bfbb9b5f117d5c6ca5e15cf2ca39364a950220a59dcfb58ef4ffdaf5d1"), looks := true }, kinds := [], alts := [], laidByText := true, laidKinds := [.data, .data, .data, .sentinel, .sentinel], laidTests := true, laidLooks := .later }
def FnNodesCardSaid : Prop := Claim7.holds Tryz.pinned (.plain (OpenSpec.ofChange fnNodesSpec)) fnNodesCard

/-- THE SECOND FORM's CARD OF 'laws.FnWires'. -/
def fnWiresUptoCard : Claim7 := { stood := { row := fnWiresUptoRow, standIns := [], harness := (true, "47e947bfbb9b5f117d5c6ca5e15cf2ca39364a950220a59dcfb58ef4ffdaf5d1"), looks := true }, kinds := [], alts := [], laidByText := true, laidKinds := [.data, .data, .data, .sentinel, .sentinel], laidTests := true, laidLooks := .later }
def FnWiresUptoCardSaid : Prop := Claim7.holds Tryz.pinned (.plain (OpenSpec.upto fnWiresSpec)) fnWiresUptoCard

/-- THE SECOND FORM's CARD OF 'laws.FnPipes'. -/
def fnPipesUptoCard : Claim7 := { stood := { row := fnPipesUptoRow, standIns := [], harness := (true, "47e947bfbb9b5f117d5c6ca5e15cf2ca39364a950220a59dcfb58ef4ffdaf5d1"), looks := true }, kinds := [], alts := [], laidByText := true, laidKinds := [.data, .data, .data, .sentinel, .sentinel], laidTests := true, laidLooks := .later }
def FnPipesUptoCardSaid : Prop := Claim7.holds Tryz.pinned (.plain (OpenSpec.upto fnPipesSpec)) fnPipesUptoCard

/-- THE SECOND FORM's CARD OF 'laws.FnNodes'. -/
def fnNodesUptoCard : Claim7 := { stood := { row := fnNodesUptoRow, standIns := [], harness := (true, "47e947bfbb9b5f117d5c6ca5e15cf2ca39364a950220a59dcfb58ef4ffdaf5d1"), looks := true }, kinds := [], alts := [], laidByText := true, laidKinds := [.data, .data, .data, .sentinel, .sentinel], laidTests := true, laidLooks := .later }
def FnNodesUptoCardSaid : Prop := Claim7.holds Tryz.pinned (.plain (OpenSpec.upto fnNodesSpec)) fnNodesUptoCard
end Rows
end Go.Proofs.YtanebchmeaomgaaGreatDoor
