/-
  DERIVED. GIVEN WITH THE SEED: THE CARDS: each row of YtccehdlgpbeijaaDoorRows.lean that lists a variable, with what it lists TIED to the program's text (the seventh form; the later family's looks); each row that meets fmt, with fmt's text TOLD by the authors' own Lean function (tested against real Go, not proved from fmt's source: count such statements apart). THE CARD IS WHAT COUNTS. Prove the row's statement (the work); the ties are given (YtccehdlgpbeijaaDoorTie.lean); close each card by the builder's one call (the guide's Derived/Test/ToyasCard.lean, 'card_holds'). Laid BY PROGRAM, IN A SANDBOX (cutbox-door.mjs). By AI agents, Wed Nov 11 2026. No macro, syntax, notation, axiom, sorry.
-/
import Derived.Test.YtccehdlgpbeijaaDoorRows
import GoSem.ClaimSeven
namespace Go.Proofs.YtccehdlgpbeijaaDoor
namespace Rows

/-- THE TIED CARD OF 'laws.FnTags'. -/
def fnTagsCard : Claim7 := { stood := { row := fnTagsRow, standIns := [], harness := (true, "f2fd74814e744ec4dcaddeed64fbebb87b6b19a3fafc29c67bad7901a1e5afa1"), looks := false }, kinds := [], alts := [], laidByText := true, laidKinds := [.data, .data, .data], laidTests := true, laidLooks := .later }
def FnTagsCardSaid : Prop := Claim7.holds Tryd.pinned (.plain (OpenSpec.ofChange fnTagsSpec)) fnTagsCard

/-- THE TIED CARD OF 'laws.FnExactTagText'. -/
def fnExactTagTextCard : Claim7 := { stood := { row := fnExactTagTextRow, standIns := [], harness := (true, "f2fd74814e744ec4dcaddeed64fbebb87b6b19a3fafc29c67bad7901a1e5afa1"), looks := false }, kinds := [], alts := [], laidByText := true, laidKinds := [.data, .data, .data], laidTests := true, laidLooks := .later }
def FnExactTagTextCardSaid : Prop := Claim7.holds Tryd.pinned (.plain (OpenSpec.ofChange fnExactTagTextSpec)) fnExactTagTextCard

/-- THE SECOND FORM's CARD OF 'laws.FnTags'. -/
def fnTagsUptoCard : Claim7 := { stood := { row := fnTagsUptoRow, standIns := [], harness := (true, "f2fd74814e744ec4dcaddeed64fbebb87b6b19a3fafc29c67bad7901a1e5afa1"), looks := false }, kinds := [], alts := [], laidByText := true, laidKinds := [.data, .data, .data], laidTests := true, laidLooks := .later }
def FnTagsUptoCardSaid : Prop := Claim7.holds Tryd.pinned (.plain (OpenSpec.upto fnTagsSpec)) fnTagsUptoCard

/-- THE SECOND FORM's CARD OF 'laws.FnExactTagText'. -/
def fnExactTagTextUptoCard : Claim7 := { stood := { row := fnExactTagTextUptoRow, standIns := [], harness := (true, "f2fd74814e744ec4dcaddeed64fbebb87b6b19a3fafc29c67bad7901a1e5afa1"), looks := false }, kinds := [], alts := [], laidByText := true, laidKinds := [.data, .data, .data], laidTests := true, laidLooks := .later }
def FnExactTagTextUptoCardSaid : Prop := Claim7.holds Tryd.pinned (.plain (OpenSpec.upto fnExactTagTextSpec)) fnExactTagTextUptoCard
end Rows
end Go.Proofs.YtccehdlgpbeijaaDoor
