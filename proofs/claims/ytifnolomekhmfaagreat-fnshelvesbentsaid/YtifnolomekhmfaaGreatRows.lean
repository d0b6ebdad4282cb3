/-
  No cell of these rows narrows 'for every input' (looked for: loops, veiled, ifaces, maps, wideKeys, modest, calm, conditions, laid).
  DERIVED. THE GIVEN ROWS OF THIS SEAT. 3 by the template 'for every input the law returns true; each argument reads behind the call as it read before'; 0 by the template 'total and deterministic' (their statements: YtifnolomekhmfaaGreatTotals.lean).
  GIVEN WITH THE SEED: the statements are not yours to turn. If you find one false, say at which input.
  Laid BY PROGRAM, IN A SANDBOX (cutbox-rows.mjs): the forced cells as the released guide's own fill.sh prints them over the translation eeb7e28dac3b35dc… (all of the seat's roots in one cut). By AI agents, Wed Nov 11 2026. No macro, syntax, notation, axiom, sorry.
-/
import Derived.Test.YtifnolomekhmfaaGreatChecked
import GoSem.Claim
import GoSem.ClaimJoined
import GoSem.ClaimMapViews
import Derived.JoinedTies
import Derived.KernelRfl
namespace Go.Proofs.YtifnolomekhmfaaGreat
/- THE CELL 'sum', in the pinned program and in every row, IS THE sha256 OF THE DUMP (.gsa) THAT YtifnolomekhmfaaGreatProg.lean LOADS. Nothing in Lean hashes anything: it is a label: what it is worth is what the hold of that sum in a sandbox is worth. -/
noncomputable def Tryz.pinned : Pinned := { name := "ytifnolomekhmfaagreat", sum := "eeb7e28dac3b35dcbd6e1911834a76e6f96a1de082f61b8bd8711c75b98307df", checked := Tryz.checked }
namespace Rows
def none {H : Type} : Left H := { results := [], args := [] }

/-- 'laws.FnShelvesBent': WHATEVER THE INPUT: true; the input reads as it did. -/
def fnShelvesBentSpec : ChangeSpec := { name := "fnShelvesBent", fn := fun _ => fun
  | [d] => { results := [.lit (.bool true)], args := [d] }
  | _ => none }
def fnShelvesBentRow : OpenClaim := { program := "ytifnolomekhmfaagreat", sum := "eeb7e28dac3b35dcbd6e1911834a76e6f96a1de082f61b8bd8711c75b98307df", func := "loop.example/g00452/laws.FnShelvesBent", spec := "fnShelvesBent", inPlace := ["internal/abi.NoEscape", "internal/bytealg.MakeNoZero", "slices.overlaps[loop.example/g00452/impl.Res]"], unfollowed := true, recurses := true, apart := false }
def FnShelvesBentSaid : Prop := fnShelvesBentRow.holds Tryz.pinned (OpenSpec.ofChange fnShelvesBentSpec)

/-- ITS FALSE NEIGHBOUR: 'it returns false'. Refute it at one input. -/
def fnShelvesBentWrong : ChangeSpec := { name := "fnShelvesBent", fn := fun _ => fun
  | [d] => { results := [.lit (.bool false)], args := [d] }
  | _ => none }
def FnShelvesBentWrongFalsely : Prop := fnShelvesBentRow.holds Tryz.pinned (OpenSpec.ofChange fnShelvesBentWrong)

/-- 'laws.FnTreesBent': WHATEVER THE INPUT: true; the input reads as it did. -/
def fnTreesBentSpec : ChangeSpec := { name := "fnTreesBent", fn := fun _ => fun
  | [d] => { results := [.lit (.bool true)], args := [d] }
  | _ => none }
def fnTreesBentRow : OpenClaim := { program := "ytifnolomekhmfaagreat", sum := "eeb7e28dac3b35dcbd6e1911834a76e6f96a1de082f61b8bd8711c75b98307df", func := "loop.example/g00452/laws.FnTreesBent", spec := "fnTreesBent", inPlace := ["internal/abi.NoEscape", "internal/bytealg.MakeNoZero"], unfollowed := true, recurses := true, apart := false }
def FnTreesBentSaid : Prop := fnTreesBentRow.holds Tryz.pinned (OpenSpec.ofChange fnTreesBentSpec)

/-- ITS FALSE NEIGHBOUR: 'it returns false'. Refute it at one input. -/
def fnTreesBentWrong : ChangeSpec := { name := "fnTreesBent", fn := fun _ => fun
  | [d] => { results := [.lit (.bool false)], args := [d] }
  | _ => none }
def FnTreesBentWrongFalsely : Prop := fnTreesBentRow.holds Tryz.pinned (OpenSpec.ofChange fnTreesBentWrong)

/-- 'laws.FnPatches': WHATEVER THE INPUT: true; the input reads as it did. -/
def fnPatchesSpec : ChangeSpec := { name := "fnPatches", fn := fun _ => fun
  | [d] => { results := [.lit (.bool true)], args := [d] }
  | _ => none }
def fnPatchesRow : OpenClaim := { program := "ytifnolomekhmfaagreat", sum := "eeb7e28dac3b35dcbd6e1911834a76e6f96a1de082f61b8bd8711c75b98307df", func := "loop.example/g00452/laws.FnPatches", spec := "fnPatches", inPlace := ["internal/abi.NoEscape", "internal/bytealg.MakeNoZero"], unfollowed := true, recurses := true, apart := false }
def FnPatchesSaid : Prop := fnPatchesRow.holds Tryz.pinned (OpenSpec.ofChange fnPatchesSpec)

/-- ITS FALSE NEIGHBOUR: 'it returns false'. Refute it at one input. -/
def fnPatchesWrong : ChangeSpec := { name := "fnPatches", fn := fun _ => fun
  | [d] => { results := [.lit (.bool false)], args := [d] }
  | _ => none }
def FnPatchesWrongFalsely : Prop := fnPatchesRow.holds Tryz.pinned (OpenSpec.ofChange fnPatchesWrong)

/- THE SECOND FORM. 'bulk': how many values and letters a reading holds, each counted each time it is reached (what is shared counts as often as it is met; a slice's spare places count too). A statement '..UptoSaid' is the law's where the arguments, and the package variables that the reading takes, are together of bulk at most 1048576: NARROWER than '..Said'. Prove '..Said' where nothing that the law and all that it calls make is longer than what came in: it says more and counts as full. Else prove '..UptoSaid'. A law counts once. -/
mutual
def uptoBulk {H : Type} : DataW H → Nat
  | .lit (.string bytes) => bytes.length + 1
  | .lit _ => 1
  | .nil => 1
  | .ptr d => uptoBulk d + 1
  | .slice elems spare => uptoBulkAll elems + uptoBulkAll spare + 1
  | .agg parts => uptoBulkAll parts + 1
  | .iface _ d => uptoBulk d + 1
  | .map entries => uptoBulkEntries entries + 1
  | .held _ => 1
def uptoBulkAll {H : Type} : List (DataW H) → Nat
  | [] => 0
  | d :: r => uptoBulk d + uptoBulkAll r
def uptoBulkEntries {H : Type} : List (Lit × DataW H) → Nat
  | [] => 0
  | x :: r => uptoBulkEntry x + uptoBulkEntries r
def uptoBulkEntry {H : Type} : Lit × DataW H → Nat
  | (.string bytes, d) => bytes.length + uptoBulk d + 1
  | (_, d) => uptoBulk d + 1
 end
def uptoSmall : (H : Type) → List (DataW H) → Bool := fun _ ds => decide (uptoBulkAll ds ≤ 1048576)
def OpenSpec.upto (s : _root_.Go.ChangeSpec) : _root_.Go.OpenSpec := { _root_.Go.OpenSpec.ofChange s with cond := some uptoSmall }

/-- 'laws.FnShelvesBent', WHERE WHAT IT READS IS OF BULK AT MOST 1048576: true; the input reads as it did. -/
def fnShelvesBentUptoRow : OpenClaim := { program := "ytifnolomekhmfaagreat", sum := "eeb7e28dac3b35dcbd6e1911834a76e6f96a1de082f61b8bd8711c75b98307df", func := "loop.example/g00452/laws.FnShelvesBent", spec := "fnShelvesBent", inPlace := ["internal/abi.NoEscape", "internal/bytealg.MakeNoZero", "slices.overlaps[loop.example/g00452/impl.Res]"], unfollowed := true, recurses := true, apart := false, narrowed := true }
def FnShelvesBentUptoSaid : Prop := fnShelvesBentUptoRow.holds Tryz.pinned (OpenSpec.upto fnShelvesBentSpec)

/-- 'laws.FnTreesBent', WHERE WHAT IT READS IS OF BULK AT MOST 1048576: true; the input reads as it did. -/
def fnTreesBentUptoRow : OpenClaim := { program := "ytifnolomekhmfaagreat", sum := "eeb7e28dac3b35dcbd6e1911834a76e6f96a1de082f61b8bd8711c75b98307df", func := "loop.example/g00452/laws.FnTreesBent", spec := "fnTreesBent", inPlace := ["internal/abi.NoEscape", "internal/bytealg.MakeNoZero"], unfollowed := true, recurses := true, apart := false, narrowed := true }
def FnTreesBentUptoSaid : Prop := fnTreesBentUptoRow.holds Tryz.pinned (OpenSpec.upto fnTreesBentSpec)

/-- 'laws.FnPatches', WHERE WHAT IT READS IS OF BULK AT MOST 1048576: true; the input reads as it did. -/
def fnPatchesUptoRow : OpenClaim := { program := "ytifnolomekhmfaagreat", sum := "eeb7e28dac3b35dcbd6e1911834a76e6f96a1de082f61b8bd8711c75b98307df", func := "loop.example/g00452/laws.FnPatches", spec := "fnPatches", inPlace := ["internal/abi.NoEscape", "internal/bytealg.MakeNoZero"], unfollowed := true, recurses := true, apart := false, narrowed := true }
def FnPatchesUptoSaid : Prop := fnPatchesUptoRow.holds Tryz.pinned (OpenSpec.upto fnPatchesSpec)

end Rows
end Go.Proofs.YtifnolomekhmfaaGreat
