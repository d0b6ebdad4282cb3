/-
  No cell of these rows narrows 'for every input' (looked for: loops, veiled, ifaces, maps, wideKeys, modest, calm, conditions, laid).
  DERIVED. THE GIVEN ROWS OF THIS SEAT. 4 by the template 'for every input the law returns true; each argument reads behind the call as it read before'; 0 by the template 'total and deterministic' (their statements: YtepdfppbnepamabGreatTotals.lean).
  GIVEN WITH THE SEED: the statements are not yours to turn. If you find one false, say at which input.
  Laid BY PROGRAM, IN A SANDBOX (cutbox-rows.mjs): the forced cells as the released guide's own fill.sh prints them over the translation f580bd4db4c12bba… (all of the seat's roots in one cut). By AI agents, Wed Nov 11 2026. No macro, syntax, notation, axiom, sorry.
-/
import Derived.Test.YtepdfppbnepamabGreatChecked
import GoSem.Claim
import GoSem.ClaimJoined
import GoSem.ClaimMapViews
import Derived.JoinedTies
import Derived.KernelRfl
namespace Go.Proofs.YtepdfppbnepamabGreat
/- THE CELL 'sum', in the pinned program and in every row, IS THE sha256 OF THE DUMP (.gsa) THAT YtepdfppbnepamabGreatProg.lean LOADS. Nothing in Lean hashes anything: it is a label: what it is worth is what the hold of that sum in a sandbox is worth. -/
noncomputable def Tryz.pinned : Pinned := { name := "ytepdfppbnepamabgreat", sum := "f580bd4db4c12bba14bb20cb2586d22f705651704817819fa49e6673aaf58260", checked := Tryz.checked }
namespace Rows
def none {H : Type} : Left H := { results := [], args := [] }

/-- 'laws.FnExactPutFile': WHATEVER THE INPUT: true; the input reads as it did. -/
def fnExactPutFileSpec : ChangeSpec := { name := "fnExactPutFile", fn := fun _ => fun
  | [d1, d2, d3, d4] => { results := [.lit (.bool true)], args := [d1, d2, d3, d4] }
  | _ => none }
def fnExactPutFileRow : OpenClaim := { program := "ytepdfppbnepamabgreat", sum := "f580bd4db4c12bba14bb20cb2586d22f705651704817819fa49e6673aaf58260", func := "loop.example/g00452/laws.FnExactPutFile", spec := "fnExactPutFile", inPlace := ["internal/abi.NoEscape", "internal/bytealg.MakeNoZero", "slices.overlaps[loop.example/g00452/impl.Res]"], unfollowed := true, recurses := true, apart := false }
def FnExactPutFileSaid : Prop := fnExactPutFileRow.holds Tryz.pinned (OpenSpec.ofChange fnExactPutFileSpec)

/-- ITS FALSE NEIGHBOUR: 'it returns false'. Refute it at one input. -/
def fnExactPutFileWrong : ChangeSpec := { name := "fnExactPutFile", fn := fun _ => fun
  | [d1, d2, d3, d4] => { results := [.lit (.bool false)], args := [d1, d2, d3, d4] }
  | _ => none }
def FnExactPutFileWrongFalsely : Prop := fnExactPutFileRow.holds Tryz.pinned (OpenSpec.ofChange fnExactPutFileWrong)

/-- 'laws.FnExactMakeColl': WHATEVER THE INPUT: true; the input reads as it did. -/
def fnExactMakeCollSpec : ChangeSpec := { name := "fnExactMakeColl", fn := fun _ => fun
  | [d1, d2, d3] => { results := [.lit (.bool true)], args := [d1, d2, d3] }
  | _ => none }
def fnExactMakeCollRow : OpenClaim := { program := "ytepdfppbnepamabgreat", sum := "f580bd4db4c12bba14bb20cb2586d22f705651704817819fa49e6673aaf58260", func := "loop.example/g00452/laws.FnExactMakeColl", spec := "fnExactMakeColl", inPlace := ["internal/abi.NoEscape", "internal/bytealg.MakeNoZero", "slices.overlaps[loop.example/g00452/impl.Res]"], unfollowed := true, recurses := true, apart := false }
def FnExactMakeCollSaid : Prop := fnExactMakeCollRow.holds Tryz.pinned (OpenSpec.ofChange fnExactMakeCollSpec)

/-- ITS FALSE NEIGHBOUR: 'it returns false'. Refute it at one input. -/
def fnExactMakeCollWrong : ChangeSpec := { name := "fnExactMakeColl", fn := fun _ => fun
  | [d1, d2, d3] => { results := [.lit (.bool false)], args := [d1, d2, d3] }
  | _ => none }
def FnExactMakeCollWrongFalsely : Prop := fnExactMakeCollRow.holds Tryz.pinned (OpenSpec.ofChange fnExactMakeCollWrong)

/-- 'laws.FnExactCopyTree': WHATEVER THE INPUT: true; the input reads as it did. -/
def fnExactCopyTreeSpec : ChangeSpec := { name := "fnExactCopyTree", fn := fun _ => fun
  | [d1, d2, d3, d4, d5] => { results := [.lit (.bool true)], args := [d1, d2, d3, d4, d5] }
  | _ => none }
def fnExactCopyTreeRow : OpenClaim := { program := "ytepdfppbnepamabgreat", sum := "f580bd4db4c12bba14bb20cb2586d22f705651704817819fa49e6673aaf58260", func := "loop.example/g00452/laws.FnExactCopyTree", spec := "fnExactCopyTree", inPlace := ["internal/abi.NoEscape", "internal/bytealg.MakeNoZero", "slices.overlaps[loop.example/g00452/impl.Res]"], unfollowed := true, recurses := true, apart := false }
def FnExactCopyTreeSaid : Prop := fnExactCopyTreeRow.holds Tryz.pinned (OpenSpec.ofChange fnExactCopyTreeSpec)

/-- ITS FALSE NEIGHBOUR: 'it returns false'. Refute it at one input. -/
def fnExactCopyTreeWrong : ChangeSpec := { name := "fnExactCopyTree", fn := fun _ => fun
  | [d1, d2, d3, d4, d5] => { results := [.lit (.bool false)], args := [d1, d2, d3, d4, d5] }
  | _ => none }
def FnExactCopyTreeWrongFalsely : Prop := fnExactCopyTreeRow.holds Tryz.pinned (OpenSpec.ofChange fnExactCopyTreeWrong)

/-- 'laws.FnExactMoveTree': WHATEVER THE INPUT: true; the input reads as it did. -/
def fnExactMoveTreeSpec : ChangeSpec := { name := "fnExactMoveTree", fn := fun _ => fun
  | [d1, d2, d3, d4, d5] => { results := [.lit (.bool true)], args := [d1, d2, d3, d4, d5] }
  | _ => none }
def fnExactMoveTreeRow : OpenClaim := { program := "ytepdfppbnepamabgreat", sum := "f580bd4db4c12bba14bb20cb2586d22f705651704817819fa49e6673aaf58260", func := "loop.example/g00452/laws.FnExactMoveTree", spec := "fnExactMoveTree", inPlace := ["internal/abi.NoEscape", "internal/bytealg.MakeNoZero", "slices.overlaps[loop.example/g00452/impl.Res]"], unfollowed := true, recurses := true, apart := false }
def FnExactMoveTreeSaid : Prop := fnExactMoveTreeRow.holds Tryz.pinned (OpenSpec.ofChange fnExactMoveTreeSpec)

/-- ITS FALSE NEIGHBOUR: 'it returns false'. Refute it at one input. -/
def fnExactMoveTreeWrong : ChangeSpec := { name := "fnExactMoveTree", fn := fun _ => fun
  | [d1, d2, d3, d4, d5] => { results := [.lit (.bool false)], args := [d1, d2, d3, d4, d5] }
  | _ => none }
def FnExactMoveTreeWrongFalsely : Prop := fnExactMoveTreeRow.holds Tryz.pinned (OpenSpec.ofChange fnExactMoveTreeWrong)

/- THE SECOND FORM. 'bulk': how many values and letters a reading holds, each counted each time it is reached (what is shared counts as often as it is met; a slice's spare places count too). A statement '..UptoSaid' is the law's where the arguments, and the package variables that the reading takes, are together of bulk at most 1048576: NARROWER than '..Said'. Prove '..Said' where nothing that the law and all that it calls make is longer than what came in: it says more and counts as full. Else prove '..UptoSaid'. A law counts once. -/
mutual
def uptoBulk {H : Type} : DataW H → Nat
  | .lit (.string bytes) => bytes.length + 1
  | .lit _ => 1
  | .nil => 1
  | .ptr d => uptoBulk d + 1
  | .slice elems spare => uptoBulkAll elems + uptoBulkAll spare + 1
  | .agg parts => uptoBulkAll parts + 1
  | .iface _ d => uptoBulk d + 1
  | .map entries => uptoBulkEntries entries + 1
  | .held _ => 1
def uptoBulkAll {H : Type} : List (DataW H) → Nat
  | [] => 0
  | d :: r => uptoBulk d + uptoBulkAll r
def uptoBulkEntries {H : Type} : List (Lit × DataW H) → Nat
  | [] => 0
  | x :: r => uptoBulkEntry x + uptoBulkEntries r
def uptoBulkEntry {H : Type} : Lit × DataW H → Nat
  | (.string bytes, d) => bytes.length + uptoBulk d + 1
  | (_, d) => uptoBulk d + 1
 end
def uptoSmall : (H : Type) → List (DataW H) → Bool := fun _ ds => decide (uptoBulkAll ds ≤ 1048576)
def OpenSpec.upto (s : _root_.Go.ChangeSpec) : _root_.Go.OpenSpec := { _root_.Go.OpenSpec.ofChange s with cond := some uptoSmall }

/-- 'laws.FnExactPutFile', WHERE WHAT IT READS IS OF BULK AT MOST 1048576: true; the input reads as it did. -/
def fnExactPutFileUptoRow : OpenClaim := { program := "ytepdfppbnepamabgreat", sum := "f580bd4db4c12bba14bb20cb2586d22f705651704817819fa49e6673aaf58260", func := "loop.example/g00452/laws.FnExactPutFile", spec := "fnExactPutFile", inPlace := ["internal/abi.NoEscape", "internal/bytealg.MakeNoZero", "slices.overlaps[loop.example/g00452/impl.Res]"], unfollowed := true, recurses := true, apart := false, narrowed := true }
def FnExactPutFileUptoSaid : Prop := fnExactPutFileUptoRow.holds Tryz.pinned (OpenSpec.upto fnExactPutFileSpec)

/-- 'laws.FnExactMakeColl', WHERE WHAT IT READS IS OF BULK AT MOST 1048576: true; the input reads as it did. -/
def fnExactMakeCollUptoRow : OpenClaim := { program := "ytepdfppbnepamabgreat", sum := "f580bd4db4c12bba14bb20cb2586d22f705651704817819fa49e6673aaf58260", func := "loop.example/g00452/laws.FnExactMakeColl", spec := "fnExactMakeColl", inPlace := ["internal/abi.NoEscape", "internal/bytealg.MakeNoZero", "slices.overlaps[loop.example/g00452/impl.Res]"], unfollowed := true, recurses := true, apart := false, narrowed := true }
def FnExactMakeCollUptoSaid : Prop := fnExactMakeCollUptoRow.holds Tryz.pinned (OpenSpec.upto fnExactMakeCollSpec)

/-- 'laws.FnExactCopyTree', WHERE WHAT IT READS IS OF BULK AT MOST 1048576: true; the input reads as it did. -/
def fnExactCopyTreeUptoRow : OpenClaim := { program := "ytepdfppbnepamabgreat", sum := "f580bd4db4c12bba14bb20cb2586d22f705651704817819fa49e6673aaf58260", func := "loop.example/g00452/laws.FnExactCopyTree", spec := "fnExactCopyTree", inPlace := ["internal/abi.NoEscape", "internal/bytealg.MakeNoZero", "slices.overlaps[loop.example/g00452/impl.Res]"], unfollowed := true, recurses := true, apart := false, narrowed := true }
def FnExactCopyTreeUptoSaid : Prop := fnExactCopyTreeUptoRow.holds Tryz.pinned (OpenSpec.upto fnExactCopyTreeSpec)

/-- 'laws.FnExactMoveTree', WHERE WHAT IT READS IS OF BULK AT MOST 1048576: true; the input reads as it did. -/
def fnExactMoveTreeUptoRow : OpenClaim := { program := "ytepdfppbnepamabgreat", sum := "f580bd4db4c12bba14bb20cb2586d22f705651704817819fa49e6673aaf58260", func := "loop.example/g00452/laws.FnExactMoveTree", spec := "fnExactMoveTree", inPlace := ["internal/abi.NoEscape", "internal/bytealg.MakeNoZero", "slices.overlaps[loop.example/g00452/impl.Res]"], unfollowed := true, recurses := true, apart := false, narrowed := true }
def FnExactMoveTreeUptoSaid : Prop := fnExactMoveTreeUptoRow.holds Tryz.pinned (OpenSpec.upto fnExactMoveTreeSpec)

end Rows
end Go.Proofs.YtepdfppbnepamabGreat
