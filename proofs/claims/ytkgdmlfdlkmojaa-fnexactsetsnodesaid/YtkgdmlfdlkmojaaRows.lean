/-
  NARROWER THAN 'FOR EVERY INPUT', by the rows' own cells (each row's printed sentence says how): FnExactSetsOf: loops.
  DERIVED. THE GIVEN ROWS OF THIS SEAT. 4 by the template 'for every input the law returns true; each argument reads behind the call as it read before'; 0 by the template 'total and deterministic' (their statements: YtkgdmlfdlkmojaaTotals.lean).
  GIVEN WITH THE SEED: the statements are not yours to turn. If you find one false, say at which input.
  Laid BY PROGRAM, IN A SANDBOX (cutbox-rows.mjs): the forced cells as the released guide's own fill.sh prints them over the translation 8bf41c3b2fd4b049… (all of the seat's roots in one cut). By AI agents, Wed Nov 11 2026. No macro, syntax, notation, axiom, sorry.
-/
import Derived.Test.YtkgdmlfdlkmojaaChecked
import GoSem.Claim
import GoSem.ClaimJoined
import GoSem.ClaimMapViews
import Derived.JoinedTies
import Derived.KernelRfl
namespace Go.Proofs.Ytkgdmlfdlkmojaa
/- THE CELL 'sum', in the pinned program and in every row, IS THE sha256 OF THE DUMP (.gsa) THAT YtkgdmlfdlkmojaaProg.lean LOADS. Nothing in Lean hashes anything: it is a label: what it is worth is what the hold of that sum in a sandbox is worth. -/
noncomputable def Try.pinned : Pinned := { name := "ytkgdmlfdlkmojaa", sum := "8bf41c3b2fd4b04961422422e07a4d2898e0075532635a141391e2625b80f85b", checked := Try.checked }
namespace Rows
def none {H : Type} : Left H := { results := [], args := [] }

/-- 'laws.FnProps': WHATEVER THE INPUT: true; the input reads as it did. -/
def fnPropsSpec : ChangeSpec := { name := "fnProps", fn := fun _ => fun
  | [d] => { results := [.lit (.bool true)], args := [d] }
  | _ => none }
def fnPropsRow : OpenClaim := { program := "ytkgdmlfdlkmojaa", sum := "8bf41c3b2fd4b04961422422e07a4d2898e0075532635a141391e2625b80f85b", func := "loop.example/g00452/laws.FnProps", spec := "fnProps", unfollowed := true, recurses := true, plainKeys := false, apart := false }
def FnPropsSaid : Prop := fnPropsRow.holds Try.pinned (OpenSpec.ofChange fnPropsSpec)

/-- ITS FALSE NEIGHBOUR: 'it returns false'. Refute it at one input. -/
def fnPropsWrong : ChangeSpec := { name := "fnProps", fn := fun _ => fun
  | [d] => { results := [.lit (.bool false)], args := [d] }
  | _ => none }
def FnPropsWrongFalsely : Prop := fnPropsRow.holds Try.pinned (OpenSpec.ofChange fnPropsWrong)

/-- 'laws.FnExactSetProps': WHATEVER THE INPUT: true; the input reads as it did. -/
def fnExactSetPropsSpec : ChangeSpec := { name := "fnExactSetProps", fn := fun _ => fun
  | [d1, d2] => { results := [.lit (.bool true)], args := [d1, d2] }
  | _ => none }
def fnExactSetPropsRow : OpenClaim := { program := "ytkgdmlfdlkmojaa", sum := "8bf41c3b2fd4b04961422422e07a4d2898e0075532635a141391e2625b80f85b", func := "loop.example/g00452/laws.FnExactSetProps", spec := "fnExactSetProps", unfollowed := true, recurses := true, plainKeys := false, apart := false }
def FnExactSetPropsSaid : Prop := fnExactSetPropsRow.holds Try.pinned (OpenSpec.ofChange fnExactSetPropsSpec)

/-- ITS FALSE NEIGHBOUR: 'it returns false'. Refute it at one input. -/
def fnExactSetPropsWrong : ChangeSpec := { name := "fnExactSetProps", fn := fun _ => fun
  | [d1, d2] => { results := [.lit (.bool false)], args := [d1, d2] }
  | _ => none }
def FnExactSetPropsWrongFalsely : Prop := fnExactSetPropsRow.holds Try.pinned (OpenSpec.ofChange fnExactSetPropsWrong)

/-- 'laws.FnExactSetsOf': WHATEVER THE INPUT: true; the input reads as it did. -/
def fnExactSetsOfSpec : ChangeSpec := { name := "fnExactSetsOf", fn := fun _ => fun
  | [d] => { results := [.lit (.bool true)], args := [d] }
  | _ => none }
def fnExactSetsOfRow : OpenClaim := { program := "ytkgdmlfdlkmojaa", sum := "8bf41c3b2fd4b04961422422e07a4d2898e0075532635a141391e2625b80f85b", func := "loop.example/g00452/laws.FnExactSetsOf", spec := "fnExactSetsOf", recurses := true, loops := true, plainKeys := false, apart := false }
def FnExactSetsOfSaid : Prop := fnExactSetsOfRow.holds Try.pinned (OpenSpec.ofChange fnExactSetsOfSpec)

/-- ITS FALSE NEIGHBOUR: 'it returns false'. Refute it at one input. -/
def fnExactSetsOfWrong : ChangeSpec := { name := "fnExactSetsOf", fn := fun _ => fun
  | [d] => { results := [.lit (.bool false)], args := [d] }
  | _ => none }
def FnExactSetsOfWrongFalsely : Prop := fnExactSetsOfRow.holds Try.pinned (OpenSpec.ofChange fnExactSetsOfWrong)

/-- 'laws.FnExactSetsNode': WHATEVER THE INPUT: true; the input reads as it did. -/
def fnExactSetsNodeSpec : ChangeSpec := { name := "fnExactSetsNode", fn := fun _ => fun
  | [d] => { results := [.lit (.bool true)], args := [d] }
  | _ => none }
def fnExactSetsNodeRow : OpenClaim := { program := "ytkgdmlfdlkmojaa", sum := "8bf41c3b2fd4b04961422422e07a4d2898e0075532635a141391e2625b80f85b", func := "loop.example/g00452/laws.FnExactSetsNode", spec := "fnExactSetsNode", recurses := true, plainKeys := false, apart := false }
def FnExactSetsNodeSaid : Prop := fnExactSetsNodeRow.holds Try.pinned (OpenSpec.ofChange fnExactSetsNodeSpec)

/-- ITS FALSE NEIGHBOUR: 'it returns false'. Refute it at one input. -/
def fnExactSetsNodeWrong : ChangeSpec := { name := "fnExactSetsNode", fn := fun _ => fun
  | [d] => { results := [.lit (.bool false)], args := [d] }
  | _ => none }
def FnExactSetsNodeWrongFalsely : Prop := fnExactSetsNodeRow.holds Try.pinned (OpenSpec.ofChange fnExactSetsNodeWrong)

/- THE SECOND FORM. 'bulk': how many values and letters a reading holds, each counted each time it is reached (what is shared counts as often as it is met; a slice's spare places count too). A statement '..UptoSaid' is the law's where the arguments, and the package variables that the reading takes, are together of bulk at most 1048576: NARROWER than '..Said'. Prove '..Said' where nothing that the law and all that it calls make is longer than what came in: it says more and counts as full. Else prove '..UptoSaid'. A law counts once. -/
mutual
def uptoBulk {H : Type} : DataW H → Nat
  | .lit (.string bytes) => bytes.length + 1
  | .lit _ => 1
  | .nil => 1
  | .ptr d => uptoBulk d + 1
  | .slice elems spare => uptoBulkAll elems + uptoBulkAll spare + 1
  | .agg parts => uptoBulkAll parts + 1
  | .iface _ d => uptoBulk d + 1
  | .map entries => uptoBulkEntries entries + 1
  | .held _ => 1
def uptoBulkAll {H : Type} : List (DataW H) → Nat
  | [] => 0
  | d :: r => uptoBulk d + uptoBulkAll r
def uptoBulkEntries {H : Type} : List (Lit × DataW H) → Nat
  | [] => 0
  | x :: r => uptoBulkEntry x + uptoBulkEntries r
def uptoBulkEntry {H : Type} : Lit × DataW H → Nat
  | (.string bytes, d) => bytes.length + uptoBulk d + 1
  | (_, d) => uptoBulk d + 1
 end
def uptoSmall : (H : Type) → List (DataW H) → Bool := fun _ ds => decide (uptoBulkAll ds ≤ 1048576)
def OpenSpec.upto (s : _root_.Go.ChangeSpec) : _root_.Go.OpenSpec := { _root_.Go.OpenSpec.ofChange s with cond := some uptoSmall }

/-- 'laws.FnProps', WHERE WHAT IT READS IS OF BULK AT MOST 1048576: true; the input reads as it did. -/
def fnPropsUptoRow : OpenClaim := { program := "ytkgdmlfdlkmojaa", sum := "8bf41c3b2fd4b04961422422e07a4d2898e0075532635a141391e2625b80f85b", func := "loop.example/g00452/laws.FnProps", spec := "fnProps", unfollowed := true, recurses := true, plainKeys := false, apart := false, narrowed := true }
def FnPropsUptoSaid : Prop := fnPropsUptoRow.holds Try.pinned (OpenSpec.upto fnPropsSpec)

/-- 'laws.FnExactSetProps', WHERE WHAT IT READS IS OF BULK AT MOST 1048576: true; the input reads as it did. -/
def fnExactSetPropsUptoRow : OpenClaim := { program := "ytkgdmlfdlkmojaa", sum := "8bf41c3b2fd4b04961422422e07a4d2898e0075532635a141391e2625b80f85b", func := "loop.example/g00452/laws.FnExactSetProps", spec := "fnExactSetProps", unfollowed := true, recurses := true, plainKeys := false, apart := false, narrowed := true }
def FnExactSetPropsUptoSaid : Prop := fnExactSetPropsUptoRow.holds Try.pinned (OpenSpec.upto fnExactSetPropsSpec)

/-- 'laws.FnExactSetsOf', WHERE WHAT IT READS IS OF BULK AT MOST 1048576: true; the input reads as it did. -/
def fnExactSetsOfUptoRow : OpenClaim := { program := "ytkgdmlfdlkmojaa", sum := "8bf41c3b2fd4b04961422422e07a4d2898e0075532635a141391e2625b80f85b", func := "loop.example/g00452/laws.FnExactSetsOf", spec := "fnExactSetsOf", recurses := true, loops := true, plainKeys := false, apart := false, narrowed := true }
def FnExactSetsOfUptoSaid : Prop := fnExactSetsOfUptoRow.holds Try.pinned (OpenSpec.upto fnExactSetsOfSpec)

/-- 'laws.FnExactSetsNode', WHERE WHAT IT READS IS OF BULK AT MOST 1048576: true; the input reads as it did. -/
def fnExactSetsNodeUptoRow : OpenClaim := { program := "ytkgdmlfdlkmojaa", sum := "8bf41c3b2fd4b04961422422e07a4d2898e0075532635a141391e2625b80f85b", func := "loop.example/g00452/laws.FnExactSetsNode", spec := "fnExactSetsNode", recurses := true, plainKeys := false, apart := false, narrowed := true }
def FnExactSetsNodeUptoSaid : Prop := fnExactSetsNodeUptoRow.holds Try.pinned (OpenSpec.upto fnExactSetsNodeSpec)

end Rows
end Go.Proofs.Ytkgdmlfdlkmojaa
