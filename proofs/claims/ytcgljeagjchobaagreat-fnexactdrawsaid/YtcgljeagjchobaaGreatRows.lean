/-
  No cell of these rows narrows 'for every input' (looked for: loops, veiled, ifaces, maps, wideKeys, modest, calm, conditions, laid).
  DERIVED. THE GIVEN ROWS OF THIS SEAT. 3 by the template 'for every input the law returns true; each argument reads behind the call as it read before'; 0 by the template 'total and deterministic' (their statements: YtcgljeagjchobaaGreatTotals.lean).
  GIVEN WITH THE SEED: the statements are not yours to turn. If you find one false, say at which input.
  Laid BY PROGRAM, IN A SANDBOX (cutbox-rows.mjs): the forced cells as the released guide's own fill.sh prints them over the translation fe78e2258feaa979… (all of the seat's roots in one cut). By AI agents, Wed Nov 11 2026. No macro, syntax, notation, axiom, sorry.
-/
import Derived.Test.YtcgljeagjchobaaGreatChecked
import GoSem.Claim
import GoSem.ClaimJoined
import GoSem.ClaimMapViews
import Derived.JoinedTies
import Derived.KernelRfl
namespace Go.Proofs.YtcgljeagjchobaaGreat
/- THE CELL 'sum', in the pinned program and in every row, IS THE sha256 OF THE DUMP (.gsa) THAT YtcgljeagjchobaaGreatProg.lean LOADS. Nothing in Lean hashes anything: it is a label: what it is worth is what the hold of that sum in a sandbox is worth. -/
noncomputable def Tryz.pinned : Pinned := { name := "ytcgljeagjchobaagreat", sum := "fe78e2258feaa979f7ac098bd3498fbd892cb5545e9dcf99eabe71f8d54127e8", checked := Tryz.checked }
namespace Rows
def none {H : Type} : Left H := { results := [], args := [] }

/-- 'laws.FnExactSrvOk': WHATEVER THE INPUT: true; the input reads as it did. -/
def fnExactSrvOkSpec : ChangeSpec := { name := "fnExactSrvOk", fn := fun _ => fun
  | [d] => { results := [.lit (.bool true)], args := [d] }
  | _ => none }
def fnExactSrvOkRow : OpenClaim := { program := "ytcgljeagjchobaagreat", sum := "fe78e2258feaa979f7ac098bd3498fbd892cb5545e9dcf99eabe71f8d54127e8", func := "loop.example/g00452/laws.FnExactSrvOk", spec := "fnExactSrvOk", inPlace := ["internal/abi.NoEscape", "internal/bytealg.MakeNoZero"], unfollowed := true, recurses := true, apart := false }
def FnExactSrvOkSaid : Prop := fnExactSrvOkRow.holds Tryz.pinned (OpenSpec.ofChange fnExactSrvOkSpec)

/-- ITS FALSE NEIGHBOUR: 'it returns false'. Refute it at one input. -/
def fnExactSrvOkWrong : ChangeSpec := { name := "fnExactSrvOk", fn := fun _ => fun
  | [d] => { results := [.lit (.bool false)], args := [d] }
  | _ => none }
def FnExactSrvOkWrongFalsely : Prop := fnExactSrvOkRow.holds Tryz.pinned (OpenSpec.ofChange fnExactSrvOkWrong)

/-- 'laws.FnExactTick': WHATEVER THE INPUT: true; the input reads as it did. -/
def fnExactTickSpec : ChangeSpec := { name := "fnExactTick", fn := fun _ => fun
  | [d1, d2] => { results := [.lit (.bool true)], args := [d1, d2] }
  | _ => none }
def fnExactTickRow : OpenClaim := { program := "ytcgljeagjchobaagreat", sum := "fe78e2258feaa979f7ac098bd3498fbd892cb5545e9dcf99eabe71f8d54127e8", func := "loop.example/g00452/laws.FnExactTick", spec := "fnExactTick", inPlace := ["internal/abi.NoEscape", "internal/bytealg.MakeNoZero"], unfollowed := true, recurses := true, apart := false }
def FnExactTickSaid : Prop := fnExactTickRow.holds Tryz.pinned (OpenSpec.ofChange fnExactTickSpec)

/-- ITS FALSE NEIGHBOUR: 'it returns false'. Refute it at one input. -/
def fnExactTickWrong : ChangeSpec := { name := "fnExactTick", fn := fun _ => fun
  | [d1, d2] => { results := [.lit (.bool false)], args := [d1, d2] }
  | _ => none }
def FnExactTickWrongFalsely : Prop := fnExactTickRow.holds Tryz.pinned (OpenSpec.ofChange fnExactTickWrong)

/-- 'laws.FnExactDraw': WHATEVER THE INPUT: true; the input reads as it did. -/
def fnExactDrawSpec : ChangeSpec := { name := "fnExactDraw", fn := fun _ => fun
  | [d1, d2] => { results := [.lit (.bool true)], args := [d1, d2] }
  | _ => none }
def fnExactDrawRow : OpenClaim := { program := "ytcgljeagjchobaagreat", sum := "fe78e2258feaa979f7ac098bd3498fbd892cb5545e9dcf99eabe71f8d54127e8", func := "loop.example/g00452/laws.FnExactDraw", spec := "fnExactDraw", inPlace := ["internal/abi.NoEscape", "internal/bytealg.MakeNoZero"], unfollowed := true, recurses := true, apart := false }
def FnExactDrawSaid : Prop := fnExactDrawRow.holds Tryz.pinned (OpenSpec.ofChange fnExactDrawSpec)

/-- ITS FALSE NEIGHBOUR: 'it returns false'. Refute it at one input. -/
def fnExactDrawWrong : ChangeSpec := { name := "fnExactDraw", fn := fun _ => fun
  | [d1, d2] => { results := [.lit (.bool false)], args := [d1, d2] }
  | _ => none }
def FnExactDrawWrongFalsely : Prop := fnExactDrawRow.holds Tryz.pinned (OpenSpec.ofChange fnExactDrawWrong)

/- THE SECOND FORM. 'bulk': how many values and letters a reading holds, each counted each time it is reached (what is shared counts as often as it is met; a slice's spare places count too). A statement '..UptoSaid' is the law's where the arguments, and the package variables that the reading takes, are together of bulk at most 1048576: NARROWER than '..Said'. Prove '..Said' where nothing that the law and all that it calls make is longer than what came in: it says more and counts as full. Else prove '..UptoSaid'. A law counts once. -/
mutual
def uptoBulk {H : Type} : DataW H → Nat
  | .lit (.string bytes) => bytes.length + 1
  | .lit _ => 1
  | .nil => 1
  | .ptr d => uptoBulk d + 1
  | .slice elems spare => uptoBulkAll elems + uptoBulkAll spare + 1
  | .agg parts => uptoBulkAll parts + 1
  | .iface _ d => uptoBulk d + 1
  | .map entries => uptoBulkEntries entries + 1
  | .held _ => 1
def uptoBulkAll {H : Type} : List (DataW H) → Nat
  | [] => 0
  | d :: r => uptoBulk d + uptoBulkAll r
def uptoBulkEntries {H : Type} : List (Lit × DataW H) → Nat
  | [] => 0
  | x :: r => uptoBulkEntry x + uptoBulkEntries r
def uptoBulkEntry {H : Type} : Lit × DataW H → Nat
  | (.string bytes, d) => bytes.length + uptoBulk d + 1
  | (_, d) => uptoBulk d + 1
 end
def uptoSmall : (H : Type) → List (DataW H) → Bool := fun _ ds => decide (uptoBulkAll ds ≤ 1048576)
def OpenSpec.upto (s : _root_.Go.ChangeSpec) : _root_.Go.OpenSpec := { _root_.Go.OpenSpec.ofChange s with cond := some uptoSmall }

/-- 'laws.FnExactSrvOk', WHERE WHAT IT READS IS OF BULK AT MOST 1048576: true; the input reads as it did. -/
def fnExactSrvOkUptoRow : OpenClaim := { program := "ytcgljeagjchobaagreat", sum := "fe78e2258feaa979f7ac098bd3498fbd892cb5545e9dcf99eabe71f8d54127e8", func := "loop.example/g00452/laws.FnExactSrvOk", spec := "fnExactSrvOk", inPlace := ["internal/abi.NoEscape", "internal/bytealg.MakeNoZero"], unfollowed := true, recurses := true, apart := false, narrowed := true }
def FnExactSrvOkUptoSaid : Prop := fnExactSrvOkUptoRow.holds Tryz.pinned (OpenSpec.upto fnExactSrvOkSpec)

/-- 'laws.FnExactTick', WHERE WHAT IT READS IS OF BULK AT MOST 1048576: true; the input reads as it did. -/
def fnExactTickUptoRow : OpenClaim := { program := "ytcgljeagjchobaagreat", sum := "fe78e2258feaa979f7ac098bd3498fbd892cb5545e9dcf99eabe71f8d54127e8", func := "loop.example/g00452/laws.FnExactTick", spec := "fnExactTick", inPlace := ["internal/abi.NoEscape", "internal/bytealg.MakeNoZero"], unfollowed := true, recurses := true, apart := false, narrowed := true }
def FnExactTickUptoSaid : Prop := fnExactTickUptoRow.holds Tryz.pinned (OpenSpec.upto fnExactTickSpec)

/-- 'laws.FnExactDraw', WHERE WHAT IT READS IS OF BULK AT MOST 1048576: true; the input reads as it did. -/
def fnExactDrawUptoRow : OpenClaim := { program := "ytcgljeagjchobaagreat", sum := "fe78e2258feaa979f7ac098bd3498fbd892cb5545e9dcf99eabe71f8d54127e8", func := "loop.example/g00452/laws.FnExactDraw", spec := "fnExactDraw", inPlace := ["internal/abi.NoEscape", "internal/bytealg.MakeNoZero"], unfollowed := true, recurses := true, apart := false, narrowed := true }
def FnExactDrawUptoSaid : Prop := fnExactDrawUptoRow.holds Tryz.pinned (OpenSpec.upto fnExactDrawSpec)

end Rows
end Go.Proofs.YtcgljeagjchobaaGreat
