/-
  No cell of these rows narrows 'for every input' (looked for: loops, veiled, ifaces, maps, wideKeys, modest, calm, conditions, laid).
  DERIVED. THE GIVEN ROWS OF THIS SEAT. 5 by the template 'for every input the law returns true; each argument reads behind the call as it read before'; 0 by the template 'total and deterministic' (their statements: YtackgogcpdbnlabTotals.lean).
  GIVEN WITH THE SEED: the statements are not yours to turn. If you find one false, say at which input.
  Laid BY PROGRAM, IN A SANDBOX (cutbox-rows.mjs): the forced cells as the released guide's own fill.sh prints them over the translation dce5ed9f95f8be32… (all of the seat's roots in one cut). By AI agents, Wed Nov 11 2026. No macro, syntax, notation, axiom, sorry.
-/
import Derived.Test.YtackgogcpdbnlabChecked
import GoSem.Claim
import GoSem.ClaimJoined
import GoSem.ClaimMapViews
import Derived.JoinedTies
import Derived.KernelRfl
namespace Go.Proofs.Ytackgogcpdbnlab
/- THE CELL 'sum', in the pinned program and in every row, IS THE sha256 OF THE DUMP (.gsa) THAT YtackgogcpdbnlabProg.lean LOADS. Nothing in Lean hashes anything: it is a label: what it is worth is what the hold of that sum in a sandbox is worth. -/
noncomputable def Try.pinned : Pinned := { name := "ytackgogcpdbnlab", sum := "dce5ed9f95f8be325aba16e88bf75d9b1ca8213bc164ef5cbfd56413ff58b605", checked := Try.checked }
namespace Rows
def none {H : Type} : Left H := { results := [], args := [] }

/-- 'laws.FnExactAddLock': WHATEVER THE INPUT: true; the input reads as it did. -/
def fnExactAddLockSpec : ChangeSpec := { name := "fnExactAddLock", fn := fun _ => fun
  | [d1, d2] => { results := [.lit (.bool true)], args := [d1, d2] }
  | _ => none }
def fnExactAddLockRow : OpenClaim := { program := "ytackgogcpdbnlab", sum := "dce5ed9f95f8be325aba16e88bf75d9b1ca8213bc164ef5cbfd56413ff58b605", func := "loop.example/g00452/laws.FnExactAddLock", spec := "fnExactAddLock", unfollowed := true, recurses := true, apart := false }
def FnExactAddLockSaid : Prop := fnExactAddLockRow.holds Try.pinned (OpenSpec.ofChange fnExactAddLockSpec)

/-- ITS FALSE NEIGHBOUR: 'it returns false'. Refute it at one input. -/
def fnExactAddLockWrong : ChangeSpec := { name := "fnExactAddLock", fn := fun _ => fun
  | [d1, d2] => { results := [.lit (.bool false)], args := [d1, d2] }
  | _ => none }
def FnExactAddLockWrongFalsely : Prop := fnExactAddLockRow.holds Try.pinned (OpenSpec.ofChange fnExactAddLockWrong)

/-- 'laws.FnExactDropLock': WHATEVER THE INPUT: true; the input reads as it did. -/
def fnExactDropLockSpec : ChangeSpec := { name := "fnExactDropLock", fn := fun _ => fun
  | [d1, d2] => { results := [.lit (.bool true)], args := [d1, d2] }
  | _ => none }
def fnExactDropLockRow : OpenClaim := { program := "ytackgogcpdbnlab", sum := "dce5ed9f95f8be325aba16e88bf75d9b1ca8213bc164ef5cbfd56413ff58b605", func := "loop.example/g00452/laws.FnExactDropLock", spec := "fnExactDropLock", unfollowed := true, recurses := true, apart := false }
def FnExactDropLockSaid : Prop := fnExactDropLockRow.holds Try.pinned (OpenSpec.ofChange fnExactDropLockSpec)

/-- ITS FALSE NEIGHBOUR: 'it returns false'. Refute it at one input. -/
def fnExactDropLockWrong : ChangeSpec := { name := "fnExactDropLock", fn := fun _ => fun
  | [d1, d2] => { results := [.lit (.bool false)], args := [d1, d2] }
  | _ => none }
def FnExactDropLockWrongFalsely : Prop := fnExactDropLockRow.holds Try.pinned (OpenSpec.ofChange fnExactDropLockWrong)

/-- 'laws.FnExactLiveLocks': WHATEVER THE INPUT: true; the input reads as it did. -/
def fnExactLiveLocksSpec : ChangeSpec := { name := "fnExactLiveLocks", fn := fun _ => fun
  | [d1, d2] => { results := [.lit (.bool true)], args := [d1, d2] }
  | _ => none }
def fnExactLiveLocksRow : OpenClaim := { program := "ytackgogcpdbnlab", sum := "dce5ed9f95f8be325aba16e88bf75d9b1ca8213bc164ef5cbfd56413ff58b605", func := "loop.example/g00452/laws.FnExactLiveLocks", spec := "fnExactLiveLocks", unfollowed := true, recurses := true, apart := false }
def FnExactLiveLocksSaid : Prop := fnExactLiveLocksRow.holds Try.pinned (OpenSpec.ofChange fnExactLiveLocksSpec)

/-- ITS FALSE NEIGHBOUR: 'it returns false'. Refute it at one input. -/
def fnExactLiveLocksWrong : ChangeSpec := { name := "fnExactLiveLocks", fn := fun _ => fun
  | [d1, d2] => { results := [.lit (.bool false)], args := [d1, d2] }
  | _ => none }
def FnExactLiveLocksWrongFalsely : Prop := fnExactLiveLocksRow.holds Try.pinned (OpenSpec.ofChange fnExactLiveLocksWrong)

/-- 'laws.FnExactTokensAt': WHATEVER THE INPUT: true; the input reads as it did. -/
def fnExactTokensAtSpec : ChangeSpec := { name := "fnExactTokensAt", fn := fun _ => fun
  | [d1, d2] => { results := [.lit (.bool true)], args := [d1, d2] }
  | _ => none }
def fnExactTokensAtRow : OpenClaim := { program := "ytackgogcpdbnlab", sum := "dce5ed9f95f8be325aba16e88bf75d9b1ca8213bc164ef5cbfd56413ff58b605", func := "loop.example/g00452/laws.FnExactTokensAt", spec := "fnExactTokensAt", unfollowed := true, recurses := true, apart := false }
def FnExactTokensAtSaid : Prop := fnExactTokensAtRow.holds Try.pinned (OpenSpec.ofChange fnExactTokensAtSpec)

/-- ITS FALSE NEIGHBOUR: 'it returns false'. Refute it at one input. -/
def fnExactTokensAtWrong : ChangeSpec := { name := "fnExactTokensAt", fn := fun _ => fun
  | [d1, d2] => { results := [.lit (.bool false)], args := [d1, d2] }
  | _ => none }
def FnExactTokensAtWrongFalsely : Prop := fnExactTokensAtRow.holds Try.pinned (OpenSpec.ofChange fnExactTokensAtWrong)

/-- 'laws.FnExactMayTurn': WHATEVER THE INPUT: true; the input reads as it did. -/
def fnExactMayTurnSpec : ChangeSpec := { name := "fnExactMayTurn", fn := fun _ => fun
  | [d1, d2, d3, d4] => { results := [.lit (.bool true)], args := [d1, d2, d3, d4] }
  | _ => none }
def fnExactMayTurnRow : OpenClaim := { program := "ytackgogcpdbnlab", sum := "dce5ed9f95f8be325aba16e88bf75d9b1ca8213bc164ef5cbfd56413ff58b605", func := "loop.example/g00452/laws.FnExactMayTurn", spec := "fnExactMayTurn", unfollowed := true, recurses := true, apart := false }
def FnExactMayTurnSaid : Prop := fnExactMayTurnRow.holds Try.pinned (OpenSpec.ofChange fnExactMayTurnSpec)

/-- ITS FALSE NEIGHBOUR: 'it returns false'. Refute it at one input. -/
def fnExactMayTurnWrong : ChangeSpec := { name := "fnExactMayTurn", fn := fun _ => fun
  | [d1, d2, d3, d4] => { results := [.lit (.bool false)], args := [d1, d2, d3, d4] }
  | _ => none }
def FnExactMayTurnWrongFalsely : Prop := fnExactMayTurnRow.holds Try.pinned (OpenSpec.ofChange fnExactMayTurnWrong)

/- THE SECOND FORM. 'bulk': how many values and letters a reading holds, each counted each time it is reached (what is shared counts as often as it is met; a slice's spare places count too). A statement '..UptoSaid' is the law's where the arguments, and the package variables that the reading takes, are together of bulk at most 1048576: NARROWER than '..Said'. Prove '..Said' where nothing that the law and all that it calls make is longer than what came in: it says more and counts as full. Else prove '..UptoSaid'. A law counts once. -/
mutual
def uptoBulk {H : Type} : DataW H → Nat
  | .lit (.string bytes) => bytes.length + 1
  | .lit _ => 1
  | .nil => 1
  | .ptr d => uptoBulk d + 1
  | .slice elems spare => uptoBulkAll elems + uptoBulkAll spare + 1
  | .agg parts => uptoBulkAll parts + 1
  | .iface _ d => uptoBulk d + 1
  | .map entries => uptoBulkEntries entries + 1
  | .held _ => 1
def uptoBulkAll {H : Type} : List (DataW H) → Nat
  | [] => 0
  | d :: r => uptoBulk d + uptoBulkAll r
def uptoBulkEntries {H : Type} : List (Lit × DataW H) → Nat
  | [] => 0
  | x :: r => uptoBulkEntry x + uptoBulkEntries r
def uptoBulkEntry {H : Type} : Lit × DataW H → Nat
  | (.string bytes, d) => bytes.length + uptoBulk d + 1
  | (_, d) => uptoBulk d + 1
 end
def uptoSmall : (H : Type) → List (DataW H) → Bool := fun _ ds => decide (uptoBulkAll ds ≤ 1048576)
def OpenSpec.upto (s : _root_.Go.ChangeSpec) : _root_.Go.OpenSpec := { _root_.Go.OpenSpec.ofChange s with cond := some uptoSmall }

/-- 'laws.FnExactAddLock', WHERE WHAT IT READS IS OF BULK AT MOST 1048576: true; the input reads as it did. -/
def fnExactAddLockUptoRow : OpenClaim := { program := "ytackgogcpdbnlab", sum := "dce5ed9f95f8be325aba16e88bf75d9b1ca8213bc164ef5cbfd56413ff58b605", func := "loop.example/g00452/laws.FnExactAddLock", spec := "fnExactAddLock", unfollowed := true, recurses := true, apart := false, narrowed := true }
def FnExactAddLockUptoSaid : Prop := fnExactAddLockUptoRow.holds Try.pinned (OpenSpec.upto fnExactAddLockSpec)

/-- 'laws.FnExactDropLock', WHERE WHAT IT READS IS OF BULK AT MOST 1048576: true; the input reads as it did. -/
def fnExactDropLockUptoRow : OpenClaim := { program := "ytackgogcpdbnlab", sum := "dce5ed9f95f8be325aba16e88bf75d9b1ca8213bc164ef5cbfd56413ff58b605", func := "loop.example/g00452/laws.FnExactDropLock", spec := "fnExactDropLock", unfollowed := true, recurses := true, apart := false, narrowed := true }
def FnExactDropLockUptoSaid : Prop := fnExactDropLockUptoRow.holds Try.pinned (OpenSpec.upto fnExactDropLockSpec)

/-- 'laws.FnExactLiveLocks', WHERE WHAT IT READS IS OF BULK AT MOST 1048576: true; the input reads as it did. -/
def fnExactLiveLocksUptoRow : OpenClaim := { program := "ytackgogcpdbnlab", sum := "dce5ed9f95f8be325aba16e88bf75d9b1ca8213bc164ef5cbfd56413ff58b605", func := "loop.example/g00452/laws.FnExactLiveLocks", spec := "fnExactLiveLocks", unfollowed := true, recurses := true, apart := false, narrowed := true }
def FnExactLiveLocksUptoSaid : Prop := fnExactLiveLocksUptoRow.holds Try.pinned (OpenSpec.upto fnExactLiveLocksSpec)

/-- 'laws.FnExactTokensAt', WHERE WHAT IT READS IS OF BULK AT MOST 1048576: true; the input reads as it did. -/
def fnExactTokensAtUptoRow : OpenClaim := { program := "ytackgogcpdbnlab", sum := "dce5ed9f95f8be325aba16e88bf75d9b1ca8213bc164ef5cbfd56413ff58b605", func := "loop.example/g00452/laws.FnExactTokensAt", spec := "fnExactTokensAt", unfollowed := true, recurses := true, apart := false, narrowed := true }
def FnExactTokensAtUptoSaid : Prop := fnExactTokensAtUptoRow.holds Try.pinned (OpenSpec.upto fnExactTokensAtSpec)

/-- 'laws.FnExactMayTurn', WHERE WHAT IT READS IS OF BULK AT MOST 1048576: true; the input reads as it did. -/
def fnExactMayTurnUptoRow : OpenClaim := { program := "ytackgogcpdbnlab", sum := "dce5ed9f95f8be325aba16e88bf75d9b1ca8213bc164ef5cbfd56413ff58b605", func := "loop.example/g00452/laws.FnExactMayTurn", spec := "fnExactMayTurn", unfollowed := true, recurses := true, apart := false, narrowed := true }
def FnExactMayTurnUptoSaid : Prop := fnExactMayTurnUptoRow.holds Try.pinned (OpenSpec.upto fnExactMayTurnSpec)

end Rows
end Go.Proofs.Ytackgogcpdbnlab
