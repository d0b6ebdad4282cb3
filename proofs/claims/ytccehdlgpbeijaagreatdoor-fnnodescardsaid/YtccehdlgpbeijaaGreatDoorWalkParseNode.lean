/-
  The walk of the law FnExactParseNode: for every text it returns true, and turns nothing that was there.
-/
import Derived.Test.YtccehdlgpbeijaaGreatDoorSpecKids
import Derived.Test.YtccehdlgpbeijaaGreatDoorWalkPN
namespace Go.Proofs.YtccehdlgpbeijaaGreatDoor
open Go.RowKit M
set_option linter.unusedVariables false

theorem sd_all : ∀ f, SpN f ∧ SpK f := by
  intro f
  induction f using Nat.strongRecOn with
  | ind f ih => exact ⟨l8Read_step f (fun g hg => (ih g hg).2), l8Kids_step f (fun g hg => (ih g hg).1)⟩
theorem specParseNode_any (s : ByteArray) (w : World) (hs : s.size ≤ 1048576) :
    Calls Tryz.prog 10 #[.string s] w fun e w' => PnRet w w' (readP (pcsR s.data.toList).1) e ∧ Below w.heap.size w w' :=
  specParseNode_of (fun f => (sd_all f).1) s w hs
theorem FnExactParseNode_walk (s : ByteArray) (hs : s.size ≤ maxLen) (w : World) (_hL : laidMet Tryz.prog Rows.fnExactParseNodeRow.laid w) :
    Calls Tryz.prog 4 #[.string s] w fun e w' => e = .returned (.bool true) ∧ Below w.heap.size w w' :=
  FnExactParseNode_of (fun f => (sd_all f).1) s hs w
end Go.Proofs.YtccehdlgpbeijaaGreatDoor
