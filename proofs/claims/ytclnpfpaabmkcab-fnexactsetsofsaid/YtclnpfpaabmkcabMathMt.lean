/-
  The laws' marks, as texts.
-/
import Derived.Test.YtclnpfpaabmkcabMathQuote
import Derived.WalkKit
namespace Go.Proofs.Ytclnpfpaabmkcab
open Go.RowKit M
set_option linter.unusedVariables false

def dg (m : Nat) : UInt8 := UInt8.ofNat (48 + m % 10)
/-- The digits of a number, the last behind. -/
def mtL (n : Nat) : List UInt8 := if h : n = 0 then [] else mtL (n / 10) ++ [dg n]
termination_by n
decreasing_by omega
/-- The mark of a number. -/
def mt (n : Nat) : ByteArray := bytesOf (109 :: mtL n)

theorem mtL_zero : mtL 0 = [] := by rw [mtL]; simp
theorem mtL_step (n : Nat) (h : 0 < n) : mtL n = mtL (n / 10) ++ [dg n] := by rw [mtL, dif_neg (by omega)]
end Go.Proofs.Ytclnpfpaabmkcab
