/-
  Rows of texts that are marked.
-/
import Derived.Test.YtepdfppbnepamabGreatMathOrder
import Derived.Test.YtepdfppbnepamabGreatMathPath
import Derived.Test.YtepdfppbnepamabGreatMarkText
namespace Go.Proofs.YtepdfppbnepamabGreat
open Go.RowKit M
set_option linter.unusedVariables false

/-- The marks from k on. -/
def marks (k n : Nat) : List ByteArray := (List.range n).map fun q => mt (k + q)
theorem marks_length (k n : Nat) : (marks k n).length = n := by simp [marks]
theorem marks_at (k n j : Nat) (h : j < n) : (marks k n)[j]'(by rw [marks_length]; exact h) = mt (k + j) := by simp [marks]

end Go.Proofs.YtepdfppbnepamabGreat
