/-
  Texts held against one another.
-/
import Derived.Test.YtkgdmlfdlkmojaaGreatMathFind
namespace Go.Proofs.YtkgdmlfdlkmojaaGreat
open Go.RowKit

theorem neBs {x y : ByteArray} (h : ¬ x = y) : (x.toList == y.toList) = false := by
  rw [beq_eq_false_iff_ne]; exact fun e => h (strInjP e)
theorem eqBs {x y : ByteArray} (h : x = y) : (x.toList == y.toList) = true := by rw [h]; simp
end Go.Proofs.YtkgdmlfdlkmojaaGreat
