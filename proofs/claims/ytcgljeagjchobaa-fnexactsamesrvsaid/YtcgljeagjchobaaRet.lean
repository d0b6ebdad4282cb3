/-
  Two answers that are the same.
-/
import Derived.Test.YtcgljeagjchobaaRows
import Derived.WalkKit
namespace Go.Proofs.Ytcgljeagjchobaa

theorem ret_bool {a b : Bool} (h : a = b) : Ending.returned (.bool a) = .returned (.bool b) := by rw [h]
end Go.Proofs.Ytcgljeagjchobaa
