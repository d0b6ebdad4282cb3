/-
  Two answers that are the same.
-/
import Derived.Test.YtclnpfpaabmkcabRows
import Derived.WalkKit
namespace Go.Proofs.Ytclnpfpaabmkcab

theorem ret_bool {a b : Bool} (h : a = b) : Ending.returned (.bool a) = .returned (.bool b) := by rw [h]
end Go.Proofs.Ytclnpfpaabmkcab
