/-
  Two answers that are the same.
-/
import Derived.Test.YtclnpfpaabmkcaaRows
import Derived.WalkKit
namespace Go.Proofs.Ytclnpfpaabmkcaa

theorem ret_bool {a b : Bool} (h : a = b) : Ending.returned (.bool a) = .returned (.bool b) := by rw [h]
end Go.Proofs.Ytclnpfpaabmkcaa
