/-
  Two answers that are the same.
-/
import Derived.Test.YtlcmkjpdmghohaaRows
import Derived.WalkKit
namespace Go.Proofs.Ytlcmkjpdmghohaa

theorem ret_bool {a b : Bool} (h : a = b) : Ending.returned (.bool a) = .returned (.bool b) := by rw [h]
end Go.Proofs.Ytlcmkjpdmghohaa
