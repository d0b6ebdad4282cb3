/-
  What stands in a walk's context and is not to be used by it.
-/
import Derived.Below
namespace Go.Proofs.Ytclnpfpaabmkcab

open Go.RowKit
theorem hide {p : Prop} (h : p) : Hid p := h
end Go.Proofs.Ytclnpfpaabmkcab
