/-
  What impl.nameOfNode, impl.davName do.
-/
import Derived.Test.YtclnpfpaabmkcabMathSetsOf
import Derived.Test.YtclnpfpaabmkcabNeName
import Derived.Test.YtclnpfpaabmkcabNodes
import Derived.Test.YtclnpfpaabmkcabClone
import Derived.Test.YtclnpfpaabmkcabRowsV
import Derived.Test.YtclnpfpaabmkcabBx4
namespace Go.Proofs.Ytclnpfpaabmkcab
open Go.RowKit M
set_option linter.unusedVariables false

set_option maxHeartbeats 1000000 in
theorem nameOfNode_any (x y z : ByteArray) (a : Option Addr) (n c : Nat) (w : World) :
    Calls Try.prog 76 #[.agg #[.string x, .string y, .string z, .slice a n c]] w fun e w' => e = .returned (.agg #[.string x, .string y]) ∧ Below w.heap.size w w' := by
  go_enter Try.func76, Try.ntmps76
  go_wp2
  exact bodyPost_ret (v := .agg #[.string x, .string y]) (by simp [results, Try.results76, go_sem]) rfl ⟨rfl, ((Below.refl _ _).alloc (Nat.le_refl _) _).alloc (by simp) _⟩
set_option maxHeartbeats 1000000 in
theorem davName_any (x : ByteArray) (w : World) :
    Calls Try.prog 77 #[.string x] w fun e w' => e = .returned (.agg #[.string davT, .string x]) ∧ Below w.heap.size w w' := by
  go_enter Try.func77, Try.ntmps77
  go_wp2
  exact bodyPost_ret (v := .agg #[.string davT, .string x]) (by simp [results, Try.results77, go_sem, davT]) rfl ⟨rfl, (Below.refl _ _).alloc (Nat.le_refl _) _⟩
/-- Whether two names are the same, told by their texts. -/
theorem isD_text (y : ByteArray) (n : Nd) : (n.ns.toList == davT.toList && n.nm.toList == y.toList) = isD y n := by
  unfold isD
  congr 1
  · by_cases e : n.ns = davT
    · simp [e]
    · rw [decide_eq_false e]; exact beq_eq_false_iff_ne.2 (fun h => e (strInjP h))
  · by_cases e : n.nm = y
    · simp [e]
    · rw [decide_eq_false e]; exact beq_eq_false_iff_ne.2 (fun h => e (strInjP h))
end Go.Proofs.Ytclnpfpaabmkcab
