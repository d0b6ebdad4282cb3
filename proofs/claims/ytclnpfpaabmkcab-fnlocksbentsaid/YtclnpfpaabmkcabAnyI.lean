/-
  Whether a number is one of a list.
-/
import Derived.Test.YtclnpfpaabmkcabInts
import Derived.Test.YtclnpfpaabmkcabTurn
import Derived.Test.YtclnpfpaabmkcabRowC
import Derived.Test.YtclnpfpaabmkcabSpecPl
namespace Go.Proofs.Ytclnpfpaabmkcab
open Go.RowKit M
set_option linter.unusedVariables false

theorem anyI_none {t : Int} {l : List Int} (h : ∀ j (hj : j < l.length), l[j] ≠ t) : l.any (· == t) = false := by
  rw [Bool.eq_false_iff]
  intro e
  obtain ⟨x, hx, hp⟩ := List.any_eq_true.1 e
  obtain ⟨j, hj, rfl⟩ := List.mem_iff_getElem.1 hx
  exact h j hj (by simpa using hp)
theorem anyI_some {t : Int} {l : List Int} {k : Nat} (hk : k < l.length) (h : l[k] = t) : l.any (· == t) = true :=
  List.any_eq_true.2 ⟨l[k], List.getElem_mem hk, by simpa using h⟩
end Go.Proofs.Ytclnpfpaabmkcab
