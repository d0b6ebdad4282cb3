/-
  A store into a row, as the memory has it then.
-/
import Derived.Test.YtkhnkockdfmkgaaGreatDoorHeads
import Derived.Scope
import Derived.WalkMore
import Derived.Laws.Rows
import Derived.Laws.ResultCell
namespace Go.Proofs.YtkhnkockdfmkgaaGreatDoor
open Go.RowKit M
set_option linter.unusedVariables false

theorem set_heap {w : World} {N : Nat} {cs : Array Value} {t : TypeId} (h : w.heap[N]? = some (.cells cs t)) (k : Nat) (v : Value) : (w.setCell ⟨N, k, none⟩ v).heap[N]? = some (.cells (cs.setIfInBounds k v) t) := by
  rw [setCell_eq_setRow w N k cs t _ v h]
  exact setRow_heap w N cs _ t _ h
theorem set_other {w : World} {N M k : Nat} {o : Obj} (h : w.heap[M]? = some o) (hne : M ≠ N) (v : Value) : (w.setCell ⟨N, k, none⟩ v).heap[M]? = some o := by
  have hb : ((Below.refl (M + 1) w).block M (Nat.lt_succ_self _)) = rfl := rfl
  rcases Nat.lt_or_gt_of_ne hne with hlt | hgt
  · exact (((Below.refl (M + 1) w).setCell (p := ⟨N, k, none⟩) hlt v).block M (Nat.lt_succ_self _)).trans h
  · show (w.heap.modify N _)[M]? = _
    rw [Array.getElem?_modify]
    simp [hne.symm, h]
end Go.Proofs.YtkhnkockdfmkgaaGreatDoor
