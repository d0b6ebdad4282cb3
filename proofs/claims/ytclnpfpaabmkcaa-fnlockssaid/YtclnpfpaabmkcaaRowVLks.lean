/-
  A row of locks, as a slice.
-/
import Derived.Test.YtclnpfpaabmkcaaLockRows
namespace Go.Proofs.Ytclnpfpaabmkcaa
open Go.RowKit M
theorem lks_of_rowV {w : World} {g B : Nat} {ts : List LkT} {l : List Lk} (e : ts.map (·.r) = l) (h : RowV w g ts) (hi : InV w B ts) (hB : B ≤ w.heap.size) : Lks w w.heap.size (some ⟨g, 0, none⟩) l := by
  rw [← e]; exact h.lks hi h.1 hB
end Go.Proofs.Ytclnpfpaabmkcaa
