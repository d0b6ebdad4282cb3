/-
  A list of texts as the row hands it in.
-/
import Derived.Test.YtackgogcpdbnlaaStrs
import Derived.OpenShut
namespace Go.Proofs.Ytackgogcpdbnlaa
open Go.RowKit

theorem strs_of_open {w : World} {x : Addr} {len cap : Nat} {ss : List ByteArray} (hl : len ≤ cap) (hm : cap ≤ maxLen) (hz : ss.length = cap) (hcell : ∀ i, i < ss.length → w.cell? (x.add i) = some (.string (ss.getD i ByteArray.empty))) (hws : ∀ s ∈ ss, s.size ≤ maxLen) :
    ∃ zs, Strs w w.heap.size (some x) zs ∧ Short zs ∧ zs.length ≤ maxLen ∧ len = zs.length := by
  have hlen : (ss.take len).length = len := by rw [List.length_take]; omega
  refine ⟨ss.take len, fun h0 => ?_, fun s hs => hws s (List.mem_of_mem_take hs), by omega, hlen.symm⟩
  obtain ⟨b, off, spot⟩ := x
  have hc := hcell 0 (by omega)
  have hspot : spot = none := by simpa [Addr.add] using World.cell?_spot hc
  subst hspot
  have hb : b < w.heap.size := by
    have := World.block_lt_of_cell? w _ hc
    simpa [Addr.add] using this
  refine ⟨b, off, rfl, hb, fun j hj => ?_⟩
  have h1 := hcell j (by omega)
  have e : (⟨b, off, none⟩ : Addr).add j = ⟨b, off + j, none⟩ := by unfold Addr.add; split <;> simp_all
  rw [e] at h1
  rw [h1, List.getElem_take]
  simp [List.getD, List.getElem?_eq_getElem (show j < ss.length by omega)]
end Go.Proofs.Ytackgogcpdbnlaa
