/-
  A growing row of things stays where its blocks do.
-/
import Derived.Test.YtclnpfpaabmkcaaGreatMathOrder
namespace Go.Proofs.YtclnpfpaabmkcaaGreat
open Go.RowKit M
set_option linter.unusedVariables false

/-- All that keeps the blocks from B on keeps a growing row. -/
theorem GrowR.heap {w w' : World} {B lo : Nat} {v : Value} {ts : List RsT} (g : GrowR w B v ts lo) (hz : w.heap.size ≤ w'.heap.size) (e : ∀ b, B ≤ b → b < w.heap.size → w'.heap[b]? = w.heap[b]?) : GrowR w' B v ts lo := by
  refine ⟨⟨g.own.1, ?_⟩, g.blk, Nat.le_trans g.top hz, fun j hj => ?_, g.ord, g.caps, fun j hj => (g.room j hj).of (fun o => by simp only [World.cell?, e _ (Nat.le_trans (g.el j hj).1 (Nat.le_of_lt (g.el j hj).2.1)) (g.el j hj).2.2.2.2.1.1])⟩
  · rcases g.own.2 with h | ⟨g, cap, cur, ev, hB, hh, hr⟩
    · exact .inl h
    · exact .inr ⟨g, cap, cur, ev, hB, (e g hB (Array.getElem?_eq_some_iff.1 hh).1).trans hh, hr⟩
  · obtain ⟨h1, h2, h3, h4, h5, h6⟩ := g.el j hj
    refine ⟨h1, h2, h3, ⟨Nat.lt_of_lt_of_le h4.1 hz, fun i hi => ?_⟩, h5.of (Nat.lt_of_lt_of_le h5.1 hz) (fun o => by simp only [World.cell?, e _ (by omega) h5.1]) (fun o => by simp only [World.frozen?, e _ (by omega) h5.1]), h6⟩
    have := h4.2 i hi
    simp only [World.cell?, World.frozen?] at this ⊢
    rw [e _ h1 h4.1]
    exact this
end Go.Proofs.YtclnpfpaabmkcaaGreat
