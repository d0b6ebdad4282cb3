/-
  What stays and comes, from an earlier block on.
-/
import Derived.Test.YtclnpfpaabmkcaaGreatTaken
import Derived.Test.YtclnpfpaabmkcaaGreatGaveIs
namespace Go.Proofs.YtclnpfpaabmkcaaGreat
open Go.RowKit M
theorem TurnGot.down {W : World} {L L' : Nat} {st cs : List Rs} {g caps g2 : Nat} (h : TurnGot W L st cs g caps g2) (hL : L' ≤ L) : TurnGot W L' st cs g caps g2 := by
  obtain ⟨ts, pb, qb, B1, lo1, B2, hi2, h1, h2, h3, h4, h5, h6, h7, h8, h9⟩ := h
  exact ⟨ts, pb, qb, B1, lo1, B2, hi2, h1, h2, h3, h4, h5, h6, Nat.le_trans hL h7, Nat.le_trans hL h8, h9⟩

end Go.Proofs.YtclnpfpaabmkcaaGreat
