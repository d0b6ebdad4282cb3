/-
  A tree that is right is small.
-/
import Derived.Test.YtccehdlgpbeijaaGreatDoorMathBack8
namespace Go.Proofs.YtccehdlgpbeijaaGreatDoor
open M

mutual
theorem okT_sz : ∀ n : Nd, n.okT → n.szN + 1 ≤ 101 * n.cnt
  | .mk a b c ks, h => by
    rw [Nd.okT] at h
    obtain ⟨h0, hk⟩ := h
    obtain ⟨h1, h2, h3, h4, h5, h6⟩ := own_parts h0
    have hb := smB_le h3
    have hb2 : b.data.toList.length = b.size := Array.length_toList
    have := okTL_sz ks hk
    rw [Nd.szN, Nd.cnt]
    omega
theorem okTL_sz : ∀ ks : List Nd, okTL ks → szL ks + ks.length ≤ 101 * cntL ks
  | [], _ => by simp [szL, cntL]
  | x :: r, h => by
    rw [okTL] at h
    have h1 := okT_sz x h.1
    have h2 := okTL_sz r h.2
    rw [szL, cntL, List.length_cons]
    omega
end
theorem nodeB_small {n : Nd} (h : nodeB n = true) : n.szN ≤ 2020 ∧ n.cnt ≤ 20 := by
  have h20 : n.cS 5 ≤ 20 := by simpa [nodeB] using h
  obtain ⟨g1, g2⟩ := cS_good n 5 h20
  have := okT_sz n g1
  exact ⟨by omega, by omega⟩
def zeroN : Nd := .mk ⟨#[]⟩ ⟨#[]⟩ ⟨#[]⟩ []
/-- The node that is answered. -/
def ndOf : Option Nd → Nd
  | none => zeroN
  | some n => n
theorem readP_good {ps : List Pce} {n : Nd} (h : readP ps = some n) : nodeB n = true := by
  unfold readP readT at h
  split at h
  · cases h
  · split at h
    · split at h
      · rename_i hb; cases h; exact hb
      · cases h
    · cases h
theorem ndOf_small (ps : List Pce) : (ndOf (readP ps)).szN ≤ 2020 ∧ (ndOf (readP ps)).cnt ≤ 20 := by
  cases h : readP ps with
  | none =>
    refine ⟨?_, by decide⟩
    show zeroN.szN ≤ 2020
    unfold zeroN
    rw [Nd.szN]
    show (0 + 0 + 0 + (0 + szL [])) ≤ 2020
    rw [szL]; omega
  | some n => exact nodeB_small (readP_good h)
end Go.Proofs.YtccehdlgpbeijaaGreatDoor
