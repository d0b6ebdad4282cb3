/-
  The first kid of a space and a name.
-/
import Derived.Test.YtccehdlgpbeijaaGreatDoorRowsP
namespace Go.Proofs.YtccehdlgpbeijaaGreatDoor
open M

def zeroK : Nd := .mk ⟨#[]⟩ ⟨#[]⟩ ⟨#[]⟩ []
def kidP : List Nd → ByteArray → ByteArray → Nd × Bool
  | [], _, _ => (zeroK, false)
  | x :: r, a, b => if x.ns = a ∧ x.nm = b then (x, true) else kidP r a b
theorem kidP_cons (x : Nd) (r : List Nd) (a b : ByteArray) : kidP (x :: r) a b = if x.ns = a ∧ x.nm = b then (x, true) else kidP r a b := rfl
theorem kidP_nil (a b : ByteArray) : kidP [] a b = (zeroK, false) := rfl
theorem kidP_eq (ks : List Nd) (a b : ByteArray) : kidP (ks.drop 0) a b = kidP ks a b := rfl
theorem kidP_sz : ∀ (ks : List Nd) (a b : ByteArray), (kidP ks a b).1.szN ≤ szL ks
  | [], a, b => by simp [kidP, zeroK, Nd.szN, szL]; rfl
  | x :: r, a, b => by
    rw [kidP, szL]
    split
    · simp
    · have := kidP_sz r a b; omega
end Go.Proofs.YtccehdlgpbeijaaGreatDoor
