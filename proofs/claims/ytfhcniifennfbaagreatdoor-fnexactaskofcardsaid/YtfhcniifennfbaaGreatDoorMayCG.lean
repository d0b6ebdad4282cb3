/-
  MayChange on both sides; what is asked is small.
-/
import Derived.Test.YtfhcniifennfbaaGreatDoorSpecMayC
import Derived.Test.YtfhcniifennfbaaGreatDoorReachI
namespace Go.Proofs.YtfhcniifennfbaaGreatDoor
open Go.RowKit M
set_option linter.unusedVariables false

theorem ak_small {a : Ak} (h : szR (dAk a) ≤ 1048576) : a.pa.length ≤ 1048576 ∧ (∀ s ∈ a.pa, s.size ≤ 281474976710656) ∧ a.to.length ≤ 1048576 ∧ (∀ s ∈ a.to, s.size ≤ 281474976710656) ∧ a.tk.length ≤ 1048576 := by
  have e : szR (dAk a) = szRs (a.pa.map dS) + szRs (a.to.map dS) + szRs (a.tk.map dI) := by
    simp [dAk, szR, szF, szV]; try omega
  rw [sz_dS, sz_dS, sz_dI] at e
  have hp : ∀ (l : List ByteArray) (m : Nat), sumS l ≤ m → ∀ s ∈ l, s.size ≤ m := fun l m hm s hs => by
    have := sumS_mem _ _ hs
    omega
  exact ⟨by omega, fun s hs => Nat.le_trans (hp a.pa 1048576 (by omega) s hs) (by decide), by omega, fun s hs => Nat.le_trans (hp a.to 1048576 (by omega) s hs) (by decide), by omega⟩
end Go.Proofs.YtfhcniifennfbaaGreatDoor
