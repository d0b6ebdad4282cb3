/-
  Whether two lists of what is known are the same, by the laws' own helps.
-/
import Derived.Test.YtclnpfpaabmkcabPropsB
import Derived.Test.YtclnpfpaabmkcabRet
import Derived.Deep.RegionHeld3
namespace Go.Proofs.Ytclnpfpaabmkcab
open Go.RowKit M
set_option linter.unusedVariables false

set_option maxHeartbeats 1000000 in
theorem eqProp_any (x y z u v t : ByteArray) (w : World) :
    Calls Try.prog 97 #[.agg #[.string x, .string y, .string z], .agg #[.string u, .string v, .string t]] w fun e w' => e = .returned (.bool (decide (((x, y, z) : Pp) = (u, v, t)))) ∧ Below w.heap.size w w' := by
  go_enter Try.func97, Try.ntmps97
  go_wp2
  all_goals go_ret
  · rename_i h1
    refine ⟨ret_bool ?_, ((Below.refl _ _).alloc (Nat.le_refl _) _).alloc (by simp) _⟩
    have : ¬ x = u := fun e => by subst e; simp at h1
    simp [this]
  · rename_i h1 h2
    refine ⟨ret_bool ?_, ((Below.refl _ _).alloc (Nat.le_refl _) _).alloc (by simp) _⟩
    have : ¬ y = v := fun e => by subst e; simp at h2
    simp [this]
  · rename_i h1 h2 h3
    refine ⟨ret_bool ?_, ((Below.refl _ _).alloc (Nat.le_refl _) _).alloc (by simp) _⟩
    have : ¬ z = t := fun e => by subst e; simp at h3
    simp [this]
  · rename_i h1 h2 h3
    refine ⟨ret_bool ?_, ((Below.refl _ _).alloc (Nat.le_refl _) _).alloc (by simp) _⟩
    have e1 : x = u := strInjP (by simpa using h1)
    have e2 : y = v := strInjP (by simpa using h2)
    have e3 : z = t := strInjP (by simpa using h3)
    simp [e1, e2, e3]
end Go.Proofs.Ytclnpfpaabmkcab
