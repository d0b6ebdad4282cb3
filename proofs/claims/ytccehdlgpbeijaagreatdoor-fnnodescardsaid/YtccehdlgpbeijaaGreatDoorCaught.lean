/-
  What the closure that ParseNode defers does.
-/
import Derived.Test.YtccehdlgpbeijaaGreatDoorNodeS
import Derived.Defers
import Derived.Recover
namespace Go.Proofs.YtccehdlgpbeijaaGreatDoor
open Go.RowKit M
set_option linter.unusedVariables false

/-- The world behind the closure that caught. -/
def caughtW (w : World) (M K : Nat) : World := ((((w.setCell ⟨M, 0, none⟩ (.string ⟨#[]⟩)).setCell ⟨M, 1, none⟩ (.string ⟨#[]⟩)).setCell ⟨M, 2, none⟩ (.string ⟨#[]⟩)).setCell ⟨M, 3, none⟩ (.slice none 0 0)).setCell ⟨K, 0, none⟩ (.bool false)

set_option maxRecDepth 100000 in
set_option maxHeartbeats 4000000 in
theorem pn_catch (M K : Nat) (T : TypeId) (pv : Value) (older : List PanicEntry) (w : World) (v0 v1 v2 v3 : Value) (b : Bool) (hM : Bx w M v0 v1 v2 v3) (hK : w.cell? ⟨K, 0, none⟩ = some (.bool b)) (hz : w.frozen? ⟨K, 0, none⟩ = false) (hMK : M ≠ K) :
    CallsD Tryz.prog 29 #[.pointer (some ⟨M, 0, none⟩), .pointer (some ⟨K, 0, none⟩)] (.panicking ({ v := .iface T pv, recovered := false } :: older)) w fun e u' w' =>
      e = .returned (.tuple #[]) ∧ u' = .panicking ({ v := .iface T pv, recovered := true } :: older) ∧ w' = caughtW w M K := by
  obtain ⟨_, c0, c1, c2, c3, cz⟩ := hM
  have z0 := cz 0
  have z1 := cz 1
  have z2 := cz 2
  have z3 := cz 3
  refine callsD_of_wpS Tryz.func29 rfl fun c₀ cs hu => ?_
  apply wpS_seq
  apply wpS_region
  simp [wpOpsS, go_sem, recoverD, hu, Tryz.ntmps29, Exit.thenS]
  refine wpS_cond (t := true) (by simp [Act.eval, Array.replicate]) ?_
  simp only [if_true]
  refine wpS_of_wp ?_
  go_wp2
  simp [bodyPostS, results, Tryz.results29, caughtW]

theorem pn_idle (p q : Addr) (w : World) :
    CallsD Tryz.prog 29 #[.pointer (some p), .pointer (some q)] .returning w fun e u' w' => e = .returned (.tuple #[]) ∧ u' = .returning ∧ w' = w := by
  refine callsD_of_wpS Tryz.func29 rfl fun c₀ cs hu => ?_
  apply wpS_seq
  apply wpS_region
  simp [wpOpsS, go_sem, recoverD, hu, Tryz.ntmps29, Exit.thenS]
  refine wpS_cond (t := false) (by simp [Act.eval, Array.replicate]) ?_
  simp only [Bool.false_eq_true, if_false]
  refine wpS_of_wp (wp_skip ?_)
  cases c₀
  simp_all [bodyPostS, results, Tryz.results29]
end Go.Proofs.YtccehdlgpbeijaaGreatDoor
