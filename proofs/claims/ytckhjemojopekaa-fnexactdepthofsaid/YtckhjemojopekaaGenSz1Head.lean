/-
  A help of the laws, by program (tools/gen_help.py): Sz1 of Head.
-/
import Derived.Test.YtckhjemojopekaaRows
import Derived.Test.YtckhjemojopekaaGenLeaf
import Derived.Test.YtckhjemojopekaaGenBox
import Derived.Test.YtckhjemojopekaaGenHead
import Derived.WalkKit
import Derived.WalkSpells
import Derived.WalkLawsBesides
import Derived.Deep.Light
import Derived.Deep.QuietTactic
import Derived.Deep.RegionHeld3
namespace Go.Proofs.Ytckhjemojopekaa
open Go.RowKit M
set_option linter.unusedVariables false

set_option maxRecDepth 100000 in
set_option maxHeartbeats 4000000 in
theorem szHead_gen (x : Hd) (left B : Nat) (w : World) (hB : B ≤ w.heap.size) (hok : okR (dHd x)) (hleft : left ≤ 1048576) :
    Calls Try.prog 42 #[.agg #[.string x.1, .string x.2], .int .i64 left] w fun e w' => (∃ z : Int, e = .returned (.int .i64 z) ∧ (z < 0 ∨ ∃ m : Nat, z = m ∧ szR (dHd x) + m = left)) ∧ Below w.heap.size w w' := by
  have K0 := hide (show Below w.heap.size w (w.alloc (Obj.cells #[.string x.1, .string x.2] 81)) from (Below.refl _ _).alloc (Nat.le_refl _) _)
  have X0 := hide (BoxV.made w [.string x.1, .string x.2] 81)
  have hsum : szR (dHd x) = (x.1).size + (x.2).size := by simp [dHd, szR, szF, szV]
  have HS := hide hsum
  clear hsum
  have s0 : (x.1).size ≤ maxLen := okR_mem hok (.c (.string (x.1))) (by simp [dHd])
  have s1 : (x.2).size ≤ maxLen := okR_mem hok (.c (.string (x.2))) (by simp [dHd])
  unfold maxLen at s0 s1
  clear hok
  go_enter Try.func42, Try.ntmps42
  by_cases q0 : left < (x.1).size
  · go_wp2
    go_ret
    exact ⟨⟨_, rfl, .inl (by omega)⟩, K0.out⟩
  obtain ⟨m0, hm0⟩ : ∃ m : Nat, (x.1).size + m = left := ⟨left - (x.1).size, by omega⟩
  have e0 : (left : Int) - ((x.1).size : Int) = (m0 : Int) := by omega
  have hn0 : m0 ≤ 1048576 := by omega
  have E0 := hide hm0
  clear hm0 q0
  by_cases q1 : m0 < (x.2).size
  · go_wp2
    go_ret
    exact ⟨⟨_, rfl, .inl (by omega)⟩, K0.out⟩
  obtain ⟨m1, hm1⟩ : ∃ m : Nat, (x.2).size + m = m0 := ⟨m0 - (x.2).size, by omega⟩
  have e1 : (m0 : Int) - ((x.2).size : Int) = (m1 : Int) := by omega
  have hn1 : m1 ≤ 1048576 := by omega
  have E1 := hide hm1
  clear hm1 q1
  go_wp2
  go_ret
  exact ⟨⟨_, rfl, .inr ⟨m1, rfl, by rw [HS.out]; have := E0.out; have := E1.out; omega⟩⟩, K0.out⟩
end Go.Proofs.Ytckhjemojopekaa
