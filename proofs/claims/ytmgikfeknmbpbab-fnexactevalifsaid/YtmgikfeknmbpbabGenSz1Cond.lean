/-
  A help of the laws, by program (tools/gen_help.py): Sz1 of Cond.
-/
import Derived.Test.YtmgikfeknmbpbabRows
import Derived.Test.YtmgikfeknmbpbabGenLeaf
import Derived.Test.YtmgikfeknmbpbabGenBox
import Derived.Test.YtmgikfeknmbpbabGenCond
import Derived.WalkKit
import Derived.WalkSpells
import Derived.WalkLawsBesides
import Derived.Deep.Light
import Derived.Deep.QuietTactic
import Derived.Deep.RegionHeld3
namespace Go.Proofs.Ytmgikfeknmbpbab
open Go.RowKit M
set_option linter.unusedVariables false

set_option maxRecDepth 100000 in
set_option maxHeartbeats 4000000 in
theorem szCond_gen (x : Cn) (left B : Nat) (w : World) (hB : B ≤ w.heap.size) (hok : okR (dCn x)) (hleft : left ≤ 1048576) :
    Calls Try.prog 25 #[.agg #[.bool x.no, .int .i64 x.tk, .string x.tg], .int .i64 left] w fun e w' => (∃ z : Int, e = .returned (.int .i64 z) ∧ (z < 0 ∨ ∃ m : Nat, z = m ∧ szR (dCn x) + m = left)) ∧ Below w.heap.size w w' := by
  have K0 := hide (show Below w.heap.size w (w.alloc (Obj.cells #[.bool x.no, .int .i64 x.tk, .string x.tg] 51)) from (Below.refl _ _).alloc (Nat.le_refl _) _)
  have X0 := hide (BoxV.made w [.bool x.no, .int .i64 x.tk, .string x.tg] 51)
  have hsum : szR (dCn x) = (x.tg).size := by simp [dCn, szR, szF, szV]
  have HS := hide hsum
  clear hsum
  have s2 : (x.tg).size ≤ maxLen := okR_mem hok (.c (.string (x.tg))) (by simp [dCn])
  unfold maxLen at s2
  clear hok
  go_enter Try.func25, Try.ntmps25
  by_cases q2 : left < (x.tg).size
  · go_wp2
    go_ret
    exact ⟨⟨_, rfl, .inl (by omega)⟩, K0.out⟩
  obtain ⟨m2, hm2⟩ : ∃ m : Nat, (x.tg).size + m = left := ⟨left - (x.tg).size, by omega⟩
  have e2 : (left : Int) - ((x.tg).size : Int) = (m2 : Int) := by omega
  have hn2 : m2 ≤ 1048576 := by omega
  have E2 := hide hm2
  clear hm2 q2
  go_wp2
  go_ret
  exact ⟨⟨_, rfl, .inr ⟨m2, rfl, by rw [HS.out]; have := E2.out; omega⟩⟩, K0.out⟩
end Go.Proofs.Ytmgikfeknmbpbab
