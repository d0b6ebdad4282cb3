/-
  A help of the laws, by program (tools/gen_help.py): Sz1 of Lock.
-/
import Derived.Test.YtackgogcpdbnlabRows
import Derived.Test.YtackgogcpdbnlabGenLeaf
import Derived.Test.YtackgogcpdbnlabGenBox
import Derived.Test.YtackgogcpdbnlabGenLock
import Derived.Test.YtackgogcpdbnlabGenSzzStringS
import Derived.WalkKit
import Derived.WalkSpells
import Derived.WalkLawsBesides
import Derived.Deep.Light
import Derived.Deep.QuietTactic
import Derived.Deep.RegionHeld3
namespace Go.Proofs.Ytackgogcpdbnlab
open Go.RowKit M
set_option linter.unusedVariables false

set_option maxRecDepth 100000 in
set_option maxHeartbeats 4000000 in
theorem szLock_gen (x : Lk) (u1 : Value) (left B : Nat) (w : World) (h1 : View w B u1 (.l (x.pa.map dS))) (hB : B ≤ w.heap.size) (hok : okR (dLk x)) (hleft : left ≤ 1048576) :
    Calls Try.prog 9 #[.agg #[.int .i64 x.tk, u1, .bool x.de, .bool x.sh, .int .i64 x.un], .int .i64 left] w fun e w' => (∃ z : Int, e = .returned (.int .i64 z) ∧ (z < 0 ∨ ∃ m : Nat, z = m ∧ szR (dLk x) + m = left)) ∧ Below w.heap.size w w' := by
  have K0 := hide (show Below w.heap.size w (w.alloc (Obj.cells #[.int .i64 x.tk, u1, .bool x.de, .bool x.sh, .int .i64 x.un] 25)) from (Below.refl _ _).alloc (Nat.le_refl _) _)
  have X0 := hide (BoxV.made w [.int .i64 x.tk, u1, .bool x.de, .bool x.sh, .int .i64 x.un] 25)
  have hsum : szR (dLk x) = szRs (x.pa.map dS) := by simp [dLk, szR, szF, szV]
  have HS := hide hsum
  clear hsum
  have s1 : okF (.l (x.pa.map dS)) := okR_mem hok _ (by simp [dLk])
  have S1 := hide s1
  clear s1
  clear hok
  go_enter Try.func9, Try.ntmps9
  have HQ := hide (szStringS_gen (x.pa) u1 left B _ (h1.stays K0.out hB) (Nat.le_trans hB K0.out.size) S1.out hleft)
  go_wp2_with fail
  refine HQ.out.mono ?_
  rintro e w1 ⟨⟨z, rfl, hz⟩, b1⟩
  have K1 := hide (K0.out.trans (b1.mono K0.out.size))
  have X1 := hide (X0.out.next b1)
  clear HQ b1 K0 X0
  rcases hz with hz | ⟨m1, rfl, hm1⟩
  · go_wp2
    go_ret
    exact ⟨⟨_, rfl, .inl (by omega)⟩, K1.out⟩
  have hn1 : m1 ≤ 1048576 := by omega
  have E1 := hide hm1
  clear hm1
  go_wp2
  go_ret
  exact ⟨⟨_, rfl, .inr ⟨m1, rfl, by rw [HS.out]; have := E1.out; omega⟩⟩, K1.out⟩
end Go.Proofs.Ytackgogcpdbnlab
