/-
  A help of the laws, by program (tools/gen_help.py): Mk1 of Lock.
-/
import Derived.Test.YtackgogcpdbnlabRows
import Derived.Test.YtackgogcpdbnlabGenEq1Lock
import Derived.Test.YtackgogcpdbnlabGenBox
import Derived.Test.YtackgogcpdbnlabGenMarkStringS
import Derived.WalkKit
import Derived.WalkSpells
import Derived.WalkLawsBesides
import Derived.Deep.Light
import Derived.Deep.QuietTactic
import Derived.Deep.RegionHeld3
namespace Go.Proofs.Ytackgogcpdbnlab
open Go.RowKit M
set_option linter.unusedVariables false

set_option maxRecDepth 100000 in
set_option maxHeartbeats 4000000 in
theorem markLock_gen (x : Lk) (u1 : Value) (S1 : Nat → Prop) (k0 : Nat) (w : World) (o1 : Own w u1 (.l (x.pa.map dS)) S1) (z1 : ∀ y, S1 y → y < w.heap.size) (hk1 : 1 ≤ k0) (hk : k0 + cntRs (x.pa.map dS) ≤ 90000000) :
    Calls Try.prog 17 #[.agg #[.int .i64 x.tk, u1, .bool x.de, .bool x.sh, .int .i64 x.un], .int .i64 k0] w fun e w' => e = .returned (.int .i64 ((k0 + cntRs (x.pa.map dS) : Nat) : Int)) ∧ Own w' u1 (mkF (k0) (.l (x.pa.map dS))) S1 ∧ Turn (fun y => S1 y) w w' := by
  have b0 := (Below.refl w.heap.size w).alloc (Nat.le_refl _) (Obj.cells #[.int .i64 x.tk, u1, .bool x.de, .bool x.sh, .int .i64 x.un] 32)
  have X0 := hide (BoxV.made w [.int .i64 x.tk, u1, .bool x.de, .bool x.sh, .int .i64 x.un] 32)
  have o1_0 := hide (o1.next b0)
  have T0 := hide (show Turn (fun y => S1 y) w (w.alloc (Obj.cells #[.int .i64 x.tk, u1, .bool x.de, .bool x.sh, .int .i64 x.un] 32)) from Turn.of_below b0)
  clear b0 o1
  have n1 : ¬ S1 w.heap.size := fun e => absurd (z1 _ e) (Nat.lt_irrefl _)
  obtain ⟨M1, hM1⟩ : ∃ M, k0 + cntRs (x.pa.map dS) = M := ⟨_, rfl⟩
  rw [hM1] at hk
  have hb : M1 ≤ 90000000 ∧ 1 ≤ M1 := by omega
  rw [hM1]
  have HM1 := hide hM1
  clear hM1
  go_enter Try.func17, Try.ntmps17
  have HQ := hide (markStringS_gen (x.pa) (k0) u1 S1 _ o1_0.out (by omega) (by have := HM1.out; omega))
  rw [HM1.out] at HQ
  go_wp2_with fail
  refine HQ.out.mono ?_
  rintro e w1 ⟨rfl, o, tt⟩
  have o1_1 := hide o
  have T1 := hide (T0.out.trans (tt.wide (fun y hy => hy)))
  have X1 := hide (X0.out.turn tt n1)
  clear HQ tt o T0 X0 o1_0
  go_wp2
  go_ret
  exact ⟨rfl, o1_1.out, T1.out⟩
end Go.Proofs.Ytackgogcpdbnlab
