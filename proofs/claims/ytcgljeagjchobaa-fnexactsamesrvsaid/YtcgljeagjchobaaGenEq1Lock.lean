/-
  A help of the laws, by program (tools/gen_help.py): Eq1 of Lock.
-/
import Derived.Test.YtcgljeagjchobaaRows
import Derived.Test.YtcgljeagjchobaaGenSrv
import Derived.Test.YtcgljeagjchobaaGenBox
import Derived.Test.YtcgljeagjchobaaGenEqqStringS
import Derived.WalkKit
import Derived.WalkSpells
import Derived.WalkLawsBesides
import Derived.Deep.Light
import Derived.Deep.QuietTactic
import Derived.Deep.RegionHeld3
namespace Go.Proofs.Ytcgljeagjchobaa
open Go.RowKit M
set_option linter.unusedVariables false

set_option maxRecDepth 100000 in
set_option maxHeartbeats 4000000 in
theorem eqLock_gen (x : Lk) (u1 t1 : Value) (B C : Nat) (w : World) (h1 : View w B u1 (.l (x.pa.map dS))) (j1 : View w C t1 (.l (x.pa.map dS))) (hB : B ≤ w.heap.size) (hC : C ≤ w.heap.size) :
    Calls Try.prog 38 #[.agg #[.int .i64 x.tk, u1, .bool x.de, .bool x.sh, .int .i64 x.un], .agg #[.int .i64 x.tk, t1, .bool x.de, .bool x.sh, .int .i64 x.un]] w fun e w' => e = .returned (.bool true) ∧ Below w.heap.size w w' := by
  have K0 := hide (show Below w.heap.size w ((w.alloc (Obj.cells #[.int .i64 x.tk, u1, .bool x.de, .bool x.sh, .int .i64 x.un] 57)).alloc (Obj.cells #[.int .i64 x.tk, t1, .bool x.de, .bool x.sh, .int .i64 x.un] 57)) from ((Below.refl _ _).alloc (Nat.le_refl _) _).alloc (by simp) _)
  have X0 := hide (show BoxV ((w.alloc (Obj.cells #[.int .i64 x.tk, u1, .bool x.de, .bool x.sh, .int .i64 x.un] 57)).alloc (Obj.cells #[.int .i64 x.tk, t1, .bool x.de, .bool x.sh, .int .i64 x.un] 57)) w.heap.size [.int .i64 x.tk, u1, .bool x.de, .bool x.sh, .int .i64 x.un] from (BoxV.made w [.int .i64 x.tk, u1, .bool x.de, .bool x.sh, .int .i64 x.un] 57).alloc _)
  have Y0 := hide (show BoxV ((w.alloc (Obj.cells #[.int .i64 x.tk, u1, .bool x.de, .bool x.sh, .int .i64 x.un] 57)).alloc (Obj.cells #[.int .i64 x.tk, t1, .bool x.de, .bool x.sh, .int .i64 x.un] 57)) (w.heap.size + 1) [.int .i64 x.tk, t1, .bool x.de, .bool x.sh, .int .i64 x.un] by have h := BoxV.made (w.alloc (Obj.cells #[.int .i64 x.tk, u1, .bool x.de, .bool x.sh, .int .i64 x.un] 57)) [.int .i64 x.tk, t1, .bool x.de, .bool x.sh, .int .i64 x.un] 57; simpa using h)
  have e0 : (x.tk == x.tk) = true := beq_self_eq_true _
  have e4 : (x.un == x.un) = true := beq_self_eq_true _
  go_enter Try.func38, Try.ntmps38
  have HQ := hide (eqStringS_gen (x.pa) u1 t1 B C _ (h1.stays K0.out hB) (j1.stays K0.out hC) (Nat.le_trans hB K0.out.size) (Nat.le_trans hC K0.out.size))
  go_wp2_with fail
  refine HQ.out.mono ?_
  rintro e w1 ⟨rfl, b1⟩
  have K1 := hide (K0.out.trans (b1.mono K0.out.size))
  have X1 := hide (X0.out.next b1)
  have Y1 := hide (Y0.out.next b1)
  clear HQ b1 K0 X0 Y0
  have c2 := (X1.out.2 2 _ rfl).1
  have d2 := (Y1.out.2 2 _ rfl).1
  have c3 := (X1.out.2 3 _ rfl).1
  have d3 := (Y1.out.2 3 _ rfl).1
  have c4 := (X1.out.2 4 _ rfl).1
  have d4 := (Y1.out.2 4 _ rfl).1
  go_wp2
  go_ret
  exact ⟨rfl, K1.out⟩
end Go.Proofs.Ytcgljeagjchobaa
