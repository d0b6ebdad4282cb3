/-
  A help of the laws, by program (tools/gen_help.py): Eq1 of Res.
-/
import Derived.Test.YtckhjemojopekaaRows
import Derived.Test.YtckhjemojopekaaMathSmall
import Derived.Test.YtckhjemojopekaaGenAsk
import Derived.Test.YtckhjemojopekaaGenEqqStringS
import Derived.Test.YtckhjemojopekaaGenEqqPropS
import Derived.WalkKit
import Derived.WalkSpells
import Derived.WalkLawsBesides
import Derived.Deep.Light
import Derived.Deep.QuietTactic
import Derived.Deep.RegionHeld3
namespace Go.Proofs.Ytckhjemojopekaa
open Go.RowKit M
set_option linter.unusedVariables false

set_option maxRecDepth 100000 in
set_option maxHeartbeats 4000000 in
theorem eqRes_gen (x : Rs) (u0 t0 u4 t4 : Value) (B C : Nat) (w : World) (h0 : View w B u0 (.l (x.pa.map dS))) (j0 : View w C t0 (.l (x.pa.map dS))) (h4 : View w B u4 (.l (x.ps.map dPp))) (j4 : View w C t4 (.l (x.ps.map dPp))) (hB : B ≤ w.heap.size) (hC : C ≤ w.heap.size) :
    Calls Try.prog 69 #[.agg #[u0, .bool x.co, .string x.bo, .int .i64 x.ve, u4], .agg #[t0, .bool x.co, .string x.bo, .int .i64 x.ve, t4]] w fun e w' => e = .returned (.bool true) ∧ Below w.heap.size w w' := by
  have K0 := hide (show Below w.heap.size w ((w.alloc (Obj.cells #[u0, .bool x.co, .string x.bo, .int .i64 x.ve, u4] 100)).alloc (Obj.cells #[t0, .bool x.co, .string x.bo, .int .i64 x.ve, t4] 100)) from ((Below.refl _ _).alloc (Nat.le_refl _) _).alloc (by simp) _)
  have X0 := hide (show BoxV ((w.alloc (Obj.cells #[u0, .bool x.co, .string x.bo, .int .i64 x.ve, u4] 100)).alloc (Obj.cells #[t0, .bool x.co, .string x.bo, .int .i64 x.ve, t4] 100)) w.heap.size [u0, .bool x.co, .string x.bo, .int .i64 x.ve, u4] from (BoxV.made w [u0, .bool x.co, .string x.bo, .int .i64 x.ve, u4] 100).alloc _)
  have Y0 := hide (show BoxV ((w.alloc (Obj.cells #[u0, .bool x.co, .string x.bo, .int .i64 x.ve, u4] 100)).alloc (Obj.cells #[t0, .bool x.co, .string x.bo, .int .i64 x.ve, t4] 100)) (w.heap.size + 1) [t0, .bool x.co, .string x.bo, .int .i64 x.ve, t4] by have h := BoxV.made (w.alloc (Obj.cells #[u0, .bool x.co, .string x.bo, .int .i64 x.ve, u4] 100)) [t0, .bool x.co, .string x.bo, .int .i64 x.ve, t4] 100; simpa using h)
  have e3 : (x.ve == x.ve) = true := beq_self_eq_true _
  go_enter Try.func69, Try.ntmps69
  have HQ := hide (eqStringS_gen (x.pa) u0 t0 B C _ (h0.stays K0.out hB) (j0.stays K0.out hC) (Nat.le_trans hB K0.out.size) (Nat.le_trans hC K0.out.size))
  go_wp2_with fail
  refine HQ.out.mono ?_
  rintro e w1 ⟨rfl, b1⟩
  have K1 := hide (K0.out.trans (b1.mono K0.out.size))
  have X1 := hide (X0.out.next b1)
  have Y1 := hide (Y0.out.next b1)
  clear HQ b1 K0 X0 Y0
  have c1 := (X1.out.2 1 _ rfl).1
  have d1 := (Y1.out.2 1 _ rfl).1
  have c2 := (X1.out.2 2 _ rfl).1
  have d2 := (Y1.out.2 2 _ rfl).1
  have c3 := (X1.out.2 3 _ rfl).1
  have d3 := (Y1.out.2 3 _ rfl).1
  have c4 := (X1.out.2 4 _ rfl).1
  have d4 := (Y1.out.2 4 _ rfl).1
  have HQ := hide (eqPropS_gen (x.ps) u4 t4 B C _ (h4.stays K1.out hB) (j4.stays K1.out hC) (Nat.le_trans hB K1.out.size) (Nat.le_trans hC K1.out.size))
  go_wp2_with fail
  refine HQ.out.mono ?_
  rintro e w2 ⟨rfl, b2⟩
  have K2 := hide (K1.out.trans (b2.mono K1.out.size))
  have X2 := hide (X1.out.next b2)
  have Y2 := hide (Y1.out.next b2)
  clear HQ b2 K1 X1 Y1 c1 d1 c2 d2 c3 d3 c4 d4
  go_wp2
  go_ret
  exact ⟨rfl, K2.out⟩
end Go.Proofs.Ytckhjemojopekaa
