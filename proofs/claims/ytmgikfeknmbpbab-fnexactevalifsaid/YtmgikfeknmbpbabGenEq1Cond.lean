/-
  A help of the laws, by program (tools/gen_help.py): Eq1 of Cond.
-/
import Derived.Test.YtmgikfeknmbpbabRows
import Derived.Test.YtmgikfeknmbpbabGenLeaf
import Derived.Test.YtmgikfeknmbpbabGenBox
import Derived.Test.YtmgikfeknmbpbabGenCond
import Derived.WalkKit
import Derived.WalkSpells
import Derived.WalkLawsBesides
import Derived.Deep.Light
import Derived.Deep.QuietTactic
import Derived.Deep.RegionHeld3
namespace Go.Proofs.Ytmgikfeknmbpbab
open Go.RowKit M
set_option linter.unusedVariables false

set_option maxRecDepth 100000 in
set_option maxHeartbeats 4000000 in
theorem eqCond_gen (x : Cn) (B C : Nat) (w : World) (hB : B ≤ w.heap.size) (hC : C ≤ w.heap.size) :
    Calls Try.prog 32 #[.agg #[.bool x.no, .int .i64 x.tk, .string x.tg], .agg #[.bool x.no, .int .i64 x.tk, .string x.tg]] w fun e w' => e = .returned (.bool true) ∧ Below w.heap.size w w' := by
  have K0 := hide (show Below w.heap.size w ((w.alloc (Obj.cells #[.bool x.no, .int .i64 x.tk, .string x.tg] 40)).alloc (Obj.cells #[.bool x.no, .int .i64 x.tk, .string x.tg] 40)) from ((Below.refl _ _).alloc (Nat.le_refl _) _).alloc (by simp) _)
  have X0 := hide (show BoxV ((w.alloc (Obj.cells #[.bool x.no, .int .i64 x.tk, .string x.tg] 40)).alloc (Obj.cells #[.bool x.no, .int .i64 x.tk, .string x.tg] 40)) w.heap.size [.bool x.no, .int .i64 x.tk, .string x.tg] from (BoxV.made w [.bool x.no, .int .i64 x.tk, .string x.tg] 40).alloc _)
  have Y0 := hide (show BoxV ((w.alloc (Obj.cells #[.bool x.no, .int .i64 x.tk, .string x.tg] 40)).alloc (Obj.cells #[.bool x.no, .int .i64 x.tk, .string x.tg] 40)) (w.heap.size + 1) [.bool x.no, .int .i64 x.tk, .string x.tg] by have h := BoxV.made (w.alloc (Obj.cells #[.bool x.no, .int .i64 x.tk, .string x.tg] 40)) [.bool x.no, .int .i64 x.tk, .string x.tg] 40; simpa using h)
  have e1 : (x.tk == x.tk) = true := beq_self_eq_true _
  go_enter Try.func32, Try.ntmps32
  go_wp2
  go_ret
  exact ⟨rfl, K0.out⟩
end Go.Proofs.Ytmgikfeknmbpbab
