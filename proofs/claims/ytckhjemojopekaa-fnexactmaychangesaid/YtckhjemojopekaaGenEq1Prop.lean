/-
  A help of the laws, by program (tools/gen_help.py): Eq1 of Prop.
-/
import Derived.Test.YtckhjemojopekaaRows
import Derived.Test.YtckhjemojopekaaMathSmall
import Derived.Test.YtckhjemojopekaaGenProp
import Derived.WalkKit
import Derived.WalkSpells
import Derived.WalkLawsBesides
import Derived.Deep.Light
import Derived.Deep.QuietTactic
import Derived.Deep.RegionHeld3
namespace Go.Proofs.Ytckhjemojopekaa
open Go.RowKit M
set_option linter.unusedVariables false

set_option maxRecDepth 100000 in
set_option maxHeartbeats 4000000 in
theorem eqProp_gen (x : Pp) (B C : Nat) (w : World) (hB : B ≤ w.heap.size) (hC : C ≤ w.heap.size) :
    Calls Try.prog 93 #[.agg #[.string x.1, .string x.2.1, .string x.2.2], .agg #[.string x.1, .string x.2.1, .string x.2.2]] w fun e w' => e = .returned (.bool true) ∧ Below w.heap.size w w' := by
  have K0 := hide (show Below w.heap.size w ((w.alloc (Obj.cells #[.string x.1, .string x.2.1, .string x.2.2] 129)).alloc (Obj.cells #[.string x.1, .string x.2.1, .string x.2.2] 129)) from ((Below.refl _ _).alloc (Nat.le_refl _) _).alloc (by simp) _)
  have X0 := hide (show BoxV ((w.alloc (Obj.cells #[.string x.1, .string x.2.1, .string x.2.2] 129)).alloc (Obj.cells #[.string x.1, .string x.2.1, .string x.2.2] 129)) w.heap.size [.string x.1, .string x.2.1, .string x.2.2] from (BoxV.made w [.string x.1, .string x.2.1, .string x.2.2] 129).alloc _)
  have Y0 := hide (show BoxV ((w.alloc (Obj.cells #[.string x.1, .string x.2.1, .string x.2.2] 129)).alloc (Obj.cells #[.string x.1, .string x.2.1, .string x.2.2] 129)) (w.heap.size + 1) [.string x.1, .string x.2.1, .string x.2.2] by have h := BoxV.made (w.alloc (Obj.cells #[.string x.1, .string x.2.1, .string x.2.2] 129)) [.string x.1, .string x.2.1, .string x.2.2] 129; simpa using h)
  go_enter Try.func93, Try.ntmps93
  go_wp2
  go_ret
  exact ⟨rfl, K0.out⟩
end Go.Proofs.Ytckhjemojopekaa
