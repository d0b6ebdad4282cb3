/-
  Whether two heads are the same, as the language has it.
-/
import Derived.Test.YtkhnkockdfmkgaaDoorStrEq
import Derived.Test.YtkhnkockdfmkgaaDoorSpecVal
import Derived.Laws.StructEq
namespace Go.Proofs.YtkhnkockdfmkgaaDoor
open Go.RowKit M
set_option linter.unusedVariables false


theorem head_struct : Tryd.prog.underlying 42 = some (.struct (Tryd.prog.fieldsOf 42)) := by kernel_rfl
theorem head_held : Tryd.prog.stoodInHeld 42 = false := by kernel_rfl
theorem head_guard : Tryd.prog.eqGuardType Tryd.prog.depth 42 = false := by kernel_rfl

set_option maxHeartbeats 400000 in
theorem eqIn_head (x y u v : ByteArray) (w : World) : (Op.equalIn 10000 42 (.agg #[.string x, .string y]) (.agg #[.string u, .string v])).run Tryd.prog w = .ok (decide (((x, y) : Hd) = (u, v))) w := by
  have u3 := Tryd.underlying9
  rw [show (10000 : Nat) = 9999 + 1 from rfl, run_equalIn_agg w 9999 42 _ _ head_struct head_held]
  simp only [Program.fieldsOf, Tryd.underlying42]
  go_simp
  by_cases h1 : x = u
  · by_cases h2 : y = v
    · simp [h1, h2]
    · have h3 : ¬ y.toList = v.toList := fun e => h2 (strInj e)
      simp [h1, h2, h3]
  · have h3 : ¬ x.toList = u.toList := fun e => h1 (strInj e)
    simp [h1, h3]

theorem neq_head (x y u v : ByteArray) (w : World) : (binOp .neq 42 (.agg #[.string x, .string y]) (.agg #[.string u, .string v])).run Tryd.prog w = .ok (.bool (!decide (((x, y) : Hd) = (u, v)))) w := by
  rw [run_neq_struct, eqIn_head]
  rfl
end Go.Proofs.YtkhnkockdfmkgaaDoor
