/-
  Whether two heads are the same, as the language has it.
-/
import Derived.Test.YtnoijfnpchihoabStrEq
import Derived.Test.YtnoijfnpchihoabRet
import Derived.Laws.StructEq
namespace Go.Proofs.Ytnoijfnpchihoab
open Go.RowKit M
set_option linter.unusedVariables false


theorem head_struct : Try.prog.underlying 41 = some (.struct (Try.prog.fieldsOf 41)) := by kernel_rfl
theorem head_held : Try.prog.stoodInHeld 41 = false := by kernel_rfl
theorem head_guard : Try.prog.eqGuardType Try.prog.depth 41 = false := by kernel_rfl

set_option maxHeartbeats 400000 in
theorem eqIn_head (x y u v : ByteArray) (w : World) : (Op.equalIn 10000 41 (.agg #[.string x, .string y]) (.agg #[.string u, .string v])).run Try.prog w = .ok (decide (((x, y) : Hd) = (u, v))) w := by
  have u3 := Try.underlying9
  rw [show (10000 : Nat) = 9999 + 1 from rfl, run_equalIn_agg w 9999 41 _ _ head_struct head_held]
  simp only [Program.fieldsOf, Try.underlying41]
  go_simp
  by_cases h1 : x = u
  · by_cases h2 : y = v
    · simp [h1, h2]
    · have h3 : ¬ y.toList = v.toList := fun e => h2 (strInj e)
      simp [h1, h2, h3]
  · have h3 : ¬ x.toList = u.toList := fun e => h1 (strInj e)
    simp [h1, h3]

theorem neq_head (x y u v : ByteArray) (w : World) : (binOp .neq 41 (.agg #[.string x, .string y]) (.agg #[.string u, .string v])).run Try.prog w = .ok (.bool (!decide (((x, y) : Hd) = (u, v)))) w := by
  rw [run_neq_struct, eqIn_head]
  rfl
end Go.Proofs.Ytnoijfnpchihoab
