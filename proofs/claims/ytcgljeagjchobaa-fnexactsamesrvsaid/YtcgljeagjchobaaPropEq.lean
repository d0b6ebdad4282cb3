/-
  Whether two things known are the same, as the language has it.
-/
import Derived.Test.YtcgljeagjchobaaStrEq
import Derived.Test.YtcgljeagjchobaaRet
import Derived.Test.YtcgljeagjchobaaProps
import Derived.Laws.StructEq
namespace Go.Proofs.Ytcgljeagjchobaa
open Go.RowKit M
set_option linter.unusedVariables false

theorem prop_struct : Try.prog.underlying 73 = some (.struct (Try.prog.fieldsOf 73)) := by kernel_rfl
theorem prop_held : Try.prog.stoodInHeld 73 = false := by kernel_rfl
theorem prop_guard : Try.prog.eqGuardType Try.prog.depth 73 = false := by kernel_rfl

set_option maxHeartbeats 800000 in
theorem eqIn_prop (x y z u v q : ByteArray) (w : World) : (Op.equalIn 10000 73 (.agg #[.string x, .string y, .string z]) (.agg #[.string u, .string v, .string q])).run Try.prog w = .ok (decide (((x, y, z) : Pp) = (u, v, q))) w := by
  have u3 := Try.underlying9
  rw [show (10000 : Nat) = 9999 + 1 from rfl, run_equalIn_agg w 9999 73 _ _ prop_struct prop_held]
  simp only [Program.fieldsOf, Try.underlying73]
  go_simp
  by_cases h1 : x = u
  · by_cases h2 : y = v
    · by_cases h3 : z = q
      · simp [h1, h2, h3]
      · have h4 : ¬ z.toList = q.toList := fun e => h3 (strInj e)
        simp [h1, h2, h3, h4]
    · have h3 : ¬ y.toList = v.toList := fun e => h2 (strInj e)
      simp [h1, h2, h3]
  · have h3 : ¬ x.toList = u.toList := fun e => h1 (strInj e)
    simp [h1, h3]
end Go.Proofs.Ytcgljeagjchobaa
