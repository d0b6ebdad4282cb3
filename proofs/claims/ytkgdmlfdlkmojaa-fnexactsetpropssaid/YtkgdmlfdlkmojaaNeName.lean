/-
  Two names held against one another.
-/
import Derived.Test.YtkgdmlfdlkmojaaProps
import Derived.Laws.StructEq
namespace Go.Proofs.Ytkgdmlfdlkmojaa
open Go.RowKit

/-- What '==' says of two names. -/
theorem eqIn_name (x y x' y' : ByteArray) (w : World) : (Op.equalIn 10000 79 (.agg #[.string x, .string y]) (.agg #[.string x', .string y'])).run Try.prog w = .ok (x.toList == x'.toList && y.toList == y'.toList) w := by
  have u3 := Try.underlying9
  have a3 := Try.isAgg9
  have z3 := Try.sizeOf9
  have hS : Try.prog.underlying 79 = some (.struct (Try.prog.fieldsOf 79)) := by kernel_rfl
  have hp : Try.prog.stoodInHeld 79 = false := by kernel_rfl
  rw [show (10000 : Nat) = 9999 + 1 from rfl, run_equalIn_agg w 9999 79 _ _ hS hp]
  simp only [Program.fieldsOf, Try.underlying79]
  go_simp
  by_cases h1 : x.toList = x'.toList <;> by_cases h2 : y.toList = y'.toList <;> simp [h1, h2]
theorem neq_name (x y x' y' : ByteArray) (w : World) : (binOp .neq 79 (.agg #[.string x, .string y]) (.agg #[.string x', .string y'])).run Try.prog w = .ok (.bool (!(x.toList == x'.toList && y.toList == y'.toList))) w := by
  rw [run_neq_struct, eqIn_name]; rfl
theorem eql_name (x y x' y' : ByteArray) (w : World) : (binOp .eql 79 (.agg #[.string x, .string y]) (.agg #[.string x', .string y'])).run Try.prog w = .ok (.bool (x.toList == x'.toList && y.toList == y'.toList)) w := by
  rw [run_eql_struct, eqIn_name]; rfl
end Go.Proofs.Ytkgdmlfdlkmojaa
