/-
  Two names held against one another.
-/
import Derived.Test.YtclnpfpaabmkcabPropsB
import Derived.Laws.StructEq
namespace Go.Proofs.Ytclnpfpaabmkcab
open Go.RowKit

/-- What '==' says of two names. -/
theorem eqIn_name (x y x' y' : ByteArray) (w : World) : (Op.equalIn 10000 96 (.agg #[.string x, .string y]) (.agg #[.string x', .string y'])).run Try.prog w = .ok (x.toList == x'.toList && y.toList == y'.toList) w := by
  have u3 := Try.underlying9
  have a3 := Try.isAgg9
  have z3 := Try.sizeOf9
  have hS : Try.prog.underlying 96 = some (.struct (Try.prog.fieldsOf 96)) := by kernel_rfl
  have hp : Try.prog.stoodInHeld 96 = false := by kernel_rfl
  rw [show (10000 : Nat) = 9999 + 1 from rfl, run_equalIn_agg w 9999 96 _ _ hS hp]
  simp only [Program.fieldsOf, Try.underlying96]
  go_simp
  by_cases h1 : x.toList = x'.toList <;> by_cases h2 : y.toList = y'.toList <;> simp [h1, h2]
theorem neq_name (x y x' y' : ByteArray) (w : World) : (binOp .neq 96 (.agg #[.string x, .string y]) (.agg #[.string x', .string y'])).run Try.prog w = .ok (.bool (!(x.toList == x'.toList && y.toList == y'.toList))) w := by
  rw [run_neq_struct, eqIn_name]; rfl
theorem eql_name (x y x' y' : ByteArray) (w : World) : (binOp .eql 96 (.agg #[.string x, .string y]) (.agg #[.string x', .string y'])).run Try.prog w = .ok (.bool (x.toList == x'.toList && y.toList == y'.toList)) w := by
  rw [run_eql_struct, eqIn_name]; rfl
end Go.Proofs.Ytclnpfpaabmkcab
