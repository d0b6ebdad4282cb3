/-
  Pieces as marks: the values.
-/
import Derived.Test.YtcgmokjnjmefpabDoorMathPieces
import Derived.Test.YtcgmokjnjmefpabDoorRows
import Derived.WalkKit
namespace Go.Proofs.YtcgmokjnjmefpabDoor
open Go.RowKit M

/-- A piece as a mark. -/
def markV (p : Pce) : Value :=
  if p.k = 1 then .iface 79 (.agg #[.string p.name, .bool p.has, .string p.ns]) else if p.k = 2 then .iface 72 (.agg #[.string p.name])
  else if p.k = 3 then .iface 78 (.agg #[.string p.name, .bool p.has, .string p.ns]) else .iface 82 (.agg #[.string p.s])
/-- A piece as a value. -/
def PcV (p : Pce) : Value := .agg #[.int .i64 p.k, .string p.name, .string p.ns, .bool p.has, .string p.s]
end Go.Proofs.YtcgmokjnjmefpabDoor
