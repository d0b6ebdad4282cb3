/-
  Pieces as marks: the values.
-/
import Derived.Test.YtccehdlgpbeijaaGreatDoorRowsP
import Derived.Test.YtccehdlgpbeijaaGreatDoorRows
import Derived.WalkKit
namespace Go.Proofs.YtccehdlgpbeijaaGreatDoor
open Go.RowKit M

/-- A piece as a mark. -/
def markV (p : Pce) : Value :=
  if p.k = 1 then .iface 80 (.agg #[.string p.name, .bool p.has, .string p.ns]) else if p.k = 2 then .iface 83 (.agg #[.string p.name])
  else if p.k = 3 then .iface 72 (.agg #[.string p.name, .bool p.has, .string p.ns]) else .iface 102 (.agg #[.string p.s])
/-- A piece as a value. -/
def PcV (p : Pce) : Value := .agg #[.int .i64 p.k, .string p.name, .string p.ns, .bool p.has, .string p.s]
end Go.Proofs.YtccehdlgpbeijaaGreatDoor
