/-
  The leafs of what must be, and of lists of it.
-/
import Derived.Test.YtmgikfeknmbpbaaGreatDoorGenLeaf
import Derived.Test.YtmgikfeknmbpbaaGreatDoorMathIf
namespace Go.Proofs.YtmgikfeknmbpbaaGreatDoor
open Go.RowKit M

def dCn (x : Cn) : List Lf := [.c (.bool x.no), .c (.int .i64 x.tk), .c (.string x.tg)]
def dCs (l : List Cn) : List Lf := [.l (l.map dCn)]
end Go.Proofs.YtmgikfeknmbpbaaGreatDoor
