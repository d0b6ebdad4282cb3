/-
  The leafs of what is known.
-/
import Derived.Test.YtckhjemojopekaaMathSmall
import Derived.Test.YtckhjemojopekaaSliceEq
namespace Go.Proofs.Ytckhjemojopekaa
open Go.RowKit M

def dPp (x : Pp) : List Lf := [.c (.string x.1), .c (.string x.2.1), .c (.string x.2.2)]
end Go.Proofs.Ytckhjemojopekaa
