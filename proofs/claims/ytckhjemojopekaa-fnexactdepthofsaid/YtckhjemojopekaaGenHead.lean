/-
  The leafs of a head.
-/
import Derived.Test.YtckhjemojopekaaGenLeaf
import Derived.Test.YtckhjemojopekaaMathReq
namespace Go.Proofs.Ytckhjemojopekaa
open Go.RowKit M

def dHd (x : Hd) : List Lf := [.c (.string x.1), .c (.string x.2)]
end Go.Proofs.Ytckhjemojopekaa
