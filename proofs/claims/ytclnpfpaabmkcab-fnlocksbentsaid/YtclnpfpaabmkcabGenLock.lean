/-
  The leafs of a lock.
-/
import Derived.Test.YtclnpfpaabmkcabCoversI
import Derived.Test.YtclnpfpaabmkcabGenPick
namespace Go.Proofs.Ytclnpfpaabmkcab
open Go.RowKit M

def dLk (x : Lk) : List Lf := [.c (.int .i64 x.tk), .l (x.pa.map dS), .c (.bool x.de), .c (.bool x.sh), .c (.int .i64 x.un)]
end Go.Proofs.Ytclnpfpaabmkcab
