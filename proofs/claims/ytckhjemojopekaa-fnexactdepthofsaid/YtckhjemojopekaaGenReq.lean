/-
  The leafs of a request.
-/
import Derived.Test.YtckhjemojopekaaGenHead
namespace Go.Proofs.Ytckhjemojopekaa
open Go.RowKit M

def dRq (x : Rq) : List Lf := [.c (.string x.m), .c (.string x.p), .l (x.hs.map dHd), .c (.string x.b)]
end Go.Proofs.Ytckhjemojopekaa
