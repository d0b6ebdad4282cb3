/-
  Lines of heads: no program in sight.
-/
import Derived.Test.YtkhnkockdfmkgabGreatDoorMathGet
namespace Go.Proofs.YtkhnkockdfmkgabGreatDoor.M

/-- Lines with their ends, and an end. -/
def linesTxt (top : List UInt8) (hs hs2 : List Hd) : List UInt8 := top ++ (crlf ++ (hdsTxt hs ++ (hdsTxt hs2 ++ crlf)))
end Go.Proofs.YtkhnkockdfmkgabGreatDoor.M
