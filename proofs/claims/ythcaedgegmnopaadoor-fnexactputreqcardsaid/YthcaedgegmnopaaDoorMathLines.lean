/-
  Lines of heads: no program in sight.
-/
import Derived.Test.YthcaedgegmnopaaDoorMathPut
namespace Go.Proofs.YthcaedgegmnopaaDoor.M

/-- Lines with their ends, and an end. -/
def linesTxt (top : List UInt8) (hs hs2 : List Hd) : List UInt8 := top ++ (crlf ++ (hdsTxt hs ++ (hdsTxt hs2 ++ crlf)))
end Go.Proofs.YthcaedgegmnopaaDoor.M
