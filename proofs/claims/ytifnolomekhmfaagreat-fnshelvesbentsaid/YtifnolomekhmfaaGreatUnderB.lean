/-
  Whether a list of texts stands under another.
-/
import Derived.Test.YtifnolomekhmfaaGreatHide
namespace Go.Proofs.YtifnolomekhmfaaGreat

/-- Whether the first list stands under the second. -/
def underB (ss tt : List ByteArray) : Bool := decide (tt.length < ss.length) && sameL (ss.take tt.length) tt

end Go.Proofs.YtifnolomekhmfaaGreat
