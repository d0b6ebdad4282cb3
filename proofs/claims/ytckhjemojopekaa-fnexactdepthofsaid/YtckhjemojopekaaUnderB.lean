/-
  Whether a list of texts stands under another.
-/
import Derived.Test.YtckhjemojopekaaStrs
namespace Go.Proofs.Ytckhjemojopekaa

/-- Whether the first list stands under the second. -/
def underB (ss tt : List ByteArray) : Bool := decide (tt.length < ss.length) && sameL (ss.take tt.length) tt

end Go.Proofs.Ytckhjemojopekaa
