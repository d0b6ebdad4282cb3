/-
  A list of texts without its last.
-/
import GoSem.Op.String
namespace Go.Proofs.Ytepdfppbnepamab.M
def aboveL (ss : List ByteArray) : List ByteArray := ss.take (ss.length - 1)
theorem aboveL_len (ss : List ByteArray) : (aboveL ss).length = ss.length - 1 := by unfold aboveL; rw [List.length_take]; omega
end Go.Proofs.Ytepdfppbnepamab.M
