/-
  What is asked: its parts.
-/
import Derived.Test.YtckhjemojopekaaMathTrim
namespace Go.Proofs.Ytckhjemojopekaa.M

/-- What is read of a request. -/
structure Ak where
  pa : List ByteArray
  to : List ByteArray
  de : Bool
  ov : Bool
  tk : List Int
  co : Int
end Go.Proofs.Ytckhjemojopekaa.M
