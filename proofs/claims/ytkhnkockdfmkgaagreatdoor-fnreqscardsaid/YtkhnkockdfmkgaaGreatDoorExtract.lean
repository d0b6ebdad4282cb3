/-
  A piece of a text.
-/
import Derived.Test.YtkhnkockdfmkgaaGreatDoorMathGet
import Derived.Test.YtkhnkockdfmkgaaGreatDoorOwnStrs
namespace Go.Proofs.YtkhnkockdfmkgaaGreatDoor
open Go.RowKit M
set_option linter.unusedVariables false

theorem extract_pieceB (s : ByteArray) (fr k : Nat) : s.extract fr k = bytesOf ((s.data.toList.drop fr).take (k - fr)) := by
  apply ByteArray.ext
  have h1 : (s.extract fr k).data = s.data.extract fr k := by simp
  rw [h1]
  apply Array.ext'
  rw [Array.toList_extract]
  rfl
end Go.Proofs.YtkhnkockdfmkgaaGreatDoor
