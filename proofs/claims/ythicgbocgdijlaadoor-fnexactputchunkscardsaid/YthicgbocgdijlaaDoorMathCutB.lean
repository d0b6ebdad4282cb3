/-
  Plain facts on texts that are cut in two: no program in sight.
-/
import Derived.Test.YthicgbocgdijlaaDoorMathPutC
namespace Go.Proofs.YthicgbocgdijlaaDoor
open M

theorem cut_to (t : ByteArray) (n : Nat) : t.extract 0 n = bytesOf (t.data.toList.take n) := by
  apply ByteArray.ext
  apply Array.toList_inj.1
  simp [bytesOf, ByteArray.data_extract]
theorem cut_from (t : ByteArray) (n : Nat) : (t.extract n t.size).data.toList = t.data.toList.drop n := by
  have : t.size = t.data.toList.length := (Array.length_toList).symm
  rw [ByteArray.data_extract, Array.toList_extract, this, List.extract_eq_take_drop, List.take_of_length_le (by rw [List.length_drop]; omega)]
theorem cut_none (t : ByteArray) : t.extract t.size t.size = ByteArray.empty := by
  apply ByteArray.ext
  have : (t.extract t.size t.size).data.size = 0 := by show (t.extract t.size t.size).size = 0; rw [ByteArray.size_extract]; omega
  exact Array.eq_empty_of_size_eq_zero this
end Go.Proofs.YthicgbocgdijlaaDoor
