/-
  What the specification's TagText does.
-/
import Derived.Test.YtckhjemojopekaaSpecNum
import Derived.Test.YtckhjemojopekaaMathTag
import Derived.Test.YtckhjemojopekaaMathBack
import Derived.Test.YtckhjemojopekaaRowT
namespace Go.Proofs.Ytckhjemojopekaa
open Go.RowKit M
set_option linter.unusedVariables false

/-- The mark of a number. -/
def verL (n : Int) : List UInt8 := 118 :: Lib.decDigits n.toNat
theorem verL_cat (n : Int) : (⟨#[34, 118]⟩ : ByteArray) ++ ⟨(Lib.decDigits n.toNat).toArray⟩ ++ ⟨#[34]⟩ = bytesOf (tagL (verL n)) := by
  apply ByteArray.ext
  simp [bytesOf, tagL, verL]

theorem specTagText_any (n : Int) (w : World) (hn : n ≤ 9223372036854775807) :
    Calls Try.prog 50 #[.int .i64 n] w fun e w' => e = .returned (.string (bytesOf (tagL (verL n)))) ∧ Below w.heap.size w w' := by
  have HN := hide (specNumText_any n w hn)
  have HR := hide (verL_cat n)
  obtain ⟨d, hd⟩ : ∃ d : ByteArray, (⟨(Lib.decDigits n.toNat).toArray⟩ : ByteArray) = d := ⟨_, rfl⟩
  have hds : d.size ≤ 100 := by
    rw [← hd]
    show (bytesOf (Lib.decDigits n.toNat)).size ≤ 100
    rw [bytesOf_size]
    have := dec_len 18 n.toNat (by omega)
    omega
  rw [hd] at HN HR
  clear hd
  go_enter Try.func50, Try.ntmps50
  go_wp2_with fail
  refine HN.out.mono ?_
  rintro e w1 ⟨rfl, b1⟩
  go_wp2
  go_ret
  rw [HR.out]
  exact ⟨rfl, b1⟩
end Go.Proofs.Ytckhjemojopekaa
