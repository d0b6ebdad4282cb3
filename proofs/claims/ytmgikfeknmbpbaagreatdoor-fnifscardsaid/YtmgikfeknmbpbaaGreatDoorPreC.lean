/-
  A text's first byte.
-/
import Derived.Test.YtmgikfeknmbpbaaGreatDoorTurn
import Derived.Lib.Strings
namespace Go.Proofs.YtmgikfeknmbpbaaGreatDoor
open M

theorem prefix_c (c : UInt8) (l : List UInt8) : Lib.hasPrefix l [c] = decide (l.head? = some c) := by
  cases l with
  | nil => rfl
  | cons a r =>
    simp [Lib.hasPrefix, List.isPrefixOf]
    cases h : (c == a)
    · have : ¬ a = c := fun e => by rw [e] at h; simp at h
      simp [this]
    · have := beq_iff_eq.1 h
      simp [← this]
theorem trimPrefix_yes {c : UInt8} {l : List UInt8} (h : l.head? = some c) : Lib.trimPrefix l [c] = l.drop 1 := by
  unfold Lib.trimPrefix; rw [prefix_c, if_pos (by simp [h])]; rfl
theorem trimPrefix_no {c : UInt8} {l : List UInt8} (h : ¬ l.head? = some c) : Lib.trimPrefix l [c] = l := by
  unfold Lib.trimPrefix; rw [prefix_c, if_neg (by simp [h])]
end Go.Proofs.YtmgikfeknmbpbaaGreatDoor
