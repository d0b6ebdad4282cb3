/-
  Bytes held against a constant, in the forms that a walk wants; texts held against a constant.
-/
import Derived.Test.YtmgikfeknmbpbaaGreatDoorTurn
namespace Go.Proofs.YtmgikfeknmbpbaaGreatDoor.M

theorem is_u8 (c d : UInt8) (z : Int) (hz : z = (d.toNat : Int)) : ((c.toNat : Int) == z) = decide (c = d) := by
  subst hz
  by_cases h : c = d
  · subst h; simp
  · rw [decide_eq_false h, beq_eq_false_iff_ne]
    exact fun e => h (UInt8.toNat_inj.1 (by omega))
theorem isn_u8 (c d : UInt8) (z : Int) (hz : z = (d.toNat : Int)) : ((c.toNat : Int) != z) = !decide (c = d) := by
  show (!((c.toNat : Int) == z)) = _
  rw [is_u8 c d z hz]


theorem eq_bytes (s : ByteArray) (l : List UInt8) : decide (s = ⟨l.toArray⟩) = decide (s.data.toList = l) := by
  by_cases h : s.data.toList = l
  · rw [decide_eq_true h, decide_eq_true]
    apply ByteArray.ext
    rw [← h]
  · rw [decide_eq_false h, decide_eq_false]
    intro e; exact h (by rw [e])
end Go.Proofs.YtmgikfeknmbpbaaGreatDoor.M
