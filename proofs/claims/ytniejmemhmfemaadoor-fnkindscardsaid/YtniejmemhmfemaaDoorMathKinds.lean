/-
  Plain facts on small names: they are plain, and small letters stay.
-/
import Derived.Test.YtniejmemhmfemaaDoorMathSmall
namespace Go.Proofs.YtniejmemhmfemaaDoor.M

theorem smB_all3 {l : List UInt8} (h : smB l = true) : allB l [2, 4, 7] = true := by
  cases l with
  | nil => simp [smB] at h
  | cons c r => simp [smB] at h; exact h.2

theorem any3_bd {c : Int} (h : anyB c [2, 4, 7] = true) : (97 ≤ c ∧ c ≤ 122) ∨ (48 ≤ c ∧ c ≤ 57) ∨ c = 45 := by
  simp [anyB, isB] at h; omega

theorem smB_plain {l : List UInt8} (h : smB l = true) : allB l [0] = true := by
  have h3 := List.all_eq_true.1 (smB_all3 h)
  apply List.all_eq_true.2
  intro x hx
  have := any3_bd (h3 x hx)
  simp [anyB, isB]; omega

theorem smB_low {l : List UInt8} (h : smB l = true) : lowL l = l := by
  have h3 := List.all_eq_true.1 (smB_all3 h)
  unfold lowL
  conv => rhs; rw [← List.map_id l]
  apply List.map_congr_left
  intro x hx
  have := any3_bd (h3 x hx)
  apply lowB_no
  simp [isB]; omega

end Go.Proofs.YtniejmemhmfemaaDoor.M
