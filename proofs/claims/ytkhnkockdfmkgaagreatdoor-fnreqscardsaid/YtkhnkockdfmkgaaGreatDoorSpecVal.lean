/-
  What the specification's l3Val does.
-/
import Derived.Test.YtkhnkockdfmkgaaGreatDoorHeads
import Derived.Test.YtkhnkockdfmkgaaGreatDoorSpecPl
import Derived.Test.YtkhnkockdfmkgaaGreatDoorSpecTrim
namespace Go.Proofs.YtkhnkockdfmkgaaGreatDoor
open Go.RowKit M
set_option linter.unusedVariables false

theorem trim_same {t s : ByteArray} (h : t.data.toList = trimL s.data.toList) : (t.toList == s.toList) = decide (trimL s.data.toList = s.data.toList) := by
  rw [ByteArray.toList_eq, ByteArray.toList_eq, h]
  by_cases e : trimL s.data.toList = s.data.toList
  · simp [e]
  · simp [e]

set_option maxHeartbeats 400000 in
theorem l3Val_any (s : ByteArray) (w : World) (hs : s.size ≤ maxLen) :
    Calls Tryz.prog 124 #[.string s] w fun e w' => e = .returned (.bool (valB s)) ∧ w' = w := by
  have hs' := hs
  unfold maxLen at hs'
  by_cases h1 : s.size ≤ 60
  · have h1' : (s.size : Int) ≤ 60 := by omega
    cases h2 : allB s.data.toList [0]
    · have HE : Hid (valB s = false) := by show valB s = false; simp [valB, h2]
      go_enter Tryz.func124, Tryz.ntmps124
      go_wp2_with (go_at_call 147; refine (specPlain_any s _ hs).mono ?_; rintro e w' ⟨rfl, rfl⟩; rw [h2])
      go_ret
      exact ⟨ret_bool HE.out.symm, rfl⟩
    · have HE : Hid (valB s = decide (trimL s.data.toList = s.data.toList)) := by show valB s = _; simp [valB, h2, h1]
      go_enter Tryz.func124, Tryz.ntmps124
      go_wp2_with (first | (go_at_call 147; refine (specPlain_any s _ hs).mono ?_; rintro e w' ⟨rfl, rfl⟩; rw [h2]) | (go_at_call 122; refine (specTrim_any s _ hs).mono ?_; rintro e w' ⟨⟨t, rfl, ht⟩, rfl⟩; have HT := hide ht; clear ht))
      go_ret
      exact ⟨ret_bool (by rw [HE.out, ← trim_same HT.out]), rfl⟩
  · have h1' : ¬ (s.size : Int) ≤ 60 := by omega
    have HE : Hid (valB s = false) := by show valB s = false; simp [valB, h1]
    go_enter Tryz.func124, Tryz.ntmps124
    go_wp2
    go_ret
    exact ⟨ret_bool HE.out.symm, rfl⟩
end Go.Proofs.YtkhnkockdfmkgaaGreatDoor
