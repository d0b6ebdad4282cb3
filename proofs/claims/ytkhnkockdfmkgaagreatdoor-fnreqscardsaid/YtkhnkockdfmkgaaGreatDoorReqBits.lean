/-
  What the program's methodOk, targetOk, tellsLength, tellsCoding do.
-/
import Derived.Test.YtkhnkockdfmkgaaGreatDoorReqParts
import Derived.Test.YtkhnkockdfmkgaaGreatDoorSpecReq
import Derived.Test.YtkhnkockdfmkgaaGreatDoorSpecVal
import Derived.Test.YtkhnkockdfmkgaaGreatDoorTells
import Derived.Test.YtkhnkockdfmkgaaGreatDoorSpecSmall
import Derived.Test.YtkhnkockdfmkgaaGreatDoorPlain
import Derived.Test.YtkhnkockdfmkgaaGreatDoorTrim
namespace Go.Proofs.YtkhnkockdfmkgaaGreatDoor
open Go.RowKit M
set_option linter.unusedVariables false

theorem methB_size {s : ByteArray} (h : ¬ (1 ≤ s.size ∧ s.size ≤ 9)) : methB s = false := by
  have : inB (s.size : Int) 1 9 = false := by simp [inB]; omega
  simp [methB, this]
theorem methB_in {s : ByteArray} (h : 1 ≤ s.size ∧ s.size ≤ 9) : methB s = allB s.data.toList [3] := by
  have : inB (s.size : Int) 1 9 = true := by simp [inB]; omega
  simp [methB, this]
theorem targB_size {s : ByteArray} (h : ¬ (1 ≤ s.size ∧ s.size ≤ 80)) : targB s = false := by
  have : inB (s.size : Int) 1 80 = false := by simp [inB]; omega
  simp [targB, this]
theorem targB_in {s : ByteArray} (h : 1 ≤ s.size ∧ s.size ≤ 80) : targB s = (allB s.data.toList [0] && !decide (0 ≤ Lib.indexByte s.data.toList 32)) := by
  have : inB (s.size : Int) 1 80 = true := by simp [inB]; omega
  rw [indexByte_nonneg, tgt_plain]
  simp [targB, this]

theorem allOf_one (s : ByteArray) (k : Int) (T : TypeId) (w : World) (hs : s.size ≤ maxLen) :
    Calls Tryz.prog 89 #[.string s, .slice (some ⟨w.heap.size, 0, none⟩) 1 1] (w.alloc (Obj.cells #[.int .i64 k] T)) fun e w' => e = .returned (.bool (allB s.data.toList [k])) ∧ w' = w.alloc (Obj.cells #[.int .i64 k] T) := by
  refine allOf_any s [k] 1 _ 0 1 _ rfl hs (by unfold maxLen; simp) ?_
  intro i hi
  have : i = 0 := by simp at hi; omega
  subst this
  simp

set_option maxHeartbeats 400000 in
theorem methodOk_any (s : ByteArray) (w : World) (hs : s.size ≤ maxLen) :
    Calls Tryz.prog 50 #[.string s] w fun e w' => e = .returned (.bool (methB s)) ∧ Below w.heap.size w w' := by
  have hs' := hs
  unfold maxLen at hs'
  by_cases h : 1 ≤ s.size ∧ s.size ≤ 9
  · rw [methB_in h]
    have h1 : (1 : Int) ≤ s.size := by omega
    have h2 : (s.size : Int) ≤ 9 := by omega
    clear h
    go_enter Tryz.func50, Tryz.ntmps50
    go_wp2_with (go_at_call 89; refine (allOf_one s 3 _ _ hs).mono ?_; rintro e w1 ⟨rfl, hw⟩; obtain rfl := hw.symm)
    go_ret
    exact ⟨rfl, (Below.refl _ _).alloc (Nat.le_refl _) _⟩
  · rw [methB_size h]
    by_cases h1 : (1 : Int) ≤ s.size
    · have h2 : ¬ (s.size : Int) ≤ 9 := by omega
      go_enter Tryz.func50, Tryz.ntmps50
      go_wp2
      go_ret
      exact ⟨rfl, Below.refl _ _⟩
    · go_enter Tryz.func50, Tryz.ntmps50
      go_wp2
      go_ret
      exact ⟨rfl, Below.refl _ _⟩

set_option maxHeartbeats 400000 in
theorem targetOk_any (s : ByteArray) (w : World) (hs : s.size ≤ maxLen) :
    Calls Tryz.prog 51 #[.string s] w fun e w' => e = .returned (.bool (targB s)) ∧ Below w.heap.size w w' := by
  have hs' := hs
  unfold maxLen at hs'
  by_cases h : 1 ≤ s.size ∧ s.size ≤ 80
  · rw [targB_in h]
    have h1 : (1 : Int) ≤ s.size := by omega
    have h2 : (s.size : Int) ≤ 80 := by omega
    clear h
    cases h3 : allB s.data.toList [0]
    · go_enter Tryz.func51, Tryz.ntmps51
      go_wp2_with (go_at_call 90; refine (plain_any s _ hs).mono ?_; rintro e w1 ⟨rfl, b1⟩; rw [h3])
      go_ret
      exact ⟨rfl, b1⟩
    · go_enter Tryz.func51, Tryz.ntmps51
      go_wp2_with (first | (go_at_call 90; refine (plain_any s _ hs).mono ?_; rintro e w1 ⟨rfl, b1⟩; rw [h3]) | (go_at_call 91; refine (Tryz.strings_Contains_one s 32 _).mono ?_; rintro e w2 ⟨rfl, hw⟩; obtain rfl := hw.symm))
      go_ret
      exact ⟨ret_bool (by simp), b1⟩
  · rw [targB_size h]
    by_cases h1 : (1 : Int) ≤ s.size
    · have h2 : ¬ (s.size : Int) ≤ 80 := by omega
      go_enter Tryz.func51, Tryz.ntmps51
      go_wp2
      go_ret
      exact ⟨rfl, Below.refl _ _⟩
    · go_enter Tryz.func51, Tryz.ntmps51
      go_wp2
      go_ret
      exact ⟨rfl, Below.refl _ _⟩
end Go.Proofs.YtkhnkockdfmkgaaGreatDoor
