/-
  Changes on both sides.
-/
import Derived.Test.YtcgljeagjchobabHas9
import Derived.Test.YtcgljeagjchobabGenBox
namespace Go.Proofs.Ytcgljeagjchobab
open Go.RowKit M
set_option linter.unusedVariables false

/-- The methods that change what is there. -/
def chNs : List ByteArray := [⟨#[80, 85, 84]⟩, ⟨#[77, 75, 67, 79, 76]⟩, ⟨#[68, 69, 76, 69, 84, 69]⟩, ⟨#[67, 79, 80, 89]⟩, ⟨#[77, 79, 86, 69]⟩, ⟨#[80, 82, 79, 80, 80, 65, 84, 67, 72]⟩, ⟨#[76, 79, 67, 75]⟩, ⟨#[85, 78, 76, 79, 67, 75]⟩]
def chB (s : ByteArray) : Bool := hasB chNs s
theorem ch_eq0 (s : ByteArray) : (s.toList == [80, 85, 84]) = decide (s = ⟨#[80, 85, 84]⟩) := by
  have h := str_eq s ⟨#[80, 85, 84]⟩
  rwa [show (⟨#[80, 85, 84]⟩ : ByteArray).toList = [80, 85, 84] by kernel_rfl] at h
theorem ch_eq1 (s : ByteArray) : (s.toList == [77, 75, 67, 79, 76]) = decide (s = ⟨#[77, 75, 67, 79, 76]⟩) := by
  have h := str_eq s ⟨#[77, 75, 67, 79, 76]⟩
  rwa [show (⟨#[77, 75, 67, 79, 76]⟩ : ByteArray).toList = [77, 75, 67, 79, 76] by kernel_rfl] at h
theorem ch_eq2 (s : ByteArray) : (s.toList == [68, 69, 76, 69, 84, 69]) = decide (s = ⟨#[68, 69, 76, 69, 84, 69]⟩) := by
  have h := str_eq s ⟨#[68, 69, 76, 69, 84, 69]⟩
  rwa [show (⟨#[68, 69, 76, 69, 84, 69]⟩ : ByteArray).toList = [68, 69, 76, 69, 84, 69] by kernel_rfl] at h
theorem ch_eq3 (s : ByteArray) : (s.toList == [67, 79, 80, 89]) = decide (s = ⟨#[67, 79, 80, 89]⟩) := by
  have h := str_eq s ⟨#[67, 79, 80, 89]⟩
  rwa [show (⟨#[67, 79, 80, 89]⟩ : ByteArray).toList = [67, 79, 80, 89] by kernel_rfl] at h
theorem ch_eq4 (s : ByteArray) : (s.toList == [77, 79, 86, 69]) = decide (s = ⟨#[77, 79, 86, 69]⟩) := by
  have h := str_eq s ⟨#[77, 79, 86, 69]⟩
  rwa [show (⟨#[77, 79, 86, 69]⟩ : ByteArray).toList = [77, 79, 86, 69] by kernel_rfl] at h
theorem ch_eq5 (s : ByteArray) : (s.toList == [80, 82, 79, 80, 80, 65, 84, 67, 72]) = decide (s = ⟨#[80, 82, 79, 80, 80, 65, 84, 67, 72]⟩) := by
  have h := str_eq s ⟨#[80, 82, 79, 80, 80, 65, 84, 67, 72]⟩
  rwa [show (⟨#[80, 82, 79, 80, 80, 65, 84, 67, 72]⟩ : ByteArray).toList = [80, 82, 79, 80, 80, 65, 84, 67, 72] by kernel_rfl] at h
theorem ch_eq6 (s : ByteArray) : (s.toList == [76, 79, 67, 75]) = decide (s = ⟨#[76, 79, 67, 75]⟩) := by
  have h := str_eq s ⟨#[76, 79, 67, 75]⟩
  rwa [show (⟨#[76, 79, 67, 75]⟩ : ByteArray).toList = [76, 79, 67, 75] by kernel_rfl] at h
theorem ch_eq7 (s : ByteArray) : (s.toList == [85, 78, 76, 79, 67, 75]) = decide (s = ⟨#[85, 78, 76, 79, 67, 75]⟩) := by
  have h := str_eq s ⟨#[85, 78, 76, 79, 67, 75]⟩
  rwa [show (⟨#[85, 78, 76, 79, 67, 75]⟩ : ByteArray).toList = [85, 78, 76, 79, 67, 75] by kernel_rfl] at h

set_option maxHeartbeats 4000000 in
theorem changes_any (s : ByteArray) (w : World) : Calls Try.prog 5 #[.string s] w fun e w' => e = .returned (.bool (chB s)) ∧ Below w.heap.size w w' := by
  have f0 := ch_eq0 s
  have f1 := ch_eq1 s
  have f2 := ch_eq2 s
  have f3 := ch_eq3 s
  have f4 := ch_eq4 s
  have f5 := ch_eq5 s
  have f6 := ch_eq6 s
  have f7 := ch_eq7 s
  by_cases e0 : s = ⟨#[80, 85, 84]⟩
  · have HB := hide (show chB s = true from (hasB_iff chNs s).2 (by rw [e0]; simp [chNs]))
    rw [decide_eq_true e0] at f0
    clear e0 f1 f2 f3 f4 f5 f6 f7
    go_enter Try.func5, Try.ntmps5
    go_wp2
    go_ret
    exact ⟨ret_bool HB.out.symm, Below.refl _ _⟩
  rw [decide_eq_false e0] at f0
  by_cases e1 : s = ⟨#[77, 75, 67, 79, 76]⟩
  · have HB := hide (show chB s = true from (hasB_iff chNs s).2 (by rw [e1]; simp [chNs]))
    rw [decide_eq_true e1] at f1
    clear e1 f2 f3 f4 f5 f6 f7
    go_enter Try.func5, Try.ntmps5
    go_wp2
    go_ret
    exact ⟨ret_bool HB.out.symm, Below.refl _ _⟩
  rw [decide_eq_false e1] at f1
  by_cases e2 : s = ⟨#[68, 69, 76, 69, 84, 69]⟩
  · have HB := hide (show chB s = true from (hasB_iff chNs s).2 (by rw [e2]; simp [chNs]))
    rw [decide_eq_true e2] at f2
    clear e2 f3 f4 f5 f6 f7
    go_enter Try.func5, Try.ntmps5
    go_wp2
    go_ret
    exact ⟨ret_bool HB.out.symm, Below.refl _ _⟩
  rw [decide_eq_false e2] at f2
  by_cases e3 : s = ⟨#[67, 79, 80, 89]⟩
  · have HB := hide (show chB s = true from (hasB_iff chNs s).2 (by rw [e3]; simp [chNs]))
    rw [decide_eq_true e3] at f3
    clear e3 f4 f5 f6 f7
    go_enter Try.func5, Try.ntmps5
    go_wp2
    go_ret
    exact ⟨ret_bool HB.out.symm, Below.refl _ _⟩
  rw [decide_eq_false e3] at f3
  by_cases e4 : s = ⟨#[77, 79, 86, 69]⟩
  · have HB := hide (show chB s = true from (hasB_iff chNs s).2 (by rw [e4]; simp [chNs]))
    rw [decide_eq_true e4] at f4
    clear e4 f5 f6 f7
    go_enter Try.func5, Try.ntmps5
    go_wp2
    go_ret
    exact ⟨ret_bool HB.out.symm, Below.refl _ _⟩
  rw [decide_eq_false e4] at f4
  by_cases e5 : s = ⟨#[80, 82, 79, 80, 80, 65, 84, 67, 72]⟩
  · have HB := hide (show chB s = true from (hasB_iff chNs s).2 (by rw [e5]; simp [chNs]))
    rw [decide_eq_true e5] at f5
    clear e5 f6 f7
    go_enter Try.func5, Try.ntmps5
    go_wp2
    go_ret
    exact ⟨ret_bool HB.out.symm, Below.refl _ _⟩
  rw [decide_eq_false e5] at f5
  by_cases e6 : s = ⟨#[76, 79, 67, 75]⟩
  · have HB := hide (show chB s = true from (hasB_iff chNs s).2 (by rw [e6]; simp [chNs]))
    rw [decide_eq_true e6] at f6
    clear e6 f7
    go_enter Try.func5, Try.ntmps5
    go_wp2
    go_ret
    exact ⟨ret_bool HB.out.symm, Below.refl _ _⟩
  rw [decide_eq_false e6] at f6
  by_cases e7 : s = ⟨#[85, 78, 76, 79, 67, 75]⟩
  · have HB := hide (show chB s = true from (hasB_iff chNs s).2 (by rw [e7]; simp [chNs]))
    rw [decide_eq_true e7] at f7
    clear e7
    go_enter Try.func5, Try.ntmps5
    go_wp2
    go_ret
    exact ⟨ret_bool HB.out.symm, Below.refl _ _⟩
  rw [decide_eq_false e7] at f7
  have HB := hide (show chB s = false from hasB_no (by simp only [chNs, List.mem_cons, List.not_mem_nil, or_false, not_or]; exact ⟨e0, e1, e2, e3, e4, e5, e6, e7⟩))
  clear e0 e1 e2 e3 e4 e5 e6 e7
  go_enter Try.func5, Try.ntmps5
  go_wp2
  go_ret
  exact ⟨ret_bool HB.out.symm, Below.refl _ _⟩

set_option maxHeartbeats 4000000 in
theorem specChanges_any (s : ByteArray) (w : World) : Calls Try.prog 4 #[.string s] w fun e w' => e = .returned (.bool (chB s)) ∧ Below w.heap.size w w' := by
  have b0 := (Below.refl w.heap.size w).alloc (Nat.le_refl _) (Obj.cells #[.string { data := #[80, 85, 84] }, .string { data := #[77, 75, 67, 79, 76] }, .string { data := #[68, 69, 76, 69, 84, 69] }, .string { data := #[67, 79, 80, 89] }, .string { data := #[77, 79, 86, 69] }, .string { data := #[80, 82, 79, 80, 80, 65, 84, 67, 72] }, .string { data := #[76, 79, 67, 75] }, .string { data := #[85, 78, 76, 79, 67, 75] }] 9)
  have bx := BoxV.made w [.string { data := #[80, 85, 84] }, .string { data := #[77, 75, 67, 79, 76] }, .string { data := #[68, 69, 76, 69, 84, 69] }, .string { data := #[67, 79, 80, 89] }, .string { data := #[77, 79, 86, 69] }, .string { data := #[80, 82, 79, 80, 80, 65, 84, 67, 72] }, .string { data := #[76, 79, 67, 75] }, .string { data := #[85, 78, 76, 79, 67, 75] }] 9
  have HQ := hide (l9Has_any w.heap.size 8 8 chNs s _ rfl (by decide) (fun j hj => (bx.2 j _ (by
    have hj : j < 8 := hj
    match j, hj with
    | 0, _ => rfl
    | 1, _ => rfl
    | 2, _ => rfl
    | 3, _ => rfl
    | 4, _ => rfl
    | 5, _ => rfl
    | 6, _ => rfl
    | 7, _ => rfl)).1))
  have HK := hide b0
  clear b0 bx
  go_enter Try.func4, Try.ntmps4
  go_wp2_with fail
  refine HQ.out.mono ?_
  rintro e w1 ⟨rfl, rfl⟩
  go_wp2
  go_ret
  exact ⟨rfl, HK.out⟩
end Go.Proofs.Ytcgljeagjchobab
