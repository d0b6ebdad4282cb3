/-
  What cmp.Compare[string] does.
-/
import Derived.Test.YtafdbnadakclnaaGreatDrawC
import Derived.Test.YtafdbnadakclnaaGreatKinds
namespace Go.Proofs.YtafdbnadakclnaaGreat
open Go.RowKit M
set_option linter.unusedVariables false

theorem neStr {x y : ByteArray} (h : ¬ x = y) : (x.toList == y.toList) = false := by
  rw [beq_eq_false_iff_ne]; exact fun e => h (str_inj e)

set_option maxHeartbeats 400000 in
theorem isNaN_any (x : ByteArray) (w : World) : Calls Tryz.prog 138 #[.string x] w fun e w' => e = .returned (.bool false) ∧ w' = w := by
  go_enter Tryz.func138, Tryz.ntmps138
  go_wp2
  go_ret
  exact ⟨ret_bool (by simp), rfl⟩

set_option maxHeartbeats 400000 in
theorem compare_any (x y : ByteArray) (w : World) : Calls Tryz.prog 124 #[.string x, .string y] w fun e w' => e = .returned (.int .i64 (cmpT x y)) ∧ w' = w := by
  by_cases h1 : lessT x y = true
  · have e1 : cmpT x y = -1 := by unfold cmpT; rw [if_pos h1]
    rw [e1]
    unfold lessT at h1
    go_enter Tryz.func124, Tryz.ntmps124
    go_wp2_with fail
    refine (isNaN_any x w).mono ?_
    rintro e w1 ⟨rfl, hw⟩; obtain rfl := hw.symm
    go_wp2_with fail
    refine (isNaN_any y w).mono ?_
    rintro e w1 ⟨rfl, hw⟩; obtain rfl := hw.symm
    go_wp2
    go_ret
    exact ⟨rfl, rfl⟩
  · by_cases h2 : x = y
    · subst h2
      rw [cmpT_same]
      have h1' : Op.bytesLess x.toList x.toList = false := by simpa [lessT] using h1
      go_enter Tryz.func124, Tryz.ntmps124
      go_wp2_with fail
      refine (isNaN_any x w).mono ?_
      rintro e w1 ⟨rfl, hw⟩; obtain rfl := hw.symm
      go_wp2_with fail
      refine (isNaN_any x w).mono ?_
      rintro e w1 ⟨rfl, hw⟩; obtain rfl := hw.symm
      go_wp2
      go_ret
      exact ⟨rfl, rfl⟩
    · have e1 : cmpT x y = 1 := by unfold cmpT; rw [if_neg h1, if_neg h2]
      rw [e1]
      have h1' : Op.bytesLess x.toList y.toList = false := by simpa [lessT] using h1
      have h2' := neStr h2
      go_enter Tryz.func124, Tryz.ntmps124
      go_wp2_with fail
      refine (isNaN_any x w).mono ?_
      rintro e w1 ⟨rfl, hw⟩; obtain rfl := hw.symm
      go_wp2_with fail
      refine (isNaN_any y w).mono ?_
      rintro e w1 ⟨rfl, hw⟩; obtain rfl := hw.symm
      go_wp2
      go_ret
      exact ⟨rfl, rfl⟩
end Go.Proofs.YtafdbnadakclnaaGreat
