/-
  What spec.l1Large does.
-/
import Derived.Test.YtkhnkockdfmkgaaGreatDoorIn
namespace Go.Proofs.YtkhnkockdfmkgaaGreatDoor
open Go.RowKit M

set_option maxHeartbeats 400000 in
theorem l1Large_any (c : UInt8) (w : World) :
    Calls Tryz.prog 143 #[.int .u8 c.toNat] w fun e w' => e = .returned (.bool (isB c.toNat 3)) ∧ w' = w := by
  go_enter Tryz.func143, Tryz.ntmps143
  go_wp2_with (go_at_call 65; refine (l1In_any _ _ _ _).mono ?_; rintro e w' ⟨rfl, rfl⟩; rw [wrap64_u8, inB_large])
  go_ret
  exact ⟨rfl, rfl⟩
end Go.Proofs.YtkhnkockdfmkgaaGreatDoor
