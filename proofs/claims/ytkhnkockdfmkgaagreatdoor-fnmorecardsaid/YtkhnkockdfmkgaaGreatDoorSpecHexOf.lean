/-
  What the specification's l1HexOf does.
-/
import Derived.Test.YtkhnkockdfmkgaaGreatDoorAllOf
import Derived.Test.YtkhnkockdfmkgaaGreatDoorMathGet
import Derived.Test.YtkhnkockdfmkgaaGreatDoorMathRead2
namespace Go.Proofs.YtkhnkockdfmkgaaGreatDoor
open Go.RowKit M

set_option maxHeartbeats 400000 in
theorem l1HexOf_any (c : UInt8) (w : World) :
    Calls Tryz.prog 133 #[.int .u8 c.toNat] w fun e w' => e = .returned (.int .i64 (hexOf c)) ∧ w' = w := by
  cases h4 : isB (c.toNat : Int) 4
  · cases h5 : isB (c.toNat : Int) 5
    · cases h6 : isB (c.toNat : Int) 6
      · have HO : Hid (hexOf c = -1) := hexOf_no (by simp [isHex, anyB, h4, h5, h6])
        go_enter Tryz.func133, Tryz.ntmps133
        go_wp2_with (first | (go_at_call 146; refine (l1Digit_any _ _).mono ?_; rintro e w' ⟨rfl, rfl⟩; rw [h4]) | (go_at_call 65; refine (l1In_any _ _ _ _).mono ?_; rintro e w' ⟨rfl, rfl⟩; (try rw [wrap64_u8]); first | rw [inB_hexs, h5] | rw [inB_hexl, h6]))
        go_ret
        exact ⟨ret_int HO.out.symm, rfl⟩
      · have hh : isHex c = true := by simp [isHex, anyB, h4, h5, h6]
        have HO : Hid (hexOf c = (c.toNat : Int) - 65 + 10) := by
          show _ = _
          rw [hexOf_yes hh, hexW_6 h4 h5]
          have := isB6 h6
          omega
        have hb := isB6 h6
        go_enter Tryz.func133, Tryz.ntmps133
        go_wp2_with (first | (go_at_call 146; refine (l1Digit_any _ _).mono ?_; rintro e w' ⟨rfl, rfl⟩; rw [h4]) | (go_at_call 65; refine (l1In_any _ _ _ _).mono ?_; rintro e w' ⟨rfl, rfl⟩; (try rw [wrap64_u8]); first | rw [inB_hexs, h5] | rw [inB_hexl, h6]))
        go_ret
        exact ⟨ret_int HO.out.symm, rfl⟩
    · have hh : isHex c = true := by simp [isHex, anyB, h4, h5]
      have HO : Hid (hexOf c = (c.toNat : Int) - 97 + 10) := by
        show _ = _
        rw [hexOf_yes hh, hexW_5 h4 h5]
        have := isB5 h5
        omega
      have hb := isB5 h5
      go_enter Tryz.func133, Tryz.ntmps133
      go_wp2_with (first | (go_at_call 146; refine (l1Digit_any _ _).mono ?_; rintro e w' ⟨rfl, rfl⟩; rw [h4]) | (go_at_call 65; refine (l1In_any _ _ _ _).mono ?_; rintro e w' ⟨rfl, rfl⟩; (try rw [wrap64_u8]); rw [inB_hexs, h5]))
      go_ret
      exact ⟨ret_int HO.out.symm, rfl⟩
  · have hh : isHex c = true := by simp [isHex, anyB, h4]
    have HO : Hid (hexOf c = (c.toNat : Int) - 48) := by
      show _ = _
      rw [hexOf_yes hh, hexW_4 h4]
      have := isB4 h4
      omega
    have hb := isB4 h4
    go_enter Tryz.func133, Tryz.ntmps133
    go_wp2_with (go_at_call 146; refine (l1Digit_any _ _).mono ?_; rintro e w' ⟨rfl, rfl⟩; rw [h4])
    go_ret
    exact ⟨ret_int HO.out.symm, rfl⟩

end Go.Proofs.YtkhnkockdfmkgaaGreatDoor
