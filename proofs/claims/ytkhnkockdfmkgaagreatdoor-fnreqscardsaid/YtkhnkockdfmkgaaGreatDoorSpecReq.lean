/-
  What the specification's l3Method, l3Target, l3Val do.
-/
import Derived.Test.YtkhnkockdfmkgaaGreatDoorHeads
import Derived.Test.YtkhnkockdfmkgaaGreatDoorLarge
import Derived.Test.YtkhnkockdfmkgaaGreatDoorSpecVal
namespace Go.Proofs.YtkhnkockdfmkgaaGreatDoor
open Go.RowKit M
set_option linter.unusedVariables false

theorem methB_not (s : ByteArray) (k : Nat) (h : k < s.size) (h1 : isB (s[k].toNat : Int) 3 = false) : methB s = false := by
  unfold methB; rw [allB_not s [3] k h (by rw [anyB_one, h1]; rfl)]; rfl
theorem methB_all (s : ByteArray) (k : Nat) (h : ¬ k < s.size) (h0 : allB (s.data.toList.take k) [3] = true) : methB s = inB s.size 1 9 := by
  rw [take_all s k h] at h0
  simp [methB, h0]
theorem targB_not (s : ByteArray) (k : Nat) (h : k < s.size) (h1 : inB (s[k].toNat : Int) 33 126 = false) : targB s = false := by
  unfold targB; rw [tgtB_not s k h h1]; rfl
theorem targB_all (s : ByteArray) (k : Nat) (h : ¬ k < s.size) (h0 : tgtB (s.data.toList.take k) = true) : targB s = inB s.size 1 80 := by
  rw [take_all s k h] at h0
  simp [targB, h0]

set_option maxHeartbeats 400000 in
theorem l3Method_any (s : ByteArray) (w : World) (hs : s.size ≤ maxLen) :
    Calls Tryz.prog 119 #[.string s] w fun e w' => e = .returned (.bool (methB s)) ∧ w' = w := by
  unfold maxLen at hs
  go_enter Tryz.func119, Tryz.ntmps119
  go_wp2
  go_loop [3] (fun i => ∃ k : Nat, k ≤ s.size ∧ i = .int .i64 k ∧ allB (s.data.toList.take k) [3] = true) (fun i => s.size - (intOf i).toNat)
  case atStart => exact ⟨0, Nat.zero_le _, rfl, rfl⟩
  case round =>
    obtain ⟨k, hk, rfl, hn⟩ := hrel
    have HN : Hid (allB (s.data.toList.take k) [3] = true) := hn; clear hn
    by_cases hlt : k < s.size
    · cases hb : isB (s[k].toNat : Int) 3
      · have HE : Hid (methB s = false) := methB_not s k hlt hb
        go_wp2_with (go_at_call 143; refine (l1Large_any _ _).mono ?_; rintro e w' ⟨rfl, rfl⟩; rw [hb])
        go_ret
        exact ⟨ret_bool HE.out.symm, rfl⟩
      · have HE : Hid (allB (s.data.toList.take (k + 1)) [3] = true) := allB_snoc s [3] k hlt HN.out (by rw [anyB_one, hb]; rfl)
        go_wp2_with (go_at_call 143; refine (l1Large_any _ _).mono ?_; rintro e w' ⟨rfl, rfl⟩; rw [hb])
        go_round
        case rel => exact ⟨k + 1, by omega, by go_num, HE.out⟩
        case measure => simp [intOf]; omega
    · have HE : Hid (methB s = inB s.size 1 9) := methB_all s k hlt HN.out
      go_wp2_with (go_at_call 65; refine (l1In_any _ _ _ _).mono ?_; rintro e w' ⟨rfl, rfl⟩)
      go_ret
      exact ⟨ret_bool HE.out.symm, rfl⟩

set_option maxHeartbeats 400000 in
theorem l3Target_any (s : ByteArray) (w : World) (hs : s.size ≤ maxLen) :
    Calls Tryz.prog 120 #[.string s] w fun e w' => e = .returned (.bool (targB s)) ∧ w' = w := by
  unfold maxLen at hs
  go_enter Tryz.func120, Tryz.ntmps120
  go_wp2
  go_loop [3] (fun i => ∃ k : Nat, k ≤ s.size ∧ i = .int .i64 k ∧ tgtB (s.data.toList.take k) = true) (fun i => s.size - (intOf i).toNat)
  case atStart => exact ⟨0, Nat.zero_le _, rfl, rfl⟩
  case round =>
    obtain ⟨k, hk, rfl, hn⟩ := hrel
    have HN : Hid (tgtB (s.data.toList.take k) = true) := hn; clear hn
    by_cases hlt : k < s.size
    · cases hb : inB (s[k].toNat : Int) 33 126
      · have HE : Hid (targB s = false) := targB_not s k hlt hb
        go_wp2_with (go_at_call 65; refine (l1In_any _ _ _ _).mono ?_; rintro e w' ⟨rfl, rfl⟩; rw [wrap64_u8, hb])
        go_ret
        exact ⟨ret_bool HE.out.symm, rfl⟩
      · have HE : Hid (tgtB (s.data.toList.take (k + 1)) = true) := tgtB_snoc s k hlt HN.out hb
        go_wp2_with (go_at_call 65; refine (l1In_any _ _ _ _).mono ?_; rintro e w' ⟨rfl, rfl⟩; rw [wrap64_u8, hb])
        go_round
        case rel => exact ⟨k + 1, by omega, by go_num, HE.out⟩
        case measure => simp [intOf]; omega
    · have HE : Hid (targB s = inB s.size 1 80) := targB_all s k hlt HN.out
      go_wp2_with (go_at_call 65; refine (l1In_any _ _ _ _).mono ?_; rintro e w' ⟨rfl, rfl⟩)
      go_ret
      exact ⟨ret_bool HE.out.symm, rfl⟩
end Go.Proofs.YtkhnkockdfmkgaaGreatDoor
