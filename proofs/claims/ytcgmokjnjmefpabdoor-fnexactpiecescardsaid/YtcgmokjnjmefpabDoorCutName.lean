/-
  What the program's cutName does.
-/
import Derived.Test.YtcgmokjnjmefpabDoorMathPieces2
import Derived.Test.YtcgmokjnjmefpabDoorCutOne
import Derived.Test.YtcgmokjnjmefpabDoorClone
import Derived.Test.YtcgmokjnjmefpabDoorSpecSmall
import Derived.Deep.RegionHeld3
namespace Go.Proofs.YtcgmokjnjmefpabDoor
open Go.RowKit M
set_option linter.unusedVariables false

set_option maxRecDepth 100000 in
set_option maxHeartbeats 2000000 in
theorem cutName_any (s : ByteArray) (w : World) (hs : s.size ≤ 1099511627776) :
    Calls Tryd.prog 42 #[.string s] w fun e w' => e = .returned (.tuple #[.string (bytesOf (nmL s.data.toList)), .string (bytesOf (nmR s.data.toList)), .bool (smB (nmL s.data.toList))]) ∧ Below w.heap.size w w' := by
  have hA := fun k => nm_at s 0 k (Nat.zero_le _)
  have hT := nm_take s 0
  have hD := nm_drop s 0
  have hZ := nm_size s 0 (Nat.zero_le _)
  rw [List.drop_zero, Nat.zero_add] at hT hD hZ
  have HR := hide (ret_three (bytes_of _ _ hT) (bytes_of _ _ ((extract_rest s _).trans hD)) (show smB (s.extract 0 (nmL s.data.toList).length).data.toList = smB (nmL s.data.toList) by rw [hT]))
  have HA : Hid (∀ k, (hk : k < s.size) → k ≤ (nmL s.data.toList).length → nameP s[k] = decide (k < (nmL s.data.toList).length)) := fun k hk hle => by
    have := hA k hk
    rw [List.drop_zero, Nat.zero_add] at this
    exact this hle
  obtain ⟨m, hm⟩ : ∃ m, (nmL s.data.toList).length = m := ⟨_, rfl⟩
  rw [hm] at HR HA hZ
  have hx : (s.extract 0 m).size ≤ maxLen := by rw [ByteArray.size_extract]; unfold maxLen; omega
  have hx2 : (s.extract 0 m).size ≤ 281474976710656 := by rw [ByteArray.size_extract]; omega
  have HC := hide (fun W : World => clone_any (s.extract 0 m) W hx2)
  have HS := hide (fun W : World => smallName_any (s.extract 0 m) W hx)
  obtain ⟨bq, hbq⟩ : ∃ bq, smB (s.extract 0 m).data.toList = bq := ⟨_, rfl⟩
  rw [hbq] at HS HR
  clear hA hT hD hm hx hx2 hbq
  go_enter Tryd.func42, Tryd.ntmps42
  go_wp2
  go_loopw [5] (fun i wr => ∃ k : Nat, k ≤ m ∧ i = .int .i64 k ∧ Below w.heap.size w wr) (fun i _ => m - (intOf i).toNat)
  case atStart => exact ⟨0, Nat.zero_le _, rfl, Below.refl _ _⟩
  case round =>
    obtain ⟨k, hk, rfl, hbe⟩ := hrel
    by_cases hkm : k < m
    · have hks : k < s.size := by omega
      have hks' : (k : Int) < s.size := by omega
      have hn : anyB (s[k].toNat : Int) [2, 4, 7] = true := by have := HA.out k hks hk; rw [decide_eq_true hkm] at this; exact this
      go_wp2_with (go_at_call 38; refine (isOneOf_any _ [2, 4, 7] 3 _ 0 3 _ rfl (by decide) (cells3 _ _ 2 4 7 63 rfl)).mono ?_; rintro e w1 ⟨rfl, rfl⟩; rw [hn])
      go_roundw
      case rel => exact ⟨k + 1, by omega, by go_num, hbe.alloc hbe.size _⟩
      case measure => simp [intOf]; omega
    · obtain rfl : k = m := by omega
      have hc : (k : Int) ≤ s.size := by omega
      have hc0 : (0 : Int) ≤ k := by omega
      by_cases hks : k < s.size
      · have hks' : (k : Int) < s.size := by omega
        have hn : anyB (s[k].toNat : Int) [2, 4, 7] = false := by have := HA.out k hks hk; rw [decide_eq_false hkm] at this; exact this
        go_wp2_with (go_at_call 38; refine (isOneOf_any _ [2, 4, 7] 3 _ 0 3 _ rfl (by decide) (cells3 _ _ 2 4 7 63 rfl)).mono ?_; rintro e w1 ⟨rfl, rfl⟩; rw [hn])
        go_region_held3 (fun _ => True) (trivial) ((first
          | (go_at_call 49; refine (HC.out _).mono ?_; rintro e w2 ⟨rfl, b2⟩)
          | (go_at_call 50; refine (HS.out _).mono ?_; rintro e w3 ⟨rfl, b3⟩)))
        all_goals
          go_wp2
          go_ret3
          exact ⟨HR.out, (hbe.alloc hbe.size _).drew.trans ((b2.trans (b3.mono b2.size)).mono (by have := hbe.size; simp; omega))⟩
      · have hks' : ¬ (k : Int) < s.size := by omega
        go_wp2
        go_region_held3 (fun _ => True) (trivial) ((first
          | (go_at_call 49; refine (HC.out _).mono ?_; rintro e w2 ⟨rfl, b2⟩)
          | (go_at_call 50; refine (HS.out _).mono ?_; rintro e w3 ⟨rfl, b3⟩)))
        all_goals
          go_wp2
          go_ret3
          exact ⟨HR.out, hbe.drew.trans ((b2.trans (b3.mono b2.size)).mono hbe.size)⟩
end Go.Proofs.YtcgmokjnjmefpabDoor
