/-
  What the specification's l1HexOf and ParseHex do.
-/
import Derived.Test.YtanebchmeaomgaaGreatDoorMathBack
import Derived.Test.YtanebchmeaomgaaGreatDoorSpecSm
import Derived.Test.YtanebchmeaomgaaGreatDoorMathGet
import Derived.Test.YtanebchmeaomgaaGreatDoorParseHex
namespace Go.Proofs.YtanebchmeaomgaaGreatDoor
open Go.RowKit M

set_option maxHeartbeats 1000000 in
theorem specParseHex_any (s : ByteArray) (w : World) (hs : s.size ≤ maxLen) :
    Calls Tryz.prog 165 #[.string s] w fun e w' => e = .returned (.tuple #[.int .i64 (parseHex s.data.toList).1, .bool (parseHex s.data.toList).2]) ∧ w' = w := by
  unfold maxLen at hs
  go_enter Tryz.func165, Tryz.ntmps165
  go_wp2
  go_loop [4, 5] (fun n i => ∃ k : Nat, k ≤ s.size ∧ k ≤ 5 ∧ i = .int .i64 k ∧ n = .int .i64 (hexVal (s.data.toList.take k)) ∧ hexs (s.data.toList.take k) = true) (fun _ i => s.size - (intOf i).toNat)
  case atStart => exact ⟨0, Nat.zero_le _, Nat.zero_le _, rfl, rfl, rfl⟩
  case round =>
    obtain ⟨k, hk, hk5, rfl, rfl, hn⟩ := hrel
    have HN : Hid (hexs (s.data.toList.take k) = true) := hn
    have hv : hexVal (s.data.toList.take k) < 1048576 := by
      have h1 := hexVal_lt s k hk hn
      have h4 := pow16_le hk5
      omega
    clear hn
    by_cases hlt : k < s.size
    · by_cases hl5 : k < 5
      · cases hb : isHex s[k]
        · go_wp2_with (go_at_call 187; refine (l1HexOf_any _ _).mono ?_; rintro e w' ⟨rfl, rfl⟩; rw [hexOf_no hb])
          go_ret2
          exact ⟨ret_two (by rw [parseHex_no (hexs_not s k hlt hb)]), rfl⟩
        · have hw16 := hexW_lt hb
          have HV : Hid (hexVal (s.data.toList.take (k + 1)) = hexVal (s.data.toList.take k) * 16 + hexW s[k]) := hexVal_step s k hlt
          have HO : Hid (hexOf s[k] = (hexW s[k] : Int)) := hexOf_yes hb
          generalize hexVal (s.data.toList.take k) = v at *
          generalize hexW s[k] = d at *
          go_wp2_with (go_at_call 187; refine (l1HexOf_any _ _).mono ?_; rintro e w' ⟨rfl, rfl⟩; rw [HO.out])
          go_round
          case rel =>
            refine ⟨k + 1, by omega, by omega, by go_num, ?_, hexs_snoc s k hlt HN.out hb⟩
            rw [HV.out]
            go_num
          case measure => simp [intOf]; omega
      · have hin : inB (s.size : Int) 1 4 = false := by simp [inB]; omega
        go_wp2_with (go_at_call 123; refine (l1In_any _ _ _ _).mono ?_; rintro e w' ⟨rfl, rfl⟩; rw [hin])
        go_ret2
        exact ⟨ret_two (by rw [parseHex_size hin]), rfl⟩
    · have HD : Hid (hexs s.data.toList = true) := by
        have := HN.out
        rwa [take_all s k hlt] at this
      rw [take_all s k hlt] at hv ⊢
      cases hin : inB (s.size : Int) 1 4
      · go_wp2_with (go_at_call 123; refine (l1In_any _ _ _ _).mono ?_; rintro e w' ⟨rfl, rfl⟩; rw [hin])
        go_ret2
        exact ⟨ret_two (by rw [parseHex_size hin]), rfl⟩
      · have HQ : Hid (parseHex s.data.toList = ((hexVal s.data.toList : Int), true)) := parseHex_yes hin HD.out
        go_wp2_with (go_at_call 123; refine (l1In_any _ _ _ _).mono ?_; rintro e w' ⟨rfl, rfl⟩; rw [hin])
        go_ret2
        exact ⟨ret_two (by rw [HQ.out]), rfl⟩
end Go.Proofs.YtanebchmeaomgaaGreatDoor
