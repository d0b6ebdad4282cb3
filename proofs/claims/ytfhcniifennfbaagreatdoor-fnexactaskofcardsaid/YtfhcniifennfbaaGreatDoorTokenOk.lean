/-
  What the program's allOf does: whether all bytes of a text are of one of these kinds.
  What the program's ParseNum does.
  What impl.tokenOk does.
-/
import Derived.Test.YtfhcniifennfbaaGreatDoorKinds
import Derived.Test.YtfhcniifennfbaaGreatDoorShelf
import Derived.Lib.ConvBytes
import Derived.Test.YtfhcniifennfbaaGreatDoorAt7
import Derived.Test.YtfhcniifennfbaaGreatDoorSliceEq
namespace Go.Proofs.YtfhcniifennfbaaGreatDoor
open Go.RowKit M

set_option maxHeartbeats 400000 in
theorem allOf_any (s : ByteArray) (ks : List Int) (n b o cap : Nat) (w : World) (hn : ks.length = n) (hs : s.size ≤ maxLen) (hl : ks.length ≤ maxLen)
    (hc : ∀ i, i < ks.length → w.cell? ⟨b, o + i, none⟩ = some (.int .i64 (ks.getD i 0))) :
    Calls Tryz.prog 182 #[.string s, .slice (some ⟨b, o, none⟩) n cap] w fun e w' => e = .returned (.bool (allB s.data.toList ks)) ∧ w' = w := by
  subst hn
  unfold maxLen at hs
  have HC : Hid (∀ i, i < ks.length → w.cell? ⟨b, o + i, none⟩ = some (.int .i64 (ks.getD i 0))) := hc
  clear hc
  go_enter Tryz.func182, Tryz.ntmps182
  go_wp2
  go_loop [5] (fun i => ∃ k : Nat, k ≤ s.size ∧ i = .int .i64 k ∧ allB (s.data.toList.take k) ks = true) (fun i => s.size - (intOf i).toNat)
  case atStart => exact ⟨0, Nat.zero_le _, rfl, rfl⟩
  case round =>
    obtain ⟨k, hk, rfl, hn⟩ := hrel
    have HN : Hid (allB (s.data.toList.take k) ks = true) := hn; clear hn
    by_cases hlt : k < s.size
    · go_wp2_with (go_at_call 127; refine (isOneOf_any _ ks _ b o cap _ rfl hl HC.out).mono ?_; rintro e w' ⟨rfl, rfl⟩)
      · go_ret
        exact ⟨ret_bool (by rw [allB_not s ks k hlt (by assumption)]), rfl⟩
      · go_round
        case rel => exact ⟨k + 1, by omega, by go_num, allB_snoc s ks k hlt HN.out (by assumption)⟩
        case measure => simp [intOf]; omega
    · go_wp2
      go_ret
      exact ⟨ret_bool (by rw [← HN.out, take_all s k hlt]), rfl⟩
end Go.Proofs.YtfhcniifennfbaaGreatDoor
namespace Go.Proofs.YtfhcniifennfbaaGreatDoor
open Go.RowKit M

theorem atoi_calls (s : ByteArray) (w : World) (hd : digs s.data.toList = true) (h0 : 0 < s.size) (h7 : s.size ≤ 7) :
    Calls Tryz.prog 234 #[.string s] w fun e w' => e = .returned (.tuple #[.int .i64 (decVal s.data.toList), .nilIface]) ∧ Below w.heap.size w w' := by
  refine (Tryz.strconv_Atoi s (decVal s.data.toList : Int) (by omega) (atoi_val _ hd (by rw [len_list]; omega)) w).mono ?_
  rintro e w' ⟨rfl, t, rfl⟩
  exact ⟨rfl, below_bytes _ _ _⟩

set_option maxHeartbeats 1000000 in
theorem parseNum_any (s : ByteArray) (most : Int) (w : World) (hs : s.size ≤ maxLen) :
    Calls Tryz.prog 207 #[.string s, .int .i64 most] w fun e w' => e = .returned (.tuple #[.int .i64 (parseNum s.data.toList most).1, .bool (parseNum s.data.toList most).2]) ∧ Below w.heap.size w w' := by
  have hs' := hs
  unfold maxLen at hs'
  cases hin : inB (s.size : Int) 1 7
  · have HQ : Hid (parseNum s.data.toList most = (0, false)) := parseNum_no (not_size hin)
    have h : s.size < 1 ∨ 7 < s.size := by simp [inB] at hin; omega
    clear hin
    rcases h with h | h
    · go_enter Tryz.func207, Tryz.ntmps207
      go_wp2
      go_ret2
      exact ⟨ret_two (by rw [HQ.out]), Below.refl _ _⟩
    · have h' : ¬ s.size < 1 := by omega
      go_enter Tryz.func207, Tryz.ntmps207
      go_wp2
      go_ret2
      exact ⟨ret_two (by rw [HQ.out]), Below.refl _ _⟩
  · have h0 : 0 < s.size := by simp [inB] at hin; omega
    have h7 : ¬ 7 < s.size := by simp [inB] at hin; omega
    have h1n : ¬ s.size < 1 := by omega
    have HIN : Hid (inB (s.size : Int) 1 7 = true) := hin
    clear hin
    cases hd : allB s.data.toList [4]
    · have HQ : Hid (parseNum s.data.toList most = (0, false)) := parseNum_no (not_digs hd)
      go_enter Tryz.func207, Tryz.ntmps207
      go_wp2_with (go_at_call 182; refine (allOf_any s [4] 1 _ 0 1 _ rfl hs (by decide) (cells1 w 4 161)).mono ?_; rintro e w' ⟨rfl, rfl⟩; rw [hd])
      go_ret2
      exact ⟨ret_two (by rw [HQ.out]), (Below.refl _ _).alloc (Nat.le_refl _) _⟩
    · have HD : Hid (digs s.data.toList = true) := hd
      have hrest : (1 < s.size → (((s[0]).toNat : Int) == 48) = false) → Calls Tryz.prog 207 #[.string s, .int .i64 most] w fun e w' => e = .returned (.tuple #[.int .i64 (parseNum s.data.toList most).1, .bool (parseNum s.data.toList most).2]) ∧ Below w.heap.size w w' := by
        intro hz
        have hv : decVal s.data.toList < 100000000 := by
          have h1 := decVal_lt _ hd
          have h3 := Nat.pow_le_pow_right (show 0 < 10 by decide) (show s.data.toList.length ≤ 8 by rw [len_list]; omega)
          omega
        by_cases hm : most < (decVal s.data.toList : Int)
        · have HQ : Hid (parseNum s.data.toList most = (0, false)) := parseNum_no (not_most hm)
          by_cases h1 : 1 < s.size
          · have hz' := hz h1
            have h1' : (1 : Int) < s.size := by omega
            clear hz
            go_enter Tryz.func207, Tryz.ntmps207
            go_wp2_with (first | (go_at_call 182; refine (allOf_any s [4] 1 _ 0 1 _ rfl hs (by decide) (cells1 w 4 161)).mono ?_; rintro e w' ⟨rfl, rfl⟩; rw [hd]) | (go_at_call 234; refine (atoi_calls s _ HD.out h0 (by omega)).mono ?_; rintro e w1 ⟨rfl, hb1⟩))
            go_ret2
            exact ⟨ret_two (by rw [HQ.out]), ((Below.refl _ _).alloc (Nat.le_refl _) _).trans (hb1.mono (by simp))⟩
          · have h1' : ¬ (1 : Int) < s.size := by omega
            clear hz
            go_enter Tryz.func207, Tryz.ntmps207
            go_wp2_with (first | (go_at_call 182; refine (allOf_any s [4] 1 _ 0 1 _ rfl hs (by decide) (cells1 w 4 161)).mono ?_; rintro e w' ⟨rfl, rfl⟩; rw [hd]) | (go_at_call 234; refine (atoi_calls s _ HD.out h0 (by omega)).mono ?_; rintro e w1 ⟨rfl, hb1⟩))
            go_ret2
            exact ⟨ret_two (by rw [HQ.out]), ((Below.refl _ _).alloc (Nat.le_refl _) _).trans (hb1.mono (by simp))⟩
        · have HQ : Hid (parseNum s.data.toList most = ((decVal s.data.toList : Int), true)) := parseNum_yes (is_ok h0 HIN.out HD.out hz hm)
          by_cases h1 : 1 < s.size
          · have hz' := hz h1
            have h1' : (1 : Int) < s.size := by omega
            clear hz
            go_enter Tryz.func207, Tryz.ntmps207
            go_wp2_with (first | (go_at_call 182; refine (allOf_any s [4] 1 _ 0 1 _ rfl hs (by decide) (cells1 w 4 161)).mono ?_; rintro e w' ⟨rfl, rfl⟩; rw [hd]) | (go_at_call 234; refine (atoi_calls s _ HD.out h0 (by omega)).mono ?_; rintro e w1 ⟨rfl, hb1⟩))
            go_ret2
            exact ⟨ret_two (by rw [HQ.out]), ((Below.refl _ _).alloc (Nat.le_refl _) _).trans (hb1.mono (by simp))⟩
          · have h1' : ¬ (1 : Int) < s.size := by omega
            clear hz
            go_enter Tryz.func207, Tryz.ntmps207
            go_wp2_with (first | (go_at_call 182; refine (allOf_any s [4] 1 _ 0 1 _ rfl hs (by decide) (cells1 w 4 161)).mono ?_; rintro e w' ⟨rfl, rfl⟩; rw [hd]) | (go_at_call 234; refine (atoi_calls s _ HD.out h0 (by omega)).mono ?_; rintro e w1 ⟨rfl, hb1⟩))
            go_ret2
            exact ⟨ret_two (by rw [HQ.out]), ((Below.refl _ _).alloc (Nat.le_refl _) _).trans (hb1.mono (by simp))⟩
      by_cases h1 : 1 < s.size
      · cases hz : (((s[0]).toNat : Int) == 48)
        · exact hrest (fun _ => hz)
        · have HQ : Hid (parseNum s.data.toList most = (0, false)) := parseNum_no (not_nought h0 h1 hz)
          have h1' : (1 : Int) < s.size := by omega
          clear hrest
          go_enter Tryz.func207, Tryz.ntmps207
          go_wp2_with (go_at_call 182; refine (allOf_any s [4] 1 _ 0 1 _ rfl hs (by decide) (cells1 w 4 161)).mono ?_; rintro e w' ⟨rfl, rfl⟩; rw [hd])
          go_ret2
          exact ⟨ret_two (by rw [HQ.out]), (Below.refl _ _).alloc (Nat.le_refl _) _⟩
      · exact hrest (fun h => absurd h h1)
end Go.Proofs.YtfhcniifennfbaaGreatDoor
namespace Go.Proofs.YtfhcniifennfbaaGreatDoor
open Go.RowKit M
set_option linter.unusedVariables false

set_option maxHeartbeats 400000 in
theorem tokenOk_any (x : Int) (w : World) :
    Calls Tryz.prog 208 #[.int .i64 x] w fun e w' => e = .returned (.bool (inB x 1 9999)) ∧ w' = w := by
  go_enter Tryz.func208, Tryz.ntmps208
  go_wp2
  all_goals
    go_ret
    refine ⟨ret_bool ?_, rfl⟩
    go_light
    unfold inB
    simp_all
    try omega
end Go.Proofs.YtfhcniifennfbaaGreatDoor
