/-
  What the specification's l7At and l7Name do.
-/
import Derived.Test.YtcgmokjnjmefpaaGreatDoorMathPieces2
import Derived.Test.YtcgmokjnjmefpaaGreatDoorHide
import Derived.Test.YtcgmokjnjmefpaaGreatDoorIsU8
import Derived.Test.YtcgmokjnjmefpaaGreatDoorSpecParse
namespace Go.Proofs.YtcgmokjnjmefpaaGreatDoor
open Go.RowKit M
set_option linter.unusedVariables false

theorem eqL3 (s : ByteArray) (l : List UInt8) : (s.toList == l) = decide (s.data.toList = l) := by
  rw [ByteArray.toList_eq, Bool.eq_iff_iff]; simp
theorem isPre_take (p l : List UInt8) : p.isPrefixOf l = decide (l.take p.length = p) := by
  rw [Bool.eq_iff_iff]
  simp only [List.isPrefixOf_iff_prefix, decide_eq_true_eq]
  constructor
  · rintro ⟨t, rfl⟩; simp
  · intro h
    refine ⟨l.drop p.length, ?_⟩
    have h2 := List.take_append_drop p.length l
    rw [h] at h2
    exact h2

set_option maxHeartbeats 1000000 in
theorem l7At_no (s t : ByteArray) (a : Nat) (w : World) (ha : a ≤ s.size) (hs : s.size ≤ 1099511627776) (ht : t.size ≤ 100) (h : ¬ a + t.size ≤ s.size) :
    Calls Tryz.prog 123 #[.string s, .int .i64 a, .string t] w fun e w' => e = .returned (.bool false) ∧ w' = w := by
  have h' : ¬ (a : Int) + t.size ≤ s.size := by omega
  go_enter Tryz.func123, Tryz.ntmps123
  go_wp2
  go_ret
  exact ⟨rfl, rfl⟩
set_option maxHeartbeats 1000000 in
theorem l7At_yes (s t : ByteArray) (a : Nat) (w : World) (ha : a ≤ s.size) (hs : s.size ≤ 1099511627776) (ht : t.size ≤ 100) (h : a + t.size ≤ s.size) :
    Calls Tryz.prog 123 #[.string s, .int .i64 a, .string t] w fun e w' => e = .returned (.bool (t.data.toList.isPrefixOf (s.data.toList.drop a))) ∧ w' = w := by
  have h' : (a : Int) + t.size ≤ s.size := by omega
  go_enter Tryz.func123, Tryz.ntmps123
  go_wp2
  go_ret
  refine ⟨ret_bool ?_, rfl⟩
  have e : t.data.toList.length = t.size := Array.length_toList
  rw [eqL3, isPre_take, extract_list, ByteArray.toList_eq, e, show a + t.size - a = t.size by omega]

theorem l7At_any (s t : ByteArray) (p : List UInt8) (hp : t.data.toList = p) (a : Nat) (w : World) (ha : a ≤ s.size) (hs : s.size ≤ 1099511627776) (ht : t.size ≤ 100) :
    Calls Tryz.prog 123 #[.string s, .int .i64 a, .string t] w fun e w' => e = .returned (.bool (p.isPrefixOf (s.data.toList.drop a))) ∧ w' = w := by
  subst hp
  by_cases h : a + t.size ≤ s.size
  · exact l7At_yes s t a w ha hs ht h
  · have e1 : t.data.toList.length = t.size := Array.length_toList
    have e2 : s.data.toList.length = s.size := Array.length_toList
    have : t.data.toList.isPrefixOf (s.data.toList.drop a) = false := by
      rw [isPre_take, decide_eq_false]
      intro e
      have := congrArg List.length e
      rw [List.length_take, List.length_drop] at this
      omega
    rw [this]
    exact l7At_no s t a w ha hs ht h

set_option maxHeartbeats 2000000 in
theorem l7Name_any (s : ByteArray) (a : Nat) (w : World) (ha : a ≤ s.size) (hs : s.size ≤ 1099511627776) :
    Calls Tryz.prog 124 #[.string s, .int .i64 a] w fun e w' => e = .returned (.int .i64 ((a + (nmL (s.data.toList.drop a)).length : Nat) : Int)) ∧ w' = w := by
  have HA := hide (fun k h1 h2 h3 => nm_at s a k h1 h2 h3)
  have hZ := nm_size s a ha
  obtain ⟨m, hm⟩ : ∃ m, a + (nmL (s.data.toList.drop a)).length = m := ⟨_, rfl⟩
  rw [hm] at HA hZ
  rw [hm]
  have ham : a ≤ m := by omega
  clear hm
  go_enter Tryz.func124, Tryz.ntmps124
  go_wp2
  go_loop [1] (fun i => ∃ k : Nat, a ≤ k ∧ k ≤ m ∧ i = .int .i64 k) (fun i => m - (intOf i).toNat)
  case atStart => exact ⟨a, Nat.le_refl _, ham, rfl⟩
  case round =>
    obtain ⟨k, hk1, hk2, rfl⟩ := hrel
    by_cases hks : k < s.size
    · have hks' : (k : Int) < s.size := by omega
      have hk0 : (0 : Int) ≤ k := by omega
      have hn := HA.out k hk1 hks hk2
      have hn' : (isB (s[k].toNat : Int) 2 || (isB (s[k].toNat : Int) 4 || (s[k].toNat : Int) == 45)) = decide (k < m) := by rw [← anyB_3]; exact hn
      clear hn
      by_cases hkm : k < m
      · rw [decide_eq_true hkm] at hn'
        cases q2 : isB (s[k].toNat : Int) 2
        · cases q4 : isB (s[k].toNat : Int) 4
          · have q7 : ((s[k].toNat : Int) == 45) = true := by rw [q2, q4] at hn'; simpa using hn'
            clear hn'
            go_wp2_with (first | (go_at_call 163; refine (l1Small_any _ _).mono ?_; rintro e w1 ⟨rfl, hw⟩; obtain rfl := hw.symm; rw [q2]) | (go_at_call 164; refine (l1Digit_any _ _).mono ?_; rintro e w1 ⟨rfl, hw⟩; obtain rfl := hw.symm; rw [q4]))
            go_round
            case rel => exact ⟨k + 1, by omega, by omega, by go_num⟩
            case measure => simp [intOf]; omega
          · clear hn'
            go_wp2_with (first | (go_at_call 163; refine (l1Small_any _ _).mono ?_; rintro e w1 ⟨rfl, hw⟩; obtain rfl := hw.symm; rw [q2]) | (go_at_call 164; refine (l1Digit_any _ _).mono ?_; rintro e w1 ⟨rfl, hw⟩; obtain rfl := hw.symm; rw [q4]))
            go_round
            case rel => exact ⟨k + 1, by omega, by omega, by go_num⟩
            case measure => simp [intOf]; omega
        · clear hn'
          go_wp2_with (go_at_call 163; refine (l1Small_any _ _).mono ?_; rintro e w1 ⟨rfl, hw⟩; obtain rfl := hw.symm; rw [q2])
          go_round
          case rel => exact ⟨k + 1, by omega, by omega, by go_num⟩
          case measure => simp [intOf]; omega
      · rw [decide_eq_false hkm] at hn'
        obtain ⟨q2, q4, q7⟩ : isB (s[k].toNat : Int) 2 = false ∧ isB (s[k].toNat : Int) 4 = false ∧ ((s[k].toNat : Int) == 45) = false := by
          rw [Bool.or_eq_false_iff, Bool.or_eq_false_iff] at hn'
          exact hn'
        obtain rfl : k = m := by omega
        clear hn'
        go_wp2_with (first | (go_at_call 163; refine (l1Small_any _ _).mono ?_; rintro e w1 ⟨rfl, hw⟩; obtain rfl := hw.symm; rw [q2]) | (go_at_call 164; refine (l1Digit_any _ _).mono ?_; rintro e w1 ⟨rfl, hw⟩; obtain rfl := hw.symm; rw [q4]))
        go_ret
        exact ⟨rfl, rfl⟩
    · obtain rfl : k = m := by omega
      have hks' : ¬ (k : Int) < s.size := by omega
      go_wp2
      go_ret
      exact ⟨rfl, rfl⟩
end Go.Proofs.YtcgmokjnjmefpaaGreatDoor
