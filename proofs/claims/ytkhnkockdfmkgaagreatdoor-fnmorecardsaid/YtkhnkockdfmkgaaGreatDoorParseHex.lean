/-
  What the library's ParseInt does at base 16, of one to four digits; what the program's ParseHex does.
-/
import Derived.Test.YtkhnkockdfmkgaaGreatDoorParseUint
namespace Go.Proofs.YtkhnkockdfmkgaaGreatDoor
open Go.RowKit M

set_option maxHeartbeats 2000000 in
set_option maxRecDepth 100000 in
theorem parseIntIn_16 (t : ByteArray) (w : World) (h0 : 0 < t.size) (h4 : t.size ≤ 4) (hh : hexs t.data.toList = true) :
    Calls Tryz.prog 155 #[.string t, .int .i64 16, .int .i64 64] w fun e w' => e = .returned (.tuple #[.int .i64 (hexVal t.data.toList), .nilIface]) ∧ Below w.heap.size w w' := by
  have hemp : t.toList.isEmpty = false := by
    rw [← decide_eq_emptyBytes]
    exact decide_eq_false (fun h => by rw [h] at h0; exact absurd h0 (by decide))
  have HP : Hid (∀ W, Calls Tryz.prog 169 #[.string t, .int .i64 16, .int .i64 64] W fun e w' => e = .returned (.tuple #[.int .u64 (hexVal t.data.toList), .nilIface]) ∧ Below W.heap.size W w') := fun W => parseUint_16 t W h0 h4 hh
  have hg := hexs_get t hh 0 h0
  have hne : (((t[0]).toNat : Int) == 43) = false ∧ (((t[0]).toNat : Int) == 45) = false := by
    rw [beq_eq_false_iff_ne, beq_eq_false_iff_ne]
    rcases isHex_cases hg with e4 | ⟨_, e5⟩ | ⟨_, _, e6⟩
    · have := isB4 e4; omega
    · have := isB5 e5; omega
    · have := isB6 e6; omega
  obtain ⟨hn1, hn2⟩ := hne
  have hv : hexVal t.data.toList < 1048576 := by
    have h1 := hexVal_lt t t.size (Nat.le_refl _) (by rw [take_all t t.size (by omega)]; exact hh)
    rw [take_all t t.size (by omega)] at h1
    have := pow16_le (show t.size ≤ 5 by omega)
    omega
  clear hg hh
  obtain ⟨a, ha⟩ : ∃ a : Int, a = (hexVal t.data.toList : Int) := ⟨_, rfl⟩
  rw [← ha] at HP ⊢
  have a0 : 0 ≤ a := by omega
  have a1 : a < 1048576 := by omega
  clear ha hv
  go_enter Tryz.func155, Tryz.ntmps155
  go_wp2_with (go_at_call 169; refine (HP.out _).mono ?_; rintro e w1 ⟨rfl, hb1⟩)
  go_ret2
  exact ⟨rfl, hb1⟩

set_option maxHeartbeats 1000000 in
theorem parseInt_16 (t : ByteArray) (w : World) (h0 : 0 < t.size) (h4 : t.size ≤ 4) (hh : hexs t.data.toList = true) :
    Calls Tryz.prog 163 #[.string t, .int .i64 16, .int .i64 64] w fun e w' => e = .returned (.tuple #[.int .i64 (hexVal t.data.toList), .nilIface]) ∧ Below w.heap.size w w' := by
  have HP : Hid (∀ W, Calls Tryz.prog 155 #[.string t, .int .i64 16, .int .i64 64] W fun e w' => e = .returned (.tuple #[.int .i64 (hexVal t.data.toList), .nilIface]) ∧ Below W.heap.size W w') := fun W => parseIntIn_16 t W h0 h4 hh
  clear hh
  generalize (hexVal t.data.toList : Int) = a at *
  go_enter Tryz.func163, Tryz.ntmps163
  go_wp2_with (go_at_call 155; refine (HP.out _).mono ?_; rintro e w1 ⟨rfl, hb1⟩)
  go_ret2
  exact ⟨rfl, hb1⟩

set_option maxHeartbeats 1000000 in
theorem parseHex_any (s : ByteArray) (w : World) (hs : s.size ≤ maxLen) :
    Calls Tryz.prog 149 #[.string s] w fun e w' => e = .returned (.tuple #[.int .i64 (parseHex s.data.toList).1, .bool (parseHex s.data.toList).2]) ∧ Below w.heap.size w w' := by
  have hs' := hs
  unfold maxLen at hs'
  cases hin : inB (s.size : Int) 1 4
  · have HQ : Hid (parseHex s.data.toList = (0, false)) := parseHex_size hin
    have h : s.size < 1 ∨ 4 < s.size := by simp [inB] at hin; omega
    clear hin
    rcases h with h | h
    · go_enter Tryz.func149, Tryz.ntmps149
      go_wp2
      go_ret2
      exact ⟨ret_two (by rw [HQ.out]), Below.refl _ _⟩
    · have h' : ¬ s.size < 1 := by omega
      go_enter Tryz.func149, Tryz.ntmps149
      go_wp2
      go_ret2
      exact ⟨ret_two (by rw [HQ.out]), Below.refl _ _⟩
  · have h0 : 0 < s.size := by simp [inB] at hin; omega
    have h4 : ¬ 4 < s.size := by simp [inB] at hin; omega
    have h1n : ¬ s.size < 1 := by omega
    have HIN : Hid (inB (s.size : Int) 1 4 = true) := hin
    clear hin
    cases hd : allB s.data.toList [4, 5, 6]
    · have HQ : Hid (parseHex s.data.toList = (0, false)) := parseHex_no hd
      go_enter Tryz.func149, Tryz.ntmps149
      go_wp2_with (go_at_call 89; refine (allOf_any s [4, 5, 6] 3 _ 0 3 _ rfl hs (by decide) (cells3 w _ 4 5 6 126 rfl)).mono ?_; rintro e w' ⟨rfl, rfl⟩; rw [hd])
      go_ret2
      exact ⟨ret_two (by rw [HQ.out]), (Below.refl _ _).alloc (Nat.le_refl _) _⟩
    · have HP : Hid (∀ W, Calls Tryz.prog 163 #[.string s, .int .i64 16, .int .i64 64] W fun e w' => e = .returned (.tuple #[.int .i64 (hexVal s.data.toList), .nilIface]) ∧ Below W.heap.size W w') := fun W => parseInt_16 s W h0 (by omega) hd
      have HQ : Hid (parseHex s.data.toList = ((hexVal s.data.toList : Int), true)) := parseHex_yes HIN.out hd
      have hv : hexVal s.data.toList < 1048576 := by
        have h1 := hexVal_lt s s.size (Nat.le_refl _) (by rw [take_all s s.size (by omega)]; exact hd)
        rw [take_all s s.size (by omega)] at h1
        have := pow16_le (show s.size ≤ 5 by omega)
        omega
      go_enter Tryz.func149, Tryz.ntmps149
      go_wp2_with (first | (go_at_call 89; refine (allOf_any s [4, 5, 6] 3 _ 0 3 _ rfl hs (by decide) (cells3 w _ 4 5 6 126 rfl)).mono ?_; rintro e w' ⟨rfl, rfl⟩; rw [hd]) | (go_at_call 163; refine (HP.out _).mono ?_; rintro e w1 ⟨rfl, hb1⟩))
      go_ret2
      exact ⟨ret_two (by rw [HQ.out]), ((Below.refl _ _).alloc (Nat.le_refl _) _).trans (hb1.mono (by simp))⟩
end Go.Proofs.YtkhnkockdfmkgaaGreatDoor
