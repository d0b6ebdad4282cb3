/-
  What the specification's l1HexOf does.
  What the library's ParseUint and ParseInt do at base 16, of one to four digits; what the program's ParseHex does.
  What the library's ParseInt does at base 16, of one to four digits; what the program's ParseHex does.
-/
import Derived.Test.YtcgmokjnjmefpaaGreatDoorSpecSm
import Derived.Test.YtcgmokjnjmefpaaGreatDoorParseBase
import Derived.Test.YtcgmokjnjmefpaaGreatDoorPlain
import Derived.Test.YtcgmokjnjmefpaaGreatDoorShelf
import Derived.Laws.Closers25b
import Derived.BigCall
import Derived.BigGuard
namespace Go.Proofs.YtcgmokjnjmefpaaGreatDoor
open Go.RowKit M

set_option maxHeartbeats 400000 in
theorem l1HexOf_any (c : UInt8) (w : World) :
    Calls Tryz.prog 130 #[.int .u8 c.toNat] w fun e w' => e = .returned (.int .i64 (hexOf c)) ∧ w' = w := by
  cases h4 : isB (c.toNat : Int) 4
  · cases h5 : isB (c.toNat : Int) 5
    · cases h6 : isB (c.toNat : Int) 6
      · have HO : Hid (hexOf c = -1) := hexOf_no (by simp [isHex, anyB, h4, h5, h6])
        go_enter Tryz.func130, Tryz.ntmps130
        go_wp2_with (first | (go_at_call 164; refine (l1Digit_any _ _).mono ?_; rintro e w' ⟨rfl, rfl⟩; rw [h4]) | (go_at_call 51; refine (l1In_any _ _ _ _).mono ?_; rintro e w' ⟨rfl, rfl⟩; (try rw [wrap64_u8]); first | rw [inB_hexs, h5] | rw [inB_hexl, h6]))
        go_ret
        exact ⟨ret_int HO.out.symm, rfl⟩
      · have hh : isHex c = true := by simp [isHex, anyB, h4, h5, h6]
        have HO : Hid (hexOf c = (c.toNat : Int) - 65 + 10) := by
          show _ = _
          rw [hexOf_yes hh, hexW_6 h4 h5]
          have := isB6 h6
          omega
        have hb := isB6 h6
        go_enter Tryz.func130, Tryz.ntmps130
        go_wp2_with (first | (go_at_call 164; refine (l1Digit_any _ _).mono ?_; rintro e w' ⟨rfl, rfl⟩; rw [h4]) | (go_at_call 51; refine (l1In_any _ _ _ _).mono ?_; rintro e w' ⟨rfl, rfl⟩; (try rw [wrap64_u8]); first | rw [inB_hexs, h5] | rw [inB_hexl, h6]))
        go_ret
        exact ⟨ret_int HO.out.symm, rfl⟩
    · have hh : isHex c = true := by simp [isHex, anyB, h4, h5]
      have HO : Hid (hexOf c = (c.toNat : Int) - 97 + 10) := by
        show _ = _
        rw [hexOf_yes hh, hexW_5 h4 h5]
        have := isB5 h5
        omega
      have hb := isB5 h5
      go_enter Tryz.func130, Tryz.ntmps130
      go_wp2_with (first | (go_at_call 164; refine (l1Digit_any _ _).mono ?_; rintro e w' ⟨rfl, rfl⟩; rw [h4]) | (go_at_call 51; refine (l1In_any _ _ _ _).mono ?_; rintro e w' ⟨rfl, rfl⟩; (try rw [wrap64_u8]); rw [inB_hexs, h5]))
      go_ret
      exact ⟨ret_int HO.out.symm, rfl⟩
  · have hh : isHex c = true := by simp [isHex, anyB, h4]
    have HO : Hid (hexOf c = (c.toNat : Int) - 48) := by
      show _ = _
      rw [hexOf_yes hh, hexW_4 h4]
      have := isB4 h4
      omega
    have hb := isB4 h4
    go_enter Tryz.func130, Tryz.ntmps130
    go_wp2_with (go_at_call 164; refine (l1Digit_any _ _).mono ?_; rintro e w' ⟨rfl, rfl⟩; rw [h4])
    go_ret
    exact ⟨ret_int HO.out.symm, rfl⟩

end Go.Proofs.YtcgmokjnjmefpaaGreatDoor
namespace Go.Proofs.YtcgmokjnjmefpaaGreatDoor
open Go.RowKit M

theorem low_small : ∀ d : Fin 256, 97 ≤ d.val → d.val ≤ 102 → bits .or .u8 (d.val : Int) 32 = (d.val : Int) := by decide +kernel
theorem low_large : ∀ d : Fin 256, 65 ≤ d.val → d.val ≤ 70 → bits .or .u8 (d.val : Int) 32 = (d.val : Int) + 32 := by decide +kernel

set_option maxHeartbeats 4000000 in
set_option maxRecDepth 100000 in
theorem parseUint_16 (t : ByteArray) (w : World) (h0 : 0 < t.size) (h4 : t.size ≤ 4) (hh : hexs t.data.toList = true) :
    Calls Tryz.prog 205 #[.string t, .int .i64 16, .int .i64 64] w fun e w' => e = .returned (.tuple #[.int .u64 (hexVal t.data.toList), .nilIface]) ∧ Below w.heap.size w w' := by
  have hemp : t.toList.isEmpty = false := by
    rw [← decide_eq_emptyBytes]
    exact decide_eq_false (fun h => by rw [h] at h0; exact absurd h0 (by decide))
  have hcv := Lib.run_convert_string_bytes (P := Tryz.prog) w 9 22 5 t Tryz.underlying9 Tryz.underlying22 Tryz.underlying5
  have hB : ∀ j (hj : j < t.size), (Lib.bytesWorld w 5 t).cell? ⟨w.heap.size, j, none⟩ = some (.int .u8 (t[j]).toNat) := fun j hj => by
    rw [Lib.bytesWorld_cell w 5 t j hj]
    have e := len_list t
    have : t.data.toList.getD j 0 = t[j] := by
      simp only [List.getD, List.getElem?_eq_getElem (show j < t.data.toList.length by omega), Option.getD_some]; rfl
    rw [this]
  have hbel := below_bytes w 5 t
  obtain ⟨W1, hW1⟩ : ∃ W1, W1 = Lib.bytesWorld w 5 t := ⟨_, rfl⟩
  rw [← hW1] at hcv hB hbel
  clear hW1
  have HB : Hid (∀ j (hj : j < t.size), W1.cell? ⟨w.heap.size, j, none⟩ = some (.int .u8 (t[j]).toNat)) := hB
  have HBE : Hid (Below w.heap.size w W1) := hbel
  have HH : Hid (hexs t.data.toList = true) := hh
  clear hB hbel hh
  have hmv : IntKind.u64.wrap (IntKind.u64.wrap 18446744073709551616 - 1) = 18446744073709551615 := by
    rw [IntKind.wrap_u64, IntKind.wrap_u64]
    decide
  go_enter Tryz.func205, Tryz.ntmps205
  go_wp2
  go_loop [12, 13, 101] (fun vu vn vi => ∃ (k : Nat) (a : Int), vu = .bool false ∧ vn = .int .u64 a ∧ vi = .int .i64 k ∧ k ≤ t.size ∧ Hid (a = (hexVal (t.data.toList.take k) : Int) ∧ hexs (t.data.toList.take k) = true))
    (fun _ _ vi => t.size - (intOf vi).toNat)
  case atStart => exact ⟨0, 0, rfl, rfl, rfl, by omega, rfl, rfl⟩
  case round =>
    obtain ⟨k, a, rfl, rfl, rfl, hk, hx⟩ := hrel
    obtain ⟨ha, hhx⟩ := hx.out
    clear hx
    have hlt16 := hexVal_lt t k hk hhx
    have hp16 := pow16_le (show k ≤ 5 by omega)
    have a0 : 0 ≤ a := by omega
    have a1 : a < 1048576 := by omega
    have HA : Hid (a = (hexVal (t.data.toList.take k) : Int)) := ha
    have HX : Hid (hexs (t.data.toList.take k) = true) := hhx
    clear ha hhx hlt16 hp16
    by_cases hkn : k < t.size
    · have hc := HB.out k hkn
      have hhex := hexs_get t HH.out k hkn
      have HS : Hid (hexVal (t.data.toList.take (k + 1)) = hexVal (t.data.toList.take k) * 16 + hexW t[k]) := hexVal_step t k hkn
      have HX2 : Hid (hexs (t.data.toList.take (k + 1)) = true) := hexs_snoc t k hkn HX.out hhex
      generalize t[k] = c at hc hhex HS
      have hc256 : c.toNat < 256 := c.toNat_lt
      have hfin : ∀ d : Int, d = (hexW c : Int) → Hid (a * 16 + d = (hexVal (t.data.toList.take (k + 1)) : Int) ∧ hexs (t.data.toList.take (k + 1)) = true) := by
        intro d hd
        refine ⟨?_, HX2.out⟩
        rw [hd, HA.out, HS.out]
        simp
      have HFIN : Hid (∀ d : Int, d = (hexW c : Int) → Hid (a * 16 + d = (hexVal (t.data.toList.take (k + 1)) : Int) ∧ hexs (t.data.toList.take (k + 1)) = true)) := hfin
      clear hfin HS HX2
      have HC : Hid (isHex c = true) := hhex
      clear hhex
      rcases isHex_cases HC.out with e4 | ⟨e4, e5⟩ | ⟨e4, e5, e6⟩
      · have hd := isB4 e4
        have HD : Hid ((c.toNat : Int) - 48 = (hexW c : Int)) := by
          show _ = _
          rw [hexW_4 e4]; omega
        clear e4
        go_wp2
        refine ⟨⟨k + 1, a * 16 + ((c.toNat : Int) - 48), rfl, rfl, by go_num, by omega, HFIN.out _ HD.out⟩, by simp [intOf]; omega⟩
      · have hd := isB5 e5
        have hlow := low_small ⟨c.toNat, hc256⟩ (by simp; omega) (by simp; omega)
        have hlow' : bits .or .u8 (c.toNat : Int) 32 = (c.toNat : Int) := hlow
        have HD : Hid ((c.toNat : Int) - 97 + 10 = (hexW c : Int)) := by
          show _ = _
          rw [hexW_5 e4 e5]; omega
        clear e4 e5 hlow
        go_wp2_with (go_at_call 211; refine (Tryz.internal_strconv_lower _ _).mono ?_; rintro e w' ⟨rfl, rfl⟩; rw [hlow'])
        refine ⟨⟨k + 1, a * 16 + ((c.toNat : Int) - 97 + 10), rfl, rfl, by go_num, by omega, HFIN.out _ HD.out⟩, by simp [intOf]; omega⟩
      · have hd := isB6 e6
        have hlow := low_large ⟨c.toNat, hc256⟩ (by simp; omega) (by simp; omega)
        have hlow' : bits .or .u8 (c.toNat : Int) 32 = (c.toNat : Int) + 32 := hlow
        have HD : Hid ((c.toNat : Int) + 32 - 97 + 10 = (hexW c : Int)) := by
          show _ = _
          rw [hexW_6 e4 e5]; omega
        clear e4 e5 e6 hlow
        go_wp2_with (go_at_call 211; refine (Tryz.internal_strconv_lower _ _).mono ?_; rintro e w' ⟨rfl, rfl⟩; rw [hlow'])
        refine ⟨⟨k + 1, a * 16 + ((c.toNat : Int) + 32 - 97 + 10), rfl, rfl, by go_num, by omega, HFIN.out _ HD.out⟩, by simp [intOf]; omega⟩
    · go_wp2
      go_ret2
      refine ⟨?_, HBE.out⟩
      rw [HA.out, take_all t k hkn]; rfl
end Go.Proofs.YtcgmokjnjmefpaaGreatDoor
namespace Go.Proofs.YtcgmokjnjmefpaaGreatDoor
open Go.RowKit M

set_option maxHeartbeats 2000000 in
set_option maxRecDepth 100000 in
theorem parseIntIn_16 (t : ByteArray) (w : World) (h0 : 0 < t.size) (h4 : t.size ≤ 4) (hh : hexs t.data.toList = true) :
    Calls Tryz.prog 188 #[.string t, .int .i64 16, .int .i64 64] w fun e w' => e = .returned (.tuple #[.int .i64 (hexVal t.data.toList), .nilIface]) ∧ Below w.heap.size w w' := by
  have hemp : t.toList.isEmpty = false := by
    rw [← decide_eq_emptyBytes]
    exact decide_eq_false (fun h => by rw [h] at h0; exact absurd h0 (by decide))
  have HP : Hid (∀ W, Calls Tryz.prog 205 #[.string t, .int .i64 16, .int .i64 64] W fun e w' => e = .returned (.tuple #[.int .u64 (hexVal t.data.toList), .nilIface]) ∧ Below W.heap.size W w') := fun W => parseUint_16 t W h0 h4 hh
  have hg := hexs_get t hh 0 h0
  have hne : (((t[0]).toNat : Int) == 43) = false ∧ (((t[0]).toNat : Int) == 45) = false := by
    rw [beq_eq_false_iff_ne, beq_eq_false_iff_ne]
    rcases isHex_cases hg with e4 | ⟨_, e5⟩ | ⟨_, _, e6⟩
    · have := isB4 e4; omega
    · have := isB5 e5; omega
    · have := isB6 e6; omega
  obtain ⟨hn1, hn2⟩ := hne
  have hv : hexVal t.data.toList < 1048576 := by
    have h1 := hexVal_lt t t.size (Nat.le_refl _) (by rw [take_all t t.size (by omega)]; exact hh)
    rw [take_all t t.size (by omega)] at h1
    have := pow16_le (show t.size ≤ 5 by omega)
    omega
  clear hg hh
  obtain ⟨a, ha⟩ : ∃ a : Int, a = (hexVal t.data.toList : Int) := ⟨_, rfl⟩
  rw [← ha] at HP ⊢
  have a0 : 0 ≤ a := by omega
  have a1 : a < 1048576 := by omega
  clear ha hv
  go_enter Tryz.func188, Tryz.ntmps188
  go_wp2_with (go_at_call 205; refine (HP.out _).mono ?_; rintro e w1 ⟨rfl, hb1⟩)
  go_ret2
  exact ⟨rfl, hb1⟩

set_option maxHeartbeats 1000000 in
theorem parseInt_16 (t : ByteArray) (w : World) (h0 : 0 < t.size) (h4 : t.size ≤ 4) (hh : hexs t.data.toList = true) :
    Calls Tryz.prog 187 #[.string t, .int .i64 16, .int .i64 64] w fun e w' => e = .returned (.tuple #[.int .i64 (hexVal t.data.toList), .nilIface]) ∧ Below w.heap.size w w' := by
  have HP : Hid (∀ W, Calls Tryz.prog 188 #[.string t, .int .i64 16, .int .i64 64] W fun e w' => e = .returned (.tuple #[.int .i64 (hexVal t.data.toList), .nilIface]) ∧ Below W.heap.size W w') := fun W => parseIntIn_16 t W h0 h4 hh
  clear hh
  generalize (hexVal t.data.toList : Int) = a at *
  go_enter Tryz.func187, Tryz.ntmps187
  go_wp2_with (go_at_call 188; refine (HP.out _).mono ?_; rintro e w1 ⟨rfl, hb1⟩)
  go_ret2
  exact ⟨rfl, hb1⟩

set_option maxHeartbeats 1000000 in
theorem parseHex_any (s : ByteArray) (w : World) (hs : s.size ≤ maxLen) :
    Calls Tryz.prog 167 #[.string s] w fun e w' => e = .returned (.tuple #[.int .i64 (parseHex s.data.toList).1, .bool (parseHex s.data.toList).2]) ∧ Below w.heap.size w w' := by
  have hs' := hs
  unfold maxLen at hs'
  cases hin : inB (s.size : Int) 1 4
  · have HQ : Hid (parseHex s.data.toList = (0, false)) := parseHex_size hin
    have h : s.size < 1 ∨ 4 < s.size := by simp [inB] at hin; omega
    clear hin
    rcases h with h | h
    · go_enter Tryz.func167, Tryz.ntmps167
      go_wp2
      go_ret2
      exact ⟨ret_two (by rw [HQ.out]), Below.refl _ _⟩
    · have h' : ¬ s.size < 1 := by omega
      go_enter Tryz.func167, Tryz.ntmps167
      go_wp2
      go_ret2
      exact ⟨ret_two (by rw [HQ.out]), Below.refl _ _⟩
  · have h0 : 0 < s.size := by simp [inB] at hin; omega
    have h4 : ¬ 4 < s.size := by simp [inB] at hin; omega
    have h1n : ¬ s.size < 1 := by omega
    have HIN : Hid (inB (s.size : Int) 1 4 = true) := hin
    clear hin
    cases hd : allB s.data.toList [4, 5, 6]
    · have HQ : Hid (parseHex s.data.toList = (0, false)) := parseHex_no hd
      go_enter Tryz.func167, Tryz.ntmps167
      go_wp2_with (go_at_call 118; refine (allOf_any s [4, 5, 6] 3 _ 0 3 _ rfl hs (by decide) (cells3 w _ 4 5 6 168 rfl)).mono ?_; rintro e w' ⟨rfl, rfl⟩; rw [hd])
      go_ret2
      exact ⟨ret_two (by rw [HQ.out]), (Below.refl _ _).alloc (Nat.le_refl _) _⟩
    · have HP : Hid (∀ W, Calls Tryz.prog 187 #[.string s, .int .i64 16, .int .i64 64] W fun e w' => e = .returned (.tuple #[.int .i64 (hexVal s.data.toList), .nilIface]) ∧ Below W.heap.size W w') := fun W => parseInt_16 s W h0 (by omega) hd
      have HQ : Hid (parseHex s.data.toList = ((hexVal s.data.toList : Int), true)) := parseHex_yes HIN.out hd
      have hv : hexVal s.data.toList < 1048576 := by
        have h1 := hexVal_lt s s.size (Nat.le_refl _) (by rw [take_all s s.size (by omega)]; exact hd)
        rw [take_all s s.size (by omega)] at h1
        have := pow16_le (show s.size ≤ 5 by omega)
        omega
      go_enter Tryz.func167, Tryz.ntmps167
      go_wp2_with (first | (go_at_call 118; refine (allOf_any s [4, 5, 6] 3 _ 0 3 _ rfl hs (by decide) (cells3 w _ 4 5 6 168 rfl)).mono ?_; rintro e w' ⟨rfl, rfl⟩; rw [hd]) | (go_at_call 187; refine (HP.out _).mono ?_; rintro e w1 ⟨rfl, hb1⟩))
      go_ret2
      exact ⟨ret_two (by rw [HQ.out]), ((Below.refl _ _).alloc (Nat.le_refl _) _).trans (hb1.mono (by simp))⟩
end Go.Proofs.YtcgmokjnjmefpaaGreatDoor
