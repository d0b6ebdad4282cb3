/-
  What the specification's l1HexDigit and Hex do.
-/
import Derived.Test.YtcgmokjnjmefpaaGreatDoorPutHead
namespace Go.Proofs.YtcgmokjnjmefpaaGreatDoor
open Go.RowKit M

set_option maxHeartbeats 400000 in
theorem l1HexDigit_any (d : Int) (w : World) (h0 : 0 ≤ d) (h1 : d < 16) :
    Calls Tryz.prog 174 #[.int .i64 d] w fun e w' => e = .returned (.int .u8 (hexCh d.toNat).toNat) ∧ w' = w := by
  obtain ⟨m, rfl⟩ := Int.eq_ofNat_of_zero_le h0
  rw [Int.toNat_natCast, hexCh_toNat m (by omega)]
  by_cases h : m < 10
  · rw [if_pos h]
    go_enter Tryz.func174, Tryz.ntmps174
    go_wp2
    go_ret
    exact ⟨by simp, rfl⟩
  · rw [if_neg h]
    go_enter Tryz.func174, Tryz.ntmps174
    go_wp2
    go_ret
    refine ⟨?_, rfl⟩
    go_light
    congr 2
    simp
    omega

set_option maxHeartbeats 1000000 in
theorem specHex_pos (N : Nat) (w : World) (hN : N ≤ 9223372036854775807) :
    Calls Tryz.prog 143 #[.int .i64 N] w fun e w' => e = .returned (.string ⟨(hexDigits N).toArray⟩) ∧ Below w.heap.size w w' := by
  have hcv := conv_one
  have hm0 : (0 : Int) ≤ (N : Int) % 16 := by omega
  have hm1 : (N : Int) % 16 < 16 := by omega
  go_enter Tryz.func143, Tryz.ntmps143
  go_wp2_with (go_at_call 174; refine (l1HexDigit_any _ _ (by omega) (by omega)).mono ?_; rintro e w1 ⟨rfl, hw⟩; obtain rfl := hw.symm)
  go_loopw [0, 3] (fun n v wr => ∃ (f m : Nat) (t : List UInt8), n = .int .i64 m ∧ v = .string ⟨t.toArray⟩ ∧ m ≤ 9223372036854775807 ∧ m < 16 ^ (f + 1) ∧ t.length + f = 16 ∧ hexDigits N = hexAhead f m ++ t ∧ Below w.heap.size w wr) (fun n _ _ => (intOf n).toNat)
  case atStart => exact ⟨15, N, [hexCh (N % 16)], rfl, rfl, hN, by omega, rfl, hexDig_ahead 15 N, (Below.refl _ _).alloc (Nat.le_refl _) _⟩
  case round =>
    obtain ⟨f, m, t, rfl, rfl, hm, hf, ht, hd, hbe⟩ := hrel
    have HD : Hid (hexDigits N = hexAhead f m ++ t) := hd; clear hd
    have HF : Hid (m < 16 ^ (f + 1)) := hf; clear hf
    by_cases h9 : 15 < m
    · have h9' : (15 : Int) < (m : Int) := by omega
      have htl : t.length ≤ 16 := by omega
      have HT : Hid (t.length + f = 16) := ht
      clear ht
      go_wp2_with (go_at_call 174; refine (l1HexDigit_any _ _ (by omega) (by omega)).mono ?_; rintro e w1 ⟨rfl, hw⟩; obtain rfl := hw.symm)
      go_roundw
      case rel =>
        obtain ⟨g, rfl⟩ : ∃ g, f = g + 1 := by
          cases f with
          | zero => exact absurd HF.out (by omega)
          | succ g => exact ⟨g, rfl⟩
        have h1 := HF.out
        have h2 := HT.out
        rw [Nat.pow_succ] at h1
        refine ⟨g, m / 16, hexCh (m / 16 % 16) :: t, by go_num, ?_, by omega, by omega, by simp; omega, ?_, hbe.alloc hbe.size _⟩
        · rw [cat_one]
        · rw [HD.out, hexAhead_step g m h9, List.append_assoc]; rfl
      case measure => simp [intOf]; omega
    · go_wp2
      go_ret
      exact ⟨ret_str (by rw [HD.out, hexAhead_end f m h9]; rfl), hbe⟩

set_option maxHeartbeats 400000 in
theorem specHex_neg (n : Int) (w : World) (hn : n < 0) :
    Calls Tryz.prog 143 #[.int .i64 n] w fun e w' => e = .returned (.string ⟨(hexDigits 0).toArray⟩) ∧ Below w.heap.size w w' := by
  have hcv := conv_one
  go_enter Tryz.func143, Tryz.ntmps143
  go_wp2_with (go_at_call 174; refine (l1HexDigit_any _ _ (by omega) (by omega)).mono ?_; rintro e w1 ⟨rfl, hw⟩; obtain rfl := hw.symm)
  go_loopw [0, 3] (fun n v wr => n = .int .i64 0 ∧ v = .string ⟨[hexCh 0].toArray⟩ ∧ Below w.heap.size w wr) (fun n _ _ => (intOf n).toNat)
  case atStart => exact ⟨rfl, rfl, (Below.refl _ _).alloc (Nat.le_refl _) _⟩
  case round =>
    obtain ⟨rfl, rfl, hbe⟩ := hrel
    go_wp2
    go_ret
    exact ⟨ret_str (l := [hexCh 0]) rfl, hbe⟩

theorem specHex_any (n : Int) (w : World) (hn : n ≤ 9223372036854775807) :
    Calls Tryz.prog 143 #[.int .i64 n] w fun e w' => e = .returned (.string ⟨(hexDigits n.toNat).toArray⟩) ∧ Below w.heap.size w w' := by
  by_cases h : n < 0
  · have e : n.toNat = 0 := by omega
    rw [e]; exact specHex_neg n w h
  · obtain ⟨m, rfl⟩ := Int.eq_ofNat_of_zero_le (by omega : 0 ≤ n)
    rw [Int.toNat_natCast]
    exact specHex_pos m w (by omega)
end Go.Proofs.YtcgmokjnjmefpaaGreatDoor
