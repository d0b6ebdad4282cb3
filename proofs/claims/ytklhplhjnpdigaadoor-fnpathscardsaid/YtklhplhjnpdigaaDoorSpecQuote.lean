/-
  What the specification's Quote does.
-/
import Derived.Test.YtklhplhjnpdigaaDoorMathQuote
import Derived.Test.YtklhplhjnpdigaaDoorOwnBytes
import Derived.Test.YtklhplhjnpdigaaDoorIn
import Derived.Test.YtklhplhjnpdigaaDoorKinds
import Derived.Test.YtklhplhjnpdigaaDoorAppendB
namespace Go.Proofs.YtklhplhjnpdigaaDoor
open Go.RowKit M
set_option linter.unusedVariables false

set_option maxHeartbeats 400000 in
theorem kindSmall_any (c : UInt8) (w : World) :
    Calls Tryd.prog 54 #[.int .u8 c.toNat] w fun e w' => e = .returned (.bool (isB c.toNat 2)) ∧ w' = w := by
  go_enter Tryd.func54, Tryd.ntmps54
  go_wp2_with (go_at_call 41; refine (l1In_any _ _ _ _).mono ?_; rintro e w' ⟨rfl, rfl⟩; rw [wrap64_u8, inB_small])
  go_ret
  exact ⟨rfl, rfl⟩

set_option maxHeartbeats 400000 in
theorem kindLarge_any (c : UInt8) (w : World) :
    Calls Tryd.prog 55 #[.int .u8 c.toNat] w fun e w' => e = .returned (.bool (isB c.toNat 3)) ∧ w' = w := by
  go_enter Tryd.func55, Tryd.ntmps55
  go_wp2_with (go_at_call 41; refine (l1In_any _ _ _ _).mono ?_; rintro e w' ⟨rfl, rfl⟩; rw [wrap64_u8, inB_large])
  go_ret
  exact ⟨rfl, rfl⟩

set_option maxHeartbeats 400000 in
theorem kindDigit_any (c : UInt8) (w : World) :
    Calls Tryd.prog 53 #[.int .u8 c.toNat] w fun e w' => e = .returned (.bool (isB c.toNat 4)) ∧ w' = w := by
  go_enter Tryd.func53, Tryd.ntmps53
  go_wp2_with (go_at_call 41; refine (l1In_any _ _ _ _).mono ?_; rintro e w' ⟨rfl, rfl⟩; rw [wrap64_u8, inB_digit])
  go_ret
  exact ⟨rfl, rfl⟩

set_option maxHeartbeats 1000000 in
theorem l2Free_any (c : UInt8) (w : World) :
    Calls Tryd.prog 43 #[.int .u8 c.toNat] w fun e w' => e = .returned (.bool (freeB c.toNat)) ∧ w' = w := by
  go_enter Tryd.func43, Tryd.ntmps43
  go_wp2_with (first | (go_at_call 54; refine (kindSmall_any _ _).mono ?_; rintro e w1 ⟨rfl, hw⟩; obtain rfl := hw.symm) | (go_at_call 55; refine (kindLarge_any _ _).mono ?_; rintro e w1 ⟨rfl, hw⟩; obtain rfl := hw.symm) | (go_at_call 53; refine (kindDigit_any _ _).mono ?_; rintro e w1 ⟨rfl, hw⟩; obtain rfl := hw.symm))
  all_goals
    go_ret
    refine ⟨ret_bool ?_, rfl⟩
    first
      | rfl
      | simp_all [freeB]

set_option maxHeartbeats 400000 in
theorem l2Digit_any (n : Nat) (h : n < 16) (w : World) :
    Calls Tryd.prog 44 #[.int .i64 n] w fun e w' => e = .returned (.int .u8 (digL n).toNat) ∧ w' = w := by
  by_cases hn : n < 10
  · go_enter Tryd.func44, Tryd.ntmps44
    go_wp2
    go_ret
    refine ⟨?_, rfl⟩
    rw [digL_lo n hn]
    exact congrArg (fun z : Int => Ending.returned (.int .u8 z)) (show (48 + (n : Int)) = ((48 + n : Nat) : Int) by omega)
  · go_enter Tryd.func44, Tryd.ntmps44
    go_wp2
    go_ret
    refine ⟨?_, rfl⟩
    rw [digL_hi n hn h]
    exact congrArg (fun z : Int => Ending.returned (.int .u8 z)) (show (65 + (n : Int) - 10) = ((55 + n : Nat) : Int) by omega)

theorem q_div (c : UInt8) : IntKind.i64.wrap ((IntKind.i64.wrap (c.toNat : Int)).tdiv 16) = ((c.toNat / 16 : Nat) : Int) := by
  have := c.toNat_lt
  rw [IntKind.wrap_i64, IntKind.wrap_i64]
  have e : ((c.toNat : Int) + 9223372036854775808) % 18446744073709551616 - 9223372036854775808 = c.toNat := by omega
  rw [e, Int.tdiv_eq_ediv_of_nonneg (by omega)]
  omega

theorem q_mod (c : UInt8) : (IntKind.i64.wrap (c.toNat : Int)).tmod 16 = ((c.toNat % 16 : Nat) : Int) := by
  have := c.toNat_lt
  rw [IntKind.wrap_i64]
  have e : ((c.toNat : Int) + 9223372036854775808) % 18446744073709551616 - 9223372036854775808 = c.toNat := by omega
  rw [e, Int.tmod_eq_emod_of_nonneg (by omega)]
  omega

theorem l2Digit_int (z : Int) (n : Nat) (hz : z = n) (h : n < 16) (w : World) :
    Calls Tryd.prog 44 #[.int .i64 z] w fun e w' => e = .returned (.int .u8 (digL n).toNat) ∧ w' = w := by
  subst hz; exact l2Digit_any n h w

set_option maxRecDepth 100000 in
set_option maxHeartbeats 4000000 in
theorem specQuote_any (s : ByteArray) (w : World) (hs : s.size ≤ 1099511627776) :
    Calls Tryd.prog 29 #[.string s] w fun e w' => e = .returned (.string ⟨(quoteL s.data.toList).toArray⟩) ∧ Below w.heap.size w w' := by
  obtain ⟨i0, hi0, hz0, hz1, hz2⟩ := info_parts info_byte
  go_enter Tryd.func29, Tryd.ntmps29
  go_wp2
  go_loopw [3, 4] (fun v i wr => ∃ k n : Nat, k ≤ s.size ∧ i = .int .i64 k ∧ n = (quoteL (s.data.toList.take k)).length ∧ n ≤ 3 * k ∧ wr.ownsRow w.heap.size 5 1 v n (Lib.byteCells (quoteL (s.data.toList.take k))) ∧ Below w.heap.size w wr) (fun _ i _ => s.size - (intOf i).toNat)
  case atStart => exact ⟨0, 0, Nat.zero_le _, rfl, rfl, Nat.zero_le _, World.ownsRow_made w #[] 0 (Nat.le_refl _) (by decide) rfl, (Below.refl _ _).alloc (Nat.le_refl _) _⟩
  case round =>
    obtain ⟨k, n, hk, rfl, hn, hn3, hown, hbe⟩ := hrel
    have HN : Hid (n = (quoteL (s.data.toList.take k)).length) := hn
    clear hn
    by_cases hlt : k < s.size
    · have HL : Hid (quoteL (s.data.toList.take (k + 1)) = quoteL (s.data.toList.take k) ++ quoteB s[k]) := quoteL_snoc s k hlt
      cases hb : freeB ((s[k]).toNat : Int)
      · have HB : Hid (quoteB s[k] = [37, digL (s[k].toNat / 16), digL (s[k].toNat % 16)]) := quoteB_no hb
        have hlt' : (k : Int) < s.size := by omega
        have hk0 : (0 : Int) ≤ k := by omega
        have h256 := UInt8.toNat_lt s[k]
        go_wp2_with (go_at_call 43; refine (l2Free_any _ _).mono ?_; rintro e w1 ⟨rfl, hw⟩; obtain rfl := hw.symm; rw [hb])
        go_region_held3 (fun _ => True) (trivial) ((first
          | (go_at_call 44; refine (l2Digit_int _ (s[k].toNat / 16) ?_ ?_ _).mono ?_; rw [q_div]; omega; rintro e w1 ⟨rfl, rfl⟩)
          | (go_at_call 44; refine (l2Digit_int _ (s[k].toNat % 16) ?_ ?_ _).mono ?_; rw [q_mod]; omega; rintro e w1 ⟨rfl, rfl⟩)
          | (refine step_append_bytes (by rfl) _ _ (by rfl) w.heap.size _ n 3 (quoteL (s.data.toList.take k)) [37, digL (s[k].toNat / 16), digL (s[k].toNat % 16)] (by rfl) (by rfl) (by decide) ⟨wr.heap.size, 0, none⟩ (by rfl) (by omega) ?_ ?_ ?_ ?_
             (exact (hown.alloc _).drew)
             (intro j hj; match j, hj with | 0, _ => simp [Addr.add] | 1, _ => simp [Addr.add] | 2, _ => simp [Addr.add])
             (have := hbe.size; simp; omega)
             intro gg cap w1 hown1 hb2)))
        all_goals
          have HE := HL.out
          rw [HB.out] at HE
          have ho2 : w1.ownsRow w.heap.size 5 1 (.slice (some ⟨gg, 0, none⟩) (n + 3) cap) (n + 3) (Lib.byteCells (quoteL (s.data.toList.take (k + 1)))) := by rw [HE]; exact hown1
          have hl2 : n + 3 = (quoteL (s.data.toList.take (k + 1))).length := by rw [HE, List.length_append, ← HN.out]; rfl
          clear hown1
          go_wp2
          go_roundw
          case rel => exact ⟨k + 1, n + 3, by omega, by go_num, hl2, by omega, ho2, ((hbe.alloc hbe.size _).drew).trans hb2⟩
          case measure => simp [intOf]; omega
      · have HB : Hid (quoteB s[k] = [s[k]]) := quoteB_yes hb
        go_wp2_with (first | (go_at_call 43; refine (l2Free_any _ _).mono ?_; rintro e w' ⟨rfl, rfl⟩; rw [hb]) | (at_builtin; refine wp_append_byte rfl _ _ rfl w.heap.size _ n _ rfl (hown.alloc _) _ s[k] rfl ?c1 ?c2 ?c3 ?_))
        case c1 => simp
        case c2 => omega
        case c3 => have := hbe.size; simp; omega
        intro v1 w1 ho1 hb1
        have HE := HL.out
        rw [HB.out] at HE
        rw [← HE] at ho1
        go_wp2
        go_roundw
        case rel => exact ⟨k + 1, n + 1, by omega, by go_num, by rw [HE, List.length_append, ← HN.out]; rfl, by omega, ho1, (hbe.alloc hbe.size _).trans hb1⟩
        case measure => simp [intOf]; omega
    · have e := HN.out
      subst e
      have hcv := conv_own hown
      go_wp2
      go_ret
      exact ⟨ret_str (by rw [take_all s k hlt]), hbe⟩
end Go.Proofs.YtklhplhjnpdigaaDoor
