/-
  What the program's Quote does.
-/
import Derived.Test.YtklhplhjnpdigaaDoorMathQuote
import Derived.Test.YtklhplhjnpdigaaDoorBld
import Derived.Test.YtklhplhjnpdigaaDoorKinds
import Derived.Test.YtklhplhjnpdigaaDoorShelf
namespace Go.Proofs.YtklhplhjnpdigaaDoor
open Go.RowKit M
set_option linter.unusedVariables false

theorem cells4 (w : World) (n : Nat) (a b c d : Int) (T : TypeId) (hn : w.heap.size = n) : ∀ i, i < [a, b, c, d].length → (w.alloc (Obj.cells #[.int .i64 a, .int .i64 b, .int .i64 c, .int .i64 d] T)).cell? ⟨n, 0 + i, none⟩ = some (.int .i64 ([a, b, c, d].getD i 0)) := by
  subst hn
  intro i hi
  match i, hi with
  | 0, _ => simp
  | 1, _ => simp
  | 2, _ => simp
  | 3, _ => simp

theorem free_any (c : Int) : freeB c = (anyB c [2, 3, 4, 7] || c == 46 || c == 95 || c == 126) := by
  simp only [freeB, anyB, List.any_cons, List.any_nil, Bool.or_false]
  have : isB c 7 = (c == 45) := by simp [isB]
  rw [this]
  simp only [Bool.or_assoc]

set_option maxHeartbeats 1000000 in
theorem stays_any (c : UInt8) (w : World) :
    Calls Tryd.prog 30 #[.int .u8 c.toNat] w fun e w' => e = .returned (.bool (freeB c.toNat)) ∧ Below w.heap.size w w' := by
  have HF := free_any (c.toNat : Int)
  cases hb : anyB (c.toNat : Int) [2, 3, 4, 7]
  · rw [hb] at HF
    have HF2 : Hid (freeB (c.toNat : Int) = (false || (c.toNat : Int) == 46 || (c.toNat : Int) == 95 || (c.toNat : Int) == 126)) := HF
    clear HF
    go_enter Tryd.func30, Tryd.ntmps30
    go_wp2_with (go_at_call 45; refine (isOneOf_any _ [2, 3, 4, 7] 4 _ 0 4 _ rfl (by decide) (cells4 _ _ 2 3 4 7 _ rfl)).mono ?_; rintro e w1 ⟨rfl, rfl⟩; rw [hb])
    all_goals
      go_ret
      refine ⟨ret_bool ?_, (Below.refl _ _).alloc (Nat.le_refl _) _⟩
      rw [HF2.out]
      simp_all
  · rw [hb] at HF
    have HF2 : Hid (freeB (c.toNat : Int) = true) := by show freeB (c.toNat : Int) = true; rw [HF]; simp
    clear HF
    go_enter Tryd.func30, Tryd.ntmps30
    go_wp2_with (go_at_call 45; refine (isOneOf_any _ [2, 3, 4, 7] 4 _ 0 4 _ rfl (by decide) (cells4 _ _ 2 3 4 7 _ rfl)).mono ?_; rintro e w1 ⟨rfl, rfl⟩; rw [hb])
    all_goals
      go_ret
      exact ⟨ret_bool HF2.out.symm, (Below.refl _ _).alloc (Nat.le_refl _) _⟩

set_option maxHeartbeats 2000000 in
theorem quote_any (s : ByteArray) (w : World) (hs : s.size ≤ 1099511627776) :
    Calls Tryd.prog 16 #[.string s] w fun e w' => e = .returned (.string ⟨(quoteL s.data.toList).toArray⟩) ∧ Below w.heap.size w w' := by
  go_enter Tryd.func16, Tryd.ntmps16
  go_wp2
  go_loopw [4] (fun i wr => ∃ k : Nat, k ≤ s.size ∧ i = .int .i64 k ∧ (quoteL (s.data.toList.take k)).length ≤ 3 * k ∧ Lib.IsBuilder 51 5 w.heap.size w.heap.size (Lib.byteCells (quoteL (s.data.toList.take k))) wr ∧ Below w.heap.size w wr) (fun i _ => s.size - (intOf i).toNat)
  case atStart => exact ⟨0, Nat.zero_le _, rfl, Nat.zero_le _, Lib.fresh_isBuilder _ _ w, (Below.refl _ _).alloc (Nat.le_refl _) _⟩
  case round =>
    obtain ⟨k, hk, rfl, hn3, hI, hbe⟩ := hrel
    by_cases hlt : k < s.size
    · have HL : Hid (quoteL (s.data.toList.take (k + 1)) = quoteL (s.data.toList.take k) ++ quoteB s[k]) := quoteL_snoc s k hlt
      have HK : Hid ((quoteL (s.data.toList.take (k + 1))).length ≤ 3 * (k + 1)) := by
        have h3 := quoteB_length s[k]
        show (quoteL (s.data.toList.take (k + 1))).length ≤ 3 * (k + 1)
        rw [HL.out, List.length_append]; omega
      cases hb : freeB ((s[k]).toNat : Int)
      · have HB : Hid (quoteB s[k] = [37, digL (s[k].toNat / 16), digL (s[k].toNat % 16)]) := quoteB_no hb
        have h256 := UInt8.toNat_lt s[k]
        go_wp2_with fail
        refine (stays_any s[k] wr).mono ?_
        rintro e w1 ⟨rfl, b1⟩
        rw [hb]
        have c1 := hbe.trans (b1.mono hbe.size)
        go_wp2_with fail
        refine (writeByte_any w.heap.size w.heap.size _ 37 w1 (bld_below hI b1) (by omega) c1.size).mono ?_
        rintro e w2 ⟨rfl, I2, b2⟩
        have c2 := c1.trans b2
        go_wp2_with fail
        rw [hex_at (s[k].toNat / 16) (by omega)]
        refine (writeByte_any w.heap.size w.heap.size _ (digL (s[k].toNat / 16)) w2 I2 (by simp; omega) c2.size).mono ?_
        rintro e w3 ⟨rfl, I3, b3⟩
        have c3 := c2.trans b3
        go_wp2_with fail
        rw [hex_at (s[k].toNat % 16) (by omega)]
        refine (writeByte_any w.heap.size w.heap.size _ (digL (s[k].toNat % 16)) w3 I3 (by simp; omega) c3.size).mono ?_
        rintro e w4 ⟨rfl, I4, b4⟩
        have HE := HL.out
        rw [HB.out] at HE
        have e4 : quoteL (s.data.toList.take k) ++ [37] ++ [digL (s[k].toNat / 16)] ++ [digL (s[k].toNat % 16)] = quoteL (s.data.toList.take (k + 1)) := by rw [HE]; simp
        rw [e4] at I4
        go_wp2
        go_roundw
        case rel => exact ⟨k + 1, by omega, by go_num, HK.out, I4, c3.trans b4⟩
        case measure => simp [intOf]; omega
      · have HB : Hid (quoteB s[k] = [s[k]]) := quoteB_yes hb
        go_wp2_with fail
        refine (stays_any s[k] wr).mono ?_
        rintro e w1 ⟨rfl, b1⟩
        rw [hb]
        have c1 := hbe.trans (b1.mono hbe.size)
        go_wp2_with fail
        refine (writeByte_any w.heap.size w.heap.size _ s[k] w1 (bld_below hI b1) (by omega) c1.size).mono ?_
        rintro e w2 ⟨rfl, I2, b2⟩
        have HE := HL.out
        rw [HB.out] at HE
        rw [← HE] at I2
        go_wp2
        go_roundw
        case rel => exact ⟨k + 1, by omega, by go_num, HK.out, I2, c1.trans b2⟩
        case measure => simp [intOf]; omega
    · go_wp2_with fail
      refine (Tryd.Builder_String_any w.heap.size w.heap.size _ wr hI hbe.size).mono ?_
      rintro e w1 ⟨rfl, b1⟩
      go_wp2
      go_ret
      exact ⟨ret_str (by rw [take_all s k hlt]), hbe.trans b1⟩
end Go.Proofs.YtklhplhjnpdigaaDoor
