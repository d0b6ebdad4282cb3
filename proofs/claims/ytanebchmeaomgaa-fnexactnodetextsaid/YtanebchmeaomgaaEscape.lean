/-
  What the program's Escape does.
-/
import Derived.Test.YtanebchmeaomgaaMathMark
import Derived.Test.YtanebchmeaomgaaHide
import Derived.Test.YtanebchmeaomgaaIsU8
import Derived.Test.YtanebchmeaomgaaBldStr
import Derived.Test.YtanebchmeaomgaaShelf
namespace Go.Proofs.Ytanebchmeaomgaa
open Go.RowKit M
set_option linter.unusedVariables false

/-- What a byte is told as, where it does not stand as it is. -/
def escW (c : UInt8) : ByteArray :=
  if c = 38 then ⟨#[38, 97, 109, 112, 59]⟩ else if c = 60 then ⟨#[38, 108, 116, 59]⟩ else if c = 62 then ⟨#[38, 103, 116, 59]⟩ else if c = 34 then ⟨#[38, 113, 117, 111, 116, 59]⟩ else ⟨#[]⟩

theorem escW_ways (c : UInt8) : (escW c = ⟨#[]⟩ ∧ escB c = [c]) ∨ (escW c = ⟨#[38, 97, 109, 112, 59]⟩ ∧ escB c = [38, 97, 109, 112, 59]) ∨ (escW c = ⟨#[38, 108, 116, 59]⟩ ∧ escB c = [38, 108, 116, 59]) ∨ (escW c = ⟨#[38, 103, 116, 59]⟩ ∧ escB c = [38, 103, 116, 59]) ∨ (escW c = ⟨#[38, 113, 117, 111, 116, 59]⟩ ∧ escB c = [38, 113, 117, 111, 116, 59]) := by
  unfold escW escB
  by_cases h1 : c = 38
  · simp [h1]
  by_cases h2 : c = 60
  · simp [h2]
  by_cases h3 : c = 62
  · simp [h3]
  by_cases h4 : c = 34
  · simp [h4]
  · simp [h1, h2, h3, h4]

theorem ret_strB {a b : ByteArray} (h : a = b) : Ending.returned (.string a) = .returned (.string b) := by rw [h]

set_option maxHeartbeats 1000000 in
theorem escaped_any (c : UInt8) (w : World) :
    Calls Try.prog 39 #[.int .u8 c.toNat] w fun e w' => e = .returned (.string (escW c)) ∧ w' = w := by
  have e1 := is_u8 c 38 38 rfl
  have e2 := is_u8 c 60 60 rfl
  have e3 := is_u8 c 62 62 rfl
  have e4 := is_u8 c 34 34 rfl
  by_cases h1 : c = 38
  · have HE : Hid (escW c = ⟨#[38, 97, 109, 112, 59]⟩) := by show escW c = _; simp [escW, h1]
    rw [decide_eq_true h1] at e1
    clear h1 e2 e3 e4
    go_enter Try.func39, Try.ntmps39
    go_wp2
    go_ret
    exact ⟨ret_strB HE.out.symm, rfl⟩
  rw [decide_eq_false h1] at e1
  by_cases h2 : c = 60
  · have HE : Hid (escW c = ⟨#[38, 108, 116, 59]⟩) := by show escW c = _; simp [escW, h2]
    rw [decide_eq_true h2] at e2
    clear h1 h2 e3 e4
    go_enter Try.func39, Try.ntmps39
    go_wp2
    go_ret
    exact ⟨ret_strB HE.out.symm, rfl⟩
  rw [decide_eq_false h2] at e2
  by_cases h3 : c = 62
  · have HE : Hid (escW c = ⟨#[38, 103, 116, 59]⟩) := by show escW c = _; simp [escW, h3]
    rw [decide_eq_true h3] at e3
    clear h1 h2 h3 e4
    go_enter Try.func39, Try.ntmps39
    go_wp2
    go_ret
    exact ⟨ret_strB HE.out.symm, rfl⟩
  rw [decide_eq_false h3] at e3
  by_cases h4 : c = 34
  · have HE : Hid (escW c = ⟨#[38, 113, 117, 111, 116, 59]⟩) := by show escW c = _; simp [escW, h4]
    rw [decide_eq_true h4] at e4
    clear h1 h2 h3 h4
    go_enter Try.func39, Try.ntmps39
    go_wp2
    go_ret
    exact ⟨ret_strB HE.out.symm, rfl⟩
  rw [decide_eq_false h4] at e4
  have HE : Hid (escW c = ⟨#[]⟩) := by show escW c = _; simp [escW, h1, h2, h3, h4]
  clear h1 h2 h3 h4
  go_enter Try.func39, Try.ntmps39
  go_wp2
  go_ret
  exact ⟨ret_strB HE.out.symm, rfl⟩

set_option maxHeartbeats 2000000 in
theorem escape_any (s : ByteArray) (w : World) (hs : s.size ≤ 1099511627776) :
    Calls Try.prog 30 #[.string s] w fun e w' => e = .returned (.string (bytesOf (escL s.data.toList))) ∧ Below w.heap.size w w' := by
  go_enter Try.func30, Try.ntmps30
  go_wp2
  go_loopw [4] (fun i wr => ∃ k : Nat, k ≤ s.size ∧ i = .int .i64 k ∧ (escL (s.data.toList.take k)).length ≤ 6 * k ∧ Lib.IsBuilder 57 5 w.heap.size w.heap.size (Lib.byteCells (escL (s.data.toList.take k))) wr ∧ Below w.heap.size w wr) (fun i _ => s.size - (intOf i).toNat)
  case atStart => exact ⟨0, Nat.zero_le _, rfl, Nat.zero_le _, Lib.fresh_isBuilder _ _ w, (Below.refl _ _).alloc (Nat.le_refl _) _⟩
  case round =>
    obtain ⟨k, hk, rfl, hn6, hI, hbe⟩ := hrel
    by_cases hlt : k < s.size
    · have HL : Hid (escL (s.data.toList.take (k + 1)) = escL (s.data.toList.take k) ++ escB s[k]) := escL_snoc s k hlt
      have HK : Hid ((escL (s.data.toList.take (k + 1))).length ≤ 6 * (k + 1)) := by
        have h3 := escB_length s[k]
        show (escL (s.data.toList.take (k + 1))).length ≤ 6 * (k + 1)
        rw [HL.out, List.length_append]; omega
      have hw5 := escW_ways s[k]
      have HEs : Hid (∀ W : World, Calls Try.prog 39 #[.int .u8 (s[k]).toNat] W fun e w' => e = .returned (.string (escW s[k])) ∧ w' = W) := fun W => escaped_any s[k] W
      rcases hw5 with ⟨hw, hb⟩ | ⟨hw, hb⟩ | ⟨hw, hb⟩ | ⟨hw, hb⟩ | ⟨hw, hb⟩
      · rw [hw] at HEs
        have HB := hb
        rw [HB] at HL
        clear hw hb HB
        go_wp2_with fail
        refine (HEs.out wr).mono ?_
        rintro e w1 ⟨rfl, hw1⟩
        obtain rfl := hw1.symm
        go_wp2_with fail
        refine (writeByte_any w.heap.size w.heap.size _ s[k] wr hI (by omega) hbe.size).mono ?_
        rintro e w2 ⟨rfl, I2, b2⟩
        rw [← HL.out] at I2
        go_wp2
        go_roundw
        case rel => exact ⟨k + 1, by omega, by go_num, HK.out, I2, hbe.trans b2⟩
        case measure => simp [intOf]; omega
      all_goals
        rw [hw] at HEs
        rw [hb] at HL
        clear hw hb
        go_wp2_with fail
        refine (HEs.out wr).mono ?_
        rintro e w1 ⟨rfl, hw1⟩
        obtain rfl := hw1.symm
        go_wp2_with fail
        refine (writeString_any w.heap.size w.heap.size _ _ wr hI (by have : ∀ n, n ≤ 6 → (escL (s.data.toList.take k)).length + n ≤ 140737488355328 := fun n hn => by omega
                                                                      exact this _ (by decide)) hbe.size).mono ?_
        rintro e w2 ⟨rfl, I2, b2⟩
        have I3 : Lib.IsBuilder 57 5 w.heap.size w.heap.size (Lib.byteCells (escL (s.data.toList.take (k + 1)))) w2 := by rw [HL.out]; exact I2
        clear I2
        go_wp2
        go_roundw
        case rel => exact ⟨k + 1, by omega, by go_num, HK.out, I3, hbe.trans b2⟩
        case measure => simp [intOf]; omega
    · go_wp2_with fail
      refine (Try.Builder_String_any w.heap.size w.heap.size _ wr hI hbe.size).mono ?_
      rintro e w1 ⟨rfl, b1⟩
      go_wp2
      go_ret
      exact ⟨ret_strB (by rw [take_all s k hlt]; rfl), hbe.trans b1⟩
end Go.Proofs.Ytanebchmeaomgaa
