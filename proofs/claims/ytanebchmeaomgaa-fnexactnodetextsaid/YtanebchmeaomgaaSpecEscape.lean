/-
  What the specification's Escape does.
-/
import Derived.Test.YtanebchmeaomgaaMathMark
import Derived.Test.YtanebchmeaomgaaHide
import Derived.Test.YtanebchmeaomgaaIsU8
import Derived.Test.YtanebchmeaomgaaOwnBytes
namespace Go.Proofs.Ytanebchmeaomgaa
open Go.RowKit M
set_option linter.unusedVariables false

theorem ret_strE {a b : ByteArray} (h : a = b) : Ending.returned (.string a) = .returned (.string b) := by rw [h]
theorem esc_lit (l m : List UInt8) (t : ByteArray) (h : t = ⟨m.toArray⟩) : bytesOf l ++ t = bytesOf (l ++ m) := by subst h; exact bytesOf_append l m
theorem extract_one (s : ByteArray) (k : Nat) (h : k < s.size) : s.extract k (k + 1) = ⟨[s[k]].toArray⟩ := by
  apply ByteArray.ext
  have e : s.data.toList.length = s.size := Array.length_toList
  have h1 : (s.extract k (k + 1)).data = s.data.extract k (k + 1) := by simp
  rw [h1]
  apply Array.ext'
  rw [Array.toList_extract]
  show (s.data.toList.drop k).take (k + 1 - k) = _
  rw [List.drop_eq_getElem_cons (by omega), show k + 1 - k = 1 by omega]
  rfl

set_option maxRecDepth 100000 in
set_option maxHeartbeats 4000000 in
theorem specEscape_any (s : ByteArray) (w : World) (hs : s.size ≤ 1099511627776) :
    Calls Try.prog 27 #[.string s] w fun e w' => e = .returned (.string (bytesOf (escL s.data.toList))) ∧ w' = w := by
  go_enter Try.func27, Try.ntmps27
  go_wp2
  go_loop [3, 4] (fun o i => ∃ (k : Nat) (t : ByteArray), k ≤ s.size ∧ i = .int .i64 k ∧ o = .string t ∧ t.size ≤ 6 * k ∧ t = bytesOf (escL (s.data.toList.take k))) (fun _ i => s.size - (intOf i).toNat)
  case atStart => exact ⟨0, _, Nat.zero_le _, rfl, rfl, Nat.zero_le _, rfl⟩
  case round =>
    obtain ⟨k, t, hk, rfl, rfl, ht6, ht⟩ := hrel
    have HT := hide ht
    clear ht
    by_cases hlt : k < s.size
    · have HL : Hid (escL (s.data.toList.take (k + 1)) = escL (s.data.toList.take k) ++ escB s[k]) := escL_snoc s k hlt
      have e1 := is_u8 s[k] 38 38 rfl
      have e2 := is_u8 s[k] 60 60 rfl
      have e3 := is_u8 s[k] 62 62 rfl
      have e4 := is_u8 s[k] 34 34 rfl
      have hq : ∀ n : Nat, n ≤ 6 → ¬ (9223372036854775807 < t.size + n) := fun n hn => by omega
      have q5 := hq 5 (by decide)
      have q4 := hq 4 (by decide)
      have q6 := hq 6 (by decide)
      have q1 := hq 1 (by decide)
      clear hq
      have HX := hide (extract_one s k hlt)
      have HZ : Hid ((s.extract k (k + 1)).size = 1) := by show (s.extract k (k + 1)).size = 1; rw [HX.out]; rfl
      have qx : ¬ (9223372036854775807 < t.size + (s.extract k (k + 1)).size) := by rw [HZ.out]; exact q1
      have HS : Hid (∀ m : List UInt8, escB s[k] = m → m.length ≤ 6 → ∀ x : ByteArray, x = ⟨m.toArray⟩ → (t ++ x).size ≤ 6 * (k + 1) ∧ t ++ x = bytesOf (escL (s.data.toList.take (k + 1)))) := hide (fun m hm hml x hx => by
        refine ⟨?_, by rw [HL.out, hm, HT.out]; exact esc_lit _ m x hx⟩
        have hxs : x.size = m.length := by rw [hx]; show m.toArray.size = _; simp
        rw [ByteArray.size_append]; omega)
      by_cases h1 : s[k] = 38
      · have HB := hide (HS.out _ (show escB s[k] = [38, 97, 109, 112, 59] by simp [escB, h1]) (by decide) _ rfl)
        rw [decide_eq_true h1] at e1
        clear h1 HS HL HX HZ qx e2 e3 e4
        go_wp2
        go_round
        case rel => exact ⟨k + 1, _, by omega, by go_num, rfl, HB.out.1, HB.out.2⟩
        case measure => simp [intOf]; omega
      rw [decide_eq_false h1] at e1
      by_cases h2 : s[k] = 60
      · have HB := hide (HS.out _ (show escB s[k] = [38, 108, 116, 59] by simp [escB, h2]) (by decide) _ rfl)
        rw [decide_eq_true h2] at e2
        clear h1 h2 HS HL HX HZ qx e3 e4
        go_wp2
        go_round
        case rel => exact ⟨k + 1, _, by omega, by go_num, rfl, HB.out.1, HB.out.2⟩
        case measure => simp [intOf]; omega
      rw [decide_eq_false h2] at e2
      by_cases h3 : s[k] = 62
      · have HB := hide (HS.out _ (show escB s[k] = [38, 103, 116, 59] by simp [escB, h3]) (by decide) _ rfl)
        rw [decide_eq_true h3] at e3
        clear h1 h2 h3 HS HL HX HZ qx e4
        go_wp2
        go_round
        case rel => exact ⟨k + 1, _, by omega, by go_num, rfl, HB.out.1, HB.out.2⟩
        case measure => simp [intOf]; omega
      rw [decide_eq_false h3] at e3
      by_cases h4 : s[k] = 34
      · have HB := hide (HS.out _ (show escB s[k] = [38, 113, 117, 111, 116, 59] by simp [escB, h4]) (by decide) _ rfl)
        rw [decide_eq_true h4] at e4
        clear h1 h2 h3 h4 HS HL HX HZ qx
        go_wp2
        go_round
        case rel => exact ⟨k + 1, _, by omega, by go_num, rfl, HB.out.1, HB.out.2⟩
        case measure => simp [intOf]; omega
      rw [decide_eq_false h4] at e4
      have HB := hide (HS.out _ (show escB s[k] = [s[k]] by simp [escB, h1, h2, h3, h4]) (by simp) _ HX.out)
      clear h1 h2 h3 h4 HS HL HX HZ
      go_wp2
      go_round
      case rel => exact ⟨k + 1, _, by omega, by go_num, rfl, HB.out.1, HB.out.2⟩
      case measure => simp [intOf]; omega
    · go_wp2
      go_ret
      exact ⟨ret_strE (by rw [HT.out, take_all s k hlt]), rfl⟩
end Go.Proofs.Ytanebchmeaomgaa
