/-
  What the program's allOf does: whether all bytes of a text are of one of these kinds.
-/
import Derived.Test.YtkgdmlfdlkmojaaKinds
namespace Go.Proofs.Ytkgdmlfdlkmojaa
open Go.RowKit M

set_option maxHeartbeats 400000 in
theorem allOf_any (s : ByteArray) (ks : List Int) (n b o cap : Nat) (w : World) (hn : ks.length = n) (hs : s.size ≤ maxLen) (hl : ks.length ≤ maxLen)
    (hc : ∀ i, i < ks.length → w.cell? ⟨b, o + i, none⟩ = some (.int .i64 (ks.getD i 0))) :
    Calls Try.prog 86 #[.string s, .slice (some ⟨b, o, none⟩) n cap] w fun e w' => e = .returned (.bool (allB s.data.toList ks)) ∧ w' = w := by
  subst hn
  unfold maxLen at hs
  have HC : Hid (∀ i, i < ks.length → w.cell? ⟨b, o + i, none⟩ = some (.int .i64 (ks.getD i 0))) := hc
  clear hc
  go_enter Try.func86, Try.ntmps86
  go_wp2
  go_loop [5] (fun i => ∃ k : Nat, k ≤ s.size ∧ i = .int .i64 k ∧ allB (s.data.toList.take k) ks = true) (fun i => s.size - (intOf i).toNat)
  case atStart => exact ⟨0, Nat.zero_le _, rfl, rfl⟩
  case round =>
    obtain ⟨k, hk, rfl, hn⟩ := hrel
    have HN : Hid (allB (s.data.toList.take k) ks = true) := hn; clear hn
    by_cases hlt : k < s.size
    · go_wp2_with (go_at_call 87; refine (isOneOf_any _ ks _ b o cap _ rfl hl HC.out).mono ?_; rintro e w' ⟨rfl, rfl⟩)
      · go_ret
        exact ⟨ret_bool (by rw [allB_not s ks k hlt (by assumption)]), rfl⟩
      · go_round
        case rel => exact ⟨k + 1, by omega, by go_num, allB_snoc s ks k hlt HN.out (by assumption)⟩
        case measure => simp [intOf]; omega
    · go_wp2
      go_ret
      exact ⟨ret_bool (by rw [← HN.out, take_all s k hlt]), rfl⟩
end Go.Proofs.Ytkgdmlfdlkmojaa
