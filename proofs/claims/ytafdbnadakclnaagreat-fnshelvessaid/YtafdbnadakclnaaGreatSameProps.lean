/-
  Whether two slices of what is known hold the same, where they do: what laws.sameProps does.
-/
import Derived.Test.YtafdbnadakclnaaGreatDrawC
import Derived.Test.YtafdbnadakclnaaGreatKinds
import Derived.Laws.StructEq
namespace Go.Proofs.YtafdbnadakclnaaGreat
open Go.RowKit M
set_option linter.unusedVariables false

set_option maxHeartbeats 1000000 in
theorem sameProps_same (a b : Option Addr) (ps : List Pp) (cap cap' B C : Nat) (w : World) (h : Pps w B a ps) (h' : Pps w C b ps) (hl : ps.length ≤ maxLen) :
    Calls Tryz.prog 22 #[.slice a ps.length cap, .slice b ps.length cap'] w fun e w' => e = .returned (.bool true) ∧ ∀ D, Below D w w' := by
  unfold maxLen at hl
  go_enter Tryz.func22, Tryz.ntmps22
  go_wp2
  go_loopw [5] (fun i wr => ∃ k n : Nat, k ≤ ps.length ∧ i = .int .i64 k ∧ wr = w.drewN n) (fun i _ => ps.length - (intOf i).toNat)
  case atStart => exact ⟨0, 0, Nat.zero_le _, rfl, rfl⟩
  case round =>
    obtain ⟨k, n, hk, rfl, rfl⟩ := hrel
    by_cases hlt : k < ps.length
    · obtain ⟨b1, o1, rfl, hb1, hc1⟩ := h (by omega)
      obtain ⟨b2, o2, rfl, hb2, hc2⟩ := h' (by omega)
      obtain ⟨hx0, hx1, hx2⟩ := hc1 k hlt
      obtain ⟨hy0, hy1, hy2⟩ := hc2 k hlt
      clear hc1 hc2
      go_wp2
      go_quiet (fail)
      go_wp2
      go_roundw
      case rel => exact ⟨k + 1, n + nq, by omega, by go_num, by simp⟩
      case measure => simp [intOf]; omega
    · go_wp2
      go_ret
      exact ⟨rfl, fun D => below_drewN (Below.refl _ _) _⟩
end Go.Proofs.YtafdbnadakclnaaGreat
