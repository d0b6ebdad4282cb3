/-
  Two lists of what is known held against one another by the program.
-/
import Derived.Test.YtcgljeagjchobaaDeq
import Derived.Test.YtcgljeagjchobaaPropEq
import Derived.Deep.QuietTactic
import Derived.WalkSpells
import Derived.WalkLawsBesides
namespace Go.Proofs.Ytcgljeagjchobaa
open Go.RowKit M
set_option linter.unusedVariables false

set_option maxHeartbeats 2000000 in
theorem slicesEqualP_any (a b : Option Addr) (ss tt : List Pp) (cap cap' B C : Nat) (w : World) (h : Pps w B a ss) (h' : Pps w C b tt) (hl : ss.length ≤ maxLen) (hl' : tt.length ≤ maxLen) :
    Calls Try.prog 51 #[.slice a ss.length cap, .slice b tt.length cap'] w fun e w' => e = .returned (.bool (decide (ss = tt))) ∧ ∀ D, Below D w w' := by
  unfold maxLen at hl hl'
  by_cases hlen : ss.length = tt.length
  · have HL : Hid (ss.length = tt.length) := hlen
    go_enter Try.func51, Try.ntmps51
    rw [← hlen]
    clear hlen
    go_wp2
    go_loopw [13] (fun i wr => ∃ k n : Nat, k ≤ ss.length ∧ i = .int .i64 k ∧ ss.take k = tt.take k ∧ wr = w.drewN n) (fun i _ => ss.length - (intOf i).toNat)
    case atStart => exact ⟨0, 0, Nat.zero_le _, rfl, rfl, rfl⟩
    case round =>
      obtain ⟨k, n, hk, rfl, ht, rfl⟩ := hrel
      have HT : Hid (ss.take k = tt.take k) := ht
      clear ht
      by_cases hlt : k < ss.length
      · have hlt' : k < tt.length := by have := HL.out; omega
        obtain ⟨b1, o1, rfl, hb1, hc1⟩ := h (by omega)
        obtain ⟨b2, o2, rfl, hb2, hc2⟩ := h' (by have := HL.out; omega)
        have hx0 := (hc1 k hlt).1
        have hx1 := (hc1 k hlt).2.1
        have hx2 := (hc1 k hlt).2.2
        have hy0 := (hc2 k hlt').1
        have hy1 := (hc2 k hlt').2.1
        have hy2 := (hc2 k hlt').2.2
        have hq := eqIn_prop ss[k].1 ss[k].2.1 ss[k].2.2 tt[k].1 tt[k].2.1 tt[k].2.2
        have hg := prop_guard
        clear hc1 hc2
        by_cases he : ss[k] = tt[k]
        · have HE : Hid (ss[k] = tt[k]) := he
          have hd : decide (((ss[k].1, ss[k].2.1, ss[k].2.2) : Pp) = (tt[k].1, tt[k].2.1, tt[k].2.2)) = true := decide_eq_true he
          rw [hd] at hq
          clear hd
          clear he
          go_wp2
          go_quiet (fail)
          go_wp2
          go_roundw
          case rel => exact ⟨k + 1, n + nq, by omega, by go_num, deq_step k hlt hlt' HT.out HE.out, by simp⟩
          case measure => simp [intOf]; omega
        · have HE : Hid (decide (ss = tt) = false) := deq_not k hlt hlt' he
          have hd : decide (((ss[k].1, ss[k].2.1, ss[k].2.2) : Pp) = (tt[k].1, tt[k].2.1, tt[k].2.2)) = false := decide_eq_false he
          rw [hd] at hq
          clear hd
          clear he
          go_wp2
          go_quiet (fail)
          go_wp2
          go_ret
          exact ⟨ret_bool HE.out.symm, fun D => below_drewN (below_drewN (Below.refl _ _) _) _⟩
      · go_wp2
        go_ret
        exact ⟨ret_bool (deq_all HL.out k hlt HT.out).symm, fun D => below_drewN (Below.refl _ _) _⟩
  · have HS := deq_len hlen
    go_enter Try.func51, Try.ntmps51
    go_wp2
    go_ret
    exact ⟨ret_bool HS.symm, fun D => Below.refl _ _⟩
end Go.Proofs.Ytcgljeagjchobaa
