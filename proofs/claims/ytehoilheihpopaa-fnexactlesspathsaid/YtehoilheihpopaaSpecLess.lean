/-
  Whether a list of texts comes ahead of another: what spec.LessPath does.
-/
import Derived.Test.YtehoilheihpopaaStrs
import Derived.Test.YtehoilheihpopaaRet
import Derived.Test.YtehoilheihpopaaHide
import Derived.Test.YtehoilheihpopaaMathOrder
namespace Go.Proofs.Ytehoilheihpopaa
open Go.RowKit M
set_option linter.unusedVariables false

set_option maxHeartbeats 1000000 in
theorem specLessPath_any (a b : Option Addr) (ss tt : List ByteArray) (cap cap' B C : Nat) (w : World) (h : Strs w B a ss) (h' : Strs w C b tt) (hl : ss.length ≤ maxLen) (hl' : tt.length ≤ maxLen) :
    Calls Try.prog 18 #[.slice a ss.length cap, .slice b tt.length cap'] w fun e w' => e = .returned (.bool (lessL ss tt)) ∧ ∀ D, Below D w w' := by
  unfold maxLen at hl hl'
  go_enter Try.func18, Try.ntmps18
  go_wp2
  go_loopw [5] (fun i wr => ∃ k n : Nat, k ≤ ss.length ∧ k ≤ tt.length ∧ i = .int .i64 k ∧ lessL (ss.drop k) (tt.drop k) = lessL ss tt ∧ wr = w.drewN n) (fun i _ => ss.length - (intOf i).toNat)
  case atStart => exact ⟨0, 0, Nat.zero_le _, Nat.zero_le _, rfl, rfl, rfl⟩
  case round =>
    obtain ⟨k, n, hk, hk', rfl, ht, rfl⟩ := hrel
    have HT := hide ht
    clear ht
    by_cases hlt : k < ss.length ∧ k < tt.length
    · have hlt1 := hlt.1
      have hlt2 := hlt.2
      obtain ⟨b1, o1, rfl, hb1, hc1⟩ := h (by omega)
      obtain ⟨b2, o2, rfl, hb2, hc2⟩ := h' (by omega)
      have hcx := hc1 k hlt1
      have hcy := hc2 k hlt2
      clear hc1 hc2 hlt
      by_cases he : ss[k] = tt[k]
      · have HE := hide (lessL_step k hlt1 hlt2 he)
        have hq : (ss[k].toList == tt[k].toList) = true := by rw [he]; simp
        clear he
        go_wp2
        go_quiet (fail)
        go_wp2
        go_roundw
        case rel => exact ⟨k + 1, n + nq, by omega, by omega, by go_num, by rw [← HE.out]; exact HT.out, by simp⟩
        case measure => simp [intOf]; omega
      · have HE := hide (lessL_at k hlt1 hlt2 he)
        have hq : (ss[k].toList == tt[k].toList) = false := by rw [beq_eq_false_iff_ne]; exact fun e => he (str_inj e)
        clear he
        go_wp2
        go_quiet (fail)
        go_wp2
        go_quiet (fail)
        go_wp2
        go_ret
        exact ⟨ret_bool (by rw [← HT.out, HE.out]; rfl), fun D => below_drewN (below_drewN (below_drewN (Below.refl _ _) _) _) _⟩
    · have HE := hide (lessL_end k hlt hk hk')
      go_wp2
      all_goals
        go_ret
        exact ⟨ret_bool (by rw [← HT.out, HE.out]), fun D => below_drewN (Below.refl _ _) _⟩
end Go.Proofs.Ytehoilheihpopaa
