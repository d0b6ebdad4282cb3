/-
  Whether a list of texts comes ahead of another: what cmp.Compare[string], slices.Compare[[]string,string] and impl.LessPath do.
-/
import Derived.Test.YtafdbnadakclnaaGreatCompare
namespace Go.Proofs.YtafdbnadakclnaaGreat
open Go.RowKit M
set_option linter.unusedVariables false

set_option maxHeartbeats 400000 in
theorem slicesCompare_any (a b : Option Addr) (ss tt : List ByteArray) (cap cap' B C : Nat) (w : World) (h : Strs w B a ss) (h' : Strs w C b tt) (hl : ss.length ≤ maxLen) (hl' : tt.length ≤ maxLen) :
    Calls Tryz.prog 98 #[.slice a ss.length cap, .slice b tt.length cap'] w fun e w' => (∃ z : Int, e = .returned (.int .i64 z) ∧ decide (z < 0) = lessL ss tt) ∧ w' = w := by
  unfold maxLen at hl hl'
  go_enter Tryz.func98, Tryz.ntmps98
  go_wp2
  go_loop [11] (fun i => ∃ k : Nat, k ≤ ss.length ∧ k ≤ tt.length ∧ i = .int .i64 k ∧ lessL (ss.drop k) (tt.drop k) = lessL ss tt) (fun i => ss.length - (intOf i).toNat)
  case atStart => exact ⟨0, Nat.zero_le _, Nat.zero_le _, rfl, rfl⟩
  case round =>
    obtain ⟨k, hk, hk', rfl, ht⟩ := hrel
    have HT := hide ht
    clear ht
    by_cases hlt : k < ss.length
    · by_cases hlt' : k < tt.length
      · obtain ⟨b1, o1, rfl, hb1, hc1⟩ := h (by omega)
        obtain ⟨b2, o2, rfl, hb2, hc2⟩ := h' (by omega)
        have hcx := hc1 k hlt
        have hcy := hc2 k hlt'
        clear hc1 hc2
        go_wp2_with fail
        refine (compare_any ss[k] tt[k] w).mono ?_
        rintro e w1 ⟨rfl, hw⟩; obtain rfl := hw.symm
        by_cases he : ss[k] = tt[k]
        · have hz : cmpT ss[k] tt[k] = 0 := by rw [he]; exact cmpT_same _
          rw [hz]
          have HE := hide (lessL_step k hlt hlt' he)
          clear he hz
          go_wp2
          go_round
          case rel => exact ⟨k + 1, by omega, by omega, by go_num, by rw [← HE.out]; exact HT.out⟩
          case measure => simp [intOf]; omega
        · have hz : ¬ cmpT ss[k] tt[k] = 0 := fun e => he (cmpT_zero _ _ e)
          have HE := hide (lessL_at k hlt hlt' he)
          have HC := hide (cmpT_neg ss[k] tt[k])
          generalize cmpT ss[k] tt[k] = z at *
          clear he
          go_wp2
          go_ret
          exact ⟨⟨z, rfl, by rw [HC.out, ← HE.out]; exact HT.out⟩, rfl⟩
      · have HE := hide (lessL_end k (fun h => hlt' h.2) hk hk')
        have hnl : ¬ ss.length < tt.length := by omega
        obtain ⟨b1, o1, rfl, hb1, hc1⟩ := h (by omega)
        have hcx := hc1 k hlt
        go_wp2
        go_ret
        exact ⟨⟨1, rfl, by rw [← HT.out, HE.out]; simp [hnl]⟩, rfl⟩
    · have HE := hide (lessL_end k (fun h => hlt h.1) hk hk')
      by_cases hnl : ss.length < tt.length
      · go_wp2
        go_ret
        exact ⟨⟨-1, rfl, by rw [← HT.out, HE.out]; simp [hnl]⟩, rfl⟩
      · go_wp2
        go_ret
        exact ⟨⟨0, rfl, by rw [← HT.out, HE.out]; simp [hnl]⟩, rfl⟩

set_option maxHeartbeats 400000 in
theorem lessPath_any (a b : Option Addr) (ss tt : List ByteArray) (cap cap' B C : Nat) (w : World) (h : Strs w B a ss) (h' : Strs w C b tt) (hl : ss.length ≤ maxLen) (hl' : tt.length ≤ maxLen) :
    Calls Tryz.prog 49 #[.slice a ss.length cap, .slice b tt.length cap'] w fun e w' => e = .returned (.bool (lessL ss tt)) ∧ w' = w := by
  have hC := slicesCompare_any a b ss tt cap cap' B C w h h' hl hl'
  go_enter Tryz.func49, Tryz.ntmps49
  go_wp2_with fail
  refine hC.mono ?_
  rintro e w1 ⟨⟨z, rfl, hz⟩, hw⟩; obtain rfl := hw.symm
  have HZ := hide hz
  clear hz hC
  go_wp2
  go_ret
  exact ⟨ret_bool HZ.out, rfl⟩
end Go.Proofs.YtafdbnadakclnaaGreat
