/-
  What impl.Wide and spec.Wide do.
-/
import Derived.Test.YtepdfppbnepamabRess
namespace Go.Proofs.Ytepdfppbnepamab
open Go.RowKit M
set_option linter.unusedVariables false

def wideN (rs : List Rs) : Nat := (rs.map (·.bo.size)).sum
theorem wide_snoc (rs : List Rs) (k : Nat) (hk : k < rs.length) : wideN (rs.take (k + 1)) = wideN (rs.take k) + rs[k].bo.size := by
  unfold wideN
  rw [List.take_succ_eq_append_getElem hk, List.map_append, List.sum_append]
  simp only [List.map_cons, List.map_nil, List.sum_cons, List.sum_nil, Nat.add_zero]
theorem wide_le (rs : List Rs) : wideN rs ≤ sumR rs := by
  induction rs with
  | nil => simp [wideN, sumR]
  | cons r l ih =>
    have h1 : sumR (r :: l) = szR r + sumR l := by simp [sumR]
    have h2 : szR r = r.pa.length + sumL r.pa + r.bo.size + (r.ps.length + sumP r.ps) := rfl
    have h3 : wideN (r :: l) = r.bo.size + wideN l := by simp [wideN]
    omega
theorem wide_take (rs : List Rs) (k : Nat) : wideN (rs.take k) ≤ wideN rs := by
  have h : wideN (rs.take k) + wideN (rs.drop k) = wideN rs := by
    unfold wideN
    rw [← List.sum_append, ← List.map_append, List.take_append_drop]
  omega

set_option maxHeartbeats 1000000 in
theorem specWide_any (a : Option Addr) (rs : List Rs) (cap B : Nat) (w : World) (h : Rss w B a rs) (hl : rs.length ≤ 1048576) (hw : wideN rs ≤ 1048576) :
    Calls Try.prog 16 #[.slice a rs.length cap] w fun e w' => e = .returned (.int .i64 (wideN rs : Nat)) ∧ w' = w := by
  have HW := hide hw
  clear hw
  go_enter Try.func16, Try.ntmps16
  go_wp2
  go_loop [3, 4] (fun n i => ∃ k : Nat, k ≤ rs.length ∧ i = .int .i64 k ∧ n = .int .i64 (wideN (rs.take k) : Nat)) (fun _ i => rs.length - (intOf i).toNat)
  case atStart => exact ⟨0, Nat.zero_le _, rfl, by simp [wideN]⟩
  case round =>
    obtain ⟨k, hk, rfl, rfl⟩ := hrel
    by_cases hlt : k < rs.length
    · obtain ⟨b, o, rfl, hb, hc⟩ := h (by omega)
      obtain ⟨pa, pc, qa, qc, ⟨hc0, hc1, hc2, hc3, hc4⟩, hin⟩ := hc k hlt
      clear hc hin
      have HN := hide (wide_snoc rs k hlt)
      have h1 : wideN (rs.take (k + 1)) ≤ 1048576 := Nat.le_trans (wide_take rs _) HW.out
      have h2 : wideN (rs.take k) + rs[k].bo.size ≤ 1048576 := by rw [← HN.out]; exact h1
      have HE := hide (show ((wideN (rs.take (k + 1)) : Nat) : Int) = (wideN (rs.take k) : Nat) + (rs[k].bo.size : Nat) by rw [HN.out]; omega)
      generalize wideN (rs.take k) = m at *
      go_wp2
      go_round
      case rel => exact ⟨k + 1, by omega, by go_num, by rw [HE.out]⟩
      case measure => simp [intOf]; omega
    · have HF := hide (show rs.take k = rs from List.take_of_length_le (by omega))
      go_wp2
      go_ret
      exact ⟨by rw [HF.out]; rfl, rfl⟩
set_option maxHeartbeats 1000000 in
theorem wide_any (a : Option Addr) (rs : List Rs) (cap B : Nat) (w : World) (h : Rss w B a rs) (hB : B ≤ w.heap.size) (hl : rs.length ≤ 1048576) (hw : wideN rs ≤ 1048576) :
    Calls Try.prog 17 #[.slice a rs.length cap] w fun e w' => e = .returned (.int .i64 (wideN rs : Nat)) ∧ Below w.heap.size w w' := by
  have HW := hide hw
  clear hw
  go_enter Try.func17, Try.ntmps17
  go_wp2
  go_loopw [3, 8] (fun n i wr => ∃ k : Nat, k ≤ rs.length ∧ i = .int .i64 k ∧ n = .int .i64 (wideN (rs.take k) : Nat) ∧ Below w.heap.size w wr) (fun _ i _ => rs.length - (intOf i).toNat)
  case atStart => exact ⟨0, Nat.zero_le _, rfl, by simp [wideN], Below.refl _ _⟩
  case round =>
    obtain ⟨k, hk, rfl, rfl, hbe⟩ := hrel
    by_cases hlt : k < rs.length
    · obtain ⟨b, o, rfl, hb, hc⟩ := (h.below hbe hB) (by omega)
      obtain ⟨pa, pc, qa, qc, ⟨hc0, hc1, hc2, hc3, hc4⟩, hin⟩ := hc k hlt
      clear hc hin
      have HN := hide (wide_snoc rs k hlt)
      have h1 : wideN (rs.take (k + 1)) ≤ 1048576 := Nat.le_trans (wide_take rs _) HW.out
      have h2 : wideN (rs.take k) + rs[k].bo.size ≤ 1048576 := by rw [← HN.out]; exact h1
      have HE := hide (show ((wideN (rs.take (k + 1)) : Nat) : Int) = (wideN (rs.take k) : Nat) + (rs[k].bo.size : Nat) by rw [HN.out]; omega)
      generalize wideN (rs.take k) = m at *
      go_wp2
      go_roundw
      case rel => exact ⟨k + 1, by omega, by go_num, by rw [HE.out], hbe.alloc hbe.size _⟩
      case measure => simp [intOf]; omega
    · have HF := hide (show rs.take k = rs from List.take_of_length_le (by omega))
      go_wp2
      go_ret
      exact ⟨by rw [HF.out]; rfl, hbe⟩
end Go.Proofs.Ytepdfppbnepamab
