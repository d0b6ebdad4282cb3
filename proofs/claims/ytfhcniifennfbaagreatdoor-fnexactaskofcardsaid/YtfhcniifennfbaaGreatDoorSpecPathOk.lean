/-
  What the specification's and the program's PathOk do.
-/
import Derived.Test.YtfhcniifennfbaaGreatDoorMathLock
import Derived.Test.YtfhcniifennfbaaGreatDoorSpecName
namespace Go.Proofs.YtfhcniifennfbaaGreatDoor
open Go.RowKit M
set_option linter.unusedVariables false


theorem names_snoc (ss : List ByteArray) (k : Nat) (h : k < ss.length) (h0 : (ss.take k).all nameB = true) (h1 : nameB ss[k] = true) : (ss.take (k + 1)).all nameB = true := by
  rw [List.take_succ_eq_append_getElem h, List.all_append, h0]; simp [h1]
theorem names_not (ss : List ByteArray) (k : Nat) (h : k < ss.length) (h1 : nameB ss[k] = false) : pathB ss = false := by
  have : ss.all nameB = false := by rw [List.all_eq_false]; exact ⟨_, List.getElem_mem h, by simp [h1]⟩
  simp [pathB, this]

set_option maxHeartbeats 400000 in
theorem specPathOk_any (a : Option Addr) (ss : List ByteArray) (cap B : Nat) (w : World) (h : Strs w B a ss) (hs : Short ss) (hl : ss.length ≤ maxLen) :
    Calls Tryz.prog 82 #[.slice a ss.length cap] w fun e w' => e = .returned (.bool (pathB ss)) ∧ w' = w := by
  unfold maxLen at hl
  go_enter Tryz.func82, Tryz.ntmps82
  go_wp2
  go_loop [3] (fun i => ∃ k : Nat, k ≤ ss.length ∧ i = .int .i64 k ∧ (ss.take k).all nameB = true) (fun i => ss.length - (intOf i).toNat)
  case atStart => exact ⟨0, Nat.zero_le _, rfl, rfl⟩
  case round =>
    obtain ⟨k, hk, rfl, hn⟩ := hrel
    have HN : Hid ((ss.take k).all nameB = true) := hn; clear hn
    by_cases hlt : k < ss.length
    · obtain ⟨b, o, rfl, hb, hc⟩ := h (by omega)
      have hcx := hc k hlt
      have hsz := hs.at k hlt
      cases hB : nameB ss[k]
      · go_wp2_with (go_at_call 115; refine (specNameOk_any _ _ hsz).mono ?_; rintro e w1 ⟨rfl, hw⟩; obtain rfl := hw.symm; rw [hB])
        go_ret
        exact ⟨ret_bool (names_not ss k hlt hB).symm, rfl⟩
      · go_wp2_with (go_at_call 115; refine (specNameOk_any _ _ hsz).mono ?_; rintro e w1 ⟨rfl, hw⟩; obtain rfl := hw.symm; rw [hB])
        go_round
        case rel => exact ⟨k + 1, by omega, by go_num, names_snoc ss k hlt HN.out hB⟩
        case measure => simp [intOf]; omega
    · go_wp2
      go_ret
      refine ⟨ret_bool ?_, rfl⟩
      have hA := HN.out
      rw [sumS_all ss k hlt] at hA
      simp only [pathB, hA, Bool.true_and]
      exact decide_eq_decide.2 (by omega)

set_option maxHeartbeats 400000 in
theorem pathOk_any (a : Option Addr) (ss : List ByteArray) (cap : Nat) (w : World) (h : Strs w w.heap.size a ss) (hs : Short ss) (hl : ss.length ≤ maxLen) :
    Calls Tryz.prog 100 #[.slice a ss.length cap] w fun e w' => e = .returned (.bool (pathB ss)) ∧ Below w.heap.size w w' := by
  unfold maxLen at hl
  by_cases h4 : (4 : Int) < ss.length
  · go_enter Tryz.func100, Tryz.ntmps100
    go_wp2
    go_ret
    refine ⟨ret_bool ?_, Below.refl _ _⟩
    have : ¬ ss.length ≤ 4 := by omega
    simp [pathB, this]
  · go_enter Tryz.func100, Tryz.ntmps100
    go_wp2
    go_loopw [10] (fun i wr => ∃ k : Nat, k ≤ ss.length ∧ i = .int .i64 k ∧ (ss.take k).all nameB = true ∧ Below w.heap.size w wr) (fun i _ => ss.length - (intOf i).toNat)
    case atStart => exact ⟨0, Nat.zero_le _, rfl, rfl, Below.refl _ _⟩
    case round =>
      obtain ⟨k, hk, rfl, hn, hbe⟩ := hrel
      have HN : Hid ((ss.take k).all nameB = true) := hn; clear hn
      by_cases hlt : k < ss.length
      · obtain ⟨b, o, rfl, hb, hc⟩ := (h.below hbe (Nat.le_refl _)) (by omega)
        have hcx := hc k hlt
        have hsz := hs.at k hlt
        cases hB : nameB ss[k]
        · go_wp2_with fail
          refine (nameOk_any _ _ hsz).mono ?_
          rintro e w1 ⟨rfl, hb1⟩
          rw [hB]
          go_wp2
          go_ret
          exact ⟨ret_bool (names_not ss k hlt hB).symm, hbe.trans (hb1.mono hbe.size)⟩
        · go_wp2_with fail
          refine (nameOk_any _ _ hsz).mono ?_
          rintro e w1 ⟨rfl, hb1⟩
          rw [hB]
          go_wp2
          go_roundw
          case rel => exact ⟨k + 1, by omega, by go_num, names_snoc ss k hlt HN.out hB, hbe.trans (hb1.mono hbe.size)⟩
          case measure => simp [intOf]; omega
      · go_wp2
        go_ret
        refine ⟨ret_bool ?_, hbe⟩
        have hA := HN.out
        rw [sumS_all ss k hlt] at hA
        have : ss.length ≤ 4 := by omega
        simp [pathB, hA, this]
end Go.Proofs.YtfhcniifennfbaaGreatDoor
