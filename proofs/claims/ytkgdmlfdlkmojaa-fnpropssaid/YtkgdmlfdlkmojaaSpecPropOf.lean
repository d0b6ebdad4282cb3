/-
  What spec.PropOf does.
-/
import Derived.Test.YtkgdmlfdlkmojaaProps
import Derived.Test.YtkgdmlfdlkmojaaEqBs
import Derived.Test.YtkgdmlfdlkmojaaSpecSm
namespace Go.Proofs.Ytkgdmlfdlkmojaa
open Go.RowKit M
set_option linter.unusedVariables false

theorem ret_two12 {x y : Value} {u v : Value} (h1 : x = u) (h2 : y = v) : Ending.returned (.tuple #[x, y]) = Ending.returned (.tuple #[u, v]) := by rw [h1, h2]

set_option maxHeartbeats 1000000 in
theorem specPropOf_any (a : Option Addr) (ps : List Pp) (cap B : Nat) (x y : ByteArray) (w : World) (h : Pps w B a ps) (hl : ps.length ≤ maxLen) :
    Calls Try.prog 13 #[.slice a ps.length cap, .string x, .string y] w fun e w' => e = .returned (.tuple #[.string (valP (knowL ps x y)), .bool (knowL ps x y).isSome]) ∧ w' = w := by
  unfold maxLen at hl
  go_enter Try.func13, Try.ntmps13
  go_wp2
  go_loop [8] (fun i => ∃ k : Nat, k ≤ ps.length ∧ i = .int .i64 k ∧ Hid (∀ j (hj : j < ps.length), j < k → isP x y ps[j] = false)) (fun i => ps.length - (intOf i).toNat)
  case atStart => exact ⟨0, Nat.zero_le _, rfl, fun j _ hj => absurd hj (by omega)⟩
  case round =>
    obtain ⟨k, hk, rfl, hn⟩ := hrel
    by_cases hlt : k < ps.length
    · obtain ⟨b, o, rfl, hb, hc⟩ := h (by omega)
      obtain ⟨hcx, hcy, hcz⟩ := hc k hlt
      clear hc
      have HI1 := hide (fun (e1 : ps[k].1 = x) (e2 : ps[k].2.1 = y) => know_at (x := x) (y := y) hlt hn.out (isP_yes (p := ps[k]) e1 e2))
      have HN1 := hide (fun (e1 : ¬ ps[k].1 = x) => isP_no1 (x := x) (y := y) (p := ps[k]) e1)
      have HN2 := hide (fun (e1 : ¬ ps[k].2.1 = y) => isP_no2 (x := x) (y := y) (p := ps[k]) e1)
      by_cases e1 : ps[k].1 = x
      · have q1 := eqBs e1
        by_cases e2 : ps[k].2.1 = y
        · have q2 := eqBs e2
          have HK := hide (HI1.out e1 e2)
          clear e1 e2
          go_wp2
          go_ret2
          rw [HK.out]
          exact ⟨rfl, rfl⟩
        · have q2 := neBs e2
          have HK := hide (HN2.out e2)
          clear e1 e2
          go_wp2
          go_round
          case rel => exact ⟨k + 1, by omega, by go_num, fun j hj hjk => if e : j = k then by subst e; exact HK.out else hn.out j hj (by omega)⟩
          case measure => simp [intOf]; omega
      · have q1 := neBs e1
        have HK := hide (HN1.out e1)
        clear e1
        go_wp2
        go_round
        case rel => exact ⟨k + 1, by omega, by go_num, fun j hj hjk => if e : j = k then by subst e; exact HK.out else hn.out j hj (by omega)⟩
        case measure => simp [intOf]; omega
    · have HK := hide (know_none (x := x) (y := y) (ps := ps) (fun j hj => hn.out j hj (by omega)))
      go_wp2
      go_ret2
      rw [HK.out]
      exact ⟨rfl, rfl⟩
end Go.Proofs.Ytkgdmlfdlkmojaa
